/-
  No cell of these rows narrows 'for every input' (looked for: loops, veiled, ifaces, maps, wideKeys, modest, calm, conditions, laid).
  DERIVED. THE GIVEN ROWS OF THIS SEAT. 10 by the template 'for every input the law returns true; each argument reads behind the call as it read before'; 0 by the template 'total and deterministic' (their statements: YtacoeaoaabjkoaaTotals.lean).
  GIVEN WITH THE SEED: the statements are not yours to turn. If you find one false, say at which input.
  Laid BY PROGRAM, IN A SANDBOX (cutbox-rows.mjs): the forced cells as the released guide's own fill.sh prints them over the translation 760cf0dc152aea2a… (all of the seat's roots in one cut). By AI agents, Wed Nov 11 2026. No macro, syntax, notation, axiom, sorry.
-/
import Derived.Test.YtacoeaoaabjkoaaChecked
import GoSem.Claim
import GoSem.ClaimJoined
import GoSem.ClaimMapViews
import Derived.JoinedTies
import Derived.KernelRfl
namespace Go.Proofs.Ytacoeaoaabjkoaa
/- THE CELL 'sum', in the pinned program and in every row, IS THE sha256 OF THE DUMP (.gsa) THAT YtacoeaoaabjkoaaProg.lean LOADS. Nothing in Lean hashes anything: it is a label: what it is worth is what the hold of that sum in a sandbox is worth. -/
noncomputable def Try.pinned : Pinned := { name := "ytacoeaoaabjkoaa", sum := "760cf0dc152aea2a60253642919b26cdf0bdaeb76d6d1b7f5bc0f6a52be4abb4", checked := Try.checked }
namespace Rows
def none {H : Type} : Left H := { results := [], args := [] }

/-- 'laws.FnTogetherOk': WHATEVER THE INPUT: true; the input reads as it did. -/
def fnTogetherOkSpec : ChangeSpec := { name := "fnTogetherOk", fn := fun _ => fun
  | [d] => { results := [.lit (.bool true)], args := [d] }
  | _ => none }
def fnTogetherOkRow : OpenClaim := { program := "ytacoeaoaabjkoaa", sum := "760cf0dc152aea2a60253642919b26cdf0bdaeb76d6d1b7f5bc0f6a52be4abb4", func := "loop.example/partsandwholes/laws.FnTogetherOk", spec := "fnTogetherOk", unfollowed := true, recurses := true, apart := false }
def FnTogetherOkSaid : Prop := fnTogetherOkRow.holds Try.pinned (OpenSpec.ofChange fnTogetherOkSpec)

/-- ITS FALSE NEIGHBOUR: 'it returns false'. Refute it at one input. -/
def fnTogetherOkWrong : ChangeSpec := { name := "fnTogetherOk", fn := fun _ => fun
  | [d] => { results := [.lit (.bool false)], args := [d] }
  | _ => none }
def FnTogetherOkWrongFalsely : Prop := fnTogetherOkRow.holds Try.pinned (OpenSpec.ofChange fnTogetherOkWrong)

/-- 'laws.FnPiecesOf': WHATEVER THE INPUT: true; the input reads as it did. -/
def fnPiecesOfSpec : ChangeSpec := { name := "fnPiecesOf", fn := fun _ => fun
  | [d] => { results := [.lit (.bool true)], args := [d] }
  | _ => none }
def fnPiecesOfRow : OpenClaim := { program := "ytacoeaoaabjkoaa", sum := "760cf0dc152aea2a60253642919b26cdf0bdaeb76d6d1b7f5bc0f6a52be4abb4", func := "loop.example/partsandwholes/laws.FnPiecesOf", spec := "fnPiecesOf", unfollowed := true, recurses := true, apart := false }
def FnPiecesOfSaid : Prop := fnPiecesOfRow.holds Try.pinned (OpenSpec.ofChange fnPiecesOfSpec)

/-- ITS FALSE NEIGHBOUR: 'it returns false'. Refute it at one input. -/
def fnPiecesOfWrong : ChangeSpec := { name := "fnPiecesOf", fn := fun _ => fun
  | [d] => { results := [.lit (.bool false)], args := [d] }
  | _ => none }
def FnPiecesOfWrongFalsely : Prop := fnPiecesOfRow.holds Try.pinned (OpenSpec.ofChange fnPiecesOfWrong)

/-- 'laws.FnHolesOf': WHATEVER THE INPUT: true; the input reads as it did. -/
def fnHolesOfSpec : ChangeSpec := { name := "fnHolesOf", fn := fun _ => fun
  | [d] => { results := [.lit (.bool true)], args := [d] }
  | _ => none }
def fnHolesOfRow : OpenClaim := { program := "ytacoeaoaabjkoaa", sum := "760cf0dc152aea2a60253642919b26cdf0bdaeb76d6d1b7f5bc0f6a52be4abb4", func := "loop.example/partsandwholes/laws.FnHolesOf", spec := "fnHolesOf", unfollowed := true, recurses := true, apart := false }
def FnHolesOfSaid : Prop := fnHolesOfRow.holds Try.pinned (OpenSpec.ofChange fnHolesOfSpec)

/-- ITS FALSE NEIGHBOUR: 'it returns false'. Refute it at one input. -/
def fnHolesOfWrong : ChangeSpec := { name := "fnHolesOf", fn := fun _ => fun
  | [d] => { results := [.lit (.bool false)], args := [d] }
  | _ => none }
def FnHolesOfWrongFalsely : Prop := fnHolesOfRow.holds Try.pinned (OpenSpec.ofChange fnHolesOfWrong)

/-- 'laws.FnFilledOf': WHATEVER THE INPUT: true; the input reads as it did. -/
def fnFilledOfSpec : ChangeSpec := { name := "fnFilledOf", fn := fun _ => fun
  | [d] => { results := [.lit (.bool true)], args := [d] }
  | _ => none }
def fnFilledOfRow : OpenClaim := { program := "ytacoeaoaabjkoaa", sum := "760cf0dc152aea2a60253642919b26cdf0bdaeb76d6d1b7f5bc0f6a52be4abb4", func := "loop.example/partsandwholes/laws.FnFilledOf", spec := "fnFilledOf", unfollowed := true, recurses := true, apart := false }
def FnFilledOfSaid : Prop := fnFilledOfRow.holds Try.pinned (OpenSpec.ofChange fnFilledOfSpec)

/-- ITS FALSE NEIGHBOUR: 'it returns false'. Refute it at one input. -/
def fnFilledOfWrong : ChangeSpec := { name := "fnFilledOf", fn := fun _ => fun
  | [d] => { results := [.lit (.bool false)], args := [d] }
  | _ => none }
def FnFilledOfWrongFalsely : Prop := fnFilledOfRow.holds Try.pinned (OpenSpec.ofChange fnFilledOfWrong)

/-- 'laws.FnCutAt': WHATEVER THE INPUT: true; the input reads as it did. -/
def fnCutAtSpec : ChangeSpec := { name := "fnCutAt", fn := fun _ => fun
  | [d] => { results := [.lit (.bool true)], args := [d] }
  | _ => none }
def fnCutAtRow : OpenClaim := { program := "ytacoeaoaabjkoaa", sum := "760cf0dc152aea2a60253642919b26cdf0bdaeb76d6d1b7f5bc0f6a52be4abb4", func := "loop.example/partsandwholes/laws.FnCutAt", spec := "fnCutAt", unfollowed := true, recurses := true, apart := false }
def FnCutAtSaid : Prop := fnCutAtRow.holds Try.pinned (OpenSpec.ofChange fnCutAtSpec)

/-- ITS FALSE NEIGHBOUR: 'it returns false'. Refute it at one input. -/
def fnCutAtWrong : ChangeSpec := { name := "fnCutAt", fn := fun _ => fun
  | [d] => { results := [.lit (.bool false)], args := [d] }
  | _ => none }
def FnCutAtWrongFalsely : Prop := fnCutAtRow.holds Try.pinned (OpenSpec.ofChange fnCutAtWrong)

/-- 'laws.FnExactTogetherOk': WHATEVER THE INPUT: true; the input reads as it did. -/
def fnExactTogetherOkSpec : ChangeSpec := { name := "fnExactTogetherOk", fn := fun _ => fun
  | [d1, d2] => { results := [.lit (.bool true)], args := [d1, d2] }
  | _ => none }
def fnExactTogetherOkRow : OpenClaim := { program := "ytacoeaoaabjkoaa", sum := "760cf0dc152aea2a60253642919b26cdf0bdaeb76d6d1b7f5bc0f6a52be4abb4", func := "loop.example/partsandwholes/laws.FnExactTogetherOk", spec := "fnExactTogetherOk", unfollowed := true, recurses := true, apart := false }
def FnExactTogetherOkSaid : Prop := fnExactTogetherOkRow.holds Try.pinned (OpenSpec.ofChange fnExactTogetherOkSpec)

/-- ITS FALSE NEIGHBOUR: 'it returns false'. Refute it at one input. -/
def fnExactTogetherOkWrong : ChangeSpec := { name := "fnExactTogetherOk", fn := fun _ => fun
  | [d1, d2] => { results := [.lit (.bool false)], args := [d1, d2] }
  | _ => none }
def FnExactTogetherOkWrongFalsely : Prop := fnExactTogetherOkRow.holds Try.pinned (OpenSpec.ofChange fnExactTogetherOkWrong)

/-- 'laws.FnExactPiecesOf': WHATEVER THE INPUT: true; the input reads as it did. -/
def fnExactPiecesOfSpec : ChangeSpec := { name := "fnExactPiecesOf", fn := fun _ => fun
  | [d1, d2] => { results := [.lit (.bool true)], args := [d1, d2] }
  | _ => none }
def fnExactPiecesOfRow : OpenClaim := { program := "ytacoeaoaabjkoaa", sum := "760cf0dc152aea2a60253642919b26cdf0bdaeb76d6d1b7f5bc0f6a52be4abb4", func := "loop.example/partsandwholes/laws.FnExactPiecesOf", spec := "fnExactPiecesOf", unfollowed := true, recurses := true, apart := false }
def FnExactPiecesOfSaid : Prop := fnExactPiecesOfRow.holds Try.pinned (OpenSpec.ofChange fnExactPiecesOfSpec)

/-- ITS FALSE NEIGHBOUR: 'it returns false'. Refute it at one input. -/
def fnExactPiecesOfWrong : ChangeSpec := { name := "fnExactPiecesOf", fn := fun _ => fun
  | [d1, d2] => { results := [.lit (.bool false)], args := [d1, d2] }
  | _ => none }
def FnExactPiecesOfWrongFalsely : Prop := fnExactPiecesOfRow.holds Try.pinned (OpenSpec.ofChange fnExactPiecesOfWrong)

/-- 'laws.FnExactHolesOf': WHATEVER THE INPUT: true; the input reads as it did. -/
def fnExactHolesOfSpec : ChangeSpec := { name := "fnExactHolesOf", fn := fun _ => fun
  | [d1, d2] => { results := [.lit (.bool true)], args := [d1, d2] }
  | _ => none }
def fnExactHolesOfRow : OpenClaim := { program := "ytacoeaoaabjkoaa", sum := "760cf0dc152aea2a60253642919b26cdf0bdaeb76d6d1b7f5bc0f6a52be4abb4", func := "loop.example/partsandwholes/laws.FnExactHolesOf", spec := "fnExactHolesOf", unfollowed := true, recurses := true, apart := false }
def FnExactHolesOfSaid : Prop := fnExactHolesOfRow.holds Try.pinned (OpenSpec.ofChange fnExactHolesOfSpec)

/-- ITS FALSE NEIGHBOUR: 'it returns false'. Refute it at one input. -/
def fnExactHolesOfWrong : ChangeSpec := { name := "fnExactHolesOf", fn := fun _ => fun
  | [d1, d2] => { results := [.lit (.bool false)], args := [d1, d2] }
  | _ => none }
def FnExactHolesOfWrongFalsely : Prop := fnExactHolesOfRow.holds Try.pinned (OpenSpec.ofChange fnExactHolesOfWrong)

/-- 'laws.FnExactFilledOf': WHATEVER THE INPUT: true; the input reads as it did. -/
def fnExactFilledOfSpec : ChangeSpec := { name := "fnExactFilledOf", fn := fun _ => fun
  | [d1, d2] => { results := [.lit (.bool true)], args := [d1, d2] }
  | _ => none }
def fnExactFilledOfRow : OpenClaim := { program := "ytacoeaoaabjkoaa", sum := "760cf0dc152aea2a60253642919b26cdf0bdaeb76d6d1b7f5bc0f6a52be4abb4", func := "loop.example/partsandwholes/laws.FnExactFilledOf", spec := "fnExactFilledOf", unfollowed := true, recurses := true, apart := false }
def FnExactFilledOfSaid : Prop := fnExactFilledOfRow.holds Try.pinned (OpenSpec.ofChange fnExactFilledOfSpec)

/-- ITS FALSE NEIGHBOUR: 'it returns false'. Refute it at one input. -/
def fnExactFilledOfWrong : ChangeSpec := { name := "fnExactFilledOf", fn := fun _ => fun
  | [d1, d2] => { results := [.lit (.bool false)], args := [d1, d2] }
  | _ => none }
def FnExactFilledOfWrongFalsely : Prop := fnExactFilledOfRow.holds Try.pinned (OpenSpec.ofChange fnExactFilledOfWrong)

/-- 'laws.FnExactCutAt': WHATEVER THE INPUT: true; the input reads as it did. -/
def fnExactCutAtSpec : ChangeSpec := { name := "fnExactCutAt", fn := fun _ => fun
  | [d1, d2] => { results := [.lit (.bool true)], args := [d1, d2] }
  | _ => none }
def fnExactCutAtRow : OpenClaim := { program := "ytacoeaoaabjkoaa", sum := "760cf0dc152aea2a60253642919b26cdf0bdaeb76d6d1b7f5bc0f6a52be4abb4", func := "loop.example/partsandwholes/laws.FnExactCutAt", spec := "fnExactCutAt", unfollowed := true, recurses := true, apart := false }
def FnExactCutAtSaid : Prop := fnExactCutAtRow.holds Try.pinned (OpenSpec.ofChange fnExactCutAtSpec)

/-- ITS FALSE NEIGHBOUR: 'it returns false'. Refute it at one input. -/
def fnExactCutAtWrong : ChangeSpec := { name := "fnExactCutAt", fn := fun _ => fun
  | [d1, d2] => { results := [.lit (.bool false)], args := [d1, d2] }
  | _ => none }
def FnExactCutAtWrongFalsely : Prop := fnExactCutAtRow.holds Try.pinned (OpenSpec.ofChange fnExactCutAtWrong)

/- THE SECOND FORM. 'bulk': how many values and letters a reading holds, each counted each time it is reached (what is shared counts as often as it is met; a slice's spare places count too). A statement '..UptoSaid' is the law's where the arguments, and the package variables that the reading takes, are together of bulk at most 1048576: NARROWER than '..Said'. Prove '..Said' where nothing that the law and all that it calls make is longer than what came in: it says more and counts as full. Else prove '..UptoSaid'. A law counts once. -/
mutual
def uptoBulk {H : Type} : DataW H → Nat
  | .lit (.string bytes) => bytes.length + 1
  | .lit _ => 1
  | .nil => 1
  | .ptr d => uptoBulk d + 1
  | .slice elems spare => uptoBulkAll elems + uptoBulkAll spare + 1
  | .agg parts => uptoBulkAll parts + 1
  | .iface _ d => uptoBulk d + 1
  | .map entries => uptoBulkEntries entries + 1
  | .held _ => 1
def uptoBulkAll {H : Type} : List (DataW H) → Nat
  | [] => 0
  | d :: r => uptoBulk d + uptoBulkAll r
def uptoBulkEntries {H : Type} : List (Lit × DataW H) → Nat
  | [] => 0
  | x :: r => uptoBulkEntry x + uptoBulkEntries r
def uptoBulkEntry {H : Type} : Lit × DataW H → Nat
  | (.string bytes, d) => bytes.length + uptoBulk d + 1
  | (_, d) => uptoBulk d + 1
 end
def uptoSmall : (H : Type) → List (DataW H) → Bool := fun _ ds => decide (uptoBulkAll ds ≤ 1048576)
def OpenSpec.upto (s : _root_.Go.ChangeSpec) : _root_.Go.OpenSpec := { _root_.Go.OpenSpec.ofChange s with cond := some uptoSmall }

/-- 'laws.FnTogetherOk', WHERE WHAT IT READS IS OF BULK AT MOST 1048576: true; the input reads as it did. -/
def fnTogetherOkUptoRow : OpenClaim := { program := "ytacoeaoaabjkoaa", sum := "760cf0dc152aea2a60253642919b26cdf0bdaeb76d6d1b7f5bc0f6a52be4abb4", func := "loop.example/partsandwholes/laws.FnTogetherOk", spec := "fnTogetherOk", unfollowed := true, recurses := true, apart := false, narrowed := true }
def FnTogetherOkUptoSaid : Prop := fnTogetherOkUptoRow.holds Try.pinned (OpenSpec.upto fnTogetherOkSpec)

/-- 'laws.FnPiecesOf', WHERE WHAT IT READS IS OF BULK AT MOST 1048576: true; the input reads as it did. -/
def fnPiecesOfUptoRow : OpenClaim := { program := "ytacoeaoaabjkoaa", sum := "760cf0dc152aea2a60253642919b26cdf0bdaeb76d6d1b7f5bc0f6a52be4abb4", func := "loop.example/partsandwholes/laws.FnPiecesOf", spec := "fnPiecesOf", unfollowed := true, recurses := true, apart := false, narrowed := true }
def FnPiecesOfUptoSaid : Prop := fnPiecesOfUptoRow.holds Try.pinned (OpenSpec.upto fnPiecesOfSpec)

/-- 'laws.FnHolesOf', WHERE WHAT IT READS IS OF BULK AT MOST 1048576: true; the input reads as it did. -/
def fnHolesOfUptoRow : OpenClaim := { program := "ytacoeaoaabjkoaa", sum := "760cf0dc152aea2a60253642919b26cdf0bdaeb76d6d1b7f5bc0f6a52be4abb4", func := "loop.example/partsandwholes/laws.FnHolesOf", spec := "fnHolesOf", unfollowed := true, recurses := true, apart := false, narrowed := true }
def FnHolesOfUptoSaid : Prop := fnHolesOfUptoRow.holds Try.pinned (OpenSpec.upto fnHolesOfSpec)

/-- 'laws.FnFilledOf', WHERE WHAT IT READS IS OF BULK AT MOST 1048576: true; the input reads as it did. -/
def fnFilledOfUptoRow : OpenClaim := { program := "ytacoeaoaabjkoaa", sum := "760cf0dc152aea2a60253642919b26cdf0bdaeb76d6d1b7f5bc0f6a52be4abb4", func := "loop.example/partsandwholes/laws.FnFilledOf", spec := "fnFilledOf", unfollowed := true, recurses := true, apart := false, narrowed := true }
def FnFilledOfUptoSaid : Prop := fnFilledOfUptoRow.holds Try.pinned (OpenSpec.upto fnFilledOfSpec)

/-- 'laws.FnCutAt', WHERE WHAT IT READS IS OF BULK AT MOST 1048576: true; the input reads as it did. -/
def fnCutAtUptoRow : OpenClaim := { program := "ytacoeaoaabjkoaa", sum := "760cf0dc152aea2a60253642919b26cdf0bdaeb76d6d1b7f5bc0f6a52be4abb4", func := "loop.example/partsandwholes/laws.FnCutAt", spec := "fnCutAt", unfollowed := true, recurses := true, apart := false, narrowed := true }
def FnCutAtUptoSaid : Prop := fnCutAtUptoRow.holds Try.pinned (OpenSpec.upto fnCutAtSpec)

/-- 'laws.FnExactTogetherOk', WHERE WHAT IT READS IS OF BULK AT MOST 1048576: true; the input reads as it did. -/
def fnExactTogetherOkUptoRow : OpenClaim := { program := "ytacoeaoaabjkoaa", sum := "760cf0dc152aea2a60253642919b26cdf0bdaeb76d6d1b7f5bc0f6a52be4abb4", func := "loop.example/partsandwholes/laws.FnExactTogetherOk", spec := "fnExactTogetherOk", unfollowed := true, recurses := true, apart := false, narrowed := true }
def FnExactTogetherOkUptoSaid : Prop := fnExactTogetherOkUptoRow.holds Try.pinned (OpenSpec.upto fnExactTogetherOkSpec)

/-- 'laws.FnExactPiecesOf', WHERE WHAT IT READS IS OF BULK AT MOST 1048576: true; the input reads as it did. -/
def fnExactPiecesOfUptoRow : OpenClaim := { program := "ytacoeaoaabjkoaa", sum := "760cf0dc152aea2a60253642919b26cdf0bdaeb76d6d1b7f5bc0f6a52be4abb4", func := "loop.example/partsandwholes/laws.FnExactPiecesOf", spec := "fnExactPiecesOf", unfollowed := true, recurses := true, apart := false, narrowed := true }
def FnExactPiecesOfUptoSaid : Prop := fnExactPiecesOfUptoRow.holds Try.pinned (OpenSpec.upto fnExactPiecesOfSpec)

/-- 'laws.FnExactHolesOf', WHERE WHAT IT READS IS OF BULK AT MOST 1048576: true; the input reads as it did. -/
def fnExactHolesOfUptoRow : OpenClaim := { program := "ytacoeaoaabjkoaa", sum := "760cf0dc152aea2a60253642919b26cdf0bdaeb76d6d1b7f5bc0f6a52be4abb4", func := "loop.example/partsandwholes/laws.FnExactHolesOf", spec := "fnExactHolesOf", unfollowed := true, recurses := true, apart := false, narrowed := true }
def FnExactHolesOfUptoSaid : Prop := fnExactHolesOfUptoRow.holds Try.pinned (OpenSpec.upto fnExactHolesOfSpec)

/-- 'laws.FnExactFilledOf', WHERE WHAT IT READS IS OF BULK AT MOST 1048576: true; the input reads as it did. -/
def fnExactFilledOfUptoRow : OpenClaim := { program := "ytacoeaoaabjkoaa", sum := "760cf0dc152aea2a60253642919b26cdf0bdaeb76d6d1b7f5bc0f6a52be4abb4", func := "loop.example/partsandwholes/laws.FnExactFilledOf", spec := "fnExactFilledOf", unfollowed := true, recurses := true, apart := false, narrowed := true }
def FnExactFilledOfUptoSaid : Prop := fnExactFilledOfUptoRow.holds Try.pinned (OpenSpec.upto fnExactFilledOfSpec)

/-- 'laws.FnExactCutAt', WHERE WHAT IT READS IS OF BULK AT MOST 1048576: true; the input reads as it did. -/
def fnExactCutAtUptoRow : OpenClaim := { program := "ytacoeaoaabjkoaa", sum := "760cf0dc152aea2a60253642919b26cdf0bdaeb76d6d1b7f5bc0f6a52be4abb4", func := "loop.example/partsandwholes/laws.FnExactCutAt", spec := "fnExactCutAt", unfollowed := true, recurses := true, apart := false, narrowed := true }
def FnExactCutAtUptoSaid : Prop := fnExactCutAtUptoRow.holds Try.pinned (OpenSpec.upto fnExactCutAtSpec)

end Rows
end Go.Proofs.Ytacoeaoaabjkoaa
