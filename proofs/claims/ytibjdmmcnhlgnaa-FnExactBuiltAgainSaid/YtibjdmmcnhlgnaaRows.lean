/-
  No cell of these rows narrows 'for every input' (looked for: loops, veiled, ifaces, maps, wideKeys, modest, calm, conditions, laid).
  DERIVED. THE GIVEN ROWS OF THIS SEAT. 14 by the template 'for every input the law returns true; each argument reads behind the call as it read before'; 0 by the template 'total and deterministic' (their statements: YtibjdmmcnhlgnaaTotals.lean).
  GIVEN WITH THE SEED: the statements are not yours to turn. If you find one false, say at which input.
  Laid BY PROGRAM, IN A SANDBOX (cutbox-rows.mjs): the forced cells as the released guide's own fill.sh prints them over the translation 986eae537966ab23… (all of the seat's roots in one cut). By AI agents, Wed Nov 11 2026. No macro, syntax, notation, axiom, sorry.
-/
import Derived.Test.YtibjdmmcnhlgnaaChecked
import GoSem.Claim
import GoSem.ClaimJoined
import GoSem.ClaimMapViews
import Derived.JoinedTies
import Derived.KernelRfl
namespace Go.Proofs.Ytibjdmmcnhlgnaa
/- THE CELL 'sum', in the pinned program and in every row, IS THE sha256 OF THE DUMP (.gsa) THAT YtibjdmmcnhlgnaaProg.lean LOADS. Nothing in Lean hashes anything: it is a label: what it is worth is what the hold of that sum in a sandbox is worth. -/
noncomputable def Try.pinned : Pinned := { name := "ytibjdmmcnhlgnaa", sum := "986eae537966ab23ef39a200ff2b382362e8f13c629a7ddfeec2eb7b339871ca", checked := Try.checked }
namespace Rows
def none {H : Type} : Left H := { results := [], args := [] }

/-- 'laws.FnShipOk': WHATEVER THE INPUT: true; the input reads as it did. -/
def fnShipOkSpec : ChangeSpec := { name := "fnShipOk", fn := fun _ => fun
  | [d] => { results := [.lit (.bool true)], args := [d] }
  | _ => none }
def fnShipOkRow : OpenClaim := { program := "ytibjdmmcnhlgnaa", sum := "986eae537966ab23ef39a200ff2b382362e8f13c629a7ddfeec2eb7b339871ca", func := "loop.example/partsandwholes/laws.FnShipOk", spec := "fnShipOk", apart := false }
def FnShipOkSaid : Prop := fnShipOkRow.holds Try.pinned (OpenSpec.ofChange fnShipOkSpec)

/-- ITS FALSE NEIGHBOUR: 'it returns false'. Refute it at one input. -/
def fnShipOkWrong : ChangeSpec := { name := "fnShipOk", fn := fun _ => fun
  | [d] => { results := [.lit (.bool false)], args := [d] }
  | _ => none }
def FnShipOkWrongFalsely : Prop := fnShipOkRow.holds Try.pinned (OpenSpec.ofChange fnShipOkWrong)

/-- 'laws.FnCommonIn': WHATEVER THE INPUT: true; the input reads as it did. -/
def fnCommonInSpec : ChangeSpec := { name := "fnCommonIn", fn := fun _ => fun
  | [d] => { results := [.lit (.bool true)], args := [d] }
  | _ => none }
def fnCommonInRow : OpenClaim := { program := "ytibjdmmcnhlgnaa", sum := "986eae537966ab23ef39a200ff2b382362e8f13c629a7ddfeec2eb7b339871ca", func := "loop.example/partsandwholes/laws.FnCommonIn", spec := "fnCommonIn", apart := false }
def FnCommonInSaid : Prop := fnCommonInRow.holds Try.pinned (OpenSpec.ofChange fnCommonInSpec)

/-- ITS FALSE NEIGHBOUR: 'it returns false'. Refute it at one input. -/
def fnCommonInWrong : ChangeSpec := { name := "fnCommonIn", fn := fun _ => fun
  | [d] => { results := [.lit (.bool false)], args := [d] }
  | _ => none }
def FnCommonInWrongFalsely : Prop := fnCommonInRow.holds Try.pinned (OpenSpec.ofChange fnCommonInWrong)

/-- 'laws.FnMostlyOk': WHATEVER THE INPUT: true; the input reads as it did. -/
def fnMostlyOkSpec : ChangeSpec := { name := "fnMostlyOk", fn := fun _ => fun
  | [d1, d2] => { results := [.lit (.bool true)], args := [d1, d2] }
  | _ => none }
def fnMostlyOkRow : OpenClaim := { program := "ytibjdmmcnhlgnaa", sum := "986eae537966ab23ef39a200ff2b382362e8f13c629a7ddfeec2eb7b339871ca", func := "loop.example/partsandwholes/laws.FnMostlyOk", spec := "fnMostlyOk", apart := false }
def FnMostlyOkSaid : Prop := fnMostlyOkRow.holds Try.pinned (OpenSpec.ofChange fnMostlyOkSpec)

/-- ITS FALSE NEIGHBOUR: 'it returns false'. Refute it at one input. -/
def fnMostlyOkWrong : ChangeSpec := { name := "fnMostlyOk", fn := fun _ => fun
  | [d1, d2] => { results := [.lit (.bool false)], args := [d1, d2] }
  | _ => none }
def FnMostlyOkWrongFalsely : Prop := fnMostlyOkRow.holds Try.pinned (OpenSpec.ofChange fnMostlyOkWrong)

/-- 'laws.FnChangedOf': WHATEVER THE INPUT: true; the input reads as it did. -/
def fnChangedOfSpec : ChangeSpec := { name := "fnChangedOf", fn := fun _ => fun
  | [d] => { results := [.lit (.bool true)], args := [d] }
  | _ => none }
def fnChangedOfRow : OpenClaim := { program := "ytibjdmmcnhlgnaa", sum := "986eae537966ab23ef39a200ff2b382362e8f13c629a7ddfeec2eb7b339871ca", func := "loop.example/partsandwholes/laws.FnChangedOf", spec := "fnChangedOf", apart := false }
def FnChangedOfSaid : Prop := fnChangedOfRow.holds Try.pinned (OpenSpec.ofChange fnChangedOfSpec)

/-- ITS FALSE NEIGHBOUR: 'it returns false'. Refute it at one input. -/
def fnChangedOfWrong : ChangeSpec := { name := "fnChangedOf", fn := fun _ => fun
  | [d] => { results := [.lit (.bool false)], args := [d] }
  | _ => none }
def FnChangedOfWrongFalsely : Prop := fnChangedOfRow.holds Try.pinned (OpenSpec.ofChange fnChangedOfWrong)

/-- 'laws.FnStoryOf': WHATEVER THE INPUT: true; the input reads as it did. -/
def fnStoryOfSpec : ChangeSpec := { name := "fnStoryOf", fn := fun _ => fun
  | [d] => { results := [.lit (.bool true)], args := [d] }
  | _ => none }
def fnStoryOfRow : OpenClaim := { program := "ytibjdmmcnhlgnaa", sum := "986eae537966ab23ef39a200ff2b382362e8f13c629a7ddfeec2eb7b339871ca", func := "loop.example/partsandwholes/laws.FnStoryOf", spec := "fnStoryOf", unfollowed := true, recurses := true, apart := false }
def FnStoryOfSaid : Prop := fnStoryOfRow.holds Try.pinned (OpenSpec.ofChange fnStoryOfSpec)

/-- ITS FALSE NEIGHBOUR: 'it returns false'. Refute it at one input. -/
def fnStoryOfWrong : ChangeSpec := { name := "fnStoryOf", fn := fun _ => fun
  | [d] => { results := [.lit (.bool false)], args := [d] }
  | _ => none }
def FnStoryOfWrongFalsely : Prop := fnStoryOfRow.holds Try.pinned (OpenSpec.ofChange fnStoryOfWrong)

/-- 'laws.FnTakenOut': WHATEVER THE INPUT: true; the input reads as it did. -/
def fnTakenOutSpec : ChangeSpec := { name := "fnTakenOut", fn := fun _ => fun
  | [d] => { results := [.lit (.bool true)], args := [d] }
  | _ => none }
def fnTakenOutRow : OpenClaim := { program := "ytibjdmmcnhlgnaa", sum := "986eae537966ab23ef39a200ff2b382362e8f13c629a7ddfeec2eb7b339871ca", func := "loop.example/partsandwholes/laws.FnTakenOut", spec := "fnTakenOut", unfollowed := true, recurses := true, apart := false }
def FnTakenOutSaid : Prop := fnTakenOutRow.holds Try.pinned (OpenSpec.ofChange fnTakenOutSpec)

/-- ITS FALSE NEIGHBOUR: 'it returns false'. Refute it at one input. -/
def fnTakenOutWrong : ChangeSpec := { name := "fnTakenOut", fn := fun _ => fun
  | [d] => { results := [.lit (.bool false)], args := [d] }
  | _ => none }
def FnTakenOutWrongFalsely : Prop := fnTakenOutRow.holds Try.pinned (OpenSpec.ofChange fnTakenOutWrong)

/-- 'laws.FnBuiltAgain': WHATEVER THE INPUT: true; the input reads as it did. -/
def fnBuiltAgainSpec : ChangeSpec := { name := "fnBuiltAgain", fn := fun _ => fun
  | [d] => { results := [.lit (.bool true)], args := [d] }
  | _ => none }
def fnBuiltAgainRow : OpenClaim := { program := "ytibjdmmcnhlgnaa", sum := "986eae537966ab23ef39a200ff2b382362e8f13c629a7ddfeec2eb7b339871ca", func := "loop.example/partsandwholes/laws.FnBuiltAgain", spec := "fnBuiltAgain", unfollowed := true, recurses := true, apart := false }
def FnBuiltAgainSaid : Prop := fnBuiltAgainRow.holds Try.pinned (OpenSpec.ofChange fnBuiltAgainSpec)

/-- ITS FALSE NEIGHBOUR: 'it returns false'. Refute it at one input. -/
def fnBuiltAgainWrong : ChangeSpec := { name := "fnBuiltAgain", fn := fun _ => fun
  | [d] => { results := [.lit (.bool false)], args := [d] }
  | _ => none }
def FnBuiltAgainWrongFalsely : Prop := fnBuiltAgainRow.holds Try.pinned (OpenSpec.ofChange fnBuiltAgainWrong)

/-- 'laws.FnExactShipOk': WHATEVER THE INPUT: true; the input reads as it did. -/
def fnExactShipOkSpec : ChangeSpec := { name := "fnExactShipOk", fn := fun _ => fun
  | [d] => { results := [.lit (.bool true)], args := [d] }
  | _ => none }
def fnExactShipOkRow : OpenClaim := { program := "ytibjdmmcnhlgnaa", sum := "986eae537966ab23ef39a200ff2b382362e8f13c629a7ddfeec2eb7b339871ca", func := "loop.example/partsandwholes/laws.FnExactShipOk", spec := "fnExactShipOk", apart := false }
def FnExactShipOkSaid : Prop := fnExactShipOkRow.holds Try.pinned (OpenSpec.ofChange fnExactShipOkSpec)

/-- ITS FALSE NEIGHBOUR: 'it returns false'. Refute it at one input. -/
def fnExactShipOkWrong : ChangeSpec := { name := "fnExactShipOk", fn := fun _ => fun
  | [d] => { results := [.lit (.bool false)], args := [d] }
  | _ => none }
def FnExactShipOkWrongFalsely : Prop := fnExactShipOkRow.holds Try.pinned (OpenSpec.ofChange fnExactShipOkWrong)

/-- 'laws.FnExactCommonIn': WHATEVER THE INPUT: true; the input reads as it did. -/
def fnExactCommonInSpec : ChangeSpec := { name := "fnExactCommonIn", fn := fun _ => fun
  | [d1, d2] => { results := [.lit (.bool true)], args := [d1, d2] }
  | _ => none }
def fnExactCommonInRow : OpenClaim := { program := "ytibjdmmcnhlgnaa", sum := "986eae537966ab23ef39a200ff2b382362e8f13c629a7ddfeec2eb7b339871ca", func := "loop.example/partsandwholes/laws.FnExactCommonIn", spec := "fnExactCommonIn", apart := false }
def FnExactCommonInSaid : Prop := fnExactCommonInRow.holds Try.pinned (OpenSpec.ofChange fnExactCommonInSpec)

/-- ITS FALSE NEIGHBOUR: 'it returns false'. Refute it at one input. -/
def fnExactCommonInWrong : ChangeSpec := { name := "fnExactCommonIn", fn := fun _ => fun
  | [d1, d2] => { results := [.lit (.bool false)], args := [d1, d2] }
  | _ => none }
def FnExactCommonInWrongFalsely : Prop := fnExactCommonInRow.holds Try.pinned (OpenSpec.ofChange fnExactCommonInWrong)

/-- 'laws.FnExactMostlyOk': WHATEVER THE INPUT: true; the input reads as it did. -/
def fnExactMostlyOkSpec : ChangeSpec := { name := "fnExactMostlyOk", fn := fun _ => fun
  | [d1, d2, d3] => { results := [.lit (.bool true)], args := [d1, d2, d3] }
  | _ => none }
def fnExactMostlyOkRow : OpenClaim := { program := "ytibjdmmcnhlgnaa", sum := "986eae537966ab23ef39a200ff2b382362e8f13c629a7ddfeec2eb7b339871ca", func := "loop.example/partsandwholes/laws.FnExactMostlyOk", spec := "fnExactMostlyOk", apart := false }
def FnExactMostlyOkSaid : Prop := fnExactMostlyOkRow.holds Try.pinned (OpenSpec.ofChange fnExactMostlyOkSpec)

/-- ITS FALSE NEIGHBOUR: 'it returns false'. Refute it at one input. -/
def fnExactMostlyOkWrong : ChangeSpec := { name := "fnExactMostlyOk", fn := fun _ => fun
  | [d1, d2, d3] => { results := [.lit (.bool false)], args := [d1, d2, d3] }
  | _ => none }
def FnExactMostlyOkWrongFalsely : Prop := fnExactMostlyOkRow.holds Try.pinned (OpenSpec.ofChange fnExactMostlyOkWrong)

/-- 'laws.FnExactChangedOf': WHATEVER THE INPUT: true; the input reads as it did. -/
def fnExactChangedOfSpec : ChangeSpec := { name := "fnExactChangedOf", fn := fun _ => fun
  | [d1, d2] => { results := [.lit (.bool true)], args := [d1, d2] }
  | _ => none }
def fnExactChangedOfRow : OpenClaim := { program := "ytibjdmmcnhlgnaa", sum := "986eae537966ab23ef39a200ff2b382362e8f13c629a7ddfeec2eb7b339871ca", func := "loop.example/partsandwholes/laws.FnExactChangedOf", spec := "fnExactChangedOf", apart := false }
def FnExactChangedOfSaid : Prop := fnExactChangedOfRow.holds Try.pinned (OpenSpec.ofChange fnExactChangedOfSpec)

/-- ITS FALSE NEIGHBOUR: 'it returns false'. Refute it at one input. -/
def fnExactChangedOfWrong : ChangeSpec := { name := "fnExactChangedOf", fn := fun _ => fun
  | [d1, d2] => { results := [.lit (.bool false)], args := [d1, d2] }
  | _ => none }
def FnExactChangedOfWrongFalsely : Prop := fnExactChangedOfRow.holds Try.pinned (OpenSpec.ofChange fnExactChangedOfWrong)

/-- 'laws.FnExactStoryOf': WHATEVER THE INPUT: true; the input reads as it did. -/
def fnExactStoryOfSpec : ChangeSpec := { name := "fnExactStoryOf", fn := fun _ => fun
  | [d1, d2] => { results := [.lit (.bool true)], args := [d1, d2] }
  | _ => none }
def fnExactStoryOfRow : OpenClaim := { program := "ytibjdmmcnhlgnaa", sum := "986eae537966ab23ef39a200ff2b382362e8f13c629a7ddfeec2eb7b339871ca", func := "loop.example/partsandwholes/laws.FnExactStoryOf", spec := "fnExactStoryOf", unfollowed := true, recurses := true, apart := false }
def FnExactStoryOfSaid : Prop := fnExactStoryOfRow.holds Try.pinned (OpenSpec.ofChange fnExactStoryOfSpec)

/-- ITS FALSE NEIGHBOUR: 'it returns false'. Refute it at one input. -/
def fnExactStoryOfWrong : ChangeSpec := { name := "fnExactStoryOf", fn := fun _ => fun
  | [d1, d2] => { results := [.lit (.bool false)], args := [d1, d2] }
  | _ => none }
def FnExactStoryOfWrongFalsely : Prop := fnExactStoryOfRow.holds Try.pinned (OpenSpec.ofChange fnExactStoryOfWrong)

/-- 'laws.FnExactTakenOut': WHATEVER THE INPUT: true; the input reads as it did. -/
def fnExactTakenOutSpec : ChangeSpec := { name := "fnExactTakenOut", fn := fun _ => fun
  | [d1, d2] => { results := [.lit (.bool true)], args := [d1, d2] }
  | _ => none }
def fnExactTakenOutRow : OpenClaim := { program := "ytibjdmmcnhlgnaa", sum := "986eae537966ab23ef39a200ff2b382362e8f13c629a7ddfeec2eb7b339871ca", func := "loop.example/partsandwholes/laws.FnExactTakenOut", spec := "fnExactTakenOut", unfollowed := true, recurses := true, apart := false }
def FnExactTakenOutSaid : Prop := fnExactTakenOutRow.holds Try.pinned (OpenSpec.ofChange fnExactTakenOutSpec)

/-- ITS FALSE NEIGHBOUR: 'it returns false'. Refute it at one input. -/
def fnExactTakenOutWrong : ChangeSpec := { name := "fnExactTakenOut", fn := fun _ => fun
  | [d1, d2] => { results := [.lit (.bool false)], args := [d1, d2] }
  | _ => none }
def FnExactTakenOutWrongFalsely : Prop := fnExactTakenOutRow.holds Try.pinned (OpenSpec.ofChange fnExactTakenOutWrong)

/-- 'laws.FnExactBuiltAgain': WHATEVER THE INPUT: true; the input reads as it did. -/
def fnExactBuiltAgainSpec : ChangeSpec := { name := "fnExactBuiltAgain", fn := fun _ => fun
  | [d1, d2] => { results := [.lit (.bool true)], args := [d1, d2] }
  | _ => none }
def fnExactBuiltAgainRow : OpenClaim := { program := "ytibjdmmcnhlgnaa", sum := "986eae537966ab23ef39a200ff2b382362e8f13c629a7ddfeec2eb7b339871ca", func := "loop.example/partsandwholes/laws.FnExactBuiltAgain", spec := "fnExactBuiltAgain", unfollowed := true, recurses := true, apart := false }
def FnExactBuiltAgainSaid : Prop := fnExactBuiltAgainRow.holds Try.pinned (OpenSpec.ofChange fnExactBuiltAgainSpec)

/-- ITS FALSE NEIGHBOUR: 'it returns false'. Refute it at one input. -/
def fnExactBuiltAgainWrong : ChangeSpec := { name := "fnExactBuiltAgain", fn := fun _ => fun
  | [d1, d2] => { results := [.lit (.bool false)], args := [d1, d2] }
  | _ => none }
def FnExactBuiltAgainWrongFalsely : Prop := fnExactBuiltAgainRow.holds Try.pinned (OpenSpec.ofChange fnExactBuiltAgainWrong)

/- THE SECOND FORM. 'bulk': how many values and letters a reading holds, each counted each time it is reached (what is shared counts as often as it is met; a slice's spare places count too). A statement '..UptoSaid' is the law's where the arguments, and the package variables that the reading takes, are together of bulk at most 1048576: NARROWER than '..Said'. Prove '..Said' where nothing that the law and all that it calls make is longer than what came in: it says more and counts as full. Else prove '..UptoSaid'. A law counts once. -/
mutual
def uptoBulk {H : Type} : DataW H → Nat
  | .lit (.string bytes) => bytes.length + 1
  | .lit _ => 1
  | .nil => 1
  | .ptr d => uptoBulk d + 1
  | .slice elems spare => uptoBulkAll elems + uptoBulkAll spare + 1
  | .agg parts => uptoBulkAll parts + 1
  | .iface _ d => uptoBulk d + 1
  | .map entries => uptoBulkEntries entries + 1
  | .held _ => 1
def uptoBulkAll {H : Type} : List (DataW H) → Nat
  | [] => 0
  | d :: r => uptoBulk d + uptoBulkAll r
def uptoBulkEntries {H : Type} : List (Lit × DataW H) → Nat
  | [] => 0
  | x :: r => uptoBulkEntry x + uptoBulkEntries r
def uptoBulkEntry {H : Type} : Lit × DataW H → Nat
  | (.string bytes, d) => bytes.length + uptoBulk d + 1
  | (_, d) => uptoBulk d + 1
 end
def uptoSmall : (H : Type) → List (DataW H) → Bool := fun _ ds => decide (uptoBulkAll ds ≤ 1048576)
def OpenSpec.upto (s : _root_.Go.ChangeSpec) : _root_.Go.OpenSpec := { _root_.Go.OpenSpec.ofChange s with cond := some uptoSmall }

/-- 'laws.FnShipOk', WHERE WHAT IT READS IS OF BULK AT MOST 1048576: true; the input reads as it did. -/
def fnShipOkUptoRow : OpenClaim := { program := "ytibjdmmcnhlgnaa", sum := "986eae537966ab23ef39a200ff2b382362e8f13c629a7ddfeec2eb7b339871ca", func := "loop.example/partsandwholes/laws.FnShipOk", spec := "fnShipOk", apart := false, narrowed := true }
def FnShipOkUptoSaid : Prop := fnShipOkUptoRow.holds Try.pinned (OpenSpec.upto fnShipOkSpec)

/-- 'laws.FnCommonIn', WHERE WHAT IT READS IS OF BULK AT MOST 1048576: true; the input reads as it did. -/
def fnCommonInUptoRow : OpenClaim := { program := "ytibjdmmcnhlgnaa", sum := "986eae537966ab23ef39a200ff2b382362e8f13c629a7ddfeec2eb7b339871ca", func := "loop.example/partsandwholes/laws.FnCommonIn", spec := "fnCommonIn", apart := false, narrowed := true }
def FnCommonInUptoSaid : Prop := fnCommonInUptoRow.holds Try.pinned (OpenSpec.upto fnCommonInSpec)

/-- 'laws.FnMostlyOk', WHERE WHAT IT READS IS OF BULK AT MOST 1048576: true; the input reads as it did. -/
def fnMostlyOkUptoRow : OpenClaim := { program := "ytibjdmmcnhlgnaa", sum := "986eae537966ab23ef39a200ff2b382362e8f13c629a7ddfeec2eb7b339871ca", func := "loop.example/partsandwholes/laws.FnMostlyOk", spec := "fnMostlyOk", apart := false, narrowed := true }
def FnMostlyOkUptoSaid : Prop := fnMostlyOkUptoRow.holds Try.pinned (OpenSpec.upto fnMostlyOkSpec)

/-- 'laws.FnChangedOf', WHERE WHAT IT READS IS OF BULK AT MOST 1048576: true; the input reads as it did. -/
def fnChangedOfUptoRow : OpenClaim := { program := "ytibjdmmcnhlgnaa", sum := "986eae537966ab23ef39a200ff2b382362e8f13c629a7ddfeec2eb7b339871ca", func := "loop.example/partsandwholes/laws.FnChangedOf", spec := "fnChangedOf", apart := false, narrowed := true }
def FnChangedOfUptoSaid : Prop := fnChangedOfUptoRow.holds Try.pinned (OpenSpec.upto fnChangedOfSpec)

/-- 'laws.FnStoryOf', WHERE WHAT IT READS IS OF BULK AT MOST 1048576: true; the input reads as it did. -/
def fnStoryOfUptoRow : OpenClaim := { program := "ytibjdmmcnhlgnaa", sum := "986eae537966ab23ef39a200ff2b382362e8f13c629a7ddfeec2eb7b339871ca", func := "loop.example/partsandwholes/laws.FnStoryOf", spec := "fnStoryOf", unfollowed := true, recurses := true, apart := false, narrowed := true }
def FnStoryOfUptoSaid : Prop := fnStoryOfUptoRow.holds Try.pinned (OpenSpec.upto fnStoryOfSpec)

/-- 'laws.FnTakenOut', WHERE WHAT IT READS IS OF BULK AT MOST 1048576: true; the input reads as it did. -/
def fnTakenOutUptoRow : OpenClaim := { program := "ytibjdmmcnhlgnaa", sum := "986eae537966ab23ef39a200ff2b382362e8f13c629a7ddfeec2eb7b339871ca", func := "loop.example/partsandwholes/laws.FnTakenOut", spec := "fnTakenOut", unfollowed := true, recurses := true, apart := false, narrowed := true }
def FnTakenOutUptoSaid : Prop := fnTakenOutUptoRow.holds Try.pinned (OpenSpec.upto fnTakenOutSpec)

/-- 'laws.FnBuiltAgain', WHERE WHAT IT READS IS OF BULK AT MOST 1048576: true; the input reads as it did. -/
def fnBuiltAgainUptoRow : OpenClaim := { program := "ytibjdmmcnhlgnaa", sum := "986eae537966ab23ef39a200ff2b382362e8f13c629a7ddfeec2eb7b339871ca", func := "loop.example/partsandwholes/laws.FnBuiltAgain", spec := "fnBuiltAgain", unfollowed := true, recurses := true, apart := false, narrowed := true }
def FnBuiltAgainUptoSaid : Prop := fnBuiltAgainUptoRow.holds Try.pinned (OpenSpec.upto fnBuiltAgainSpec)

/-- 'laws.FnExactShipOk', WHERE WHAT IT READS IS OF BULK AT MOST 1048576: true; the input reads as it did. -/
def fnExactShipOkUptoRow : OpenClaim := { program := "ytibjdmmcnhlgnaa", sum := "986eae537966ab23ef39a200ff2b382362e8f13c629a7ddfeec2eb7b339871ca", func := "loop.example/partsandwholes/laws.FnExactShipOk", spec := "fnExactShipOk", apart := false, narrowed := true }
def FnExactShipOkUptoSaid : Prop := fnExactShipOkUptoRow.holds Try.pinned (OpenSpec.upto fnExactShipOkSpec)

/-- 'laws.FnExactCommonIn', WHERE WHAT IT READS IS OF BULK AT MOST 1048576: true; the input reads as it did. -/
def fnExactCommonInUptoRow : OpenClaim := { program := "ytibjdmmcnhlgnaa", sum := "986eae537966ab23ef39a200ff2b382362e8f13c629a7ddfeec2eb7b339871ca", func := "loop.example/partsandwholes/laws.FnExactCommonIn", spec := "fnExactCommonIn", apart := false, narrowed := true }
def FnExactCommonInUptoSaid : Prop := fnExactCommonInUptoRow.holds Try.pinned (OpenSpec.upto fnExactCommonInSpec)

/-- 'laws.FnExactMostlyOk', WHERE WHAT IT READS IS OF BULK AT MOST 1048576: true; the input reads as it did. -/
def fnExactMostlyOkUptoRow : OpenClaim := { program := "ytibjdmmcnhlgnaa", sum := "986eae537966ab23ef39a200ff2b382362e8f13c629a7ddfeec2eb7b339871ca", func := "loop.example/partsandwholes/laws.FnExactMostlyOk", spec := "fnExactMostlyOk", apart := false, narrowed := true }
def FnExactMostlyOkUptoSaid : Prop := fnExactMostlyOkUptoRow.holds Try.pinned (OpenSpec.upto fnExactMostlyOkSpec)

/-- 'laws.FnExactChangedOf', WHERE WHAT IT READS IS OF BULK AT MOST 1048576: true; the input reads as it did. -/
def fnExactChangedOfUptoRow : OpenClaim := { program := "ytibjdmmcnhlgnaa", sum := "986eae537966ab23ef39a200ff2b382362e8f13c629a7ddfeec2eb7b339871ca", func := "loop.example/partsandwholes/laws.FnExactChangedOf", spec := "fnExactChangedOf", apart := false, narrowed := true }
def FnExactChangedOfUptoSaid : Prop := fnExactChangedOfUptoRow.holds Try.pinned (OpenSpec.upto fnExactChangedOfSpec)

/-- 'laws.FnExactStoryOf', WHERE WHAT IT READS IS OF BULK AT MOST 1048576: true; the input reads as it did. -/
def fnExactStoryOfUptoRow : OpenClaim := { program := "ytibjdmmcnhlgnaa", sum := "986eae537966ab23ef39a200ff2b382362e8f13c629a7ddfeec2eb7b339871ca", func := "loop.example/partsandwholes/laws.FnExactStoryOf", spec := "fnExactStoryOf", unfollowed := true, recurses := true, apart := false, narrowed := true }
def FnExactStoryOfUptoSaid : Prop := fnExactStoryOfUptoRow.holds Try.pinned (OpenSpec.upto fnExactStoryOfSpec)

/-- 'laws.FnExactTakenOut', WHERE WHAT IT READS IS OF BULK AT MOST 1048576: true; the input reads as it did. -/
def fnExactTakenOutUptoRow : OpenClaim := { program := "ytibjdmmcnhlgnaa", sum := "986eae537966ab23ef39a200ff2b382362e8f13c629a7ddfeec2eb7b339871ca", func := "loop.example/partsandwholes/laws.FnExactTakenOut", spec := "fnExactTakenOut", unfollowed := true, recurses := true, apart := false, narrowed := true }
def FnExactTakenOutUptoSaid : Prop := fnExactTakenOutUptoRow.holds Try.pinned (OpenSpec.upto fnExactTakenOutSpec)

/-- 'laws.FnExactBuiltAgain', WHERE WHAT IT READS IS OF BULK AT MOST 1048576: true; the input reads as it did. -/
def fnExactBuiltAgainUptoRow : OpenClaim := { program := "ytibjdmmcnhlgnaa", sum := "986eae537966ab23ef39a200ff2b382362e8f13c629a7ddfeec2eb7b339871ca", func := "loop.example/partsandwholes/laws.FnExactBuiltAgain", spec := "fnExactBuiltAgain", unfollowed := true, recurses := true, apart := false, narrowed := true }
def FnExactBuiltAgainUptoSaid : Prop := fnExactBuiltAgainUptoRow.holds Try.pinned (OpenSpec.upto fnExactBuiltAgainSpec)

end Rows
end Go.Proofs.Ytibjdmmcnhlgnaa
