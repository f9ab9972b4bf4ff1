/-
  No cell of these rows narrows 'for every input' (looked for: loops, veiled, ifaces, maps, wideKeys, modest, calm, conditions, laid).
  DERIVED. THE GIVEN ROWS OF THIS SEAT. 14 by the template 'for every input the law returns true; each argument reads behind the call as it read before'; 0 by the template 'total and deterministic' (their statements: YtdbmgejjpafhoaaTotals.lean).
  GIVEN WITH THE SEED: the statements are not yours to turn. If you find one false, say at which input.
  Laid BY PROGRAM, IN A SANDBOX (cutbox-rows.mjs): the forced cells as the released guide's own fill.sh prints them over the translation 73a7e76791403ddc… (all of the seat's roots in one cut). By AI agents, Wed Nov 11 2026. No macro, syntax, notation, axiom, sorry.
-/
import Derived.Test.YtdbmgejjpafhoaaChecked
import GoSem.Claim
import GoSem.ClaimJoined
import GoSem.ClaimMapViews
import Derived.JoinedTies
import Derived.KernelRfl
namespace Go.Proofs.Ytdbmgejjpafhoaa
/- THE CELL 'sum', in the pinned program and in every row, IS THE sha256 OF THE DUMP (.gsa) THAT YtdbmgejjpafhoaaProg.lean LOADS. Nothing in Lean hashes anything: it is a label: what it is worth is what the hold of that sum in a sandbox is worth. -/
noncomputable def Try.pinned : Pinned := { name := "ytdbmgejjpafhoaa", sum := "73a7e76791403ddc8cb7d7d0a04497f834f8b3b90fb69099df315a0a5ddc4fce", checked := Try.checked }
namespace Rows
def none {H : Type} : Left H := { results := [], args := [] }

/-- 'laws.FnWorldOk': WHATEVER THE INPUT: true; the input reads as it did. -/
def fnWorldOkSpec : ChangeSpec := { name := "fnWorldOk", fn := fun _ => fun
  | [d] => { results := [.lit (.bool true)], args := [d] }
  | _ => none }
def fnWorldOkRow : OpenClaim := { program := "ytdbmgejjpafhoaa", sum := "73a7e76791403ddc8cb7d7d0a04497f834f8b3b90fb69099df315a0a5ddc4fce", func := "loop.example/partsandwholes/laws.FnWorldOk", spec := "fnWorldOk", apart := false }
def FnWorldOkSaid : Prop := fnWorldOkRow.holds Try.pinned (OpenSpec.ofChange fnWorldOkSpec)

/-- ITS FALSE NEIGHBOUR: 'it returns false'. Refute it at one input. -/
def fnWorldOkWrong : ChangeSpec := { name := "fnWorldOk", fn := fun _ => fun
  | [d] => { results := [.lit (.bool false)], args := [d] }
  | _ => none }
def FnWorldOkWrongFalsely : Prop := fnWorldOkRow.holds Try.pinned (OpenSpec.ofChange fnWorldOkWrong)

/-- 'laws.FnPartOk': WHATEVER THE INPUT: true; the input reads as it did. -/
def fnPartOkSpec : ChangeSpec := { name := "fnPartOk", fn := fun _ => fun
  | [d] => { results := [.lit (.bool true)], args := [d] }
  | _ => none }
def fnPartOkRow : OpenClaim := { program := "ytdbmgejjpafhoaa", sum := "73a7e76791403ddc8cb7d7d0a04497f834f8b3b90fb69099df315a0a5ddc4fce", func := "loop.example/partsandwholes/laws.FnPartOk", spec := "fnPartOk", apart := false }
def FnPartOkSaid : Prop := fnPartOkRow.holds Try.pinned (OpenSpec.ofChange fnPartOkSpec)

/-- ITS FALSE NEIGHBOUR: 'it returns false'. Refute it at one input. -/
def fnPartOkWrong : ChangeSpec := { name := "fnPartOk", fn := fun _ => fun
  | [d] => { results := [.lit (.bool false)], args := [d] }
  | _ => none }
def FnPartOkWrongFalsely : Prop := fnPartOkRow.holds Try.pinned (OpenSpec.ofChange fnPartOkWrong)

/-- 'laws.FnProperOk': WHATEVER THE INPUT: true; the input reads as it did. -/
def fnProperOkSpec : ChangeSpec := { name := "fnProperOk", fn := fun _ => fun
  | [d] => { results := [.lit (.bool true)], args := [d] }
  | _ => none }
def fnProperOkRow : OpenClaim := { program := "ytdbmgejjpafhoaa", sum := "73a7e76791403ddc8cb7d7d0a04497f834f8b3b90fb69099df315a0a5ddc4fce", func := "loop.example/partsandwholes/laws.FnProperOk", spec := "fnProperOk", apart := false }
def FnProperOkSaid : Prop := fnProperOkRow.holds Try.pinned (OpenSpec.ofChange fnProperOkSpec)

/-- ITS FALSE NEIGHBOUR: 'it returns false'. Refute it at one input. -/
def fnProperOkWrong : ChangeSpec := { name := "fnProperOk", fn := fun _ => fun
  | [d] => { results := [.lit (.bool false)], args := [d] }
  | _ => none }
def FnProperOkWrongFalsely : Prop := fnProperOkRow.holds Try.pinned (OpenSpec.ofChange fnProperOkWrong)

/-- 'laws.FnOverlapOk': WHATEVER THE INPUT: true; the input reads as it did. -/
def fnOverlapOkSpec : ChangeSpec := { name := "fnOverlapOk", fn := fun _ => fun
  | [d] => { results := [.lit (.bool true)], args := [d] }
  | _ => none }
def fnOverlapOkRow : OpenClaim := { program := "ytdbmgejjpafhoaa", sum := "73a7e76791403ddc8cb7d7d0a04497f834f8b3b90fb69099df315a0a5ddc4fce", func := "loop.example/partsandwholes/laws.FnOverlapOk", spec := "fnOverlapOk", apart := false }
def FnOverlapOkSaid : Prop := fnOverlapOkRow.holds Try.pinned (OpenSpec.ofChange fnOverlapOkSpec)

/-- ITS FALSE NEIGHBOUR: 'it returns false'. Refute it at one input. -/
def fnOverlapOkWrong : ChangeSpec := { name := "fnOverlapOk", fn := fun _ => fun
  | [d] => { results := [.lit (.bool false)], args := [d] }
  | _ => none }
def FnOverlapOkWrongFalsely : Prop := fnOverlapOkRow.holds Try.pinned (OpenSpec.ofChange fnOverlapOkWrong)

/-- 'laws.FnWholesOf': WHATEVER THE INPUT: true; the input reads as it did. -/
def fnWholesOfSpec : ChangeSpec := { name := "fnWholesOf", fn := fun _ => fun
  | [d] => { results := [.lit (.bool true)], args := [d] }
  | _ => none }
def fnWholesOfRow : OpenClaim := { program := "ytdbmgejjpafhoaa", sum := "73a7e76791403ddc8cb7d7d0a04497f834f8b3b90fb69099df315a0a5ddc4fce", func := "loop.example/partsandwholes/laws.FnWholesOf", spec := "fnWholesOf", unfollowed := true, recurses := true, apart := false }
def FnWholesOfSaid : Prop := fnWholesOfRow.holds Try.pinned (OpenSpec.ofChange fnWholesOfSpec)

/-- ITS FALSE NEIGHBOUR: 'it returns false'. Refute it at one input. -/
def fnWholesOfWrong : ChangeSpec := { name := "fnWholesOf", fn := fun _ => fun
  | [d] => { results := [.lit (.bool false)], args := [d] }
  | _ => none }
def FnWholesOfWrongFalsely : Prop := fnWholesOfRow.holds Try.pinned (OpenSpec.ofChange fnWholesOfWrong)

/-- 'laws.FnMeetingSet': WHATEVER THE INPUT: true; the input reads as it did. -/
def fnMeetingSetSpec : ChangeSpec := { name := "fnMeetingSet", fn := fun _ => fun
  | [d] => { results := [.lit (.bool true)], args := [d] }
  | _ => none }
def fnMeetingSetRow : OpenClaim := { program := "ytdbmgejjpafhoaa", sum := "73a7e76791403ddc8cb7d7d0a04497f834f8b3b90fb69099df315a0a5ddc4fce", func := "loop.example/partsandwholes/laws.FnMeetingSet", spec := "fnMeetingSet", unfollowed := true, recurses := true, apart := false }
def FnMeetingSetSaid : Prop := fnMeetingSetRow.holds Try.pinned (OpenSpec.ofChange fnMeetingSetSpec)

/-- ITS FALSE NEIGHBOUR: 'it returns false'. Refute it at one input. -/
def fnMeetingSetWrong : ChangeSpec := { name := "fnMeetingSet", fn := fun _ => fun
  | [d] => { results := [.lit (.bool false)], args := [d] }
  | _ => none }
def FnMeetingSetWrongFalsely : Prop := fnMeetingSetRow.holds Try.pinned (OpenSpec.ofChange fnMeetingSetWrong)

/-- 'laws.FnDeepOf': WHATEVER THE INPUT: true; the input reads as it did. -/
def fnDeepOfSpec : ChangeSpec := { name := "fnDeepOf", fn := fun _ => fun
  | [d] => { results := [.lit (.bool true)], args := [d] }
  | _ => none }
def fnDeepOfRow : OpenClaim := { program := "ytdbmgejjpafhoaa", sum := "73a7e76791403ddc8cb7d7d0a04497f834f8b3b90fb69099df315a0a5ddc4fce", func := "loop.example/partsandwholes/laws.FnDeepOf", spec := "fnDeepOf", recurses := true, apart := false }
def FnDeepOfSaid : Prop := fnDeepOfRow.holds Try.pinned (OpenSpec.ofChange fnDeepOfSpec)

/-- ITS FALSE NEIGHBOUR: 'it returns false'. Refute it at one input. -/
def fnDeepOfWrong : ChangeSpec := { name := "fnDeepOf", fn := fun _ => fun
  | [d] => { results := [.lit (.bool false)], args := [d] }
  | _ => none }
def FnDeepOfWrongFalsely : Prop := fnDeepOfRow.holds Try.pinned (OpenSpec.ofChange fnDeepOfWrong)

/-- 'laws.FnExactWorldOk': WHATEVER THE INPUT: true; the input reads as it did. -/
def fnExactWorldOkSpec : ChangeSpec := { name := "fnExactWorldOk", fn := fun _ => fun
  | [d] => { results := [.lit (.bool true)], args := [d] }
  | _ => none }
def fnExactWorldOkRow : OpenClaim := { program := "ytdbmgejjpafhoaa", sum := "73a7e76791403ddc8cb7d7d0a04497f834f8b3b90fb69099df315a0a5ddc4fce", func := "loop.example/partsandwholes/laws.FnExactWorldOk", spec := "fnExactWorldOk", apart := false }
def FnExactWorldOkSaid : Prop := fnExactWorldOkRow.holds Try.pinned (OpenSpec.ofChange fnExactWorldOkSpec)

/-- ITS FALSE NEIGHBOUR: 'it returns false'. Refute it at one input. -/
def fnExactWorldOkWrong : ChangeSpec := { name := "fnExactWorldOk", fn := fun _ => fun
  | [d] => { results := [.lit (.bool false)], args := [d] }
  | _ => none }
def FnExactWorldOkWrongFalsely : Prop := fnExactWorldOkRow.holds Try.pinned (OpenSpec.ofChange fnExactWorldOkWrong)

/-- 'laws.FnExactPartOk': WHATEVER THE INPUT: true; the input reads as it did. -/
def fnExactPartOkSpec : ChangeSpec := { name := "fnExactPartOk", fn := fun _ => fun
  | [d1, d2, d3] => { results := [.lit (.bool true)], args := [d1, d2, d3] }
  | _ => none }
def fnExactPartOkRow : OpenClaim := { program := "ytdbmgejjpafhoaa", sum := "73a7e76791403ddc8cb7d7d0a04497f834f8b3b90fb69099df315a0a5ddc4fce", func := "loop.example/partsandwholes/laws.FnExactPartOk", spec := "fnExactPartOk", apart := false }
def FnExactPartOkSaid : Prop := fnExactPartOkRow.holds Try.pinned (OpenSpec.ofChange fnExactPartOkSpec)

/-- ITS FALSE NEIGHBOUR: 'it returns false'. Refute it at one input. -/
def fnExactPartOkWrong : ChangeSpec := { name := "fnExactPartOk", fn := fun _ => fun
  | [d1, d2, d3] => { results := [.lit (.bool false)], args := [d1, d2, d3] }
  | _ => none }
def FnExactPartOkWrongFalsely : Prop := fnExactPartOkRow.holds Try.pinned (OpenSpec.ofChange fnExactPartOkWrong)

/-- 'laws.FnExactProperOk': WHATEVER THE INPUT: true; the input reads as it did. -/
def fnExactProperOkSpec : ChangeSpec := { name := "fnExactProperOk", fn := fun _ => fun
  | [d1, d2, d3] => { results := [.lit (.bool true)], args := [d1, d2, d3] }
  | _ => none }
def fnExactProperOkRow : OpenClaim := { program := "ytdbmgejjpafhoaa", sum := "73a7e76791403ddc8cb7d7d0a04497f834f8b3b90fb69099df315a0a5ddc4fce", func := "loop.example/partsandwholes/laws.FnExactProperOk", spec := "fnExactProperOk", apart := false }
def FnExactProperOkSaid : Prop := fnExactProperOkRow.holds Try.pinned (OpenSpec.ofChange fnExactProperOkSpec)

/-- ITS FALSE NEIGHBOUR: 'it returns false'. Refute it at one input. -/
def fnExactProperOkWrong : ChangeSpec := { name := "fnExactProperOk", fn := fun _ => fun
  | [d1, d2, d3] => { results := [.lit (.bool false)], args := [d1, d2, d3] }
  | _ => none }
def FnExactProperOkWrongFalsely : Prop := fnExactProperOkRow.holds Try.pinned (OpenSpec.ofChange fnExactProperOkWrong)

/-- 'laws.FnExactOverlapOk': WHATEVER THE INPUT: true; the input reads as it did. -/
def fnExactOverlapOkSpec : ChangeSpec := { name := "fnExactOverlapOk", fn := fun _ => fun
  | [d1, d2, d3] => { results := [.lit (.bool true)], args := [d1, d2, d3] }
  | _ => none }
def fnExactOverlapOkRow : OpenClaim := { program := "ytdbmgejjpafhoaa", sum := "73a7e76791403ddc8cb7d7d0a04497f834f8b3b90fb69099df315a0a5ddc4fce", func := "loop.example/partsandwholes/laws.FnExactOverlapOk", spec := "fnExactOverlapOk", apart := false }
def FnExactOverlapOkSaid : Prop := fnExactOverlapOkRow.holds Try.pinned (OpenSpec.ofChange fnExactOverlapOkSpec)

/-- ITS FALSE NEIGHBOUR: 'it returns false'. Refute it at one input. -/
def fnExactOverlapOkWrong : ChangeSpec := { name := "fnExactOverlapOk", fn := fun _ => fun
  | [d1, d2, d3] => { results := [.lit (.bool false)], args := [d1, d2, d3] }
  | _ => none }
def FnExactOverlapOkWrongFalsely : Prop := fnExactOverlapOkRow.holds Try.pinned (OpenSpec.ofChange fnExactOverlapOkWrong)

/-- 'laws.FnExactWholesOf': WHATEVER THE INPUT: true; the input reads as it did. -/
def fnExactWholesOfSpec : ChangeSpec := { name := "fnExactWholesOf", fn := fun _ => fun
  | [d1, d2] => { results := [.lit (.bool true)], args := [d1, d2] }
  | _ => none }
def fnExactWholesOfRow : OpenClaim := { program := "ytdbmgejjpafhoaa", sum := "73a7e76791403ddc8cb7d7d0a04497f834f8b3b90fb69099df315a0a5ddc4fce", func := "loop.example/partsandwholes/laws.FnExactWholesOf", spec := "fnExactWholesOf", unfollowed := true, recurses := true, apart := false }
def FnExactWholesOfSaid : Prop := fnExactWholesOfRow.holds Try.pinned (OpenSpec.ofChange fnExactWholesOfSpec)

/-- ITS FALSE NEIGHBOUR: 'it returns false'. Refute it at one input. -/
def fnExactWholesOfWrong : ChangeSpec := { name := "fnExactWholesOf", fn := fun _ => fun
  | [d1, d2] => { results := [.lit (.bool false)], args := [d1, d2] }
  | _ => none }
def FnExactWholesOfWrongFalsely : Prop := fnExactWholesOfRow.holds Try.pinned (OpenSpec.ofChange fnExactWholesOfWrong)

/-- 'laws.FnExactMeetingSet': WHATEVER THE INPUT: true; the input reads as it did. -/
def fnExactMeetingSetSpec : ChangeSpec := { name := "fnExactMeetingSet", fn := fun _ => fun
  | [d1, d2] => { results := [.lit (.bool true)], args := [d1, d2] }
  | _ => none }
def fnExactMeetingSetRow : OpenClaim := { program := "ytdbmgejjpafhoaa", sum := "73a7e76791403ddc8cb7d7d0a04497f834f8b3b90fb69099df315a0a5ddc4fce", func := "loop.example/partsandwholes/laws.FnExactMeetingSet", spec := "fnExactMeetingSet", unfollowed := true, recurses := true, apart := false }
def FnExactMeetingSetSaid : Prop := fnExactMeetingSetRow.holds Try.pinned (OpenSpec.ofChange fnExactMeetingSetSpec)

/-- ITS FALSE NEIGHBOUR: 'it returns false'. Refute it at one input. -/
def fnExactMeetingSetWrong : ChangeSpec := { name := "fnExactMeetingSet", fn := fun _ => fun
  | [d1, d2] => { results := [.lit (.bool false)], args := [d1, d2] }
  | _ => none }
def FnExactMeetingSetWrongFalsely : Prop := fnExactMeetingSetRow.holds Try.pinned (OpenSpec.ofChange fnExactMeetingSetWrong)

/-- 'laws.FnExactDeepOf': WHATEVER THE INPUT: true; the input reads as it did. -/
def fnExactDeepOfSpec : ChangeSpec := { name := "fnExactDeepOf", fn := fun _ => fun
  | [d] => { results := [.lit (.bool true)], args := [d] }
  | _ => none }
def fnExactDeepOfRow : OpenClaim := { program := "ytdbmgejjpafhoaa", sum := "73a7e76791403ddc8cb7d7d0a04497f834f8b3b90fb69099df315a0a5ddc4fce", func := "loop.example/partsandwholes/laws.FnExactDeepOf", spec := "fnExactDeepOf", recurses := true, apart := false }
def FnExactDeepOfSaid : Prop := fnExactDeepOfRow.holds Try.pinned (OpenSpec.ofChange fnExactDeepOfSpec)

/-- ITS FALSE NEIGHBOUR: 'it returns false'. Refute it at one input. -/
def fnExactDeepOfWrong : ChangeSpec := { name := "fnExactDeepOf", fn := fun _ => fun
  | [d] => { results := [.lit (.bool false)], args := [d] }
  | _ => none }
def FnExactDeepOfWrongFalsely : Prop := fnExactDeepOfRow.holds Try.pinned (OpenSpec.ofChange fnExactDeepOfWrong)

/- THE SECOND FORM. 'bulk': how many values and letters a reading holds, each counted each time it is reached (what is shared counts as often as it is met; a slice's spare places count too). A statement '..UptoSaid' is the law's where the arguments, and the package variables that the reading takes, are together of bulk at most 1048576: NARROWER than '..Said'. Prove '..Said' where nothing that the law and all that it calls make is longer than what came in: it says more and counts as full. Else prove '..UptoSaid'. A law counts once. -/
mutual
def uptoBulk {H : Type} : DataW H → Nat
  | .lit (.string bytes) => bytes.length + 1
  | .lit _ => 1
  | .nil => 1
  | .ptr d => uptoBulk d + 1
  | .slice elems spare => uptoBulkAll elems + uptoBulkAll spare + 1
  | .agg parts => uptoBulkAll parts + 1
  | .iface _ d => uptoBulk d + 1
  | .map entries => uptoBulkEntries entries + 1
  | .held _ => 1
def uptoBulkAll {H : Type} : List (DataW H) → Nat
  | [] => 0
  | d :: r => uptoBulk d + uptoBulkAll r
def uptoBulkEntries {H : Type} : List (Lit × DataW H) → Nat
  | [] => 0
  | x :: r => uptoBulkEntry x + uptoBulkEntries r
def uptoBulkEntry {H : Type} : Lit × DataW H → Nat
  | (.string bytes, d) => bytes.length + uptoBulk d + 1
  | (_, d) => uptoBulk d + 1
 end
def uptoSmall : (H : Type) → List (DataW H) → Bool := fun _ ds => decide (uptoBulkAll ds ≤ 1048576)
def OpenSpec.upto (s : _root_.Go.ChangeSpec) : _root_.Go.OpenSpec := { _root_.Go.OpenSpec.ofChange s with cond := some uptoSmall }

/-- 'laws.FnWorldOk', WHERE WHAT IT READS IS OF BULK AT MOST 1048576: true; the input reads as it did. -/
def fnWorldOkUptoRow : OpenClaim := { program := "ytdbmgejjpafhoaa", sum := "73a7e76791403ddc8cb7d7d0a04497f834f8b3b90fb69099df315a0a5ddc4fce", func := "loop.example/partsandwholes/laws.FnWorldOk", spec := "fnWorldOk", apart := false, narrowed := true }
def FnWorldOkUptoSaid : Prop := fnWorldOkUptoRow.holds Try.pinned (OpenSpec.upto fnWorldOkSpec)

/-- 'laws.FnPartOk', WHERE WHAT IT READS IS OF BULK AT MOST 1048576: true; the input reads as it did. -/
def fnPartOkUptoRow : OpenClaim := { program := "ytdbmgejjpafhoaa", sum := "73a7e76791403ddc8cb7d7d0a04497f834f8b3b90fb69099df315a0a5ddc4fce", func := "loop.example/partsandwholes/laws.FnPartOk", spec := "fnPartOk", apart := false, narrowed := true }
def FnPartOkUptoSaid : Prop := fnPartOkUptoRow.holds Try.pinned (OpenSpec.upto fnPartOkSpec)

/-- 'laws.FnProperOk', WHERE WHAT IT READS IS OF BULK AT MOST 1048576: true; the input reads as it did. -/
def fnProperOkUptoRow : OpenClaim := { program := "ytdbmgejjpafhoaa", sum := "73a7e76791403ddc8cb7d7d0a04497f834f8b3b90fb69099df315a0a5ddc4fce", func := "loop.example/partsandwholes/laws.FnProperOk", spec := "fnProperOk", apart := false, narrowed := true }
def FnProperOkUptoSaid : Prop := fnProperOkUptoRow.holds Try.pinned (OpenSpec.upto fnProperOkSpec)

/-- 'laws.FnOverlapOk', WHERE WHAT IT READS IS OF BULK AT MOST 1048576: true; the input reads as it did. -/
def fnOverlapOkUptoRow : OpenClaim := { program := "ytdbmgejjpafhoaa", sum := "73a7e76791403ddc8cb7d7d0a04497f834f8b3b90fb69099df315a0a5ddc4fce", func := "loop.example/partsandwholes/laws.FnOverlapOk", spec := "fnOverlapOk", apart := false, narrowed := true }
def FnOverlapOkUptoSaid : Prop := fnOverlapOkUptoRow.holds Try.pinned (OpenSpec.upto fnOverlapOkSpec)

/-- 'laws.FnWholesOf', WHERE WHAT IT READS IS OF BULK AT MOST 1048576: true; the input reads as it did. -/
def fnWholesOfUptoRow : OpenClaim := { program := "ytdbmgejjpafhoaa", sum := "73a7e76791403ddc8cb7d7d0a04497f834f8b3b90fb69099df315a0a5ddc4fce", func := "loop.example/partsandwholes/laws.FnWholesOf", spec := "fnWholesOf", unfollowed := true, recurses := true, apart := false, narrowed := true }
def FnWholesOfUptoSaid : Prop := fnWholesOfUptoRow.holds Try.pinned (OpenSpec.upto fnWholesOfSpec)

/-- 'laws.FnMeetingSet', WHERE WHAT IT READS IS OF BULK AT MOST 1048576: true; the input reads as it did. -/
def fnMeetingSetUptoRow : OpenClaim := { program := "ytdbmgejjpafhoaa", sum := "73a7e76791403ddc8cb7d7d0a04497f834f8b3b90fb69099df315a0a5ddc4fce", func := "loop.example/partsandwholes/laws.FnMeetingSet", spec := "fnMeetingSet", unfollowed := true, recurses := true, apart := false, narrowed := true }
def FnMeetingSetUptoSaid : Prop := fnMeetingSetUptoRow.holds Try.pinned (OpenSpec.upto fnMeetingSetSpec)

/-- 'laws.FnDeepOf', WHERE WHAT IT READS IS OF BULK AT MOST 1048576: true; the input reads as it did. -/
def fnDeepOfUptoRow : OpenClaim := { program := "ytdbmgejjpafhoaa", sum := "73a7e76791403ddc8cb7d7d0a04497f834f8b3b90fb69099df315a0a5ddc4fce", func := "loop.example/partsandwholes/laws.FnDeepOf", spec := "fnDeepOf", recurses := true, apart := false, narrowed := true }
def FnDeepOfUptoSaid : Prop := fnDeepOfUptoRow.holds Try.pinned (OpenSpec.upto fnDeepOfSpec)

/-- 'laws.FnExactWorldOk', WHERE WHAT IT READS IS OF BULK AT MOST 1048576: true; the input reads as it did. -/
def fnExactWorldOkUptoRow : OpenClaim := { program := "ytdbmgejjpafhoaa", sum := "73a7e76791403ddc8cb7d7d0a04497f834f8b3b90fb69099df315a0a5ddc4fce", func := "loop.example/partsandwholes/laws.FnExactWorldOk", spec := "fnExactWorldOk", apart := false, narrowed := true }
def FnExactWorldOkUptoSaid : Prop := fnExactWorldOkUptoRow.holds Try.pinned (OpenSpec.upto fnExactWorldOkSpec)

/-- 'laws.FnExactPartOk', WHERE WHAT IT READS IS OF BULK AT MOST 1048576: true; the input reads as it did. -/
def fnExactPartOkUptoRow : OpenClaim := { program := "ytdbmgejjpafhoaa", sum := "73a7e76791403ddc8cb7d7d0a04497f834f8b3b90fb69099df315a0a5ddc4fce", func := "loop.example/partsandwholes/laws.FnExactPartOk", spec := "fnExactPartOk", apart := false, narrowed := true }
def FnExactPartOkUptoSaid : Prop := fnExactPartOkUptoRow.holds Try.pinned (OpenSpec.upto fnExactPartOkSpec)

/-- 'laws.FnExactProperOk', WHERE WHAT IT READS IS OF BULK AT MOST 1048576: true; the input reads as it did. -/
def fnExactProperOkUptoRow : OpenClaim := { program := "ytdbmgejjpafhoaa", sum := "73a7e76791403ddc8cb7d7d0a04497f834f8b3b90fb69099df315a0a5ddc4fce", func := "loop.example/partsandwholes/laws.FnExactProperOk", spec := "fnExactProperOk", apart := false, narrowed := true }
def FnExactProperOkUptoSaid : Prop := fnExactProperOkUptoRow.holds Try.pinned (OpenSpec.upto fnExactProperOkSpec)

/-- 'laws.FnExactOverlapOk', WHERE WHAT IT READS IS OF BULK AT MOST 1048576: true; the input reads as it did. -/
def fnExactOverlapOkUptoRow : OpenClaim := { program := "ytdbmgejjpafhoaa", sum := "73a7e76791403ddc8cb7d7d0a04497f834f8b3b90fb69099df315a0a5ddc4fce", func := "loop.example/partsandwholes/laws.FnExactOverlapOk", spec := "fnExactOverlapOk", apart := false, narrowed := true }
def FnExactOverlapOkUptoSaid : Prop := fnExactOverlapOkUptoRow.holds Try.pinned (OpenSpec.upto fnExactOverlapOkSpec)

/-- 'laws.FnExactWholesOf', WHERE WHAT IT READS IS OF BULK AT MOST 1048576: true; the input reads as it did. -/
def fnExactWholesOfUptoRow : OpenClaim := { program := "ytdbmgejjpafhoaa", sum := "73a7e76791403ddc8cb7d7d0a04497f834f8b3b90fb69099df315a0a5ddc4fce", func := "loop.example/partsandwholes/laws.FnExactWholesOf", spec := "fnExactWholesOf", unfollowed := true, recurses := true, apart := false, narrowed := true }
def FnExactWholesOfUptoSaid : Prop := fnExactWholesOfUptoRow.holds Try.pinned (OpenSpec.upto fnExactWholesOfSpec)

/-- 'laws.FnExactMeetingSet', WHERE WHAT IT READS IS OF BULK AT MOST 1048576: true; the input reads as it did. -/
def fnExactMeetingSetUptoRow : OpenClaim := { program := "ytdbmgejjpafhoaa", sum := "73a7e76791403ddc8cb7d7d0a04497f834f8b3b90fb69099df315a0a5ddc4fce", func := "loop.example/partsandwholes/laws.FnExactMeetingSet", spec := "fnExactMeetingSet", unfollowed := true, recurses := true, apart := false, narrowed := true }
def FnExactMeetingSetUptoSaid : Prop := fnExactMeetingSetUptoRow.holds Try.pinned (OpenSpec.upto fnExactMeetingSetSpec)

/-- 'laws.FnExactDeepOf', WHERE WHAT IT READS IS OF BULK AT MOST 1048576: true; the input reads as it did. -/
def fnExactDeepOfUptoRow : OpenClaim := { program := "ytdbmgejjpafhoaa", sum := "73a7e76791403ddc8cb7d7d0a04497f834f8b3b90fb69099df315a0a5ddc4fce", func := "loop.example/partsandwholes/laws.FnExactDeepOf", spec := "fnExactDeepOf", recurses := true, apart := false, narrowed := true }
def FnExactDeepOfUptoSaid : Prop := fnExactDeepOfUptoRow.holds Try.pinned (OpenSpec.upto fnExactDeepOfSpec)

end Rows
end Go.Proofs.Ytdbmgejjpafhoaa
