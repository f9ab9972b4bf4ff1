/-
  No cell of these rows narrows 'for every input' (looked for: loops, veiled, ifaces, maps, wideKeys, modest, calm, conditions, laid).
  DERIVED. THE GIVEN ROWS OF THIS SEAT. 14 by the template 'for every input the law returns true; each argument reads behind the call as it read before'; 0 by the template 'total and deterministic' (their statements: YtncgcopdpoaagaaTotals.lean).
  GIVEN WITH THE SEED: the statements are not yours to turn. If you find one false, say at which input.
  Laid BY PROGRAM, IN A SANDBOX (cutbox-rows.mjs): the forced cells as the released guide's own fill.sh prints them over the translation 63981cad26d6996d… (all of the seat's roots in one cut). By AI agents, Wed Nov 11 2026. No macro, syntax, notation, axiom, sorry.
-/
import Derived.Test.YtncgcopdpoaagaaChecked
import GoSem.Claim
import GoSem.ClaimJoined
import GoSem.ClaimMapViews
import Derived.JoinedTies
import Derived.KernelRfl
namespace Go.Proofs.Ytncgcopdpoaagaa
/- THE CELL 'sum', in the pinned program and in every row, IS THE sha256 OF THE DUMP (.gsa) THAT YtncgcopdpoaagaaProg.lean LOADS. Nothing in Lean hashes anything: it is a label: what it is worth is what the hold of that sum in a sandbox is worth. -/
noncomputable def Try.pinned : Pinned := { name := "ytncgcopdpoaagaa", sum := "63981cad26d6996d1baeefcf2a4c0b7be23aa4d619e70097d5d1f3481109484f", checked := Try.checked }
namespace Rows
def none {H : Type} : Left H := { results := [], args := [] }

/-- 'laws.FnGroundOk': WHATEVER THE INPUT: true; the input reads as it did. -/
def fnGroundOkSpec : ChangeSpec := { name := "fnGroundOk", fn := fun _ => fun
  | [d] => { results := [.lit (.bool true)], args := [d] }
  | _ => none }
def fnGroundOkRow : OpenClaim := { program := "ytncgcopdpoaagaa", sum := "63981cad26d6996d1baeefcf2a4c0b7be23aa4d619e70097d5d1f3481109484f", func := "loop.example/partsandwholes/laws.FnGroundOk", spec := "fnGroundOk", apart := false }
def FnGroundOkSaid : Prop := fnGroundOkRow.holds Try.pinned (OpenSpec.ofChange fnGroundOkSpec)

/-- ITS FALSE NEIGHBOUR: 'it returns false'. Refute it at one input. -/
def fnGroundOkWrong : ChangeSpec := { name := "fnGroundOk", fn := fun _ => fun
  | [d] => { results := [.lit (.bool false)], args := [d] }
  | _ => none }
def FnGroundOkWrongFalsely : Prop := fnGroundOkRow.holds Try.pinned (OpenSpec.ofChange fnGroundOkWrong)

/-- 'laws.FnThingOk': WHATEVER THE INPUT: true; the input reads as it did. -/
def fnThingOkSpec : ChangeSpec := { name := "fnThingOk", fn := fun _ => fun
  | [d] => { results := [.lit (.bool true)], args := [d] }
  | _ => none }
def fnThingOkRow : OpenClaim := { program := "ytncgcopdpoaagaa", sum := "63981cad26d6996d1baeefcf2a4c0b7be23aa4d619e70097d5d1f3481109484f", func := "loop.example/partsandwholes/laws.FnThingOk", spec := "fnThingOk", apart := false }
def FnThingOkSaid : Prop := fnThingOkRow.holds Try.pinned (OpenSpec.ofChange fnThingOkSpec)

/-- ITS FALSE NEIGHBOUR: 'it returns false'. Refute it at one input. -/
def fnThingOkWrong : ChangeSpec := { name := "fnThingOk", fn := fun _ => fun
  | [d] => { results := [.lit (.bool false)], args := [d] }
  | _ => none }
def FnThingOkWrongFalsely : Prop := fnThingOkRow.holds Try.pinned (OpenSpec.ofChange fnThingOkWrong)

/-- 'laws.FnTouchOk': WHATEVER THE INPUT: true; the input reads as it did. -/
def fnTouchOkSpec : ChangeSpec := { name := "fnTouchOk", fn := fun _ => fun
  | [d] => { results := [.lit (.bool true)], args := [d] }
  | _ => none }
def fnTouchOkRow : OpenClaim := { program := "ytncgcopdpoaagaa", sum := "63981cad26d6996d1baeefcf2a4c0b7be23aa4d619e70097d5d1f3481109484f", func := "loop.example/partsandwholes/laws.FnTouchOk", spec := "fnTouchOk", unfollowed := true, recurses := true, apart := false }
def FnTouchOkSaid : Prop := fnTouchOkRow.holds Try.pinned (OpenSpec.ofChange fnTouchOkSpec)

/-- ITS FALSE NEIGHBOUR: 'it returns false'. Refute it at one input. -/
def fnTouchOkWrong : ChangeSpec := { name := "fnTouchOk", fn := fun _ => fun
  | [d] => { results := [.lit (.bool false)], args := [d] }
  | _ => none }
def FnTouchOkWrongFalsely : Prop := fnTouchOkRow.holds Try.pinned (OpenSpec.ofChange fnTouchOkWrong)

/-- 'laws.FnOutsideTouch': WHATEVER THE INPUT: true; the input reads as it did. -/
def fnOutsideTouchSpec : ChangeSpec := { name := "fnOutsideTouch", fn := fun _ => fun
  | [d] => { results := [.lit (.bool true)], args := [d] }
  | _ => none }
def fnOutsideTouchRow : OpenClaim := { program := "ytncgcopdpoaagaa", sum := "63981cad26d6996d1baeefcf2a4c0b7be23aa4d619e70097d5d1f3481109484f", func := "loop.example/partsandwholes/laws.FnOutsideTouch", spec := "fnOutsideTouch", unfollowed := true, recurses := true, apart := false }
def FnOutsideTouchSaid : Prop := fnOutsideTouchRow.holds Try.pinned (OpenSpec.ofChange fnOutsideTouchSpec)

/-- ITS FALSE NEIGHBOUR: 'it returns false'. Refute it at one input. -/
def fnOutsideTouchWrong : ChangeSpec := { name := "fnOutsideTouch", fn := fun _ => fun
  | [d] => { results := [.lit (.bool false)], args := [d] }
  | _ => none }
def FnOutsideTouchWrongFalsely : Prop := fnOutsideTouchRow.holds Try.pinned (OpenSpec.ofChange fnOutsideTouchWrong)

/-- 'laws.FnInsideOk': WHATEVER THE INPUT: true; the input reads as it did. -/
def fnInsideOkSpec : ChangeSpec := { name := "fnInsideOk", fn := fun _ => fun
  | [d] => { results := [.lit (.bool true)], args := [d] }
  | _ => none }
def fnInsideOkRow : OpenClaim := { program := "ytncgcopdpoaagaa", sum := "63981cad26d6996d1baeefcf2a4c0b7be23aa4d619e70097d5d1f3481109484f", func := "loop.example/partsandwholes/laws.FnInsideOk", spec := "fnInsideOk", unfollowed := true, recurses := true, apart := false }
def FnInsideOkSaid : Prop := fnInsideOkRow.holds Try.pinned (OpenSpec.ofChange fnInsideOkSpec)

/-- ITS FALSE NEIGHBOUR: 'it returns false'. Refute it at one input. -/
def fnInsideOkWrong : ChangeSpec := { name := "fnInsideOk", fn := fun _ => fun
  | [d] => { results := [.lit (.bool false)], args := [d] }
  | _ => none }
def FnInsideOkWrongFalsely : Prop := fnInsideOkRow.holds Try.pinned (OpenSpec.ofChange fnInsideOkWrong)

/-- 'laws.FnBorderOf': WHATEVER THE INPUT: true; the input reads as it did. -/
def fnBorderOfSpec : ChangeSpec := { name := "fnBorderOf", fn := fun _ => fun
  | [d] => { results := [.lit (.bool true)], args := [d] }
  | _ => none }
def fnBorderOfRow : OpenClaim := { program := "ytncgcopdpoaagaa", sum := "63981cad26d6996d1baeefcf2a4c0b7be23aa4d619e70097d5d1f3481109484f", func := "loop.example/partsandwholes/laws.FnBorderOf", spec := "fnBorderOf", unfollowed := true, recurses := true, apart := false }
def FnBorderOfSaid : Prop := fnBorderOfRow.holds Try.pinned (OpenSpec.ofChange fnBorderOfSpec)

/-- ITS FALSE NEIGHBOUR: 'it returns false'. Refute it at one input. -/
def fnBorderOfWrong : ChangeSpec := { name := "fnBorderOf", fn := fun _ => fun
  | [d] => { results := [.lit (.bool false)], args := [d] }
  | _ => none }
def FnBorderOfWrongFalsely : Prop := fnBorderOfRow.holds Try.pinned (OpenSpec.ofChange fnBorderOfWrong)

/-- 'laws.FnGrownOf': WHATEVER THE INPUT: true; the input reads as it did. -/
def fnGrownOfSpec : ChangeSpec := { name := "fnGrownOf", fn := fun _ => fun
  | [d] => { results := [.lit (.bool true)], args := [d] }
  | _ => none }
def fnGrownOfRow : OpenClaim := { program := "ytncgcopdpoaagaa", sum := "63981cad26d6996d1baeefcf2a4c0b7be23aa4d619e70097d5d1f3481109484f", func := "loop.example/partsandwholes/laws.FnGrownOf", spec := "fnGrownOf", unfollowed := true, recurses := true, apart := false }
def FnGrownOfSaid : Prop := fnGrownOfRow.holds Try.pinned (OpenSpec.ofChange fnGrownOfSpec)

/-- ITS FALSE NEIGHBOUR: 'it returns false'. Refute it at one input. -/
def fnGrownOfWrong : ChangeSpec := { name := "fnGrownOf", fn := fun _ => fun
  | [d] => { results := [.lit (.bool false)], args := [d] }
  | _ => none }
def FnGrownOfWrongFalsely : Prop := fnGrownOfRow.holds Try.pinned (OpenSpec.ofChange fnGrownOfWrong)

/-- 'laws.FnExactGroundOk': WHATEVER THE INPUT: true; the input reads as it did. -/
def fnExactGroundOkSpec : ChangeSpec := { name := "fnExactGroundOk", fn := fun _ => fun
  | [d] => { results := [.lit (.bool true)], args := [d] }
  | _ => none }
def fnExactGroundOkRow : OpenClaim := { program := "ytncgcopdpoaagaa", sum := "63981cad26d6996d1baeefcf2a4c0b7be23aa4d619e70097d5d1f3481109484f", func := "loop.example/partsandwholes/laws.FnExactGroundOk", spec := "fnExactGroundOk", apart := false }
def FnExactGroundOkSaid : Prop := fnExactGroundOkRow.holds Try.pinned (OpenSpec.ofChange fnExactGroundOkSpec)

/-- ITS FALSE NEIGHBOUR: 'it returns false'. Refute it at one input. -/
def fnExactGroundOkWrong : ChangeSpec := { name := "fnExactGroundOk", fn := fun _ => fun
  | [d] => { results := [.lit (.bool false)], args := [d] }
  | _ => none }
def FnExactGroundOkWrongFalsely : Prop := fnExactGroundOkRow.holds Try.pinned (OpenSpec.ofChange fnExactGroundOkWrong)

/-- 'laws.FnExactThingOk': WHATEVER THE INPUT: true; the input reads as it did. -/
def fnExactThingOkSpec : ChangeSpec := { name := "fnExactThingOk", fn := fun _ => fun
  | [d1, d2] => { results := [.lit (.bool true)], args := [d1, d2] }
  | _ => none }
def fnExactThingOkRow : OpenClaim := { program := "ytncgcopdpoaagaa", sum := "63981cad26d6996d1baeefcf2a4c0b7be23aa4d619e70097d5d1f3481109484f", func := "loop.example/partsandwholes/laws.FnExactThingOk", spec := "fnExactThingOk", apart := false }
def FnExactThingOkSaid : Prop := fnExactThingOkRow.holds Try.pinned (OpenSpec.ofChange fnExactThingOkSpec)

/-- ITS FALSE NEIGHBOUR: 'it returns false'. Refute it at one input. -/
def fnExactThingOkWrong : ChangeSpec := { name := "fnExactThingOk", fn := fun _ => fun
  | [d1, d2] => { results := [.lit (.bool false)], args := [d1, d2] }
  | _ => none }
def FnExactThingOkWrongFalsely : Prop := fnExactThingOkRow.holds Try.pinned (OpenSpec.ofChange fnExactThingOkWrong)

/-- 'laws.FnExactTouchOk': WHATEVER THE INPUT: true; the input reads as it did. -/
def fnExactTouchOkSpec : ChangeSpec := { name := "fnExactTouchOk", fn := fun _ => fun
  | [d1, d2, d3] => { results := [.lit (.bool true)], args := [d1, d2, d3] }
  | _ => none }
def fnExactTouchOkRow : OpenClaim := { program := "ytncgcopdpoaagaa", sum := "63981cad26d6996d1baeefcf2a4c0b7be23aa4d619e70097d5d1f3481109484f", func := "loop.example/partsandwholes/laws.FnExactTouchOk", spec := "fnExactTouchOk", unfollowed := true, recurses := true, apart := false }
def FnExactTouchOkSaid : Prop := fnExactTouchOkRow.holds Try.pinned (OpenSpec.ofChange fnExactTouchOkSpec)

/-- ITS FALSE NEIGHBOUR: 'it returns false'. Refute it at one input. -/
def fnExactTouchOkWrong : ChangeSpec := { name := "fnExactTouchOk", fn := fun _ => fun
  | [d1, d2, d3] => { results := [.lit (.bool false)], args := [d1, d2, d3] }
  | _ => none }
def FnExactTouchOkWrongFalsely : Prop := fnExactTouchOkRow.holds Try.pinned (OpenSpec.ofChange fnExactTouchOkWrong)

/-- 'laws.FnExactOutsideTouch': WHATEVER THE INPUT: true; the input reads as it did. -/
def fnExactOutsideTouchSpec : ChangeSpec := { name := "fnExactOutsideTouch", fn := fun _ => fun
  | [d1, d2, d3] => { results := [.lit (.bool true)], args := [d1, d2, d3] }
  | _ => none }
def fnExactOutsideTouchRow : OpenClaim := { program := "ytncgcopdpoaagaa", sum := "63981cad26d6996d1baeefcf2a4c0b7be23aa4d619e70097d5d1f3481109484f", func := "loop.example/partsandwholes/laws.FnExactOutsideTouch", spec := "fnExactOutsideTouch", unfollowed := true, recurses := true, apart := false }
def FnExactOutsideTouchSaid : Prop := fnExactOutsideTouchRow.holds Try.pinned (OpenSpec.ofChange fnExactOutsideTouchSpec)

/-- ITS FALSE NEIGHBOUR: 'it returns false'. Refute it at one input. -/
def fnExactOutsideTouchWrong : ChangeSpec := { name := "fnExactOutsideTouch", fn := fun _ => fun
  | [d1, d2, d3] => { results := [.lit (.bool false)], args := [d1, d2, d3] }
  | _ => none }
def FnExactOutsideTouchWrongFalsely : Prop := fnExactOutsideTouchRow.holds Try.pinned (OpenSpec.ofChange fnExactOutsideTouchWrong)

/-- 'laws.FnExactInsideOk': WHATEVER THE INPUT: true; the input reads as it did. -/
def fnExactInsideOkSpec : ChangeSpec := { name := "fnExactInsideOk", fn := fun _ => fun
  | [d1, d2, d3] => { results := [.lit (.bool true)], args := [d1, d2, d3] }
  | _ => none }
def fnExactInsideOkRow : OpenClaim := { program := "ytncgcopdpoaagaa", sum := "63981cad26d6996d1baeefcf2a4c0b7be23aa4d619e70097d5d1f3481109484f", func := "loop.example/partsandwholes/laws.FnExactInsideOk", spec := "fnExactInsideOk", unfollowed := true, recurses := true, apart := false }
def FnExactInsideOkSaid : Prop := fnExactInsideOkRow.holds Try.pinned (OpenSpec.ofChange fnExactInsideOkSpec)

/-- ITS FALSE NEIGHBOUR: 'it returns false'. Refute it at one input. -/
def fnExactInsideOkWrong : ChangeSpec := { name := "fnExactInsideOk", fn := fun _ => fun
  | [d1, d2, d3] => { results := [.lit (.bool false)], args := [d1, d2, d3] }
  | _ => none }
def FnExactInsideOkWrongFalsely : Prop := fnExactInsideOkRow.holds Try.pinned (OpenSpec.ofChange fnExactInsideOkWrong)

/-- 'laws.FnExactBorderOf': WHATEVER THE INPUT: true; the input reads as it did. -/
def fnExactBorderOfSpec : ChangeSpec := { name := "fnExactBorderOf", fn := fun _ => fun
  | [d1, d2] => { results := [.lit (.bool true)], args := [d1, d2] }
  | _ => none }
def fnExactBorderOfRow : OpenClaim := { program := "ytncgcopdpoaagaa", sum := "63981cad26d6996d1baeefcf2a4c0b7be23aa4d619e70097d5d1f3481109484f", func := "loop.example/partsandwholes/laws.FnExactBorderOf", spec := "fnExactBorderOf", unfollowed := true, recurses := true, apart := false }
def FnExactBorderOfSaid : Prop := fnExactBorderOfRow.holds Try.pinned (OpenSpec.ofChange fnExactBorderOfSpec)

/-- ITS FALSE NEIGHBOUR: 'it returns false'. Refute it at one input. -/
def fnExactBorderOfWrong : ChangeSpec := { name := "fnExactBorderOf", fn := fun _ => fun
  | [d1, d2] => { results := [.lit (.bool false)], args := [d1, d2] }
  | _ => none }
def FnExactBorderOfWrongFalsely : Prop := fnExactBorderOfRow.holds Try.pinned (OpenSpec.ofChange fnExactBorderOfWrong)

/-- 'laws.FnExactGrownOf': WHATEVER THE INPUT: true; the input reads as it did. -/
def fnExactGrownOfSpec : ChangeSpec := { name := "fnExactGrownOf", fn := fun _ => fun
  | [d1, d2] => { results := [.lit (.bool true)], args := [d1, d2] }
  | _ => none }
def fnExactGrownOfRow : OpenClaim := { program := "ytncgcopdpoaagaa", sum := "63981cad26d6996d1baeefcf2a4c0b7be23aa4d619e70097d5d1f3481109484f", func := "loop.example/partsandwholes/laws.FnExactGrownOf", spec := "fnExactGrownOf", unfollowed := true, recurses := true, apart := false }
def FnExactGrownOfSaid : Prop := fnExactGrownOfRow.holds Try.pinned (OpenSpec.ofChange fnExactGrownOfSpec)

/-- ITS FALSE NEIGHBOUR: 'it returns false'. Refute it at one input. -/
def fnExactGrownOfWrong : ChangeSpec := { name := "fnExactGrownOf", fn := fun _ => fun
  | [d1, d2] => { results := [.lit (.bool false)], args := [d1, d2] }
  | _ => none }
def FnExactGrownOfWrongFalsely : Prop := fnExactGrownOfRow.holds Try.pinned (OpenSpec.ofChange fnExactGrownOfWrong)

/- THE SECOND FORM. 'bulk': how many values and letters a reading holds, each counted each time it is reached (what is shared counts as often as it is met; a slice's spare places count too). A statement '..UptoSaid' is the law's where the arguments, and the package variables that the reading takes, are together of bulk at most 1048576: NARROWER than '..Said'. Prove '..Said' where nothing that the law and all that it calls make is longer than what came in: it says more and counts as full. Else prove '..UptoSaid'. A law counts once. -/
mutual
def uptoBulk {H : Type} : DataW H → Nat
  | .lit (.string bytes) => bytes.length + 1
  | .lit _ => 1
  | .nil => 1
  | .ptr d => uptoBulk d + 1
  | .slice elems spare => uptoBulkAll elems + uptoBulkAll spare + 1
  | .agg parts => uptoBulkAll parts + 1
  | .iface _ d => uptoBulk d + 1
  | .map entries => uptoBulkEntries entries + 1
  | .held _ => 1
def uptoBulkAll {H : Type} : List (DataW H) → Nat
  | [] => 0
  | d :: r => uptoBulk d + uptoBulkAll r
def uptoBulkEntries {H : Type} : List (Lit × DataW H) → Nat
  | [] => 0
  | x :: r => uptoBulkEntry x + uptoBulkEntries r
def uptoBulkEntry {H : Type} : Lit × DataW H → Nat
  | (.string bytes, d) => bytes.length + uptoBulk d + 1
  | (_, d) => uptoBulk d + 1
 end
def uptoSmall : (H : Type) → List (DataW H) → Bool := fun _ ds => decide (uptoBulkAll ds ≤ 1048576)
def OpenSpec.upto (s : _root_.Go.ChangeSpec) : _root_.Go.OpenSpec := { _root_.Go.OpenSpec.ofChange s with cond := some uptoSmall }

/-- 'laws.FnGroundOk', WHERE WHAT IT READS IS OF BULK AT MOST 1048576: true; the input reads as it did. -/
def fnGroundOkUptoRow : OpenClaim := { program := "ytncgcopdpoaagaa", sum := "63981cad26d6996d1baeefcf2a4c0b7be23aa4d619e70097d5d1f3481109484f", func := "loop.example/partsandwholes/laws.FnGroundOk", spec := "fnGroundOk", apart := false, narrowed := true }
def FnGroundOkUptoSaid : Prop := fnGroundOkUptoRow.holds Try.pinned (OpenSpec.upto fnGroundOkSpec)

/-- 'laws.FnThingOk', WHERE WHAT IT READS IS OF BULK AT MOST 1048576: true; the input reads as it did. -/
def fnThingOkUptoRow : OpenClaim := { program := "ytncgcopdpoaagaa", sum := "63981cad26d6996d1baeefcf2a4c0b7be23aa4d619e70097d5d1f3481109484f", func := "loop.example/partsandwholes/laws.FnThingOk", spec := "fnThingOk", apart := false, narrowed := true }
def FnThingOkUptoSaid : Prop := fnThingOkUptoRow.holds Try.pinned (OpenSpec.upto fnThingOkSpec)

/-- 'laws.FnTouchOk', WHERE WHAT IT READS IS OF BULK AT MOST 1048576: true; the input reads as it did. -/
def fnTouchOkUptoRow : OpenClaim := { program := "ytncgcopdpoaagaa", sum := "63981cad26d6996d1baeefcf2a4c0b7be23aa4d619e70097d5d1f3481109484f", func := "loop.example/partsandwholes/laws.FnTouchOk", spec := "fnTouchOk", unfollowed := true, recurses := true, apart := false, narrowed := true }
def FnTouchOkUptoSaid : Prop := fnTouchOkUptoRow.holds Try.pinned (OpenSpec.upto fnTouchOkSpec)

/-- 'laws.FnOutsideTouch', WHERE WHAT IT READS IS OF BULK AT MOST 1048576: true; the input reads as it did. -/
def fnOutsideTouchUptoRow : OpenClaim := { program := "ytncgcopdpoaagaa", sum := "63981cad26d6996d1baeefcf2a4c0b7be23aa4d619e70097d5d1f3481109484f", func := "loop.example/partsandwholes/laws.FnOutsideTouch", spec := "fnOutsideTouch", unfollowed := true, recurses := true, apart := false, narrowed := true }
def FnOutsideTouchUptoSaid : Prop := fnOutsideTouchUptoRow.holds Try.pinned (OpenSpec.upto fnOutsideTouchSpec)

/-- 'laws.FnInsideOk', WHERE WHAT IT READS IS OF BULK AT MOST 1048576: true; the input reads as it did. -/
def fnInsideOkUptoRow : OpenClaim := { program := "ytncgcopdpoaagaa", sum := "63981cad26d6996d1baeefcf2a4c0b7be23aa4d619e70097d5d1f3481109484f", func := "loop.example/partsandwholes/laws.FnInsideOk", spec := "fnInsideOk", unfollowed := true, recurses := true, apart := false, narrowed := true }
def FnInsideOkUptoSaid : Prop := fnInsideOkUptoRow.holds Try.pinned (OpenSpec.upto fnInsideOkSpec)

/-- 'laws.FnBorderOf', WHERE WHAT IT READS IS OF BULK AT MOST 1048576: true; the input reads as it did. -/
def fnBorderOfUptoRow : OpenClaim := { program := "ytncgcopdpoaagaa", sum := "63981cad26d6996d1baeefcf2a4c0b7be23aa4d619e70097d5d1f3481109484f", func := "loop.example/partsandwholes/laws.FnBorderOf", spec := "fnBorderOf", unfollowed := true, recurses := true, apart := false, narrowed := true }
def FnBorderOfUptoSaid : Prop := fnBorderOfUptoRow.holds Try.pinned (OpenSpec.upto fnBorderOfSpec)

/-- 'laws.FnGrownOf', WHERE WHAT IT READS IS OF BULK AT MOST 1048576: true; the input reads as it did. -/
def fnGrownOfUptoRow : OpenClaim := { program := "ytncgcopdpoaagaa", sum := "63981cad26d6996d1baeefcf2a4c0b7be23aa4d619e70097d5d1f3481109484f", func := "loop.example/partsandwholes/laws.FnGrownOf", spec := "fnGrownOf", unfollowed := true, recurses := true, apart := false, narrowed := true }
def FnGrownOfUptoSaid : Prop := fnGrownOfUptoRow.holds Try.pinned (OpenSpec.upto fnGrownOfSpec)

/-- 'laws.FnExactGroundOk', WHERE WHAT IT READS IS OF BULK AT MOST 1048576: true; the input reads as it did. -/
def fnExactGroundOkUptoRow : OpenClaim := { program := "ytncgcopdpoaagaa", sum := "63981cad26d6996d1baeefcf2a4c0b7be23aa4d619e70097d5d1f3481109484f", func := "loop.example/partsandwholes/laws.FnExactGroundOk", spec := "fnExactGroundOk", apart := false, narrowed := true }
def FnExactGroundOkUptoSaid : Prop := fnExactGroundOkUptoRow.holds Try.pinned (OpenSpec.upto fnExactGroundOkSpec)

/-- 'laws.FnExactThingOk', WHERE WHAT IT READS IS OF BULK AT MOST 1048576: true; the input reads as it did. -/
def fnExactThingOkUptoRow : OpenClaim := { program := "ytncgcopdpoaagaa", sum := "63981cad26d6996d1baeefcf2a4c0b7be23aa4d619e70097d5d1f3481109484f", func := "loop.example/partsandwholes/laws.FnExactThingOk", spec := "fnExactThingOk", apart := false, narrowed := true }
def FnExactThingOkUptoSaid : Prop := fnExactThingOkUptoRow.holds Try.pinned (OpenSpec.upto fnExactThingOkSpec)

/-- 'laws.FnExactTouchOk', WHERE WHAT IT READS IS OF BULK AT MOST 1048576: true; the input reads as it did. -/
def fnExactTouchOkUptoRow : OpenClaim := { program := "ytncgcopdpoaagaa", sum := "63981cad26d6996d1baeefcf2a4c0b7be23aa4d619e70097d5d1f3481109484f", func := "loop.example/partsandwholes/laws.FnExactTouchOk", spec := "fnExactTouchOk", unfollowed := true, recurses := true, apart := false, narrowed := true }
def FnExactTouchOkUptoSaid : Prop := fnExactTouchOkUptoRow.holds Try.pinned (OpenSpec.upto fnExactTouchOkSpec)

/-- 'laws.FnExactOutsideTouch', WHERE WHAT IT READS IS OF BULK AT MOST 1048576: true; the input reads as it did. -/
def fnExactOutsideTouchUptoRow : OpenClaim := { program := "ytncgcopdpoaagaa", sum := "63981cad26d6996d1baeefcf2a4c0b7be23aa4d619e70097d5d1f3481109484f", func := "loop.example/partsandwholes/laws.FnExactOutsideTouch", spec := "fnExactOutsideTouch", unfollowed := true, recurses := true, apart := false, narrowed := true }
def FnExactOutsideTouchUptoSaid : Prop := fnExactOutsideTouchUptoRow.holds Try.pinned (OpenSpec.upto fnExactOutsideTouchSpec)

/-- 'laws.FnExactInsideOk', WHERE WHAT IT READS IS OF BULK AT MOST 1048576: true; the input reads as it did. -/
def fnExactInsideOkUptoRow : OpenClaim := { program := "ytncgcopdpoaagaa", sum := "63981cad26d6996d1baeefcf2a4c0b7be23aa4d619e70097d5d1f3481109484f", func := "loop.example/partsandwholes/laws.FnExactInsideOk", spec := "fnExactInsideOk", unfollowed := true, recurses := true, apart := false, narrowed := true }
def FnExactInsideOkUptoSaid : Prop := fnExactInsideOkUptoRow.holds Try.pinned (OpenSpec.upto fnExactInsideOkSpec)

/-- 'laws.FnExactBorderOf', WHERE WHAT IT READS IS OF BULK AT MOST 1048576: true; the input reads as it did. -/
def fnExactBorderOfUptoRow : OpenClaim := { program := "ytncgcopdpoaagaa", sum := "63981cad26d6996d1baeefcf2a4c0b7be23aa4d619e70097d5d1f3481109484f", func := "loop.example/partsandwholes/laws.FnExactBorderOf", spec := "fnExactBorderOf", unfollowed := true, recurses := true, apart := false, narrowed := true }
def FnExactBorderOfUptoSaid : Prop := fnExactBorderOfUptoRow.holds Try.pinned (OpenSpec.upto fnExactBorderOfSpec)

/-- 'laws.FnExactGrownOf', WHERE WHAT IT READS IS OF BULK AT MOST 1048576: true; the input reads as it did. -/
def fnExactGrownOfUptoRow : OpenClaim := { program := "ytncgcopdpoaagaa", sum := "63981cad26d6996d1baeefcf2a4c0b7be23aa4d619e70097d5d1f3481109484f", func := "loop.example/partsandwholes/laws.FnExactGrownOf", spec := "fnExactGrownOf", unfollowed := true, recurses := true, apart := false, narrowed := true }
def FnExactGrownOfUptoSaid : Prop := fnExactGrownOfUptoRow.holds Try.pinned (OpenSpec.upto fnExactGrownOfSpec)

end Rows
end Go.Proofs.Ytncgcopdpoaagaa
