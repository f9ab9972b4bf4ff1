/-
  No cell of these rows narrows 'for every input' (looked for: loops, veiled, ifaces, maps, wideKeys, modest, calm, conditions, laid).
  DERIVED. THE GIVEN ROWS OF THIS SEAT. 10 by the template 'for every input the law returns true; each argument reads behind the call as it read before'; 0 by the template 'total and deterministic' (their statements: YtglnefffkcillaaTotals.lean).
  GIVEN WITH THE SEED: the statements are not yours to turn. If you find one false, say at which input.
  Laid BY PROGRAM, IN A SANDBOX (cutbox-rows.mjs): the forced cells as the released guide's own fill.sh prints them over the translation 0b479f77f7fb3ae8… (all of the seat's roots in one cut). By AI agents, Wed Nov 11 2026. No macro, syntax, notation, axiom, sorry.
-/
import Derived.Test.YtglnefffkcillaaChecked
import GoSem.Claim
import GoSem.ClaimJoined
import GoSem.ClaimMapViews
import Derived.JoinedTies
import Derived.KernelRfl
namespace Go.Proofs.Ytglnefffkcillaa
/- THE CELL 'sum', in the pinned program and in every row, IS THE sha256 OF THE DUMP (.gsa) THAT YtglnefffkcillaaProg.lean LOADS. Nothing in Lean hashes anything: it is a label: what it is worth is what the hold of that sum in a sandbox is worth. -/
noncomputable def Try.pinned : Pinned := { name := "ytglnefffkcillaa", sum := "0b479f77f7fb3ae8158d38166786a5e9f076b9ecb5c045aaedc728d8bedc4c8e", checked := Try.checked }
namespace Rows
def none {H : Type} : Left H := { results := [], args := [] }

/-- 'laws.FnKindOk': WHATEVER THE INPUT: true; the input reads as it did. -/
def fnKindOkSpec : ChangeSpec := { name := "fnKindOk", fn := fun _ => fun
  | [d] => { results := [.lit (.bool true)], args := [d] }
  | _ => none }
def fnKindOkRow : OpenClaim := { program := "ytglnefffkcillaa", sum := "0b479f77f7fb3ae8158d38166786a5e9f076b9ecb5c045aaedc728d8bedc4c8e", func := "loop.example/partsandwholes/laws.FnKindOk", spec := "fnKindOk", unfollowed := true, recurses := true, apart := false }
def FnKindOkSaid : Prop := fnKindOkRow.holds Try.pinned (OpenSpec.ofChange fnKindOkSpec)

/-- ITS FALSE NEIGHBOUR: 'it returns false'. Refute it at one input. -/
def fnKindOkWrong : ChangeSpec := { name := "fnKindOk", fn := fun _ => fun
  | [d] => { results := [.lit (.bool false)], args := [d] }
  | _ => none }
def FnKindOkWrongFalsely : Prop := fnKindOkRow.holds Try.pinned (OpenSpec.ofChange fnKindOkWrong)

/-- 'laws.FnWorldsOf': WHATEVER THE INPUT: true; the input reads as it did. -/
def fnWorldsOfSpec : ChangeSpec := { name := "fnWorldsOf", fn := fun _ => fun
  | [d] => { results := [.lit (.bool true)], args := [d] }
  | _ => none }
def fnWorldsOfRow : OpenClaim := { program := "ytglnefffkcillaa", sum := "0b479f77f7fb3ae8158d38166786a5e9f076b9ecb5c045aaedc728d8bedc4c8e", func := "loop.example/partsandwholes/laws.FnWorldsOf", spec := "fnWorldsOf", unfollowed := true, recurses := true, apart := false }
def FnWorldsOfSaid : Prop := fnWorldsOfRow.holds Try.pinned (OpenSpec.ofChange fnWorldsOfSpec)

/-- ITS FALSE NEIGHBOUR: 'it returns false'. Refute it at one input. -/
def fnWorldsOfWrong : ChangeSpec := { name := "fnWorldsOf", fn := fun _ => fun
  | [d] => { results := [.lit (.bool false)], args := [d] }
  | _ => none }
def FnWorldsOfWrongFalsely : Prop := fnWorldsOfRow.holds Try.pinned (OpenSpec.ofChange fnWorldsOfWrong)

/-- 'laws.FnCountWorlds': WHATEVER THE INPUT: true; the input reads as it did. -/
def fnCountWorldsSpec : ChangeSpec := { name := "fnCountWorlds", fn := fun _ => fun
  | [d] => { results := [.lit (.bool true)], args := [d] }
  | _ => none }
def fnCountWorldsRow : OpenClaim := { program := "ytglnefffkcillaa", sum := "0b479f77f7fb3ae8158d38166786a5e9f076b9ecb5c045aaedc728d8bedc4c8e", func := "loop.example/partsandwholes/laws.FnCountWorlds", spec := "fnCountWorlds", unfollowed := true, recurses := true, apart := false }
def FnCountWorldsSaid : Prop := fnCountWorldsRow.holds Try.pinned (OpenSpec.ofChange fnCountWorldsSpec)

/-- ITS FALSE NEIGHBOUR: 'it returns false'. Refute it at one input. -/
def fnCountWorldsWrong : ChangeSpec := { name := "fnCountWorlds", fn := fun _ => fun
  | [d] => { results := [.lit (.bool false)], args := [d] }
  | _ => none }
def FnCountWorldsWrongFalsely : Prop := fnCountWorldsRow.holds Try.pinned (OpenSpec.ofChange fnCountWorldsWrong)

/-- 'laws.FnShapeOf': WHATEVER THE INPUT: true; the input reads as it did. -/
def fnShapeOfSpec : ChangeSpec := { name := "fnShapeOf", fn := fun _ => fun
  | [d] => { results := [.lit (.bool true)], args := [d] }
  | _ => none }
def fnShapeOfRow : OpenClaim := { program := "ytglnefffkcillaa", sum := "0b479f77f7fb3ae8158d38166786a5e9f076b9ecb5c045aaedc728d8bedc4c8e", func := "loop.example/partsandwholes/laws.FnShapeOf", spec := "fnShapeOf", unfollowed := true, recurses := true, apart := false }
def FnShapeOfSaid : Prop := fnShapeOfRow.holds Try.pinned (OpenSpec.ofChange fnShapeOfSpec)

/-- ITS FALSE NEIGHBOUR: 'it returns false'. Refute it at one input. -/
def fnShapeOfWrong : ChangeSpec := { name := "fnShapeOf", fn := fun _ => fun
  | [d] => { results := [.lit (.bool false)], args := [d] }
  | _ => none }
def FnShapeOfWrongFalsely : Prop := fnShapeOfRow.holds Try.pinned (OpenSpec.ofChange fnShapeOfWrong)

/-- 'laws.FnCountShapes': WHATEVER THE INPUT: true; the input reads as it did. -/
def fnCountShapesSpec : ChangeSpec := { name := "fnCountShapes", fn := fun _ => fun
  | [d] => { results := [.lit (.bool true)], args := [d] }
  | _ => none }
def fnCountShapesRow : OpenClaim := { program := "ytglnefffkcillaa", sum := "0b479f77f7fb3ae8158d38166786a5e9f076b9ecb5c045aaedc728d8bedc4c8e", func := "loop.example/partsandwholes/laws.FnCountShapes", spec := "fnCountShapes", unfollowed := true, recurses := true, apart := false }
def FnCountShapesSaid : Prop := fnCountShapesRow.holds Try.pinned (OpenSpec.ofChange fnCountShapesSpec)

/-- ITS FALSE NEIGHBOUR: 'it returns false'. Refute it at one input. -/
def fnCountShapesWrong : ChangeSpec := { name := "fnCountShapes", fn := fun _ => fun
  | [d] => { results := [.lit (.bool false)], args := [d] }
  | _ => none }
def FnCountShapesWrongFalsely : Prop := fnCountShapesRow.holds Try.pinned (OpenSpec.ofChange fnCountShapesWrong)

/-- 'laws.FnExactKindOk': WHATEVER THE INPUT: true; the input reads as it did. -/
def fnExactKindOkSpec : ChangeSpec := { name := "fnExactKindOk", fn := fun _ => fun
  | [d1, d2] => { results := [.lit (.bool true)], args := [d1, d2] }
  | _ => none }
def fnExactKindOkRow : OpenClaim := { program := "ytglnefffkcillaa", sum := "0b479f77f7fb3ae8158d38166786a5e9f076b9ecb5c045aaedc728d8bedc4c8e", func := "loop.example/partsandwholes/laws.FnExactKindOk", spec := "fnExactKindOk", unfollowed := true, recurses := true, apart := false }
def FnExactKindOkSaid : Prop := fnExactKindOkRow.holds Try.pinned (OpenSpec.ofChange fnExactKindOkSpec)

/-- ITS FALSE NEIGHBOUR: 'it returns false'. Refute it at one input. -/
def fnExactKindOkWrong : ChangeSpec := { name := "fnExactKindOk", fn := fun _ => fun
  | [d1, d2] => { results := [.lit (.bool false)], args := [d1, d2] }
  | _ => none }
def FnExactKindOkWrongFalsely : Prop := fnExactKindOkRow.holds Try.pinned (OpenSpec.ofChange fnExactKindOkWrong)

/-- 'laws.FnExactWorldsOf': WHATEVER THE INPUT: true; the input reads as it did. -/
def fnExactWorldsOfSpec : ChangeSpec := { name := "fnExactWorldsOf", fn := fun _ => fun
  | [d] => { results := [.lit (.bool true)], args := [d] }
  | _ => none }
def fnExactWorldsOfRow : OpenClaim := { program := "ytglnefffkcillaa", sum := "0b479f77f7fb3ae8158d38166786a5e9f076b9ecb5c045aaedc728d8bedc4c8e", func := "loop.example/partsandwholes/laws.FnExactWorldsOf", spec := "fnExactWorldsOf", unfollowed := true, recurses := true, apart := false }
def FnExactWorldsOfSaid : Prop := fnExactWorldsOfRow.holds Try.pinned (OpenSpec.ofChange fnExactWorldsOfSpec)

/-- ITS FALSE NEIGHBOUR: 'it returns false'. Refute it at one input. -/
def fnExactWorldsOfWrong : ChangeSpec := { name := "fnExactWorldsOf", fn := fun _ => fun
  | [d] => { results := [.lit (.bool false)], args := [d] }
  | _ => none }
def FnExactWorldsOfWrongFalsely : Prop := fnExactWorldsOfRow.holds Try.pinned (OpenSpec.ofChange fnExactWorldsOfWrong)

/-- 'laws.FnExactCountWorlds': WHATEVER THE INPUT: true; the input reads as it did. -/
def fnExactCountWorldsSpec : ChangeSpec := { name := "fnExactCountWorlds", fn := fun _ => fun
  | [d1, d2] => { results := [.lit (.bool true)], args := [d1, d2] }
  | _ => none }
def fnExactCountWorldsRow : OpenClaim := { program := "ytglnefffkcillaa", sum := "0b479f77f7fb3ae8158d38166786a5e9f076b9ecb5c045aaedc728d8bedc4c8e", func := "loop.example/partsandwholes/laws.FnExactCountWorlds", spec := "fnExactCountWorlds", unfollowed := true, recurses := true, apart := false }
def FnExactCountWorldsSaid : Prop := fnExactCountWorldsRow.holds Try.pinned (OpenSpec.ofChange fnExactCountWorldsSpec)

/-- ITS FALSE NEIGHBOUR: 'it returns false'. Refute it at one input. -/
def fnExactCountWorldsWrong : ChangeSpec := { name := "fnExactCountWorlds", fn := fun _ => fun
  | [d1, d2] => { results := [.lit (.bool false)], args := [d1, d2] }
  | _ => none }
def FnExactCountWorldsWrongFalsely : Prop := fnExactCountWorldsRow.holds Try.pinned (OpenSpec.ofChange fnExactCountWorldsWrong)

/-- 'laws.FnExactShapeOf': WHATEVER THE INPUT: true; the input reads as it did. -/
def fnExactShapeOfSpec : ChangeSpec := { name := "fnExactShapeOf", fn := fun _ => fun
  | [d] => { results := [.lit (.bool true)], args := [d] }
  | _ => none }
def fnExactShapeOfRow : OpenClaim := { program := "ytglnefffkcillaa", sum := "0b479f77f7fb3ae8158d38166786a5e9f076b9ecb5c045aaedc728d8bedc4c8e", func := "loop.example/partsandwholes/laws.FnExactShapeOf", spec := "fnExactShapeOf", unfollowed := true, recurses := true, apart := false }
def FnExactShapeOfSaid : Prop := fnExactShapeOfRow.holds Try.pinned (OpenSpec.ofChange fnExactShapeOfSpec)

/-- ITS FALSE NEIGHBOUR: 'it returns false'. Refute it at one input. -/
def fnExactShapeOfWrong : ChangeSpec := { name := "fnExactShapeOf", fn := fun _ => fun
  | [d] => { results := [.lit (.bool false)], args := [d] }
  | _ => none }
def FnExactShapeOfWrongFalsely : Prop := fnExactShapeOfRow.holds Try.pinned (OpenSpec.ofChange fnExactShapeOfWrong)

/-- 'laws.FnExactCountShapes': WHATEVER THE INPUT: true; the input reads as it did. -/
def fnExactCountShapesSpec : ChangeSpec := { name := "fnExactCountShapes", fn := fun _ => fun
  | [d] => { results := [.lit (.bool true)], args := [d] }
  | _ => none }
def fnExactCountShapesRow : OpenClaim := { program := "ytglnefffkcillaa", sum := "0b479f77f7fb3ae8158d38166786a5e9f076b9ecb5c045aaedc728d8bedc4c8e", func := "loop.example/partsandwholes/laws.FnExactCountShapes", spec := "fnExactCountShapes", unfollowed := true, recurses := true, apart := false }
def FnExactCountShapesSaid : Prop := fnExactCountShapesRow.holds Try.pinned (OpenSpec.ofChange fnExactCountShapesSpec)

/-- ITS FALSE NEIGHBOUR: 'it returns false'. Refute it at one input. -/
def fnExactCountShapesWrong : ChangeSpec := { name := "fnExactCountShapes", fn := fun _ => fun
  | [d] => { results := [.lit (.bool false)], args := [d] }
  | _ => none }
def FnExactCountShapesWrongFalsely : Prop := fnExactCountShapesRow.holds Try.pinned (OpenSpec.ofChange fnExactCountShapesWrong)

/- THE SECOND FORM. 'bulk': how many values and letters a reading holds, each counted each time it is reached (what is shared counts as often as it is met; a slice's spare places count too). A statement '..UptoSaid' is the law's where the arguments, and the package variables that the reading takes, are together of bulk at most 1048576: NARROWER than '..Said'. Prove '..Said' where nothing that the law and all that it calls make is longer than what came in: it says more and counts as full. Else prove '..UptoSaid'. A law counts once. -/
mutual
def uptoBulk {H : Type} : DataW H → Nat
  | .lit (.string bytes) => bytes.length + 1
  | .lit _ => 1
  | .nil => 1
  | .ptr d => uptoBulk d + 1
  | .slice elems spare => uptoBulkAll elems + uptoBulkAll spare + 1
  | .agg parts => uptoBulkAll parts + 1
  | .iface _ d => uptoBulk d + 1
  | .map entries => uptoBulkEntries entries + 1
  | .held _ => 1
def uptoBulkAll {H : Type} : List (DataW H) → Nat
  | [] => 0
  | d :: r => uptoBulk d + uptoBulkAll r
def uptoBulkEntries {H : Type} : List (Lit × DataW H) → Nat
  | [] => 0
  | x :: r => uptoBulkEntry x + uptoBulkEntries r
def uptoBulkEntry {H : Type} : Lit × DataW H → Nat
  | (.string bytes, d) => bytes.length + uptoBulk d + 1
  | (_, d) => uptoBulk d + 1
 end
def uptoSmall : (H : Type) → List (DataW H) → Bool := fun _ ds => decide (uptoBulkAll ds ≤ 1048576)
def OpenSpec.upto (s : _root_.Go.ChangeSpec) : _root_.Go.OpenSpec := { _root_.Go.OpenSpec.ofChange s with cond := some uptoSmall }

/-- 'laws.FnKindOk', WHERE WHAT IT READS IS OF BULK AT MOST 1048576: true; the input reads as it did. -/
def fnKindOkUptoRow : OpenClaim := { program := "ytglnefffkcillaa", sum := "0b479f77f7fb3ae8158d38166786a5e9f076b9ecb5c045aaedc728d8bedc4c8e", func := "loop.example/partsandwholes/laws.FnKindOk", spec := "fnKindOk", unfollowed := true, recurses := true, apart := false, narrowed := true }
def FnKindOkUptoSaid : Prop := fnKindOkUptoRow.holds Try.pinned (OpenSpec.upto fnKindOkSpec)

/-- 'laws.FnWorldsOf', WHERE WHAT IT READS IS OF BULK AT MOST 1048576: true; the input reads as it did. -/
def fnWorldsOfUptoRow : OpenClaim := { program := "ytglnefffkcillaa", sum := "0b479f77f7fb3ae8158d38166786a5e9f076b9ecb5c045aaedc728d8bedc4c8e", func := "loop.example/partsandwholes/laws.FnWorldsOf", spec := "fnWorldsOf", unfollowed := true, recurses := true, apart := false, narrowed := true }
def FnWorldsOfUptoSaid : Prop := fnWorldsOfUptoRow.holds Try.pinned (OpenSpec.upto fnWorldsOfSpec)

/-- 'laws.FnCountWorlds', WHERE WHAT IT READS IS OF BULK AT MOST 1048576: true; the input reads as it did. -/
def fnCountWorldsUptoRow : OpenClaim := { program := "ytglnefffkcillaa", sum := "0b479f77f7fb3ae8158d38166786a5e9f076b9ecb5c045aaedc728d8bedc4c8e", func := "loop.example/partsandwholes/laws.FnCountWorlds", spec := "fnCountWorlds", unfollowed := true, recurses := true, apart := false, narrowed := true }
def FnCountWorldsUptoSaid : Prop := fnCountWorldsUptoRow.holds Try.pinned (OpenSpec.upto fnCountWorldsSpec)

/-- 'laws.FnShapeOf', WHERE WHAT IT READS IS OF BULK AT MOST 1048576: true; the input reads as it did. -/
def fnShapeOfUptoRow : OpenClaim := { program := "ytglnefffkcillaa", sum := "0b479f77f7fb3ae8158d38166786a5e9f076b9ecb5c045aaedc728d8bedc4c8e", func := "loop.example/partsandwholes/laws.FnShapeOf", spec := "fnShapeOf", unfollowed := true, recurses := true, apart := false, narrowed := true }
def FnShapeOfUptoSaid : Prop := fnShapeOfUptoRow.holds Try.pinned (OpenSpec.upto fnShapeOfSpec)

/-- 'laws.FnCountShapes', WHERE WHAT IT READS IS OF BULK AT MOST 1048576: true; the input reads as it did. -/
def fnCountShapesUptoRow : OpenClaim := { program := "ytglnefffkcillaa", sum := "0b479f77f7fb3ae8158d38166786a5e9f076b9ecb5c045aaedc728d8bedc4c8e", func := "loop.example/partsandwholes/laws.FnCountShapes", spec := "fnCountShapes", unfollowed := true, recurses := true, apart := false, narrowed := true }
def FnCountShapesUptoSaid : Prop := fnCountShapesUptoRow.holds Try.pinned (OpenSpec.upto fnCountShapesSpec)

/-- 'laws.FnExactKindOk', WHERE WHAT IT READS IS OF BULK AT MOST 1048576: true; the input reads as it did. -/
def fnExactKindOkUptoRow : OpenClaim := { program := "ytglnefffkcillaa", sum := "0b479f77f7fb3ae8158d38166786a5e9f076b9ecb5c045aaedc728d8bedc4c8e", func := "loop.example/partsandwholes/laws.FnExactKindOk", spec := "fnExactKindOk", unfollowed := true, recurses := true, apart := false, narrowed := true }
def FnExactKindOkUptoSaid : Prop := fnExactKindOkUptoRow.holds Try.pinned (OpenSpec.upto fnExactKindOkSpec)

/-- 'laws.FnExactWorldsOf', WHERE WHAT IT READS IS OF BULK AT MOST 1048576: true; the input reads as it did. -/
def fnExactWorldsOfUptoRow : OpenClaim := { program := "ytglnefffkcillaa", sum := "0b479f77f7fb3ae8158d38166786a5e9f076b9ecb5c045aaedc728d8bedc4c8e", func := "loop.example/partsandwholes/laws.FnExactWorldsOf", spec := "fnExactWorldsOf", unfollowed := true, recurses := true, apart := false, narrowed := true }
def FnExactWorldsOfUptoSaid : Prop := fnExactWorldsOfUptoRow.holds Try.pinned (OpenSpec.upto fnExactWorldsOfSpec)

/-- 'laws.FnExactCountWorlds', WHERE WHAT IT READS IS OF BULK AT MOST 1048576: true; the input reads as it did. -/
def fnExactCountWorldsUptoRow : OpenClaim := { program := "ytglnefffkcillaa", sum := "0b479f77f7fb3ae8158d38166786a5e9f076b9ecb5c045aaedc728d8bedc4c8e", func := "loop.example/partsandwholes/laws.FnExactCountWorlds", spec := "fnExactCountWorlds", unfollowed := true, recurses := true, apart := false, narrowed := true }
def FnExactCountWorldsUptoSaid : Prop := fnExactCountWorldsUptoRow.holds Try.pinned (OpenSpec.upto fnExactCountWorldsSpec)

/-- 'laws.FnExactShapeOf', WHERE WHAT IT READS IS OF BULK AT MOST 1048576: true; the input reads as it did. -/
def fnExactShapeOfUptoRow : OpenClaim := { program := "ytglnefffkcillaa", sum := "0b479f77f7fb3ae8158d38166786a5e9f076b9ecb5c045aaedc728d8bedc4c8e", func := "loop.example/partsandwholes/laws.FnExactShapeOf", spec := "fnExactShapeOf", unfollowed := true, recurses := true, apart := false, narrowed := true }
def FnExactShapeOfUptoSaid : Prop := fnExactShapeOfUptoRow.holds Try.pinned (OpenSpec.upto fnExactShapeOfSpec)

/-- 'laws.FnExactCountShapes', WHERE WHAT IT READS IS OF BULK AT MOST 1048576: true; the input reads as it did. -/
def fnExactCountShapesUptoRow : OpenClaim := { program := "ytglnefffkcillaa", sum := "0b479f77f7fb3ae8158d38166786a5e9f076b9ecb5c045aaedc728d8bedc4c8e", func := "loop.example/partsandwholes/laws.FnExactCountShapes", spec := "fnExactCountShapes", unfollowed := true, recurses := true, apart := false, narrowed := true }
def FnExactCountShapesUptoSaid : Prop := fnExactCountShapesUptoRow.holds Try.pinned (OpenSpec.upto fnExactCountShapesSpec)

end Rows
end Go.Proofs.Ytglnefffkcillaa
