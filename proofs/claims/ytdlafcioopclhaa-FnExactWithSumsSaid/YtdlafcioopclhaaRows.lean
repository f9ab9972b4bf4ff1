/-
  No cell of these rows narrows 'for every input' (looked for: loops, veiled, ifaces, maps, wideKeys, modest, calm, conditions, laid).
  DERIVED. THE GIVEN ROWS OF THIS SEAT. 8 by the template 'for every input the law returns true; each argument reads behind the call as it read before'; 0 by the template 'total and deterministic' (their statements: YtdlafcioopclhaaTotals.lean).
  GIVEN WITH THE SEED: the statements are not yours to turn. If you find one false, say at which input.
  Laid BY PROGRAM, IN A SANDBOX (cutbox-rows.mjs): the forced cells as the released guide's own fill.sh prints them over the translation ccab85a41ddd92a2… (all of the seat's roots in one cut). By AI agents, Wed Nov 11 2026. No macro, syntax, notation, axiom, sorry.
-/
import Derived.Test.YtdlafcioopclhaaChecked
import GoSem.Claim
import GoSem.ClaimJoined
import GoSem.ClaimMapViews
import Derived.JoinedTies
import Derived.KernelRfl
namespace Go.Proofs.Ytdlafcioopclhaa
/- THE CELL 'sum', in the pinned program and in every row, IS THE sha256 OF THE DUMP (.gsa) THAT YtdlafcioopclhaaProg.lean LOADS. Nothing in Lean hashes anything: it is a label: what it is worth is what the hold of that sum in a sandbox is worth. -/
noncomputable def Try.pinned : Pinned := { name := "ytdlafcioopclhaa", sum := "ccab85a41ddd92a24f90bceb4a9e182eaa9cf377fbe27cc70b9af85aa82bbb74", checked := Try.checked }
namespace Rows
def none {H : Type} : Left H := { results := [], args := [] }

/-- 'laws.FnFamilyOk': WHATEVER THE INPUT: true; the input reads as it did. -/
def fnFamilyOkSpec : ChangeSpec := { name := "fnFamilyOk", fn := fun _ => fun
  | [d] => { results := [.lit (.bool true)], args := [d] }
  | _ => none }
def fnFamilyOkRow : OpenClaim := { program := "ytdlafcioopclhaa", sum := "ccab85a41ddd92a24f90bceb4a9e182eaa9cf377fbe27cc70b9af85aa82bbb74", func := "loop.example/partsandwholes/laws.FnFamilyOk", spec := "fnFamilyOk", inPlace := ["slices.overlaps[int]"], apart := false }
def FnFamilyOkSaid : Prop := fnFamilyOkRow.holds Try.pinned (OpenSpec.ofChange fnFamilyOkSpec)

/-- ITS FALSE NEIGHBOUR: 'it returns false'. Refute it at one input. -/
def fnFamilyOkWrong : ChangeSpec := { name := "fnFamilyOk", fn := fun _ => fun
  | [d] => { results := [.lit (.bool false)], args := [d] }
  | _ => none }
def FnFamilyOkWrongFalsely : Prop := fnFamilyOkRow.holds Try.pinned (OpenSpec.ofChange fnFamilyOkWrong)

/-- 'laws.FnWorldFrom': WHATEVER THE INPUT: true; the input reads as it did. -/
def fnWorldFromSpec : ChangeSpec := { name := "fnWorldFrom", fn := fun _ => fun
  | [d] => { results := [.lit (.bool true)], args := [d] }
  | _ => none }
def fnWorldFromRow : OpenClaim := { program := "ytdlafcioopclhaa", sum := "ccab85a41ddd92a24f90bceb4a9e182eaa9cf377fbe27cc70b9af85aa82bbb74", func := "loop.example/partsandwholes/laws.FnWorldFrom", spec := "fnWorldFrom", inPlace := ["slices.overlaps[int]"], unfollowed := true, recurses := true, apart := false }
def FnWorldFromSaid : Prop := fnWorldFromRow.holds Try.pinned (OpenSpec.ofChange fnWorldFromSpec)

/-- ITS FALSE NEIGHBOUR: 'it returns false'. Refute it at one input. -/
def fnWorldFromWrong : ChangeSpec := { name := "fnWorldFrom", fn := fun _ => fun
  | [d] => { results := [.lit (.bool false)], args := [d] }
  | _ => none }
def FnWorldFromWrongFalsely : Prop := fnWorldFromRow.holds Try.pinned (OpenSpec.ofChange fnWorldFromWrong)

/-- 'laws.FnWithPoints': WHATEVER THE INPUT: true; the input reads as it did. -/
def fnWithPointsSpec : ChangeSpec := { name := "fnWithPoints", fn := fun _ => fun
  | [d] => { results := [.lit (.bool true)], args := [d] }
  | _ => none }
def fnWithPointsRow : OpenClaim := { program := "ytdlafcioopclhaa", sum := "ccab85a41ddd92a24f90bceb4a9e182eaa9cf377fbe27cc70b9af85aa82bbb74", func := "loop.example/partsandwholes/laws.FnWithPoints", spec := "fnWithPoints", inPlace := ["slices.overlaps[int]", "sync/atomic.LoadUint32", "(*internal/sync.Mutex).Lock", "internal/race.Disable", "sync/atomic.CompareAndSwapInt32", "internal/race.Enable", "internal/race.Acquire", "(*internal/sync.Mutex).lockSlow", "internal/sync.runtime_canSpin", "internal/sync.runtime_doSpin", "internal/sync.throw", "internal/sync.runtime_nanotime", "internal/sync.runtime_SemacquireMutex", "sync/atomic.AddInt32", "(*internal/sync.Mutex).Unlock", "internal/race.ReleaseMerge", "(*internal/sync.Mutex).unlockSlow", "internal/sync.fatal", "internal/sync.runtime_Semrelease", "sync/atomic.StoreUint32"], unfollowed := true, recurses := true, apart := false }
def FnWithPointsSaid : Prop := fnWithPointsRow.holds Try.pinned (OpenSpec.ofChange fnWithPointsSpec)

/-- ITS FALSE NEIGHBOUR: 'it returns false'. Refute it at one input. -/
def fnWithPointsWrong : ChangeSpec := { name := "fnWithPoints", fn := fun _ => fun
  | [d] => { results := [.lit (.bool false)], args := [d] }
  | _ => none }
def FnWithPointsWrongFalsely : Prop := fnWithPointsRow.holds Try.pinned (OpenSpec.ofChange fnWithPointsWrong)

/-- 'laws.FnExactFamilyOk': WHATEVER THE INPUT: true; the input reads as it did. -/
def fnExactFamilyOkSpec : ChangeSpec := { name := "fnExactFamilyOk", fn := fun _ => fun
  | [d] => { results := [.lit (.bool true)], args := [d] }
  | _ => none }
def fnExactFamilyOkRow : OpenClaim := { program := "ytdlafcioopclhaa", sum := "ccab85a41ddd92a24f90bceb4a9e182eaa9cf377fbe27cc70b9af85aa82bbb74", func := "loop.example/partsandwholes/laws.FnExactFamilyOk", spec := "fnExactFamilyOk", inPlace := ["slices.overlaps[int]"], apart := false }
def FnExactFamilyOkSaid : Prop := fnExactFamilyOkRow.holds Try.pinned (OpenSpec.ofChange fnExactFamilyOkSpec)

/-- ITS FALSE NEIGHBOUR: 'it returns false'. Refute it at one input. -/
def fnExactFamilyOkWrong : ChangeSpec := { name := "fnExactFamilyOk", fn := fun _ => fun
  | [d] => { results := [.lit (.bool false)], args := [d] }
  | _ => none }
def FnExactFamilyOkWrongFalsely : Prop := fnExactFamilyOkRow.holds Try.pinned (OpenSpec.ofChange fnExactFamilyOkWrong)

/-- 'laws.FnExactWorldFrom': WHATEVER THE INPUT: true; the input reads as it did. -/
def fnExactWorldFromSpec : ChangeSpec := { name := "fnExactWorldFrom", fn := fun _ => fun
  | [d] => { results := [.lit (.bool true)], args := [d] }
  | _ => none }
def fnExactWorldFromRow : OpenClaim := { program := "ytdlafcioopclhaa", sum := "ccab85a41ddd92a24f90bceb4a9e182eaa9cf377fbe27cc70b9af85aa82bbb74", func := "loop.example/partsandwholes/laws.FnExactWorldFrom", spec := "fnExactWorldFrom", inPlace := ["slices.overlaps[int]"], unfollowed := true, recurses := true, apart := false }
def FnExactWorldFromSaid : Prop := fnExactWorldFromRow.holds Try.pinned (OpenSpec.ofChange fnExactWorldFromSpec)

/-- ITS FALSE NEIGHBOUR: 'it returns false'. Refute it at one input. -/
def fnExactWorldFromWrong : ChangeSpec := { name := "fnExactWorldFrom", fn := fun _ => fun
  | [d] => { results := [.lit (.bool false)], args := [d] }
  | _ => none }
def FnExactWorldFromWrongFalsely : Prop := fnExactWorldFromRow.holds Try.pinned (OpenSpec.ofChange fnExactWorldFromWrong)

/-- 'laws.FnExactFamilyOf': WHATEVER THE INPUT: true; the input reads as it did. -/
def fnExactFamilyOfSpec : ChangeSpec := { name := "fnExactFamilyOf", fn := fun _ => fun
  | [d] => { results := [.lit (.bool true)], args := [d] }
  | _ => none }
def fnExactFamilyOfRow : OpenClaim := { program := "ytdlafcioopclhaa", sum := "ccab85a41ddd92a24f90bceb4a9e182eaa9cf377fbe27cc70b9af85aa82bbb74", func := "loop.example/partsandwholes/laws.FnExactFamilyOf", spec := "fnExactFamilyOf", inPlace := ["sync/atomic.LoadUint32", "(*internal/sync.Mutex).Lock", "internal/race.Disable", "sync/atomic.CompareAndSwapInt32", "internal/race.Enable", "internal/race.Acquire", "(*internal/sync.Mutex).lockSlow", "internal/sync.runtime_canSpin", "internal/sync.runtime_doSpin", "internal/sync.throw", "internal/sync.runtime_nanotime", "internal/sync.runtime_SemacquireMutex", "sync/atomic.AddInt32", "(*internal/sync.Mutex).Unlock", "internal/race.ReleaseMerge", "(*internal/sync.Mutex).unlockSlow", "internal/sync.fatal", "internal/sync.runtime_Semrelease", "sync/atomic.StoreUint32"], unfollowed := true, recurses := true, apart := false }
def FnExactFamilyOfSaid : Prop := fnExactFamilyOfRow.holds Try.pinned (OpenSpec.ofChange fnExactFamilyOfSpec)

/-- ITS FALSE NEIGHBOUR: 'it returns false'. Refute it at one input. -/
def fnExactFamilyOfWrong : ChangeSpec := { name := "fnExactFamilyOf", fn := fun _ => fun
  | [d] => { results := [.lit (.bool false)], args := [d] }
  | _ => none }
def FnExactFamilyOfWrongFalsely : Prop := fnExactFamilyOfRow.holds Try.pinned (OpenSpec.ofChange fnExactFamilyOfWrong)

/-- 'laws.FnExactWithPoints': WHATEVER THE INPUT: true; the input reads as it did. -/
def fnExactWithPointsSpec : ChangeSpec := { name := "fnExactWithPoints", fn := fun _ => fun
  | [d] => { results := [.lit (.bool true)], args := [d] }
  | _ => none }
def fnExactWithPointsRow : OpenClaim := { program := "ytdlafcioopclhaa", sum := "ccab85a41ddd92a24f90bceb4a9e182eaa9cf377fbe27cc70b9af85aa82bbb74", func := "loop.example/partsandwholes/laws.FnExactWithPoints", spec := "fnExactWithPoints", inPlace := ["slices.overlaps[int]"], unfollowed := true, recurses := true, apart := false }
def FnExactWithPointsSaid : Prop := fnExactWithPointsRow.holds Try.pinned (OpenSpec.ofChange fnExactWithPointsSpec)

/-- ITS FALSE NEIGHBOUR: 'it returns false'. Refute it at one input. -/
def fnExactWithPointsWrong : ChangeSpec := { name := "fnExactWithPoints", fn := fun _ => fun
  | [d] => { results := [.lit (.bool false)], args := [d] }
  | _ => none }
def FnExactWithPointsWrongFalsely : Prop := fnExactWithPointsRow.holds Try.pinned (OpenSpec.ofChange fnExactWithPointsWrong)

/-- 'laws.FnExactWithSums': WHATEVER THE INPUT: true; the input reads as it did. -/
def fnExactWithSumsSpec : ChangeSpec := { name := "fnExactWithSums", fn := fun _ => fun
  | [d] => { results := [.lit (.bool true)], args := [d] }
  | _ => none }
def fnExactWithSumsRow : OpenClaim := { program := "ytdlafcioopclhaa", sum := "ccab85a41ddd92a24f90bceb4a9e182eaa9cf377fbe27cc70b9af85aa82bbb74", func := "loop.example/partsandwholes/laws.FnExactWithSums", spec := "fnExactWithSums", inPlace := ["slices.overlaps[int]"], unfollowed := true, recurses := true, apart := false }
def FnExactWithSumsSaid : Prop := fnExactWithSumsRow.holds Try.pinned (OpenSpec.ofChange fnExactWithSumsSpec)

/-- ITS FALSE NEIGHBOUR: 'it returns false'. Refute it at one input. -/
def fnExactWithSumsWrong : ChangeSpec := { name := "fnExactWithSums", fn := fun _ => fun
  | [d] => { results := [.lit (.bool false)], args := [d] }
  | _ => none }
def FnExactWithSumsWrongFalsely : Prop := fnExactWithSumsRow.holds Try.pinned (OpenSpec.ofChange fnExactWithSumsWrong)

/- THE SECOND FORM. 'bulk': how many values and letters a reading holds, each counted each time it is reached (what is shared counts as often as it is met; a slice's spare places count too). A statement '..UptoSaid' is the law's where the arguments, and the package variables that the reading takes, are together of bulk at most 1048576: NARROWER than '..Said'. Prove '..Said' where nothing that the law and all that it calls make is longer than what came in: it says more and counts as full. Else prove '..UptoSaid'. A law counts once. -/
mutual
def uptoBulk {H : Type} : DataW H → Nat
  | .lit (.string bytes) => bytes.length + 1
  | .lit _ => 1
  | .nil => 1
  | .ptr d => uptoBulk d + 1
  | .slice elems spare => uptoBulkAll elems + uptoBulkAll spare + 1
  | .agg parts => uptoBulkAll parts + 1
  | .iface _ d => uptoBulk d + 1
  | .map entries => uptoBulkEntries entries + 1
  | .held _ => 1
def uptoBulkAll {H : Type} : List (DataW H) → Nat
  | [] => 0
  | d :: r => uptoBulk d + uptoBulkAll r
def uptoBulkEntries {H : Type} : List (Lit × DataW H) → Nat
  | [] => 0
  | x :: r => uptoBulkEntry x + uptoBulkEntries r
def uptoBulkEntry {H : Type} : Lit × DataW H → Nat
  | (.string bytes, d) => bytes.length + uptoBulk d + 1
  | (_, d) => uptoBulk d + 1
 end
def uptoSmall : (H : Type) → List (DataW H) → Bool := fun _ ds => decide (uptoBulkAll ds ≤ 1048576)
def OpenSpec.upto (s : _root_.Go.ChangeSpec) : _root_.Go.OpenSpec := { _root_.Go.OpenSpec.ofChange s with cond := some uptoSmall }

/-- 'laws.FnFamilyOk', WHERE WHAT IT READS IS OF BULK AT MOST 1048576: true; the input reads as it did. -/
def fnFamilyOkUptoRow : OpenClaim := { program := "ytdlafcioopclhaa", sum := "ccab85a41ddd92a24f90bceb4a9e182eaa9cf377fbe27cc70b9af85aa82bbb74", func := "loop.example/partsandwholes/laws.FnFamilyOk", spec := "fnFamilyOk", inPlace := ["slices.overlaps[int]"], apart := false, narrowed := true }
def FnFamilyOkUptoSaid : Prop := fnFamilyOkUptoRow.holds Try.pinned (OpenSpec.upto fnFamilyOkSpec)

/-- 'laws.FnWorldFrom', WHERE WHAT IT READS IS OF BULK AT MOST 1048576: true; the input reads as it did. -/
def fnWorldFromUptoRow : OpenClaim := { program := "ytdlafcioopclhaa", sum := "ccab85a41ddd92a24f90bceb4a9e182eaa9cf377fbe27cc70b9af85aa82bbb74", func := "loop.example/partsandwholes/laws.FnWorldFrom", spec := "fnWorldFrom", inPlace := ["slices.overlaps[int]"], unfollowed := true, recurses := true, apart := false, narrowed := true }
def FnWorldFromUptoSaid : Prop := fnWorldFromUptoRow.holds Try.pinned (OpenSpec.upto fnWorldFromSpec)

/-- 'laws.FnWithPoints', WHERE WHAT IT READS IS OF BULK AT MOST 1048576: true; the input reads as it did. -/
def fnWithPointsUptoRow : OpenClaim := { program := "ytdlafcioopclhaa", sum := "ccab85a41ddd92a24f90bceb4a9e182eaa9cf377fbe27cc70b9af85aa82bbb74", func := "loop.example/partsandwholes/laws.FnWithPoints", spec := "fnWithPoints", inPlace := ["slices.overlaps[int]", "sync/atomic.LoadUint32", "(*internal/sync.Mutex).Lock", "internal/race.Disable", "sync/atomic.CompareAndSwapInt32", "internal/race.Enable", "internal/race.Acquire", "(*internal/sync.Mutex).lockSlow", "internal/sync.runtime_canSpin", "internal/sync.runtime_doSpin", "internal/sync.throw", "internal/sync.runtime_nanotime", "internal/sync.runtime_SemacquireMutex", "sync/atomic.AddInt32", "(*internal/sync.Mutex).Unlock", "internal/race.ReleaseMerge", "(*internal/sync.Mutex).unlockSlow", "internal/sync.fatal", "internal/sync.runtime_Semrelease", "sync/atomic.StoreUint32"], unfollowed := true, recurses := true, apart := false, narrowed := true }
def FnWithPointsUptoSaid : Prop := fnWithPointsUptoRow.holds Try.pinned (OpenSpec.upto fnWithPointsSpec)

/-- 'laws.FnExactFamilyOk', WHERE WHAT IT READS IS OF BULK AT MOST 1048576: true; the input reads as it did. -/
def fnExactFamilyOkUptoRow : OpenClaim := { program := "ytdlafcioopclhaa", sum := "ccab85a41ddd92a24f90bceb4a9e182eaa9cf377fbe27cc70b9af85aa82bbb74", func := "loop.example/partsandwholes/laws.FnExactFamilyOk", spec := "fnExactFamilyOk", inPlace := ["slices.overlaps[int]"], apart := false, narrowed := true }
def FnExactFamilyOkUptoSaid : Prop := fnExactFamilyOkUptoRow.holds Try.pinned (OpenSpec.upto fnExactFamilyOkSpec)

/-- 'laws.FnExactWorldFrom', WHERE WHAT IT READS IS OF BULK AT MOST 1048576: true; the input reads as it did. -/
def fnExactWorldFromUptoRow : OpenClaim := { program := "ytdlafcioopclhaa", sum := "ccab85a41ddd92a24f90bceb4a9e182eaa9cf377fbe27cc70b9af85aa82bbb74", func := "loop.example/partsandwholes/laws.FnExactWorldFrom", spec := "fnExactWorldFrom", inPlace := ["slices.overlaps[int]"], unfollowed := true, recurses := true, apart := false, narrowed := true }
def FnExactWorldFromUptoSaid : Prop := fnExactWorldFromUptoRow.holds Try.pinned (OpenSpec.upto fnExactWorldFromSpec)

/-- 'laws.FnExactFamilyOf', WHERE WHAT IT READS IS OF BULK AT MOST 1048576: true; the input reads as it did. -/
def fnExactFamilyOfUptoRow : OpenClaim := { program := "ytdlafcioopclhaa", sum := "ccab85a41ddd92a24f90bceb4a9e182eaa9cf377fbe27cc70b9af85aa82bbb74", func := "loop.example/partsandwholes/laws.FnExactFamilyOf", spec := "fnExactFamilyOf", inPlace := ["sync/atomic.LoadUint32", "(*internal/sync.Mutex).Lock", "internal/race.Disable", "sync/atomic.CompareAndSwapInt32", "internal/race.Enable", "internal/race.Acquire", "(*internal/sync.Mutex).lockSlow", "internal/sync.runtime_canSpin", "internal/sync.runtime_doSpin", "internal/sync.throw", "internal/sync.runtime_nanotime", "internal/sync.runtime_SemacquireMutex", "sync/atomic.AddInt32", "(*internal/sync.Mutex).Unlock", "internal/race.ReleaseMerge", "(*internal/sync.Mutex).unlockSlow", "internal/sync.fatal", "internal/sync.runtime_Semrelease", "sync/atomic.StoreUint32"], unfollowed := true, recurses := true, apart := false, narrowed := true }
def FnExactFamilyOfUptoSaid : Prop := fnExactFamilyOfUptoRow.holds Try.pinned (OpenSpec.upto fnExactFamilyOfSpec)

/-- 'laws.FnExactWithPoints', WHERE WHAT IT READS IS OF BULK AT MOST 1048576: true; the input reads as it did. -/
def fnExactWithPointsUptoRow : OpenClaim := { program := "ytdlafcioopclhaa", sum := "ccab85a41ddd92a24f90bceb4a9e182eaa9cf377fbe27cc70b9af85aa82bbb74", func := "loop.example/partsandwholes/laws.FnExactWithPoints", spec := "fnExactWithPoints", inPlace := ["slices.overlaps[int]"], unfollowed := true, recurses := true, apart := false, narrowed := true }
def FnExactWithPointsUptoSaid : Prop := fnExactWithPointsUptoRow.holds Try.pinned (OpenSpec.upto fnExactWithPointsSpec)

/-- 'laws.FnExactWithSums', WHERE WHAT IT READS IS OF BULK AT MOST 1048576: true; the input reads as it did. -/
def fnExactWithSumsUptoRow : OpenClaim := { program := "ytdlafcioopclhaa", sum := "ccab85a41ddd92a24f90bceb4a9e182eaa9cf377fbe27cc70b9af85aa82bbb74", func := "loop.example/partsandwholes/laws.FnExactWithSums", spec := "fnExactWithSums", inPlace := ["slices.overlaps[int]"], unfollowed := true, recurses := true, apart := false, narrowed := true }
def FnExactWithSumsUptoSaid : Prop := fnExactWithSumsUptoRow.holds Try.pinned (OpenSpec.upto fnExactWithSumsSpec)

end Rows
end Go.Proofs.Ytdlafcioopclhaa
