/-
  No cell of these rows narrows 'for every input' (looked for: loops, veiled, ifaces, maps, wideKeys, modest, calm, conditions, laid).
  DERIVED. THE GIVEN ROWS OF THIS SEAT. 8 by the template 'for every input the law returns true; each argument reads behind the call as it read before'; 0 by the template 'total and deterministic' (their statements: YtadeebhnaapfeaaTotals.lean).
  GIVEN WITH THE SEED: the statements are not yours to turn. If you find one false, say at which input.
  Laid BY PROGRAM, IN A SANDBOX (cutbox-rows.mjs): the forced cells as the released guide's own fill.sh prints them over the translation 8e7caf85c85ed3ea… (all of the seat's roots in one cut). By AI agents, Wed Nov 11 2026. No macro, syntax, notation, axiom, sorry.
-/
import Derived.Test.YtadeebhnaapfeaaChecked
import GoSem.Claim
import GoSem.ClaimJoined
import GoSem.ClaimMapViews
import Derived.JoinedTies
import Derived.KernelRfl
namespace Go.Proofs.Ytadeebhnaapfeaa
/- THE CELL 'sum', in the pinned program and in every row, IS THE sha256 OF THE DUMP (.gsa) THAT YtadeebhnaapfeaaProg.lean LOADS. Nothing in Lean hashes anything: it is a label: what it is worth is what the hold of that sum in a sandbox is worth. -/
noncomputable def Try.pinned : Pinned := { name := "ytadeebhnaapfeaa", sum := "8e7caf85c85ed3eaaa02417936cad81a22fce0b9dce2f0869b450bd7f16bd663", checked := Try.checked }
namespace Rows
def none {H : Type} : Left H := { results := [], args := [] }

/-- 'laws.FnAtomsOf': WHATEVER THE INPUT: true; the input reads as it did. -/
def fnAtomsOfSpec : ChangeSpec := { name := "fnAtomsOf", fn := fun _ => fun
  | [d] => { results := [.lit (.bool true)], args := [d] }
  | _ => none }
def fnAtomsOfRow : OpenClaim := { program := "ytadeebhnaapfeaa", sum := "8e7caf85c85ed3eaaa02417936cad81a22fce0b9dce2f0869b450bd7f16bd663", func := "loop.example/partsandwholes/laws.FnAtomsOf", spec := "fnAtomsOf", inPlace := ["sync/atomic.LoadUint32", "(*internal/sync.Mutex).Lock", "internal/race.Disable", "sync/atomic.CompareAndSwapInt32", "internal/race.Enable", "internal/race.Acquire", "(*internal/sync.Mutex).lockSlow", "internal/sync.runtime_canSpin", "internal/sync.runtime_doSpin", "internal/sync.throw", "internal/sync.runtime_nanotime", "internal/sync.runtime_SemacquireMutex", "sync/atomic.AddInt32", "(*internal/sync.Mutex).Unlock", "internal/race.ReleaseMerge", "(*internal/sync.Mutex).unlockSlow", "internal/sync.fatal", "internal/sync.runtime_Semrelease", "sync/atomic.StoreUint32"], unfollowed := true, recurses := true, apart := false }
def FnAtomsOfSaid : Prop := fnAtomsOfRow.holds Try.pinned (OpenSpec.ofChange fnAtomsOfSpec)

/-- ITS FALSE NEIGHBOUR: 'it returns false'. Refute it at one input. -/
def fnAtomsOfWrong : ChangeSpec := { name := "fnAtomsOf", fn := fun _ => fun
  | [d] => { results := [.lit (.bool false)], args := [d] }
  | _ => none }
def FnAtomsOfWrongFalsely : Prop := fnAtomsOfRow.holds Try.pinned (OpenSpec.ofChange fnAtomsOfWrong)

/-- 'laws.FnAtomsIn': WHATEVER THE INPUT: true; the input reads as it did. -/
def fnAtomsInSpec : ChangeSpec := { name := "fnAtomsIn", fn := fun _ => fun
  | [d] => { results := [.lit (.bool true)], args := [d] }
  | _ => none }
def fnAtomsInRow : OpenClaim := { program := "ytadeebhnaapfeaa", sum := "8e7caf85c85ed3eaaa02417936cad81a22fce0b9dce2f0869b450bd7f16bd663", func := "loop.example/partsandwholes/laws.FnAtomsIn", spec := "fnAtomsIn", inPlace := ["sync/atomic.LoadUint32", "(*internal/sync.Mutex).Lock", "internal/race.Disable", "sync/atomic.CompareAndSwapInt32", "internal/race.Enable", "internal/race.Acquire", "(*internal/sync.Mutex).lockSlow", "internal/sync.runtime_canSpin", "internal/sync.runtime_doSpin", "internal/sync.throw", "internal/sync.runtime_nanotime", "internal/sync.runtime_SemacquireMutex", "sync/atomic.AddInt32", "(*internal/sync.Mutex).Unlock", "internal/race.ReleaseMerge", "(*internal/sync.Mutex).unlockSlow", "internal/sync.fatal", "internal/sync.runtime_Semrelease", "sync/atomic.StoreUint32"], unfollowed := true, recurses := true, apart := false }
def FnAtomsInSaid : Prop := fnAtomsInRow.holds Try.pinned (OpenSpec.ofChange fnAtomsInSpec)

/-- ITS FALSE NEIGHBOUR: 'it returns false'. Refute it at one input. -/
def fnAtomsInWrong : ChangeSpec := { name := "fnAtomsIn", fn := fun _ => fun
  | [d] => { results := [.lit (.bool false)], args := [d] }
  | _ => none }
def FnAtomsInWrongFalsely : Prop := fnAtomsInRow.holds Try.pinned (OpenSpec.ofChange fnAtomsInWrong)

/-- 'laws.FnToldByAtoms': WHATEVER THE INPUT: true; the input reads as it did. -/
def fnToldByAtomsSpec : ChangeSpec := { name := "fnToldByAtoms", fn := fun _ => fun
  | [d] => { results := [.lit (.bool true)], args := [d] }
  | _ => none }
def fnToldByAtomsRow : OpenClaim := { program := "ytadeebhnaapfeaa", sum := "8e7caf85c85ed3eaaa02417936cad81a22fce0b9dce2f0869b450bd7f16bd663", func := "loop.example/partsandwholes/laws.FnToldByAtoms", spec := "fnToldByAtoms", inPlace := ["sync/atomic.LoadUint32", "(*internal/sync.Mutex).Lock", "internal/race.Disable", "sync/atomic.CompareAndSwapInt32", "internal/race.Enable", "internal/race.Acquire", "(*internal/sync.Mutex).lockSlow", "internal/sync.runtime_canSpin", "internal/sync.runtime_doSpin", "internal/sync.throw", "internal/sync.runtime_nanotime", "internal/sync.runtime_SemacquireMutex", "sync/atomic.AddInt32", "(*internal/sync.Mutex).Unlock", "internal/race.ReleaseMerge", "(*internal/sync.Mutex).unlockSlow", "internal/sync.fatal", "internal/sync.runtime_Semrelease", "sync/atomic.StoreUint32"], unfollowed := true, recurses := true, apart := false }
def FnToldByAtomsSaid : Prop := fnToldByAtomsRow.holds Try.pinned (OpenSpec.ofChange fnToldByAtomsSpec)

/-- ITS FALSE NEIGHBOUR: 'it returns false'. Refute it at one input. -/
def fnToldByAtomsWrong : ChangeSpec := { name := "fnToldByAtoms", fn := fun _ => fun
  | [d] => { results := [.lit (.bool false)], args := [d] }
  | _ => none }
def FnToldByAtomsWrongFalsely : Prop := fnToldByAtomsRow.holds Try.pinned (OpenSpec.ofChange fnToldByAtomsWrong)

/-- 'laws.FnMadeOfAtoms': WHATEVER THE INPUT: true; the input reads as it did. -/
def fnMadeOfAtomsSpec : ChangeSpec := { name := "fnMadeOfAtoms", fn := fun _ => fun
  | [d] => { results := [.lit (.bool true)], args := [d] }
  | _ => none }
def fnMadeOfAtomsRow : OpenClaim := { program := "ytadeebhnaapfeaa", sum := "8e7caf85c85ed3eaaa02417936cad81a22fce0b9dce2f0869b450bd7f16bd663", func := "loop.example/partsandwholes/laws.FnMadeOfAtoms", spec := "fnMadeOfAtoms", inPlace := ["sync/atomic.LoadUint32", "(*internal/sync.Mutex).Lock", "internal/race.Disable", "sync/atomic.CompareAndSwapInt32", "internal/race.Enable", "internal/race.Acquire", "(*internal/sync.Mutex).lockSlow", "internal/sync.runtime_canSpin", "internal/sync.runtime_doSpin", "internal/sync.throw", "internal/sync.runtime_nanotime", "internal/sync.runtime_SemacquireMutex", "sync/atomic.AddInt32", "(*internal/sync.Mutex).Unlock", "internal/race.ReleaseMerge", "(*internal/sync.Mutex).unlockSlow", "internal/sync.fatal", "internal/sync.runtime_Semrelease", "sync/atomic.StoreUint32"], unfollowed := true, recurses := true, apart := false }
def FnMadeOfAtomsSaid : Prop := fnMadeOfAtomsRow.holds Try.pinned (OpenSpec.ofChange fnMadeOfAtomsSpec)

/-- ITS FALSE NEIGHBOUR: 'it returns false'. Refute it at one input. -/
def fnMadeOfAtomsWrong : ChangeSpec := { name := "fnMadeOfAtoms", fn := fun _ => fun
  | [d] => { results := [.lit (.bool false)], args := [d] }
  | _ => none }
def FnMadeOfAtomsWrongFalsely : Prop := fnMadeOfAtomsRow.holds Try.pinned (OpenSpec.ofChange fnMadeOfAtomsWrong)

/-- 'laws.FnExactAtomsOf': WHATEVER THE INPUT: true; the input reads as it did. -/
def fnExactAtomsOfSpec : ChangeSpec := { name := "fnExactAtomsOf", fn := fun _ => fun
  | [d] => { results := [.lit (.bool true)], args := [d] }
  | _ => none }
def fnExactAtomsOfRow : OpenClaim := { program := "ytadeebhnaapfeaa", sum := "8e7caf85c85ed3eaaa02417936cad81a22fce0b9dce2f0869b450bd7f16bd663", func := "loop.example/partsandwholes/laws.FnExactAtomsOf", spec := "fnExactAtomsOf", inPlace := ["sync/atomic.LoadUint32", "(*internal/sync.Mutex).Lock", "internal/race.Disable", "sync/atomic.CompareAndSwapInt32", "internal/race.Enable", "internal/race.Acquire", "(*internal/sync.Mutex).lockSlow", "internal/sync.runtime_canSpin", "internal/sync.runtime_doSpin", "internal/sync.throw", "internal/sync.runtime_nanotime", "internal/sync.runtime_SemacquireMutex", "sync/atomic.AddInt32", "(*internal/sync.Mutex).Unlock", "internal/race.ReleaseMerge", "(*internal/sync.Mutex).unlockSlow", "internal/sync.fatal", "internal/sync.runtime_Semrelease", "sync/atomic.StoreUint32"], unfollowed := true, recurses := true, apart := false }
def FnExactAtomsOfSaid : Prop := fnExactAtomsOfRow.holds Try.pinned (OpenSpec.ofChange fnExactAtomsOfSpec)

/-- ITS FALSE NEIGHBOUR: 'it returns false'. Refute it at one input. -/
def fnExactAtomsOfWrong : ChangeSpec := { name := "fnExactAtomsOf", fn := fun _ => fun
  | [d] => { results := [.lit (.bool false)], args := [d] }
  | _ => none }
def FnExactAtomsOfWrongFalsely : Prop := fnExactAtomsOfRow.holds Try.pinned (OpenSpec.ofChange fnExactAtomsOfWrong)

/-- 'laws.FnExactAtomsIn': WHATEVER THE INPUT: true; the input reads as it did. -/
def fnExactAtomsInSpec : ChangeSpec := { name := "fnExactAtomsIn", fn := fun _ => fun
  | [d1, d2] => { results := [.lit (.bool true)], args := [d1, d2] }
  | _ => none }
def fnExactAtomsInRow : OpenClaim := { program := "ytadeebhnaapfeaa", sum := "8e7caf85c85ed3eaaa02417936cad81a22fce0b9dce2f0869b450bd7f16bd663", func := "loop.example/partsandwholes/laws.FnExactAtomsIn", spec := "fnExactAtomsIn", inPlace := ["sync/atomic.LoadUint32", "(*internal/sync.Mutex).Lock", "internal/race.Disable", "sync/atomic.CompareAndSwapInt32", "internal/race.Enable", "internal/race.Acquire", "(*internal/sync.Mutex).lockSlow", "internal/sync.runtime_canSpin", "internal/sync.runtime_doSpin", "internal/sync.throw", "internal/sync.runtime_nanotime", "internal/sync.runtime_SemacquireMutex", "sync/atomic.AddInt32", "(*internal/sync.Mutex).Unlock", "internal/race.ReleaseMerge", "(*internal/sync.Mutex).unlockSlow", "internal/sync.fatal", "internal/sync.runtime_Semrelease", "sync/atomic.StoreUint32"], unfollowed := true, recurses := true, apart := false }
def FnExactAtomsInSaid : Prop := fnExactAtomsInRow.holds Try.pinned (OpenSpec.ofChange fnExactAtomsInSpec)

/-- ITS FALSE NEIGHBOUR: 'it returns false'. Refute it at one input. -/
def fnExactAtomsInWrong : ChangeSpec := { name := "fnExactAtomsIn", fn := fun _ => fun
  | [d1, d2] => { results := [.lit (.bool false)], args := [d1, d2] }
  | _ => none }
def FnExactAtomsInWrongFalsely : Prop := fnExactAtomsInRow.holds Try.pinned (OpenSpec.ofChange fnExactAtomsInWrong)

/-- 'laws.FnExactToldByAtoms': WHATEVER THE INPUT: true; the input reads as it did. -/
def fnExactToldByAtomsSpec : ChangeSpec := { name := "fnExactToldByAtoms", fn := fun _ => fun
  | [d] => { results := [.lit (.bool true)], args := [d] }
  | _ => none }
def fnExactToldByAtomsRow : OpenClaim := { program := "ytadeebhnaapfeaa", sum := "8e7caf85c85ed3eaaa02417936cad81a22fce0b9dce2f0869b450bd7f16bd663", func := "loop.example/partsandwholes/laws.FnExactToldByAtoms", spec := "fnExactToldByAtoms", inPlace := ["sync/atomic.LoadUint32", "(*internal/sync.Mutex).Lock", "internal/race.Disable", "sync/atomic.CompareAndSwapInt32", "internal/race.Enable", "internal/race.Acquire", "(*internal/sync.Mutex).lockSlow", "internal/sync.runtime_canSpin", "internal/sync.runtime_doSpin", "internal/sync.throw", "internal/sync.runtime_nanotime", "internal/sync.runtime_SemacquireMutex", "sync/atomic.AddInt32", "(*internal/sync.Mutex).Unlock", "internal/race.ReleaseMerge", "(*internal/sync.Mutex).unlockSlow", "internal/sync.fatal", "internal/sync.runtime_Semrelease", "sync/atomic.StoreUint32"], unfollowed := true, recurses := true, apart := false }
def FnExactToldByAtomsSaid : Prop := fnExactToldByAtomsRow.holds Try.pinned (OpenSpec.ofChange fnExactToldByAtomsSpec)

/-- ITS FALSE NEIGHBOUR: 'it returns false'. Refute it at one input. -/
def fnExactToldByAtomsWrong : ChangeSpec := { name := "fnExactToldByAtoms", fn := fun _ => fun
  | [d] => { results := [.lit (.bool false)], args := [d] }
  | _ => none }
def FnExactToldByAtomsWrongFalsely : Prop := fnExactToldByAtomsRow.holds Try.pinned (OpenSpec.ofChange fnExactToldByAtomsWrong)

/-- 'laws.FnExactMadeOfAtoms': WHATEVER THE INPUT: true; the input reads as it did. -/
def fnExactMadeOfAtomsSpec : ChangeSpec := { name := "fnExactMadeOfAtoms", fn := fun _ => fun
  | [d] => { results := [.lit (.bool true)], args := [d] }
  | _ => none }
def fnExactMadeOfAtomsRow : OpenClaim := { program := "ytadeebhnaapfeaa", sum := "8e7caf85c85ed3eaaa02417936cad81a22fce0b9dce2f0869b450bd7f16bd663", func := "loop.example/partsandwholes/laws.FnExactMadeOfAtoms", spec := "fnExactMadeOfAtoms", inPlace := ["sync/atomic.LoadUint32", "(*internal/sync.Mutex).Lock", "internal/race.Disable", "sync/atomic.CompareAndSwapInt32", "internal/race.Enable", "internal/race.Acquire", "(*internal/sync.Mutex).lockSlow", "internal/sync.runtime_canSpin", "internal/sync.runtime_doSpin", "internal/sync.throw", "internal/sync.runtime_nanotime", "internal/sync.runtime_SemacquireMutex", "sync/atomic.AddInt32", "(*internal/sync.Mutex).Unlock", "internal/race.ReleaseMerge", "(*internal/sync.Mutex).unlockSlow", "internal/sync.fatal", "internal/sync.runtime_Semrelease", "sync/atomic.StoreUint32"], unfollowed := true, recurses := true, apart := false }
def FnExactMadeOfAtomsSaid : Prop := fnExactMadeOfAtomsRow.holds Try.pinned (OpenSpec.ofChange fnExactMadeOfAtomsSpec)

/-- ITS FALSE NEIGHBOUR: 'it returns false'. Refute it at one input. -/
def fnExactMadeOfAtomsWrong : ChangeSpec := { name := "fnExactMadeOfAtoms", fn := fun _ => fun
  | [d] => { results := [.lit (.bool false)], args := [d] }
  | _ => none }
def FnExactMadeOfAtomsWrongFalsely : Prop := fnExactMadeOfAtomsRow.holds Try.pinned (OpenSpec.ofChange fnExactMadeOfAtomsWrong)

/- THE SECOND FORM. 'bulk': how many values and letters a reading holds, each counted each time it is reached (what is shared counts as often as it is met; a slice's spare places count too). A statement '..UptoSaid' is the law's where the arguments, and the package variables that the reading takes, are together of bulk at most 1048576: NARROWER than '..Said'. Prove '..Said' where nothing that the law and all that it calls make is longer than what came in: it says more and counts as full. Else prove '..UptoSaid'. A law counts once. -/
mutual
def uptoBulk {H : Type} : DataW H → Nat
  | .lit (.string bytes) => bytes.length + 1
  | .lit _ => 1
  | .nil => 1
  | .ptr d => uptoBulk d + 1
  | .slice elems spare => uptoBulkAll elems + uptoBulkAll spare + 1
  | .agg parts => uptoBulkAll parts + 1
  | .iface _ d => uptoBulk d + 1
  | .map entries => uptoBulkEntries entries + 1
  | .held _ => 1
def uptoBulkAll {H : Type} : List (DataW H) → Nat
  | [] => 0
  | d :: r => uptoBulk d + uptoBulkAll r
def uptoBulkEntries {H : Type} : List (Lit × DataW H) → Nat
  | [] => 0
  | x :: r => uptoBulkEntry x + uptoBulkEntries r
def uptoBulkEntry {H : Type} : Lit × DataW H → Nat
  | (.string bytes, d) => bytes.length + uptoBulk d + 1
  | (_, d) => uptoBulk d + 1
 end
def uptoSmall : (H : Type) → List (DataW H) → Bool := fun _ ds => decide (uptoBulkAll ds ≤ 1048576)
def OpenSpec.upto (s : _root_.Go.ChangeSpec) : _root_.Go.OpenSpec := { _root_.Go.OpenSpec.ofChange s with cond := some uptoSmall }

/-- 'laws.FnAtomsOf', WHERE WHAT IT READS IS OF BULK AT MOST 1048576: true; the input reads as it did. -/
def fnAtomsOfUptoRow : OpenClaim := { program := "ytadeebhnaapfeaa", sum := "8e7caf85c85ed3eaaa02417936cad81a22fce0b9dce2f0869b450bd7f16bd663", func := "loop.example/partsandwholes/laws.FnAtomsOf", spec := "fnAtomsOf", inPlace := ["sync/atomic.LoadUint32", "(*internal/sync.Mutex).Lock", "internal/race.Disable", "sync/atomic.CompareAndSwapInt32", "internal/race.Enable", "internal/race.Acquire", "(*internal/sync.Mutex).lockSlow", "internal/sync.runtime_canSpin", "internal/sync.runtime_doSpin", "internal/sync.throw", "internal/sync.runtime_nanotime", "internal/sync.runtime_SemacquireMutex", "sync/atomic.AddInt32", "(*internal/sync.Mutex).Unlock", "internal/race.ReleaseMerge", "(*internal/sync.Mutex).unlockSlow", "internal/sync.fatal", "internal/sync.runtime_Semrelease", "sync/atomic.StoreUint32"], unfollowed := true, recurses := true, apart := false, narrowed := true }
def FnAtomsOfUptoSaid : Prop := fnAtomsOfUptoRow.holds Try.pinned (OpenSpec.upto fnAtomsOfSpec)

/-- 'laws.FnAtomsIn', WHERE WHAT IT READS IS OF BULK AT MOST 1048576: true; the input reads as it did. -/
def fnAtomsInUptoRow : OpenClaim := { program := "ytadeebhnaapfeaa", sum := "8e7caf85c85ed3eaaa02417936cad81a22fce0b9dce2f0869b450bd7f16bd663", func := "loop.example/partsandwholes/laws.FnAtomsIn", spec := "fnAtomsIn", inPlace := ["sync/atomic.LoadUint32", "(*internal/sync.Mutex).Lock", "internal/race.Disable", "sync/atomic.CompareAndSwapInt32", "internal/race.Enable", "internal/race.Acquire", "(*internal/sync.Mutex).lockSlow", "internal/sync.runtime_canSpin", "internal/sync.runtime_doSpin", "internal/sync.throw", "internal/sync.runtime_nanotime", "internal/sync.runtime_SemacquireMutex", "sync/atomic.AddInt32", "(*internal/sync.Mutex).Unlock", "internal/race.ReleaseMerge", "(*internal/sync.Mutex).unlockSlow", "internal/sync.fatal", "internal/sync.runtime_Semrelease", "sync/atomic.StoreUint32"], unfollowed := true, recurses := true, apart := false, narrowed := true }
def FnAtomsInUptoSaid : Prop := fnAtomsInUptoRow.holds Try.pinned (OpenSpec.upto fnAtomsInSpec)

/-- 'laws.FnToldByAtoms', WHERE WHAT IT READS IS OF BULK AT MOST 1048576: true; the input reads as it did. -/
def fnToldByAtomsUptoRow : OpenClaim := { program := "ytadeebhnaapfeaa", sum := "8e7caf85c85ed3eaaa02417936cad81a22fce0b9dce2f0869b450bd7f16bd663", func := "loop.example/partsandwholes/laws.FnToldByAtoms", spec := "fnToldByAtoms", inPlace := ["sync/atomic.LoadUint32", "(*internal/sync.Mutex).Lock", "internal/race.Disable", "sync/atomic.CompareAndSwapInt32", "internal/race.Enable", "internal/race.Acquire", "(*internal/sync.Mutex).lockSlow", "internal/sync.runtime_canSpin", "internal/sync.runtime_doSpin", "internal/sync.throw", "internal/sync.runtime_nanotime", "internal/sync.runtime_SemacquireMutex", "sync/atomic.AddInt32", "(*internal/sync.Mutex).Unlock", "internal/race.ReleaseMerge", "(*internal/sync.Mutex).unlockSlow", "internal/sync.fatal", "internal/sync.runtime_Semrelease", "sync/atomic.StoreUint32"], unfollowed := true, recurses := true, apart := false, narrowed := true }
def FnToldByAtomsUptoSaid : Prop := fnToldByAtomsUptoRow.holds Try.pinned (OpenSpec.upto fnToldByAtomsSpec)

/-- 'laws.FnMadeOfAtoms', WHERE WHAT IT READS IS OF BULK AT MOST 1048576: true; the input reads as it did. -/
def fnMadeOfAtomsUptoRow : OpenClaim := { program := "ytadeebhnaapfeaa", sum := "8e7caf85c85ed3eaaa02417936cad81a22fce0b9dce2f0869b450bd7f16bd663", func := "loop.example/partsandwholes/laws.FnMadeOfAtoms", spec := "fnMadeOfAtoms", inPlace := ["sync/atomic.LoadUint32", "(*internal/sync.Mutex).Lock", "internal/race.Disable", "sync/atomic.CompareAndSwapInt32", "internal/race.Enable", "internal/race.Acquire", "(*internal/sync.Mutex).lockSlow", "internal/sync.runtime_canSpin", "internal/sync.runtime_doSpin", "internal/sync.throw", "internal/sync.runtime_nanotime", "internal/sync.runtime_SemacquireMutex", "sync/atomic.AddInt32", "(*internal/sync.Mutex).Unlock", "internal/race.ReleaseMerge", "(*internal/sync.Mutex).unlockSlow", "internal/sync.fatal", "internal/sync.runtime_Semrelease", "sync/atomic.StoreUint32"], unfollowed := true, recurses := true, apart := false, narrowed := true }
def FnMadeOfAtomsUptoSaid : Prop := fnMadeOfAtomsUptoRow.holds Try.pinned (OpenSpec.upto fnMadeOfAtomsSpec)

/-- 'laws.FnExactAtomsOf', WHERE WHAT IT READS IS OF BULK AT MOST 1048576: true; the input reads as it did. -/
def fnExactAtomsOfUptoRow : OpenClaim := { program := "ytadeebhnaapfeaa", sum := "8e7caf85c85ed3eaaa02417936cad81a22fce0b9dce2f0869b450bd7f16bd663", func := "loop.example/partsandwholes/laws.FnExactAtomsOf", spec := "fnExactAtomsOf", inPlace := ["sync/atomic.LoadUint32", "(*internal/sync.Mutex).Lock", "internal/race.Disable", "sync/atomic.CompareAndSwapInt32", "internal/race.Enable", "internal/race.Acquire", "(*internal/sync.Mutex).lockSlow", "internal/sync.runtime_canSpin", "internal/sync.runtime_doSpin", "internal/sync.throw", "internal/sync.runtime_nanotime", "internal/sync.runtime_SemacquireMutex", "sync/atomic.AddInt32", "(*internal/sync.Mutex).Unlock", "internal/race.ReleaseMerge", "(*internal/sync.Mutex).unlockSlow", "internal/sync.fatal", "internal/sync.runtime_Semrelease", "sync/atomic.StoreUint32"], unfollowed := true, recurses := true, apart := false, narrowed := true }
def FnExactAtomsOfUptoSaid : Prop := fnExactAtomsOfUptoRow.holds Try.pinned (OpenSpec.upto fnExactAtomsOfSpec)

/-- 'laws.FnExactAtomsIn', WHERE WHAT IT READS IS OF BULK AT MOST 1048576: true; the input reads as it did. -/
def fnExactAtomsInUptoRow : OpenClaim := { program := "ytadeebhnaapfeaa", sum := "8e7caf85c85ed3eaaa02417936cad81a22fce0b9dce2f0869b450bd7f16bd663", func := "loop.example/partsandwholes/laws.FnExactAtomsIn", spec := "fnExactAtomsIn", inPlace := ["sync/atomic.LoadUint32", "(*internal/sync.Mutex).Lock", "internal/race.Disable", "sync/atomic.CompareAndSwapInt32", "internal/race.Enable", "internal/race.Acquire", "(*internal/sync.Mutex).lockSlow", "internal/sync.runtime_canSpin", "internal/sync.runtime_doSpin", "internal/sync.throw", "internal/sync.runtime_nanotime", "internal/sync.runtime_SemacquireMutex", "sync/atomic.AddInt32", "(*internal/sync.Mutex).Unlock", "internal/race.ReleaseMerge", "(*internal/sync.Mutex).unlockSlow", "internal/sync.fatal", "internal/sync.runtime_Semrelease", "sync/atomic.StoreUint32"], unfollowed := true, recurses := true, apart := false, narrowed := true }
def FnExactAtomsInUptoSaid : Prop := fnExactAtomsInUptoRow.holds Try.pinned (OpenSpec.upto fnExactAtomsInSpec)

/-- 'laws.FnExactToldByAtoms', WHERE WHAT IT READS IS OF BULK AT MOST 1048576: true; the input reads as it did. -/
def fnExactToldByAtomsUptoRow : OpenClaim := { program := "ytadeebhnaapfeaa", sum := "8e7caf85c85ed3eaaa02417936cad81a22fce0b9dce2f0869b450bd7f16bd663", func := "loop.example/partsandwholes/laws.FnExactToldByAtoms", spec := "fnExactToldByAtoms", inPlace := ["sync/atomic.LoadUint32", "(*internal/sync.Mutex).Lock", "internal/race.Disable", "sync/atomic.CompareAndSwapInt32", "internal/race.Enable", "internal/race.Acquire", "(*internal/sync.Mutex).lockSlow", "internal/sync.runtime_canSpin", "internal/sync.runtime_doSpin", "internal/sync.throw", "internal/sync.runtime_nanotime", "internal/sync.runtime_SemacquireMutex", "sync/atomic.AddInt32", "(*internal/sync.Mutex).Unlock", "internal/race.ReleaseMerge", "(*internal/sync.Mutex).unlockSlow", "internal/sync.fatal", "internal/sync.runtime_Semrelease", "sync/atomic.StoreUint32"], unfollowed := true, recurses := true, apart := false, narrowed := true }
def FnExactToldByAtomsUptoSaid : Prop := fnExactToldByAtomsUptoRow.holds Try.pinned (OpenSpec.upto fnExactToldByAtomsSpec)

/-- 'laws.FnExactMadeOfAtoms', WHERE WHAT IT READS IS OF BULK AT MOST 1048576: true; the input reads as it did. -/
def fnExactMadeOfAtomsUptoRow : OpenClaim := { program := "ytadeebhnaapfeaa", sum := "8e7caf85c85ed3eaaa02417936cad81a22fce0b9dce2f0869b450bd7f16bd663", func := "loop.example/partsandwholes/laws.FnExactMadeOfAtoms", spec := "fnExactMadeOfAtoms", inPlace := ["sync/atomic.LoadUint32", "(*internal/sync.Mutex).Lock", "internal/race.Disable", "sync/atomic.CompareAndSwapInt32", "internal/race.Enable", "internal/race.Acquire", "(*internal/sync.Mutex).lockSlow", "internal/sync.runtime_canSpin", "internal/sync.runtime_doSpin", "internal/sync.throw", "internal/sync.runtime_nanotime", "internal/sync.runtime_SemacquireMutex", "sync/atomic.AddInt32", "(*internal/sync.Mutex).Unlock", "internal/race.ReleaseMerge", "(*internal/sync.Mutex).unlockSlow", "internal/sync.fatal", "internal/sync.runtime_Semrelease", "sync/atomic.StoreUint32"], unfollowed := true, recurses := true, apart := false, narrowed := true }
def FnExactMadeOfAtomsUptoSaid : Prop := fnExactMadeOfAtomsUptoRow.holds Try.pinned (OpenSpec.upto fnExactMadeOfAtomsSpec)

end Rows
end Go.Proofs.Ytadeebhnaapfeaa
