/-
  No cell of these rows narrows 'for every input' (looked for: loops, veiled, ifaces, maps, wideKeys, modest, calm, conditions, laid).
  DERIVED. THE GIVEN ROWS OF THIS SEAT. 7 by the template 'for every input the law returns true; each argument reads behind the call as it read before'; 0 by the template 'total and deterministic' (their statements: YtidcfcjmjgcfkaaTotals.lean).
  GIVEN WITH THE SEED: the statements are not yours to turn. If you find one false, say at which input.
  Laid BY PROGRAM, IN A SANDBOX (cutbox-rows.mjs): the forced cells as the released guide's own fill.sh prints them over the translation 3f1c8b00ccdf3572… (all of the seat's roots in one cut). By AI agents, Wed Nov 11 2026. No macro, syntax, notation, axiom, sorry.
-/
import Derived.Test.YtidcfcjmjgcfkaaChecked
import GoSem.Claim
import GoSem.ClaimJoined
import GoSem.ClaimMapViews
import Derived.JoinedTies
import Derived.KernelRfl
namespace Go.Proofs.Ytidcfcjmjgcfkaa
/- THE CELL 'sum', in the pinned program and in every row, IS THE sha256 OF THE DUMP (.gsa) THAT YtidcfcjmjgcfkaaProg.lean LOADS. Nothing in Lean hashes anything: it is a label: what it is worth is what the hold of that sum in a sandbox is worth. -/
noncomputable def Try.pinned : Pinned := { name := "ytidcfcjmjgcfkaa", sum := "3f1c8b00ccdf35726cef7892881d12f9e992ef3d449a09a0d0ebfef69ff6b8ad", checked := Try.checked }
namespace Rows
def none {H : Type} : Left H := { results := [], args := [] }

/-- 'laws.FnCompanyOk': WHATEVER THE INPUT: true; the input reads as it did. -/
def fnCompanyOkSpec : ChangeSpec := { name := "fnCompanyOk", fn := fun _ => fun
  | [d] => { results := [.lit (.bool true)], args := [d] }
  | _ => none }
def fnCompanyOkRow : OpenClaim := { program := "ytidcfcjmjgcfkaa", sum := "3f1c8b00ccdf35726cef7892881d12f9e992ef3d449a09a0d0ebfef69ff6b8ad", func := "loop.example/partsandwholes/laws.FnCompanyOk", spec := "fnCompanyOk", unfollowed := true, recurses := true, apart := false }
def FnCompanyOkSaid : Prop := fnCompanyOkRow.holds Try.pinned (OpenSpec.ofChange fnCompanyOkSpec)

/-- ITS FALSE NEIGHBOUR: 'it returns false'. Refute it at one input. -/
def fnCompanyOkWrong : ChangeSpec := { name := "fnCompanyOk", fn := fun _ => fun
  | [d] => { results := [.lit (.bool false)], args := [d] }
  | _ => none }
def FnCompanyOkWrongFalsely : Prop := fnCompanyOkRow.holds Try.pinned (OpenSpec.ofChange fnCompanyOkWrong)

/-- 'laws.FnStrongOk': WHATEVER THE INPUT: true; the input reads as it did. -/
def fnStrongOkSpec : ChangeSpec := { name := "fnStrongOk", fn := fun _ => fun
  | [d] => { results := [.lit (.bool true)], args := [d] }
  | _ => none }
def fnStrongOkRow : OpenClaim := { program := "ytidcfcjmjgcfkaa", sum := "3f1c8b00ccdf35726cef7892881d12f9e992ef3d449a09a0d0ebfef69ff6b8ad", func := "loop.example/partsandwholes/laws.FnStrongOk", spec := "fnStrongOk", inPlace := ["sync/atomic.LoadUint32", "(*internal/sync.Mutex).Lock", "internal/race.Disable", "sync/atomic.CompareAndSwapInt32", "internal/race.Enable", "internal/race.Acquire", "(*internal/sync.Mutex).lockSlow", "internal/sync.runtime_canSpin", "internal/sync.runtime_doSpin", "internal/sync.throw", "internal/sync.runtime_nanotime", "internal/sync.runtime_SemacquireMutex", "sync/atomic.AddInt32", "(*internal/sync.Mutex).Unlock", "internal/race.ReleaseMerge", "(*internal/sync.Mutex).unlockSlow", "internal/sync.fatal", "internal/sync.runtime_Semrelease", "sync/atomic.StoreUint32"], unfollowed := true, recurses := true, apart := false }
def FnStrongOkSaid : Prop := fnStrongOkRow.holds Try.pinned (OpenSpec.ofChange fnStrongOkSpec)

/-- ITS FALSE NEIGHBOUR: 'it returns false'. Refute it at one input. -/
def fnStrongOkWrong : ChangeSpec := { name := "fnStrongOk", fn := fun _ => fun
  | [d] => { results := [.lit (.bool false)], args := [d] }
  | _ => none }
def FnStrongOkWrongFalsely : Prop := fnStrongOkRow.holds Try.pinned (OpenSpec.ofChange fnStrongOkWrong)

/-- 'laws.FnExtendedOk': WHATEVER THE INPUT: true; the input reads as it did. -/
def fnExtendedOkSpec : ChangeSpec := { name := "fnExtendedOk", fn := fun _ => fun
  | [d] => { results := [.lit (.bool true)], args := [d] }
  | _ => none }
def fnExtendedOkRow : OpenClaim := { program := "ytidcfcjmjgcfkaa", sum := "3f1c8b00ccdf35726cef7892881d12f9e992ef3d449a09a0d0ebfef69ff6b8ad", func := "loop.example/partsandwholes/laws.FnExtendedOk", spec := "fnExtendedOk", unfollowed := true, recurses := true, apart := false }
def FnExtendedOkSaid : Prop := fnExtendedOkRow.holds Try.pinned (OpenSpec.ofChange fnExtendedOkSpec)

/-- ITS FALSE NEIGHBOUR: 'it returns false'. Refute it at one input. -/
def fnExtendedOkWrong : ChangeSpec := { name := "fnExtendedOk", fn := fun _ => fun
  | [d] => { results := [.lit (.bool false)], args := [d] }
  | _ => none }
def FnExtendedOkWrongFalsely : Prop := fnExtendedOkRow.holds Try.pinned (OpenSpec.ofChange fnExtendedOkWrong)

/-- 'laws.FnExactCompanyOk': WHATEVER THE INPUT: true; the input reads as it did. -/
def fnExactCompanyOkSpec : ChangeSpec := { name := "fnExactCompanyOk", fn := fun _ => fun
  | [d] => { results := [.lit (.bool true)], args := [d] }
  | _ => none }
def fnExactCompanyOkRow : OpenClaim := { program := "ytidcfcjmjgcfkaa", sum := "3f1c8b00ccdf35726cef7892881d12f9e992ef3d449a09a0d0ebfef69ff6b8ad", func := "loop.example/partsandwholes/laws.FnExactCompanyOk", spec := "fnExactCompanyOk", unfollowed := true, recurses := true, apart := false }
def FnExactCompanyOkSaid : Prop := fnExactCompanyOkRow.holds Try.pinned (OpenSpec.ofChange fnExactCompanyOkSpec)

/-- ITS FALSE NEIGHBOUR: 'it returns false'. Refute it at one input. -/
def fnExactCompanyOkWrong : ChangeSpec := { name := "fnExactCompanyOk", fn := fun _ => fun
  | [d] => { results := [.lit (.bool false)], args := [d] }
  | _ => none }
def FnExactCompanyOkWrongFalsely : Prop := fnExactCompanyOkRow.holds Try.pinned (OpenSpec.ofChange fnExactCompanyOkWrong)

/-- 'laws.FnExactWeakOk': WHATEVER THE INPUT: true; the input reads as it did. -/
def fnExactWeakOkSpec : ChangeSpec := { name := "fnExactWeakOk", fn := fun _ => fun
  | [d] => { results := [.lit (.bool true)], args := [d] }
  | _ => none }
def fnExactWeakOkRow : OpenClaim := { program := "ytidcfcjmjgcfkaa", sum := "3f1c8b00ccdf35726cef7892881d12f9e992ef3d449a09a0d0ebfef69ff6b8ad", func := "loop.example/partsandwholes/laws.FnExactWeakOk", spec := "fnExactWeakOk", unfollowed := true, recurses := true, apart := false }
def FnExactWeakOkSaid : Prop := fnExactWeakOkRow.holds Try.pinned (OpenSpec.ofChange fnExactWeakOkSpec)

/-- ITS FALSE NEIGHBOUR: 'it returns false'. Refute it at one input. -/
def fnExactWeakOkWrong : ChangeSpec := { name := "fnExactWeakOk", fn := fun _ => fun
  | [d] => { results := [.lit (.bool false)], args := [d] }
  | _ => none }
def FnExactWeakOkWrongFalsely : Prop := fnExactWeakOkRow.holds Try.pinned (OpenSpec.ofChange fnExactWeakOkWrong)

/-- 'laws.FnExactStrongOk': WHATEVER THE INPUT: true; the input reads as it did. -/
def fnExactStrongOkSpec : ChangeSpec := { name := "fnExactStrongOk", fn := fun _ => fun
  | [d] => { results := [.lit (.bool true)], args := [d] }
  | _ => none }
def fnExactStrongOkRow : OpenClaim := { program := "ytidcfcjmjgcfkaa", sum := "3f1c8b00ccdf35726cef7892881d12f9e992ef3d449a09a0d0ebfef69ff6b8ad", func := "loop.example/partsandwholes/laws.FnExactStrongOk", spec := "fnExactStrongOk", unfollowed := true, recurses := true, apart := false }
def FnExactStrongOkSaid : Prop := fnExactStrongOkRow.holds Try.pinned (OpenSpec.ofChange fnExactStrongOkSpec)

/-- ITS FALSE NEIGHBOUR: 'it returns false'. Refute it at one input. -/
def fnExactStrongOkWrong : ChangeSpec := { name := "fnExactStrongOk", fn := fun _ => fun
  | [d] => { results := [.lit (.bool false)], args := [d] }
  | _ => none }
def FnExactStrongOkWrongFalsely : Prop := fnExactStrongOkRow.holds Try.pinned (OpenSpec.ofChange fnExactStrongOkWrong)

/-- 'laws.FnExactExtendedOk': WHATEVER THE INPUT: true; the input reads as it did. -/
def fnExactExtendedOkSpec : ChangeSpec := { name := "fnExactExtendedOk", fn := fun _ => fun
  | [d] => { results := [.lit (.bool true)], args := [d] }
  | _ => none }
def fnExactExtendedOkRow : OpenClaim := { program := "ytidcfcjmjgcfkaa", sum := "3f1c8b00ccdf35726cef7892881d12f9e992ef3d449a09a0d0ebfef69ff6b8ad", func := "loop.example/partsandwholes/laws.FnExactExtendedOk", spec := "fnExactExtendedOk", unfollowed := true, recurses := true, apart := false }
def FnExactExtendedOkSaid : Prop := fnExactExtendedOkRow.holds Try.pinned (OpenSpec.ofChange fnExactExtendedOkSpec)

/-- ITS FALSE NEIGHBOUR: 'it returns false'. Refute it at one input. -/
def fnExactExtendedOkWrong : ChangeSpec := { name := "fnExactExtendedOk", fn := fun _ => fun
  | [d] => { results := [.lit (.bool false)], args := [d] }
  | _ => none }
def FnExactExtendedOkWrongFalsely : Prop := fnExactExtendedOkRow.holds Try.pinned (OpenSpec.ofChange fnExactExtendedOkWrong)

/- THE SECOND FORM. 'bulk': how many values and letters a reading holds, each counted each time it is reached (what is shared counts as often as it is met; a slice's spare places count too). A statement '..UptoSaid' is the law's where the arguments, and the package variables that the reading takes, are together of bulk at most 1048576: NARROWER than '..Said'. Prove '..Said' where nothing that the law and all that it calls make is longer than what came in: it says more and counts as full. Else prove '..UptoSaid'. A law counts once. -/
mutual
def uptoBulk {H : Type} : DataW H → Nat
  | .lit (.string bytes) => bytes.length + 1
  | .lit _ => 1
  | .nil => 1
  | .ptr d => uptoBulk d + 1
  | .slice elems spare => uptoBulkAll elems + uptoBulkAll spare + 1
  | .agg parts => uptoBulkAll parts + 1
  | .iface _ d => uptoBulk d + 1
  | .map entries => uptoBulkEntries entries + 1
  | .held _ => 1
def uptoBulkAll {H : Type} : List (DataW H) → Nat
  | [] => 0
  | d :: r => uptoBulk d + uptoBulkAll r
def uptoBulkEntries {H : Type} : List (Lit × DataW H) → Nat
  | [] => 0
  | x :: r => uptoBulkEntry x + uptoBulkEntries r
def uptoBulkEntry {H : Type} : Lit × DataW H → Nat
  | (.string bytes, d) => bytes.length + uptoBulk d + 1
  | (_, d) => uptoBulk d + 1
 end
def uptoSmall : (H : Type) → List (DataW H) → Bool := fun _ ds => decide (uptoBulkAll ds ≤ 1048576)
def OpenSpec.upto (s : _root_.Go.ChangeSpec) : _root_.Go.OpenSpec := { _root_.Go.OpenSpec.ofChange s with cond := some uptoSmall }

/-- 'laws.FnCompanyOk', WHERE WHAT IT READS IS OF BULK AT MOST 1048576: true; the input reads as it did. -/
def fnCompanyOkUptoRow : OpenClaim := { program := "ytidcfcjmjgcfkaa", sum := "3f1c8b00ccdf35726cef7892881d12f9e992ef3d449a09a0d0ebfef69ff6b8ad", func := "loop.example/partsandwholes/laws.FnCompanyOk", spec := "fnCompanyOk", unfollowed := true, recurses := true, apart := false, narrowed := true }
def FnCompanyOkUptoSaid : Prop := fnCompanyOkUptoRow.holds Try.pinned (OpenSpec.upto fnCompanyOkSpec)

/-- 'laws.FnStrongOk', WHERE WHAT IT READS IS OF BULK AT MOST 1048576: true; the input reads as it did. -/
def fnStrongOkUptoRow : OpenClaim := { program := "ytidcfcjmjgcfkaa", sum := "3f1c8b00ccdf35726cef7892881d12f9e992ef3d449a09a0d0ebfef69ff6b8ad", func := "loop.example/partsandwholes/laws.FnStrongOk", spec := "fnStrongOk", inPlace := ["sync/atomic.LoadUint32", "(*internal/sync.Mutex).Lock", "internal/race.Disable", "sync/atomic.CompareAndSwapInt32", "internal/race.Enable", "internal/race.Acquire", "(*internal/sync.Mutex).lockSlow", "internal/sync.runtime_canSpin", "internal/sync.runtime_doSpin", "internal/sync.throw", "internal/sync.runtime_nanotime", "internal/sync.runtime_SemacquireMutex", "sync/atomic.AddInt32", "(*internal/sync.Mutex).Unlock", "internal/race.ReleaseMerge", "(*internal/sync.Mutex).unlockSlow", "internal/sync.fatal", "internal/sync.runtime_Semrelease", "sync/atomic.StoreUint32"], unfollowed := true, recurses := true, apart := false, narrowed := true }
def FnStrongOkUptoSaid : Prop := fnStrongOkUptoRow.holds Try.pinned (OpenSpec.upto fnStrongOkSpec)

/-- 'laws.FnExtendedOk', WHERE WHAT IT READS IS OF BULK AT MOST 1048576: true; the input reads as it did. -/
def fnExtendedOkUptoRow : OpenClaim := { program := "ytidcfcjmjgcfkaa", sum := "3f1c8b00ccdf35726cef7892881d12f9e992ef3d449a09a0d0ebfef69ff6b8ad", func := "loop.example/partsandwholes/laws.FnExtendedOk", spec := "fnExtendedOk", unfollowed := true, recurses := true, apart := false, narrowed := true }
def FnExtendedOkUptoSaid : Prop := fnExtendedOkUptoRow.holds Try.pinned (OpenSpec.upto fnExtendedOkSpec)

/-- 'laws.FnExactCompanyOk', WHERE WHAT IT READS IS OF BULK AT MOST 1048576: true; the input reads as it did. -/
def fnExactCompanyOkUptoRow : OpenClaim := { program := "ytidcfcjmjgcfkaa", sum := "3f1c8b00ccdf35726cef7892881d12f9e992ef3d449a09a0d0ebfef69ff6b8ad", func := "loop.example/partsandwholes/laws.FnExactCompanyOk", spec := "fnExactCompanyOk", unfollowed := true, recurses := true, apart := false, narrowed := true }
def FnExactCompanyOkUptoSaid : Prop := fnExactCompanyOkUptoRow.holds Try.pinned (OpenSpec.upto fnExactCompanyOkSpec)

/-- 'laws.FnExactWeakOk', WHERE WHAT IT READS IS OF BULK AT MOST 1048576: true; the input reads as it did. -/
def fnExactWeakOkUptoRow : OpenClaim := { program := "ytidcfcjmjgcfkaa", sum := "3f1c8b00ccdf35726cef7892881d12f9e992ef3d449a09a0d0ebfef69ff6b8ad", func := "loop.example/partsandwholes/laws.FnExactWeakOk", spec := "fnExactWeakOk", unfollowed := true, recurses := true, apart := false, narrowed := true }
def FnExactWeakOkUptoSaid : Prop := fnExactWeakOkUptoRow.holds Try.pinned (OpenSpec.upto fnExactWeakOkSpec)

/-- 'laws.FnExactStrongOk', WHERE WHAT IT READS IS OF BULK AT MOST 1048576: true; the input reads as it did. -/
def fnExactStrongOkUptoRow : OpenClaim := { program := "ytidcfcjmjgcfkaa", sum := "3f1c8b00ccdf35726cef7892881d12f9e992ef3d449a09a0d0ebfef69ff6b8ad", func := "loop.example/partsandwholes/laws.FnExactStrongOk", spec := "fnExactStrongOk", unfollowed := true, recurses := true, apart := false, narrowed := true }
def FnExactStrongOkUptoSaid : Prop := fnExactStrongOkUptoRow.holds Try.pinned (OpenSpec.upto fnExactStrongOkSpec)

/-- 'laws.FnExactExtendedOk', WHERE WHAT IT READS IS OF BULK AT MOST 1048576: true; the input reads as it did. -/
def fnExactExtendedOkUptoRow : OpenClaim := { program := "ytidcfcjmjgcfkaa", sum := "3f1c8b00ccdf35726cef7892881d12f9e992ef3d449a09a0d0ebfef69ff6b8ad", func := "loop.example/partsandwholes/laws.FnExactExtendedOk", spec := "fnExactExtendedOk", unfollowed := true, recurses := true, apart := false, narrowed := true }
def FnExactExtendedOkUptoSaid : Prop := fnExactExtendedOkUptoRow.holds Try.pinned (OpenSpec.upto fnExactExtendedOkSpec)

end Rows
end Go.Proofs.Ytidcfcjmjgcfkaa
