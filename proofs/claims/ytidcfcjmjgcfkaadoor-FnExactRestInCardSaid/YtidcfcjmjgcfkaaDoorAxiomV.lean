import Derived.Test.YtidcfcjmjgcfkaaDoorAxiomW
namespace Go.Proofs.YtidcfcjmjgcfkaaDoor
open Go.RowKit Go.Maps

def weakB (n : Nat) (f : Nat → Int) : Bool := worldB n f && eachB n (weakG n f)
def strongB (n : Nat) (f : Nat → Int) : Bool := worldB n f && eachB n (strongG n f)

set_option maxHeartbeats 1600000 in
theorem WeakOk_any (a : Option Addr) (n cap : Nat) (f : Nat → Int) (w : World) (hi : Ints w a n f) :
    Calls Tryd.prog 7 #[.slice a n cap] w fun e w' => e = .returned (.bool (weakB n f)) ∧ Below w.heap.size w w' := by
  have HI := Lib.hid hi; clear hi
  go_enter Tryd.func7, Tryd.ntmps7
  go_wp2_with fail
  refine (axiomOk_at nmWeak (by decide) 1 (by omega) (by kernel_rfl) (by kernel_rfl) 50 (fun _ _ _ h => h.2.2.2.1) (enters_of (P := Tryd.prog) Tryd.func50 (by kernel_rfl) rfl) n f (weakG n f) (fun h7 bk cap a b wr ha hb hr hlt => weak_any bk n cap a b f h7 ha hb wr hr hlt) a cap _ HI.out).mono ?_
  rintro e w' ⟨rfl, hb⟩
  go_wp2_with fail
  go_ret
  exact ⟨rfl, hb⟩

set_option maxHeartbeats 1600000 in
theorem StrongOk_any (a : Option Addr) (n cap : Nat) (f : Nat → Int) (w : World) (hi : Ints w a n f) :
    Calls Tryd.prog 12 #[.slice a n cap] w fun e w' => e = .returned (.bool (strongB n f)) ∧ Below w.heap.size w w' := by
  have HI := Lib.hid hi; clear hi
  go_enter Tryd.func12, Tryd.ntmps12
  go_wp2_with fail
  refine (axiomOk_at nmStrong (by decide) 2 (by omega) (by kernel_rfl) (by kernel_rfl) 51 (fun _ _ _ h => h.2.2.2.2.1) (enters_of (P := Tryd.prog) Tryd.func51 (by kernel_rfl) rfl) n f (strongG n f) (fun h7 bk cap a b wr ha hb hr hlt => strong_any bk n cap a b f h7 ha hb wr hr hlt) a cap _ HI.out).mono ?_
  rintro e w' ⟨rfl, hb⟩
  go_wp2_with fail
  go_ret
  exact ⟨rfl, hb⟩
end Go.Proofs.YtidcfcjmjgcfkaaDoor
