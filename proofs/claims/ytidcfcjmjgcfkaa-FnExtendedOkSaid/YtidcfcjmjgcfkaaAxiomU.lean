import Derived.Test.YtidcfcjmjgcfkaaAxiomV
import Derived.Test.YtidcfcjmjgcfkaaOnceB
namespace Go.Proofs.Ytidcfcjmjgcfkaa
open Go.RowKit Go.Maps

/-- the proper parts of a thing -/
def ppsI (f : Nat → Int) (a : Nat) : Int := bits .andNot .i64 (f a) (2 ^ a)

set_option maxHeartbeats 1600000 in
theorem pps_any (bk off n cap : Nat) (a : Nat) (f : Nat → Int) (hn : n ≤ 7) (ha : a < n) (w : World) (hr : Row w bk off n f) :
    Calls Try.prog 63 #[.slice (some ⟨bk, off, none⟩) n cap, .int .i64 a] w fun e w' => e = .returned (.int .i64 (ppsI f a)) ∧ ∃ m, w' = w.drewN m := by
  have hc := hr a ha
  have ⟨hp1, hp2⟩ := pow_bounds a (by omega)
  have hai : (a : Int) < (n : Int) := by omega
  go_enter Try.func63, Try.ntmps63
  go_wp2_with fail
  go_quiet (fail)
  go_wp2_with fail
  go_ret
  exact ⟨rfl, _, rfl⟩

def companyG (f : Nat → Int) (whole part : Nat) : Bool := !neHas (f whole) part whole || ppsI f whole != 2 ^ part
def extendedG (f : Nat → Int) (a b : Nat) : Bool := atomB f a || ppsI f a != ppsI f b

theorem below_of_drewN (w : World) (m : Nat) : Below w.heap.size w (w.drewN m) := below_drewN (Below.refl _ _) m

set_option maxHeartbeats 1600000 in
theorem company_any (bk off n cap : Nat) (a b : Nat) (f : Nat → Int) (hn : n ≤ 7) (ha : a < n) (hb : b < n) (w : World) (hr : Row w bk off n f) :
    Calls Try.prog 53 #[.slice (some ⟨bk, off, none⟩) n cap, .int .i64 a, .int .i64 b] w (AskEnd (companyG f a b) w) := by
  have hc := hr a ha
  have hnot : ∀ (x : Bool) (w : World), (Op.unary .not (.bool x)).run Try.prog w = .ok (.bool (!x)) w := fun _ _ => rfl
  have ⟨hp1, hp2⟩ := pow_bounds b (by omega)
  have HR := Lib.hid hr; have HC := Lib.hid hc; clear hr hc
  cases hp : neHas (f a) b a with
  | false =>
    have HF := Lib.hid (show companyG f a b = true by unfold companyG; rw [hp]; rfl)
    have HP := Lib.hid hp; clear hp
    go_enter Try.func53, Try.ntmps53
    go_wp2_with fail
    go_quiet ((go_at_call 62; exact quiet_left (proper_val bk off n cap b a (f a) false ha (by omega) _ HP.out (by rw [World.cell?_drewN]; exact HC.out))))
    go_wp2_with fail
    go_ret
    exact ⟨retb HF.out.symm, below_of_drewN _ _⟩
  | true =>
    have HF := Lib.hid (show companyG f a b = (ppsI f a != 2 ^ b) by unfold companyG; rw [hp]; rfl)
    have HP := Lib.hid hp; clear hp
    go_enter Try.func53, Try.ntmps53
    go_wp2_with fail
    go_quiet (first | (go_at_call 62; exact quiet_left (proper_val bk off n cap b a (f a) true ha (by omega) _ HP.out (by rw [World.cell?_drewN]; exact HC.out))) | (go_at_call 63; exact Calls.quiet_of (pps_any bk off n cap a f hn ha _ (HR.out.drewN _))))
    go_wp2_with fail
    go_ret
    exact ⟨retb HF.out.symm, below_of_drewN _ _⟩

set_option maxHeartbeats 1600000 in
theorem extended_any (bk off n cap : Nat) (a b : Nat) (f : Nat → Int) (hn : n ≤ 7) (ha : a < n) (hb : b < n) (w : World) (hr : Row w bk off n f) :
    Calls Try.prog 56 #[.slice (some ⟨bk, off, none⟩) n cap, .int .i64 a, .int .i64 b] w (AskEnd (extendedG f a b) w) := by
  have HR := Lib.hid hr; clear hr
  cases hp : atomB f a with
  | true =>
    have HF := Lib.hid (show extendedG f a b = true by unfold extendedG; rw [hp]; rfl)
    have HP := Lib.hid hp; clear hp
    go_enter Try.func56, Try.ntmps56
    go_wp2_with fail
    refine (atom_any bk off n cap a f hn ha _ HR.out).mono ?_
    rintro e w' ⟨rfl, m, rfl⟩
    rw [HP.out]
    go_wp2_with fail
    go_ret
    exact ⟨retb HF.out.symm, below_of_drewN _ _⟩
  | false =>
    have HF := Lib.hid (show extendedG f a b = (ppsI f a != ppsI f b) by unfold extendedG; rw [hp]; rfl)
    have HP := Lib.hid hp; clear hp
    go_enter Try.func56, Try.ntmps56
    go_wp2_with fail
    refine (atom_any bk off n cap a f hn ha _ HR.out).mono ?_
    rintro e w' ⟨rfl, m, rfl⟩
    rw [HP.out]
    go_wp2_with fail
    refine (pps_any bk off n cap a f hn ha _ (HR.out.drewN _)).mono ?_
    rintro e w' ⟨rfl, m2, rfl⟩
    go_wp2_with fail
    refine (pps_any bk off n cap b f hn hb _ (HR.out.drewN _)).mono ?_
    rintro e w' ⟨rfl, m3, rfl⟩
    go_wp2_with fail
    go_ret
    exact ⟨retb HF.out.symm, by first | exact below_of_drewN _ _ | exact below_drewN (below_of_drewN _ _) _⟩

def companyB (n : Nat) (f : Nat → Int) : Bool := worldB n f && eachB n (companyG f)
def extendedB (n : Nat) (f : Nat → Int) : Bool := worldB n f && eachB n (extendedG f)

set_option maxHeartbeats 1600000 in
theorem CompanyOk_any (a : Option Addr) (n cap : Nat) (f : Nat → Int) (w : World) (hi : Ints w a n f) :
    Calls Try.prog 11 #[.slice a n cap] w fun e w' => e = .returned (.bool (companyB n f)) ∧ Below w.heap.size w w' := by
  have HI := Lib.hid hi; clear hi
  go_enter Try.func11, Try.ntmps11
  go_wp2_with fail
  refine (axiomOk_at nmCompany (by decide) 0 (by omega) (by kernel_rfl) (by kernel_rfl) 53 (fun _ _ _ h => h.2.2.1) (enters_of (P := Try.prog) Try.func53 (by kernel_rfl) rfl) n f (companyG f) (fun h7 bk cap a b wr ha hb hr _ => company_any bk 0 n cap a b f h7 ha hb wr hr) a cap _ HI.out).mono ?_
  rintro e w' ⟨rfl, hb⟩
  go_wp2_with fail
  go_ret
  exact ⟨rfl, hb⟩

set_option maxHeartbeats 1600000 in
theorem ExtendedOk_any (a : Option Addr) (n cap : Nat) (f : Nat → Int) (w : World) (hi : Ints w a n f) :
    Calls Try.prog 18 #[.slice a n cap] w fun e w' => e = .returned (.bool (extendedB n f)) ∧ Below w.heap.size w w' := by
  have HI := Lib.hid hi; clear hi
  go_enter Try.func18, Try.ntmps18
  go_wp2_with fail
  refine (axiomOk_at nmExtended (by decide) 3 (by omega) (by kernel_rfl) (by kernel_rfl) 56 (fun _ _ _ h => h.2.2.2.2.2) (enters_of (P := Try.prog) Try.func56 (by kernel_rfl) rfl) n f (extendedG f) (fun h7 bk cap a b wr ha hb hr _ => extended_any bk 0 n cap a b f h7 ha hb wr hr) a cap _ HI.out).mono ?_
  rintro e w' ⟨rfl, hb⟩
  go_wp2_with fail
  go_ret
  exact ⟨rfl, hb⟩
end Go.Proofs.Ytidcfcjmjgcfkaa
