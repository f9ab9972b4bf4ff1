import Derived.Test.YtglnefffkcillaaDraws
import Derived.Deep.RegionHeld3
namespace Go.Proofs.Ytglnefffkcillaa
set_option linter.unusedVariables false
set_option linter.unusedSimpArgs false
open Go.RowKit

theorem DrawKindOk_any (a : Option Addr) (n cap : Nat) (w : World) (h : BytesIn w a n cap) :
    Calls Try.prog 13 #[.slice a n cap] w (DrawnPair w) := by
  have H := Lib.hid h; clear h
  go_enter Try.func13, Try.ntmps13
  go_wp2_with fail
  refine (open_any _ _ _ _ H.out).mono ?_
  rintro e w1 ⟨rfl, hb1, hr1⟩
  have HB1 := Lib.hid hb1; have HR1 := Lib.hid hr1; clear hb1 hr1
  go_wp2_with fail
  refine (world_any _ 0 9 (by omega) (by omega) (by omega) _ HR1.out).mono ?_
  rintro e w2 ⟨v, m, rfl, hm, hown, ho, hr⟩
  obtain ⟨a2, c2, f, rfl, hi, hcap⟩ := hown.ints (by omega)
  have HOW := Lib.hid hown; have HO := Lib.hid ho; have HR2 := Lib.hid hr
  have HRL := Lib.hid HR1.out.1
  clear hown ho hr hcap hi
  go_wp2_with fail
  refine (pick_any _ _ 8 (by omega) _ HR2.out).mono ?_
  rintro e w3 ⟨x, rfl, hx, ho3, hr3⟩
  have hx8 : x < 8 := by omega
  obtain ⟨a3, c3, f3, hv, hi3, _⟩ := (HOW.out.lift ho3 HRL.out).ints (by omega)
  simp only [Value.slice.injEq] at hv
  obtain ⟨rfl, _, rfl⟩ := hv
  have HI := Lib.hid hi3
  have hb2 : Below w.heap.size w w3 := HB1.out.trans ((HO.out.trans ho3).below (Nat.le_refl _) HB1.out.size)
  have HB2 := Lib.hid hb2
  clear ho3 hr3 hx hi3 hb2
  go_wp2_with fail
  go_ret2
  exact ⟨_, m, _, _, _, rfl, hm, by unfold I64; omega, HI.out, HB2.out⟩

/-- a number is drawn -/
def DrawnNo (w : World) (e : Ending) (w' : World) : Prop := ∃ x : Int, e = .returned (.int .i64 x) ∧ Hid (-1 ≤ x ∧ x ≤ 4) ∧ Below w.heap.size w w'
def DrawnTwoNo (w : World) (e : Ending) (w' : World) : Prop := ∃ x y : Int, e = .returned (.tuple #[.int .i64 x, .int .i64 y]) ∧ Hid (0 ≤ x ∧ x ≤ 5 ∧ -1 ≤ y ∧ y ≤ 6) ∧ Below w.heap.size w w'
theorem DrawWorldsOf_any (a : Option Addr) (n cap : Nat) (w : World) (h : BytesIn w a n cap) :
    Calls Try.prog 16 #[.slice a n cap] w (DrawnNo w) := by
  have H := Lib.hid h; clear h
  go_enter Try.func16, Try.ntmps16
  go_wp2_with fail
  refine (open_any _ _ _ _ H.out).mono ?_
  rintro e w1 ⟨rfl, hb1, hr1⟩
  have HB1 := Lib.hid hb1; have HR1 := Lib.hid hr1; clear hb1 hr1
  go_wp2_with fail
  refine (pick_any _ 0 6 (by omega) _ HR1.out).mono ?_
  rintro e w3 ⟨x, rfl, hx, ho3, hr3⟩
  have hx8 : x < 6 := by omega
  have HB2 := Lib.hid (HB1.out.trans (ho3.below (Nat.le_refl _) HB1.out.size))
  clear ho3 hr3 hx
  go_wp2_with fail
  go_ret
  exact ⟨_, rfl, Lib.hid (by omega), HB2.out⟩
theorem DrawCountShapes_any (a : Option Addr) (n cap : Nat) (w : World) (h : BytesIn w a n cap) :
    Calls Try.prog 29 #[.slice a n cap] w (DrawnNo w) := by
  have H := Lib.hid h; clear h
  go_enter Try.func29, Try.ntmps29
  go_wp2_with fail
  refine (open_any _ _ _ _ H.out).mono ?_
  rintro e w1 ⟨rfl, hb1, hr1⟩
  have HB1 := Lib.hid hb1; have HR1 := Lib.hid hr1; clear hb1 hr1
  go_wp2_with fail
  refine (pick_any _ 0 6 (by omega) _ HR1.out).mono ?_
  rintro e w3 ⟨x, rfl, hx, ho3, hr3⟩
  have hx8 : x < 6 := by omega
  have HB2 := Lib.hid (HB1.out.trans (ho3.below (Nat.le_refl _) HB1.out.size))
  clear ho3 hr3 hx
  go_wp2_with fail
  go_ret
  exact ⟨_, rfl, Lib.hid (by omega), HB2.out⟩
end Go.Proofs.Ytglnefffkcillaa
