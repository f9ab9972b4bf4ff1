import Derived.Test.YtamiidgpglepcaaDoorDrawU
namespace Go.Proofs.YtamiidgpglepcaaDoor
open Go.RowKit Go.Maps

theorem OwnI.ints_at {w : World} {B n cap : Nat} {a : Option Addr} (h : OwnI w B (.slice a n cap) n) (hn : n ≤ 1000) : ∃ f : Nat → Int, Ints w a n f := by
  obtain ⟨a2, c2, f, hv, hi, _⟩ := h.ints hn
  injection hv with e1 e2 e3
  subst e1; exact ⟨f, hi⟩

set_option maxRecDepth 100000 in
set_option maxHeartbeats 1600000 in
theorem DrawThingOf_any (a : Option Addr) (n cap : Nat) (w : World) (h : BytesIn w a n cap) :
    Calls Tryd.prog 15 #[.slice a n cap] w (DrawnPair w) := by
  have H := Lib.hid h; clear h
  go_enter Tryd.func15, Tryd.ntmps15
  go_wp2_with fail
  refine (open_any _ _ _ _ H.out).mono ?_
  rintro e w1 ⟨rfl, hb1, hr1⟩
  have hrb := hr1.1
  have HB1 := Lib.hid hb1; have HR1 := Lib.hid hr1; clear hb1 hr1
  go_wp2_with fail
  refine (full_any _ 0 12 (by omega) (by omega) (by omega) _ HR1.out).mono ?_
  rintro e w2 ⟨v, m, rfl, hm, hown, ho, hr⟩
  obtain ⟨a2, c2, f, rfl, hi, _⟩ := hown.ints (by omega)
  have HOW := Lib.hid hown; have HO := Lib.hid ho; have HR := Lib.hid hr; have HI := Lib.hid hi
  clear hown ho hr hi
  cases hw : worldB m f with
  | false =>
    have HW := Lib.hid hw; clear hw
    go_wp2_with fail
    refine (specWorldOk_val _ _ _ f false _ HW.out HI.out).mono ?_
    rintro e w3 ⟨rfl, hd⟩
    replace HOW := Lib.hid (HOW.out.kept hd.below); replace HO := Lib.hid (HO.out.trans (Only.of_below hd.below)); replace HR := Lib.hid (HR.out.below hd.below)
    clear hd
    go_wp2_with fail
    refine (pick_any _ _ 130 (by omega) _ HR.out).mono ?_
    rintro e w4 ⟨x, rfl, hx, ho4, _⟩
    replace HOW := Lib.hid (HOW.out.lift ho4 hrb); replace HO := Lib.hid (HO.out.trans ho4)
    clear ho4
    have hx2 : x < 130 := by omega
    clear hx
    obtain ⟨f2, hi2⟩ := HOW.out.ints_at (by omega)
    have HI2 := Lib.hid hi2; clear hi2
    go_wp2_with fail
    go_ret2
    exact ⟨_, m, _, f2, _, rfl, hm, by unfold I64; omega, HI2.out, HB1.out.trans (HO.out.below (Nat.le_refl _) HB1.out.size)⟩
  | true =>
    have HW := Lib.hid hw; clear hw
    go_wp2_with fail
    refine (specWorldOk_val _ _ _ f true _ HW.out HI.out).mono ?_
    rintro e w3 ⟨rfl, hd⟩
    replace HOW := Lib.hid (HOW.out.kept hd.below); replace HO := Lib.hid (HO.out.trans (Only.of_below hd.below)); replace HR := Lib.hid (HR.out.below hd.below)
    replace HI := Lib.hid (HI.out.drew hd)
    clear hd
    go_wp2_with fail
    refine (pick_any _ _ 3 (by omega) _ HR.out).mono ?_
    rintro e w4 ⟨y, rfl, _, ho4, hr4⟩
    obtain ⟨hlt, b, o, rfl, hbl, hrow⟩ : 1 ≤ m ∧ ∃ b o, a2 = some ⟨b, o, none⟩ ∧ b < w3.heap.size ∧ Row w3 b o m f := ⟨(worldB_7 HW.out).1, HI.out.row (worldB_7 HW.out).1⟩
    obtain ⟨g5, c5, f5, hv5, hB5, _, _, _, _⟩ := HOW.out.shape hlt
    injection hv5 with e1 e2 e3
    injection e1 with e1
    injection e1 with e1 e4
    have hbr : b ≠ w.heap.size := by omega
    replace HI := Lib.hid (show Ints w4 (some ⟨b, o, none⟩) m f from ⟨HI.out.1, .inr ⟨b, o, rfl, Nat.lt_of_lt_of_le hbl ho4.size, hrow.only ho4 hbl hbr⟩⟩)
    replace HOW := Lib.hid (HOW.out.lift ho4 hrb); replace HO := Lib.hid (HO.out.trans ho4); replace HR := Lib.hid hr4
    clear ho4 hr4 hrow hbl e1 e2 e3 e4 hB5 hlt hbr
    by_cases hy : (y : Int) > 0
    · go_wp2_with fail
      refine (specAtomsOf_at _ _ _ f _ HW.out HI.out).mono ?_
      rintro e w5 ⟨rfl, hd⟩
      replace HOW := Lib.hid (HOW.out.kept hd.below); replace HO := Lib.hid (HO.out.trans (Only.of_below hd.below)); replace HR := Lib.hid (HR.out.below hd.below)
      clear hd
      go_wp2_with fail
      refine (pick_any _ _ 128 (by omega) _ HR.out).mono ?_
      rintro e w6 ⟨x, rfl, _, ho4, _⟩
      replace HOW := Lib.hid (HOW.out.lift ho4 hrb); replace HO := Lib.hid (HO.out.trans ho4)
      clear ho4
      obtain ⟨f2, hi2⟩ := HOW.out.ints_at (by omega)
      have HI2 := Lib.hid hi2; clear hi2
      go_wp2_with fail
      go_ret2
      exact ⟨_, m, _, f2, _, rfl, hm, andI_I64 _ _, HI2.out, HB1.out.trans (HO.out.below (Nat.le_refl _) HB1.out.size)⟩
    · go_wp2_with fail
      refine (pick_any _ _ 130 (by omega) _ HR.out).mono ?_
      rintro e w6 ⟨x, rfl, hx, ho4, _⟩
      replace HOW := Lib.hid (HOW.out.lift ho4 hrb); replace HO := Lib.hid (HO.out.trans ho4)
      clear ho4
      have hx2 : x < 130 := by omega
      clear hx
      obtain ⟨f2, hi2⟩ := HOW.out.ints_at (by omega)
      have HI2 := Lib.hid hi2; clear hi2
      go_wp2_with fail
      go_ret2
      exact ⟨_, m, _, f2, _, rfl, hm, by unfold I64; omega, HI2.out, HB1.out.trans (HO.out.below (Nat.le_refl _) HB1.out.size)⟩

set_option maxRecDepth 100000 in
set_option maxHeartbeats 800000 in
theorem DrawClassicalOf_any (a : Option Addr) (n cap : Nat) (w : World) (h : BytesIn w a n cap) :
    Calls Tryd.prog 6 #[.slice a n cap] w fun e w' => ∃ x : Int, e = .returned (.int .i64 x) ∧ I64 x ∧ Below w.heap.size w w' := by
  have H := Lib.hid h; clear h
  go_enter Tryd.func6, Tryd.ntmps6
  go_wp2_with fail
  refine (open_any _ _ _ _ H.out).mono ?_
  rintro e w1 ⟨rfl, hb1, hr1⟩
  have HB1 := Lib.hid hb1; have HR1 := Lib.hid hr1; clear hb1 hr1
  go_wp2_with fail
  refine (pick_any _ 0 6 (by omega) _ HR1.out).mono ?_
  rintro e w2 ⟨x, rfl, hx, ho, _⟩
  have hx6 : x < 6 := by omega
  have HB2 := Lib.hid (HB1.out.trans (ho.below (Nat.le_refl _) HB1.out.size))
  clear hx ho
  go_wp2_with fail
  go_ret
  exact ⟨_, rfl, by unfold I64; omega, HB2.out⟩
end Go.Proofs.YtamiidgpglepcaaDoor
