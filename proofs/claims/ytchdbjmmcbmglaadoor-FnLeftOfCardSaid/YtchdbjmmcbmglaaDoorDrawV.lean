import Derived.Test.YtchdbjmmcbmglaaDoorDraws
namespace Go.Proofs.YtchdbjmmcbmglaaDoor
open Go.RowKit

set_option maxHeartbeats 800000 in
theorem DrawWholeOf_any (a : Option Addr) (n cap : Nat) (w : World) (h : BytesIn w a n cap) :
    Calls Tryd.prog 26 #[.slice a n cap] w (DrawnOne w) := by
  have H := Lib.hid h; clear h
  go_enter Tryd.func26, Tryd.ntmps26
  go_wp2_with fail
  refine (open_any _ _ _ _ H.out).mono ?_
  rintro e w1 ⟨rfl, hb1, hr1⟩
  have HB1 := Lib.hid hb1; have HR1 := Lib.hid hr1; clear hb1 hr1
  go_wp2_with fail
  refine (world_any _ 0 9 (by omega) (by omega) (by omega) _ HR1.out).mono ?_
  rintro e w2 ⟨v, m, rfl, hm, hown, ho, hr⟩
  obtain ⟨a2, c2, f, rfl, hi, hcap⟩ := hown.ints (by omega)
  have hb2 : Below w.heap.size w w2 := HB1.out.trans (ho.below (Nat.le_refl _) HB1.out.size)
  clear hown ho hr
  go_wp2_with fail
  go_ret
  exact ⟨_, m, _, f, rfl, hm, hi, hb2, hcap⟩

set_option maxHeartbeats 800000 in
theorem DrawAgainstOf_any (a : Option Addr) (n cap : Nat) (w : World) (h : BytesIn w a n cap) :
    Calls Tryd.prog 22 #[.slice a n cap] w (DrawnPair w) := by
  have H := Lib.hid h; clear h
  go_enter Tryd.func22, Tryd.ntmps22
  go_wp2_with fail
  refine (open_any _ _ _ _ H.out).mono ?_
  rintro e w1 ⟨rfl, hb1, hr1⟩
  have HB1 := Lib.hid hb1; have HR1 := Lib.hid hr1; clear hb1 hr1
  go_wp2_with fail
  refine (two_any _ 0 (by omega) _ HR1.out).mono ?_
  rintro e w2 ⟨v, m, x, y, rfl, hm, hx, hy, hown, ho⟩
  obtain ⟨a2, c2, f, rfl, hi, _⟩ := hown.ints (by omega)
  have hb2 : Below w.heap.size w w2 := HB1.out.trans (ho.below (Nat.le_refl _) HB1.out.size)
  clear hown ho
  go_wp2_with fail
  go_ret2
  exact ⟨_, m, _, f, x, rfl, hm, hx, hi, hb2⟩

set_option maxHeartbeats 800000 in
theorem DrawCommonOf_any (a : Option Addr) (n cap : Nat) (w : World) (h : BytesIn w a n cap) :
    Calls Tryd.prog 11 #[.slice a n cap] w (DrawnThree w) := by
  have H := Lib.hid h; clear h
  go_enter Tryd.func11, Tryd.ntmps11
  go_wp2_with fail
  refine (open_any _ _ _ _ H.out).mono ?_
  rintro e w1 ⟨rfl, hb1, hr1⟩
  have HB1 := Lib.hid hb1; have HR1 := Lib.hid hr1; clear hb1 hr1
  go_wp2_with fail
  refine (two_any _ 0 (by omega) _ HR1.out).mono ?_
  rintro e w2 ⟨v, m, x, y, rfl, hm, hx, hy, hown, ho⟩
  obtain ⟨a2, c2, f, rfl, hi, _⟩ := hown.ints (by omega)
  have hb2 : Below w.heap.size w w2 := HB1.out.trans (ho.below (Nat.le_refl _) HB1.out.size)
  clear hown ho
  go_wp2_with fail
  go_ret3
  exact ⟨_, m, _, f, x, y, rfl, hm, hx, hy, hi, hb2⟩

set_option maxHeartbeats 800000 in
theorem DrawLeftOf_any (a : Option Addr) (n cap : Nat) (w : World) (h : BytesIn w a n cap) :
    Calls Tryd.prog 19 #[.slice a n cap] w (DrawnThree w) := by
  have H := Lib.hid h; clear h
  go_enter Tryd.func19, Tryd.ntmps19
  go_wp2_with fail
  refine (open_any _ _ _ _ H.out).mono ?_
  rintro e w1 ⟨rfl, hb1, hr1⟩
  have HB1 := Lib.hid hb1; have HR1 := Lib.hid hr1; clear hb1 hr1
  go_wp2_with fail
  refine (two_any _ 0 (by omega) _ HR1.out).mono ?_
  rintro e w2 ⟨v, m, x, y, rfl, hm, hx, hy, hown, ho⟩
  obtain ⟨a2, c2, f, rfl, hi, _⟩ := hown.ints (by omega)
  have hb2 : Below w.heap.size w w2 := HB1.out.trans (ho.below (Nat.le_refl _) HB1.out.size)
  clear hown ho
  go_wp2_with fail
  go_ret3
  exact ⟨_, m, _, f, x, y, rfl, hm, hx, hy, hi, hb2⟩

end Go.Proofs.YtchdbjmmcbmglaaDoor
