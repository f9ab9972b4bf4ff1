import Derived.Test.YtidcfcjmjgcfkaaDoorDrawX
namespace Go.Proofs.YtidcfcjmjgcfkaaDoor
open Go.RowKit

set_option maxHeartbeats 800000 in
theorem DrawWeakOk_any (a : Option Addr) (n cap : Nat) (w : World) (h : BytesIn w a n cap) :
    Calls Tryd.prog 6 #[.slice a n cap] w (DrawnOne w) := by
  have H := Lib.hid h; clear h
  go_enter Tryd.func6, Tryd.ntmps6
  go_wp2_with fail
  refine (open_any _ _ _ _ H.out).mono ?_
  rintro e w1 ⟨rfl, hb1, hr1⟩
  have HB1 := Lib.hid hb1; have HR1 := Lib.hid hr1; clear hb1 hr1
  go_wp2_with fail
  refine (world_any _ 0 9 (by omega) (by omega) (by omega) _ HR1.out).mono ?_
  rintro e w2 ⟨v, m, rfl, hm, hown, ho, hr⟩
  obtain ⟨a2, c2, f, rfl, hi, hcap⟩ := hown.ints (by omega)
  have hb2 : Below w.heap.size w w2 := HB1.out.trans (ho.below (Nat.le_refl _) HB1.out.size)
  clear hown ho hr
  go_wp2_with fail
  go_ret
  exact ⟨_, m, _, f, rfl, hm, hi, hb2, hcap⟩

set_option maxHeartbeats 800000 in
theorem DrawRestIn_any (a : Option Addr) (n cap : Nat) (w : World) (h : BytesIn w a n cap) :
    Calls Tryd.prog 14 #[.slice a n cap] w (DrawnThree w) := by
  have H := Lib.hid h; clear h
  go_enter Tryd.func14, Tryd.ntmps14
  go_wp2_with fail
  refine (open_any _ _ _ _ H.out).mono ?_
  rintro e w1 ⟨rfl, hb1, hr1⟩
  have HB1 := Lib.hid hb1; have HR1 := Lib.hid hr1; clear hb1 hr1
  go_wp2_with fail
  refine (two_any _ 0 (by omega) _ HR1.out).mono ?_
  rintro e w2 ⟨v, m, x, y, rfl, hm, hx, hy, hown, ho⟩
  obtain ⟨a2, c2, f, rfl, hi, _⟩ := hown.ints (by omega)
  have hb2 : Below w.heap.size w w2 := HB1.out.trans (ho.below (Nat.le_refl _) HB1.out.size)
  clear hown ho
  go_wp2_with fail
  go_ret3
  exact ⟨_, m, _, f, x, y, rfl, hm, hx, hy, hi, hb2⟩

end Go.Proofs.YtidcfcjmjgcfkaaDoor
