import Derived.Test.YtadeebhnaapfeaaDrawX
namespace Go.Proofs.Ytadeebhnaapfeaa
open Go.RowKit

set_option maxHeartbeats 800000 in
theorem DrawAtomsOf_any (a : Option Addr) (n cap : Nat) (w : World) (h : BytesIn w a n cap) :
    Calls Try.prog 11 #[.slice a n cap] w (DrawnOne w) := by
  have H := Lib.hid h; clear h
  go_enter Try.func11, Try.ntmps11
  go_wp2_with fail
  refine (open_any _ _ _ _ H.out).mono ?_
  rintro e w1 ⟨rfl, hb1, hr1⟩
  have HB1 := Lib.hid hb1; have HR1 := Lib.hid hr1; clear hb1 hr1
  go_wp2_with fail
  refine (world_any _ 0 9 (by omega) (by omega) (by omega) _ HR1.out).mono ?_
  rintro e w2 ⟨v, m, rfl, hm, hown, ho, hr⟩
  obtain ⟨a2, c2, f, rfl, hi, hcap⟩ := hown.ints (by omega)
  have hb2 : Below w.heap.size w w2 := HB1.out.trans (ho.below (Nat.le_refl _) HB1.out.size)
  clear hown ho hr
  go_wp2_with fail
  go_ret
  exact ⟨_, m, _, f, rfl, hm, hi, hb2, hcap⟩

set_option maxHeartbeats 800000 in
theorem DrawToldByAtoms_any (a : Option Addr) (n cap : Nat) (w : World) (h : BytesIn w a n cap) :
    Calls Try.prog 23 #[.slice a n cap] w (DrawnOne w) := by
  have H := Lib.hid h; clear h
  go_enter Try.func23, Try.ntmps23
  go_wp2_with fail
  refine (open_any _ _ _ _ H.out).mono ?_
  rintro e w1 ⟨rfl, hb1, hr1⟩
  have HB1 := Lib.hid hb1; have HR1 := Lib.hid hr1; clear hb1 hr1
  go_wp2_with fail
  refine (world_any _ 0 9 (by omega) (by omega) (by omega) _ HR1.out).mono ?_
  rintro e w2 ⟨v, m, rfl, hm, hown, ho, hr⟩
  obtain ⟨a2, c2, f, rfl, hi, hcap⟩ := hown.ints (by omega)
  have hb2 : Below w.heap.size w w2 := HB1.out.trans (ho.below (Nat.le_refl _) HB1.out.size)
  clear hown ho hr
  go_wp2_with fail
  go_ret
  exact ⟨_, m, _, f, rfl, hm, hi, hb2, hcap⟩

set_option maxHeartbeats 800000 in
theorem DrawMadeOfAtoms_any (a : Option Addr) (n cap : Nat) (w : World) (h : BytesIn w a n cap) :
    Calls Try.prog 27 #[.slice a n cap] w (DrawnOne w) := by
  have H := Lib.hid h; clear h
  go_enter Try.func27, Try.ntmps27
  go_wp2_with fail
  refine (open_any _ _ _ _ H.out).mono ?_
  rintro e w1 ⟨rfl, hb1, hr1⟩
  have HB1 := Lib.hid hb1; have HR1 := Lib.hid hr1; clear hb1 hr1
  go_wp2_with fail
  refine (world_any _ 0 9 (by omega) (by omega) (by omega) _ HR1.out).mono ?_
  rintro e w2 ⟨v, m, rfl, hm, hown, ho, hr⟩
  obtain ⟨a2, c2, f, rfl, hi, hcap⟩ := hown.ints (by omega)
  have hb2 : Below w.heap.size w w2 := HB1.out.trans (ho.below (Nat.le_refl _) HB1.out.size)
  clear hown ho hr
  go_wp2_with fail
  go_ret
  exact ⟨_, m, _, f, rfl, hm, hi, hb2, hcap⟩

set_option maxHeartbeats 800000 in
theorem DrawAtomsIn_any (a : Option Addr) (n cap : Nat) (w : World) (h : BytesIn w a n cap) :
    Calls Try.prog 18 #[.slice a n cap] w (DrawnPair w) := by
  have H := Lib.hid h; clear h
  go_enter Try.func18, Try.ntmps18
  go_wp2_with fail
  refine (open_any _ _ _ _ H.out).mono ?_
  rintro e w1 ⟨rfl, hb1, hr1⟩
  have HB1 := Lib.hid hb1; have HR1 := Lib.hid hr1; clear hb1 hr1
  go_wp2_with fail
  refine (two_any _ 0 (by omega) _ HR1.out).mono ?_
  rintro e w2 ⟨v, m, x, y, rfl, hm, hx, hy, hown, ho⟩
  obtain ⟨a2, c2, f, rfl, hi, _⟩ := hown.ints (by omega)
  have hb2 : Below w.heap.size w w2 := HB1.out.trans (ho.below (Nat.le_refl _) HB1.out.size)
  clear hown ho
  go_wp2_with fail
  go_ret2
  exact ⟨_, m, _, f, x, rfl, hm, hx, hi, hb2⟩

end Go.Proofs.Ytadeebhnaapfeaa
