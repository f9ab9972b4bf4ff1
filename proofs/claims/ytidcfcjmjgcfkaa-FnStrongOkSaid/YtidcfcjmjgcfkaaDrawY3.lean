import Derived.Test.YtidcfcjmjgcfkaaDrawX
namespace Go.Proofs.Ytidcfcjmjgcfkaa
open Go.RowKit

set_option maxHeartbeats 800000 in
theorem DrawCompanyOk_any (a : Option Addr) (n cap : Nat) (w : World) (h : BytesIn w a n cap) :
    Calls Try.prog 10 #[.slice a n cap] w (DrawnOne w) := by
  have H := Lib.hid h; clear h
  go_enter Try.func10, Try.ntmps10
  go_wp2_with fail
  refine (open_any _ _ _ _ H.out).mono ?_
  rintro e w1 ⟨rfl, hb1, hr1⟩
  have HB1 := Lib.hid hb1; have HR1 := Lib.hid hr1; clear hb1 hr1
  go_wp2_with fail
  refine (world_any _ 0 9 (by omega) (by omega) (by omega) _ HR1.out).mono ?_
  rintro e w2 ⟨v, m, rfl, hm, hown, ho, hr⟩
  obtain ⟨a2, c2, f, rfl, hi, hcap⟩ := hown.ints (by omega)
  have hb2 : Below w.heap.size w w2 := HB1.out.trans (ho.below (Nat.le_refl _) HB1.out.size)
  clear hown ho hr
  go_wp2_with fail
  go_ret
  exact ⟨_, m, _, f, rfl, hm, hi, hb2, hcap⟩

set_option maxHeartbeats 800000 in
theorem DrawStrongOk_any (a : Option Addr) (n cap : Nat) (w : World) (h : BytesIn w a n cap) :
    Calls Try.prog 14 #[.slice a n cap] w (DrawnOne w) := by
  have H := Lib.hid h; clear h
  go_enter Try.func14, Try.ntmps14
  go_wp2_with fail
  refine (open_any _ _ _ _ H.out).mono ?_
  rintro e w1 ⟨rfl, hb1, hr1⟩
  have HB1 := Lib.hid hb1; have HR1 := Lib.hid hr1; clear hb1 hr1
  go_wp2_with fail
  refine (world_any _ 0 9 (by omega) (by omega) (by omega) _ HR1.out).mono ?_
  rintro e w2 ⟨v, m, rfl, hm, hown, ho, hr⟩
  obtain ⟨a2, c2, f, rfl, hi, hcap⟩ := hown.ints (by omega)
  have hb2 : Below w.heap.size w w2 := HB1.out.trans (ho.below (Nat.le_refl _) HB1.out.size)
  clear hown ho hr
  go_wp2_with fail
  go_ret
  exact ⟨_, m, _, f, rfl, hm, hi, hb2, hcap⟩

set_option maxHeartbeats 800000 in
theorem DrawExtendedOk_any (a : Option Addr) (n cap : Nat) (w : World) (h : BytesIn w a n cap) :
    Calls Try.prog 20 #[.slice a n cap] w (DrawnOne w) := by
  have H := Lib.hid h; clear h
  go_enter Try.func20, Try.ntmps20
  go_wp2_with fail
  refine (open_any _ _ _ _ H.out).mono ?_
  rintro e w1 ⟨rfl, hb1, hr1⟩
  have HB1 := Lib.hid hb1; have HR1 := Lib.hid hr1; clear hb1 hr1
  go_wp2_with fail
  refine (world_any _ 0 9 (by omega) (by omega) (by omega) _ HR1.out).mono ?_
  rintro e w2 ⟨v, m, rfl, hm, hown, ho, hr⟩
  obtain ⟨a2, c2, f, rfl, hi, hcap⟩ := hown.ints (by omega)
  have hb2 : Below w.heap.size w w2 := HB1.out.trans (ho.below (Nat.le_refl _) HB1.out.size)
  clear hown ho hr
  go_wp2_with fail
  go_ret
  exact ⟨_, m, _, f, rfl, hm, hi, hb2, hcap⟩

end Go.Proofs.Ytidcfcjmjgcfkaa
