import Derived.Test.YtbhdeidnifilfaaDoorDraws
import Derived.Deep.RegionHeld3
namespace Go.Proofs.YtbhdeidnifilfaaDoor
open Go.RowKit

theorem pow40 (k : Nat) (hk : k < 40) : (1 : Int) ≤ 2 ^ k ∧ (2 : Int) ^ k ≤ 1099511627776 := by
  have h1 : (2 : Nat) ^ k ≤ 2 ^ 40 := Nat.pow_le_pow_right (by omega) (by omega)
  have h2 := Nat.one_le_two_pow (n := k)
  have e1 : ((2 ^ k : Nat) : Int) = 2 ^ k := by simp
  have e2 : (2 : Nat) ^ 40 = 1099511627776 := by decide
  omega

theorem Rdr.dr {w : World} {rb P : Nat} (h : Rdr w rb P) : Rdr w.drew rb P := h.below ((Below.refl _ _).drew)
theorem only_dr (rb : Nat) (w : World) : Only rb w w.drew := Only.of_below ((Below.refl _ _).drew)

/-- a world and a set are drawn -/
def DrawnSet (rb : Nat) (w : World) (e : Ending) (w' : World) : Prop :=
  ∃ (v : Value) (m : Nat) (x : Int), e = .returned (.tuple #[v, .int .i64 x]) ∧ m ≤ 8 ∧ I64 x ∧ OwnI w' w.heap.size v m ∧ Only rb w w'

set_option maxRecDepth 100000 in
set_option maxHeartbeats 6400000 in
theorem set_any (rb P : Nat) (n : Int) (hn : 1 ≤ n) (hn2 : n ≤ 100) (hP : P ≤ 1000) (w : World) (h : Rdr w rb P) :
    Calls Tryd.prog 15 #[.pointer (some ⟨rb, 0, none⟩), .int .i64 n] w (DrawnSet rb w) := by
  have hrb : rb < w.heap.size := h.1
  have H := Lib.hid h; clear h
  go_enter Tryd.func15, Tryd.ntmps15
  go_wp2_with fail
  refine (world_any rb P n (by omega) (by omega) (by omega) _ H.out).mono ?_
  rintro e w1 ⟨v, m, rfl, hm, hown, ho1, hr1⟩
  obtain ⟨a, cap, rfl⟩ := hown.slice
  have HOW := Lib.hid hown; have HO := Lib.hid ho1; have HR := Lib.hid hr1
  clear hown ho1 hr1
  go_wp2_with fail
  all_goals
    go_region_held3 (fun _ => True) (first | trivial)
      (first | (go_at_call 28; refine (pick_any rb _ _ (by omega) _ HR.out).mono ?_; rintro e w2 ⟨x, rfl, hx, ho0, hr⟩; have ho := Lib.hid (ho0); replace HOW := Lib.hid (HOW.out.lift ho.out hrb); replace HO := Lib.hid (HO.out.trans ho.out); replace HR := Lib.hid hr; have hx8 : x < 40 := (by omega); have hpx := pow40 x hx8; clear hx ho ho0 hr) | (go_at_call 28; refine (pick_any rb _ _ (by omega) _ HR.out.dr).mono ?_; rintro e w2 ⟨x, rfl, hx, ho0, hr⟩; have ho := Lib.hid ((only_dr _ _).trans ho0); replace HOW := Lib.hid (HOW.out.lift ho.out hrb); replace HO := Lib.hid (HO.out.trans ho.out); replace HR := Lib.hid hr; have hx8 : x < 40 := (by omega); have hpx := pow40 x hx8; clear hx ho ho0 hr))
  all_goals
    go_wp2_with fail
    go_ret2
    exact ⟨_, m, _, rfl, by omega, wrap_I64 _, HOW.out, HO.out⟩

set_option maxHeartbeats 800000 in
theorem DrawLeastBound_any (a : Option Addr) (n cap : Nat) (w : World) (h : BytesIn w a n cap) :
    Calls Tryd.prog 5 #[.slice a n cap] w (DrawnPair w) := by
  have H := Lib.hid h; clear h
  go_enter Tryd.func5, Tryd.ntmps5
  go_wp2_with fail
  refine (open_any _ _ _ _ H.out).mono ?_
  rintro e w1 ⟨rfl, hb1, hr1⟩
  have HB1 := Lib.hid hb1; have HR1 := Lib.hid hr1; clear hb1 hr1
  go_wp2_with fail
  refine (set_any _ 0 12 (by omega) (by omega) (by omega) _ HR1.out).mono ?_
  rintro e w2 ⟨v, m, x, rfl, hm, hx, hown, ho⟩
  obtain ⟨a2, c2, f, rfl, hi, _⟩ := hown.ints (by omega)
  have hb2 : Below w.heap.size w w2 := HB1.out.trans (ho.below (Nat.le_refl _) HB1.out.size)
  clear hown ho
  go_wp2_with fail
  go_ret2
  exact ⟨_, m, _, f, x, rfl, hm, hx, hi, hb2⟩

end Go.Proofs.YtbhdeidnifilfaaDoor
