import Derived.Test.YtidcfcjmjgcfkaaDoorDrawW
namespace Go.Proofs.YtidcfcjmjgcfkaaDoor
open Go.RowKit

theorem OwnI.ints {w : World} {B n : Nat} {v : Value} (h : OwnI w B v n) (hn : n ≤ 1000) : ∃ (a : Option Addr) (cap : Nat) (f : Nat → Int), v = .slice a n cap ∧ Ints w a n f ∧ (1 ≤ n → n ≤ cap ∧ cap ≤ 9223372036854775807) := by
  by_cases h1 : 1 ≤ n
  · obtain ⟨g, cap, f, hv, _, hlt, hc1, hc2, hr, h64, _⟩ := h.shape h1
    exact ⟨_, cap, f, hv, ⟨⟨by omega, h64⟩, .inr ⟨g, 0, rfl, hlt, hr⟩⟩, fun _ => ⟨hc1, hc2⟩⟩
  · obtain ⟨a, cap, hv⟩ := h.slice
    exact ⟨a, cap, fun _ => 0, hv, ⟨⟨by omega, fun i hi => by omega⟩, .inl (by omega)⟩, fun h => absurd h h1⟩

/-- a world and two numbers are drawn -/
def DrawnTwo (rb : Nat) (w : World) (e : Ending) (w' : World) : Prop :=
  ∃ (v : Value) (m : Nat) (x y : Int), e = .returned (.tuple #[v, .int .i64 x, .int .i64 y]) ∧ m ≤ 8 ∧ I64 x ∧ I64 y ∧ OwnI w' w.heap.size v m ∧ Only rb w w'

set_option maxHeartbeats 1600000 in
theorem two_any (rb P : Nat) (hP : P ≤ 1000) (w : World) (h : Rdr w rb P) :
    Calls Tryd.prog 30 #[.pointer (some ⟨rb, 0, none⟩)] w (DrawnTwo rb w) := by
  have hrb : rb < w.heap.size := h.1
  have H := Lib.hid h; clear h
  go_enter Tryd.func30, Tryd.ntmps30
  go_wp2_with fail
  refine (world_any rb P 12 (by omega) (by omega) (by omega) _ H.out).mono ?_
  rintro e w1 ⟨v, m, rfl, hm, hown, ho1, hr1⟩
  obtain ⟨a, cap, rfl⟩ := hown.slice
  have HOW := Lib.hid hown; have HO1 := Lib.hid ho1; have HR1 := Lib.hid hr1
  clear hown ho1 hr1
  go_wp2_with fail
  all_goals
    refine (pick_any rb _ _ (by omega) _ HR1.out).mono ?_
    rintro e w2 ⟨x1, rfl, hx1, ho2, hr2⟩
    have hx1' : x1 < 8 := by omega
    have HO2 := Lib.hid ho2; have HR2 := Lib.hid hr2
    clear ho2 hr2 hx1
    go_wp2_with fail
    refine (pick_any rb _ 40 (by omega) _ HR2.out).mono ?_
    rintro e w3 ⟨x2, rfl, hx2, ho3, hr3⟩
    have hx2' : x2 < 40 := by omega
    have HO3 := Lib.hid ho3; have HR3 := Lib.hid hr3
    clear ho3 hr3 hx2
    go_wp2_with fail
    refine (pick_any rb _ _ (by omega) _ HR3.out).mono ?_
    rintro e w4 ⟨x3, rfl, hx3, ho4, hr4⟩
    have hx3' : x3 < 8 := by omega
    have HO4 := Lib.hid ho4; have HR4 := Lib.hid hr4
    clear ho4 hr4 hx3
    go_wp2_with fail
    refine (pick_any rb _ 50 (by omega) _ HR4.out).mono ?_
    rintro e w5 ⟨x4, rfl, hx4, ho5, hr5⟩
    have hx4' : x4 < 50 := by omega
    have HO5 := Lib.hid ho5
    clear ho5 hr5 hx4
    go_wp2_with fail
    go_ret3
    refine ⟨_, m, _, _, rfl, hm, ?_, ?_, (((HOW.out.lift HO2.out hrb).lift HO3.out hrb).lift HO4.out hrb).lift HO5.out hrb, (((HO1.out.trans HO2.out).trans HO3.out).trans HO4.out).trans HO5.out⟩
    · unfold I64; omega
    · unfold I64; omega

/-- what a draw of a world gives the law -/
def DrawnOne (w : World) (e : Ending) (w' : World) : Prop :=
  ∃ (a : Option Addr) (m cap : Nat) (f : Nat → Int), e = .returned (.slice a m cap) ∧ m ≤ 8 ∧ Ints w' a m f ∧ Below w.heap.size w w' ∧ (1 ≤ m → m ≤ cap ∧ cap ≤ 9223372036854775807)

def DrawnThree (w : World) (e : Ending) (w' : World) : Prop :=
  ∃ (a : Option Addr) (m cap : Nat) (f : Nat → Int) (x y : Int), e = .returned (.tuple #[.slice a m cap, .int .i64 x, .int .i64 y]) ∧ m ≤ 8 ∧ I64 x ∧ I64 y ∧ Ints w' a m f ∧ Below w.heap.size w w'

def DrawnPair (w : World) (e : Ending) (w' : World) : Prop :=
  ∃ (a : Option Addr) (m cap : Nat) (f : Nat → Int) (x : Int), e = .returned (.tuple #[.slice a m cap, .int .i64 x]) ∧ m ≤ 8 ∧ I64 x ∧ Ints w' a m f ∧ Below w.heap.size w w'

end Go.Proofs.YtidcfcjmjgcfkaaDoor
