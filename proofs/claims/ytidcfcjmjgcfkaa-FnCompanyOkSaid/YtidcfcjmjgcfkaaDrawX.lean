import Derived.Test.YtidcfcjmjgcfkaaDrawW
namespace Go.Proofs.Ytidcfcjmjgcfkaa
open Go.RowKit

theorem OwnI.ints {w : World} {B n : Nat} {v : Value} (h : OwnI w B v n) (hn : n ≤ 1000) : ∃ (a : Option Addr) (cap : Nat) (f : Nat → Int), v = .slice a n cap ∧ Ints w a n f ∧ (1 ≤ n → n ≤ cap ∧ cap ≤ 9223372036854775807) := by
  by_cases h1 : 1 ≤ n
  · obtain ⟨g, cap, f, hv, _, hlt, hc1, hc2, hr, h64, _⟩ := h.shape h1
    exact ⟨_, cap, f, hv, ⟨⟨by omega, h64⟩, .inr ⟨g, 0, rfl, hlt, hr⟩⟩, fun _ => ⟨hc1, hc2⟩⟩
  · obtain ⟨a, cap, hv⟩ := h.slice
    exact ⟨a, cap, fun _ => 0, hv, ⟨⟨by omega, fun i hi => by omega⟩, .inl (by omega)⟩, fun h => absurd h h1⟩

/-- a world and two numbers are drawn -/
def DrawnTwo (rb : Nat) (w : World) (e : Ending) (w' : World) : Prop :=
  ∃ (v : Value) (m : Nat) (x y : Int), e = .returned (.tuple #[v, .int .i64 x, .int .i64 y]) ∧ m ≤ 8 ∧ I64 x ∧ I64 y ∧ OwnI w' w.heap.size v m ∧ Only rb w w'

/-- what a draw of a world gives the law -/
def DrawnOne (w : World) (e : Ending) (w' : World) : Prop :=
  ∃ (a : Option Addr) (m cap : Nat) (f : Nat → Int), e = .returned (.slice a m cap) ∧ m ≤ 8 ∧ Ints w' a m f ∧ Below w.heap.size w w' ∧ (1 ≤ m → m ≤ cap ∧ cap ≤ 9223372036854775807)

def DrawnThree (w : World) (e : Ending) (w' : World) : Prop :=
  ∃ (a : Option Addr) (m cap : Nat) (f : Nat → Int) (x y : Int), e = .returned (.tuple #[.slice a m cap, .int .i64 x, .int .i64 y]) ∧ m ≤ 8 ∧ I64 x ∧ I64 y ∧ Ints w' a m f ∧ Below w.heap.size w w'

def DrawnPair (w : World) (e : Ending) (w' : World) : Prop :=
  ∃ (a : Option Addr) (m cap : Nat) (f : Nat → Int) (x : Int), e = .returned (.tuple #[.slice a m cap, .int .i64 x]) ∧ m ≤ 8 ∧ I64 x ∧ Ints w' a m f ∧ Below w.heap.size w w'

end Go.Proofs.Ytidcfcjmjgcfkaa
