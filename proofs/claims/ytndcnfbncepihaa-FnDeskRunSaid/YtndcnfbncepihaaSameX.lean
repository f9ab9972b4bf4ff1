import Derived.Test.YtndcnfbncepihaaOwnX
import Derived.Test.YtndcnfbncepihaaLawC
namespace Go.Proofs.Ytndcnfbncepihaa
open Go.RowKit Go.Maps

set_option maxRecDepth 100000 in
set_option maxHeartbeats 800000 in
theorem sameInts_row (b1 o1 c1 b2 o2 c2 n : Nat) (f : Nat → Int) (hn : n ≤ 1048576) (w : World) (h1 : Row w b1 o1 n f) (h2 : Row w b2 o2 n f) :
    Calls Try.prog 21 #[.slice (some ⟨b1, o1, none⟩) n c1, .slice (some ⟨b2, o2, none⟩) n c2] w fun e w' => e = .returned (.bool true) ∧ Drew w w' := by
  have hne : ((n : Int) != (n : Int)) = false := by simp
  go_enter Try.func21, Try.ntmps21
  go_wp2_with fail
  go_loopw [5] (fun i wr => ∃ k : Nat, k ≤ n ∧ i = .int .i64 k ∧ Row wr b1 o1 n f ∧ Row wr b2 o2 n f ∧ Drew w wr) (fun i _ => n - (intOf i).toNat)
  case atStart => exact ⟨0, Nat.zero_le _, rfl, h1, h2, Drew.refl w⟩
  case round =>
    obtain ⟨k, hk, rfl, h1, h2, hd⟩ := hrel
    by_cases hlt : k < n
    · have hc1 := h1 k hlt
      have hc2 := h2 k hlt
      have hki : (k : Int) < (n : Int) := by omega
      have hne : (f k != f k) = false := by simp
      go_wp2_with fail
      go_quiet (fail)
      go_wp2_with fail
      go_roundw
      case rel => exact ⟨k + 1, by omega, by go_num, h1.drewN _, h2.drewN _, hd.more _⟩
      case measure => simp [intOf]; omega
    · go_wp2_with fail
      go_ret
      exact ⟨rfl, hd⟩

set_option maxRecDepth 100000 in
set_option maxHeartbeats 800000 in
theorem sameInts_nil (a1 a2 : Option Addr) (c1 c2 : Nat) (w : World) :
    Calls Try.prog 21 #[.slice a1 0 c1, .slice a2 0 c2] w fun e w' => e = .returned (.bool true) ∧ Drew w w' := by
  go_enter Try.func21, Try.ntmps21
  go_wp2_with fail
  go_loopw [5] (fun i wr => i = .int .i64 0 ∧ Drew w wr) (fun _ _ => 0)
  case atStart => exact ⟨rfl, Drew.refl w⟩
  case round =>
    obtain ⟨rfl, hd⟩ := hrel
    go_wp2_with fail
    go_ret
    exact ⟨rfl, hd⟩

theorem Gives.row {t : TypeId} {F : Nat → Int} {n : Nat} {w w' : World} {e : Ending} (h : Gives t (rowL F n) w e w') (hn : 1 ≤ n) :
    ∃ g cap, e = .returned (.slice (some ⟨g, 0, none⟩) n cap) ∧ w.heap.size ≤ g ∧ g < w'.heap.size ∧ Row w' g 0 n F ∧ Below w.heap.size w w' := by
  obtain ⟨v, rfl, h1, h2⟩ := h
  obtain ⟨g, cap, rfl, h3, h4, _, _, h5, _⟩ := h1.shape (by rw [rowL_len]; exact hn)
  rw [rowL_len]
  exact ⟨g, cap, rfl, h3, h4, row_of_list h5, h2⟩
theorem Gives.none {t : TypeId} {w w' : World} {e : Ending} (h : Gives t [] w e w') : ∃ (a : Option Addr) (cap : Nat), e = .returned (.slice a 0 cap) ∧ Below w.heap.size w w' := by
  obtain ⟨v, rfl, h1, h2⟩ := h
  obtain ⟨a, cap, rfl⟩ := h1.slice
  exact ⟨a, cap, rfl, h2⟩
theorem ints_row {w : World} {g n : Nat} {F : Nat → Int} (h : Row w g 0 n F) (hg : g < w.heap.size) (hn : n ≤ 1000) (h64 : ∀ i, i < n → I64 (F i)) : Ints w (some ⟨g, 0, none⟩) n F := ⟨⟨by omega, h64⟩, .inr ⟨g, 0, rfl, hg, h⟩⟩
theorem hb_nat {s : Int} {k : Nat} (hs : 0 ≤ s) : hbB s (k : Int) = hasB s k := by
  unfold hbB; rw [decide_eq_true hs, decide_eq_true (by omega), Int.toNat_natCast]; rfl
end Go.Proofs.Ytndcnfbncepihaa
