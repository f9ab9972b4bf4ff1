import Derived.Test.YtamiidgpglepcaaGreatDoorClassS
import Derived.Test.YtamiidgpglepcaaGreatDoorLawC
namespace Go.Proofs.YtamiidgpglepcaaGreatDoor
open Go.RowKit Go.Maps

theorem Gives.row {t : TypeId} {F : Nat → Int} {n : Nat} {w w' : World} {e : Ending} (h : Gives t (rowL F n) w e w') (hn : 1 ≤ n) :
    ∃ g cap, e = .returned (.slice (some ⟨g, 0, none⟩) n cap) ∧ w.heap.size ≤ g ∧ g < w'.heap.size ∧ Row w' g 0 n F ∧ Below w.heap.size w w' := by
  obtain ⟨v, rfl, h1, h2⟩ := h
  obtain ⟨g, cap, rfl, h3, h4, _, _, h5, _⟩ := h1.shape (by rw [rowL_len]; exact hn)
  rw [rowL_len]
  exact ⟨g, cap, rfl, h3, h4, row_of_list h5, h2⟩
theorem Gives.none {t : TypeId} {w w' : World} {e : Ending} (h : Gives t [] w e w') : ∃ (a : Option Addr) (cap : Nat), e = .returned (.slice a 0 cap) ∧ Below w.heap.size w w' := by
  obtain ⟨v, rfl, h1, h2⟩ := h
  obtain ⟨a, cap, rfl⟩ := h1.slice
  exact ⟨a, cap, rfl, h2⟩
theorem ints_row {w : World} {g n : Nat} {F : Nat → Int} (h : Row w g 0 n F) (hg : g < w.heap.size) (hn : n ≤ 1000) (h64 : ∀ i, i < n → I64 (F i)) : Ints w (some ⟨g, 0, none⟩) n F := ⟨⟨by omega, h64⟩, .inr ⟨g, 0, rfl, hg, h⟩⟩
theorem hb_nat {s : Int} {k : Nat} (hs : 0 ≤ s) : hbB s (k : Int) = hasB s k := by
  unfold hbB; rw [decide_eq_true hs, decide_eq_true (by omega), Int.toNat_natCast]; rfl
end Go.Proofs.YtamiidgpglepcaaGreatDoor
