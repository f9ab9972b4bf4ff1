import Derived.Test.YtamiidgpglepcaaGreatDoorThingA
import Derived.Test.YtamiidgpglepcaaGreatDoorDrawT
import Derived.Test.YtamiidgpglepcaaGreatDoorLawC
namespace Go.Proofs.YtamiidgpglepcaaGreatDoor
open Go.RowKit Go.Maps

theorem thing_off {n : Nat} {f : Nat → Int} {s : Int} (h : thingOk n f s = false) : thingN n f s = -1 := by
  unfold thingN
  split
  · next hw => unfold thingOk at h; rw [hw, Bool.true_and] at h; exact only_off h
  · rfl
/-- what is found has just those atoms -/
theorem thing_on {n : Nat} {f : Nat → Int} {s : Int} (h : thingOk n f s = true) : worldB n f = true ∧ ∃ k : Nat, k < n ∧ thingN n f s = k ∧ ainI n f k = s := by
  unfold thingOk at h
  rw [Bool.and_eq_true] at h
  obtain ⟨hw, h1⟩ := h
  have h7 := (worldB_7 hw).2
  refine ⟨hw, ?_⟩
  obtain ⟨X, e, hX, hb⟩ := set_nat (fun a => ainI n f a == s) h7
  have h1' : onlyOk X = true := by have := h1; unfold thingS at this; rw [e, Int.toNat_natCast] at this; exact this
  have hne : X ≠ 0 := by intro e0; subst e0; revert h1'; decide
  obtain ⟨i, hi, hbi⟩ := (nonzero_iff (X : Int) (by unfold I64; omega)).1 (by rw [bne_iff_ne]; omega)
  rw [hasB_nat] at hbi
  have hgi := hbi
  rw [hb i hi, Bool.and_eq_true, decide_eq_true_eq] at hgi
  have hone : oneT (fun a => ainI n f a == s) i n = true := decide_eq_true ⟨hgi.1, hgi.2, fun a ha hh => by
    have hba : X.testBit a = true := by rw [hb a (by omega), decide_eq_true ha]; exact hh
    exact ((two_at hX (by omega) hbi).1 h1' a (by omega) hba).symm⟩
  obtain ⟨_, h3⟩ := only_one h7 hone
  exact ⟨i, hgi.1, by unfold thingN; rw [if_pos hw]; exact h3, beq_iff_eq.1 hgi.2⟩
theorem thing_at {n : Nat} {f : Nat → Int} {s : Int} {k : Nat} (hw : worldB n f = true) (hk : k < n) (h : ainI n f k = s) (hone : ∀ a, a < n → ainI n f a = s → a = k) : thingN n f s = k ∧ thingOk n f s = true := by
  have h7 := (worldB_7 hw).2
  have ho : oneT (fun a => ainI n f a == s) k n = true := decide_eq_true ⟨hk, beq_iff_eq.2 h, fun a ha hh => hone a ha (beq_iff_eq.1 hh)⟩
  obtain ⟨h1, h2⟩ := only_one h7 ho
  exact ⟨by unfold thingN; rw [if_pos hw]; exact h2, by unfold thingOk; rw [hw, Bool.true_and]; exact h1⟩
theorem thing_strong {n : Nat} {f : Nat → Int} (h64 : ∀ i, i < n → I64 (f i)) (hs : strongB n f = true) {k : Nat} (hk : k < n) : thingN n f (ainI n f k) = k ∧ thingOk n f (ainI n f k) = true :=
  thing_at (strong_world hs) hk rfl (fun _ ha e => strong_inj h64 hs ha hk e)
theorem ainB_at {n : Nat} {f : Nat → Int} {k : Nat} (hw : worldB n f = true) (hk : k < n) : ainB n f (k : Int) = ainI n f k := by
  unfold ainB; rw [if_pos ((good1_iff n f k).2 ⟨hw, by omega, by omega⟩), Int.toNat_natCast]
end Go.Proofs.YtamiidgpglepcaaGreatDoor
