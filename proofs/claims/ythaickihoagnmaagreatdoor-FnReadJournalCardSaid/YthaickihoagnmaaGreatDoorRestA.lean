import Derived.Test.YthaickihoagnmaaGreatDoorAxioms
import Derived.Shelf.Spec.TrailingZeros
namespace Go.Proofs.YthaickihoagnmaaGreatDoor
open Go.RowKit

/-- the library's table of 64 numbers lies where it is laid -/
def TabW (w : World) : Prop := TabAt 2 Lib.deBruijn64tab w

theorem TabW.below {w w' : World} (h : TabW w) (hb : Below w.heap.size w w') : TabW w' := fun j hj =>
  (hb.cell (p := ⟨2, j, none⟩) (World.block_lt_of_cell? w _ (h j hj))).trans (h j hj)

set_option maxHeartbeats 1600000 in
theorem tz64_core (x k idx : Nat) (w : World) (hx0 : ((x : Int) == 0) = false)
    (key : IntKind.u64.wrap (bits BinOp.and IntKind.u64 (x : Int) (IntKind.u64.wrap (-(x : Int))) * 285870213051353865) / 288230376151711744 = (idx : Int))
    (hi : idx < 64) (hk : k < 64) (hcell : w.cell? ⟨2, idx, none⟩ = some (.int .u8 k)) :
    Calls Tryz.prog 258 #[.int .u64 x] w fun e w' => e = .returned (.int .i64 k) ∧ w = w' := by
  go_enter Tryz.func258, Tryz.ntmps258
  go_wp2_with (simp only [key])
  go_ret
  exact ⟨rfl, rfl⟩

/-- a number below 128 that is not 0: its lowest bit -/
def lowOk (X : Nat) : Bool := X == 0 || (X.testBit (Lib.ctz 64 X) && (List.range (Lib.ctz 64 X)).all (fun i => !X.testBit i) && decide (Lib.ctz 64 X < 7))
theorem lowOk_all : (List.range 128).all lowOk = true := by kernel_rfl

theorem ctz_at {X k : Nat} (hX : X < 128) (hk : X.testBit k = true) (hl : ∀ i, i < k → X.testBit i = false) : Lib.ctz 64 X = k ∧ k < 7 := by
  have h0 : X ≠ 0 := by intro e; subst e; simp at hk
  have h := lowOk_all
  rw [List.all_eq_true] at h
  have h2 := h X (List.mem_range.2 hX)
  unfold lowOk at h2
  rw [Bool.or_eq_true, Bool.and_eq_true, Bool.and_eq_true, decide_eq_true_eq, List.all_eq_true] at h2
  rcases h2 with h2 | ⟨⟨h3, h4⟩, h5⟩
  · exact absurd (beq_iff_eq.1 h2) h0
  · rcases Nat.lt_trichotomy (Lib.ctz 64 X) k with h6 | h6 | h6
    · rw [hl _ h6] at h3; cases h3
    · omega
    · have := h4 k (List.mem_range.2 h6); rw [hk] at this; cases this

theorem tz64_any (x : Nat) (h0 : x ≠ 0) (hx : x < 128) (w : World) (hT : TabW w) :
    Calls Tryz.prog 258 #[.int .u64 x] w fun e w' => e = .returned (.int .i64 (Lib.ctz 64 x)) ∧ w = w' := by
  have hx' : x < 18446744073709551616 := by omega
  obtain ⟨hlow, hk⟩ := Lib.lowest_bit 64 x h0 hx'
  obtain ⟨hi, htab⟩ := Lib.deBruijn64_at _ hk
  have hcell := hT _ hi
  rw [htab] at hcell
  exact tz64_core x _ _ w (by rw [beq_eq_false_iff_ne]; omega) (tz64_key x _ hx' h0 hlow) hi hk hcell

set_option maxHeartbeats 800000 in
theorem tz_any (x : Nat) (h0 : x ≠ 0) (hx : x < 128) (w : World) (hT : TabW w) :
    Calls Tryz.prog 252 #[.int .u64 x] w fun e w' => e = .returned (.int .i64 (Lib.ctz 64 x)) ∧ w = w' := by
  have HT := Lib.hid hT; clear hT
  go_enter Tryz.func252, Tryz.ntmps252
  go_wp2_with fail
  refine (tz64_any x h0 hx _ HT.out).mono ?_
  rintro e w' ⟨rfl, rfl⟩
  go_wp2_with fail
  go_ret
  exact ⟨rfl, rfl⟩

/-- the first number of a set, and whether there is one -/
def firstI (x : Int) : Int := if x = 0 then -1 else (Lib.ctz 64 x.toNat : Nat)

set_option maxHeartbeats 800000 in
theorem first_any (x : Nat) (hx : x < 128) (w : World) (hT : TabW w) :
    Calls Tryz.prog 238 #[.int .i64 x] w fun e w' => e = .returned (.tuple #[.int .i64 (firstI x), .bool ((x : Int) != 0)]) ∧ w = w' := by
  have HT := Lib.hid hT; clear hT
  by_cases h0 : x = 0
  · subst h0
    go_enter Tryz.func238, Tryz.ntmps238
    go_wp2_with fail
    go_ret2
    exact ⟨rfl, rfl⟩
  · have hx0 : ((x : Int) == 0) = false := by rw [beq_eq_false_iff_ne]; omega
    have HF := Lib.hid (show firstI x = (Lib.ctz 64 x : Nat) by unfold firstI; rw [if_neg (by omega)]; rfl)
    have HB := Lib.hid (show ((x : Int) != 0) = true by rw [bne, hx0]; rfl)
    go_enter Tryz.func238, Tryz.ntmps238
    go_wp2_with fail
    refine (tz_any x h0 hx _ HT.out).mono ?_
    rintro e w' ⟨rfl, rfl⟩
    go_wp2_with fail
    go_ret2
    exact ⟨by rw [HF.out, HB.out]; rfl, rfl⟩
end Go.Proofs.YthaickihoagnmaaGreatDoor
