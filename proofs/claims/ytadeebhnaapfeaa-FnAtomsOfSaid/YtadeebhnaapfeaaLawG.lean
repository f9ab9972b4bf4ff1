import Derived.Test.YtadeebhnaapfeaaLawF
namespace Go.Proofs.Ytadeebhnaapfeaa
open Go.RowKit

theorem hbB_atoms {n : Nat} {f : Nat → Int} {S : Int} (h7 : n ≤ 7) (hS : S = atomsI n f) (h0 : 0 < S) {k : Nat} (hk : k < n) (v : Bool) (h : anyP n f k n = v) (h64 : ∀ i, i < n → I64 (f i)) (hw : worldB n f = true) : hbB S k = !v := by
  rw [anyP_atom h64 hw hk] at h
  unfold hbB
  rw [decide_eq_true (by omega : 0 ≤ S), decide_eq_true (by omega : (0 : Int) ≤ (k : Int)), hS, Int.toNat_natCast, atomsI_bit n f k (by omega), decide_eq_true hk, ← h]
  simp

set_option maxHeartbeats 8000000 in
theorem lawAtomsOf (a : Option Addr) (n cap : Nat) (w : World) (h : BytesIn w a n cap) :
    Calls Try.prog 3 #[.slice a n cap] w (TrueEnd w) := by
  have hlen := h.len
  have H := Lib.hid h; clear h
  by_cases hn : 1048576 < n
  · go_enter Try.func3, Try.ntmps3
    go_wp2_with fail
    go_ret
    exact ⟨rfl, Below.refl _ _⟩
  · go_enter Try.func3, Try.ntmps3
    go_wp2_with fail
    refine (DrawAtomsOf_any _ _ _ _ H.out).mono ?_
    rintro e w1 ⟨d, m, c, f, rfl, hm, hi, hb1, hcap⟩
    have h64 := Lib.hid hi.i64
    clear hcap
    cases hw : worldB m f with
    | false =>
      have hfin : atomsB m f = -1 := by unfold atomsB; rw [if_neg (by rw [hw]; decide)]
      have HV := Lib.hid hfin; have HW := Lib.hid hw; clear hfin hw
      go_wp2_with fail
      refine (AtomsOf_val _ _ _ f (-1) _ HV.out hi).mono ?_
      rintro e w9 ⟨rfl, hb2⟩
      replace hi := hi.next hb2; replace hb1 := below_onto hb1 hb2; clear hb2
      go_wp2_with fail
      refine (specAtomsOf_val _ _ _ f (-1) _ HV.out hi).mono ?_
      rintro e w9 ⟨rfl, hd3⟩
      replace hi := hi.drew hd3; replace hb1 := below_onto hb1 hd3.below; clear hd3
      go_wp2_with fail
      refine (WorldOk_val _ _ _ f false _ HW.out hi).mono ?_
      rintro e w9 ⟨rfl, hb2⟩
      replace hi := hi.next hb2; replace hb1 := below_onto hb1 hb2; clear hb2
      go_wp2_with fail
      refine (alive_any _).mono ?_
      rintro e w9 ⟨rfl, hb2⟩
      replace hb1 := below_onto hb1 hb2; clear hb2
      go_wp2_with fail
      go_ret
      exact ⟨rfl, hb1⟩
    | true =>
      have h7 := (worldB_7 hw).2
      have hP := (worldB_iff m f h64.out).1 hw
      obtain ⟨S, hS⟩ : ∃ S, S = atomsI m f := ⟨_, rfl⟩
      have hfin : atomsB m f = S := by unfold atomsB; rw [if_pos hw, hS]
      have hS0 : 0 < S := by rw [hS]; exact atomsI_pos hP
      have hS64 : I64 S := by rw [hS]; exact setOf_I64 _ _
      have HV := Lib.hid hfin; have HW := Lib.hid hw; have HS := Lib.hid hS; have HS64 := Lib.hid hS64; clear hfin hw hS hS64 hP
      go_wp2_with fail
      refine (AtomsOf_val _ _ _ f S _ HV.out hi).mono ?_
      rintro e w9 ⟨rfl, hb2⟩
      replace hi := hi.next hb2; replace hb1 := below_onto hb1 hb2; clear hb2
      go_wp2_with fail
      refine (specAtomsOf_val _ _ _ f S _ HV.out hi).mono ?_
      rintro e w9 ⟨rfl, hd3⟩
      replace hi := hi.drew hd3; replace hb1 := below_onto hb1 hd3.below; clear hd3
      go_wp2_with fail
      go_loopw [5] (fun i wr => ∃ k : Nat, k ≤ m ∧ i = .int .i64 k ∧ Ints wr d m f ∧ Below w.heap.size w wr) (fun i _ => m - (intOf i).toNat)
      case atStart => exact ⟨0, Nat.zero_le _, rfl, hi, hb1⟩
      case round =>
        clear hi hb1
        obtain ⟨k, hk, rfl, hi, hb1⟩ := hrel
        by_cases hlt : k < m
        · go_wp2_with fail
          go_loopw [6, 7] (fun s i wr => ∃ (j : Nat) (bb : Bool), j ≤ m ∧ i = .int .i64 j ∧ s = .bool bb ∧ Hid (anyP m f k j = bb) ∧ Ints wr d m f ∧ Below w.heap.size w wr) (fun _ i _ => m - (intOf i).toNat)
          case atStart => exact ⟨0, false, Nat.zero_le _, rfl, rfl, anyP_zero m f k, hi, hb1⟩
          case round =>
            clear hi hb1
            obtain ⟨j, bb, hj, rfl, rfl, hany, hi, hb1⟩ := hrel
            by_cases hjm : j < m
            · cases bb with
              | true =>
                go_wp2_with fail
                go_roundw
                case rel => exact ⟨j + 1, _, by omega, by go_num, rfl, anyP_old m f k j hany.out, hi, hb1⟩
                case measure => simp [intOf]; omega
              | false =>
                cases hp : properB m f j k with
                | true =>
                  have HP := Lib.hid hp; clear hp
                  go_wp2_with fail
                  refine (ProperOk_val _ _ _ f j k true _ HP.out hi).mono ?_
                  rintro e w9 ⟨rfl, hb2⟩
                  replace hi := hi.next hb2; replace hb1 := below_onto hb1 hb2; clear hb2
                  go_wp2_with fail
                  go_roundw
                  case rel => exact ⟨j + 1, _, by omega, by go_num, rfl, anyP_new m f k j hany.out true HP.out, hi, hb1⟩
                  case measure => simp [intOf]; omega
                | false =>
                  have HP := Lib.hid hp; clear hp
                  go_wp2_with fail
                  refine (ProperOk_val _ _ _ f j k false _ HP.out hi).mono ?_
                  rintro e w9 ⟨rfl, hb2⟩
                  replace hi := hi.next hb2; replace hb1 := below_onto hb1 hb2; clear hb2
                  go_wp2_with fail
                  go_roundw
                  case rel => exact ⟨j + 1, _, by omega, by go_num, rfl, anyP_new m f k j hany.out false HP.out, hi, hb1⟩
                  case measure => simp [intOf]; omega
            · have hjm2 : j = m := by omega
              have HJ := Lib.hid hjm2; clear hjm2
              cases bb with
              | true =>
                have HB := Lib.hid (hbB_atoms h7 HS.out hS0 hlt true (by have h1 := hany.out; rw [HJ.out] at h1; exact h1) h64.out HW.out)
                go_wp2_with fail
                refine (hasBit_val S k false HB.out (by omega) HS64.out _).mono ?_
                rintro e w9 ⟨rfl, rfl⟩
                go_wp2_with fail
                go_roundw
                case rel => exact ⟨k + 1, by omega, by go_num, hi, hb1⟩
                case measure => simp [intOf]; omega
              | false =>
                have HB := Lib.hid (hbB_atoms h7 HS.out hS0 hlt false (by have h1 := hany.out; rw [HJ.out] at h1; exact h1) h64.out HW.out)
                go_wp2_with fail
                refine (hasBit_val S k true HB.out (by omega) HS64.out _).mono ?_
                rintro e w9 ⟨rfl, rfl⟩
                go_wp2_with fail
                go_roundw
                case rel => exact ⟨k + 1, by omega, by go_num, hi, hb1⟩
                case measure => simp [intOf]; omega
        · go_wp2_with fail
          go_ret
          exact ⟨rfl, hb1⟩

/-- what the law of AtomsIn asks of two things does not hold of any -/
theorem atomsIn_law1 {n : Nat} {f : Nat → Int} (hP : WorldP n f) {a b : Nat} (ha : a < n) (hb : b < n) (h : hasB (f b) a = true) : (bits .or .i64 (ainI n f a) (ainI n f b) != ainI n f b) = false := by
  have := or_within (ainI n f a) (ainI n f b) (ainI_I64 n f b)
  rw [ain_mono hP ha hb h] at this
  rw [bne_eq_false_iff_eq]; exact beq_iff_eq.1 this

theorem over_at {n : Nat} {f : Nat → Int} (hw : worldB n f = true) (h64 : ∀ i, i < n → I64 (f i)) {a b : Nat} (ha : a < n) (hb : b < n) : overB n f a b = (bits .and .i64 (ainI n f a) (ainI n f b) != 0) := by
  unfold overB; rw [(good2_iff n f a b).2 ⟨hw, by omega, by omega⟩, Bool.true_and, Int.toNat_natCast, Int.toNat_natCast]
  exact over_atoms ((worldB_iff n f h64).1 hw) ha hb
theorem part_val_at {n : Nat} {f : Nat → Int} (hw : worldB n f = true) {x y : Nat} (hx : x < n) (hy : y < n) : partB n f x y = hasB (f y) x := by
  unfold partB; rw [(good2_iff n f x y).2 ⟨hw, by omega, by omega⟩]; rfl

set_option maxHeartbeats 8000000 in
theorem lawAtomsIn (a : Option Addr) (n cap : Nat) (w : World) (h : BytesIn w a n cap) :
    Calls Try.prog 4 #[.slice a n cap] w (TrueEnd w) := by
  have hlen := h.len
  have H := Lib.hid h; clear h
  by_cases hn : 1048576 < n
  · go_enter Try.func4, Try.ntmps4
    go_wp2_with fail
    go_ret
    exact ⟨rfl, Below.refl _ _⟩
  · go_enter Try.func4, Try.ntmps4
    go_wp2_with fail
    refine (DrawAtomsIn_any _ _ _ _ H.out).mono ?_
    rintro e w1 ⟨d, m, c, f, x, rfl, hm, hx64, hi, hb1⟩
    have h64 := Lib.hid hi.i64
    obtain ⟨hx1, hx2⟩ := hx64
    cases hg : good1 m f x with
    | false =>
      have hfin : ainB m f x = -1 := by unfold ainB; rw [if_neg (by rw [hg]; decide)]
      have HV := Lib.hid hfin; clear hfin hg
      go_wp2_with fail
      refine (AtomsIn_val _ _ _ f x (-1) _ HV.out hi).mono ?_
      rintro e w9 ⟨rfl, hb2⟩
      replace hi := hi.next hb2; replace hb1 := below_onto hb1 hb2; clear hb2
      go_wp2_with fail
      refine (specAtomsIn_val _ _ _ f x (-1) _ HV.out hi).mono ?_
      rintro e w9 ⟨rfl, hd3⟩
      replace hi := hi.drew hd3; replace hb1 := below_onto hb1 hd3.below; clear hd3
      go_wp2_with fail
      refine (alive_any _).mono ?_
      rintro e w9 ⟨rfl, hb2⟩
      replace hb1 := below_onto hb1 hb2; clear hb2
      go_wp2_with fail
      go_ret
      exact ⟨rfl, hb1⟩
    | true =>
      obtain ⟨hwb, hx0, hx1'⟩ := (good1_iff m f x).1 hg
      have hP := (worldB_iff m f h64.out).1 hwb
      have h7 := (worldB_7 hwb).2
      obtain ⟨X, rfl⟩ := Int.eq_ofNat_of_zero_le hx0
      have hXm : X < m := by omega
      obtain ⟨S, hS⟩ : ∃ S, S = ainI m f X := ⟨_, rfl⟩
      have hfin : ainB m f X = S := by unfold ainB; rw [if_pos hg, hS]; rfl
      have hS0 : 0 < S := by rw [hS]; exact ain_pos hP hXm
      have hS64 : I64 S := by rw [hS]; exact ainI_I64 _ _ _
      obtain ⟨hS1, hS2⟩ := hS64
      have HV := Lib.hid hfin; have HW := Lib.hid hwb; have HS := Lib.hid hS; have HP := Lib.hid hP; clear hfin hwb hS hP hg hx0
      go_wp2_with fail
      refine (AtomsIn_val _ _ _ f X S _ HV.out hi).mono ?_
      rintro e w9 ⟨rfl, hb2⟩
      replace hi := hi.next hb2; replace hb1 := below_onto hb1 hb2; clear hb2
      go_wp2_with fail
      refine (specAtomsIn_val _ _ _ f X S _ HV.out hi).mono ?_
      rintro e w9 ⟨rfl, hd3⟩
      replace hi := hi.drew hd3; replace hb1 := below_onto hb1 hd3.below; clear hd3
      go_wp2_with fail
      go_loopw [6] (fun i wr => ∃ k : Nat, k ≤ m ∧ i = .int .i64 k ∧ Ints wr d m f ∧ Below w.heap.size w wr) (fun i _ => m - (intOf i).toNat)
      case atStart => exact ⟨0, Nat.zero_le _, rfl, hi, hb1⟩
      case round =>
        clear hi hb1
        obtain ⟨k, hk, rfl, hi, hb1⟩ := hrel
        by_cases hlt : k < m
        · cases ho : (bits .and .i64 S (ainI m f k) != 0) with
          | true =>
            have HO := Lib.hid (show overB m f X k = true by rw [over_at HW.out h64.out hXm hlt, ← HS.out]; exact ho)
            cases hp : hasB (f k) X with
            | true =>
              have HPP := Lib.hid (show partB m f X k = true by rw [part_val_at HW.out hXm hlt]; exact hp)
              have h1 : (bits .or .i64 S (ainI m f k) != ainI m f k) = false := by rw [HS.out]; exact atomsIn_law1 HP.out hXm hlt hp
              clear hp
              go_wp2_with fail
              refine (AtomsIn_at _ _ _ f k HW.out hlt _ hi).mono ?_
              rintro e w9 ⟨rfl, hb2⟩
              replace hi := hi.next hb2; replace hb1 := below_onto hb1 hb2; clear hb2
              go_wp2_with fail
              refine (PartOk_val _ _ _ f X k true _ HPP.out hi).mono ?_
              rintro e w9 ⟨rfl, hb2⟩
              replace hi := hi.next hb2; replace hb1 := below_onto hb1 hb2; clear hb2
              go_wp2_with fail
              refine (OverlapOk_val _ _ _ f X k true _ HO.out hi).mono ?_
              rintro e w9 ⟨rfl, hb2⟩
              replace hi := hi.next hb2; replace hb1 := below_onto hb1 hb2; clear hb2
              go_wp2_with fail
              go_roundw
              case rel => exact ⟨k + 1, by omega, by go_num, hi, hb1⟩
              case measure => simp [intOf]; omega
            | false =>
              have HPP := Lib.hid (show partB m f X k = false by rw [part_val_at HW.out hXm hlt]; exact hp)
              clear hp
              go_wp2_with fail
              refine (AtomsIn_at _ _ _ f k HW.out hlt _ hi).mono ?_
              rintro e w9 ⟨rfl, hb2⟩
              replace hi := hi.next hb2; replace hb1 := below_onto hb1 hb2; clear hb2
              go_wp2_with fail
              refine (PartOk_val _ _ _ f X k false _ HPP.out hi).mono ?_
              rintro e w9 ⟨rfl, hb2⟩
              replace hi := hi.next hb2; replace hb1 := below_onto hb1 hb2; clear hb2
              go_wp2_with fail
              refine (OverlapOk_val _ _ _ f X k true _ HO.out hi).mono ?_
              rintro e w9 ⟨rfl, hb2⟩
              replace hi := hi.next hb2; replace hb1 := below_onto hb1 hb2; clear hb2
              go_wp2_with fail
              go_roundw
              case rel => exact ⟨k + 1, by omega, by go_num, hi, hb1⟩
              case measure => simp [intOf]; omega
          | false =>
            have HO := Lib.hid (show overB m f X k = false by rw [over_at HW.out h64.out hXm hlt, ← HS.out]; exact ho)
            cases hp : hasB (f k) X with
            | true =>
              have HPP := Lib.hid (show partB m f X k = true by rw [part_val_at HW.out hXm hlt]; exact hp)
              have h1 : (bits .or .i64 S (ainI m f k) != ainI m f k) = false := by rw [HS.out]; exact atomsIn_law1 HP.out hXm hlt hp
              clear hp
              go_wp2_with fail
              refine (AtomsIn_at _ _ _ f k HW.out hlt _ hi).mono ?_
              rintro e w9 ⟨rfl, hb2⟩
              replace hi := hi.next hb2; replace hb1 := below_onto hb1 hb2; clear hb2
              go_wp2_with fail
              refine (PartOk_val _ _ _ f X k true _ HPP.out hi).mono ?_
              rintro e w9 ⟨rfl, hb2⟩
              replace hi := hi.next hb2; replace hb1 := below_onto hb1 hb2; clear hb2
              go_wp2_with fail
              refine (OverlapOk_val _ _ _ f X k false _ HO.out hi).mono ?_
              rintro e w9 ⟨rfl, hb2⟩
              replace hi := hi.next hb2; replace hb1 := below_onto hb1 hb2; clear hb2
              go_wp2_with fail
              go_roundw
              case rel => exact ⟨k + 1, by omega, by go_num, hi, hb1⟩
              case measure => simp [intOf]; omega
            | false =>
              have HPP := Lib.hid (show partB m f X k = false by rw [part_val_at HW.out hXm hlt]; exact hp)
              clear hp
              go_wp2_with fail
              refine (AtomsIn_at _ _ _ f k HW.out hlt _ hi).mono ?_
              rintro e w9 ⟨rfl, hb2⟩
              replace hi := hi.next hb2; replace hb1 := below_onto hb1 hb2; clear hb2
              go_wp2_with fail
              refine (PartOk_val _ _ _ f X k false _ HPP.out hi).mono ?_
              rintro e w9 ⟨rfl, hb2⟩
              replace hi := hi.next hb2; replace hb1 := below_onto hb1 hb2; clear hb2
              go_wp2_with fail
              refine (OverlapOk_val _ _ _ f X k false _ HO.out hi).mono ?_
              rintro e w9 ⟨rfl, hb2⟩
              replace hi := hi.next hb2; replace hb1 := below_onto hb1 hb2; clear hb2
              go_wp2_with fail
              go_roundw
              case rel => exact ⟨k + 1, by omega, by go_num, hi, hb1⟩
              case measure => simp [intOf]; omega
        · go_wp2_with fail
          go_ret
          exact ⟨rfl, hb1⟩
end Go.Proofs.Ytadeebhnaapfeaa
