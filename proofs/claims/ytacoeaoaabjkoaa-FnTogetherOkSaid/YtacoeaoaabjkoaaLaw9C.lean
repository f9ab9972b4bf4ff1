import Derived.Test.YtacoeaoaabjkoaaLaw9N
import Derived.Test.YtacoeaoaabjkoaaDrawQ
namespace Go.Proofs.Ytacoeaoaabjkoaa
open Go.RowKit Go.Maps

set_option maxRecDepth 100000 in
set_option maxHeartbeats 8000000 in
theorem lawTogetherOk (a : Option Addr) (n cap : Nat) (w : World) (h : BytesIn w a n cap) :
    Calls Try.prog 3 #[.slice a n cap] w (TrueEnd w) := by
  have hlen := h.len
  have H := Lib.hid h; clear h
  by_cases hn : 1048576 < n
  · go_enter Try.func3, Try.ntmps3
    go_wp2_with fail
    go_ret
    exact ⟨rfl, Below.refl _ _⟩
  · go_enter Try.func3, Try.ntmps3
    go_wp2_with fail
    refine (DrawTogetherOk_any _ _ _ _ H.out).mono ?_
    rintro e w1 ⟨d, m, c, f, x, rfl, hm, hx, hi, hb1⟩
    have H64 := Lib.hid hi.i64
    have HI := Lib.hid hi; have HB := Lib.hid hb1
    clear hi hb1
    have HX := Lib.hid hx; clear hx
    cases htx : thingB m f x with
    | false =>
      have HV := Lib.hid (show tgV m f x = false by unfold tgV; rw [htx]; rfl); have HT := Lib.hid htx
      clear htx
      go_wp2_with fail
      refine (TogetherOk_val _ m c f x false HX.out _ HV.out HI.out).mono ?_
      rintro e w9 ⟨rfl, hb2⟩
      replace HI := Lib.hid (HI.out.next hb2)
      replace HB := Lib.hid (below_onto HB.out hb2); clear hb2
      go_wp2_with fail
      refine (specTogetherOk_val _ m c f x false HX.out _ HV.out HI.out).mono ?_
      rintro e w9 ⟨rfl, hd3⟩
      replace HI := Lib.hid (HI.out.drew hd3)
      replace HB := Lib.hid (below_onto HB.out hd3.below); clear hd3
      go_wp2_with fail
      refine (specThingOk_val _ m c f x false HX.out _ HT.out HI.out).mono ?_
      rintro e w9 ⟨rfl, hd3⟩
      replace HB := Lib.hid (below_onto HB.out hd3.below); clear hd3
      go_wp2_with fail
      refine (alive_any _).mono ?_
      rintro e w9 ⟨rfl, hb2⟩
      replace HB := Lib.hid (below_onto HB.out hb2); clear hb2
      go_wp2_with fail
      go_ret
      exact ⟨rfl, HB.out⟩
    | true =>
      obtain ⟨hT, hx1⟩ := th_of H64.out HX.out htx
      have h7 := hT.g.hi
      obtain ⟨X, rfl⟩ := Int.eq_ofNat_of_zero_le hT.lo
      have hX := thS hT
      have HT := Lib.hid hT; have HG := Lib.hid htx
      have hX1 : 1 ≤ X := by omega
      obtain ⟨v, hv⟩ : ∃ v, tgV m f X = v := ⟨_, rfl⟩
      have HV := Lib.hid hv
      have HWV := Lib.hid (show whB m f X X = v by rw [wh_all H64.out hT, ← hv, tgV_of H64.out hT hx1])
      have hvv : (v != v) = false := by simp
      have hvv2 : (!(v == v)) = false := by simp
      have hvv3 : (v == v) = true := by simp
      clear hT hx1 htx hv
      go_wp2_with fail
      refine (TogetherOk_val _ m c f X v HX.out _ HV.out HI.out).mono ?_
      rintro e w9 ⟨rfl, hb2⟩
      replace HI := Lib.hid (HI.out.next hb2)
      replace HB := Lib.hid (below_onto HB.out hb2); clear hb2
      go_wp2_with fail
      refine (specTogetherOk_val _ m c f X v HX.out _ HV.out HI.out).mono ?_
      rintro e w9 ⟨rfl, hd3⟩
      replace HI := Lib.hid (HI.out.drew hd3)
      replace HB := Lib.hid (below_onto HB.out hd3.below); clear hd3
      go_wp2_with fail
      refine (specThingOk_val _ m c f X true HX.out _ HG.out HI.out).mono ?_
      rintro e w2 ⟨rfl, hd3⟩
      replace HI := Lib.hid (HI.out.drew hd3)
      replace HB := Lib.hid (below_onto HB.out hd3.below); clear hd3
      go_wp2_with fail
      go_loopw [6, 7] (fun s i wr => ∃ k : Nat, 1 ≤ k ∧ k ≤ X ∧ i = .int .i64 k ∧ s = .bool (whB m f X k) ∧ Below w2.heap.size w2 wr) (fun _ i _ => X - (intOf i).toNat)
      case atStart => exact ⟨1, Nat.le_refl _, hX1, rfl, by rw [wh_zero], Below.refl _ _⟩
      case round =>
        obtain ⟨k, hk1, hk, rfl, rfl, hbr⟩ := hrel
        by_cases hlt : k < X
        · have hki : (k : Int) < (X : Int) := by omega
          cases hw : whB m f X k with
          | false =>
            have HN := Lib.hid (wh_false hw)
            clear hw
            go_wp2_with fail
            go_roundw
            case rel => exact ⟨k + 1, by omega, by omega, by go_num, by rw [HN.out], hbr⟩
            case measure => simp [intOf]; omega
          | true =>
            by_cases ho : bits .or .i64 (k : Int) (X : Int) = (X : Int)
            · have ho1 : (bits .or .i64 (k : Int) (X : Int) == (X : Int)) = true := by rw [beq_iff_eq]; exact ho
              have ho2 : (bits .or .i64 (k : Int) (X : Int) != (X : Int)) = false := by rw [bne_eq_false_iff_eq]; exact ho
              have hws : IntKind.i64.wrap ((X : Int) - (k : Int)) = (X : Int) - (k : Int) := wrap_in _ (by unfold I64; omega)
              have HN := Lib.hid (show whB m f X (k + 1) = toB m f k ((X : Int) - (k : Int)) by rw [wh_step hk1 ho, hw]; rfl)
              have HK := Lib.hid (show I64 (k : Int) by unfold I64; omega)
              have HD := Lib.hid (show I64 ((X : Int) - (k : Int)) by unfold I64; omega)
              clear hw ho
              obtain ⟨z, hz⟩ : ∃ z, (X : Int) - (k : Int) = z := ⟨_, rfl⟩
              rw [hz] at hws HN HD
              rw [← hz] at hws
              obtain ⟨t, ht⟩ : ∃ t, toB m f k z = t := ⟨_, rfl⟩
              rw [ht] at HN
              have HTV := Lib.hid ht
              clear ht
              cases t
              all_goals
                go_wp2_with fail
                refine (TouchOk_val _ m c f k _ _ HK.out HD.out _ HTV.out (HI.out.next hbr)).mono ?_
                rintro e w9 ⟨rfl, hb2⟩
                replace hbr := hbr.trans (hb2.mono hbr.size); clear hb2
                go_wp2_with fail
                go_roundw
                case rel => exact ⟨k + 1, by omega, by omega, by go_num, by rw [HN.out], hbr⟩
                case measure => simp [intOf]; omega
            · have ho1 : (bits .or .i64 (k : Int) (X : Int) == (X : Int)) = false := by rw [beq_eq_false_iff_ne]; exact ho
              have ho2 : (bits .or .i64 (k : Int) (X : Int) != (X : Int)) = true := by rw [bne_iff_ne]; exact ho
              have HN := Lib.hid (show whB m f X (k + 1) = true by rw [wh_skip ho, hw])
              clear hw ho
              go_wp2_with fail
              go_roundw
              case rel => exact ⟨k + 1, by omega, by omega, by go_num, by rw [HN.out], hbr⟩
              case measure => simp [intOf]; omega
        · have hki : ¬ (k : Int) < (X : Int) := by omega
          have hkX : k = X := by omega
          subst hkX
          rw [HWV.out]
          have HBR := Lib.hid hbr; clear hbr
          go_wp2_with fail
          go_loopw [8] (fun i wr => ∃ p : Nat, p ≤ m ∧ i = .int .i64 p ∧ Below w2.heap.size w2 wr) (fun i _ => m - (intOf i).toNat)
          case atStart => exact ⟨0, Nat.zero_le _, rfl, HBR.out⟩
          case round =>
            clear HBR
            obtain ⟨p, hp, rfl, hbr⟩ := hrel
            by_cases hlt2 : p < m
            · have hpi : (p : Int) < (m : Int) := by omega
              have ⟨hp1, hp2⟩ := pow_bounds p (by omega)
              have hwr : IntKind.i64.wrap (2 ^ p) = 2 ^ p := wrap_in _ (by unfold I64; omega)
              have HO := Lib.hid (one_tg H64.out HT.out.g hlt2); have HP := Lib.hid (show I64 ((2 : Int) ^ p) by unfold I64; omega)
              go_wp2_with fail
              refine (TogetherOk_val _ m c f (2 ^ p) true HP.out _ HO.out (HI.out.next hbr)).mono ?_
              rintro e w9 ⟨rfl, hb2⟩
              replace hbr := hbr.trans (hb2.mono hbr.size); clear hb2
              go_wp2_with fail
              go_roundw
              case rel => exact ⟨p + 1, by omega, by go_num, hbr⟩
              case measure => simp [intOf]; omega
            · have hpi : ¬ (p : Int) < (m : Int) := by omega
              go_wp2_with fail
              go_ret
              exact ⟨rfl, below_onto HB.out hbr⟩
end Go.Proofs.Ytacoeaoaabjkoaa
