import Derived.Test.YtacoeaoaabjkoaaLaw9D
import Derived.Deep.QuietTactic
import Derived.Deep.RegionHeld3
namespace Go.Proofs.Ytacoeaoaabjkoaa
open Go.RowKit Go.Maps

/-- whether b is within one of the first k -/
def wiB (v : Bool) (b : Int) (ys : List Int) (k : Nat) : Bool := v || decide (∃ j, j < k ∧ bits .or .i64 b (ys.getD j 0) = ys.getD j 0)
theorem wi_zero (v : Bool) (b : Int) (ys : List Int) : wiB v b ys 0 = v := by
  unfold wiB
  rw [decide_eq_false (fun ⟨j, hj, _⟩ => absurd hj (Nat.not_lt_zero _)), Bool.or_false]
theorem wi_step (v : Bool) (b : Int) (ys : List Int) (k : Nat) : wiB v b ys (k + 1) = (wiB v b ys k || (bits .or .i64 b (ys.getD k 0) == ys.getD k 0)) := by
  unfold wiB
  rw [Bool.or_assoc]
  congr 1
  rw [Bool.eq_iff_iff, Bool.or_eq_true, decide_eq_true_eq, decide_eq_true_eq, beq_iff_eq]
  constructor
  · rintro ⟨j, hj, h⟩
    by_cases e : j = k
    · subst e; exact .inr h
    · exact .inl ⟨j, by omega, h⟩
  · rintro (⟨j, hj, h⟩ | h)
    · exact ⟨j, by omega, h⟩
    · exact ⟨k, by omega, h⟩

set_option maxRecDepth 100000 in
set_option maxHeartbeats 16000000 in
theorem lawPiecesOf (a : Option Addr) (n cap : Nat) (w : World) (h : BytesIn w a n cap) :
    Calls Try.prog 4 #[.slice a n cap] w (TrueEnd w) := by
  have hlen := h.len
  have H := Lib.hid h; clear h
  by_cases hn : 1048576 < n
  · go_enter Try.func4, Try.ntmps4
    go_wp2_with fail
    go_ret
    exact ⟨rfl, Below.refl _ _⟩
  · go_enter Try.func4, Try.ntmps4
    go_wp2_with fail
    refine (DrawPiecesOf_any _ _ _ _ H.out).mono ?_
    rintro e w1 ⟨d, m, c, f, x, rfl, hm, hx, hi, hb1⟩
    have H64 := Lib.hid hi.i64
    have HI := Lib.hid hi; have HB := Lib.hid hb1
    clear hi hb1
    have HX := Lib.hid hx; clear hx
    obtain ⟨ys, hys⟩ : ∃ ys, pcV m f x = ys := ⟨_, rfl⟩
    have HYS := Lib.hid hys
    have HL7 := Lib.hid (show ys.length ≤ 1000 by rw [← hys]; have := pcV_7 (n := m) (f := f) (a := x); omega)
    have HL64 := Lib.hid (show ∀ y ∈ ys, I64 y by rw [← hys]; exact pcV_64 H64.out HX.out)
    cases htx : thingB m f x with
    | false =>
      have hy0 : ys = [] := by rw [← hys]; unfold pcV; rw [if_neg (by rw [htx]; decide)]
      subst hy0
      have HT := Lib.hid htx
      clear htx hys
      go_wp2_with fail
      refine (PiecesOf_any _ m c f x [] HYS.out HX.out _ HI.out).mono ?_
      intro e w2 hg
      obtain ⟨a1, c1, rfl, hb2⟩ := hg.none
      replace HI := Lib.hid (HI.out.next hb2)
      replace HB := Lib.hid (below_onto HB.out hb2); clear hb2 hg
      go_wp2_with fail
      refine (specPiecesOf_any _ m c f x [] HYS.out HX.out _ HI.out).mono ?_
      intro e w3 hg
      obtain ⟨a2, c2, rfl, hb2⟩ := hg.none
      replace HI := Lib.hid (HI.out.next hb2)
      replace HB := Lib.hid (below_onto HB.out hb2); clear hb2 hg
      go_wp2_with fail
      refine (sameInts_nil _ _ _ _ _).mono ?_
      rintro e w4 ⟨rfl, hd3⟩
      replace HI := Lib.hid (HI.out.drew hd3)
      replace HB := Lib.hid (below_onto HB.out hd3.below); clear hd3
      go_wp2_with fail
      refine (ThingOk_val _ m c f x false HX.out _ HT.out HI.out).mono ?_
      rintro e w9 ⟨rfl, hb2⟩
      replace HB := Lib.hid (below_onto HB.out hb2); clear hb2
      go_wp2_with fail
      refine (alive_any _).mono ?_
      rintro e w9 ⟨rfl, hb2⟩
      replace HB := Lib.hid (below_onto HB.out hb2); clear hb2
      go_wp2_with fail
      go_ret
      exact ⟨rfl, HB.out⟩
    | true =>
      obtain ⟨hT, hx1⟩ := th_of H64.out HX.out htx
      have h7 := hT.g.hi
      have hpl : pcsL m f x = ys := by rw [← hys]; unfold pcV; rw [if_pos htx]
      have hL1 : 1 ≤ ys.length := by rw [← hys]; exact pcV_ne H64.out HX.out htx
      obtain ⟨X, rfl⟩ := Int.eq_ofNat_of_zero_le hT.lo
      have hX := thS hT
      have hX1 : 1 ≤ X := by omega
      obtain ⟨L, hL⟩ : ∃ L, ys.length = L := ⟨_, rfl⟩
      have HLL := Lib.hid hL
      have hL7 : L ≤ 1000 := by have := HL7.out; omega
      have HTO := Lib.hid (fun k j (hk : k < L) (hj : j < k) => show toB m f (ys.getD k 0) (ys.getD j 0) = false by rw [← hpl]; exact pcs_touch H64.out hT (by rw [hpl, hL]; exact hk) hj)
      have HTG := Lib.hid (fun k (hk : k < L) => show tgV m f (ys.getD k 0) = true by
        obtain ⟨p, hl, e⟩ := pcs_at (n := m) (f := f) (a := X) (k := k) (by rw [hpl, hL]; exact hk)
        rw [hpl] at e
        rw [e]; exact pc_tgV H64.out hT ((ld_iff hT).1 hl).1)
      have HY64 := Lib.hid (fun k (hk : k < L) => show I64 (ys.getD k 0) from HL64.out _ (getD_mem (by rw [hL]; exact hk)))
      have HALL := Lib.hid (show (fiL 0 (ys.take L) == (X : Int)) = true by rw [List.take_of_length_le (by rw [hL]; exact Nat.le_refl _), ← hpl, pcs_all hT, beq_iff_eq])
      have HWI := Lib.hid (fun (b : Nat) (hb1 : 1 ≤ b) (hb : b ≤ X) => show wiB (!(bits .or .i64 (b : Int) (X : Int) == (X : Int)) || !tgV m f (b : Int)) b ys L = true by
        unfold wiB
        by_cases ho : bits .or .i64 (b : Int) (X : Int) = (X : Int)
        · cases ht : tgV m f (b : Int) with
          | false => simp
          | true =>
            have hTb : ThP m f (b : Int) := ⟨hT.g, by omega, by have := hT.hi; omega⟩
            rw [tgV_of H64.out hTb (by omega)] at ht
            have hsub : ∀ i, hasB (b : Int) i = true → hasB (X : Int) i = true := fun i hi => by
              have hin := hTb.lt hi
              have ho2 : orI (X : Int) (b : Int) = (X : Int) := by rw [or_comm]; exact ho
              exact (or_eq_iff _ _ hT.i64).1 ho2 i (by omega) hi
            obtain ⟨k, hk, he⟩ := pcs_within hT hTb (by omega) hsub ht
            rw [hpl] at hk he
            rw [decide_eq_true ⟨k, by omega, he⟩, Bool.or_true]
        · rw [beq_eq_false_iff_ne.2 ho]; rfl)
      have HT := Lib.hid hT; have HG := Lib.hid htx
      clear hT htx hx1 hpl hys
      have hl0 : ((L : Int) == 0) = false := by rw [beq_eq_false_iff_ne]; omega
      go_wp2_with fail
      refine (PiecesOf_any _ m c f X ys HYS.out HX.out _ HI.out).mono ?_
      rintro e w2 ⟨v1, rfl, ho1, hb2⟩
      obtain ⟨g1, c1, rfl, _, hgl, _, _, hrow, _⟩ := ho1.shape hL1
      rw [hL] at hrow ⊢
      have H1 := Lib.hid (show Ints w2 (some ⟨g1, 0, none⟩) L (fun i => ys.getD i 0) from ⟨⟨by omega, fun i hi => HY64.out i hi⟩, .inr ⟨g1, 0, rfl, hgl, hrow⟩⟩)
      replace HI := Lib.hid (HI.out.next hb2)
      replace HB := Lib.hid (below_onto HB.out hb2); clear hb2 hrow ho1 hgl
      go_wp2_with fail
      refine (specPiecesOf_any _ m c f X ys HYS.out HX.out _ HI.out).mono ?_
      intro e w3 hg
      obtain ⟨a2, c2, rfl, h2, hb2⟩ := hg.has HL7.out HL64.out
      have H2 := Lib.hid h2.ints
      replace HI := Lib.hid (HI.out.next hb2); replace H1 := Lib.hid (H1.out.next hb2)
      replace HB := Lib.hid (below_onto HB.out hb2); clear hb2 hg h2
      rw [hL] at H2 ⊢
      rw [hL] at hL1
      clear hL
      go_wp2_with fail
      refine (sameI_any _ _ L _ _ _ (by omega) _ H1.out H2.out).mono ?_
      rintro e w4 ⟨rfl, hd3⟩
      replace HI := Lib.hid (HI.out.drew hd3); replace H1 := Lib.hid (H1.out.drew hd3)
      replace HB := Lib.hid (below_onto HB.out hd3.below); clear hd3 H2
      have HC := Lib.hid (fun (W : World) (hb : Below w4.heap.size w4 W) (k : Nat) (hk : k < L) => show W.cell? ⟨g1, k, none⟩ = some (.int .i64 (ys.getD k 0)) by
        obtain ⟨b, o, e1, _, hr⟩ := (H1.out.next hb).row hL1
        injection e1 with e1
        injection e1 with e1 e2
        subst e1; subst e2
        have := hr k hk
        rw [Nat.zero_add] at this
        exact this)
      go_wp2_with fail
      go_loopw [6, 7, 8] (fun s i _ wr => ∃ k : Nat, k ≤ L ∧ i = .int .i64 k ∧ s = .int .i64 (fiL 0 (ys.take k)) ∧ Below w4.heap.size w4 wr) (fun _ i _ _ => L - (intOf i).toNat)
      case atStart => exact ⟨0, Nat.zero_le _, rfl, rfl, Below.refl _ _⟩
      case round =>
        obtain ⟨k, hk, rfl, rfl, hbr⟩ := hrel
        by_cases hlt : k < L
        · have hki : (k : Int) < (L : Int) := by omega
          have hk0 : (0 : Int) ≤ (k : Int) := by omega
          have HBR := Lib.hid hbr; clear hbr
          go_wp2_with fail
          go_loopw [8] (fun i wr => ∃ j : Nat, j ≤ k ∧ i = .int .i64 j ∧ Below w4.heap.size w4 wr) (fun i _ => k - (intOf i).toNat)
          case atStart => exact ⟨0, Nat.zero_le _, rfl, HBR.out⟩
          case round =>
            clear HBR
            obtain ⟨j, hj, rfl, hbx⟩ := hrel
            by_cases hjk : j < k
            · have hji : (j : Int) < (k : Int) := by omega
              have hjL : (j : Int) < (L : Int) := by omega
              have hj0 : (0 : Int) ≤ (j : Int) := by omega
              have HCK := Lib.hid (HC.out wr.drew (hbx.trans ((below_drewN (Below.refl _ wr) 1).mono hbx.size)) k hlt)
              have HCJ := Lib.hid (HC.out wr.drew (hbx.trans ((below_drewN (Below.refl _ wr) 1).mono hbx.size)) j (by omega))
              have HTV := Lib.hid (HTO.out k j hlt hjk)
              have HZ1 := Lib.hid (HY64.out k hlt); have HZ2 := Lib.hid (HY64.out j (by omega))
              have HID := Lib.hid (show Ints wr.drew d m f from (HI.out.next hbx).drewN 1)
              obtain ⟨z1, hz1⟩ : ∃ z, ys.getD k 0 = z := ⟨_, rfl⟩
              obtain ⟨z2, hz2⟩ : ∃ z, ys.getD j 0 = z := ⟨_, rfl⟩
              rw [hz1] at HCK HTV HZ1
              rw [hz2] at HCJ HTV HZ2
              have HE1 := Lib.hid hz1; have HE2 := Lib.hid hz2
              have HBX := Lib.hid hbx
              clear hz1 hz2 hbx
              go_wp2_with fail
              go_region_held3 (fun w' => w'.cell? ⟨g1, k, none⟩ = some (.int .i64 z1) ∧ w'.cell? ⟨g1, j, none⟩ = some (.int .i64 z2)) (first | exact ⟨HCK.out, HCJ.out⟩ | go_keep)
                ((go_at_call 18; refine (TouchOk_val _ m c f z1 z2 false HZ1.out HZ2.out _ HTV.out HID.out).mono ?_; rintro e w9 ⟨rfl, hb9⟩; have HB9 := Lib.hid hb9; have hb8 := HBX.out.trans ((below_of_drew hb9).mono HBX.out.size); replace HCK := Lib.hid ((HC.out w9 hb8 k hlt).trans (by rw [HE1.out])); replace HCJ := Lib.hid ((HC.out w9 hb8 j (by omega)).trans (by rw [HE2.out])); clear hb9 hb8))
              all_goals
                have hb10 := HBX.out.trans ((below_of_drew HB9.out).mono HBX.out.size)
                go_wp2_with fail
                go_roundw
                case rel => exact ⟨j + 1, by omega, by go_num, hb10⟩
                case measure => simp [intOf]; omega
            · have hji : ¬ (j : Int) < (k : Int) := by omega
              have hck := HC.out _ hbx k hlt
              have HZ1 := Lib.hid (HY64.out k hlt); have HT1 := Lib.hid (HTG.out k hlt)
              have HS := Lib.hid (show fiL 0 (ys.take (k + 1)) = bits .or .i64 (fiL 0 (ys.take k)) (ys.getD k 0) by rw [take_next (by rw [HLL.out]; exact hlt), fiL_snoc])
              obtain ⟨z1, hz1⟩ : ∃ z, ys.getD k 0 = z := ⟨_, rfl⟩
              obtain ⟨y1, hy1⟩ : ∃ y, fiL 0 (ys.take k) = y := ⟨_, rfl⟩
              simp only [hz1, hy1] at hck HT1 HZ1 HS ⊢
              have HCC := Lib.hid (fun W (hb : Below w4.heap.size w4 W) => (HC.out W hb k hlt).trans (by rw [hz1]))
              clear hz1 hy1
              go_wp2_with fail
              refine (TogetherOk_val _ m c f z1 true HZ1.out _ HT1.out (HI.out.next hbx)).mono ?_
              rintro e w9 ⟨rfl, hb2⟩
              have hb10 := hbx.trans (hb2.mono hbx.size)
              have hc9 := HCC.out _ hb10
              clear hck
              go_wp2_with fail
              go_roundw
              case rel => exact ⟨k + 1, by omega, by go_num, by rw [HS.out], hb10⟩
              case measure => simp [intOf]; omega
        · have hki : ¬ (k : Int) < (L : Int) := by omega
          have hkL : k = L := by omega
          rw [hkL]
          clear hkL hki hlt hk
          have hall := HALL.out
          obtain ⟨y1, hy1⟩ : ∃ y, fiL 0 (ys.take L) = y := ⟨_, rfl⟩
          rw [hy1] at hall ⊢
          have HBR := Lib.hid hbr
          have HAL := Lib.hid hall
          clear hbr hy1 hall
          go_wp2_with fail
          go_loopw [9, 10, 11] (fun i _ _ wr => ∃ b : Nat, 1 ≤ b ∧ b ≤ X + 1 ∧ i = .int .i64 b ∧ Below w4.heap.size w4 wr) (fun i _ _ _ => X + 1 - (intOf i).toNat)
          case atStart => exact ⟨1, Nat.le_refl _, by omega, rfl, HBR.out⟩
          case round =>
            clear HBR
            obtain ⟨b, hb1, hb, rfl, hbr⟩ := hrel
            by_cases hlt2 : b ≤ X
            · have hbi : (b : Int) ≤ (X : Int) := by omega
              have HW := Lib.hid (HWI.out b hb1 hlt2)
              have HB64 := Lib.hid (show I64 (b : Int) by unfold I64; omega)
              obtain ⟨tv, htv⟩ : ∃ tv, tgV m f (b : Int) = tv := ⟨_, rfl⟩
              rw [htv] at HW
              have HTV := Lib.hid htv; clear htv
              cases ho : (bits .or .i64 (b : Int) (X : Int) == (X : Int)) with
              | false =>
                have ho2 : (bits .or .i64 (b : Int) (X : Int) != (X : Int)) = true := by rw [bne_iff_ne]; exact beq_eq_false_iff_ne.1 ho
                rw [ho] at HW
                replace HW : Hid (wiB true b ys L = true) := Lib.hid HW.out
                go_wp2_with fail
                go_loopw [10, 11] (fun s i wr => ∃ j : Nat, j ≤ L ∧ i = .int .i64 j ∧ s = .bool (wiB true b ys j) ∧ Below w4.heap.size w4 wr) (fun _ i _ => L - (intOf i).toNat)
                case atStart => exact ⟨0, Nat.zero_le _, rfl, by rw [wi_zero], hbr⟩
                case round =>
                  clear hbr
                  obtain ⟨j, hj, rfl, rfl, hbr⟩ := hrel
                  by_cases hjL : j < L
                  · have hji : (j : Int) < (L : Int) := by omega
                    have hj0 : (0 : Int) ≤ (j : Int) := by omega
                    have hcj := HC.out _ hbr j hjL
                    have HS := Lib.hid (wi_step true (b : Int) ys j)
                    obtain ⟨z1, hz1⟩ : ∃ z, ys.getD j 0 = z := ⟨_, rfl⟩
                    rw [hz1] at hcj HS
                    clear hz1
                    have HBR := Lib.hid hbr; clear hbr
                    cases hw : wiB true b ys j with
                    | true =>
                      rw [hw, Bool.true_or] at HS
                      clear hw hcj
                      go_wp2_with fail
                      go_quiet (fail)
                      go_wp2_with fail
                      go_roundw
                      case rel => exact ⟨j + 1, by omega, by go_num, by rw [HS.out], HBR.out.trans (((Drew.refl _).more _).below.mono HBR.out.size)⟩
                      case measure => simp [intOf]; omega
                    | false =>
                      rw [hw, Bool.false_or] at HS
                      clear hw
                      cases he : (bits .or .i64 (b : Int) z1 == z1)
                      all_goals
                        rw [he] at HS
                        go_wp2_with fail
                        go_quiet (fail)
                        go_wp2_with fail
                        go_roundw
                        case rel => exact ⟨j + 1, by omega, by go_num, by rw [HS.out], HBR.out.trans (((Drew.refl _).more _).below.mono HBR.out.size)⟩
                        case measure => simp [intOf]; omega
                  · have hji : ¬ (j : Int) < (L : Int) := by omega
                    have hjL2 : j = L := by omega
                    subst hjL2
                    rw [HW.out]
                    go_wp2_with fail
                    go_roundw
                    case rel => exact ⟨b + 1, by omega, by omega, by go_num, hbr⟩
                    case measure => simp [intOf]; omega
              | true =>
                have ho2 : (bits .or .i64 (b : Int) (X : Int) != (X : Int)) = false := by rw [bne_eq_false_iff_eq]; exact beq_iff_eq.1 ho
                rw [ho] at HW
                cases tv with
                | false =>
                  replace HW : Hid (wiB true b ys L = true) := Lib.hid HW.out
                  go_wp2_with fail
                  refine (TogetherOk_val _ m c f (b : Int) false HB64.out _ HTV.out (HI.out.next hbr)).mono ?_
                  rintro e w9 ⟨rfl, hb2⟩
                  replace hbr := hbr.trans (hb2.mono hbr.size); clear hb2
                  go_wp2_with fail
                  go_loopw [10, 11] (fun s i wr => ∃ j : Nat, j ≤ L ∧ i = .int .i64 j ∧ s = .bool (wiB true b ys j) ∧ Below w4.heap.size w4 wr) (fun _ i _ => L - (intOf i).toNat)
                  case atStart => exact ⟨0, Nat.zero_le _, rfl, by rw [wi_zero], hbr⟩
                  case round =>
                    clear hbr
                    obtain ⟨j, hj, rfl, rfl, hbr⟩ := hrel
                    by_cases hjL : j < L
                    · have hji : (j : Int) < (L : Int) := by omega
                      have hj0 : (0 : Int) ≤ (j : Int) := by omega
                      have hcj := HC.out _ hbr j hjL
                      have HS := Lib.hid (wi_step true (b : Int) ys j)
                      obtain ⟨z1, hz1⟩ : ∃ z, ys.getD j 0 = z := ⟨_, rfl⟩
                      rw [hz1] at hcj HS
                      clear hz1
                      have HBR := Lib.hid hbr; clear hbr
                      cases hw : wiB true b ys j with
                      | true =>
                        rw [hw, Bool.true_or] at HS
                        clear hw hcj
                        go_wp2_with fail
                        go_quiet (fail)
                        go_wp2_with fail
                        go_roundw
                        case rel => exact ⟨j + 1, by omega, by go_num, by rw [HS.out], HBR.out.trans (((Drew.refl _).more _).below.mono HBR.out.size)⟩
                        case measure => simp [intOf]; omega
                      | false =>
                        rw [hw, Bool.false_or] at HS
                        clear hw
                        cases he : (bits .or .i64 (b : Int) z1 == z1)
                        all_goals
                          rw [he] at HS
                          go_wp2_with fail
                          go_quiet (fail)
                          go_wp2_with fail
                          go_roundw
                          case rel => exact ⟨j + 1, by omega, by go_num, by rw [HS.out], HBR.out.trans (((Drew.refl _).more _).below.mono HBR.out.size)⟩
                          case measure => simp [intOf]; omega
                    · have hji : ¬ (j : Int) < (L : Int) := by omega
                      have hjL2 : j = L := by omega
                      subst hjL2
                      rw [HW.out]
                      go_wp2_with fail
                      go_roundw
                      case rel => exact ⟨b + 1, by omega, by omega, by go_num, hbr⟩
                      case measure => simp [intOf]; omega
                | true =>
                  replace HW : Hid (wiB false b ys L = true) := Lib.hid HW.out
                  go_wp2_with fail
                  refine (TogetherOk_val _ m c f (b : Int) true HB64.out _ HTV.out (HI.out.next hbr)).mono ?_
                  rintro e w9 ⟨rfl, hb2⟩
                  replace hbr := hbr.trans (hb2.mono hbr.size); clear hb2
                  go_wp2_with fail
                  go_loopw [10, 11] (fun s i wr => ∃ j : Nat, j ≤ L ∧ i = .int .i64 j ∧ s = .bool (wiB false b ys j) ∧ Below w4.heap.size w4 wr) (fun _ i _ => L - (intOf i).toNat)
                  case atStart => exact ⟨0, Nat.zero_le _, rfl, by rw [wi_zero], hbr⟩
                  case round =>
                    clear hbr
                    obtain ⟨j, hj, rfl, rfl, hbr⟩ := hrel
                    by_cases hjL : j < L
                    · have hji : (j : Int) < (L : Int) := by omega
                      have hj0 : (0 : Int) ≤ (j : Int) := by omega
                      have hcj := HC.out _ hbr j hjL
                      have HS := Lib.hid (wi_step false (b : Int) ys j)
                      obtain ⟨z1, hz1⟩ : ∃ z, ys.getD j 0 = z := ⟨_, rfl⟩
                      rw [hz1] at hcj HS
                      clear hz1
                      have HBR := Lib.hid hbr; clear hbr
                      cases hw : wiB false b ys j with
                      | true =>
                        rw [hw, Bool.true_or] at HS
                        clear hw hcj
                        go_wp2_with fail
                        go_quiet (fail)
                        go_wp2_with fail
                        go_roundw
                        case rel => exact ⟨j + 1, by omega, by go_num, by rw [HS.out], HBR.out.trans (((Drew.refl _).more _).below.mono HBR.out.size)⟩
                        case measure => simp [intOf]; omega
                      | false =>
                        rw [hw, Bool.false_or] at HS
                        clear hw
                        cases he : (bits .or .i64 (b : Int) z1 == z1)
                        all_goals
                          rw [he] at HS
                          go_wp2_with fail
                          go_quiet (fail)
                          go_wp2_with fail
                          go_roundw
                          case rel => exact ⟨j + 1, by omega, by go_num, by rw [HS.out], HBR.out.trans (((Drew.refl _).more _).below.mono HBR.out.size)⟩
                          case measure => simp [intOf]; omega
                    · have hji : ¬ (j : Int) < (L : Int) := by omega
                      have hjL2 : j = L := by omega
                      subst hjL2
                      rw [HW.out]
                      go_wp2_with fail
                      go_roundw
                      case rel => exact ⟨b + 1, by omega, by omega, by go_num, hbr⟩
                      case measure => simp [intOf]; omega
            · have hbi : ¬ (b : Int) ≤ (X : Int) := by omega
              have hall := HAL.out
              go_wp2_with fail
              go_ret
              exact ⟨rfl, below_onto HB.out hbr⟩
end Go.Proofs.Ytacoeaoaabjkoaa
