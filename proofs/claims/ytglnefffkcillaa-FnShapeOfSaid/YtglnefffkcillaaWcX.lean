import Derived.Test.YtglnefffkcillaaWcW
import Derived.Test.YtglnefffkcillaaWcR
namespace Go.Proofs.Ytglnefffkcillaa
set_option linter.unusedVariables false
set_option linter.unusedSimpArgs false
open Go.RowKit Go.Maps

/-- an order as places -/
def ro (o : List Int) (i : Nat) : Nat := (rv o i).toNat
def stS (n : Nat) (m x : List Int) : List Int := if m.length = 0 then x else if ltB n (rv x) (rv m) then x else m
/-- the worlds in all orders, as the model has them -/
def rnO (n : Nat) (f : Nat → Int) : List (List Int) := (llK (otherC (idL n)) n).map (fun o => rnL n f (ro o))
def shS (n : Nat) (f : Nat → Int) : List Int := (rnO n f).foldl (stS n) []
theorem ord_facts {n : Nat} {o : List Int} (h : o ∈ llK (otherC (idL n)) n) : o.length = n ∧ ∀ i, i < n → rv o i = (ro o i : Int) ∧ ro o i < n := by
  have hl := llK_len h
  refine ⟨hl, fun i hi => ?_⟩
  have hb : ∀ x ∈ o, 0 ≤ x ∧ x < (n : Int) := llK_all (p := fun x => 0 ≤ x ∧ x < (n : Int)) (fun L x hx => by
    have := (List.mem_filter.1 hx).1
    unfold idL at this
    exact rowL_mem (P := fun x => 0 ≤ x ∧ x < (n : Int)) (fun i hi => by omega) x this) h
  have h5 := hb _ (getD_mem (xs := o) (i := i) (by omega))
  unfold ro rv
  omega
theorem rnL_len (n : Nat) (f : Nat → Int) (o : Nat → Nat) : (rnL n f o).length = n := rowL_len _ _
theorem stS_len {n : Nat} {m x : List Int} (hm : m.length = 0 ∨ m.length = n) (hx : x.length = n) : (stS n m x).length = n := by
  unfold stS
  split
  · exact hx
  · split
    · exact hx
    · omega

theorem specShapeOf_no (a : Option Addr) (n cap : Nat) (f : Nat → Int) (h : shB n f = false) (w : World) (hi : Ints w a n f) :
    Calls Try.prog 27 #[.slice a n cap] w fun e w' => e = .returned (.slice (some ⟨w.heap.size, 0, none⟩) 0 0) ∧ Below w.heap.size w w' := by
  have hal := alloc_below w (.cells #[] 3)
  have HI := Lib.hid (hi.next hal); clear hi
  have HAL := Lib.hid hal; clear hal
  cases hw : worldB n f with
  | false =>
    have HW := Lib.hid hw; clear hw h
    go_enter Try.func27, Try.ntmps27
    go_wp2_with fail
    refine (specWorldOk_at _ _ _ _ false _ HW.out HI.out).mono ?_
    rintro e w1 ⟨rfl, hd⟩
    have HB := Lib.hid (HAL.out.trans (hd.below.mono HAL.out.size)); clear hd
    go_wp2_with fail
    go_ret
    exact ⟨rfl, HB.out⟩
  | true =>
    have h4 : (4 : Int) < (n : Int) := by
      unfold shB at h; rw [hw, Bool.true_and, decide_eq_false_iff_not] at h; omega
    have HW := Lib.hid hw; clear hw h
    go_enter Try.func27, Try.ntmps27
    go_wp2_with fail
    refine (specWorldOk_at _ _ _ _ true _ HW.out HI.out).mono ?_
    rintro e w1 ⟨rfl, hd⟩
    have HB := Lib.hid (HAL.out.trans (hd.below.mono HAL.out.size)); clear hd
    go_wp2_with fail
    go_ret
    exact ⟨rfl, HB.out⟩

set_option maxRecDepth 100000 in
set_option maxHeartbeats 16000000 in
theorem specShapeOf_in (gw ow n cw : Nat) (f : Nat → Int) (hs : shB n f = true) (w : World) (hi : Ints w (some ⟨gw, ow, none⟩) n f) (hrw : Row w gw ow n f) (hgw : gw < w.heap.size) (hf0 : ∀ i, i < n → 0 ≤ f i) :
    Calls Try.prog 27 #[.slice (some ⟨gw, ow, none⟩) n cw] w (Gives 3 (shS n f) w) := by
  have hsb := Bool.and_eq_true_iff.1 hs
  have h1 := (worldB_pos hsb.1).1
  have h4 := of_decide_eq_true hsb.2
  have h4d : decide ((4 : Int) < (n : Int)) = false := decide_eq_false (by omega)
  have hal := alloc_below w (.cells #[] 3)
  have hz1 : (w.alloc (.cells #[] 3)).heap.size = w.heap.size + 1 := alloc_size _ _
  have HMD := Lib.hid (OwnX.made w w.heap.size (Nat.le_refl _) 3)
  have HI := Lib.hid (hi.next hal); have HRW := Lib.hid (hrw.below hal hgw); have HF0 := Lib.hid hf0
  have HAL := Lib.hid hal; have HW := Lib.hid hsb.1; have HZ1 := Lib.hid hz1
  clear hi hrw hf0 hal hs hsb hz1
  go_enter Try.func27, Try.ntmps27
  go_wp2_with fail
  refine (specWorldOk_at _ _ _ _ true _ HW.out HI.out).mono ?_
  rintro e w1 ⟨rfl, hd⟩
  have hd1 := hd.below.size
  have HB1 := Lib.hid (HAL.out.trans (hd.below.mono HAL.out.size)); have HM1 := Lib.hid (HMD.out.kept hd.below); have HR1 := Lib.hid (HRW.out.below hd.below (by have := HZ1.out; omega))
  clear hd
  go_wp2_with fail
  refine (specOrders_any n h1 h4 w1).mono ?_
  rintro e w2 ⟨v2, rs, rfl, hs2, hb2⟩
  obtain ⟨a2, c2, rfl⟩ := hs2.slice
  have hgw1 : gw < w1.heap.size := by have := HZ1.out; omega
  have HS2 := Lib.hid hs2; have HB2 := Lib.hid (HB1.out.trans (hb2.mono HB1.out.size)); have HM2 := Lib.hid (HM1.out.kept hb2); have HR2 := Lib.hid (HR1.out.below hb2 hgw1)
  have hgw2 : gw < w2.heap.size := Nat.lt_of_lt_of_le hgw1 hb2.size
  have HOL : Hid ((llK (otherC (idL n)) n).length ≤ 65536) := Lib.hid (by
    have h5 := llK_size (otherC (idL n)) (other_id_len n (by omega)) n
    have := pow16 h1 h4; omega)
  have HOF := Lib.hid (fun o (ho : o ∈ llK (otherC (idL n)) n) => ord_facts ho)
  have HSH : Hid (shS n f = ((llK (otherC (idL n)) n).map (fun o => rnL n f (ro o))).foldl (stS n) []) := Lib.hid rfl
  obtain ⟨OL, hOL⟩ : ∃ OL, llK (otherC (idL n)) n = OL := ⟨_, rfl⟩
  rw [hOL] at HS2 HOL HOF HSH ⊢
  clear hOL hs2 hb2 HM1 HR1 HMD HRW
  go_wp2_with fail
  go_loopw [3, 5, 6, 7, 8] (fun b k _ _ _ wr => ∃ j : Nat, j ≤ OL.length ∧ k = .int .i64 j ∧ Hid (OwnX wr w.heap.size 3 b (((OL.take j).map (fun o => rnL n f (ro o))).foldl (stS n) [])) ∧ Hid ((((OL.take j).map (fun o => rnL n f (ro o))).foldl (stS n) []).length = if j = 0 then 0 else n) ∧ Hid (Below w2.heap.size w2 wr)) (fun _ k _ _ _ _ => OL.length - (intOf k).toNat)
  case atStart => exact ⟨0, Nat.zero_le _, rfl, HM2, Lib.hid rfl, Lib.hid (Below.refl _ _)⟩
  case round =>
    obtain ⟨k, hk, rfl, hbest, hblen, hbw⟩ := hrel
    clear HM2
    have hOLb := HOL.out
    obtain ⟨M, hM⟩ : ∃ M, ((OL.take k).map (fun o => rnL n f (ro o))).foldl (stS n) [] = M := ⟨_, rfl⟩
    rw [hM] at hbest hblen
    have HM := Lib.hid hM; clear hM
    obtain ⟨ab, cb, rfl⟩ := hbest.out.slice
    by_cases hlt : k < OL.length
    · have hki : (k : Int) < (OL.length : Int) := by omega
      have hk0 : (0 : Int) ≤ (k : Int) := by omega
      have HSO := Lib.hid (HS2.out.kept hbw.out)
      obtain ⟨gv, dv, hav⟩ := HSO.out.shape (by omega)
      simp only [Value.slice.injEq] at hav
      obtain ⟨rfl, hz5, rfl⟩ := hav
      clear hz5
      have hc0 := HSO.out.cell hlt
      obtain ⟨gL, cL, hgl⟩ : ∃ gL cL, rs.getD k (0, 0) = (gL, cL) := ⟨_, _, rfl⟩
      rw [hgl] at hc0
      dsimp only at hc0
      obtain ⟨o, ho⟩ : ∃ o, OL.getD k [] = o := ⟨_, rfl⟩
      have hom : o ∈ OL := by rw [← ho, List.getD_eq_getElem?_getD, List.getElem?_eq_getElem hlt]; exact List.getElem_mem _
      obtain ⟨hol, hoi⟩ := HOF.out o hom
      have hro : Row wr gL 0 n (fun i => (ro o i : Int)) := by
        have := HSO.out.rowG hlt h1
        rw [hgl, ho] at this
        exact Row.congr this (fun i hi => (hoi i hi).1)
      have hgll : gL < wr.heap.size := by
        have h5 := (HSO.out.row k hlt).1
        rw [hgl] at h5
        exact (World.ownsRow.lt h5 gL rfl).2
      have HTK : Hid (((OL.take (k + 1)).map (fun o => rnL n f (ro o))).foldl (stS n) [] = stS n M (rnL n f (ro o))) := Lib.hid (by
        rw [List.take_add_one, List.getElem?_eq_getElem hlt, List.map_append, List.foldl_append, HM.out, ← ho, List.getD_eq_getElem?_getD, List.getElem?_eq_getElem hlt]; rfl)
      have HREN := Lib.hid (renamed_any gw ow cw gL 0 cL n f (ro o) h1 (by omega) HF0.out (fun i hi => (hoi i hi).2) wr (HR2.out.below hbw.out hgw2) (Nat.lt_of_lt_of_le hgw2 hbw.out.size) hro hgll)
      clear ho hom hol hoi hro hgll hgl
      go_wp2_with fail
      refine HREN.out.mono ?_
      rintro e w7 ⟨v7, rfl, ho7, hb7⟩
      obtain ⟨gx, cx, hv7, hgx, hgxl, hcx, _, hrx, _⟩ := ho7.shape (by rw [rnL_len]; exact h1)
      rw [rnL_len] at hv7 hrx
      subst hv7
      have hwr := hbw.out.size
      have hww2 := HB2.out.size
      have HO7 := Lib.hid (ho7.base (Nat.le_trans hww2 hwr)); have HB7 := Lib.hid (hbw.out.trans (hb7.mono hwr)); have HBE7 := Lib.hid (hbest.out.kept hb7)
      obtain ⟨X, hX⟩ : ∃ X, rnL n f (ro o) = X := ⟨_, rfl⟩
      have hXl : X.length = n := by rw [← hX]; exact rnL_len _ _ _
      rw [hX] at hrx HO7 HTK
      have HRX : Hid (Row w7 gx 0 n (rv X)) := Lib.hid hrx
      have HXL := Lib.hid hXl
      have hbl := hblen.out
      clear hX hrx ho7 hb7 hbest hXl HREN
      by_cases hk00 : k = 0
      · subst hk00
        rw [if_pos rfl] at hbl
        rw [hbl]
        have HNX : Hid (stS n M X = X) := Lib.hid (by unfold stS; rw [if_pos hbl])
        clear hbl
        go_wp2_with fail
        go_loopw [7, 8] (fun b j wx => b = .bool true ∧ j = .int .i64 0 ∧ wx = w7) (fun _ _ _ => 0)
        case atStart => exact ⟨rfl, rfl, rfl⟩
        case round =>
          obtain ⟨rfl, rfl, rfl⟩ := hrel
          go_wp2_with fail
          go_roundw
          case rel => exact ⟨1, by omega, rfl, Lib.hid (by rw [HTK.out, HNX.out]; exact HO7.out), Lib.hid (by rw [HTK.out, HNX.out, HXL.out]; rfl), HB7⟩
          case measure => simp [intOf]; omega
      · rw [if_neg hk00] at hbl
        rw [hbl]
        have HML := Lib.hid hbl
        have hMn : M.length ≠ 0 := by omega
        have HSTP : Hid (stS n M X = if ltB n (rv X) (rv M) then X else M) := Lib.hid (by unfold stS; rw [if_neg hMn])
        have hBE := HBE7.out
        obtain ⟨gb, db, hvb, _, _, _, _, hrb, _⟩ := hBE.shape (by omega)
        rw [hbl] at hvb hrb
        simp only [Value.slice.injEq] at hvb
        obtain ⟨rfl, hz5, rfl⟩ := hvb
        clear hz5
        have HRB : Hid (Row w7 gb 0 n (rv M)) := Lib.hid hrb
        have HBE8 : Hid (OwnX w7 w.heap.size 3 (.slice (some ⟨gb, 0, none⟩) n cb) M) := Lib.hid (by rw [← hbl]; exact hBE)
        have hn0 : ((n : Int) == 0) = false := by rw [beq_eq_false_iff_ne]; omega
        clear hbl hMn hrb hBE HBE7
        go_wp2_with fail
        go_loopw [7, 8] (fun b j wx => ∃ y : Nat, y ≤ n ∧ b = .bool false ∧ j = .int .i64 y ∧ Hid (∀ i, i < y → rv X i = rv M i) ∧ Hid (Drew w7 wx)) (fun _ j _ => n - (intOf j).toNat)
        case atStart => exact ⟨0, Nat.zero_le _, rfl, rfl, Lib.hid (fun i hi => absurd hi (Nat.not_lt_zero _)), Lib.hid (Drew.refl _)⟩
        case round =>
          obtain ⟨y, hy, rfl, rfl, heq, hdr⟩ := hrel
          by_cases hly : y < n
          · have hyi : (y : Int) < (n : Int) := by omega
            have hy0 : (0 : Int) ≤ (y : Int) := by omega
            have hcx1 := HRX.out.below hdr.out.below hgxl y hly
            have hcb1 := (HRB.out : Row w7 gb 0 n (rv M)).below hdr.out.below (World.ownsRow.lt HBE8.out gb rfl).2 y hly
            rw [Nat.zero_add] at hcx1 hcb1
            obtain ⟨p, hp⟩ : ∃ p, rv X y = p := ⟨_, rfl⟩
            obtain ⟨q, hq⟩ : ∃ q, rv M y = q := ⟨_, rfl⟩
            rw [hp] at hcx1; rw [hq] at hcb1
            have HP := Lib.hid hp; have HQ := Lib.hid hq
            clear hp hq
            have hc : p < q ∨ q < p ∨ p = q := by omega
            rcases hc with hc | hc | hc
            · have hne : (p != q) = true := by simp; omega
              have hlt5 : decide (p < q) = true := decide_eq_true hc
              have HNX : Hid (stS n M X = X) := Lib.hid (by rw [HSTP.out, ltB_yes hly (by rw [HP.out, HQ.out]; exact hc) heq.out]; rfl)
              clear hc
              go_wp2_with fail
              go_quiet (fail)
              go_wp2_with fail
              go_quiet (fail)
              go_wp2_with fail
              go_roundw
              case rel => exact ⟨k + 1, by omega, by go_num, Lib.hid (by rw [HTK.out, HNX.out]; exact HO7.out.kept (hdr.out.more _).below), Lib.hid (by rw [HTK.out, HNX.out, HXL.out, if_neg (by omega)]), Lib.hid (HB7.out.trans ((hdr.out.more _).below.mono HB7.out.size))⟩
              case measure => simp [intOf]; omega
            · have hne : (p != q) = true := by simp; omega
              have hlt5 : decide (p < q) = false := decide_eq_false (by omega)
              have HNX : Hid (stS n M X = M) := Lib.hid (by rw [HSTP.out, ltB_no (by rw [HP.out, HQ.out]; exact hc) heq.out]; rfl)
              clear hc
              go_wp2_with fail
              go_quiet (fail)
              go_wp2_with fail
              go_quiet (fail)
              go_wp2_with fail
              go_roundw
              case rel => exact ⟨k + 1, by omega, by go_num, Lib.hid (by rw [HTK.out, HNX.out]; exact HBE8.out.kept (hdr.out.more _).below), Lib.hid (by rw [HTK.out, HNX.out, HML.out, if_neg (by omega)]), Lib.hid (HB7.out.trans ((hdr.out.more _).below.mono HB7.out.size))⟩
              case measure => simp [intOf]; omega
            · have hne : (p != q) = false := by simp; omega
              have HEQ := Lib.hid hc
              clear hc
              go_wp2_with fail
              go_quiet (fail)
              go_wp2_with fail
              go_roundw
              case rel => exact ⟨y + 1, by omega, rfl, by go_num, Lib.hid (fun i hi => by
                by_cases e : i = y
                · subst e; rw [HP.out, HQ.out]; exact HEQ.out
                · exact heq.out i (by omega)), Lib.hid (hdr.out.more _)⟩
              case measure => simp [intOf]; omega
          · have hyi : ¬ (y : Int) < (n : Int) := by omega
            have hye : y = n := by omega
            subst hye
            have HNX : Hid (stS y M X = M) := Lib.hid (by rw [HSTP.out, ltB_eq heq.out]; rfl)
            go_wp2_with fail
            go_roundw
            case rel => exact ⟨k + 1, by omega, by go_num, Lib.hid (by rw [HTK.out, HNX.out]; exact HBE8.out.kept hdr.out.below), Lib.hid (by rw [HTK.out, HNX.out, HML.out, if_neg (by omega)]), Lib.hid (HB7.out.trans (hdr.out.below.mono HB7.out.size))⟩
            case measure => simp [intOf]; omega
    · have hki : ¬ (k : Int) < (OL.length : Int) := by omega
      have hke : k = OL.length := by omega
      subst hke
      have hT : OL.take OL.length = OL := List.take_length
      have HFIN : Hid (shS n f = M) := Lib.hid (by rw [HSH.out, ← HM.out, hT])
      clear hT
      go_wp2_with fail
      go_ret
      exact ⟨_, rfl, by rw [HFIN.out]; exact hbest.out, HB2.out.trans (hbw.out.mono HB2.out.size)⟩
end Go.Proofs.Ytglnefffkcillaa
