import Derived.Test.YtglnefffkcillaaDrawSh
import Derived.Test.YtglnefffkcillaaLawC
import Derived.Test.YtglnefffkcillaaSameX
import Derived.Maps.AppendAt
import Derived.Maps.Own
import Derived.Maps.OwnOps
namespace Go.Proofs.Ytglnefffkcillaa
set_option linter.unusedVariables false
set_option linter.unusedSimpArgs false
open Go.RowKit Go.Maps

/-- the two first things exchanged, row by row -/
theorem ex_at {P : List Nat} {k : Nat} (hk : k < P.length) : (exN P).getD k 0 = if 1 < P.length then exS (P.getD (if k < 2 then 1 - k else k) 0) else P.getD k 0 := by
  match P, hk with
  | [a], _ => rfl
  | a :: b :: rest, hk =>
    rw [if_pos (by simp)]
    match k, hk with
    | 0, _ => rfl
    | 1, _ => rfl
    | k + 2, hk =>
      rw [if_neg (by omega)]
      show (rest.map exS).getD k 0 = exS (rest.getD k 0)
      have hk' : k < rest.length := by simp at hk; omega
      rw [List.getD_eq_getElem?_getD, List.getD_eq_getElem?_getD, List.getElem?_map, List.getElem?_eq_getElem hk']
      rfl
theorem shV_nat {m : Nat} (h1 : 1 ≤ m) (h4 : m ≤ 4) {Q : List Nat} (hQ : Q ∈ wlN m) : shV m (rv (cst Q)) = rowL (rv (cst (shN Q))) m ∧ worldB m (rv (cst Q)) = true ∧ ∀ i, i < m → I64 (rv (cst Q) i) := by
  have hl := wlN_len hQ
  have hlt := wlN_lt h4 hQ
  have hm : cst Q ∈ wlL m := by rw [wl_nat m h1 h4]; exact List.mem_map.2 ⟨Q, hQ, rfl⟩
  obtain ⟨_, hw, _, _⟩ := wl_facts h1 h4 hm
  have hS := wlN_len (shape_n h1 h4 hQ).world
  refine ⟨?_, hw, fun i hi => ?_⟩
  · unfold shV shB
    rw [hw, decide_eq_true h4, if_pos (by rfl)]
    have h := sh_nat Q (by omega) hlt
    rw [hl] at h
    rw [h]
    have := rowL_self (cst (shN Q)); rw [cst_len, hS] at this; exact this.symm
  · rw [cst_getD]
    have := hlt (Q.getD i 0) (by rw [List.getD_eq_getElem?_getD, List.getElem?_eq_getElem (by omega)]; exact List.getElem_mem _)
    unfold I64; omega
theorem cst_snoc {X : List Nat} {k : Nat} (h : k < X.length) : cst (X.take (k + 1)) = cst (X.take k) ++ [((X.getD k 0 : Nat) : Int)] := by
  unfold cst
  rw [List.take_add_one, List.getElem?_eq_getElem h, List.map_append, List.getD_eq_getElem?_getD, List.getElem?_eq_getElem h]
  rfl
/-- how many parts there are, counted so far -/
def rowN (P : List Nat) (k s j : Nat) : Nat := (List.range j).foldl (fun s j => if Nat.testBit (P.getD k 0) j then s + 1 else s) s
def allN (m : Nat) (P : List Nat) (k : Nat) : Nat := (List.range k).foldl (fun s k => rowN P k s m) 0
theorem rowN_step (P : List Nat) (k s j : Nat) : rowN P k s (j + 1) = if Nat.testBit (P.getD k 0) j then rowN P k s j + 1 else rowN P k s j := by
  unfold rowN; rw [List.range_succ, List.foldl_append]; rfl
theorem allN_step (m : Nat) (P : List Nat) (k : Nat) : allN m P (k + 1) = rowN P k (allN m P k) m := by
  unfold allN; rw [List.range_succ, List.foldl_append]; rfl
theorem rowN_le (P : List Nat) (k s : Nat) : ∀ j, rowN P k s j ≤ s + j
  | 0 => Nat.le_refl _
  | j + 1 => by rw [rowN_step]; have := rowN_le P k s j; split <;> omega
theorem allN_le (m : Nat) (P : List Nat) : ∀ k, allN m P k ≤ k * m
  | 0 => Nat.zero_le _
  | k + 1 => by rw [allN_step, Nat.succ_mul]; have := rowN_le P k (allN m P k) m; have := allN_le m P k; omega
theorem cntN_all (m : Nat) (P : List Nat) : cntN m P = allN m P m := rfl
/-- the state of the loop that turns a world -/
def OthR (m : Nat) (X : List Nat) (w : World) (v i : Value) (wr : World) : Prop := ∃ k, k ≤ m ∧ i = .int .i64 (k : Nat) ∧ OwnX wr w.heap.size 3 v (cst (X.take k)) ∧ Below w.heap.size w wr

set_option maxRecDepth 100000 in
set_option maxHeartbeats 8000000 in
theorem lawShapeOf (a : Option Addr) (n cap : Nat) (w : World) (h : BytesIn w a n cap) :
    Calls Try.prog 6 #[.slice a n cap] w (TrueEnd w) := by
  obtain ⟨i0, hi0, hz0, hz1, hz2⟩ := info_parts Try.infoInt
  have hlen := h.len
  have H := Lib.hid h; clear h
  by_cases hn : 1048576 < n
  · go_enter Try.func6, Try.ntmps6
    go_wp2_with fail
    go_ret
    exact ⟨rfl, Below.refl _ _⟩
  · go_enter Try.func6, Try.ntmps6
    go_wp2_with fail
    refine (DrawShapeOf_any _ _ _ _ H.out).mono ?_
    rintro e w1 ⟨d, m, c, f, rfl, hm8, hi, hb1⟩
    have HB := Lib.hid hb1; have HI := Lib.hid hi
    cases hs : shB m f with
    | false =>
      have HV := Lib.hid (show shV m f = [] by unfold shV; rw [hs]; rfl)
      clear hs hi hb1
      go_wp2_with fail
      refine (ShapeOf_any _ m c f _ HI.out).mono ?_
      intro e w2 hg
      rw [HV.out] at hg
      obtain ⟨a1, c1, rfl, hb2⟩ := hg.none
      replace HI := Lib.hid (HI.out.next hb2)
      replace HB := Lib.hid (below_onto HB.out hb2); clear hb2 hg
      go_wp2_with fail
      refine (specShapeOf_any _ m c f _ HI.out).mono ?_
      intro e w3 hg
      rw [HV.out] at hg
      obtain ⟨a2, c2, rfl, hb2⟩ := hg.none
      replace HB := Lib.hid (below_onto HB.out hb2); clear hb2 hg
      go_wp2_with fail
      refine (sameInts_nil _ _ _ _ _).mono ?_
      rintro e w4 ⟨rfl, hd3⟩
      replace HB := Lib.hid (below_onto HB.out hd3.below); clear hd3
      go_wp2_with fail
      refine (alive_any _).mono ?_
      rintro e w9 ⟨rfl, hb2⟩
      replace HB := Lib.hid (below_onto HB.out hb2); clear hb2
      go_wp2_with fail
      go_ret
      exact ⟨rfl, HB.out⟩
    | true =>
      obtain ⟨P, hP, er, e1, e2, hm1, hm4⟩ := world_nat hi.i64 hs
      have hS := shape_n hm1 hm4 hP
      have hPl := wlN_len hP
      have hPlt := wlN_lt hm4 hP
      obtain ⟨Q, hQ⟩ : ∃ Q, shN P = Q := ⟨_, rfl⟩
      have hQw : Q ∈ wlN m := by rw [← hQ]; exact hS.world
      have hQl := wlN_len hQw
      have erow : ∀ L : List Nat, L.length = m → rowL (rv (cst L)) m = cst L := fun L hL => by have := rowL_self (cst L); rw [cst_len, hL] at this; exact this
      have HV := Lib.hid (show shV m f = rowL (rv (cst Q)) m by
        unfold shV; rw [hs, if_pos rfl, e1, hQ, erow Q hQl])
      have HF := Lib.hid (show ∀ k, k < m → f k = ((P.getD k 0 : Nat) : Int) ∧ P.getD k 0 < 16 from fun k hk => by
        have e := rowL_getD f m k hk
        refine ⟨?_, hPlt _ (by rw [List.getD_eq_getElem?_getD, List.getElem?_eq_getElem (by omega)]; exact List.getElem_mem _)⟩
        rw [← e, er]; exact cst_getD P k)
      obtain ⟨X, hX⟩ : ∃ X, exN P = X := ⟨_, rfl⟩
      have HX := Lib.hid (show ∀ k, k < m → X.getD k 0 = if 1 < m then exS (P.getD (if k < 2 then 1 - k else k) 0) else P.getD k 0 from fun k hk => by
        have h := ex_at (P := P) (k := k) (by omega)
        rw [hX, hPl] at h
        exact h)
      have HXW := Lib.hid (show X ∈ wlN m by rw [← hX]; exact hS.turned)
      have HXS := Lib.hid (show shN X = Q by rw [← hX, hS.same]; exact hQ)
      have HQS := Lib.hid (show shN Q = Q by rw [← hQ]; exact hS.again)
      have HCN := Lib.hid (show allN m P m = allN m Q m by rw [← cntN_all, ← cntN_all, ← hQ]; exact hS.parts)
      have HXLEN := Lib.hid (show X.length = m from wlN_len (by rw [← hX]; exact hS.turned))
      have HPW := Lib.hid hP
      have HM := Lib.hid (And.intro hm1 hm4)
      have HPL := Lib.hid hPl
      have HQW := Lib.hid hQw
      obtain ⟨g0, o0, rfl, hg0, hrow⟩ := hi.row hm1
      have HRW := Lib.hid hrow
      have HG0 := Lib.hid hg0
      have hmz : ((m : Int) == 0) = false := by rw [beq_eq_false_iff_ne]; omega
      clear hX hs hi hb1 hP er e1 e2 hS hPl hPlt hQ hQw hQl hrow hm1 hm4 hg0 erow
      go_wp2_with fail
      refine (ShapeOf_any _ m c f _ HI.out).mono ?_
      intro e w2 hg
      rw [HV.out] at hg
      obtain ⟨gx, cx, rfl, hgB, hgl, hgr, hb2⟩ := hg.row HM.out.1
      have HXR := Lib.hid hgr; have HXL := Lib.hid hgl; have HXB := Lib.hid hgB
      replace HI := Lib.hid (HI.out.next hb2); replace HRW := Lib.hid (HRW.out.below hb2 HG0.out)
      have HB2 := Lib.hid hb2.size
      replace HG0 := Lib.hid (Nat.lt_of_lt_of_le HG0.out hb2.size)
      replace HB := Lib.hid (below_onto HB.out hb2); clear hb2 hg hgr hgl hgB
      go_wp2_with fail
      refine (specShapeOf_any _ m c f _ HI.out).mono ?_
      intro e w3 hg
      rw [HV.out] at hg
      obtain ⟨gy, cy, rfl, hgB, hgl, hgr, hb2⟩ := hg.row HM.out.1
      have HYR := Lib.hid hgr
      replace HXR := Lib.hid (HXR.out.below hb2 HXL.out)
      replace HI := Lib.hid (HI.out.next hb2); replace HRW := Lib.hid (HRW.out.below hb2 HG0.out)
      replace HG0 := Lib.hid (Nat.lt_of_lt_of_le HG0.out hb2.size)
      replace HXL := Lib.hid (Nat.lt_of_lt_of_le HXL.out hb2.size)
      replace HB := Lib.hid (below_onto HB.out hb2); clear hb2 hg hgr hgl hgB
      go_wp2_with fail
      refine (sameInts_row gx 0 cx gy 0 cy m _ (by have := HM.out; omega) _ HXR.out HYR.out).mono ?_
      rintro e w4 ⟨rfl, hd⟩
      have hbd := hd.below
      replace HXR := Lib.hid (HXR.out.below hbd HXL.out)
      replace HI := Lib.hid (HI.out.next hbd); replace HRW := Lib.hid (HRW.out.below hbd HG0.out)
      replace HG0 := Lib.hid (Nat.lt_of_lt_of_le HG0.out hbd.size)
      replace HXL := Lib.hid (Nat.lt_of_lt_of_le HXL.out hbd.size)
      replace HB := Lib.hid (below_onto HB.out hbd); clear hbd hd HYR HXB HB2
      have HMD := Lib.hid (OwnX.made w4 w4.heap.size (Nat.le_refl _) 3)
      have HMB := Lib.hid (alloc_below w4 (.cells #[] 3))
      go_wp2_with fail
      go_loopw [5, 6, 7, 8] (fun v i _ _ wr => OthR m X w4 v i wr) (fun _ i _ _ _ => m - (intOf i).toNat)
      case atStart => exact ⟨0, Nat.zero_le _, rfl, HMD.out, HMB.out⟩
      case round =>
        clear HMD HMB
        obtain ⟨k, hk, rfl, hown, hbr⟩ := hrel
        by_cases hlt : k < m
        · have hki : (k : Int) < (m : Int) := by omega
          have hk0 : (0 : Int) ≤ (k : Int) := by omega
          have HBR := Lib.hid hbr
          have HO := Lib.hid (show wr.ownsRow w4.heap.size 3 1 _ (cst (X.take k)).length ((cst (X.take k)).map (Value.int .i64)) from hown)
          have HL := Lib.hid (show (cst (X.take k)).length ≤ 1000 by rw [cst_len, List.length_take]; omega)
          have HSZ := Lib.hid hbr.size
          clear hown
          by_cases hm2 : 1 < m
          · have hm2i : (1 : Int) < (m : Int) := by omega
            by_cases hk2 : k < 2
            · have hk2i : (k : Int) < 2 := by omega
              obtain ⟨s, hsk⟩ : ∃ s, s = 1 - k := ⟨_, rfl⟩
              have hsm : s < m := by omega
              have hsi : (s : Int) < (m : Int) := by omega
              have hs0 : (0 : Int) ≤ (s : Int) := by omega
              have hws : IntKind.i64.wrap (1 - (k : Int)) = (s : Int) := by rw [wrap_in _ (by unfold I64; omega)]; omega
              have hc := (HRW.out.below HBR.out HG0.out) s hsm
              obtain ⟨z, hz⟩ : ∃ z, P.getD s 0 = z := ⟨_, rfl⟩
              have hz16 : z < 16 := by rw [← hz]; exact (HF.out s hsm).2
              rw [(HF.out s hsm).1, hz] at hc
              obtain ⟨y, hy⟩ : ∃ y, exS z = y := ⟨_, rfl⟩
              have he : (z : Int) / 4 * 4 + (z : Int) % 2 * 2 + (z : Int) / 2 % 2 = (y : Int) := by rw [← hy]; unfold exS; omega
              have HY := Lib.hid (show ((X.getD k 0 : Nat) : Int) = (y : Int) by rw [HX.out k hlt, if_pos hm2, if_pos hk2, ← hsk, hz, hy])
              clear hz hsk hy hbr
              have k1 := Lib.hid (fun (j : Nat) (u : Value) (h : [Value.int .i64 (y : Int)][j]? = some u) => cell_one_new wr (.int .i64 (y : Int)) 3 j u h)
              have k2 : Hid (∀ u ∈ [Value.int .i64 (y : Int)], u.oneCell' = true) := Lib.hid (by intro u hu; simp at hu; subst hu; rfl)
              have k3 : Hid ((cst (X.take k)).length + 1 ≤ maxLen) := Lib.hid (by have := HL.out; unfold maxLen; omega)
              have k4 : Hid (((cst (X.take k)).length + 1) * 8 ≤ 140737488355328) := Lib.hid (by have := HL.out; omega)
              have k5 : Hid (w4.heap.size ≤ (wr.alloc (.cells #[.int .i64 (y : Int)] 3)).heap.size) := Lib.hid (by rw [alloc_size]; have := HSZ.out; omega)
              go_wp2_with (at_builtin; refine wpList_append_own _ rfl (.tmp 64) (.tmp 66) 23 rfl w4.heap.size 3 i0 (.int .i64 0) 1 8 Try.underlying23 hi0 hz0 hz1 hz2 rfl (by decide) _ _ _ rfl (HO.out.alloc _) ⟨wr.heap.size, 0, none⟩ 1 1 [.int .i64 (y : Int)] rfl rfl k1.out k2.out k3.out k4.out k5.out ?_)
              intro v' w5 hown' hgrow _
              have hg5 : Below w4.heap.size wr w5 := ((Below.refl w4.heap.size wr).alloc HSZ.out _).grown hgrow (by have := HSZ.out; rw [alloc_size]; omega) (fun q hq => (HO.out.lt q hq).1)
              have ho5 := OwnX.snoc hown'
              clear hown' hgrow k1 k2 k3 k4 k5
              have HNX := Lib.hid (show OwnX w5 w4.heap.size 3 v' (cst (X.take (k + 1))) by rw [cst_snoc (by rw [HXLEN.out]; exact hlt), HY.out]; exact ho5)
              have HNB := Lib.hid (show Below w4.heap.size w4 w5 from HBR.out.trans hg5)
              clear ho5 hg5
              go_wp2_with fail
              go_roundw
              case rel => exact ⟨k + 1, by omega, by go_num, HNX.out, HNB.out⟩
              case measure => simp [intOf]; omega
            · have hk2i : ¬ (k : Int) < 2 := by omega
              have hsm : k < m := hlt
              have hc := (HRW.out.below HBR.out HG0.out) k hsm
              obtain ⟨z, hz⟩ : ∃ z, P.getD k 0 = z := ⟨_, rfl⟩
              have hz16 : z < 16 := by rw [← hz]; exact (HF.out k hsm).2
              rw [(HF.out k hsm).1, hz] at hc
              obtain ⟨y, hy⟩ : ∃ y, exS z = y := ⟨_, rfl⟩
              have he : (z : Int) / 4 * 4 + (z : Int) % 2 * 2 + (z : Int) / 2 % 2 = (y : Int) := by rw [← hy]; unfold exS; omega
              have HY := Lib.hid (show ((X.getD k 0 : Nat) : Int) = (y : Int) by rw [HX.out k hlt, if_pos hm2, if_neg hk2, hz, hy])
              clear hz hy hbr
              have k1 := Lib.hid (fun (j : Nat) (u : Value) (h : [Value.int .i64 (y : Int)][j]? = some u) => cell_one_new wr (.int .i64 (y : Int)) 3 j u h)
              have k2 : Hid (∀ u ∈ [Value.int .i64 (y : Int)], u.oneCell' = true) := Lib.hid (by intro u hu; simp at hu; subst hu; rfl)
              have k3 : Hid ((cst (X.take k)).length + 1 ≤ maxLen) := Lib.hid (by have := HL.out; unfold maxLen; omega)
              have k4 : Hid (((cst (X.take k)).length + 1) * 8 ≤ 140737488355328) := Lib.hid (by have := HL.out; omega)
              have k5 : Hid (w4.heap.size ≤ (wr.alloc (.cells #[.int .i64 (y : Int)] 3)).heap.size) := Lib.hid (by rw [alloc_size]; have := HSZ.out; omega)
              go_wp2_with (at_builtin; refine wpList_append_own _ rfl (.tmp 64) (.tmp 66) 23 rfl w4.heap.size 3 i0 (.int .i64 0) 1 8 Try.underlying23 hi0 hz0 hz1 hz2 rfl (by decide) _ _ _ rfl (HO.out.alloc _) ⟨wr.heap.size, 0, none⟩ 1 1 [.int .i64 (y : Int)] rfl rfl k1.out k2.out k3.out k4.out k5.out ?_)
              intro v' w5 hown' hgrow _
              have hg5 : Below w4.heap.size wr w5 := ((Below.refl w4.heap.size wr).alloc HSZ.out _).grown hgrow (by have := HSZ.out; rw [alloc_size]; omega) (fun q hq => (HO.out.lt q hq).1)
              have ho5 := OwnX.snoc hown'
              clear hown' hgrow k1 k2 k3 k4 k5
              have HNX := Lib.hid (show OwnX w5 w4.heap.size 3 v' (cst (X.take (k + 1))) by rw [cst_snoc (by rw [HXLEN.out]; exact hlt), HY.out]; exact ho5)
              have HNB := Lib.hid (show Below w4.heap.size w4 w5 from HBR.out.trans hg5)
              clear ho5 hg5
              go_wp2_with fail
              go_roundw
              case rel => exact ⟨k + 1, by omega, by go_num, HNX.out, HNB.out⟩
              case measure => simp [intOf]; omega
          · have hm2i : ¬ (1 : Int) < (m : Int) := by omega
            have hsm : k < m := hlt
            have hc := (HRW.out.below HBR.out HG0.out) k hsm
            obtain ⟨y, hz⟩ : ∃ z, P.getD k 0 = z := ⟨_, rfl⟩
            rw [(HF.out k hsm).1, hz] at hc
            have HY := Lib.hid (show ((X.getD k 0 : Nat) : Int) = (y : Int) by rw [HX.out k hlt, if_neg hm2, hz])
            clear hz hbr
            have k1 := Lib.hid (fun (j : Nat) (u : Value) (h : [Value.int .i64 (y : Int)][j]? = some u) => cell_one_new wr (.int .i64 (y : Int)) 3 j u h)
            have k2 : Hid (∀ u ∈ [Value.int .i64 (y : Int)], u.oneCell' = true) := Lib.hid (by intro u hu; simp at hu; subst hu; rfl)
            have k3 : Hid ((cst (X.take k)).length + 1 ≤ maxLen) := Lib.hid (by have := HL.out; unfold maxLen; omega)
            have k4 : Hid (((cst (X.take k)).length + 1) * 8 ≤ 140737488355328) := Lib.hid (by have := HL.out; omega)
            have k5 : Hid (w4.heap.size ≤ (wr.alloc (.cells #[.int .i64 (y : Int)] 3)).heap.size) := Lib.hid (by rw [alloc_size]; have := HSZ.out; omega)
            go_wp2_with (at_builtin; refine wpList_append_own _ rfl (.tmp 64) (.tmp 66) 23 rfl w4.heap.size 3 i0 (.int .i64 0) 1 8 Try.underlying23 hi0 hz0 hz1 hz2 rfl (by decide) _ _ _ rfl (HO.out.alloc _) ⟨wr.heap.size, 0, none⟩ 1 1 [.int .i64 (y : Int)] rfl rfl k1.out k2.out k3.out k4.out k5.out ?_)
            intro v' w5 hown' hgrow _
            have hg5 : Below w4.heap.size wr w5 := ((Below.refl w4.heap.size wr).alloc HSZ.out _).grown hgrow (by have := HSZ.out; rw [alloc_size]; omega) (fun q hq => (HO.out.lt q hq).1)
            have ho5 := OwnX.snoc hown'
            clear hown' hgrow k1 k2 k3 k4 k5
            have HNX := Lib.hid (show OwnX w5 w4.heap.size 3 v' (cst (X.take (k + 1))) by rw [cst_snoc (by rw [HXLEN.out]; exact hlt), HY.out]; exact ho5)
            have HNB := Lib.hid (show Below w4.heap.size w4 w5 from HBR.out.trans hg5)
            clear ho5 hg5
            go_wp2_with fail
            go_roundw
            case rel => exact ⟨k + 1, by omega, by go_num, HNX.out, HNB.out⟩
            case measure => simp [intOf]; omega
        · have hki : ¬ (k : Int) < (m : Int) := by omega
          have hkm : k = m := by omega
          have hfull : X.take k = X := List.take_of_length_le (by rw [HXLEN.out]; omega)
          rw [hfull] at hown
          obtain ⟨go, co, rfl, hgB, hgl, _, _, hor, _⟩ := hown.shape (by rw [cst_len, HXLEN.out]; exact HM.out.1)
          have hcl : (cst X).length = m := by rw [cst_len]; exact HXLEN.out
          rw [hcl] at hor
          have HOR := Lib.hid (show Row wr go 0 m (rv (cst X)) from hor)
          have HOL := Lib.hid hgl
          replace HRW := Lib.hid (HRW.out.below hbr HG0.out); replace HXR := Lib.hid (HXR.out.below hbr HXL.out)
          replace HXL := Lib.hid (Nat.lt_of_lt_of_le HXL.out hbr.size)
          replace HB := Lib.hid (below_onto HB.out hbr)
          rw [hcl]
          clear hown hor hgB hgl hbr hfull hkm hcl HI HG0
          go_wp2_with fail
          go_loopw [9, 10, 11, 12] (fun a b i _ w' => ∃ k, k ≤ m ∧ i = .int .i64 (k : Nat) ∧ a = .int .i64 (allN m P k : Nat) ∧ b = .int .i64 (allN m Q k : Nat) ∧ w' = wr) (fun _ _ i _ _ => m - (intOf i).toNat)
          case atStart => exact ⟨0, Nat.zero_le _, rfl, rfl, rfl, rfl⟩
          case round =>
            clear hki hlt hk
            obtain ⟨k, hk, rfl, rfl, rfl, rfl⟩ := hrel
            by_cases hlt : k < m
            · have hki : (k : Int) < (m : Int) := by omega
              have hk0 : (0 : Int) ≤ (k : Int) := by omega
              obtain ⟨sa, hsa⟩ : ∃ s, allN m P k = s := ⟨_, rfl⟩
              obtain ⟨sb, hsb⟩ : ∃ s, allN m Q k = s := ⟨_, rfl⟩
              have hm4 := HM.out.2
              have hal : allN m P k ≤ 16 ∧ allN m Q k ≤ 16 := by
                have h1 := allN_le m P k; have h2 := allN_le m Q k
                have : k * m ≤ 4 * 4 := Nat.mul_le_mul (by omega) hm4
                omega
              rw [hsa, hsb] at hal
              have HSA := Lib.hid hsa; have HSB := Lib.hid hsb; have HAL := Lib.hid hal
              rw [hsa, hsb]
              have hc1 := HRW.out k hlt
              have hc2 := HXR.out k hlt
              obtain ⟨zp, hzp⟩ : ∃ z, P.getD k 0 = z := ⟨_, rfl⟩
              obtain ⟨zq, hzq⟩ : ∃ z, Q.getD k 0 = z := ⟨_, rfl⟩
              rw [(HF.out k hlt).1, hzp] at hc1
              rw [cst_getD, hzq, Nat.zero_add] at hc2
              have HZP := Lib.hid (show P.getD k 0 = zp ∧ I64 (zp : Int) from ⟨hzp, by have := (HF.out k hlt).2; rw [hzp] at this; unfold I64; omega⟩)
              have HZQ := Lib.hid (show Q.getD k 0 = zq ∧ I64 (zq : Int) from ⟨hzq, by have := (shV_nat HM.out.1 hm4 HQW.out).2.2 k hlt; rw [cst_getD, hzq] at this; exact this⟩)
              clear hzp hzq hsa hsb hal hm4
              go_wp2_with fail
              go_loopw [9, 10, 12] (fun a b j w' => ∃ q, q ≤ m ∧ j = .int .i64 (q : Nat) ∧ a = .int .i64 (rowN P k sa q : Nat) ∧ b = .int .i64 (rowN Q k sb q : Nat) ∧ w' = wr) (fun _ _ j _ => m - (intOf j).toNat)
              case atStart => exact ⟨0, Nat.zero_le _, rfl, rfl, rfl, rfl⟩
              case round =>
                obtain ⟨q, hq, rfl, rfl, rfl, rfl⟩ := hrel
                by_cases hlq : q < m
                · have hqi : (q : Int) < (m : Int) := by omega
                  have hra := rowN_le P k sa q
                  have hrb := rowN_le Q k sb q
                  have hsta := rowN_step P k sa q
                  have hstb := rowN_step Q k sb q
                  rw [HZP.out.1] at hsta
                  rw [HZQ.out.1] at hstb
                  obtain ⟨ra, hra'⟩ : ∃ r, rowN P k sa q = r := ⟨_, rfl⟩
                  obtain ⟨rb, hrb'⟩ : ∃ r, rowN Q k sb q = r := ⟨_, rfl⟩
                  rw [hra'] at hra hsta
                  rw [hrb'] at hrb hstb
                  rw [hra', hrb']
                  have hra30 : ra ≤ 30 := by have := HAL.out; have := HM.out; omega
                  have hrb30 : rb ≤ 30 := by have := HAL.out; have := HM.out; omega
                  have HQ63 := Lib.hid (show q ≤ 63 by have := HM.out; omega)
                  have HBP : ∀ v, Nat.testBit zp q = v → hbB (zp : Int) (q : Int) = v := fun v h => by rw [hb_nat (by omega), hasB_nat]; exact h
                  have HBQ : ∀ v, Nat.testBit zq q = v → hbB (zq : Int) (q : Int) = v := fun v h => by rw [hb_nat (by omega), hasB_nat]; exact h
                  clear hra' hrb' hra hrb
                  cases hp : Nat.testBit zp q with
                  | true =>
                    cases hqq : Nat.testBit zq q with
                    | true =>
                      rw [hp, if_pos rfl] at hsta
                      rw [hqq, if_pos rfl] at hstb
                      have HST := Lib.hid (And.intro hsta hstb); have HVP := Lib.hid (HBP _ hp); have HVQ := Lib.hid (HBQ _ hqq)
                      clear hsta hstb hp hqq HBP HBQ
                      go_wp2_with fail
                      refine (hasBit_val _ q true HVP.out HQ63.out HZP.out.2 _).mono ?_
                      rintro e w8 ⟨rfl, rfl⟩
                      go_wp2_with fail
                      refine (hasBit_val _ q true HVQ.out HQ63.out HZQ.out.2 _).mono ?_
                      rintro e w8 ⟨rfl, rfl⟩
                      go_wp2_with fail
                      go_roundw
                      case rel => exact ⟨q + 1, by omega, by go_num, by (rw [HST.out.1]; first | done | go_num), by (rw [HST.out.2]; first | done | go_num), by first | trivial | rfl⟩
                      case measure => simp [intOf]; omega
                    | false =>
                      rw [hp, if_pos rfl] at hsta
                      rw [hqq, if_neg (by decide)] at hstb
                      have HST := Lib.hid (And.intro hsta hstb); have HVP := Lib.hid (HBP _ hp); have HVQ := Lib.hid (HBQ _ hqq)
                      clear hsta hstb hp hqq HBP HBQ
                      go_wp2_with fail
                      refine (hasBit_val _ q true HVP.out HQ63.out HZP.out.2 _).mono ?_
                      rintro e w8 ⟨rfl, rfl⟩
                      go_wp2_with fail
                      refine (hasBit_val _ q false HVQ.out HQ63.out HZQ.out.2 _).mono ?_
                      rintro e w8 ⟨rfl, rfl⟩
                      go_wp2_with fail
                      go_roundw
                      case rel => exact ⟨q + 1, by omega, by go_num, by (rw [HST.out.1]; first | done | go_num), by (rw [HST.out.2]; first | done | go_num), by first | trivial | rfl⟩
                      case measure => simp [intOf]; omega
                  | false =>
                    cases hqq : Nat.testBit zq q with
                    | true =>
                      rw [hp, if_neg (by decide)] at hsta
                      rw [hqq, if_pos rfl] at hstb
                      have HST := Lib.hid (And.intro hsta hstb); have HVP := Lib.hid (HBP _ hp); have HVQ := Lib.hid (HBQ _ hqq)
                      clear hsta hstb hp hqq HBP HBQ
                      go_wp2_with fail
                      refine (hasBit_val _ q false HVP.out HQ63.out HZP.out.2 _).mono ?_
                      rintro e w8 ⟨rfl, rfl⟩
                      go_wp2_with fail
                      refine (hasBit_val _ q true HVQ.out HQ63.out HZQ.out.2 _).mono ?_
                      rintro e w8 ⟨rfl, rfl⟩
                      go_wp2_with fail
                      go_roundw
                      case rel => exact ⟨q + 1, by omega, by go_num, by (rw [HST.out.1]; first | done | go_num), by (rw [HST.out.2]; first | done | go_num), by first | trivial | rfl⟩
                      case measure => simp [intOf]; omega
                    | false =>
                      rw [hp, if_neg (by decide)] at hsta
                      rw [hqq, if_neg (by decide)] at hstb
                      have HST := Lib.hid (And.intro hsta hstb); have HVP := Lib.hid (HBP _ hp); have HVQ := Lib.hid (HBQ _ hqq)
                      clear hsta hstb hp hqq HBP HBQ
                      go_wp2_with fail
                      refine (hasBit_val _ q false HVP.out HQ63.out HZP.out.2 _).mono ?_
                      rintro e w8 ⟨rfl, rfl⟩
                      go_wp2_with fail
                      refine (hasBit_val _ q false HVQ.out HQ63.out HZQ.out.2 _).mono ?_
                      rintro e w8 ⟨rfl, rfl⟩
                      go_wp2_with fail
                      go_roundw
                      case rel => exact ⟨q + 1, by omega, by go_num, by (rw [HST.out.1]; first | done | go_num), by (rw [HST.out.2]; first | done | go_num), by first | trivial | rfl⟩
                      case measure => simp [intOf]; omega
                · have hqi : ¬ (q : Int) < (m : Int) := by omega
                  have hqm : q = m := by omega
                  subst hqm
                  have HSTA := Lib.hid (show allN q P (k + 1) = rowN P k sa q by rw [allN_step, HSA.out])
                  have HSTB := Lib.hid (show allN q Q (k + 1) = rowN Q k sb q by rw [allN_step, HSB.out])
                  go_wp2_with fail
                  go_roundw
                  case rel => exact ⟨k + 1, by omega, by go_num, by rw [HSTA.out], by rw [HSTB.out], by first | trivial | rfl⟩
                  case measure => simp [intOf]; omega
            · have hki : ¬ (k : Int) < (m : Int) := by omega
              have hkm : k = m := by omega
              subst hkm
              obtain ⟨sa, hsa⟩ : ∃ s, allN k P k = s := ⟨_, rfl⟩
              have hsb : allN k Q k = sa := by rw [← HCN.out]; exact hsa
              rw [hsa, hsb]
              obtain ⟨hv1, hw1, h641⟩ := shV_nat HM.out.1 HM.out.2 HQW.out
              obtain ⟨hv2, _, h642⟩ := shV_nat HM.out.1 HM.out.2 HXW.out
              rw [HQS.out] at hv1
              rw [HXS.out] at hv2
              have HV1 := Lib.hid hv1; have HV2 := Lib.hid hv2; have HW1 := Lib.hid hw1
              have HI1 := Lib.hid (ints_row HXR.out HXL.out (by have := HM.out; omega) h641)
              have HI2 := Lib.hid (ints_row HOR.out HOL.out (by have := HM.out; omega) h642)
              clear hsa hsb hv1 hv2 hw1 h641 h642 hlt hk
              go_wp2_with fail
              refine (WorldOk_val _ k cx (rv (cst Q)) true _ HW1.out HI1.out).mono ?_
              rintro e w5 ⟨rfl, hb⟩
              replace HI1 := Lib.hid (HI1.out.next hb); replace HI2 := Lib.hid (HI2.out.next hb)
              replace HXR := Lib.hid (HXR.out.below hb HXL.out)
              replace HXL := Lib.hid (Nat.lt_of_lt_of_le HXL.out hb.size)
              replace HB := Lib.hid (below_onto HB.out hb); clear hb
              go_wp2_with fail
              refine (ShapeOf_any _ k cx _ _ HI1.out).mono ?_
              intro e w6 hg
              rw [HV1.out] at hg
              obtain ⟨g1, d1, rfl, _, hgl, hgr, hb⟩ := hg.row HM.out.1
              have HR1 := Lib.hid hgr
              replace HI2 := Lib.hid (HI2.out.next hb)
              replace HXR := Lib.hid (HXR.out.below hb HXL.out)
              replace HXL := Lib.hid (Nat.lt_of_lt_of_le HXL.out hb.size)
              replace HB := Lib.hid (below_onto HB.out hb); clear hb hgl hgr hg
              go_wp2_with fail
              refine (sameInts_row _ _ _ _ _ _ k _ (by have := HM.out; omega) _ HR1.out HXR.out).mono ?_
              rintro e w7 ⟨rfl, hd⟩
              have hb := hd.below
              replace HI2 := Lib.hid (HI2.out.next hb)
              replace HXR := Lib.hid (HXR.out.below hb HXL.out)
              replace HXL := Lib.hid (Nat.lt_of_lt_of_le HXL.out hb.size)
              replace HB := Lib.hid (below_onto HB.out hb); clear hb hd HR1 HI1
              go_wp2_with fail
              refine (ShapeOf_any _ k co _ _ HI2.out).mono ?_
              intro e w8 hg
              rw [HV2.out] at hg
              obtain ⟨g2, d2, rfl, _, hgl, hgr, hb⟩ := hg.row HM.out.1
              have HR2 := Lib.hid hgr
              replace HXR := Lib.hid (HXR.out.below hb HXL.out)
              replace HB := Lib.hid (below_onto HB.out hb); clear hb hgl hgr hg
              go_wp2_with fail
              refine (sameInts_row _ _ _ _ _ _ k _ (by have := HM.out; omega) _ HR2.out HXR.out).mono ?_
              rintro e w9 ⟨rfl, hd⟩
              replace HB := Lib.hid (below_onto HB.out hd.below); clear hd
              go_wp2_with fail
              go_ret
              exact ⟨rfl, HB.out⟩
end Go.Proofs.Ytglnefffkcillaa
