import Derived.Test.YthaickihoagnmaaGreatDoorQD8
import Derived.RangeFuncBox
import Derived.Deep.DeepFit
set_option linter.unusedVariables false
set_option linter.unusedSimpArgs false
set_option maxHeartbeats 12800000
namespace Go.Proofs.YthaickihoagnmaaGreatDoor
open Go.RowKit Go.Maps
theorem step_ap {ops : Array Oper} {o : Oper} {a : Act} {K : Act → World → Prop} {Q : Exit → Act → World → Prop} {E : Prop} (hgd : o.guard = none) (s x : Operand)
    (ho : o.op = .call { callee := .builtin .append, args := #[s, x], argTypes := #[28, 28] })
    (B : Nat) (v : Value) (ys xs zs : List Int) (hzs : ys ++ xs = zs) (h1 : 1 ≤ xs.length) (hl : xs.length ≤ 1000) (hly : ys.length ≤ 1000) (w : World) (g o' c : Nat) (hs : a.eval s = v) (hx : a.eval x = .slice (some ⟨g, o', none⟩) xs.length c) (hr : Row w g o' xs.length (fun j => xs.getD j 0)) (hown : OwnX w B 3 v ys) (hB : B ≤ w.heap.size)
    (hk : ∀ g c w', OwnX w' B 3 (.slice (some ⟨g, 0, none⟩) zs.length c) zs → Below B w w' → Upon (fun q => v.ownBlock = some q) w w' → K (a.put o.dst (.slice (some ⟨g, 0, none⟩) zs.length c)) w') :
    if Region.wanted o (yielded ops a.tmps) = true then Oper.wp Tryz.prog o a w K Q else E := by
  subst hzs
  obtain ⟨i0, hi0, hz0, hz1, hz2⟩ := info_parts Tryz.infoInt
  refine step_append_lies _ hgd s x 28 ho B 3 i0 (.int .i64 0) 1 8 Tryz.underlying28 hi0 hz0 hz1 hz2 rfl (by decide) v ys.length (ys.map (Value.int .i64)) hs hown ⟨g, o', none⟩ xs.length c (rowV (fun j => xs.getD j 0) xs.length) hx (by rw [rowV_len]; omega) (rowV_cells hr) (rowV_one _ _)
    (by omega) (by unfold maxLen; omega) (by omega) hB w.heap.size rfl ?_
  intro g' c' w' hown' hgrow hat hlt
  have e : ys.map (Value.int .i64) ++ rowV (fun j => xs.getD j 0) xs.length = (ys ++ xs).map (Value.int .i64) := by
    unfold rowV; rw [famL_get, List.map_append]
  rw [e, ← List.length_append] at hown'
  have hb : Below B w w' := (Below.refl B w).grown hgrow hB (fun q hq => (World.ownsRow.lt hown q hq).1)
  rw [← List.length_append]
  exact hk g' c' w' hown' hb (Upon.of_grown hgrow)
theorem step_sn {ops : Array Oper} {o : Oper} {a : Act} {K : Act → World → Prop} {Q : Exit → Act → World → Prop} {E : Prop} (hgd : o.guard = none) (s x : Operand)
    (ho : o.op = .call { callee := .builtin .append, args := #[s, x], argTypes := #[28, 28] })
    (B : Nat) (v : Value) (ys zs : List Int) (z : Int) (hzs : ys ++ [z] = zs) (hly : ys.length ≤ 1000) (w : World) (hs : a.eval s = v) (hx : a.eval x = .slice (some ⟨w.heap.size, 0, none⟩) 1 1) (hown : OwnX w B 3 v ys) (hB : B ≤ w.heap.size)
    (hk : ∀ g c w', OwnX w' B 3 (.slice (some ⟨g, 0, none⟩) zs.length c) zs → Below B w w' → K (a.put o.dst (.slice (some ⟨g, 0, none⟩) zs.length c)) w') :
    if Region.wanted o (yielded ops a.tmps) = true then Oper.wp Tryz.prog o a (w.alloc (.cells #[.int .i64 z] 3)) K Q else E := by
  have hal := alloc_below w (.cells #[.int .i64 z] 3)
  refine step_ap hgd s x ho B v ys [z] zs hzs (by simp) (by simp) hly _ w.heap.size 0 1 hs hx (fun i hi => ?_) (hown.kept hal) (by rw [alloc_size]; omega) (fun g c w' q1 q2 _ => hk g c w' q1 ?_)
  · have : i = 0 := by simp at hi; omega
    subst this
    exact cell_one_new w (.int .i64 z) 3 0 _ rfl
  · exact (hal.mono hB).trans q2
def mdS (xs : List Int) (k x : Int) : List Int :=
  if k = 0 then xs ++ [x] else if k = 1 then xs.filter (fun y => y != x) else if k = 2 ∧ x = 0 then doneL xs.length (fun i => xs.getD i 0) (FP (memS xs.length (fun i => xs.getD i 0)))
  else if k = 3 ∧ x = 0 then doneL xs.length (fun i => xs.getD i 0) (FS xs.length (fun i => xs.getD i 0)) else []
theorem ms_md {xs : List Int} {k x : Int} (h : dOk k x = true) : mdS xs k x = mdL xs k x := by
  have hr := dOk_iff.1 h
  unfold mdS mdL
  by_cases h0 : k = 0
  · rw [if_pos h0, if_pos h0]
  rw [if_neg h0, if_neg h0]
  by_cases h1 : k = 1
  · rw [if_pos h1, if_pos h1]
  rw [if_neg h1, if_neg h1]
  have hx : x = 0 := by omega
  by_cases h2 : k = 2
  · rw [if_pos ⟨h2, hx⟩, if_pos h2]
  rw [if_neg (fun h => h2 h.1), if_neg h2]
  by_cases h3 : k = 3
  · rw [if_pos ⟨h3, hx⟩, if_pos h3]
  rw [if_neg (fun h => h3 h.1), if_neg h3]
theorem ms_no {xs : List Int} {k x : Int} (hf : famL xs = true) (h : dOk k x = false) : (famL (mdS xs k x) && decide ((mdS xs k x).length ≠ xs.length)) = false := by
  have hr : ¬ ((0 ≤ k ∧ k ≤ 1 ∧ 1 ≤ x ∧ x ≤ 15) ∨ (2 ≤ k ∧ k ≤ 4 ∧ x = 0)) := fun hh => by rw [dOk_iff.2 hh] at h; cases h
  unfold mdS
  by_cases h0 : k = 0
  · rw [if_pos h0]
    cases hb : famL (xs ++ [x]) with
    | false => rfl
    | true => have := famL_rng hb x (by simp); omega
  rw [if_neg h0]
  by_cases h1 : k = 1
  · rw [if_pos h1]
    have : xs.filter (fun y => y != x) = xs := List.filter_eq_self.2 (fun y hy => by have := famL_rng hf y hy; simp; omega)
    rw [this]; simp
  rw [if_neg h1, if_neg (fun hh => by omega), if_neg (fun hh => by omega), famL_nil, Bool.false_and]
theorem ms_ch {xs : List Int} {k x : Int} (hf : famL xs = true) : (famL (mdS xs k x) && decide ((mdS xs k x).length ≠ xs.length)) = chB xs k x := by
  cases h : dOk k x with
  | true => rw [ms_md h]; unfold chB; rw [h, Bool.true_and]
  | false => rw [ms_no hf h]; unfold chB; rw [h, Bool.false_and]
theorem ms_ok {xs : List Int} {k x : Int} (hf : famL xs = true) (hx : I64 x) : (mdS xs k x).length ≤ 8 ∧ I64s (mdS xs k x) := by
  unfold mdS
  by_cases h0 : k = 0
  · have := md_ok (k := 0) hf hx
    rw [if_pos h0]; exact this
  rw [if_neg h0]
  by_cases h1 : k = 1
  · have := md_ok (k := 1) hf hx
    rw [if_pos h1]; exact this
  rw [if_neg h1]
  split
  · have := md_ok (k := 2) hf hx
    exact this
  split
  · have := md_ok (k := 3) hf hx
    exact this
  · exact ⟨by simp, fun y hy => by simp at hy⟩
def MadeEnd (ys : List Int) (b : Bool) (w : World) (e : Ending) (w' : World) : Prop :=
  ∃ a c, e = .returned (.tuple #[.slice a ys.length c, .bool b]) ∧ OwnX w' w.heap.size 3 (.slice a ys.length c) ys ∧ Below w.heap.size w w'
structure TakeS (xs : List Int) (x : Int) (w w1 : World) (k : Nat) (v : Value) (wr : World) : Prop where
  own : OwnX wr (w.heap.size + 1) 3 v ((xs.take k).filter (fun y => y != x))
  bel : Below (w.heap.size + 1) w1 wr
theorem filt_in {xs : List Int} {x : Int} {k : Nat} (hk : k < xs.length) (h : (xs.getD k 0 != x) = true) : (xs.take (k + 1)).filter (fun y => y != x) = (xs.take k).filter (fun y => y != x) ++ [xs.getD k 0] := by
  rw [take_nextI hk, List.filter_append]
  congr 1
  rw [List.filter_cons, if_pos h]; rfl
theorem filt_out {xs : List Int} {x : Int} {k : Nat} (hk : k < xs.length) (h : (xs.getD k 0 != x) = false) : (xs.take (k + 1)).filter (fun y => y != x) = (xs.take k).filter (fun y => y != x) := by
  rw [take_nextI hk, List.filter_append]
  have : [xs.getD k 0].filter (fun y => y != x) = [] := by rw [List.filter_cons, if_neg (by rw [h]; decide)]; rfl
  rw [this, List.append_nil]
set_option maxRecDepth 100000 in
theorem l12Made_put (a : Option Addr) (c : Nat) (xs : List Int) (x : Int) (hx : I64 x) (hf : famL xs = true) (w : World) (h : Ints w a xs.length (fun j => xs.getD j 0)) :
    Calls Tryz.prog 120 #[.slice a xs.length c, .agg #[.int .i64 0, .int .i64 x]] w (MadeEnd (mdS xs (0) (x)) (chB xs (0) (x)) w) := by
  have hq := alloc_below w (.cells #[.int .i64 (0), .int .i64 (x)] 39)
  have hb2 := Blk2.new w 39 (.int .i64 (0)) (.int .i64 (x))
  have hal := alloc_below (w.alloc (.cells #[.int .i64 (0), .int .i64 (x)] 39)) (.cells #[] 3)
  have hmd : OwnX ((w.alloc (.cells #[.int .i64 (0), .int .i64 (x)] 39)).alloc (.cells #[] 3)) (w.alloc (.cells #[.int .i64 (0), .int .i64 (x)] 39)).heap.size 3 (.slice (some ⟨(w.alloc (.cells #[.int .i64 (0), .int .i64 (x)] 39)).heap.size, 0, none⟩) 0 0) [] := OwnX.made _ _ (Nat.le_refl _) _
  rw [alloc_size] at hmd
  have hb3 := hb2.kept hal hb2.lt
  have hq3 := below_onto hq hal
  have hi3 := h.below hq3 (Nat.le_refl _)
  have hsz : ((w.alloc (.cells #[.int .i64 (0), .int .i64 (x)] 39)).alloc (.cells #[] 3)).heap.size = w.heap.size + 2 := by rw [alloc_size, alloc_size]
  obtain ⟨w1, hw1⟩ : ∃ w1, (w.alloc (.cells #[.int .i64 (0), .int .i64 (x)] 39)).alloc (.cells #[] 3) = w1 := ⟨_, rfl⟩
  rw [hw1] at hmd hb3 hq3 hi3 hsz
  have HB3 := Lib.hid hb3; have HQ3 := Lib.hid hq3; have HI3 := Lib.hid hi3; have HMD := Lib.hid hmd; have HF := Lib.hid hf
  have hlen := famL_len hf
  have HSZ := Lib.hid hsz
  have hc0 := hb3.cell.1; have hc1 := hb3.cell.2
  have HOKS := Lib.hid (ms_ok (k := 0) (x := x) hf hx)
  have HCH := Lib.hid (ms_ch (k := 0) (x := x) hf)
  obtain ⟨cb, hcb⟩ : ∃ cb, chB xs (0) (x) = cb := ⟨_, rfl⟩
  rw [hcb] at HCH ⊢
  obtain ⟨ys, hys⟩ : ∃ ys, mdS xs (0) (x) = ys := ⟨_, rfl⟩
  rw [hys] at HCH HOKS ⊢
  have HYS := Lib.hid hys
  have HOK := HOKS
  have HIH := Lib.hid h
  clear h hq hb2 hal hmd hb3 hq3 hi3 hsz hf hcb hys HOKS
  obtain ⟨q, p, rfl, hql, hrow⟩ := HI3.out.row hlen.1
  have HRW : Hid (Row w1.drew q p xs.length (fun j => xs.getD j 0)) := Lib.hid (hrow.below (Below.refl _ _).drew hql)
  have HM1 : Hid (OwnX w1.drew (w.heap.size + 1) 3 (.slice (some ⟨w.heap.size + 1, 0, none⟩) 0 0) []) := Lib.hid HMD.out
  have HL1 := Lib.hid hlen.1
  have HS1 : Hid (w.heap.size + 1 ≤ w1.drew.heap.size) := Lib.hid (by show _ ≤ w1.heap.size; rw [HSZ.out]; omega)
  have hax : Below w1.heap.size w1 (w1.alloc (.cells #[.int .i64 x] 3)).drew := (alloc_below w1 _).drew
  have HBA := Lib.hid (hax.mono (show w.heap.size + 1 ≤ w1.heap.size by rw [HSZ.out]; omega))
  have HBD : Hid (Below (w.heap.size + 1) w1 w1.drew) := Lib.hid (Below.refl _ _).drew
  have HRW2 := Lib.hid (hrow.below hax hql)
  have HM3 := Lib.hid (HMD.out.kept hax)
  have HS2 := Lib.hid (Nat.le_trans HS1.out hax.size)
  have HX1 : Hid (Row (w1.alloc (.cells #[.int .i64 x] 3)).drew w1.heap.size 0 [x].length (fun j => [x].getD j 0)) := Lib.hid (fun i hi => by
    have : i = 0 := by simp at hi; omega
    subst this
    exact cell_one_new w1 (.int .i64 x) 3 0 _ rfl)
  have HNX : Hid (¬ (Value.slice (some ⟨w.heap.size + 1, 0, none⟩) 0 0).ownBlock = some w1.heap.size) := Lib.hid (fun e => by injection e with e; have e : w.heap.size + 1 = w1.heap.size := e; have := HSZ.out; omega)
  have HXS : Hid (w1.heap.size < (w1.alloc (.cells #[.int .i64 x] 3)).drew.heap.size) := Lib.hid (by show _ < (w1.alloc (.cells #[.int .i64 x] 3)).heap.size; rw [alloc_size]; exact Nat.lt_succ_self _)
  clear hax
  have HNA : Hid ([] ++ xs = xs) := Lib.hid (List.nil_append _)
  have HKS := Lib.hid (fun W (hW : Below (w.heap.size + 1) w1 W) => (show Blk2 W w.heap.size 39 (.int .i64 0) (.int .i64 x) from (hW.block w.heap.size (by omega)).trans HB3.out).cell.2)
  have HL2 : Hid (xs.length ≤ 1000) := Lib.hid (by omega)
  clear hrow hql
  go_enter Tryz.func120, Tryz.ntmps120
  go_wp2_with fail
  clear hw1
  have HZS : Hid (xs ++ [x] = ys) := Lib.hid HYS.out
  go_region_held3 (fun W => W.cell? ⟨w.heap.size, 1, none⟩ = some (.int .i64 x)) (first | exact HKS.out _ HB6.out | go_keep)
    (first | ((refine step_ap (by rfl) (.tmp 15) (.tmp 18) (by rfl) (w.heap.size + 1) (.slice (some ⟨g6, 0, none⟩) xs.length c6) xs [x] ys HZS.out (by simp) (by simp) HL2.out w6 w1.heap.size 0 1 (by rfl) (by rfl) HX6.out HO6.out (Nat.le_trans HS1.out HB6.out.size) ?_; intro g7 c7 w7 ho7 hb7 _; have HO7 := Lib.hid ho7; have HZ := Lib.hid (HB6.out.trans hb7); clear HB6; have HB6 := HZ; clear HZ ho7 hb7)) | ((refine step_sn (by rfl) (.tmp 15) (.tmp 18) (by rfl) (w.heap.size + 1) (.slice (some ⟨g6, 0, none⟩) xs.length c6) xs ys x HZS.out HL2.out w6 (by rfl) (by rfl) HO6.out (Nat.le_trans HS1.out HB6.out.size) ?_; intro g7 c7 w7 ho7 hb7; have HO7 := Lib.hid ho7; have HZ := Lib.hid (HB6.out.trans hb7); clear HB6; have HB6 := HZ; clear HZ ho7 hb7)) | ((refine step_ap (by rfl) (.tmp 13) (.tmp 14) (by rfl) (w.heap.size + 1) (.slice (some ⟨w.heap.size + 1, 0, none⟩) 0 0) [] xs xs HNA.out HL1.out HL2.out (by simp) _ q p c (by rfl) (by rfl) (by first | with_reducible exact HRW.out | with_reducible exact HRW2.out) (by first | with_reducible exact HM1.out | with_reducible exact HM3.out) (by first | with_reducible exact HS1.out | with_reducible exact HS2.out) ?_; intro g6 c6 w6 ho6 hb6 hu6; have HO6 := Lib.hid ho6; (try (have HX6 := Lib.hid (hu6.row (by with_reducible exact HX1.out) HNX.out); have HXL := Lib.hid (Nat.lt_of_lt_of_le HXS.out hu6.size))); have HB6 := Lib.hid (show Below (w.heap.size + 1) w1 w6 from (by first | with_reducible exact HBD.out.trans hb6 | with_reducible exact HBA.out.trans hb6)); clear ho6 hb6 hu6)))
  all_goals
    have HOW := Lib.hid (HO7.out.base (B' := w.heap.size) (by omega))
    have HBW := Lib.hid (HQ3.out.trans (HB6.out.mono (by omega)))
    clear HO7 HO6 HKS HM1 HMD HRW
    have HI8 := Lib.hid (ints_own HOW.out (by have := HOK.out.1; omega) HOK.out.2)
    cases hfy : famL ys with
    | false =>
      have hcb : cb = false := by rw [← HCH.out, hfy, Bool.false_and]
      have HFY := Lib.hid hfy
      subst hcb
      clear hfy
      go_wp2_with fail
      refine (specFamilyOk_val (some ⟨g7, 0, none⟩) ys.length c7 (fun j => ys.getD j 0) false _ HFY.out HI8.out).mono ?_
      rintro e w9 ⟨rfl, hd9⟩
      have HOE := Lib.hid (HOW.out.kept hd9.below)
      have HBE := Lib.hid (below_onto HBW.out hd9.below)
      clear hd9
      go_wp2_with fail
      go_ret2
      exact ⟨_, _, by first | rfl | trivial, HOE.out, HBE.out⟩
    | true =>
      have HFY := Lib.hid hfy
      by_cases hln : ys.length = xs.length
      · have hcb : cb = false := by rw [← HCH.out, hfy, decide_eq_false (fun h => h hln), Bool.and_false]
        have hne : ((ys.length : Int) != (xs.length : Int)) = false := by rw [hln]; simp
        subst hcb
        have HLN := Lib.hid hln
        clear hfy hln
        go_wp2_with fail
        refine (specFamilyOk_val (some ⟨g7, 0, none⟩) ys.length c7 (fun j => ys.getD j 0) true _ HFY.out HI8.out).mono ?_
        rintro e w9 ⟨rfl, hd9⟩
        have HOE := Lib.hid (HOW.out.kept hd9.below)
        have HBE := Lib.hid (below_onto HBW.out hd9.below)
        clear hd9
        go_wp2_with fail
        go_ret2
        exact ⟨_, _, by first | rfl | trivial, HOE.out, HBE.out⟩
      · have hcb : cb = true := by rw [← HCH.out, hfy, decide_eq_true hln]; rfl
        have hne : ((ys.length : Int) != (xs.length : Int)) = true := by simp; omega
        subst hcb
        clear hfy hln
        go_wp2_with fail
        refine (specFamilyOk_val (some ⟨g7, 0, none⟩) ys.length c7 (fun j => ys.getD j 0) true _ HFY.out HI8.out).mono ?_
        rintro e w9 ⟨rfl, hd9⟩
        have HOE := Lib.hid (HOW.out.kept hd9.below)
        have HBE := Lib.hid (below_onto HBW.out hd9.below)
        clear hd9
        go_wp2_with fail
        go_ret2
        exact ⟨_, _, by first | rfl | trivial, HOE.out, HBE.out⟩
set_option maxRecDepth 100000 in
theorem l12Made_none (a : Option Addr) (c : Nat) (xs : List Int) (k x : Int) (hx : I64 x) (h0 : k ≠ 0) (h1 : k ≠ 1) (h2 : ¬ (k = 2 ∧ x = 0)) (h3 : ¬ (k = 3 ∧ x = 0)) (hf : famL xs = true) (w : World) (h : Ints w a xs.length (fun j => xs.getD j 0)) :
    Calls Tryz.prog 120 #[.slice a xs.length c, .agg #[.int .i64 k, .int .i64 x]] w (MadeEnd (mdS xs (k) (x)) (chB xs (k) (x)) w) := by
  have hq := alloc_below w (.cells #[.int .i64 (k), .int .i64 (x)] 39)
  have hb2 := Blk2.new w 39 (.int .i64 (k)) (.int .i64 (x))
  have hal := alloc_below (w.alloc (.cells #[.int .i64 (k), .int .i64 (x)] 39)) (.cells #[] 3)
  have hmd : OwnX ((w.alloc (.cells #[.int .i64 (k), .int .i64 (x)] 39)).alloc (.cells #[] 3)) (w.alloc (.cells #[.int .i64 (k), .int .i64 (x)] 39)).heap.size 3 (.slice (some ⟨(w.alloc (.cells #[.int .i64 (k), .int .i64 (x)] 39)).heap.size, 0, none⟩) 0 0) [] := OwnX.made _ _ (Nat.le_refl _) _
  rw [alloc_size] at hmd
  have hb3 := hb2.kept hal hb2.lt
  have hq3 := below_onto hq hal
  have hi3 := h.below hq3 (Nat.le_refl _)
  have hsz : ((w.alloc (.cells #[.int .i64 (k), .int .i64 (x)] 39)).alloc (.cells #[] 3)).heap.size = w.heap.size + 2 := by rw [alloc_size, alloc_size]
  obtain ⟨w1, hw1⟩ : ∃ w1, (w.alloc (.cells #[.int .i64 (k), .int .i64 (x)] 39)).alloc (.cells #[] 3) = w1 := ⟨_, rfl⟩
  rw [hw1] at hmd hb3 hq3 hi3 hsz
  have HB3 := Lib.hid hb3; have HQ3 := Lib.hid hq3; have HI3 := Lib.hid hi3; have HMD := Lib.hid hmd; have HF := Lib.hid hf
  have hlen := famL_len hf
  have HSZ := Lib.hid hsz
  have hc0 := hb3.cell.1; have hc1 := hb3.cell.2
  have HOKS := Lib.hid (ms_ok (k := k) (x := x) hf hx)
  have HCH := Lib.hid (ms_ch (k := k) (x := x) hf)
  obtain ⟨cb, hcb⟩ : ∃ cb, chB xs (k) (x) = cb := ⟨_, rfl⟩
  rw [hcb] at HCH ⊢
  obtain ⟨ys, hys⟩ : ∃ ys, mdS xs (k) (x) = ys := ⟨_, rfl⟩
  rw [hys] at HCH HOKS ⊢
  have HYS := Lib.hid hys
  have HOK := HOKS
  have HIH := Lib.hid h
  clear h hq hb2 hal hmd hb3 hq3 hi3 hsz hf hcb hys HOKS
  have hk0 : (k == 0) = false := by simpa using h0
  have hk1 : (k == 1) = false := by simpa using h1
  have hk2 := fun W => eqDeedV_val k x 2 0 false (by rw [Bool.and_eq_false_iff]; simp; omega) W
  have hk3 := fun W => eqDeedV_val k x 3 0 false (by rw [Bool.and_eq_false_iff]; simp; omega) W
  have hys : mdS xs k x = [] := by unfold mdS; rw [if_neg h0, if_neg h1, if_neg h2, if_neg h3]
  rw [HYS.out] at hys
  subst hys
  have hcb : cb = false := by rw [← HCH.out, famL_nil, Bool.false_and]
  subst hcb
  have HI8 := Lib.hid (ints_own (ys := []) HMD.out (by simp) (fun y hy => by simp at hy))
  have HN := Lib.hid famL_nil
  have HM2 := Lib.hid (HMD.out.base (B' := w.heap.size) (by omega))
  clear h0 h1 h2 h3
  go_enter Tryz.func120, Tryz.ntmps120
  go_wp2_with fail
  clear hw1
  refine (specFamilyOk_val (some ⟨w.heap.size + 1, 0, none⟩) 0 0 (fun j => ([] : List Int).getD j 0) false _ HN.out HI8.out).mono ?_
  rintro e w9 ⟨rfl, hd9⟩
  have HOE := Lib.hid (HM2.out.kept hd9.below)
  have HBE := Lib.hid (below_onto HQ3.out hd9.below)
  clear hd9
  go_wp2_with fail
  go_ret2
  exact ⟨_, _, by first | rfl | trivial, HOE.out, HBE.out⟩
set_option maxRecDepth 100000 in
theorem l12Made_points (a : Option Addr) (c : Nat) (xs : List Int)  (hf : famL xs = true) (w : World) (h : Ints w a xs.length (fun j => xs.getD j 0)) :
    Calls Tryz.prog 120 #[.slice a xs.length c, .agg #[.int .i64 2, .int .i64 0]] w (MadeEnd (mdS xs (2) (0)) (chB xs (2) (0)) w) := by
  have hq := alloc_below w (.cells #[.int .i64 (2), .int .i64 (0)] 39)
  have hb2 := Blk2.new w 39 (.int .i64 (2)) (.int .i64 (0))
  have hal := alloc_below (w.alloc (.cells #[.int .i64 (2), .int .i64 (0)] 39)) (.cells #[] 3)
  have hmd : OwnX ((w.alloc (.cells #[.int .i64 (2), .int .i64 (0)] 39)).alloc (.cells #[] 3)) (w.alloc (.cells #[.int .i64 (2), .int .i64 (0)] 39)).heap.size 3 (.slice (some ⟨(w.alloc (.cells #[.int .i64 (2), .int .i64 (0)] 39)).heap.size, 0, none⟩) 0 0) [] := OwnX.made _ _ (Nat.le_refl _) _
  rw [alloc_size] at hmd
  have hb3 := hb2.kept hal hb2.lt
  have hq3 := below_onto hq hal
  have hi3 := h.below hq3 (Nat.le_refl _)
  have hsz : ((w.alloc (.cells #[.int .i64 (2), .int .i64 (0)] 39)).alloc (.cells #[] 3)).heap.size = w.heap.size + 2 := by rw [alloc_size, alloc_size]
  obtain ⟨w1, hw1⟩ : ∃ w1, (w.alloc (.cells #[.int .i64 (2), .int .i64 (0)] 39)).alloc (.cells #[] 3) = w1 := ⟨_, rfl⟩
  rw [hw1] at hmd hb3 hq3 hi3 hsz
  have HB3 := Lib.hid hb3; have HQ3 := Lib.hid hq3; have HI3 := Lib.hid hi3; have HMD := Lib.hid hmd; have HF := Lib.hid hf
  have hlen := famL_len hf
  have HSZ := Lib.hid hsz
  have hc0 := hb3.cell.1; have hc1 := hb3.cell.2
  have HOKS := Lib.hid (ms_ok (k := 2) (x := 0) hf (by unfold I64; omega))
  have HCH := Lib.hid (ms_ch (k := 2) (x := 0) hf)
  obtain ⟨cb, hcb⟩ : ∃ cb, chB xs (2) (0) = cb := ⟨_, rfl⟩
  rw [hcb] at HCH ⊢
  obtain ⟨ys, hys⟩ : ∃ ys, mdS xs (2) (0) = ys := ⟨_, rfl⟩
  rw [hys] at HCH HOKS ⊢
  have HYS := Lib.hid hys
  have HOK := HOKS
  have HIH := Lib.hid h
  clear h hq hb2 hal hmd hb3 hq3 hi3 hsz hf hcb hys HOKS
  have hk2 := fun W => eqDeedV_val 2 0 2 0 true rfl W
  go_enter Tryz.func120, Tryz.ntmps120
  go_wp2_with fail
  clear hw1
  refine (specWithPoints_any a xs.length c (fun j => xs.getD j 0) _ HI3.out).mono ?_
  rintro e w6 ⟨v, rfl, hown, hb⟩
  have hys2 : doneL xs.length (fun i => xs.getD i 0) (FP (memS xs.length (fun i => xs.getD i 0))) = ys := HYS.out
  rw [hys2] at hown
  have hown := hown.base (B' := w.heap.size) HQ3.out.size
  obtain ⟨ga, gc, rfl⟩ := hown.slice
  have HOW := Lib.hid hown
  have HBW := Lib.hid (below_onto HQ3.out hb)
  clear hown hb hys2
  have HI8 := Lib.hid (ints_own HOW.out (by have := HOK.out.1; omega) HOK.out.2)
  cases hfy : famL ys with
  | false =>
    have hcb : cb = false := by rw [← HCH.out, hfy, Bool.false_and]
    have HFY := Lib.hid hfy
    subst hcb
    clear hfy
    go_wp2_with fail
    refine (specFamilyOk_val ga ys.length gc (fun j => ys.getD j 0) false _ HFY.out HI8.out).mono ?_
    rintro e w9 ⟨rfl, hd9⟩
    have HOE := Lib.hid (HOW.out.kept hd9.below)
    have HBE := Lib.hid (below_onto HBW.out hd9.below)
    clear hd9
    go_wp2_with fail
    go_ret2
    exact ⟨_, _, by first | rfl | trivial, HOE.out, HBE.out⟩
  | true =>
    have HFY := Lib.hid hfy
    by_cases hln : ys.length = xs.length
    · have hcb : cb = false := by rw [← HCH.out, hfy, decide_eq_false (fun h => h hln), Bool.and_false]
      have hne : ((ys.length : Int) != (xs.length : Int)) = false := by rw [hln]; simp
      subst hcb
      have HLN := Lib.hid hln
      clear hfy hln
      go_wp2_with fail
      refine (specFamilyOk_val ga ys.length gc (fun j => ys.getD j 0) true _ HFY.out HI8.out).mono ?_
      rintro e w9 ⟨rfl, hd9⟩
      have HOE := Lib.hid (HOW.out.kept hd9.below)
      have HBE := Lib.hid (below_onto HBW.out hd9.below)
      clear hd9
      go_wp2_with fail
      go_ret2
      exact ⟨_, _, by first | rfl | trivial, HOE.out, HBE.out⟩
    · have hcb : cb = true := by rw [← HCH.out, hfy, decide_eq_true hln]; rfl
      have hne : ((ys.length : Int) != (xs.length : Int)) = true := by simp; omega
      subst hcb
      clear hfy hln
      go_wp2_with fail
      refine (specFamilyOk_val ga ys.length gc (fun j => ys.getD j 0) true _ HFY.out HI8.out).mono ?_
      rintro e w9 ⟨rfl, hd9⟩
      have HOE := Lib.hid (HOW.out.kept hd9.below)
      have HBE := Lib.hid (below_onto HBW.out hd9.below)
      clear hd9
      go_wp2_with fail
      go_ret2
      exact ⟨_, _, by first | rfl | trivial, HOE.out, HBE.out⟩
set_option maxRecDepth 100000 in
theorem l12Made_sums (a : Option Addr) (c : Nat) (xs : List Int)  (hf : famL xs = true) (w : World) (h : Ints w a xs.length (fun j => xs.getD j 0)) :
    Calls Tryz.prog 120 #[.slice a xs.length c, .agg #[.int .i64 3, .int .i64 0]] w (MadeEnd (mdS xs (3) (0)) (chB xs (3) (0)) w) := by
  have hq := alloc_below w (.cells #[.int .i64 (3), .int .i64 (0)] 39)
  have hb2 := Blk2.new w 39 (.int .i64 (3)) (.int .i64 (0))
  have hal := alloc_below (w.alloc (.cells #[.int .i64 (3), .int .i64 (0)] 39)) (.cells #[] 3)
  have hmd : OwnX ((w.alloc (.cells #[.int .i64 (3), .int .i64 (0)] 39)).alloc (.cells #[] 3)) (w.alloc (.cells #[.int .i64 (3), .int .i64 (0)] 39)).heap.size 3 (.slice (some ⟨(w.alloc (.cells #[.int .i64 (3), .int .i64 (0)] 39)).heap.size, 0, none⟩) 0 0) [] := OwnX.made _ _ (Nat.le_refl _) _
  rw [alloc_size] at hmd
  have hb3 := hb2.kept hal hb2.lt
  have hq3 := below_onto hq hal
  have hi3 := h.below hq3 (Nat.le_refl _)
  have hsz : ((w.alloc (.cells #[.int .i64 (3), .int .i64 (0)] 39)).alloc (.cells #[] 3)).heap.size = w.heap.size + 2 := by rw [alloc_size, alloc_size]
  obtain ⟨w1, hw1⟩ : ∃ w1, (w.alloc (.cells #[.int .i64 (3), .int .i64 (0)] 39)).alloc (.cells #[] 3) = w1 := ⟨_, rfl⟩
  rw [hw1] at hmd hb3 hq3 hi3 hsz
  have HB3 := Lib.hid hb3; have HQ3 := Lib.hid hq3; have HI3 := Lib.hid hi3; have HMD := Lib.hid hmd; have HF := Lib.hid hf
  have hlen := famL_len hf
  have HSZ := Lib.hid hsz
  have hc0 := hb3.cell.1; have hc1 := hb3.cell.2
  have HOKS := Lib.hid (ms_ok (k := 3) (x := 0) hf (by unfold I64; omega))
  have HCH := Lib.hid (ms_ch (k := 3) (x := 0) hf)
  obtain ⟨cb, hcb⟩ : ∃ cb, chB xs (3) (0) = cb := ⟨_, rfl⟩
  rw [hcb] at HCH ⊢
  obtain ⟨ys, hys⟩ : ∃ ys, mdS xs (3) (0) = ys := ⟨_, rfl⟩
  rw [hys] at HCH HOKS ⊢
  have HYS := Lib.hid hys
  have HOK := HOKS
  have HIH := Lib.hid h
  clear h hq hb2 hal hmd hb3 hq3 hi3 hsz hf hcb hys HOKS
  have hk2 := fun W => eqDeedV_val 3 0 2 0 false rfl W
  have hk3 := fun W => eqDeedV_val 3 0 3 0 true rfl W
  go_enter Tryz.func120, Tryz.ntmps120
  go_wp2_with fail
  clear hw1
  refine (specWithSums_any a xs.length c (fun j => xs.getD j 0) _ HI3.out).mono ?_
  rintro e w6 ⟨v, rfl, hown, hb⟩
  have hys2 : doneL xs.length (fun i => xs.getD i 0) (FS xs.length (fun i => xs.getD i 0)) = ys := HYS.out
  rw [hys2] at hown
  have hown := hown.base (B' := w.heap.size) HQ3.out.size
  obtain ⟨ga, gc, rfl⟩ := hown.slice
  have HOW := Lib.hid hown
  have HBW := Lib.hid (below_onto HQ3.out hb)
  clear hown hb hys2
  have HI8 := Lib.hid (ints_own HOW.out (by have := HOK.out.1; omega) HOK.out.2)
  cases hfy : famL ys with
  | false =>
    have hcb : cb = false := by rw [← HCH.out, hfy, Bool.false_and]
    have HFY := Lib.hid hfy
    subst hcb
    clear hfy
    go_wp2_with fail
    refine (specFamilyOk_val ga ys.length gc (fun j => ys.getD j 0) false _ HFY.out HI8.out).mono ?_
    rintro e w9 ⟨rfl, hd9⟩
    have HOE := Lib.hid (HOW.out.kept hd9.below)
    have HBE := Lib.hid (below_onto HBW.out hd9.below)
    clear hd9
    go_wp2_with fail
    go_ret2
    exact ⟨_, _, by first | rfl | trivial, HOE.out, HBE.out⟩
  | true =>
    have HFY := Lib.hid hfy
    by_cases hln : ys.length = xs.length
    · have hcb : cb = false := by rw [← HCH.out, hfy, decide_eq_false (fun h => h hln), Bool.and_false]
      have hne : ((ys.length : Int) != (xs.length : Int)) = false := by rw [hln]; simp
      subst hcb
      have HLN := Lib.hid hln
      clear hfy hln
      go_wp2_with fail
      refine (specFamilyOk_val ga ys.length gc (fun j => ys.getD j 0) true _ HFY.out HI8.out).mono ?_
      rintro e w9 ⟨rfl, hd9⟩
      have HOE := Lib.hid (HOW.out.kept hd9.below)
      have HBE := Lib.hid (below_onto HBW.out hd9.below)
      clear hd9
      go_wp2_with fail
      go_ret2
      exact ⟨_, _, by first | rfl | trivial, HOE.out, HBE.out⟩
    · have hcb : cb = true := by rw [← HCH.out, hfy, decide_eq_true hln]; rfl
      have hne : ((ys.length : Int) != (xs.length : Int)) = true := by simp; omega
      subst hcb
      clear hfy hln
      go_wp2_with fail
      refine (specFamilyOk_val ga ys.length gc (fun j => ys.getD j 0) true _ HFY.out HI8.out).mono ?_
      rintro e w9 ⟨rfl, hd9⟩
      have HOE := Lib.hid (HOW.out.kept hd9.below)
      have HBE := Lib.hid (below_onto HBW.out hd9.below)
      clear hd9
      go_wp2_with fail
      go_ret2
      exact ⟨_, _, by first | rfl | trivial, HOE.out, HBE.out⟩
set_option maxRecDepth 100000 in
theorem l12Made_take (a : Option Addr) (c : Nat) (xs : List Int) (x : Int) (hx : I64 x) (hf : famL xs = true) (w : World) (h : Ints w a xs.length (fun j => xs.getD j 0)) :
    Calls Tryz.prog 120 #[.slice a xs.length c, .agg #[.int .i64 1, .int .i64 x]] w (MadeEnd (mdS xs (1) (x)) (chB xs (1) (x)) w) := by
  have hq := alloc_below w (.cells #[.int .i64 (1), .int .i64 (x)] 39)
  have hb2 := Blk2.new w 39 (.int .i64 (1)) (.int .i64 (x))
  have hal := alloc_below (w.alloc (.cells #[.int .i64 (1), .int .i64 (x)] 39)) (.cells #[] 3)
  have hmd : OwnX ((w.alloc (.cells #[.int .i64 (1), .int .i64 (x)] 39)).alloc (.cells #[] 3)) (w.alloc (.cells #[.int .i64 (1), .int .i64 (x)] 39)).heap.size 3 (.slice (some ⟨(w.alloc (.cells #[.int .i64 (1), .int .i64 (x)] 39)).heap.size, 0, none⟩) 0 0) [] := OwnX.made _ _ (Nat.le_refl _) _
  rw [alloc_size] at hmd
  have hb3 := hb2.kept hal hb2.lt
  have hq3 := below_onto hq hal
  have hi3 := h.below hq3 (Nat.le_refl _)
  have hsz : ((w.alloc (.cells #[.int .i64 (1), .int .i64 (x)] 39)).alloc (.cells #[] 3)).heap.size = w.heap.size + 2 := by rw [alloc_size, alloc_size]
  obtain ⟨w1, hw1⟩ : ∃ w1, (w.alloc (.cells #[.int .i64 (1), .int .i64 (x)] 39)).alloc (.cells #[] 3) = w1 := ⟨_, rfl⟩
  rw [hw1] at hmd hb3 hq3 hi3 hsz
  have HB3 := Lib.hid hb3; have HQ3 := Lib.hid hq3; have HI3 := Lib.hid hi3; have HMD := Lib.hid hmd; have HF := Lib.hid hf
  have hlen := famL_len hf
  have HSZ := Lib.hid hsz
  have hc0 := hb3.cell.1; have hc1 := hb3.cell.2
  have HOKS := Lib.hid (ms_ok (k := 1) (x := x) hf hx)
  have HCH := Lib.hid (ms_ch (k := 1) (x := x) hf)
  obtain ⟨cb, hcb⟩ : ∃ cb, chB xs (1) (x) = cb := ⟨_, rfl⟩
  rw [hcb] at HCH ⊢
  obtain ⟨ys, hys⟩ : ∃ ys, mdS xs (1) (x) = ys := ⟨_, rfl⟩
  rw [hys] at HCH HOKS ⊢
  have HYS := Lib.hid hys
  have HOK := HOKS
  have HIH := Lib.hid h
  clear h hq hb2 hal hmd hb3 hq3 hi3 hsz hf hcb hys HOKS
  obtain ⟨i0, hi0, hz0, hz1, hz2⟩ := info_parts Tryz.infoInt
  have HM2 := Lib.hid (HMD.out.base (B' := w.heap.size + 1) (Nat.le_refl _))
  have HST : Hid (TakeS xs x w w1 0 (.slice (some ⟨w.heap.size + 1, 0, none⟩) 0 0) w1) := Lib.hid ⟨HM2.out, Below.refl _ _⟩
  obtain ⟨q, p, rfl, hql, hrow⟩ := HIH.out.row hlen.1
  have HRW := Lib.hid (fun W (hW : Below w.heap.size w W) => hrow.below hW hql)
  have HML := Lib.hid (show ∀ k, ((xs.take k).filter (fun y => y != x)).length ≤ 7 from fun k => Nat.le_trans (List.length_filter_le _ _) (by rw [List.length_take]; omega))
  obtain ⟨n, hn⟩ : ∃ n, xs.length = n := ⟨_, rfl⟩
  have HN := Lib.hid hn
  rw [hn] at HRW ⊢
  have hn7 : 1 ≤ n ∧ n ≤ 7 := by omega
  clear hrow hql HM2 hlen
  go_enter Tryz.func120, Tryz.ntmps120
  go_wp2_with fail
  clear hw1 hc0 hc1 hn
  go_loopw [6, 7] (fun v i wr => ∃ k : Nat, k ≤ n ∧ i = .int .i64 k ∧ Hid (TakeS xs x w w1 k v wr)) (fun _ i _ => n - (intOf i).toNat)
  case atStart => exact ⟨0, Nat.zero_le _, rfl, HST⟩
  case round =>
    clear HST
    obtain ⟨k, hk, rfl, HS⟩ := hrel
    obtain ⟨va, vc, hv⟩ := HS.out.own.slice
    subst hv
    have HBW := Lib.hid (HQ3.out.trans (HS.out.bel.mono (by omega)))
    by_cases hlt : k < n
    · have hki : (k : Int) < (n : Int) := by omega
      have hk0 : (0 : Int) ≤ (k : Int) := by omega
      have hkl : k < xs.length := by rw [HN.out]; exact hlt
      have hc := (HRW.out wr HBW.out) k hlt
      have hE : Blk2 wr w.heap.size 39 (.int .i64 1) (.int .i64 x) := (HS.out.bel.block w.heap.size (by omega)).trans HB3.out
      have he1 := hE.cell.2
      have hfi := filt_in (x := x) hkl
      have hfo := filt_out (x := x) hkl
      obtain ⟨y, hy⟩ : ∃ y, xs.getD k 0 = y := ⟨_, rfl⟩
      dsimp only at hc
      rw [hy] at hc hfi hfo
      clear hE hkl hy
      cases hb : (y != x) with
      | true =>
        have HFI := Lib.hid (hfi hb)
        have hb2 : (y == x) = false := by simpa using hb
        have k1 := Lib.hid (fun (W : World) (j : Nat) (u : Value) (h : [Value.int .i64 y][j]? = some u) => cell_one_new W (.int .i64 y) 3 j u h)
        have k2 : Hid (∀ u ∈ [Value.int .i64 y], u.oneCell' = true) := Lib.hid (by intro u hu; simp at hu; subst hu; rfl)
        have k3 := Lib.hid (show ((xs.take k).filter (fun y => y != x)).length + 1 ≤ maxLen by have := HML.out k; unfold maxLen; omega)
        have k4 := Lib.hid (show (((xs.take k).filter (fun y => y != x)).length + 1) * 8 ≤ 140737488355328 by have := HML.out k; omega)
        have HOM := Lib.hid (fun W (hW : Below wr.heap.size wr W) => HS.out.own.kept hW)
        have HSL := Lib.hid (show w.heap.size + 1 ≤ wr.heap.size by have := HS.out.bel.size; have := HSZ.out; omega)
        clear hfi hfo
        go_wp2_with fail
        go_quiet (fail)
        go_wp2_with (at_builtin; refine wpList_append_own _ rfl (.tmp 37) (.tmp 42) 28 rfl (w.heap.size + 1) 3 i0 (.int .i64 0) 1 8 Tryz.underlying28 hi0 hz0 hz1 hz2 rfl (by decide) _ _ _ rfl ((HOM.out _ (below_drewN (Below.refl _ _) _)).alloc _) ⟨_, 0, none⟩ 1 1 [.int .i64 y] rfl rfl (k1.out _) k2.out k3.out k4.out (Nat.le_trans HSL.out (by rw [alloc_size]; exact Nat.le_succ _)) ?_)
        intro v5 w5 hown5 hgrow5 _
        have hb5 : Below (w.heap.size + 1) w1 w5 := ((below_drewN HS.out.bel _).alloc (HSL.out) _).grown hgrow5 (Nat.le_trans HSL.out (by rw [alloc_size]; exact Nat.le_succ _)) (fun q hq => (HS.out.own.lt hq).1)
        have HST5 : Hid (TakeS xs x w w1 (k + 1) v5 w5) := Lib.hid ⟨by rw [HFI.out]; exact OwnX.snoc hown5, hb5⟩
        clear hown5 hgrow5 hb5 k1 k2 k3 k4 HOM HSL
        go_wp2_with fail
        go_roundw
        case rel => exact ⟨k + 1, by omega, by go_num, HST5⟩
        case measure => simp [intOf]; omega
      | false =>
        have HFO := Lib.hid (hfo hb)
        have hb2 : (y == x) = true := by simpa using hb
        clear hfi hfo
        go_wp2_with fail
        go_quiet (fail)
        go_wp2_with fail
        go_roundw
        case rel => exact ⟨k + 1, by omega, by go_num, Lib.hid ⟨by rw [HFO.out]; exact HS.out.own.kept (by first | exact (Below.refl _ _).drew | exact below_drewN (Below.refl _ _) _), by first | exact HS.out.bel.drew | exact below_drewN HS.out.bel _⟩⟩
        case measure => simp [intOf]; omega
    · have hki : ¬ (k : Int) < (n : Int) := by omega
      have hkn : k = n := by omega
      have hys2 : (xs.take k).filter (fun y => y != x) = ys := by rw [hkn, List.take_of_length_le (by rw [HN.out]; exact Nat.le_refl _)]; exact HYS.out
      have hown := HS.out.own.base (B' := w.heap.size) (by omega)
      rw [hys2] at hown ⊢
      have HOW := Lib.hid hown
      subst hkn
      obtain ⟨ga, hga⟩ : ∃ ga, va = ga := ⟨_, rfl⟩
      obtain ⟨gc, hgc⟩ : ∃ gc, vc = gc := ⟨_, rfl⟩
      rw [hga, hgc] at HOW ⊢
      clear hown hys2 hga hgc HS
      rw [HN.out] at HCH
      have HI8 := Lib.hid (ints_own HOW.out (by have := HOK.out.1; omega) HOK.out.2)
      cases hfy : famL ys with
      | false =>
        have hcb : cb = false := by rw [← HCH.out, hfy, Bool.false_and]
        have HFY := Lib.hid hfy
        subst hcb
        clear hfy
        go_wp2_with fail
        refine (specFamilyOk_val ga ys.length gc (fun j => ys.getD j 0) false _ HFY.out HI8.out).mono ?_
        rintro e w9 ⟨rfl, hd9⟩
        have HOE := Lib.hid (HOW.out.kept hd9.below)
        have HBE := Lib.hid (below_onto HBW.out hd9.below)
        clear hd9
        go_wp2_with fail
        go_ret2
        exact ⟨_, _, by first | rfl | trivial, HOE.out, HBE.out⟩
      | true =>
        have HFY := Lib.hid hfy
        by_cases hln : ys.length = k
        · have hcb : cb = false := by rw [← HCH.out, hfy, decide_eq_false (fun h => h hln), Bool.and_false]
          have hne : ((ys.length : Int) != (k : Int)) = false := by rw [hln]; simp
          subst hcb
          have HLN := Lib.hid hln
          clear hfy hln
          go_wp2_with fail
          refine (specFamilyOk_val ga ys.length gc (fun j => ys.getD j 0) true _ HFY.out HI8.out).mono ?_
          rintro e w9 ⟨rfl, hd9⟩
          have HOE := Lib.hid (HOW.out.kept hd9.below)
          have HBE := Lib.hid (below_onto HBW.out hd9.below)
          clear hd9
          go_wp2_with fail
          go_ret2
          exact ⟨_, _, by first | rfl | trivial, HOE.out, HBE.out⟩
        · have hcb : cb = true := by rw [← HCH.out, hfy, decide_eq_true hln]; rfl
          have hne : ((ys.length : Int) != (k : Int)) = true := by simp; omega
          subst hcb
          clear hfy hln
          go_wp2_with fail
          refine (specFamilyOk_val ga ys.length gc (fun j => ys.getD j 0) true _ HFY.out HI8.out).mono ?_
          rintro e w9 ⟨rfl, hd9⟩
          have HOE := Lib.hid (HOW.out.kept hd9.below)
          have HBE := Lib.hid (below_onto HBW.out hd9.below)
          clear hd9
          go_wp2_with fail
          go_ret2
          exact ⟨_, _, by first | rfl | trivial, HOE.out, HBE.out⟩
structure Start3 (w : World) (X Y : Value) (k x : Int) (w3 : World) : Prop where
  d : Blk2 w3 w.heap.size 31 X Y
  e : Blk2 w3 (w.heap.size + 1) 39 (.int .i64 k) (.int .i64 x)
  r : Blk2 w3 (w.heap.size + 1 + 1) 31 (.slice none 0 0) (.slice none 0 0)
  size : w3.heap.size = w.heap.size + 3
  bel : Below w.heap.size w w3
theorem start3 (w : World) (X Y : Value) (k x : Int) : Start3 w X Y k x (((w.alloc (.cells #[X, Y] 31)).alloc (.cells #[.int .i64 k, .int .i64 x] 39)).alloc (.cells #[.slice none 0 0, .slice none 0 0] 31)) := by
  have q1 := alloc_below w (.cells #[X, Y] 31)
  have q2 := alloc_below (w.alloc (.cells #[X, Y] 31)) (.cells #[.int .i64 k, .int .i64 x] 39)
  have q3 := alloc_below ((w.alloc (.cells #[X, Y] 31)).alloc (.cells #[.int .i64 k, .int .i64 x] 39)) (.cells #[.slice none 0 0, .slice none 0 0] 31)
  have b1' := (Blk2.new w 31 X Y).kept q2 (by rw [alloc_size]; omega)
  have b2' := (Blk2.new (w.alloc (.cells #[X, Y] 31)) 39 (.int .i64 k) (.int .i64 x))
  have b3 := Blk2.new ((w.alloc (.cells #[X, Y] 31)).alloc (.cells #[.int .i64 k, .int .i64 x] 39)) 31 (.slice none 0 0) (.slice none 0 0)
  have b2 := b2'.kept q3 b2'.lt
  rw [alloc_size] at b2
  rw [alloc_size, alloc_size] at b3
  exact ⟨b1'.kept q3 b1'.lt, b2, b3, by rw [alloc_size, alloc_size, alloc_size], below_onto q1 (below_onto q2 q3)⟩
theorem deedT_empX {k x : Int} {v : Bool} (h : dOk k x = v) : (deedT k x).toList.isEmpty = !v := by
  unfold deedT
  rw [bs_list]
  cases v with
  | false => rw [deedL_no h]; rfl
  | true =>
    cases hl : deedL k x with
    | nil => rw [deedL_iff.1 hl] at h; cases h
    | cons _ _ => rfl
theorem GivesD.on {xs : List Int} {L : List (List Int)} {w w5 w6 : World} {R : Nat} {v1 v2 : Value} (hg : GivesD xs L w5 w6 v1 v2) (hb : Below w.heap.size w w5) (hR : w.heap.size ≤ R) (hl : R < w5.heap.size) :
    GivesD xs L w ((w6.setCell ⟨R, 0, none⟩ v1).setCell ⟨R, 1, none⟩ v2) v1 v2 := by
  obtain ⟨rs, hdg, hrs, hb2⟩ := hg
  exact ⟨rs, ((hdg.put (p := ⟨R, 0, none⟩) hl).put (p := ⟨R, 1, none⟩) hl).base hb.size, hrs, ((below_onto hb hb2).setCell (p := ⟨R, 0, none⟩) hR _).setCell (p := ⟨R, 1, none⟩) hR _⟩
set_option maxRecDepth 100000 in
theorem DeskDo_any (d : Value) (xs : List Int) (L : List (List Int)) (k x : Int) (hx : I64 x) (w : World) (h : DeskR w d xs L) :
    Calls Tryz.prog 54 #[d, .agg #[.int .i64 k, .int .i64 x]] w (DoneD (dkB xs L k x) (dkX xs L k x) (dkL xs L k x) w) := by
  have hdd := h
  obtain ⟨a, c, b, c2, rfl, _⟩ := h.parts
  have hst := start3 w (.slice a xs.length c) (.slice b L.length c2) k x
  have hdr := hdd.kept hst.bel
  obtain ⟨w3, hw3⟩ : ∃ w3, ((w.alloc (.cells #[.slice a xs.length c, .slice b L.length c2] 31)).alloc (.cells #[.int .i64 k, .int .i64 x] 39)).alloc (.cells #[.slice none 0 0, .slice none 0 0] 31) = w3 := ⟨_, rfl⟩
  rw [hw3] at hst hdr
  have HST := Lib.hid hst; have HDR := Lib.hid hdr; have HX := Lib.hid hx
  have HKD := Lib.hid (show ∀ W, Below w3.heap.size w3 W → (Blk2 W w.heap.size 31 (.slice a xs.length c) (.slice b L.length c2) ∧ Blk2 W (w.heap.size + 1) 39 (.int .i64 k) (.int .i64 x) ∧ Blk2 W (w.heap.size + 1 + 1) 31 (.slice none 0 0) (.slice none 0 0)) from
    fun W hW => ⟨hst.d.kept hW hst.d.lt, hst.e.kept hW hst.e.lt, hst.r.kept hW hst.r.lt⟩)
  have HZ := Lib.hid (show w.heap.size + 1 + 1 < w3.heap.size by have := hst.size; omega)
  have hd0 := hst.d.cell.1; have hd1 := hst.d.cell.2
  clear h hdd hst hdr hx
  cases hdk : deskB xs L with
  | false =>
    obtain ⟨e1, e2, e3⟩ := dk_none (k := k) (x := x) hdk
    rw [e1, e2, e3]
    have HDK := Lib.hid hdk
    clear e1 e2 e3 hdk
    go_enter Tryz.func54, Tryz.ntmps54
    go_wp2_with fail
    refine (DeskOk_any _ xs L _ HDR.out).mono ?_
    rintro e w4 ⟨rfl, hb4⟩
    rw [HDK.out]
    obtain ⟨hD, hE, hR⟩ := HKD.out _ hb4
    have hx0 := hR.cell.1; have hx1 := hR.cell.2; have hx2 := hR.frozen 0; have hx3 := hR.frozen 1
    have HR := Lib.hid hR; have HB := Lib.hid (below_onto HST.out.bel hb4)
    clear hb4 hD hE hR hd0 hd1
    go_wp2_with fail
    refine bodyPost_ret (results_desk rfl _ _ (w.heap.size + 1 + 1) ((HR.out.set0 (.slice none 0 0)).set1 (.slice none 0 0)) rfl rfl (by kernel_rfl)) rfl ?_
    exact ⟨_, _, rfl, noDesk_gives ((HB.out.setCell (p := ⟨w.heap.size + 1 + 1, 0, none⟩) (show w.heap.size ≤ w.heap.size + 1 + 1 by omega) _).setCell (p := ⟨w.heap.size + 1 + 1, 1, none⟩) (show w.heap.size ≤ w.heap.size + 1 + 1 by omega) _)⟩
  | true =>
    have HDK := Lib.hid hdk
    cases hok : dOk k x with
    | false =>
      have hno := dkB_text (xs := xs) (L := L) hok
      obtain ⟨e2, e3⟩ := dk_no hno hdk
      rw [hno, e2, e3]
      have hem := deedT_empX hok
      have HOK := Lib.hid hok
      clear hno e2 e3 hdk hok
      go_enter Tryz.func54, Tryz.ntmps54
      go_wp2_with fail
      refine (DeskOk_any _ xs L _ HDR.out).mono ?_
      rintro e w4 ⟨rfl, hb4⟩
      rw [HDK.out]
      obtain ⟨hD, hE, hR⟩ := HKD.out _ hb4
      have HB4 := Lib.hid hb4
      have he0 := hE.cell.1; have he1 := hE.cell.2
      clear hb4 hD hE hR hd0 hd1
      go_wp2_with fail
      refine (DeedText_any k x _).mono ?_
      rintro e w5 ⟨rfl, hb5⟩
      have HB5 := Lib.hid (below_onto HB4.out hb5)
      obtain ⟨hD, hE, hR⟩ := HKD.out _ HB5.out
      have hf0 := hD.cell.1; have hf1 := hD.cell.2
      clear hb5 hD hE hR he0 he1
      go_wp2_with fail
      refine (copied_any _ xs L HDK.out _ (HDR.out.kept HB5.out)).mono ?_
      rintro e w6 ⟨v1, v2, rfl, hg6⟩
      obtain ⟨p1, e1, rfl⟩ := hg6.one
      obtain ⟨p2, e2, rfl⟩ := hg6.two
      obtain ⟨hD, hE, hR⟩ := HKD.out _ (below_onto HB5.out hg6.below)
      have hx0 := hR.cell.1; have hx1 := hR.cell.2; have hx2 := hR.frozen 0; have hx3 := hR.frozen 1
      have HR := Lib.hid hR
      have HG := Lib.hid (hg6.on (R := w.heap.size + 1 + 1) (below_onto HST.out.bel HB5.out) (by omega) (Nat.lt_of_lt_of_le HZ.out HB5.out.size))
      clear hg6 hD hE hR hf0 hf1
      go_wp2_with fail
      refine bodyPost_ret (results_desk rfl _ _ (w.heap.size + 1 + 1) ((HR.out.set0 (.slice p1 xs.length e1)).set1 (.slice p2 L.length e2)) rfl rfl (by kernel_rfl)) rfl ?_
      exact ⟨_, _, rfl, HG.out⟩
    | true =>
      have hem := deedT_empX hok
      have HOK := Lib.hid hok
      have hrg := dOk_iff.1 hok
      by_cases hk4 : k = 4
      · have hx0 : x = 0 := by omega
        subst hk4
        subst hx0
        have hb := dkB_back (xs := xs) (L := L) hdk
        have e2 : dkX xs L 4 0 = if L ≠ [] then L.getLastD [] else xs := by
          by_cases hL : L = []
          · have hn : dkB xs L 4 0 = false := by rw [hb]; exact decide_eq_false (fun h => h hL)
            rw [if_neg (fun h => h hL)]; exact (dk_no hn hdk).1
          · rw [if_pos hL]; exact (dk_back hdk hL).1
        have e3 : dkL xs L 4 0 = if L ≠ [] then L.dropLast else L := by
          by_cases hL : L = []
          · have hn : dkB xs L 4 0 = false := by rw [hb]; exact decide_eq_false (fun h => h hL)
            rw [if_neg (fun h => h hL)]; exact (dk_no hn hdk).2
          · rw [if_pos hL]; exact (dk_back hdk hL).2
        obtain ⟨ok, hokv⟩ : ∃ ok, dkB xs L 4 0 = ok := ⟨_, rfl⟩
        obtain ⟨ys, hys⟩ : ∃ ys, dkX xs L 4 0 = ys := ⟨_, rfl⟩
        obtain ⟨M, hM⟩ : ∃ M, dkL xs L 4 0 = M := ⟨_, rfl⟩
        have HBK := Lib.hid (fun (W : World) (hW : DeskR W (.agg #[.slice a xs.length c, .slice b L.length c2]) xs L) => (show Calls Tryz.prog 115 #[.agg #[.slice a xs.length c, .slice b L.length c2]] W (DoneD ok ys M W) from by
          have := back_any _ xs L hdk W hW
          rw [← hb, ← e2, ← e3, hokv, hys, hM] at this; exact this))
        rw [hokv, hys, hM]
        clear hb e2 e3 hokv hys hM hdk hok hrg
        go_enter Tryz.func54, Tryz.ntmps54
        go_wp2_with fail
        refine (DeskOk_any _ xs L _ HDR.out).mono ?_
        rintro e w4 ⟨rfl, hb4⟩
        rw [HDK.out]
        obtain ⟨hD, hE, hR⟩ := HKD.out _ hb4
        have HB4 := Lib.hid hb4
        have he0 := hE.cell.1; have he1 := hE.cell.2
        clear hb4 hD hE hR hd0 hd1
        go_wp2_with fail
        refine (DeedText_any 4 0 _).mono ?_
        rintro e w5 ⟨rfl, hb5⟩
        have HB5 := Lib.hid (below_onto HB4.out hb5)
        obtain ⟨hD, hE, hR⟩ := HKD.out _ HB5.out
        have hf0 := hD.cell.1; have hf1 := hD.cell.2; have hf2 := hE.cell.1
        clear hb5 hD hE hR he0 he1
        go_wp2_with fail
        refine (HBK.out _ (HDR.out.kept HB5.out)).mono ?_
        rintro e w6 ⟨v1, v2, rfl, hg6⟩
        obtain ⟨p1, e1, rfl⟩ := hg6.one
        obtain ⟨p2, e2, rfl⟩ := hg6.two
        obtain ⟨hD, hE, hR⟩ := HKD.out _ (below_onto HB5.out hg6.below)
        have hx0 := hR.cell.1; have hx1 := hR.cell.2; have hx2 := hR.frozen 0; have hx3 := hR.frozen 1
        have HR := Lib.hid hR
        have HG := Lib.hid (hg6.on (R := w.heap.size + 1 + 1) (below_onto HST.out.bel HB5.out) (by omega) (Nat.lt_of_lt_of_le HZ.out HB5.out.size))
        clear hg6 hD hE hR hf0 hf1 hf2
        go_wp2_with fail
        refine bodyPost_ret (results_desk rfl _ _ (w.heap.size + 1 + 1) ((HR.out.set0 (.slice p1 ys.length e1)).set1 (.slice p2 M.length e2)) rfl rfl (by kernel_rfl)) rfl ?_
        exact ⟨_, _, rfl, HG.out⟩
      · have hb := dkB_ch (x := x) hdk hk4
        have e2 : dkX xs L k x = if chB xs k x then mdL xs k x else xs := by
          cases hc : chB xs k x with
          | false => rw [hc] at hb; exact (dk_no hb hdk).1
          | true => exact (dk_ch hdk hk4 hc).1
        have e3 : dkL xs L k x = if chB xs k x then (L ++ [xs]).drop (L.length - 7) else L := by
          cases hc : chB xs k x with
          | false => rw [hc] at hb; exact (dk_no hb hdk).2
          | true => exact (dk_ch hdk hk4 hc).2
        have hk03 : 0 ≤ k ∧ k ≤ 3 := by omega
        have hkb : (k == 4) = false := by simpa using hk4
        obtain ⟨ok, hokv⟩ : ∃ ok, dkB xs L k x = ok := ⟨_, rfl⟩
        obtain ⟨ys, hys⟩ : ∃ ys, dkX xs L k x = ys := ⟨_, rfl⟩
        obtain ⟨M, hM⟩ : ∃ M, dkL xs L k x = M := ⟨_, rfl⟩
        have HBK := Lib.hid (fun (W : World) (hW : DeskR W (.agg #[.slice a xs.length c, .slice b L.length c2]) xs L) => (show Calls Tryz.prog 116 #[.agg #[.slice a xs.length c, .slice b L.length c2], .agg #[.int .i64 k, .int .i64 x]] W (DoneD ok ys M W) from by
          have := changed_any _ xs L k x hdk hk03 hok HX.out W hW
          rw [← e2, ← e3, ← hb, hokv, hys, hM] at this; exact this))
        rw [hokv, hys, hM]
        clear hb e2 e3 hokv hys hM hdk hok hrg hk4 hk03
        go_enter Tryz.func54, Tryz.ntmps54
        go_wp2_with fail
        refine (DeskOk_any _ xs L _ HDR.out).mono ?_
        rintro e w4 ⟨rfl, hb4⟩
        rw [HDK.out]
        obtain ⟨hD, hE, hR⟩ := HKD.out _ hb4
        have HB4 := Lib.hid hb4
        have he0 := hE.cell.1; have he1 := hE.cell.2
        clear hb4 hD hE hR hd0 hd1
        go_wp2_with fail
        refine (DeedText_any k x _).mono ?_
        rintro e w5 ⟨rfl, hb5⟩
        have HB5 := Lib.hid (below_onto HB4.out hb5)
        obtain ⟨hD, hE, hR⟩ := HKD.out _ HB5.out
        have hf0 := hD.cell.1; have hf1 := hD.cell.2; have hf2 := hE.cell.1; have hf3 := hE.cell.2
        clear hb5 hD hE hR he0 he1
        go_wp2_with fail
        refine (HBK.out _ (HDR.out.kept HB5.out)).mono ?_
        rintro e w6 ⟨v1, v2, rfl, hg6⟩
        obtain ⟨p1, e1, rfl⟩ := hg6.one
        obtain ⟨p2, e2, rfl⟩ := hg6.two
        obtain ⟨hD, hE, hR⟩ := HKD.out _ (below_onto HB5.out hg6.below)
        have hx0 := hR.cell.1; have hx1 := hR.cell.2; have hx2 := hR.frozen 0; have hx3 := hR.frozen 1
        have HR := Lib.hid hR
        have HG := Lib.hid (hg6.on (R := w.heap.size + 1 + 1) (below_onto HST.out.bel HB5.out) (by omega) (Nat.lt_of_lt_of_le HZ.out HB5.out.size))
        clear hg6 hD hE hR hf0 hf1 hf2 hf3
        go_wp2_with fail
        refine bodyPost_ret (results_desk rfl _ _ (w.heap.size + 1 + 1) ((HR.out.set0 (.slice p1 ys.length e1)).set1 (.slice p2 M.length e2)) rfl rfl (by kernel_rfl)) rfl ?_
        exact ⟨_, _, rfl, HG.out⟩
theorem cell_alX {w : World} {p : Addr} {v : Value} (o : Obj) (h : w.cell? p = some v) : (w.alloc o).cell? p = some v :=
  ((alloc_below w o).cell (World.block_lt_of_cell? w _ h)).trans h
theorem e7_of {w6 w7 wr : World} {O : Nat} {v1 v2 : Value} {rs : List Fr} (h : Blk2 w6 O 31 v1 v2) (hu : Upon (fun q => v2.ownBlock = some q) w6 w7) (ho : FamsO wr (O + 1) v2 rs) : Blk2 w7 O 31 v1 v2 :=
  (hu.block O h.lt (fun e => by have := (ho.fams.ltB O (.inl e)).1; omega)).trans h
set_option maxRecDepth 100000 in
theorem l12Copy_any (d : Value) (xs : List Int) (L : List (List Int)) (hd : deskB xs L = true) (w : World) (h : DeskR w d xs L) :
    Calls Tryz.prog 66 #[d] w (CopyO xs L w) := by
  obtain ⟨a, c, b, c2, rfl, hi, hn⟩ := h.parts
  obtain ⟨i0, hi0, hz0, hz1, hz2⟩ := info_parts Tryz.infoInt
  obtain ⟨hf, h8, hL⟩ := deskB_iff.1 hd
  have hlen := famL_len hf
  obtain ⟨rb, ro, rfl, hrl, hrr⟩ := hi.row hlen.1
  have q1 := alloc_below w (.cells #[.slice (some ⟨rb, ro, none⟩) xs.length c, .slice b L.length c2] 31)
  have q2 := alloc_below (w.alloc (.cells #[.slice (some ⟨rb, ro, none⟩) xs.length c, .slice b L.length c2] 31)) (.cells #[.slice none 0 0, .slice none 0 0] 31)
  have b1 := (Blk2.new w 31 (.slice (some ⟨rb, ro, none⟩) xs.length c) (.slice b L.length c2)).kept q2 (by rw [alloc_size]; omega)
  have b2 := (Blk2.new (w.alloc (.cells #[.slice (some ⟨rb, ro, none⟩) xs.length c, .slice b L.length c2] 31)) 31 (.slice none 0 0) (.slice none 0 0))
  have hz : ((w.alloc (.cells #[.slice (some ⟨rb, ro, none⟩) xs.length c, .slice b L.length c2] 31)).alloc (.cells #[.slice none 0 0, .slice none 0 0] 31)).heap.size = w.heap.size + 2 := by rw [alloc_size, alloc_size]
  rw [alloc_size] at b2
  have hq := below_onto q1 q2
  obtain ⟨n, hnn⟩ : ∃ n, L.length = n := ⟨_, rfl⟩
  rw [hnn] at b1 b2 hz hq h8 ⊢
  have hr1 := hrr.below hq hrl
  have HN := Lib.hid hn; have HF := Lib.hid hf; have HL := Lib.hid hL; have HNN := Lib.hid hnn
  clear h hi hn q1 q2 hd hf hL hnn hrr
  obtain ⟨W0, hW0⟩ : ∃ W0, (w.alloc (.cells #[.slice (some ⟨rb, ro, none⟩) xs.length c, .slice b n c2] 31)).alloc (.cells #[.slice none 0 0, .slice none 0 0] 31) = W0 := ⟨_, rfl⟩
  rw [hW0] at b1 b2 hz hq hr1
  have HW0 := Lib.hid hW0
  clear hW0
  have hrl0 : rb < W0.heap.size := by omega
  have HQ := Lib.hid hq; have HB1 := Lib.hid b1; have HB2 := Lib.hid b2; have HZ := Lib.hid hz
  have HMD := Lib.hid (OwnX.made W0 _ (Nat.le_refl W0.heap.size) 3 : OwnX (W0.alloc (.cells #[] 3)) W0.heap.size 3 (.slice (some ⟨W0.heap.size, 0, none⟩) 0 0) [])
  have HO : Hid ((W0.alloc (.cells #[] 3)).ownsRow W0.heap.size 3 1 (.slice (some ⟨W0.heap.size, 0, none⟩) 0 0) 0 []) := Lib.hid HMD.out
  have k1 := Lib.hid (rowV_cells (hr1.below (alloc_below W0 (.cells #[] 3)) hrl0))
  have k2 := Lib.hid (rowV_one (fun j => xs.getD j 0) xs.length)
  have k3 : Hid (0 + xs.length ≤ maxLen) := Lib.hid (by unfold maxLen; omega)
  have k4 : Hid ((0 + xs.length) * 8 ≤ 140737488355328) := Lib.hid (by omega)
  have k5 : Hid (W0.heap.size ≤ (W0.alloc (.cells #[] 3)).heap.size) := Lib.hid (by rw [alloc_size]; omega)
  have k6 : Hid ((rowV (fun j => xs.getD j 0) xs.length).length = xs.length * 1) := Lib.hid (by rw [rowV_len]; omega)
  have HAB := Lib.hid (alloc_below W0 (.cells #[] 3))
  have HW := Lib.hid (show (W0.alloc (.cells #[] 3)).cell? ⟨w.heap.size, 0, none⟩ = some (.slice (some ⟨rb, ro, none⟩) xs.length c) from (b1.kept (alloc_below W0 _) b1.lt).cell.1)
  clear hr1 hrl0 b1 b2 hz hq
  have hW0 := HW0.out
  have hc0 := HW.out
  go_enter Tryz.func66, Tryz.ntmps66
  go_wp2_with (at_builtin; refine wpList_append_own _ rfl (.tmp 5) (.tmp 7) 28 rfl W0.heap.size 3 i0 (.int .i64 0) 1 8 Tryz.underlying28 hi0 hz0 hz1 hz2 rfl (by decide) _ _ _ rfl HO.out ⟨rb, ro, none⟩ xs.length c (rowV (fun j => xs.getD j 0) xs.length) rfl k6.out k1.out k2.out k3.out k4.out k5.out ?_)
  intro v8 w8 hown8 hgrow8 _
  have hb8 : Below W0.heap.size W0 w8 := HAB.out.trans ((Below.refl W0.heap.size _).grown hgrow8 k5.out (fun q hq => (HO.out.lt q hq).1))
  have hown := OwnX.rowV hown8
  first | rw [famL_get2] at hown | rw [famL_get] at hown
  obtain ⟨g8, c8, rfl, hg1, hg2, _⟩ := hown.shape hlen.1
  have hal9 := alloc_below w8 (.cells #[.slice (some ⟨g8, 0, none⟩) xs.length c8, .slice none 0 0] 31)
  have HST : Hid (L12S xs L (.slice (some ⟨rb, ro, none⟩) xs.length c) (.slice b n c2) w w.heap.size w8.heap.size (.slice (some ⟨g8, 0, none⟩) xs.length c8) 0 (.slice none 0 0) [] (w8.alloc (.cells #[.slice (some ⟨g8, 0, none⟩) xs.length c8, .slice none 0 0] 31))) := Lib.hid (by
    have hz := HZ.out
    have hs8 := hb8.size
    refine ⟨(HB1.out.kept hb8 HB1.out.lt).kept hal9 (by omega), (HB2.out.kept hb8 HB2.out.lt).kept hal9 (by omega), Blk2.new _ _ _ _, by omega, rfl, (hown.kept hal9).base (by omega), fun g hg => ?_, FamsO.nil _ _, by simp, rfl, below_onto (below_onto HQ.out hb8) hal9⟩
    injection hg with hg
    have : g8 = g := hg
    omega)
  clear hown8 hgrow8 hb8 hown hg1 hg2 hal9 k1 k2 k3 k4 k5 k6 HO HAB HMD HW hW0 hc0 HW0 HB1 HB2 HZ HQ
  go_wp2_with fail
  have HD0 := Lib.hid HST.out.lt
  obtain ⟨O, hO⟩ : ∃ O, w8.heap.size = O := ⟨_, rfl⟩
  obtain ⟨D, hD⟩ : ∃ D, w.heap.size = D := ⟨_, rfl⟩
  rw [hO] at HST HD0 ⊢
  rw [hD] at HST HD0 ⊢
  have HDD := Lib.hid hD
  clear hO hD
  go_loopw [4] (fun i wr => ∃ (k : Nat) (v2 : Value) (rs : List Fr), k ≤ n ∧ i = .int .i64 k ∧ Hid (L12S xs L (.slice (some ⟨rb, ro, none⟩) xs.length c) (.slice b n c2) w D O (.slice (some ⟨g8, 0, none⟩) xs.length c8) k v2 rs wr)) (fun i _ => n - (intOf i).toNat)
  case atStart => exact ⟨0, _, [], Nat.zero_le _, rfl, HST⟩
  case round =>
    clear HST
    obtain ⟨k, v2, rs, hk, rfl, HS⟩ := hrel
    obtain ⟨va, vc, hv⟩ := HS.out.own.fams.seq.slice
    rw [List.length_map, HS.out.len] at hv
    subst hv
    have hc1 := HS.out.d.cell.2
    by_cases hlt : k < n
    · have hki : (k : Int) < (n : Int) := by omega
      have hk0 : (0 : Int) ≤ (k : Int) := by omega
      have hkl : k < L.length := by rw [HNN.out]; exact hlt
      obtain ⟨bk, o, a1, c1, rfl, hlc, hi, hcell⟩ := HN.out.at hkl
      have hfk := fam_at HL.out hkl
      have hrow1 := hi.row (famL_len hfk).1
      obtain ⟨q, p, rfl, hql, hrow⟩ := hrow1
      have hc2 := hcell wr HS.out.bel
      have HBD : Hid (Below wr.heap.size wr wr.drew) := Lib.hid (Below.refl _ _).drew
      have HRW : Hid (Row wr.drew q p _ _) := Lib.hid ((hrow.below HS.out.bel hql).below HBD.out (Nat.lt_of_lt_of_le hql HS.out.bel.size))
      have HQL : Hid (q < wr.drew.heap.size) := Lib.hid (Nat.lt_of_lt_of_le hql HS.out.bel.size)
      obtain ⟨l, hl⟩ : ∃ l, L.getD k [] = l := ⟨_, rfl⟩
      have HLL := Lib.hid hl; have HKL := Lib.hid hkl
      rw [hl] at hc2 HRW hfk
      have HL1 := Lib.hid (famL_len hfk).1
      have HL2 : Hid (l.length ≤ 1000) := Lib.hid (by have := (famL_len hfk).2; omega)
      have HLE := Lib.hid (show rs.length ≤ 1000 by rw [HS.out.len]; omega)
      have hco := HS.out.o.cell.2
      have ha1 := cell_alX (.cells #[] 3) hc1
      have ha2 := cell_alX (.cells #[] 3) hc2
      have ha3 := cell_alX (.cells #[] 3) hco
      have HOS : Hid (O + 1 ≤ wr.heap.size) := Lib.hid HS.out.o.lt
      clear hi hcell hl hkl hlc hrow hql hfk
      go_wp2_with fail
      go_region_law (first | ((refine step_cl (by rfl) (.tmp 19) (.tmp 24) (by rfl) l HL1.out HL2.out wr.drew q p c1 (by rfl) (by rfl) HRW.out HQL.out ?_; intro g6 c6 w6 ho6 hb6 hg6; have hB6 := below_onto HBD.out hb6; have e6 := HS.out.o.kept hB6 HS.out.o.lt; have hA6 := e6.cell.2; have hA7 := cell_alX (.cells #[.slice (some ⟨g6, 0, none⟩) l.length c6] 28) hA6; have HE6 := Lib.hid e6; have HO6 := Lib.hid (HS.out.own.kept hB6); have HY6 := Lib.hid (ho6.base HOS.out); have HB6 := Lib.hid hB6; have HN1 := Lib.hid (fun r hr e => by have h1 := (HS.out.own.fams.lt r hr).2; have h2 := hg6.1; have h3 : wr.drew.heap.size = wr.heap.size := rfl; omega : ∀ r ∈ rs, r.g ≠ g6); have HN2 : Hid ((Value.slice va k vc).ownBlock ≠ some g6) := Lib.hid (fun e => by have h1 := (HS.out.own.fams.seq.lt g6 e).2; have h2 := hg6.1; have h3 : wr.drew.heap.size = wr.heap.size := rfl; omega); have HS6 := Lib.hid (Nat.le_trans HOS.out hB6.size); clear ho6 hb6 hg6 hB6 e6)) | ((refine step_fr (by rfl) (.tmp 18) (.tmp 26) (by rfl) (O + 1) (.slice va k vc) rs ⟨g6, c6, l⟩ w6 (by rfl) (by rfl) HO6.out HLE.out HY6.out HN1.out HN2.out HS6.out ?_; intro g7 c7 w7 ho7 hb7 hu7; have hR7 := e7_of HE6.out hu7 HS.out.own; have hx1 := hR7.cell.2; have hx2 := hR7.frozen 1; have HX := Lib.hid (HS.out.step HKL.out HLL.out HB6.out hu7 ho7); clear ho7 hb7 hu7 hR7)))
      all_goals
        clear HE6 HO6 HY6 HN1 HN2 HS6 HB6 hA6 hA7 hx1 hx2 ha1 ha2 ha3 hc1 hc2 hco HRW HQL
        go_wp2_with fail
        go_roundw
        case rel => exact ⟨k + 1, _, _, by omega, by go_num, HX⟩
        case measure => simp [intOf]; omega
    · have hki : ¬ (k : Int) < (n : Int) := by omega
      have hR := HS.out.o
      have hc2 := hR.cell.1; have hc3 := hR.cell.2
      have hQ := HS.out.r
      have hc4 := hQ.cell.1; have hc5 := hQ.cell.2; have hf4 := hQ.frozen 0; have hf5 := hQ.frozen 1
      have HD9 := Lib.hid (HS.out.done (show L.length ≤ k by rw [HNN.out]; omega))
      have HQ9 := Lib.hid hQ
      have hkn : k = n := by omega
      subst hkn
      clear hR hQ
      go_wp2_with fail
      refine bodyPost_ret (results_desk1 rfl _ _ (D + 1) ((HQ9.out.set0 (.slice (some ⟨g8, 0, none⟩) xs.length c8)).set1 (.slice va k vc)) rfl (by kernel_rfl)) rfl ?_
      exact ⟨_, _, rfl, HD9.out⟩
theorem l12Made_any (a : Option Addr) (c : Nat) (xs : List Int) (k x : Int) (hx : I64 x) (hf : famL xs = true) (w : World) (h : Ints w a xs.length (fun j => xs.getD j 0)) :
    Calls Tryz.prog 120 #[.slice a xs.length c, .agg #[.int .i64 k, .int .i64 x]] w (MadeEnd (mdS xs k x) (chB xs k x) w) := by
  by_cases h0 : k = 0
  · subst h0; exact l12Made_put a c xs x hx hf w h
  by_cases h1 : k = 1
  · subst h1; exact l12Made_take a c xs x hx hf w h
  by_cases h2 : k = 2 ∧ x = 0
  · obtain ⟨rfl, rfl⟩ := h2; exact l12Made_points a c xs hf w h
  by_cases h3 : k = 3 ∧ x = 0
  · obtain ⟨rfl, rfl⟩ := h3; exact l12Made_sums a c xs hf w h
  exact l12Made_none a c xs k x hx h0 h1 h2 h3 hf w h
theorem own_blk (a : Option Addr) (n m c d : Nat) : (Value.slice a n c).ownBlock = (Value.slice a m d).ownBlock := by cases a <;> rfl
theorem FamsO.cut {w : World} {B m c : Nat} {a : Option Addr} {y : Fr} {rs : List Fr} (hm : m = rs.length) (h : FamsO w B (.slice a (m + 1) c) (rs ++ [y])) : FamsO w B (.slice a m c) rs := by
  subst hm
  have hw := h.own
  have hlen : (rs ++ [y]).length = rs.length + 1 := by simp
  rw [hlen] at hw
  have hd := h.dis
  rw [List.map_append, List.nodup_append] at hd
  refine ⟨?_, fun r hr => h.row r (List.mem_append.2 (.inl hr)), hd.1, fun r hr => by rw [own_blk a _ (rs.length + 1) c c]; exact h.apart r (List.mem_append.2 (.inl hr))⟩
  refine ⟨by rw [List.length_map, Nat.mul_one], ?_⟩
  rcases hw.2 with ⟨h1, _⟩ | ⟨g, cap, cur, hv, hB, hg, hc, hmx, hs, ht⟩
  · cases h1
  · injection hv with e1 e2 e3
    subst e1; subst e3
    refine .inr ⟨g, c, cur, rfl, hB, hg, by omega, hmx, hs, ?_⟩
    rw [Nat.mul_one] at ht ⊢
    have : cur.toList.take rs.length = (cur.toList.take (rs.length + 1)).take rs.length := by rw [List.take_take, Nat.min_eq_left (by omega)]
    rw [this, ht, List.map_append, List.take_append_of_le_length (by rw [List.length_map]; exact Nat.le_refl _), List.take_of_length_le (by rw [List.length_map]; exact Nat.le_refl _)]
def GivesP (xs : List Int) (L : List (List Int)) (w w' : World) (v1 v2 : Value) : Prop :=
  ∃ rs, DeskG w' w.heap.size v1 v2 xs rs ∧ rs.map Fr.xs = L ∧ Below w.heap.size w w' ∧ (L.length < 8 → FamsO w' w.heap.size v2 rs)
theorem GivesP.gives {xs : List Int} {L : List (List Int)} {w w' : World} {v1 v2 : Value} (h : GivesP xs L w w' v1 v2) : GivesD xs L w w' v1 v2 := by
  obtain ⟨rs, h1, h2, h3, _⟩ := h
  exact ⟨rs, h1, h2, h3⟩
def DoneP (ok : Bool) (xs : List Int) (L : List (List Int)) (w : World) (e : Ending) (w' : World) : Prop := ∃ v1 v2, e = .returned (.tuple #[.agg #[v1, v2], .bool ok]) ∧ GivesP xs L w w' v1 v2
theorem noDesk_givesP {w w' : World} (hb : Below w.heap.size w w') : GivesP [] [] w w' (.slice none 0 0) (.slice none 0 0) :=
  ⟨[], ⟨OwnX.nil _ _ _, Fams.none _ _ _, fun g hg => by simp [Value.ownBlock] at hg⟩, rfl, hb, fun _ => FamsO.nil _ _⟩
theorem givesP_of {w w8 : World} {R B : Nat} {v1 v2 : Value} {xs : List Int} {L : List (List Int)} {rs : List Fr} (hb : Below w.heap.size w w8) (hR : R = w.heap.size + 1 + 1) (hB : w.heap.size + 3 ≤ B) (hd : DeskG w8 B v1 v2 xs rs) (hrs : rs.map Fr.xs = L) (ho : L.length < 8 → FamsO w8 B v2 rs) :
    GivesP xs L w ((w8.setCell ⟨R, 0, none⟩ v1).setCell ⟨R, 1, none⟩ v2) v1 v2 :=
  ⟨rs, ((hd.put (p := ⟨R, 0, none⟩) (show R < B by omega)).put (p := ⟨R, 1, none⟩) (show R < B by omega)).base (by omega), hrs,
    (hb.setCell (p := ⟨R, 0, none⟩) (show w.heap.size ≤ R by omega) _).setCell (p := ⟨R, 1, none⟩) (show w.heap.size ≤ R by omega) _,
    fun hl => (((ho hl).put (p := ⟨R, 0, none⟩) (show R < B by omega)).put (p := ⟨R, 1, none⟩) (show R < B by omega)).base (by omega)⟩
set_option maxRecDepth 100000 in
theorem specDeskDo_no (d : Value) (xs : List Int) (L : List (List Int)) (k x : Int) (hx : I64 x) (hdk : deskB xs L = false) (w : World) (h : DeskR w d xs L) :
    Calls Tryz.prog 67 #[d, .agg #[.int .i64 k, .int .i64 x]] w (DoneP false [] [] w) := by
  have hdd := h
  obtain ⟨a, c, b, c2, rfl, _⟩ := h.parts
  have hst := start3 w (.slice a xs.length c) (.slice b L.length c2) k x
  have hdr := hdd.kept hst.bel
  obtain ⟨w3, hw3⟩ : ∃ w3, ((w.alloc (.cells #[.slice a xs.length c, .slice b L.length c2] 31)).alloc (.cells #[.int .i64 k, .int .i64 x] 39)).alloc (.cells #[.slice none 0 0, .slice none 0 0] 31) = w3 := ⟨_, rfl⟩
  rw [hw3] at hst hdr
  have HST := Lib.hid hst; have HDR := Lib.hid hdr; have HDK := Lib.hid hdk
  have hd0 := hst.d.cell.1; have hd1 := hst.d.cell.2
  clear h hdd hst hdr hx hdk
  go_enter Tryz.func67, Tryz.ntmps67
  go_wp2_with fail
  refine (specDeskOk_any _ xs L _ HDR.out).mono ?_
  rintro e w4 ⟨rfl, hb4⟩
  rw [HDK.out]
  have hR := HST.out.r.kept hb4 HST.out.r.lt
  have hx0 := hR.cell.1; have hx1 := hR.cell.2; have hx2 := hR.frozen 0; have hx3 := hR.frozen 1
  have HR := Lib.hid hR; have HB := Lib.hid (below_onto HST.out.bel hb4)
  clear hb4 hR hd0 hd1
  go_wp2_with fail
  refine bodyPost_ret (results_desk rfl _ _ (w.heap.size + 1 + 1) ((HR.out.set0 (.slice none 0 0)).set1 (.slice none 0 0)) rfl rfl (by kernel_rfl)) rfl ?_
  exact ⟨_, _, rfl, noDesk_givesP ((HB.out.setCell (p := ⟨w.heap.size + 1 + 1, 0, none⟩) (show w.heap.size ≤ w.heap.size + 1 + 1 by omega) _).setCell (p := ⟨w.heap.size + 1 + 1, 1, none⟩) (show w.heap.size ≤ w.heap.size + 1 + 1 by omega) _)⟩
structure CpP (w : World) (X Y : Value) (k x : Int) (xs : List Int) (L : List (List Int)) (O : Nat) (B : Nat) (v1 v2 : Value) (rs : List Fr) (w6 : World) : Prop where
  d : Blk2 w6 w.heap.size 31 X Y
  e : Blk2 w6 (w.heap.size + 1) 39 (.int .i64 k) (.int .i64 x)
  r : Blk2 w6 (w.heap.size + 1 + 1) 31 (.slice none 0 0) (.slice none 0 0)
  o : Blk2 w6 O 31 v1 v2
  now : OwnX w6 B 3 v1 xs
  own : FamsO w6 B v2 rs
  sep : ∀ g, v1.ownBlock = some g → ¬ FB v2 rs g
  low1 : ∀ g, v1.ownBlock = some g → g < O
  low2 : ∀ g, FB v2 rs g → g < O
  lo : w.heap.size + 3 ≤ B
  bo : B ≤ O
  xs : rs.map Fr.xs = L
  bel : Below w.heap.size w w6
theorem CpP.kept {w w6 w7 : World} {X Y v1 v2 : Value} {k x : Int} {xs : List Int} {L : List (List Int)} {O B : Nat} {rs : List Fr} (h : CpP w X Y k x xs L O B v1 v2 rs w6) (hb : Below w6.heap.size w6 w7) : CpP w X Y k x xs L O B v1 v2 rs w7 :=
  ⟨h.d.kept hb h.d.lt, h.e.kept hb h.e.lt, h.r.kept hb h.r.lt, h.o.kept hb h.o.lt, h.now.kept hb, h.own.kept hb, h.sep, h.low1, h.low2, h.lo, h.bo, h.xs, below_onto h.bel hb⟩
theorem cpP_of {w w3 w4 w5 : World} {X Y v1 v2 : Value} {k x : Int} {xs : List Int} {L : List (List Int)} (hst : Start3 w X Y k x w3) (hb4 : Below w3.heap.size w3 w4) (hg : GivesO xs L w4 w5 v1 v2) :
    ∃ rs, CpP w X Y k x xs L w5.heap.size w4.heap.size v1 v2 rs (w5.alloc (.cells #[v1, v2] 31)) := by
  obtain ⟨rs, h1, h2, h3, h4, h5⟩ := hg
  have hb := below_onto hb4 h5
  have hal := alloc_below w5 (.cells #[v1, v2] 31)
  have hb6 := below_onto hb hal
  have hs := hst.size
  have hs4 := hb4.size
  exact ⟨rs, hst.d.kept hb6 hst.d.lt, hst.e.kept hb6 hst.e.lt, hst.r.kept hb6 hst.r.lt, Blk2.new _ _ _ _, h1.kept hal, h2.kept hal, h3, fun g hg => (h1.lt hg).2, fun g hg => (h2.fams.ltB g hg).2, by omega, h5.size, h4, below_onto hst.bel hb6⟩
theorem CpP.same {w w7 : World} {X Y v1 v2 : Value} {k x : Int} {xs : List Int} {L : List (List Int)} {O B : Nat} {rs : List Fr} (h : CpP w X Y k x xs L O B v1 v2 rs w7) :
    GivesP xs L w ((w7.setCell ⟨w.heap.size + 1 + 1, 0, none⟩ v1).setCell ⟨w.heap.size + 1 + 1, 1, none⟩ v2) v1 v2 :=
  givesP_of h.bel rfl h.lo ⟨h.now, h.own.fams, h.sep⟩ h.xs (fun _ => h.own)
theorem CpP.back {w w6 : World} {X Y v1 v2 : Value} {k x : Int} {xs : List Int} {L : List (List Int)} {O B m c : Nat} {a : Option Addr} {rs : List Fr} {y : Fr} (h : CpP w X Y k x xs L O B v1 (.slice a (m + 1) c) (rs ++ [y]) w6) (hm : m = rs.length) :
    GivesP y.xs (rs.map Fr.xs) w ((((w6.setCell ⟨O, 0, none⟩ y.v).setCell ⟨O, 1, none⟩ (.slice a m c)).setCell ⟨w.heap.size + 1 + 1, 0, none⟩ y.v).setCell ⟨w.heap.size + 1 + 1, 1, none⟩ (.slice a m c)) y.v (.slice a m c) := by
  have hcut := h.own.cut hm
  have hy : y ∈ rs ++ [y] := by simp
  have hlo := h.lo; have hbo := h.bo
  have hne : ∀ g, FB (.slice a m c) rs g → g ≠ O := fun g hg e => by
    have : FB (.slice a (m + 1) c) (rs ++ [y]) g := by
      rcases hg with hg | ⟨r, hr, e⟩
      · exact .inl (by rw [own_blk a _ m c c]; exact hg)
      · exact .inr ⟨r, List.mem_append.2 (.inl hr), e⟩
    have := h.low2 g this
    omega
  have hyo : y.g ≠ O := by have := h.low2 y.g (.inr ⟨y, hy, rfl⟩); omega
  have key : ∀ q, q ≠ O → ((w6.setCell ⟨O, 0, none⟩ y.v).setCell ⟨O, 1, none⟩ (.slice a m c)).heap[q]? = w6.heap[q]? := fun q hq => (set_blk (show q ≠ O from hq)).trans (set_blk (show q ≠ O from hq))
  have hcut' : FamsO ((w6.setCell ⟨O, 0, none⟩ y.v).setCell ⟨O, 1, none⟩ (.slice a m c)) B (.slice a m c) rs := hcut.same (fun g hg => key g (hne g hg))
  have hrow' : OwnX ((w6.setCell ⟨O, 0, none⟩ y.v).setCell ⟨O, 1, none⟩ (.slice a m c)) B 3 y.v y.xs := (h.own.row y hy).blk (key _ hyo)
  refine givesP_of ((h.bel.setCell (p := ⟨O, 0, none⟩) (show w.heap.size ≤ O by omega) _).setCell (p := ⟨O, 1, none⟩) (show w.heap.size ≤ O by omega) _) rfl h.lo ⟨hrow', hcut'.fams, fun g hg hf => ?_⟩ rfl (fun _ => hcut')
  rw [Fr.block] at hg
  injection hg with hg
  subst hg
  rcases hf with hf | ⟨r, hr, e⟩
  · rw [own_blk a m (m + 1) c c] at hf; exact h.own.apart y hy hf
  · have hd := h.own.dis
    rw [List.map_append, List.nodup_append] at hd
    exact hd.2.2 r.g (List.mem_map.2 ⟨r, hr, rfl⟩) y.g (by simp) e
theorem CpP.change {w w7 w8 W : World} {X Y v1 v2 vm v' : Value} {k x : Int} {xs ys : List Int} {L L' : List (List Int)} {O B S6 : Nat} {rs rs' : List Fr} (h : CpP w X Y k x xs L O B v1 v2 rs w7) (hO : O < S6) (hm : OwnX w7 S6 3 vm ys) (hu : Upon (fun q => v2.ownBlock = some q) w7 w8)
    (hf : Fams w8 B v' rs') (hFB : ∀ g, FB v' rs' g → g < O ∨ w7.heap.size ≤ g) (hkey : ∀ q, q ≠ O → W.heap[q]? = w8.heap[q]?) (hsz : w8.heap.size ≤ W.heap.size) (hb : Below w.heap.size w W) (hrs : rs'.map Fr.xs = L') (ho : L'.length < 8 → FamsO w8 B v' rs') :
    GivesP ys L' w ((W.setCell ⟨w.heap.size + 1 + 1, 0, none⟩ vm).setCell ⟨w.heap.size + 1 + 1, 1, none⟩ v') vm v' := by
  have hlo := h.lo; have hbo := h.bo
  have hOl := h.o.lt
  have hne : ∀ g, FB v' rs' g → g ≠ O := fun g hg => by have := hFB g hg; omega
  have hmw : OwnX W B 3 vm ys := (hm.other (fun g hg hBg hgl => (hkey g (by omega)).trans (hu.block g hgl (fun e => by have := h.low2 g (.inl e); omega)))).base (by omega)
  refine givesP_of hb rfl h.lo ⟨hmw, hf.same hsz (fun g hg => hkey g (hne g hg)), fun g hg hq => ?_⟩ hrs (fun hl => (ho hl).same (fun g hg => hkey g (hne g hg)))
  have h1 := hm.lt hg
  have h2 := hFB g hq
  omega
theorem dk_other {xs : List Int} {L : List (List Int)} {k x : Int} (hdk : deskB xs L = true) (hB : ¬ (k = 4 ∧ x = 0 ∧ L ≠ [])) :
    dkB xs L k x = chB xs k x ∧ (dkX xs L k x = if chB xs k x then mdS xs k x else xs) ∧ (dkL xs L k x = if chB xs k x then (L ++ [xs]).drop (L.length - 7) else L) := by
  by_cases hk4 : k = 4
  · subst hk4
    have hc : chB xs 4 x = false := by
      have : mdL xs 4 x = [] := rfl
      exact chB_fam (by rw [this]; exact famL_nil)
    have hb : dkB xs L 4 x = false := by
      by_cases hx : x = 0
      · subst hx
        rw [dkB_back hdk]
        exact decide_eq_false (fun h => hB ⟨rfl, rfl, h⟩)
      · exact dkB_text (by
          cases hd : dOk 4 x with
          | false => rfl
          | true => have := dOk_iff.1 hd; omega)
    rw [hc, hb]
    exact ⟨rfl, (dk_no hb hdk).1, (dk_no hb hdk).2⟩
  · have hb := dkB_ch (x := x) hdk hk4
    refine ⟨hb, ?_, ?_⟩
    · cases hc : chB xs k x with
      | false => rw [hc] at hb; exact (dk_no hb hdk).1
      | true => rw [if_pos rfl, ms_md (chB_iff.1 hc).1]; exact (dk_ch hdk hk4 hc).1
    · cases hc : chB xs k x with
      | false => rw [hc] at hb; exact (dk_no hb hdk).2
      | true => exact (dk_ch hdk hk4 hc).2
set_option maxRecDepth 100000 in
theorem specDeskDo_back (d : Value) (xs : List Int) (L : List (List Int)) (hdk : deskB xs L = true) (hne : L ≠ []) (w : World) (h : DeskR w d xs L) :
    Calls Tryz.prog 67 #[d, .agg #[.int .i64 4, .int .i64 0]] w (DoneP true (L.getLastD []) L.dropLast w) := by
  obtain ⟨m, hm⟩ : ∃ m, L.length = m + 1 := by
    cases L with
    | nil => exact absurd rfl hne
    | cons l L => exact ⟨L.length, rfl⟩
  obtain ⟨y0, hy0⟩ : ∃ y0, L.getLastD [] = y0 := ⟨_, rfl⟩
  obtain ⟨M, hM⟩ : ∃ M, L.dropLast = M := ⟨_, rfl⟩
  rw [hy0, hM]
  have HLM := Lib.hid (show L = M ++ [y0] by
    rw [← hM, ← hy0, List.getLastD_eq_getLast?, List.getLast?_eq_some_getLast hne]
    exact (List.dropLast_concat_getLast hne).symm)
  have HM := Lib.hid hm
  clear hy0 hM hne hm
  have hdd := h
  obtain ⟨a, c, b, c2, rfl, hi, hnst⟩ := h.parts
  obtain ⟨hf, h8, hL⟩ := deskB_iff.1 hdk
  have hlen := famL_len hf
  obtain ⟨n, hnn⟩ : ∃ n, L.length = n := ⟨_, rfl⟩
  have HNN := Lib.hid hnn
  have hst := start3 w (.slice a xs.length c) (.slice b L.length c2) 4 0
  have hnm : n = m + 1 := by rw [← hnn, HM.out]
  rw [hnn] at hst h8
  have hdr := hdd.kept hst.bel
  rw [hnn] at hdr ⊢
  have hi3 := hi.below hst.bel (Nat.le_refl _)
  obtain ⟨w3, hw3⟩ : ∃ w3, ((w.alloc (.cells #[.slice a xs.length c, .slice b n c2] 31)).alloc (.cells #[.int .i64 (4), .int .i64 (0)] 39)).alloc (.cells #[.slice none 0 0, .slice none 0 0] 31) = w3 := ⟨_, rfl⟩
  rw [hw3] at hst hdr hi3
  have HST := Lib.hid hst; have HDR := Lib.hid hdr; have HDK := Lib.hid hdk; have HI := Lib.hid hi3; have HF := Lib.hid hf
  have hd0 := hst.d.cell.1; have hd1 := hst.d.cell.2
  clear h hdd hst hdr hdk hi hnst hL hi3 hf hnn
  have heq := fun W => eqDeedV_val 4 0 4 0 true rfl W
  have hgt : decide ((0 : Int) < (n : Int)) = true := decide_eq_true (by omega)
  have hgt2 : decide (0 < n) = true := decide_eq_true (by omega)
  have hn1 : (n : Int) - 1 = (m : Int) := by omega
  have hm0 : (0 : Int) ≤ (m : Int) := by omega
  have hmn : (m : Int) < (n : Int) := by omega
  have HNM := Lib.hid hnm
  clear hnm
  go_enter Tryz.func67, Tryz.ntmps67
  go_wp2_with fail
  clear hw3
  refine (specDeskOk_any _ xs L _ HDR.out).mono ?_
  rintro e w4 ⟨rfl, hb4⟩
  rw [HDK.out]
  have HB4 := Lib.hid hb4
  have hD := HST.out.d.kept hb4 HST.out.d.lt
  have he0 := hD.cell.1; have he1 := hD.cell.2
  clear hb4 hD hd0 hd1
  go_wp2_with fail
  refine (l12Copy_any _ xs L HDK.out _ (HDR.out.kept HB4.out)).mono ?_
  rintro e w5 ⟨v1, v2, rfl, hg⟩
  obtain ⟨rs, hcp⟩ := cpP_of HST.out HB4.out hg
  have HGB := Lib.hid hg.desk.below
  obtain ⟨p1, e1, rfl⟩ := hcp.now.slice
  obtain ⟨p2, e2, hv2⟩ := hcp.own.fams.seq.slice
  have hrl : rs.length = n := by rw [← HNN.out, ← hcp.xs, List.length_map]
  rw [List.length_map, hrl] at hv2
  subst hv2
  have HRL := Lib.hid hrl
  obtain ⟨O, hO⟩ : ∃ O, w5.heap.size = O := ⟨_, rfl⟩
  obtain ⟨B, hB⟩ : ∃ B, w4.heap.size = B := ⟨_, rfl⟩
  obtain ⟨w6, hw6⟩ : ∃ w6, w5.alloc (.cells #[.slice p1 xs.length e1, .slice p2 n e2] 31) = w6 := ⟨_, rfl⟩
  rw [hO, hB, hw6] at hcp
  have HC := Lib.hid hcp
  have hc0 := hcp.d.cell.1; have hc1 := hcp.d.cell.2; have hk0 := hcp.e.cell.1; have hk1 := hcp.e.cell.2
  clear he0 he1 hrl hB hg hcp
  obtain ⟨rs', y, hrs⟩ : ∃ rs' y, rs = rs' ++ [y] := by
    rcases List.eq_nil_or_concat rs with e | ⟨rs', y, e⟩
    · have := HRL.out; rw [e] at this; have := HNM.out; simp at *; omega
    · exact ⟨rs', y, by rw [e, List.concat_eq_append]⟩
  subst hrs
  have hrm : m = rs'.length := by have h1 := HRL.out; have h2 := HNM.out; rw [List.length_append, List.length_singleton] at h1; omega
  have hxs := HC.out.xs
  rw [HLM.out, List.map_append] at hxs
  obtain ⟨hx1, hx2⟩ := List.append_inj' hxs rfl
  have hy : y.xs = y0 := by simpa using hx2
  have HX1 := Lib.hid hx1; have HRM := Lib.hid hrm
  obtain ⟨gy, cy, xy⟩ := y
  have hy' : xy = y0 := hy
  subst hy'
  have hp2 : ∃ g2, p2 = some ⟨g2, 0, none⟩ := by
    rcases HC.out.own.own.2 with ⟨h1, _⟩ | ⟨g, cap, cur, hv, _⟩
    · exact absurd h1 (by intro e; injection e with e1 e2 e3; have := HNM.out; omega)
    · injection hv with e1 e2 e3; exact ⟨g, e1⟩
  obtain ⟨g2, rfl⟩ := hp2
  have hcell : w6.cell? ⟨g2, m, none⟩ = some (.slice (some ⟨gy, 0, none⟩) xy.length cy) := by
    have := fams_cells (by simp) HC.out.own.fams m (.slice (some ⟨gy, 0, none⟩) xy.length cy) (by rw [List.map_append, List.getElem?_append_right (by rw [List.length_map, hrm]; exact Nat.le_refl _), List.length_map, hrm, Nat.sub_self]; rfl)
    rwa [Nat.zero_add] at this
  have ho0 := HC.out.o.cell.1; have ho1 := HC.out.o.cell.2; have hf0 := HC.out.o.frozen 0; have hf1 := HC.out.o.frozen 1
  have hR := HC.out.r
  have hr0 := hR.cell.1; have hr1 := hR.cell.2; have hr2 := hR.frozen 0; have hr3 := hR.frozen 1
  have hne1 : ¬ g2 = O := by have := HC.out.low2 g2 (.inl rfl); omega
  have hne2 : ¬ O = w.heap.size + 1 + 1 := by have h1 := HC.out.lo; have h2 := HC.out.bo; omega
  have hne3 : ¬ w.heap.size + 1 + 1 = O := fun e => hne2 e.symm
  have hcap : m ≤ n ∧ n ≤ e2 := by
    obtain ⟨q1, q2, _⟩ := HC.out.own.cap (by have := HNM.out; omega)
    have := HNM.out; omega
  have hcut := fun W => run_cut g2 0 n e2 m hcap.1 hcap.2 W
  have HR := Lib.hid hR
  have HCC : Hid (CpP w (.slice a xs.length c) (.slice b (m + 1) c2) 4 0 xs L O B (.slice p1 xs.length e1) (.slice (some ⟨g2, 0, none⟩) (m + 1) e2) (rs' ++ [⟨gy, cy, xy⟩]) w6) := Lib.hid (by
    have := HC.out
    rw [HNM.out] at this
    exact this)
  have HG := Lib.hid (HCC.out.back (v2 := undef) hrm)
  rw [hx1] at HG
  clear hR hrm hxs hx1 hx2 hy hcap
  go_wp2_with fail
  refine bodyPost_ret (results_desk rfl _ _ (w.heap.size + 1 + 1) ((((HR.out.other hne3 0 (.slice (some ⟨gy, 0, none⟩) xy.length cy)).other hne3 1 (.slice (some ⟨g2, 0, none⟩) m e2)).set0 (.slice (some ⟨gy, 0, none⟩) xy.length cy)).set1 (.slice (some ⟨g2, 0, none⟩) m e2)) rfl rfl (by kernel_rfl)) rfl ?_
  exact ⟨_, _, rfl, HG.out⟩
set_option maxRecDepth 100000 in
theorem specDeskDo_yes (d : Value) (xs : List Int) (L : List (List Int)) (k x : Int) (hx : I64 x) (hdk : deskB xs L = true) (hne : ¬ (k = 4 ∧ x = 0)) (hcb : chB xs (k) (x) = true) (w : World) (h : DeskR w d xs L) :
    Calls Tryz.prog 67 #[d, .agg #[.int .i64 k, .int .i64 x]] w (DoneP (chB xs (k) (x)) (if chB xs (k) (x) then mdS xs (k) (x) else xs) (if chB xs (k) (x) then (L ++ [xs]).drop (L.length - 7) else L) w) := by
  have e1 : ∀ A : List Int, (if chB xs (k) (x) = true then A else xs) = A := fun A => by rw [hcb]; rfl
  have e2 : ∀ A : List (List Int), (if chB xs (k) (x) = true then A else L) = A := fun A => by rw [hcb]; rfl
  rw [e1, e2, hcb]
  have HCB := Lib.hid hcb
  obtain ⟨ys, hys⟩ : ∃ ys, mdS xs (k) (x) = ys := ⟨_, rfl⟩
  rw [hys]
  have HYS := Lib.hid hys
  clear hcb e1 e2 hys
  have hdd := h
  obtain ⟨a, c, b, c2, rfl, hi, hnst⟩ := h.parts
  obtain ⟨hf, h8, hL⟩ := deskB_iff.1 hdk
  have hlen := famL_len hf
  obtain ⟨n, hnn⟩ : ∃ n, L.length = n := ⟨_, rfl⟩
  have HNN := Lib.hid hnn
  have hst := start3 w (.slice a xs.length c) (.slice b L.length c2) k x
  rw [hnn] at hst h8
  have hdr := hdd.kept hst.bel
  rw [hnn] at hdr ⊢
  have hi3 := hi.below hst.bel (Nat.le_refl _)
  obtain ⟨w3, hw3⟩ : ∃ w3, ((w.alloc (.cells #[.slice a xs.length c, .slice b n c2] 31)).alloc (.cells #[.int .i64 (k), .int .i64 (x)] 39)).alloc (.cells #[.slice none 0 0, .slice none 0 0] 31) = w3 := ⟨_, rfl⟩
  rw [hw3] at hst hdr hi3
  have HST := Lib.hid hst; have HDR := Lib.hid hdr; have HDK := Lib.hid hdk; have HI := Lib.hid hi3; have HF := Lib.hid hf
  have hd0 := hst.d.cell.1; have hd1 := hst.d.cell.2
  clear h hdd hst hdr hdk hi hnst hL hi3 hf hnn
  have heq := fun W => eqDeedV_val k x 4 0 false (by rw [Bool.and_eq_false_iff]; simp; omega) W
  clear hne
  go_enter Tryz.func67, Tryz.ntmps67
  go_wp2_with fail
  clear hw3
  refine (specDeskOk_any _ xs L _ HDR.out).mono ?_
  rintro e w4 ⟨rfl, hb4⟩
  rw [HDK.out]
  have HB4 := Lib.hid hb4
  have hD := HST.out.d.kept hb4 HST.out.d.lt
  have he0 := hD.cell.1; have he1 := hD.cell.2
  clear hb4 hD hd0 hd1
  go_wp2_with fail
  refine (l12Copy_any _ xs L HDK.out _ (HDR.out.kept HB4.out)).mono ?_
  rintro e w5 ⟨v1, v2, rfl, hg⟩
  obtain ⟨rs, hcp⟩ := cpP_of HST.out HB4.out hg
  have HGB := Lib.hid hg.desk.below
  obtain ⟨p1, e1, rfl⟩ := hcp.now.slice
  obtain ⟨p2, e2, hv2⟩ := hcp.own.fams.seq.slice
  have hrl : rs.length = n := by rw [← HNN.out, ← hcp.xs, List.length_map]
  rw [List.length_map, hrl] at hv2
  subst hv2
  have HRL := Lib.hid hrl
  obtain ⟨O, hO⟩ : ∃ O, w5.heap.size = O := ⟨_, rfl⟩
  obtain ⟨B, hB⟩ : ∃ B, w4.heap.size = B := ⟨_, rfl⟩
  obtain ⟨w6, hw6⟩ : ∃ w6, w5.alloc (.cells #[.slice p1 xs.length e1, .slice p2 n e2] 31) = w6 := ⟨_, rfl⟩
  rw [hO, hB, hw6] at hcp
  have HC := Lib.hid hcp
  have hc0 := hcp.d.cell.1; have hc1 := hcp.d.cell.2; have hk0 := hcp.e.cell.1; have hk1 := hcp.e.cell.2
  clear he0 he1 hrl hB hg hcp
  have HW6 := Lib.hid (show Below w3.heap.size w3 w6 from by rw [← hw6]; exact (below_onto HB4.out HGB.out).alloc (by have := (below_onto HB4.out HGB.out).size; omega) _)
  go_wp2_with fail
  clear hw6 hO
  refine (l12Made_any a c xs (k) (x) hx HF.out _ (HI.out.below HW6.out (Nat.le_refl _))).mono ?_
  rintro e w7 ⟨gm, cm, rfl, hom, hb7⟩
  have HC7 := Lib.hid (HC.out.kept hb7)
  have HO6 := Lib.hid HC.out.o.lt
  have HOM := Lib.hid hom
  have ho0 := HC7.out.o.cell.1; have ho1 := HC7.out.o.cell.2; have hf0 := HC7.out.o.frozen 0; have hf1 := HC7.out.o.frozen 1
  have hR := HC7.out.r
  have hr0 := hR.cell.1; have hr1 := hR.cell.2; have hr2 := hR.frozen 0; have hr3 := hR.frozen 1
  have HR := Lib.hid hR
  clear hom hb7 hR hc0 hc1 hk0 hk1
  rw [HYS.out] at HOM ⊢
  rw [HCB.out]
  have hne2 : ¬ O = w.heap.size + 1 + 1 := by have h1 := HC.out.lo; have h2 := HC.out.bo; omega
  have hne3 : ¬ w.heap.size + 1 + 1 = O := fun e => hne2 e.symm
  obtain ⟨g1, c1, hv1, _⟩ := HC7.out.now.shape hlen.1
  injection hv1 with h1 h2 h3
  subst h1; subst h3; clear h2
  have HA1 := Lib.hid (fun r (hr : r ∈ rs) (e : r.g = g1) => HC7.out.sep g1 rfl (.inr ⟨r, hr, e⟩))
  have HA2 : Hid ((Value.slice p2 n e2).ownBlock ≠ some g1) := Lib.hid (fun e => HC7.out.sep g1 rfl (.inl e))
  have HA3 := Lib.hid (show B ≤ w7.heap.size from by have h1 := HC7.out.o.lt; have h2 := HC7.out.bo; omega)
  have HA4 := Lib.hid (show rs.length ≤ 1000 by rw [HRL.out]; omega)
  go_wp2_with (at_builtin; refine append_fr rfl (.tmp 52) (.tmp 55) rfl B (.slice p2 n e2) rs ⟨g1, e1, xs⟩ w7 rfl rfl HC7.out.own HA4.out HC7.out.now HA1.out HA2.out HA3.out ?_)
  intro g9 c9 w8 ho9 hb9 hu9 hat9
  rw [HRL.out] at ho9 ⊢
  have HO9 := Lib.hid ho9; have HU9 := Lib.hid hu9
  have HAT := Lib.hid (show ∀ q, FB (.slice (some ⟨g9, 0, none⟩) (n + 1) c9) (rs ++ [⟨g1, e1, xs⟩]) q → q < O ∨ w7.heap.size ≤ q from fun q hq => by
    rcases hq with hq | ⟨r, hr, e⟩
    · injection hq with hq
      have hq : g9 = q := hq
      rcases hat9 with h | h
      · have := HC7.out.low2 g9 (.inl h); omega
      · omega
    · rcases List.mem_append.1 hr with hr | hr
      · have := HC7.out.low2 r.g (.inr ⟨r, hr, rfl⟩); omega
      · rw [List.mem_singleton] at hr
        subst hr
        have e : g1 = q := e
        have := HC7.out.low1 g1 rfl; omega)
  have hO8 : Blk2 w8 O 31 (.slice (some ⟨g1, 0, none⟩) xs.length e1) (.slice p2 n e2) := (hu9.block O HC7.out.o.lt (fun e => by have := HC7.out.low2 O (.inl e); omega)).trans HC7.out.o
  have hR8 : Blk2 w8 (w.heap.size + 1 + 1) 31 (.slice none 0 0) (.slice none 0 0) := (hu9.block _ HC7.out.r.lt (fun e => by have h1 := (HC7.out.own.fams.ltB _ (.inl e)).1; have h2 := HC7.out.lo; omega)).trans HC7.out.r
  have hs0 := hO8.cell.1; have hs1 := hO8.cell.2; have ht0 := hO8.frozen 0; have ht1 := hO8.frozen 1
  have hu0 := hR8.cell.1; have hu1 := hR8.cell.2; have hu2 := hR8.frozen 0; have hu3 := hR8.frozen 1
  have HR8 := Lib.hid hR8
  have HB8 := Lib.hid (show Below w.heap.size w w8 from HC7.out.bel.trans (hb9.mono (by have := HC7.out.lo; omega)))
  obtain ⟨q1, hcp2, hcp3⟩ := ho9.cap (by omega)
  have HW8 := Lib.hid (show w8.heap.size = w8.heap.size from rfl)
  have HXS := Lib.hid HC7.out.xs
  have HLO := Lib.hid (show w.heap.size ≤ O from by have h1 := HC.out.lo; have h2 := HC.out.bo; omega)
  clear ho9 hb9 hu9 hat9 hO8 hR8 q1 ho0 ho1 hf0 hf1 hr0 hr1 hr2 hr3 HR
  by_cases hn8 : n = 8
  · have hg8 : decide ((8 : Int) < (n : Int) + 1) = true := decide_eq_true (by omega)
    have hg8n : (8 : Int) < (n : Int) + 1 := by omega
    have hsl := fun W => run_from1 g9 n c9 hcp2 (by omega) W
    have HG : Hid (GivesP ys ((L ++ [xs]).drop (n - 7)) w (((((w8.setCell ⟨O, 1, none⟩ (.slice (some ⟨g9, 0, none⟩) (n + 1) c9)).setCell ⟨O, 1, none⟩ (.slice (some ⟨g9, 1, none⟩) n (c9 - 1))).setCell ⟨O, 0, none⟩ (.slice gm ys.length cm)).setCell ⟨w.heap.size + 1 + 1, 0, none⟩ (.slice gm ys.length cm)).setCell ⟨w.heap.size + 1 + 1, 1, none⟩ (.slice (some ⟨g9, 1, none⟩) n (c9 - 1))) (.slice gm ys.length cm) (.slice (some ⟨g9, 1, none⟩) n (c9 - 1))) := Lib.hid (by
      have h9 := HO9.out
      have hl := HRL.out
      have hat := HAT.out
      have hxs := HXS.out
      cases rs with
      | nil => exact absurd hl (by rw [hn8]; simp)
      | cons r rs' =>
        have ht := h9.tail
        refine HC7.out.change HO6.out HOM.out HU9.out ht (fun q hq => hat q (FB_tail hq)) (fun q hq => ((set_blk (show q ≠ O from hq)).trans (set_blk (show q ≠ O from hq))).trans (set_blk (show q ≠ O from hq))) (by simp [World.setCell]) ?_ ?_ (fun hlen => ?_)
        · exact ((HB8.out.setCell (p := ⟨O, 1, none⟩) HLO.out _).setCell (p := ⟨O, 1, none⟩) HLO.out _).setCell (p := ⟨O, 0, none⟩) HLO.out _
        · rw [← hxs, hn8]; simp
        · exfalso
          rw [← hxs, hn8] at hlen
          simp at hlen hl
          omega)
    have HN8 := Lib.hid hn8
    clear hn8
    go_wp2_with fail
    refine bodyPost_ret (results_desk rfl _ _ (w.heap.size + 1 + 1) (((((HR8.out.other hne3 1 (.slice (some ⟨g9, 0, none⟩) (n + 1) c9)).other hne3 1 (.slice (some ⟨g9, 1, none⟩) n (c9 - 1))).other hne3 0 (.slice gm ys.length cm)).set0 (.slice gm ys.length cm)).set1 (.slice (some ⟨g9, 1, none⟩) n (c9 - 1))) rfl rfl (by kernel_rfl)) rfl ?_
    exact ⟨_, _, rfl, HG.out⟩
  · have hg8 : decide ((8 : Int) < (n : Int) + 1) = false := decide_eq_false (by omega)
    have hg8n : ¬ (8 : Int) < (n : Int) + 1 := by omega
    have HG : Hid (GivesP ys ((L ++ [xs]).drop (n - 7)) w ((((w8.setCell ⟨O, 1, none⟩ (.slice (some ⟨g9, 0, none⟩) (n + 1) c9)).setCell ⟨O, 0, none⟩ (.slice gm ys.length cm)).setCell ⟨w.heap.size + 1 + 1, 0, none⟩ (.slice gm ys.length cm)).setCell ⟨w.heap.size + 1 + 1, 1, none⟩ (.slice (some ⟨g9, 0, none⟩) (n + 1) c9)) (.slice gm ys.length cm) (.slice (some ⟨g9, 0, none⟩) (n + 1) c9)) := Lib.hid (by
      refine HC7.out.change HO6.out HOM.out HU9.out HO9.out.fams HAT.out (fun q hq => (set_blk (show q ≠ O from hq)).trans (set_blk (show q ≠ O from hq))) (by simp [World.setCell]) ?_ ?_ (fun _ => HO9.out)
      · exact (HB8.out.setCell (p := ⟨O, 1, none⟩) HLO.out _).setCell (p := ⟨O, 0, none⟩) HLO.out _
      · rw [← HXS.out, show n - 7 = 0 by omega]; simp)
    clear hn8
    go_wp2_with fail
    refine bodyPost_ret (results_desk rfl _ _ (w.heap.size + 1 + 1) ((((HR8.out.other hne3 1 (.slice (some ⟨g9, 0, none⟩) (n + 1) c9)).other hne3 0 (.slice gm ys.length cm)).set0 (.slice gm ys.length cm)).set1 (.slice (some ⟨g9, 0, none⟩) (n + 1) c9)) rfl rfl (by kernel_rfl)) rfl ?_
    exact ⟨_, _, rfl, HG.out⟩
set_option maxRecDepth 100000 in
theorem specDeskDo_keep (d : Value) (xs : List Int) (L : List (List Int)) (k x : Int) (hx : I64 x) (hdk : deskB xs L = true) (hne : ¬ (k = 4 ∧ x = 0)) (hcb : chB xs (k) (x) = false) (w : World) (h : DeskR w d xs L) :
    Calls Tryz.prog 67 #[d, .agg #[.int .i64 k, .int .i64 x]] w (DoneP (chB xs (k) (x)) (if chB xs (k) (x) then mdS xs (k) (x) else xs) (if chB xs (k) (x) then (L ++ [xs]).drop (L.length - 7) else L) w) := by
  have e1 : ∀ A : List Int, (if chB xs (k) (x) = true then A else xs) = xs := fun A => by rw [hcb]; rfl
  have e2 : ∀ A : List (List Int), (if chB xs (k) (x) = true then A else L) = L := fun A => by rw [hcb]; rfl
  rw [e1, e2, hcb]
  have HCB := Lib.hid hcb
  obtain ⟨ys, hys⟩ : ∃ ys, mdS xs (k) (x) = ys := ⟨_, rfl⟩
  have HYS := Lib.hid hys
  clear hcb e1 e2 hys
  have hdd := h
  obtain ⟨a, c, b, c2, rfl, hi, hnst⟩ := h.parts
  obtain ⟨hf, h8, hL⟩ := deskB_iff.1 hdk
  have hlen := famL_len hf
  obtain ⟨n, hnn⟩ : ∃ n, L.length = n := ⟨_, rfl⟩
  have HNN := Lib.hid hnn
  have hst := start3 w (.slice a xs.length c) (.slice b L.length c2) k x
  rw [hnn] at hst h8
  have hdr := hdd.kept hst.bel
  rw [hnn] at hdr ⊢
  have hi3 := hi.below hst.bel (Nat.le_refl _)
  obtain ⟨w3, hw3⟩ : ∃ w3, ((w.alloc (.cells #[.slice a xs.length c, .slice b n c2] 31)).alloc (.cells #[.int .i64 (k), .int .i64 (x)] 39)).alloc (.cells #[.slice none 0 0, .slice none 0 0] 31) = w3 := ⟨_, rfl⟩
  rw [hw3] at hst hdr hi3
  have HST := Lib.hid hst; have HDR := Lib.hid hdr; have HDK := Lib.hid hdk; have HI := Lib.hid hi3; have HF := Lib.hid hf
  have hd0 := hst.d.cell.1; have hd1 := hst.d.cell.2
  clear h hdd hst hdr hdk hi hnst hL hi3 hf hnn
  have heq := fun W => eqDeedV_val k x 4 0 false (by rw [Bool.and_eq_false_iff]; simp; omega) W
  clear hne
  go_enter Tryz.func67, Tryz.ntmps67
  go_wp2_with fail
  clear hw3
  refine (specDeskOk_any _ xs L _ HDR.out).mono ?_
  rintro e w4 ⟨rfl, hb4⟩
  rw [HDK.out]
  have HB4 := Lib.hid hb4
  have hD := HST.out.d.kept hb4 HST.out.d.lt
  have he0 := hD.cell.1; have he1 := hD.cell.2
  clear hb4 hD hd0 hd1
  go_wp2_with fail
  refine (l12Copy_any _ xs L HDK.out _ (HDR.out.kept HB4.out)).mono ?_
  rintro e w5 ⟨v1, v2, rfl, hg⟩
  obtain ⟨rs, hcp⟩ := cpP_of HST.out HB4.out hg
  have HGB := Lib.hid hg.desk.below
  obtain ⟨p1, e1, rfl⟩ := hcp.now.slice
  obtain ⟨p2, e2, hv2⟩ := hcp.own.fams.seq.slice
  have hrl : rs.length = n := by rw [← HNN.out, ← hcp.xs, List.length_map]
  rw [List.length_map, hrl] at hv2
  subst hv2
  have HRL := Lib.hid hrl
  obtain ⟨O, hO⟩ : ∃ O, w5.heap.size = O := ⟨_, rfl⟩
  obtain ⟨B, hB⟩ : ∃ B, w4.heap.size = B := ⟨_, rfl⟩
  obtain ⟨w6, hw6⟩ : ∃ w6, w5.alloc (.cells #[.slice p1 xs.length e1, .slice p2 n e2] 31) = w6 := ⟨_, rfl⟩
  rw [hO, hB, hw6] at hcp
  have HC := Lib.hid hcp
  have hc0 := hcp.d.cell.1; have hc1 := hcp.d.cell.2; have hk0 := hcp.e.cell.1; have hk1 := hcp.e.cell.2
  clear he0 he1 hrl hB hg hcp
  have HW6 := Lib.hid (show Below w3.heap.size w3 w6 from by rw [← hw6]; exact (below_onto HB4.out HGB.out).alloc (by have := (below_onto HB4.out HGB.out).size; omega) _)
  go_wp2_with fail
  clear hw6 hO
  refine (l12Made_any a c xs (k) (x) hx HF.out _ (HI.out.below HW6.out (Nat.le_refl _))).mono ?_
  rintro e w7 ⟨gm, cm, rfl, hom, hb7⟩
  have HC7 := Lib.hid (HC.out.kept hb7)
  have HO6 := Lib.hid HC.out.o.lt
  have HOM := Lib.hid hom
  have ho0 := HC7.out.o.cell.1; have ho1 := HC7.out.o.cell.2; have hf0 := HC7.out.o.frozen 0; have hf1 := HC7.out.o.frozen 1
  have hR := HC7.out.r
  have hr0 := hR.cell.1; have hr1 := hR.cell.2; have hr2 := hR.frozen 0; have hr3 := hR.frozen 1
  have HR := Lib.hid hR
  clear hom hb7 hR hc0 hc1 hk0 hk1
  rw [HYS.out] at HOM ⊢
  rw [HCB.out]
  have HG := Lib.hid HC7.out.same
  go_wp2_with fail
  refine bodyPost_ret (results_desk rfl _ _ (w.heap.size + 1 + 1) ((HR.out.set0 (.slice p1 xs.length e1)).set1 (.slice p2 n e2)) rfl rfl (by kernel_rfl)) rfl ?_
  exact ⟨_, _, rfl, HG.out⟩
set_option maxRecDepth 100000 in
theorem specDeskDo_nil (d : Value) (xs : List Int) (L : List (List Int)) (hdk : deskB xs L = true) (hne : L = []) (hcb : chB xs (4) (0) = false) (w : World) (h : DeskR w d xs L) :
    Calls Tryz.prog 67 #[d, .agg #[.int .i64 4, .int .i64 0]] w (DoneP (chB xs (4) (0)) (if chB xs (4) (0) then mdS xs (4) (0) else xs) (if chB xs (4) (0) then (L ++ [xs]).drop (L.length - 7) else L) w) := by
  have e1 : ∀ A : List Int, (if chB xs (4) (0) = true then A else xs) = xs := fun A => by rw [hcb]; rfl
  have e2 : ∀ A : List (List Int), (if chB xs (4) (0) = true then A else L) = L := fun A => by rw [hcb]; rfl
  rw [e1, e2, hcb]
  have HCB := Lib.hid hcb
  obtain ⟨ys, hys⟩ : ∃ ys, mdS xs (4) (0) = ys := ⟨_, rfl⟩
  have HYS := Lib.hid hys
  clear hcb e1 e2 hys
  have hdd := h
  obtain ⟨a, c, b, c2, rfl, hi, hnst⟩ := h.parts
  obtain ⟨hf, h8, hL⟩ := deskB_iff.1 hdk
  have hlen := famL_len hf
  obtain ⟨n, hnn⟩ : ∃ n, L.length = n := ⟨_, rfl⟩
  have HNN := Lib.hid hnn
  have hst := start3 w (.slice a xs.length c) (.slice b L.length c2) 4 0
  rw [hnn] at hst h8
  have hdr := hdd.kept hst.bel
  rw [hnn] at hdr ⊢
  have hi3 := hi.below hst.bel (Nat.le_refl _)
  obtain ⟨w3, hw3⟩ : ∃ w3, ((w.alloc (.cells #[.slice a xs.length c, .slice b n c2] 31)).alloc (.cells #[.int .i64 (4), .int .i64 (0)] 39)).alloc (.cells #[.slice none 0 0, .slice none 0 0] 31) = w3 := ⟨_, rfl⟩
  rw [hw3] at hst hdr hi3
  have HST := Lib.hid hst; have HDR := Lib.hid hdr; have HDK := Lib.hid hdk; have HI := Lib.hid hi3; have HF := Lib.hid hf
  have hd0 := hst.d.cell.1; have hd1 := hst.d.cell.2
  clear h hdd hst hdr hdk hi hnst hL hi3 hf hnn
  have heq := fun W => eqDeedV_val 4 0 4 0 true rfl W
  have hn0 : n = 0 := by rw [← HNN.out, hne]; rfl
  have hgt : decide ((0 : Int) < (n : Int)) = false := decide_eq_false (by omega)
  have hgt2 : decide (0 < n) = false := decide_eq_false (by omega)
  have hgt3 : ¬ 0 < n := by omega
  clear hne hn0
  go_enter Tryz.func67, Tryz.ntmps67
  go_wp2_with fail
  clear hw3
  refine (specDeskOk_any _ xs L _ HDR.out).mono ?_
  rintro e w4 ⟨rfl, hb4⟩
  rw [HDK.out]
  have HB4 := Lib.hid hb4
  have hD := HST.out.d.kept hb4 HST.out.d.lt
  have he0 := hD.cell.1; have he1 := hD.cell.2
  clear hb4 hD hd0 hd1
  go_wp2_with fail
  refine (l12Copy_any _ xs L HDK.out _ (HDR.out.kept HB4.out)).mono ?_
  rintro e w5 ⟨v1, v2, rfl, hg⟩
  obtain ⟨rs, hcp⟩ := cpP_of HST.out HB4.out hg
  have HGB := Lib.hid hg.desk.below
  obtain ⟨p1, e1, rfl⟩ := hcp.now.slice
  obtain ⟨p2, e2, hv2⟩ := hcp.own.fams.seq.slice
  have hrl : rs.length = n := by rw [← HNN.out, ← hcp.xs, List.length_map]
  rw [List.length_map, hrl] at hv2
  subst hv2
  have HRL := Lib.hid hrl
  obtain ⟨O, hO⟩ : ∃ O, w5.heap.size = O := ⟨_, rfl⟩
  obtain ⟨B, hB⟩ : ∃ B, w4.heap.size = B := ⟨_, rfl⟩
  obtain ⟨w6, hw6⟩ : ∃ w6, w5.alloc (.cells #[.slice p1 xs.length e1, .slice p2 n e2] 31) = w6 := ⟨_, rfl⟩
  rw [hO, hB, hw6] at hcp
  have HC := Lib.hid hcp
  have hc0 := hcp.d.cell.1; have hc1 := hcp.d.cell.2; have hk0 := hcp.e.cell.1; have hk1 := hcp.e.cell.2
  clear he0 he1 hrl hB hg hcp
  have HW6 := Lib.hid (show Below w3.heap.size w3 w6 from by rw [← hw6]; exact (below_onto HB4.out HGB.out).alloc (by have := (below_onto HB4.out HGB.out).size; omega) _)
  go_wp2_with fail
  clear hw6 hO
  refine (l12Made_any a c xs 4 0 (by unfold I64; omega) HF.out _ (HI.out.below HW6.out (Nat.le_refl _))).mono ?_
  rintro e w7 ⟨gm, cm, rfl, hom, hb7⟩
  have HC7 := Lib.hid (HC.out.kept hb7)
  have HO6 := Lib.hid HC.out.o.lt
  have HOM := Lib.hid hom
  have ho0 := HC7.out.o.cell.1; have ho1 := HC7.out.o.cell.2; have hf0 := HC7.out.o.frozen 0; have hf1 := HC7.out.o.frozen 1
  have hR := HC7.out.r
  have hr0 := hR.cell.1; have hr1 := hR.cell.2; have hr2 := hR.frozen 0; have hr3 := hR.frozen 1
  have HR := Lib.hid hR
  clear hom hb7 hR hc0 hc1 hk0 hk1
  rw [HYS.out] at HOM ⊢
  rw [HCB.out]
  have HG := Lib.hid HC7.out.same
  go_wp2_with fail
  refine bodyPost_ret (results_desk rfl _ _ (w.heap.size + 1 + 1) ((HR.out.set0 (.slice p1 xs.length e1)).set1 (.slice p2 n e2)) rfl rfl (by kernel_rfl)) rfl ?_
  exact ⟨_, _, rfl, HG.out⟩
theorem specDeskDo_any (d : Value) (xs : List Int) (L : List (List Int)) (k x : Int) (hx : I64 x) (w : World) (h : DeskR w d xs L) :
    Calls Tryz.prog 67 #[d, .agg #[.int .i64 k, .int .i64 x]] w (DoneP (dkB xs L k x) (dkX xs L k x) (dkL xs L k x) w) := by
  cases hdk : deskB xs L with
  | false =>
    obtain ⟨e1, e2, e3⟩ := dk_none (k := k) (x := x) hdk
    rw [e1, e2, e3]
    exact specDeskDo_no d xs L k x hx hdk w h
  | true =>
    by_cases hB : k = 4 ∧ x = 0 ∧ L ≠ []
    · obtain ⟨rfl, rfl, hne⟩ := hB
      rw [dkB_back hdk, (dk_back hdk hne).1, (dk_back hdk hne).2, decide_eq_true hne]
      exact specDeskDo_back d xs L hdk hne w h
    · obtain ⟨e1, e2, e3⟩ := dk_other hdk hB
      rw [e1, e2, e3]
      by_cases h4 : k = 4 ∧ x = 0
      · obtain ⟨rfl, rfl⟩ := h4
        have hL : L = [] := by
          by_cases hL : L = []
          · exact hL
          · exact absurd ⟨rfl, rfl, hL⟩ hB
        have hcb : chB xs 4 0 = false := chB_fam (by rw [show mdL xs 4 0 = [] from rfl]; exact famL_nil)
        exact specDeskDo_nil d xs L hdk hL hcb w h
      · cases hcb : chB xs k x with
        | true => have := specDeskDo_yes d xs L k x hx hdk h4 hcb w h; rw [hcb] at this; exact this
        | false => have := specDeskDo_keep d xs L k x hx hdk h4 hcb w h; rw [hcb] at this; exact this
def okD (ys : List Int) (M : List (List Int)) : Prop := (ys.length ≤ 7 ∧ I64s ys) ∧ M.length ≤ 8 ∧ ∀ l ∈ M, l.length ≤ 7 ∧ I64s l
theorem okD_nil : okD [] [] := ⟨⟨by simp, fun y hy => by simp at hy⟩, by simp, fun l hl => by simp at hl⟩
theorem okD_desk {ys : List Int} {M : List (List Int)} (h : deskB ys M = true) : okD ys M := by
  obtain ⟨h1, h2, h3⟩ := deskB_iff.1 h
  exact ⟨⟨(famL_len h1).2, famL_I64 h1⟩, h2, fun l hl => ⟨(famL_len (h3 l hl)).2, famL_I64 (h3 l hl)⟩⟩
theorem okD.tot {ys : List Int} {M : List (List Int)} (h : okD ys M) {rs : List Fr} (hr : rs.map Fr.xs = M) : totF rs ≤ 56 := by
  obtain ⟨_, h2, h3⟩ := h
  have key : ∀ N : List (List Int), (∀ l ∈ N, l.length ≤ 7) → (N.map List.length).sum ≤ 7 * N.length := by
    intro N
    induction N with
    | nil => intro _; simp
    | cons l N ih =>
      intro hN
      have := ih (fun l hl => hN l (List.mem_cons_of_mem _ hl))
      have := hN l (List.mem_cons_self)
      rw [List.map_cons, List.sum_cons, List.length_cons]; omega
  have := key M (fun l hl => (h3 l hl).1)
  unfold totF
  rw [hr]; omega
structure DeskV (W : World) (B T b : Nat) (v1 v2 : Value) (ys : List Int) (rs : List Fr) : Prop where
  blk : Blk2 W b 31 v1 v2
  g : DeskG W B v1 v2 ys rs
  ne : ¬ DkBl v1 v2 rs b
  lo : B ≤ b
  hi : b < T ∧ ∀ q, DkBl v1 v2 rs q → q < T
theorem deskV_of {w w5 : World} {v1 v2 : Value} {ys : List Int} {M : List (List Int)} (h : GivesD ys M w w5 v1 v2) :
    ∃ rs, DeskV (w5.alloc (.cells #[v1, v2] 31)) w.heap.size (w5.heap.size + 1) w5.heap.size v1 v2 ys rs ∧ rs.map Fr.xs = M := by
  obtain ⟨rs, hg, hrs, hb⟩ := h
  exact ⟨rs, ⟨Blk2.new _ _ _ _, hg.kept (alloc_below _ _), fun e => by have := (hg.ltB _ e).2; omega, hb.size, Nat.lt_succ_self _, fun q hq => by have := (hg.ltB q hq).2; omega⟩, hrs⟩
theorem DeskV.kept {W W' : World} {B T b : Nat} {v1 v2 : Value} {ys : List Int} {rs : List Fr} (h : DeskV W B T b v1 v2 ys rs) (hb : Below W.heap.size W W') : DeskV W' B T b v1 v2 ys rs := ⟨h.blk.kept hb h.blk.lt, h.g.kept hb, h.ne, h.lo, h.hi⟩
theorem DeskV.upon {F : Nat → Prop} {W W' : World} {B T b : Nat} {v1 v2 : Value} {ys : List Int} {rs : List Fr} (h : DeskV W B T b v1 v2 ys rs) (hu : Upon F W W') (hF : ∀ q, B ≤ q → q < T → ¬ F q) : DeskV W' B T b v1 v2 ys rs :=
  ⟨(hu.block b h.blk.lt (hF b h.lo h.hi.1)).trans h.blk, h.g.upon hu (fun q hq => hF q (h.g.ltB q hq).1 (h.hi.2 q hq)), h.ne, h.lo, h.hi⟩
theorem DeskV.read {W : World} {B T b : Nat} {v1 v2 : Value} {ys : List Int} {M : List (List Int)} {rs : List Fr} (h : DeskV W B T b v1 v2 ys rs) (hM : rs.map Fr.xs = M) (hk : okD ys M) : DeskR W (.agg #[v1, v2]) ys M := by
  obtain ⟨⟨h1, h2⟩, h3, h4⟩ := hk
  rw [← hM]
  exact h.g.read ⟨by omega, h2⟩ (fun r hr => by have := h4 r.xs (by rw [← hM]; exact List.mem_map.2 ⟨r, hr, rfl⟩); exact ⟨by omega, this.2⟩)
theorem DeskV.mark {W W' : World} {B T b s m : Nat} {v1 v2 : Value} {ys : List Int} {rs : List Fr} {e : Ending} (h : DeskV W B T b v1 v2 ys rs) (hm : MarkD B v1 v2 ys rs s m W e W') : DeskV W' B T b v1 v2 (runL s ys.length) (mkF (s + ys.length) rs) := by
  obtain ⟨_, h2, h3⟩ := hm
  have hcv : ∀ q, DkBl v1 v2 (mkF (s + ys.length) rs) q → DkBl v1 v2 rs q := fun q hq => by
    rcases hq with hq | hq
    · exact .inl hq
    · exact .inr (FB_mk.1 hq)
  exact ⟨(h3.block b h.blk.lt h.ne).trans h.blk, h2, fun e => h.ne (hcv _ e), h.lo, h.hi.1, fun q hq => h.hi.2 q (hcv q hq)⟩
theorem DeskV.markU {W W' : World} {B T b s m : Nat} {v1 v2 : Value} {ys : List Int} {rs : List Fr} {e : Ending} (h : DeskV W B T b v1 v2 ys rs) (hm : MarkD B v1 v2 ys rs s m W e W') : Upon (fun q => B ≤ q ∧ q < T) W W' :=
  hm.2.2.mono (fun q _ hq => ⟨(h.g.ltB q hq).1, h.hi.2 q hq⟩)
theorem blk2_dr3 {w : World} {B : Nat} {t : TypeId} {x y : Value} (h : Blk2 w B t x y) : Blk2 w.drew B t x y := h
theorem alloc_lt3 (w : World) (o : Obj) : w.heap.size < (w.alloc o).heap.size := by rw [alloc_size]; exact Nat.lt_succ_self _
theorem blk2_new_dr3 {w w' : World} {t : TypeId} {x y : Value} (h : Below (w.alloc (.cells #[x, y] t)).drew.heap.size (w.alloc (.cells #[x, y] t)).drew w') : Blk2 w' w.heap.size t x y := (blk2_dr3 (Blk2.new w t x y)).kept h (alloc_lt3 w _)
def okD9 (ys : List Int) (M : List (List Int)) : Prop := (ys.length ≤ 8 ∧ I64s ys) ∧ M.length ≤ 9 ∧ ∀ l ∈ M, l.length ≤ 8 ∧ I64s l
theorem okD.nine {ys : List Int} {M : List (List Int)} (h : okD ys M) : okD9 ys M := ⟨⟨by have := h.1.1; omega, h.1.2⟩, by have := h.2.1; omega, fun l hl => ⟨by have := (h.2.2 l hl).1; omega, (h.2.2 l hl).2⟩⟩
theorem okD9.read {W : World} {B : Nat} {v1 v2 : Value} {ys : List Int} {M : List (List Int)} {rs : List Fr} (hk : okD9 ys M) (h : DeskG W B v1 v2 ys rs) (hM : rs.map Fr.xs = M) : DeskR W (.agg #[v1, v2]) ys M := by
  obtain ⟨⟨h1, h2⟩, h3, h4⟩ := hk
  rw [← hM]
  exact h.read ⟨by omega, h2⟩ (fun r hr => by have := h4 r.xs (by rw [← hM]; exact List.mem_map.2 ⟨r, hr, rfl⟩); exact ⟨by omega, this.2⟩)
theorem run_add_str (a b : ByteArray) (h : a.size + b.size ≤ 1000) : ∀ W, (Op.stringOp .add a b).run Tryz.prog W = .ok (.string (a ++ b)) W := fun W => run_string_add_sum W a b (by omega)
theorem okD.gives {ys : List Int} {M : List (List Int)} {w w' : World} {v1 v2 : Value} (hk : okD ys M) (h : GivesD ys M w w' v1 v2) :
    ∃ a c b c2, v1 = .slice a ys.length c ∧ v2 = .slice b M.length c2 ∧ DeskR w' (.agg #[.slice a ys.length c, .slice b M.length c2]) ys M ∧ Below w.heap.size w w' := by
  obtain ⟨h1, h2, ⟨a, c, rfl⟩, b, c2, rfl⟩ := h.read ⟨by have := hk.1.1; omega, hk.1.2⟩ (fun l hl => ⟨by have := (hk.2.2 l hl).1; omega, (hk.2.2 l hl).2⟩)
  exact ⟨a, c, b, c2, rfl, rfl, h1, h2⟩
structure VarD (w : World) (A : Nat) (a b : Option Addr) (c c2 : Nat) (xs : List Int) (L : List (List Int)) : Prop where
  blk : Blk2 w A 31 (.slice a xs.length c) (.slice b L.length c2)
  d : DeskR w (.agg #[.slice a xs.length c, .slice b L.length c2]) xs L
theorem VarD.kept {w w' : World} {A : Nat} {a b : Option Addr} {c c2 : Nat} {xs : List Int} {L : List (List Int)} (h : VarD w A a b c c2 xs L) (hb : Below w.heap.size w w') : VarD w' A a b c c2 xs L := ⟨h.blk.kept hb h.blk.lt, h.d.kept hb⟩
theorem VarD.new {w : World} {a b : Option Addr} {c c2 : Nat} {xs : List Int} {L : List (List Int)} (h : DeskR w (.agg #[.slice a xs.length c, .slice b L.length c2]) xs L) : VarD (w.alloc (.cells #[.slice a xs.length c, .slice b L.length c2] 31)) w.heap.size a b c c2 xs L :=
  ⟨Blk2.new w _ _ _, h.kept (alloc_below w _)⟩
theorem DeskR.now {w : World} {a b : Option Addr} {c c2 : Nat} {xs : List Int} {L : List (List Int)} (h : DeskR w (.agg #[.slice a xs.length c, .slice b L.length c2]) xs L) : Ints w a xs.length (fun j => xs.getD j 0) := by
  obtain ⟨a', c', b', c2', e, h1, h2, h3, h4⟩ := h
  injection e with e
  have e1 := congrArg (fun q : Array Value => q.getD 0 undef) e
  injection e1 with e2 e3 e4
  subst e2
  exact h3
theorem DeskV.base {W : World} {B B' T b : Nat} {v1 v2 : Value} {ys : List Int} {rs : List Fr} (h : DeskV W B T b v1 v2 ys rs) (hB : B' ≤ B) : DeskV W B' T b v1 v2 ys rs := ⟨h.blk, h.g.base hB, h.ne, Nat.le_trans hB h.lo, h.hi⟩
theorem DeskV.readX {W : World} {B T b : Nat} {v1 v2 : Value} {ys : List Int} {M : List (List Int)} {rs : List Fr} (h : DeskV W B T b v1 v2 ys rs) (hM : rs.map Fr.xs = M) (h1 : ys.length ≤ 9223372036854775807 ∧ I64s ys) (h2 : ∀ l ∈ M, l.length ≤ 9223372036854775807 ∧ I64s l) : DeskR W (.agg #[v1, v2]) ys M := by
  rw [← hM]
  exact h.g.read h1 (fun r hr => h2 r.xs (by rw [← hM]; exact List.mem_map.2 ⟨r, hr, rfl⟩))
theorem tot_big {rs : List Fr} {M : List (List Int)} (hM : rs.map Fr.xs = M) (h1 : M.length ≤ 1048576) (h2 : ∀ l ∈ M, l.length ≤ 1048576) : totF rs ≤ 1099511627776 := by
  have key : ∀ N : List (List Int), (∀ l ∈ N, l.length ≤ 1048576) → (N.map List.length).sum ≤ 1048576 * N.length := by
    intro N
    induction N with
    | nil => intro _; simp
    | cons l N ih =>
      intro hN
      have := ih (fun l hl => hN l (List.mem_cons_of_mem _ hl))
      have := hN l (List.mem_cons_self)
      rw [List.map_cons, List.sum_cons, List.length_cons]; omega
  have := key M h2
  unfold totF
  rw [hM]
  omega
def DAd (p : Option Addr) (cp n : Nat) : Prop := n ≤ cp ∧ (p = none ∧ cp = 0 ∨ ∃ g, p = some ⟨g, 0, none⟩)
end Go.Proofs.YthaickihoagnmaaGreatDoor

