import Derived.Test.YthaickihoagnmaaGreatDoorDkTwo
import Derived.Test.YthaickihoagnmaaGreatDoorDkV
import Derived.Test.YthaickihoagnmaaGreatDoorFamTwo
import Derived.Test.YthaickihoagnmaaGreatDoorTxOne
namespace Go.Proofs.YthaickihoagnmaaGreatDoor
set_option linter.unusedVariables false
set_option linter.unusedSimpArgs false
open Go.RowKit Go.Maps

/-- a row is put behind another one, in a region that draws -/
theorem step_ap {ops : Array Oper} {o : Oper} {a : Act} {K : Act → World → Prop} {Q : Exit → Act → World → Prop} {E : Prop} (hgd : o.guard = none) (s x : Operand)
    (ho : o.op = .call { callee := .builtin .append, args := #[s, x], argTypes := #[28, 28] })
    (B : Nat) (v : Value) (ys xs zs : List Int) (hzs : ys ++ xs = zs) (h1 : 1 ≤ xs.length) (hl : xs.length ≤ 1000) (hly : ys.length ≤ 1000) (w : World) (g o' c : Nat) (hs : a.eval s = v) (hx : a.eval x = .slice (some ⟨g, o', none⟩) xs.length c) (hr : Row w g o' xs.length (fun j => xs.getD j 0)) (hown : OwnX w B 3 v ys) (hB : B ≤ w.heap.size)
    (hk : ∀ g c w', OwnX w' B 3 (.slice (some ⟨g, 0, none⟩) zs.length c) zs → Below B w w' → Upon (fun q => v.ownBlock = some q) w w' → K (a.put o.dst (.slice (some ⟨g, 0, none⟩) zs.length c)) w') :
    if Region.wanted o (yielded ops a.tmps) = true then Oper.wp Tryz.prog o a w K Q else E := by
  subst hzs
  obtain ⟨i0, hi0, hz0, hz1, hz2⟩ := info_parts Tryz.infoInt
  refine step_append_lies _ hgd s x 28 ho B 3 i0 (.int .i64 0) 1 8 Tryz.underlying28 hi0 hz0 hz1 hz2 rfl (by decide) v ys.length (ys.map (Value.int .i64)) hs hown ⟨g, o', none⟩ xs.length c (rowV (fun j => xs.getD j 0) xs.length) hx (by rw [rowV_len]; omega) (rowV_cells hr) (rowV_one _ _)
    (by omega) (by unfold maxLen; omega) (by omega) hB w.heap.size rfl ?_
  intro g' c' w' hown' hgrow hat hlt
  have e : ys.map (Value.int .i64) ++ rowV (fun j => xs.getD j 0) xs.length = (ys ++ xs).map (Value.int .i64) := by
    unfold rowV; rw [famL_get, List.map_append]
  rw [e, ← List.length_append] at hown'
  have hb : Below B w w' := (Below.refl B w).grown hgrow hB (fun q hq => (World.ownsRow.lt hown q hq).1)
  rw [← List.length_append]
  exact hk g' c' w' hown' hb (Upon.of_grown hgrow)
/-- a number is put behind a row, in a region that draws -/
theorem step_sn {ops : Array Oper} {o : Oper} {a : Act} {K : Act → World → Prop} {Q : Exit → Act → World → Prop} {E : Prop} (hgd : o.guard = none) (s x : Operand)
    (ho : o.op = .call { callee := .builtin .append, args := #[s, x], argTypes := #[28, 28] })
    (B : Nat) (v : Value) (ys zs : List Int) (z : Int) (hzs : ys ++ [z] = zs) (hly : ys.length ≤ 1000) (w : World) (hs : a.eval s = v) (hx : a.eval x = .slice (some ⟨w.heap.size, 0, none⟩) 1 1) (hown : OwnX w B 3 v ys) (hB : B ≤ w.heap.size)
    (hk : ∀ g c w', OwnX w' B 3 (.slice (some ⟨g, 0, none⟩) zs.length c) zs → Below B w w' → K (a.put o.dst (.slice (some ⟨g, 0, none⟩) zs.length c)) w') :
    if Region.wanted o (yielded ops a.tmps) = true then Oper.wp Tryz.prog o a (w.alloc (.cells #[.int .i64 z] 3)) K Q else E := by
  have hal := alloc_below w (.cells #[.int .i64 z] 3)
  refine step_ap hgd s x ho B v ys [z] zs hzs (by simp) (by simp) hly _ w.heap.size 0 1 hs hx (fun i hi => ?_) (hown.kept hal) (by rw [alloc_size]; omega) (fun g c w' q1 q2 _ => hk g c w' q1 ?_)
  · have : i = 0 := by simp at hi; omega
    subst this
    exact cell_one_new w (.int .i64 z) 3 0 _ rfl
  · exact (hal.mono hB).trans q2

/-- what the model makes of a family -/
def mdS (xs : List Int) (k x : Int) : List Int :=
  if k = 0 then xs ++ [x] else if k = 1 then xs.filter (fun y => y != x) else if k = 2 ∧ x = 0 then doneL xs.length (fun i => xs.getD i 0) (FP (memS xs.length (fun i => xs.getD i 0)))
  else if k = 3 ∧ x = 0 then doneL xs.length (fun i => xs.getD i 0) (FS xs.length (fun i => xs.getD i 0)) else []
theorem ms_md {xs : List Int} {k x : Int} (h : dOk k x = true) : mdS xs k x = mdL xs k x := by
  have hr := dOk_iff.1 h
  unfold mdS mdL
  by_cases h0 : k = 0
  · rw [if_pos h0, if_pos h0]
  rw [if_neg h0, if_neg h0]
  by_cases h1 : k = 1
  · rw [if_pos h1, if_pos h1]
  rw [if_neg h1, if_neg h1]
  have hx : x = 0 := by omega
  by_cases h2 : k = 2
  · rw [if_pos ⟨h2, hx⟩, if_pos h2]
  rw [if_neg (fun h => h2 h.1), if_neg h2]
  by_cases h3 : k = 3
  · rw [if_pos ⟨h3, hx⟩, if_pos h3]
  rw [if_neg (fun h => h3 h.1), if_neg h3]
theorem ms_no {xs : List Int} {k x : Int} (hf : famL xs = true) (h : dOk k x = false) : (famL (mdS xs k x) && decide ((mdS xs k x).length ≠ xs.length)) = false := by
  have hr : ¬ ((0 ≤ k ∧ k ≤ 1 ∧ 1 ≤ x ∧ x ≤ 15) ∨ (2 ≤ k ∧ k ≤ 4 ∧ x = 0)) := fun hh => by rw [dOk_iff.2 hh] at h; cases h
  unfold mdS
  by_cases h0 : k = 0
  · rw [if_pos h0]
    cases hb : famL (xs ++ [x]) with
    | false => rfl
    | true => have := famL_rng hb x (by simp); omega
  rw [if_neg h0]
  by_cases h1 : k = 1
  · rw [if_pos h1]
    have : xs.filter (fun y => y != x) = xs := List.filter_eq_self.2 (fun y hy => by have := famL_rng hf y hy; simp; omega)
    rw [this]; simp
  rw [if_neg h1, if_neg (fun hh => by omega), if_neg (fun hh => by omega), famL_nil, Bool.false_and]
theorem ms_ch {xs : List Int} {k x : Int} (hf : famL xs = true) : (famL (mdS xs k x) && decide ((mdS xs k x).length ≠ xs.length)) = chB xs k x := by
  cases h : dOk k x with
  | true => rw [ms_md h]; unfold chB; rw [h, Bool.true_and]
  | false => rw [ms_no hf h]; unfold chB; rw [h, Bool.false_and]
theorem ms_ok {xs : List Int} {k x : Int} (hf : famL xs = true) (hx : I64 x) : (mdS xs k x).length ≤ 8 ∧ I64s (mdS xs k x) := by
  unfold mdS
  by_cases h0 : k = 0
  · have := md_ok (k := 0) hf hx
    rw [if_pos h0]; exact this
  rw [if_neg h0]
  by_cases h1 : k = 1
  · have := md_ok (k := 1) hf hx
    rw [if_pos h1]; exact this
  rw [if_neg h1]
  split
  · have := md_ok (k := 2) hf hx
    exact this
  split
  · have := md_ok (k := 3) hf hx
    exact this
  · exact ⟨by simp, fun y hy => by simp at hy⟩
/-- what the model makes of a family, and whether it can be done -/
def MadeEnd (ys : List Int) (b : Bool) (w : World) (e : Ending) (w' : World) : Prop :=
  ∃ a c, e = .returned (.tuple #[.slice a ys.length c, .bool b]) ∧ OwnX w' w.heap.size 3 (.slice a ys.length c) ys ∧ Below w.heap.size w w'
/-- the state of a row from which a number is taken -/
structure TakeS (xs : List Int) (x : Int) (w w1 : World) (k : Nat) (v : Value) (wr : World) : Prop where
  own : OwnX wr (w.heap.size + 1) 3 v ((xs.take k).filter (fun y => y != x))
  bel : Below (w.heap.size + 1) w1 wr
theorem ms_1 {xs : List Int} {x : Int} : mdS xs 1 x = xs.filter (fun y => y != x) := rfl
theorem filt_in {xs : List Int} {x : Int} {k : Nat} (hk : k < xs.length) (h : (xs.getD k 0 != x) = true) : (xs.take (k + 1)).filter (fun y => y != x) = (xs.take k).filter (fun y => y != x) ++ [xs.getD k 0] := by
  rw [take_nextI hk, List.filter_append]
  congr 1
  rw [List.filter_cons, if_pos h]; rfl
theorem filt_out {xs : List Int} {x : Int} {k : Nat} (hk : k < xs.length) (h : (xs.getD k 0 != x) = false) : (xs.take (k + 1)).filter (fun y => y != x) = (xs.take k).filter (fun y => y != x) := by
  rw [take_nextI hk, List.filter_append]
  have : [xs.getD k 0].filter (fun y => y != x) = [] := by rw [List.filter_cons, if_neg (by rw [h]; decide)]; rfl
  rw [this, List.append_nil]

set_option maxRecDepth 100000 in
set_option maxHeartbeats 3200000 in
theorem l12Made_put (a : Option Addr) (c : Nat) (xs : List Int) (x : Int) (hx : I64 x) (hf : famL xs = true) (w : World) (h : Ints w a xs.length (fun j => xs.getD j 0)) :
    Calls Tryz.prog 120 #[.slice a xs.length c, .agg #[.int .i64 0, .int .i64 x]] w (MadeEnd (mdS xs (0) (x)) (chB xs (0) (x)) w) := by
  have hq := alloc_below w (.cells #[.int .i64 (0), .int .i64 (x)] 39)
  have hb2 := Blk2.new w 39 (.int .i64 (0)) (.int .i64 (x))
  have hal := alloc_below (w.alloc (.cells #[.int .i64 (0), .int .i64 (x)] 39)) (.cells #[] 3)
  have hmd : OwnX ((w.alloc (.cells #[.int .i64 (0), .int .i64 (x)] 39)).alloc (.cells #[] 3)) (w.alloc (.cells #[.int .i64 (0), .int .i64 (x)] 39)).heap.size 3 (.slice (some ⟨(w.alloc (.cells #[.int .i64 (0), .int .i64 (x)] 39)).heap.size, 0, none⟩) 0 0) [] := OwnX.made _ _ (Nat.le_refl _) _
  rw [alloc_size] at hmd
  have hb3 := hb2.kept hal hb2.lt
  have hq3 := below_onto hq hal
  have hi3 := h.below hq3 (Nat.le_refl _)
  have hsz : ((w.alloc (.cells #[.int .i64 (0), .int .i64 (x)] 39)).alloc (.cells #[] 3)).heap.size = w.heap.size + 2 := by rw [alloc_size, alloc_size]
  obtain ⟨w1, hw1⟩ : ∃ w1, (w.alloc (.cells #[.int .i64 (0), .int .i64 (x)] 39)).alloc (.cells #[] 3) = w1 := ⟨_, rfl⟩
  rw [hw1] at hmd hb3 hq3 hi3 hsz
  have HB3 := Lib.hid hb3; have HQ3 := Lib.hid hq3; have HI3 := Lib.hid hi3; have HMD := Lib.hid hmd; have HF := Lib.hid hf
  have hlen := famL_len hf
  have HSZ := Lib.hid hsz
  have hc0 := hb3.cell.1; have hc1 := hb3.cell.2
  have HOKS := Lib.hid (ms_ok (k := 0) (x := x) hf hx)
  have HCH := Lib.hid (ms_ch (k := 0) (x := x) hf)
  obtain ⟨cb, hcb⟩ : ∃ cb, chB xs (0) (x) = cb := ⟨_, rfl⟩
  rw [hcb] at HCH ⊢
  obtain ⟨ys, hys⟩ : ∃ ys, mdS xs (0) (x) = ys := ⟨_, rfl⟩
  rw [hys] at HCH HOKS ⊢
  have HYS := Lib.hid hys
  have HOK := HOKS
  have HIH := Lib.hid h
  clear h hq hb2 hal hmd hb3 hq3 hi3 hsz hf hcb hys HOKS
  obtain ⟨q, p, rfl, hql, hrow⟩ := HI3.out.row hlen.1
  have HRW : Hid (Row w1.drew q p xs.length (fun j => xs.getD j 0)) := Lib.hid (hrow.below (Below.refl _ _).drew hql)
  have HM1 : Hid (OwnX w1.drew (w.heap.size + 1) 3 (.slice (some ⟨w.heap.size + 1, 0, none⟩) 0 0) []) := Lib.hid HMD.out
  have HL1 := Lib.hid hlen.1
  have HS1 : Hid (w.heap.size + 1 ≤ w1.drew.heap.size) := Lib.hid (by show _ ≤ w1.heap.size; rw [HSZ.out]; omega)
  have hax : Below w1.heap.size w1 (w1.alloc (.cells #[.int .i64 x] 3)).drew := (alloc_below w1 _).drew
  have HBA := Lib.hid (hax.mono (show w.heap.size + 1 ≤ w1.heap.size by rw [HSZ.out]; omega))
  have HBD : Hid (Below (w.heap.size + 1) w1 w1.drew) := Lib.hid (Below.refl _ _).drew
  have HRW2 := Lib.hid (hrow.below hax hql)
  have HM3 := Lib.hid (HMD.out.kept hax)
  have HS2 := Lib.hid (Nat.le_trans HS1.out hax.size)
  have HX1 : Hid (Row (w1.alloc (.cells #[.int .i64 x] 3)).drew w1.heap.size 0 [x].length (fun j => [x].getD j 0)) := Lib.hid (fun i hi => by
    have : i = 0 := by simp at hi; omega
    subst this
    exact cell_one_new w1 (.int .i64 x) 3 0 _ rfl)
  have HNX : Hid (¬ (Value.slice (some ⟨w.heap.size + 1, 0, none⟩) 0 0).ownBlock = some w1.heap.size) := Lib.hid (fun e => by injection e with e; have e : w.heap.size + 1 = w1.heap.size := e; have := HSZ.out; omega)
  have HXS : Hid (w1.heap.size < (w1.alloc (.cells #[.int .i64 x] 3)).drew.heap.size) := Lib.hid (by show _ < (w1.alloc (.cells #[.int .i64 x] 3)).heap.size; rw [alloc_size]; exact Nat.lt_succ_self _)
  clear hax
  have HNA : Hid ([] ++ xs = xs) := Lib.hid (List.nil_append _)
  have HKS := Lib.hid (fun W (hW : Below (w.heap.size + 1) w1 W) => (show Blk2 W w.heap.size 39 (.int .i64 0) (.int .i64 x) from (hW.block w.heap.size (by omega)).trans HB3.out).cell.2)
  have HL2 : Hid (xs.length ≤ 1000) := Lib.hid (by omega)
  clear hrow hql
  go_enter Tryz.func120, Tryz.ntmps120
  go_wp2_with fail
  clear hw1
  have HZS : Hid (xs ++ [x] = ys) := Lib.hid HYS.out
  go_region_held3 (fun W => W.cell? ⟨w.heap.size, 1, none⟩ = some (.int .i64 x)) (first | exact HKS.out _ HB6.out | go_keep)
    (first | ((refine step_ap (by rfl) (.tmp 15) (.tmp 18) (by rfl) (w.heap.size + 1) (.slice (some ⟨g6, 0, none⟩) xs.length c6) xs [x] ys HZS.out (by simp) (by simp) HL2.out w6 w1.heap.size 0 1 (by rfl) (by rfl) HX6.out HO6.out (Nat.le_trans HS1.out HB6.out.size) ?_; intro g7 c7 w7 ho7 hb7 _; have HO7 := Lib.hid ho7; have HZ := Lib.hid (HB6.out.trans hb7); clear HB6; have HB6 := HZ; clear HZ ho7 hb7)) | ((refine step_sn (by rfl) (.tmp 15) (.tmp 18) (by rfl) (w.heap.size + 1) (.slice (some ⟨g6, 0, none⟩) xs.length c6) xs ys x HZS.out HL2.out w6 (by rfl) (by rfl) HO6.out (Nat.le_trans HS1.out HB6.out.size) ?_; intro g7 c7 w7 ho7 hb7; have HO7 := Lib.hid ho7; have HZ := Lib.hid (HB6.out.trans hb7); clear HB6; have HB6 := HZ; clear HZ ho7 hb7)) | ((refine step_ap (by rfl) (.tmp 13) (.tmp 14) (by rfl) (w.heap.size + 1) (.slice (some ⟨w.heap.size + 1, 0, none⟩) 0 0) [] xs xs HNA.out HL1.out HL2.out (by simp) _ q p c (by rfl) (by rfl) (by first | with_reducible exact HRW.out | with_reducible exact HRW2.out) (by first | with_reducible exact HM1.out | with_reducible exact HM3.out) (by first | with_reducible exact HS1.out | with_reducible exact HS2.out) ?_; intro g6 c6 w6 ho6 hb6 hu6; have HO6 := Lib.hid ho6; (try (have HX6 := Lib.hid (hu6.row (by with_reducible exact HX1.out) HNX.out); have HXL := Lib.hid (Nat.lt_of_lt_of_le HXS.out hu6.size))); have HB6 := Lib.hid (show Below (w.heap.size + 1) w1 w6 from (by first | with_reducible exact HBD.out.trans hb6 | with_reducible exact HBA.out.trans hb6)); clear ho6 hb6 hu6)))
  all_goals
    have HOW := Lib.hid (HO7.out.base (B' := w.heap.size) (by omega))
    have HBW := Lib.hid (HQ3.out.trans (HB6.out.mono (by omega)))
    clear HO7 HO6 HKS HM1 HMD HRW
    have HI8 := Lib.hid (ints_own HOW.out (by have := HOK.out.1; omega) HOK.out.2)
    cases hfy : famL ys with
    | false =>
      have hcb : cb = false := by rw [← HCH.out, hfy, Bool.false_and]
      have HFY := Lib.hid hfy
      subst hcb
      clear hfy
      go_wp2_with fail
      refine (specFamilyOk_val (some ⟨g7, 0, none⟩) ys.length c7 (fun j => ys.getD j 0) false _ HFY.out HI8.out).mono ?_
      rintro e w9 ⟨rfl, hd9⟩
      have HOE := Lib.hid (HOW.out.kept hd9.below)
      have HBE := Lib.hid (below_onto HBW.out hd9.below)
      clear hd9
      go_wp2_with fail
      go_ret2
      exact ⟨_, _, by first | rfl | trivial, HOE.out, HBE.out⟩
    | true =>
      have HFY := Lib.hid hfy
      by_cases hln : ys.length = xs.length
      · have hcb : cb = false := by rw [← HCH.out, hfy, decide_eq_false (fun h => h hln), Bool.and_false]
        have hne : ((ys.length : Int) != (xs.length : Int)) = false := by rw [hln]; simp
        subst hcb
        have HLN := Lib.hid hln
        clear hfy hln
        go_wp2_with fail
        refine (specFamilyOk_val (some ⟨g7, 0, none⟩) ys.length c7 (fun j => ys.getD j 0) true _ HFY.out HI8.out).mono ?_
        rintro e w9 ⟨rfl, hd9⟩
        have HOE := Lib.hid (HOW.out.kept hd9.below)
        have HBE := Lib.hid (below_onto HBW.out hd9.below)
        clear hd9
        go_wp2_with fail
        go_ret2
        exact ⟨_, _, by first | rfl | trivial, HOE.out, HBE.out⟩
      · have hcb : cb = true := by rw [← HCH.out, hfy, decide_eq_true hln]; rfl
        have hne : ((ys.length : Int) != (xs.length : Int)) = true := by simp; omega
        subst hcb
        clear hfy hln
        go_wp2_with fail
        refine (specFamilyOk_val (some ⟨g7, 0, none⟩) ys.length c7 (fun j => ys.getD j 0) true _ HFY.out HI8.out).mono ?_
        rintro e w9 ⟨rfl, hd9⟩
        have HOE := Lib.hid (HOW.out.kept hd9.below)
        have HBE := Lib.hid (below_onto HBW.out hd9.below)
        clear hd9
        go_wp2_with fail
        go_ret2
        exact ⟨_, _, by first | rfl | trivial, HOE.out, HBE.out⟩

set_option maxRecDepth 100000 in
set_option maxHeartbeats 3200000 in
theorem l12Made_none (a : Option Addr) (c : Nat) (xs : List Int) (k x : Int) (hx : I64 x) (h0 : k ≠ 0) (h1 : k ≠ 1) (h2 : ¬ (k = 2 ∧ x = 0)) (h3 : ¬ (k = 3 ∧ x = 0)) (hf : famL xs = true) (w : World) (h : Ints w a xs.length (fun j => xs.getD j 0)) :
    Calls Tryz.prog 120 #[.slice a xs.length c, .agg #[.int .i64 k, .int .i64 x]] w (MadeEnd (mdS xs (k) (x)) (chB xs (k) (x)) w) := by
  have hq := alloc_below w (.cells #[.int .i64 (k), .int .i64 (x)] 39)
  have hb2 := Blk2.new w 39 (.int .i64 (k)) (.int .i64 (x))
  have hal := alloc_below (w.alloc (.cells #[.int .i64 (k), .int .i64 (x)] 39)) (.cells #[] 3)
  have hmd : OwnX ((w.alloc (.cells #[.int .i64 (k), .int .i64 (x)] 39)).alloc (.cells #[] 3)) (w.alloc (.cells #[.int .i64 (k), .int .i64 (x)] 39)).heap.size 3 (.slice (some ⟨(w.alloc (.cells #[.int .i64 (k), .int .i64 (x)] 39)).heap.size, 0, none⟩) 0 0) [] := OwnX.made _ _ (Nat.le_refl _) _
  rw [alloc_size] at hmd
  have hb3 := hb2.kept hal hb2.lt
  have hq3 := below_onto hq hal
  have hi3 := h.below hq3 (Nat.le_refl _)
  have hsz : ((w.alloc (.cells #[.int .i64 (k), .int .i64 (x)] 39)).alloc (.cells #[] 3)).heap.size = w.heap.size + 2 := by rw [alloc_size, alloc_size]
  obtain ⟨w1, hw1⟩ : ∃ w1, (w.alloc (.cells #[.int .i64 (k), .int .i64 (x)] 39)).alloc (.cells #[] 3) = w1 := ⟨_, rfl⟩
  rw [hw1] at hmd hb3 hq3 hi3 hsz
  have HB3 := Lib.hid hb3; have HQ3 := Lib.hid hq3; have HI3 := Lib.hid hi3; have HMD := Lib.hid hmd; have HF := Lib.hid hf
  have hlen := famL_len hf
  have HSZ := Lib.hid hsz
  have hc0 := hb3.cell.1; have hc1 := hb3.cell.2
  have HOKS := Lib.hid (ms_ok (k := k) (x := x) hf hx)
  have HCH := Lib.hid (ms_ch (k := k) (x := x) hf)
  obtain ⟨cb, hcb⟩ : ∃ cb, chB xs (k) (x) = cb := ⟨_, rfl⟩
  rw [hcb] at HCH ⊢
  obtain ⟨ys, hys⟩ : ∃ ys, mdS xs (k) (x) = ys := ⟨_, rfl⟩
  rw [hys] at HCH HOKS ⊢
  have HYS := Lib.hid hys
  have HOK := HOKS
  have HIH := Lib.hid h
  clear h hq hb2 hal hmd hb3 hq3 hi3 hsz hf hcb hys HOKS
  have hk0 : (k == 0) = false := by simpa using h0
  have hk1 : (k == 1) = false := by simpa using h1
  have hk2 := fun W => eqDeedV_val k x 2 0 false (by rw [Bool.and_eq_false_iff]; simp; omega) W
  have hk3 := fun W => eqDeedV_val k x 3 0 false (by rw [Bool.and_eq_false_iff]; simp; omega) W
  have hys : mdS xs k x = [] := by unfold mdS; rw [if_neg h0, if_neg h1, if_neg h2, if_neg h3]
  rw [HYS.out] at hys
  subst hys
  have hcb : cb = false := by rw [← HCH.out, famL_nil, Bool.false_and]
  subst hcb
  have HI8 := Lib.hid (ints_own (ys := []) HMD.out (by simp) (fun y hy => by simp at hy))
  have HN := Lib.hid famL_nil
  have HM2 := Lib.hid (HMD.out.base (B' := w.heap.size) (by omega))
  clear h0 h1 h2 h3
  go_enter Tryz.func120, Tryz.ntmps120
  go_wp2_with fail
  clear hw1
  refine (specFamilyOk_val (some ⟨w.heap.size + 1, 0, none⟩) 0 0 (fun j => ([] : List Int).getD j 0) false _ HN.out HI8.out).mono ?_
  rintro e w9 ⟨rfl, hd9⟩
  have HOE := Lib.hid (HM2.out.kept hd9.below)
  have HBE := Lib.hid (below_onto HQ3.out hd9.below)
  clear hd9
  go_wp2_with fail
  go_ret2
  exact ⟨_, _, by first | rfl | trivial, HOE.out, HBE.out⟩

set_option maxRecDepth 100000 in
set_option maxHeartbeats 3200000 in
theorem l12Made_points (a : Option Addr) (c : Nat) (xs : List Int)  (hf : famL xs = true) (w : World) (h : Ints w a xs.length (fun j => xs.getD j 0)) :
    Calls Tryz.prog 120 #[.slice a xs.length c, .agg #[.int .i64 2, .int .i64 0]] w (MadeEnd (mdS xs (2) (0)) (chB xs (2) (0)) w) := by
  have hq := alloc_below w (.cells #[.int .i64 (2), .int .i64 (0)] 39)
  have hb2 := Blk2.new w 39 (.int .i64 (2)) (.int .i64 (0))
  have hal := alloc_below (w.alloc (.cells #[.int .i64 (2), .int .i64 (0)] 39)) (.cells #[] 3)
  have hmd : OwnX ((w.alloc (.cells #[.int .i64 (2), .int .i64 (0)] 39)).alloc (.cells #[] 3)) (w.alloc (.cells #[.int .i64 (2), .int .i64 (0)] 39)).heap.size 3 (.slice (some ⟨(w.alloc (.cells #[.int .i64 (2), .int .i64 (0)] 39)).heap.size, 0, none⟩) 0 0) [] := OwnX.made _ _ (Nat.le_refl _) _
  rw [alloc_size] at hmd
  have hb3 := hb2.kept hal hb2.lt
  have hq3 := below_onto hq hal
  have hi3 := h.below hq3 (Nat.le_refl _)
  have hsz : ((w.alloc (.cells #[.int .i64 (2), .int .i64 (0)] 39)).alloc (.cells #[] 3)).heap.size = w.heap.size + 2 := by rw [alloc_size, alloc_size]
  obtain ⟨w1, hw1⟩ : ∃ w1, (w.alloc (.cells #[.int .i64 (2), .int .i64 (0)] 39)).alloc (.cells #[] 3) = w1 := ⟨_, rfl⟩
  rw [hw1] at hmd hb3 hq3 hi3 hsz
  have HB3 := Lib.hid hb3; have HQ3 := Lib.hid hq3; have HI3 := Lib.hid hi3; have HMD := Lib.hid hmd; have HF := Lib.hid hf
  have hlen := famL_len hf
  have HSZ := Lib.hid hsz
  have hc0 := hb3.cell.1; have hc1 := hb3.cell.2
  have HOKS := Lib.hid (ms_ok (k := 2) (x := 0) hf (by unfold I64; omega))
  have HCH := Lib.hid (ms_ch (k := 2) (x := 0) hf)
  obtain ⟨cb, hcb⟩ : ∃ cb, chB xs (2) (0) = cb := ⟨_, rfl⟩
  rw [hcb] at HCH ⊢
  obtain ⟨ys, hys⟩ : ∃ ys, mdS xs (2) (0) = ys := ⟨_, rfl⟩
  rw [hys] at HCH HOKS ⊢
  have HYS := Lib.hid hys
  have HOK := HOKS
  have HIH := Lib.hid h
  clear h hq hb2 hal hmd hb3 hq3 hi3 hsz hf hcb hys HOKS
  have hk2 := fun W => eqDeedV_val 2 0 2 0 true rfl W
  go_enter Tryz.func120, Tryz.ntmps120
  go_wp2_with fail
  clear hw1
  refine (specWithPoints_any a xs.length c (fun j => xs.getD j 0) _ HI3.out).mono ?_
  rintro e w6 ⟨v, rfl, hown, hb⟩
  have hys2 : doneL xs.length (fun i => xs.getD i 0) (FP (memS xs.length (fun i => xs.getD i 0))) = ys := HYS.out
  rw [hys2] at hown
  have hown := hown.base (B' := w.heap.size) HQ3.out.size
  obtain ⟨ga, gc, rfl⟩ := hown.slice
  have HOW := Lib.hid hown
  have HBW := Lib.hid (below_onto HQ3.out hb)
  clear hown hb hys2
  have HI8 := Lib.hid (ints_own HOW.out (by have := HOK.out.1; omega) HOK.out.2)
  cases hfy : famL ys with
  | false =>
    have hcb : cb = false := by rw [← HCH.out, hfy, Bool.false_and]
    have HFY := Lib.hid hfy
    subst hcb
    clear hfy
    go_wp2_with fail
    refine (specFamilyOk_val ga ys.length gc (fun j => ys.getD j 0) false _ HFY.out HI8.out).mono ?_
    rintro e w9 ⟨rfl, hd9⟩
    have HOE := Lib.hid (HOW.out.kept hd9.below)
    have HBE := Lib.hid (below_onto HBW.out hd9.below)
    clear hd9
    go_wp2_with fail
    go_ret2
    exact ⟨_, _, by first | rfl | trivial, HOE.out, HBE.out⟩
  | true =>
    have HFY := Lib.hid hfy
    by_cases hln : ys.length = xs.length
    · have hcb : cb = false := by rw [← HCH.out, hfy, decide_eq_false (fun h => h hln), Bool.and_false]
      have hne : ((ys.length : Int) != (xs.length : Int)) = false := by rw [hln]; simp
      subst hcb
      have HLN := Lib.hid hln
      clear hfy hln
      go_wp2_with fail
      refine (specFamilyOk_val ga ys.length gc (fun j => ys.getD j 0) true _ HFY.out HI8.out).mono ?_
      rintro e w9 ⟨rfl, hd9⟩
      have HOE := Lib.hid (HOW.out.kept hd9.below)
      have HBE := Lib.hid (below_onto HBW.out hd9.below)
      clear hd9
      go_wp2_with fail
      go_ret2
      exact ⟨_, _, by first | rfl | trivial, HOE.out, HBE.out⟩
    · have hcb : cb = true := by rw [← HCH.out, hfy, decide_eq_true hln]; rfl
      have hne : ((ys.length : Int) != (xs.length : Int)) = true := by simp; omega
      subst hcb
      clear hfy hln
      go_wp2_with fail
      refine (specFamilyOk_val ga ys.length gc (fun j => ys.getD j 0) true _ HFY.out HI8.out).mono ?_
      rintro e w9 ⟨rfl, hd9⟩
      have HOE := Lib.hid (HOW.out.kept hd9.below)
      have HBE := Lib.hid (below_onto HBW.out hd9.below)
      clear hd9
      go_wp2_with fail
      go_ret2
      exact ⟨_, _, by first | rfl | trivial, HOE.out, HBE.out⟩

set_option maxRecDepth 100000 in
set_option maxHeartbeats 3200000 in
theorem l12Made_sums (a : Option Addr) (c : Nat) (xs : List Int)  (hf : famL xs = true) (w : World) (h : Ints w a xs.length (fun j => xs.getD j 0)) :
    Calls Tryz.prog 120 #[.slice a xs.length c, .agg #[.int .i64 3, .int .i64 0]] w (MadeEnd (mdS xs (3) (0)) (chB xs (3) (0)) w) := by
  have hq := alloc_below w (.cells #[.int .i64 (3), .int .i64 (0)] 39)
  have hb2 := Blk2.new w 39 (.int .i64 (3)) (.int .i64 (0))
  have hal := alloc_below (w.alloc (.cells #[.int .i64 (3), .int .i64 (0)] 39)) (.cells #[] 3)
  have hmd : OwnX ((w.alloc (.cells #[.int .i64 (3), .int .i64 (0)] 39)).alloc (.cells #[] 3)) (w.alloc (.cells #[.int .i64 (3), .int .i64 (0)] 39)).heap.size 3 (.slice (some ⟨(w.alloc (.cells #[.int .i64 (3), .int .i64 (0)] 39)).heap.size, 0, none⟩) 0 0) [] := OwnX.made _ _ (Nat.le_refl _) _
  rw [alloc_size] at hmd
  have hb3 := hb2.kept hal hb2.lt
  have hq3 := below_onto hq hal
  have hi3 := h.below hq3 (Nat.le_refl _)
  have hsz : ((w.alloc (.cells #[.int .i64 (3), .int .i64 (0)] 39)).alloc (.cells #[] 3)).heap.size = w.heap.size + 2 := by rw [alloc_size, alloc_size]
  obtain ⟨w1, hw1⟩ : ∃ w1, (w.alloc (.cells #[.int .i64 (3), .int .i64 (0)] 39)).alloc (.cells #[] 3) = w1 := ⟨_, rfl⟩
  rw [hw1] at hmd hb3 hq3 hi3 hsz
  have HB3 := Lib.hid hb3; have HQ3 := Lib.hid hq3; have HI3 := Lib.hid hi3; have HMD := Lib.hid hmd; have HF := Lib.hid hf
  have hlen := famL_len hf
  have HSZ := Lib.hid hsz
  have hc0 := hb3.cell.1; have hc1 := hb3.cell.2
  have HOKS := Lib.hid (ms_ok (k := 3) (x := 0) hf (by unfold I64; omega))
  have HCH := Lib.hid (ms_ch (k := 3) (x := 0) hf)
  obtain ⟨cb, hcb⟩ : ∃ cb, chB xs (3) (0) = cb := ⟨_, rfl⟩
  rw [hcb] at HCH ⊢
  obtain ⟨ys, hys⟩ : ∃ ys, mdS xs (3) (0) = ys := ⟨_, rfl⟩
  rw [hys] at HCH HOKS ⊢
  have HYS := Lib.hid hys
  have HOK := HOKS
  have HIH := Lib.hid h
  clear h hq hb2 hal hmd hb3 hq3 hi3 hsz hf hcb hys HOKS
  have hk2 := fun W => eqDeedV_val 3 0 2 0 false rfl W
  have hk3 := fun W => eqDeedV_val 3 0 3 0 true rfl W
  go_enter Tryz.func120, Tryz.ntmps120
  go_wp2_with fail
  clear hw1
  refine (specWithSums_any a xs.length c (fun j => xs.getD j 0) _ HI3.out).mono ?_
  rintro e w6 ⟨v, rfl, hown, hb⟩
  have hys2 : doneL xs.length (fun i => xs.getD i 0) (FS xs.length (fun i => xs.getD i 0)) = ys := HYS.out
  rw [hys2] at hown
  have hown := hown.base (B' := w.heap.size) HQ3.out.size
  obtain ⟨ga, gc, rfl⟩ := hown.slice
  have HOW := Lib.hid hown
  have HBW := Lib.hid (below_onto HQ3.out hb)
  clear hown hb hys2
  have HI8 := Lib.hid (ints_own HOW.out (by have := HOK.out.1; omega) HOK.out.2)
  cases hfy : famL ys with
  | false =>
    have hcb : cb = false := by rw [← HCH.out, hfy, Bool.false_and]
    have HFY := Lib.hid hfy
    subst hcb
    clear hfy
    go_wp2_with fail
    refine (specFamilyOk_val ga ys.length gc (fun j => ys.getD j 0) false _ HFY.out HI8.out).mono ?_
    rintro e w9 ⟨rfl, hd9⟩
    have HOE := Lib.hid (HOW.out.kept hd9.below)
    have HBE := Lib.hid (below_onto HBW.out hd9.below)
    clear hd9
    go_wp2_with fail
    go_ret2
    exact ⟨_, _, by first | rfl | trivial, HOE.out, HBE.out⟩
  | true =>
    have HFY := Lib.hid hfy
    by_cases hln : ys.length = xs.length
    · have hcb : cb = false := by rw [← HCH.out, hfy, decide_eq_false (fun h => h hln), Bool.and_false]
      have hne : ((ys.length : Int) != (xs.length : Int)) = false := by rw [hln]; simp
      subst hcb
      have HLN := Lib.hid hln
      clear hfy hln
      go_wp2_with fail
      refine (specFamilyOk_val ga ys.length gc (fun j => ys.getD j 0) true _ HFY.out HI8.out).mono ?_
      rintro e w9 ⟨rfl, hd9⟩
      have HOE := Lib.hid (HOW.out.kept hd9.below)
      have HBE := Lib.hid (below_onto HBW.out hd9.below)
      clear hd9
      go_wp2_with fail
      go_ret2
      exact ⟨_, _, by first | rfl | trivial, HOE.out, HBE.out⟩
    · have hcb : cb = true := by rw [← HCH.out, hfy, decide_eq_true hln]; rfl
      have hne : ((ys.length : Int) != (xs.length : Int)) = true := by simp; omega
      subst hcb
      clear hfy hln
      go_wp2_with fail
      refine (specFamilyOk_val ga ys.length gc (fun j => ys.getD j 0) true _ HFY.out HI8.out).mono ?_
      rintro e w9 ⟨rfl, hd9⟩
      have HOE := Lib.hid (HOW.out.kept hd9.below)
      have HBE := Lib.hid (below_onto HBW.out hd9.below)
      clear hd9
      go_wp2_with fail
      go_ret2
      exact ⟨_, _, by first | rfl | trivial, HOE.out, HBE.out⟩

set_option maxRecDepth 100000 in
set_option maxHeartbeats 3200000 in
theorem l12Made_take (a : Option Addr) (c : Nat) (xs : List Int) (x : Int) (hx : I64 x) (hf : famL xs = true) (w : World) (h : Ints w a xs.length (fun j => xs.getD j 0)) :
    Calls Tryz.prog 120 #[.slice a xs.length c, .agg #[.int .i64 1, .int .i64 x]] w (MadeEnd (mdS xs (1) (x)) (chB xs (1) (x)) w) := by
  have hq := alloc_below w (.cells #[.int .i64 (1), .int .i64 (x)] 39)
  have hb2 := Blk2.new w 39 (.int .i64 (1)) (.int .i64 (x))
  have hal := alloc_below (w.alloc (.cells #[.int .i64 (1), .int .i64 (x)] 39)) (.cells #[] 3)
  have hmd : OwnX ((w.alloc (.cells #[.int .i64 (1), .int .i64 (x)] 39)).alloc (.cells #[] 3)) (w.alloc (.cells #[.int .i64 (1), .int .i64 (x)] 39)).heap.size 3 (.slice (some ⟨(w.alloc (.cells #[.int .i64 (1), .int .i64 (x)] 39)).heap.size, 0, none⟩) 0 0) [] := OwnX.made _ _ (Nat.le_refl _) _
  rw [alloc_size] at hmd
  have hb3 := hb2.kept hal hb2.lt
  have hq3 := below_onto hq hal
  have hi3 := h.below hq3 (Nat.le_refl _)
  have hsz : ((w.alloc (.cells #[.int .i64 (1), .int .i64 (x)] 39)).alloc (.cells #[] 3)).heap.size = w.heap.size + 2 := by rw [alloc_size, alloc_size]
  obtain ⟨w1, hw1⟩ : ∃ w1, (w.alloc (.cells #[.int .i64 (1), .int .i64 (x)] 39)).alloc (.cells #[] 3) = w1 := ⟨_, rfl⟩
  rw [hw1] at hmd hb3 hq3 hi3 hsz
  have HB3 := Lib.hid hb3; have HQ3 := Lib.hid hq3; have HI3 := Lib.hid hi3; have HMD := Lib.hid hmd; have HF := Lib.hid hf
  have hlen := famL_len hf
  have HSZ := Lib.hid hsz
  have hc0 := hb3.cell.1; have hc1 := hb3.cell.2
  have HOKS := Lib.hid (ms_ok (k := 1) (x := x) hf hx)
  have HCH := Lib.hid (ms_ch (k := 1) (x := x) hf)
  obtain ⟨cb, hcb⟩ : ∃ cb, chB xs (1) (x) = cb := ⟨_, rfl⟩
  rw [hcb] at HCH ⊢
  obtain ⟨ys, hys⟩ : ∃ ys, mdS xs (1) (x) = ys := ⟨_, rfl⟩
  rw [hys] at HCH HOKS ⊢
  have HYS := Lib.hid hys
  have HOK := HOKS
  have HIH := Lib.hid h
  clear h hq hb2 hal hmd hb3 hq3 hi3 hsz hf hcb hys HOKS
  obtain ⟨i0, hi0, hz0, hz1, hz2⟩ := info_parts Tryz.infoInt
  have HM2 := Lib.hid (HMD.out.base (B' := w.heap.size + 1) (Nat.le_refl _))
  have HST : Hid (TakeS xs x w w1 0 (.slice (some ⟨w.heap.size + 1, 0, none⟩) 0 0) w1) := Lib.hid ⟨HM2.out, Below.refl _ _⟩
  obtain ⟨q, p, rfl, hql, hrow⟩ := HIH.out.row hlen.1
  have HRW := Lib.hid (fun W (hW : Below w.heap.size w W) => hrow.below hW hql)
  have HML := Lib.hid (show ∀ k, ((xs.take k).filter (fun y => y != x)).length ≤ 7 from fun k => Nat.le_trans (List.length_filter_le _ _) (by rw [List.length_take]; omega))
  obtain ⟨n, hn⟩ : ∃ n, xs.length = n := ⟨_, rfl⟩
  have HN := Lib.hid hn
  rw [hn] at HRW ⊢
  have hn7 : 1 ≤ n ∧ n ≤ 7 := by omega
  clear hrow hql HM2 hlen
  go_enter Tryz.func120, Tryz.ntmps120
  go_wp2_with fail
  clear hw1 hc0 hc1 hn
  go_loopw [6, 7] (fun v i wr => ∃ k : Nat, k ≤ n ∧ i = .int .i64 k ∧ Hid (TakeS xs x w w1 k v wr)) (fun _ i _ => n - (intOf i).toNat)
  case atStart => exact ⟨0, Nat.zero_le _, rfl, HST⟩
  case round =>
    clear HST
    obtain ⟨k, hk, rfl, HS⟩ := hrel
    obtain ⟨va, vc, hv⟩ := HS.out.own.slice
    subst hv
    have HBW := Lib.hid (HQ3.out.trans (HS.out.bel.mono (by omega)))
    by_cases hlt : k < n
    · have hki : (k : Int) < (n : Int) := by omega
      have hk0 : (0 : Int) ≤ (k : Int) := by omega
      have hkl : k < xs.length := by rw [HN.out]; exact hlt
      have hc := (HRW.out wr HBW.out) k hlt
      have hE : Blk2 wr w.heap.size 39 (.int .i64 1) (.int .i64 x) := (HS.out.bel.block w.heap.size (by omega)).trans HB3.out
      have he1 := hE.cell.2
      have hfi := filt_in (x := x) hkl
      have hfo := filt_out (x := x) hkl
      obtain ⟨y, hy⟩ : ∃ y, xs.getD k 0 = y := ⟨_, rfl⟩
      dsimp only at hc
      rw [hy] at hc hfi hfo
      clear hE hkl hy
      cases hb : (y != x) with
      | true =>
        have HFI := Lib.hid (hfi hb)
        have hb2 : (y == x) = false := by simpa using hb
        have k1 := Lib.hid (fun (W : World) (j : Nat) (u : Value) (h : [Value.int .i64 y][j]? = some u) => cell_one_new W (.int .i64 y) 3 j u h)
        have k2 : Hid (∀ u ∈ [Value.int .i64 y], u.oneCell' = true) := Lib.hid (by intro u hu; simp at hu; subst hu; rfl)
        have k3 := Lib.hid (show ((xs.take k).filter (fun y => y != x)).length + 1 ≤ maxLen by have := HML.out k; unfold maxLen; omega)
        have k4 := Lib.hid (show (((xs.take k).filter (fun y => y != x)).length + 1) * 8 ≤ 140737488355328 by have := HML.out k; omega)
        have HOM := Lib.hid (fun W (hW : Below wr.heap.size wr W) => HS.out.own.kept hW)
        have HSL := Lib.hid (show w.heap.size + 1 ≤ wr.heap.size by have := HS.out.bel.size; have := HSZ.out; omega)
        clear hfi hfo
        go_wp2_with fail
        go_quiet (fail)
        go_wp2_with (at_builtin; refine wpList_append_own _ rfl (.tmp 37) (.tmp 42) 28 rfl (w.heap.size + 1) 3 i0 (.int .i64 0) 1 8 Tryz.underlying28 hi0 hz0 hz1 hz2 rfl (by decide) _ _ _ rfl ((HOM.out _ (below_drewN (Below.refl _ _) _)).alloc _) ⟨_, 0, none⟩ 1 1 [.int .i64 y] rfl rfl (k1.out _) k2.out k3.out k4.out (Nat.le_trans HSL.out (by rw [alloc_size]; exact Nat.le_succ _)) ?_)
        intro v5 w5 hown5 hgrow5 _
        have hb5 : Below (w.heap.size + 1) w1 w5 := ((below_drewN HS.out.bel _).alloc (HSL.out) _).grown hgrow5 (Nat.le_trans HSL.out (by rw [alloc_size]; exact Nat.le_succ _)) (fun q hq => (HS.out.own.lt hq).1)
        have HST5 : Hid (TakeS xs x w w1 (k + 1) v5 w5) := Lib.hid ⟨by rw [HFI.out]; exact OwnX.snoc hown5, hb5⟩
        clear hown5 hgrow5 hb5 k1 k2 k3 k4 HOM HSL
        go_wp2_with fail
        go_roundw
        case rel => exact ⟨k + 1, by omega, by go_num, HST5⟩
        case measure => simp [intOf]; omega
      | false =>
        have HFO := Lib.hid (hfo hb)
        have hb2 : (y == x) = true := by simpa using hb
        clear hfi hfo
        go_wp2_with fail
        go_quiet (fail)
        go_wp2_with fail
        go_roundw
        case rel => exact ⟨k + 1, by omega, by go_num, Lib.hid ⟨by rw [HFO.out]; exact HS.out.own.kept (by first | exact (Below.refl _ _).drew | exact below_drewN (Below.refl _ _) _), by first | exact HS.out.bel.drew | exact below_drewN HS.out.bel _⟩⟩
        case measure => simp [intOf]; omega
    · have hki : ¬ (k : Int) < (n : Int) := by omega
      have hkn : k = n := by omega
      have hys2 : (xs.take k).filter (fun y => y != x) = ys := by rw [hkn, List.take_of_length_le (by rw [HN.out]; exact Nat.le_refl _)]; exact HYS.out
      have hown := HS.out.own.base (B' := w.heap.size) (by omega)
      rw [hys2] at hown ⊢
      have HOW := Lib.hid hown
      subst hkn
      obtain ⟨ga, hga⟩ : ∃ ga, va = ga := ⟨_, rfl⟩
      obtain ⟨gc, hgc⟩ : ∃ gc, vc = gc := ⟨_, rfl⟩
      rw [hga, hgc] at HOW ⊢
      clear hown hys2 hga hgc HS
      rw [HN.out] at HCH
      have HI8 := Lib.hid (ints_own HOW.out (by have := HOK.out.1; omega) HOK.out.2)
      cases hfy : famL ys with
      | false =>
        have hcb : cb = false := by rw [← HCH.out, hfy, Bool.false_and]
        have HFY := Lib.hid hfy
        subst hcb
        clear hfy
        go_wp2_with fail
        refine (specFamilyOk_val ga ys.length gc (fun j => ys.getD j 0) false _ HFY.out HI8.out).mono ?_
        rintro e w9 ⟨rfl, hd9⟩
        have HOE := Lib.hid (HOW.out.kept hd9.below)
        have HBE := Lib.hid (below_onto HBW.out hd9.below)
        clear hd9
        go_wp2_with fail
        go_ret2
        exact ⟨_, _, by first | rfl | trivial, HOE.out, HBE.out⟩
      | true =>
        have HFY := Lib.hid hfy
        by_cases hln : ys.length = k
        · have hcb : cb = false := by rw [← HCH.out, hfy, decide_eq_false (fun h => h hln), Bool.and_false]
          have hne : ((ys.length : Int) != (k : Int)) = false := by rw [hln]; simp
          subst hcb
          have HLN := Lib.hid hln
          clear hfy hln
          go_wp2_with fail
          refine (specFamilyOk_val ga ys.length gc (fun j => ys.getD j 0) true _ HFY.out HI8.out).mono ?_
          rintro e w9 ⟨rfl, hd9⟩
          have HOE := Lib.hid (HOW.out.kept hd9.below)
          have HBE := Lib.hid (below_onto HBW.out hd9.below)
          clear hd9
          go_wp2_with fail
          go_ret2
          exact ⟨_, _, by first | rfl | trivial, HOE.out, HBE.out⟩
        · have hcb : cb = true := by rw [← HCH.out, hfy, decide_eq_true hln]; rfl
          have hne : ((ys.length : Int) != (k : Int)) = true := by simp; omega
          subst hcb
          clear hfy hln
          go_wp2_with fail
          refine (specFamilyOk_val ga ys.length gc (fun j => ys.getD j 0) true _ HFY.out HI8.out).mono ?_
          rintro e w9 ⟨rfl, hd9⟩
          have HOE := Lib.hid (HOW.out.kept hd9.below)
          have HBE := Lib.hid (below_onto HBW.out hd9.below)
          clear hd9
          go_wp2_with fail
          go_ret2
          exact ⟨_, _, by first | rfl | trivial, HOE.out, HBE.out⟩
end Go.Proofs.YthaickihoagnmaaGreatDoor
