import Derived.Test.YtglnefffkcillaaWcL
import Derived.Test.YtglnefffkcillaaWcN
import Derived.Test.YtglnefffkcillaaHeldX
namespace Go.Proofs.Ytglnefffkcillaa
set_option linter.unusedVariables false
set_option linter.unusedSimpArgs false
open Go.RowKit Go.Maps
attribute [local go_sem] Oper.semAt_some

/-- the first of these lists of n numbers -/
def stepL (n : Nat) (m x : List Int) : List Int := if ltB n (rv x) (rv m) then x else m
def minL (n : Nat) (m : List Int) (LL : List (List Int)) : List Int := LL.foldl (stepL n) m
theorem minL_snoc (n : Nat) (m : List Int) (LL : List (List Int)) (x : List Int) : minL n m (LL ++ [x]) = stepL n (minL n m LL) x := by unfold minL; rw [List.foldl_append]; rfl
/-- the shape of a world -/
def shL (n : Nat) (f : Nat → Int) : List Int := minL n (rowL f n) (orL (rowL f n))
def shB (n : Nat) (f : Nat → Int) : Bool := worldB n f && decide (n ≤ 4)
def shV (n : Nat) (f : Nat → Int) : List Int := if shB n f then shL n f else []

theorem or_len {SL : List Int} : ∀ L ∈ orL SL, L.length = SL.length := fun L hL => by
  obtain ⟨L', h1, rfl⟩ := List.mem_map.1 hL
  unfold amL
  rw [rowL_len, llK_len h1]

/-- what the search for the first one knows -/
structure ShI (n R0 V : Nat) (m0 : List Int) (w : World) (xs : List Lst) (T : Nat → Prop) (W : World) : Prop where
  box : ∃ g c, Boxed W V 23 (.slice (some ⟨g, 0, none⟩) n c) ∧ OwnX W R0 3 (.slice (some ⟨g, 0, none⟩) n c) (minL n m0 (xs.map (fun x => x.L))) ∧ (minL n m0 (xs.map (fun x => x.L))).length = n ∧ g ≠ V
  nV : ¬ T V
  bel : Below R0 w W
  tl : ∀ k, T k → R0 ≤ k ∧ k < W.heap.size
theorem ShI.abide {n R0 V Bs : Nat} {m0 : List Int} {w : World} (hB : R0 ≤ Bs) (hR : R0 ≤ w.heap.size) : AbideQ Bs (ShI n R0 V m0 w) := by
  rintro xs T T' W W' h hm hT'
  obtain ⟨g, c, h1, h2, h3, h4⟩ := h.box
  have hVl := h1.lt
  have eV : W'.heap[V]? = W.heap[V]? := hm.block V hVl (fun h => h) (fun _ o ho => by rw [show W.heap[V]? = _ from h1] at ho; cases ho; rfl)
  have hgl := World.ownsRow.lt h2 g rfl
  have eg : W'.heap[g]? = W.heap[g]? := hm.block g hgl.2 (fun h => h) (fun _ o ho => ownsRow_cells h2 rfl ho)
  refine ⟨⟨g, c, eV.trans h1, OwnX.at h2 eg, h3, h4⟩, fun ht => ?_, ?_, fun k hk => ?_⟩
  · rcases hT' V ht with h5 | h5
    · exact h.nV h5
    · omega
  · have hR2 := h.bel
    refine ⟨hm.os.trans hR2.os, hm.tape.trans hR2.tape, hm.output.trans hR2.output, Nat.le_trans hR2.size hm.size, fun k hk => ?_⟩
    rw [hm.block k (by have := hR2.size; omega) (fun h5 => h5) (fun h5 => by omega)]
    exact hR2.block k hk
  · have := h.bel.size
    have := hm.size
    rcases hT' k hk with h5 | h5
    · have := h.tl k h5; omega
    · omega

theorem ShapeOf_no (a : Option Addr) (n cap : Nat) (f : Nat → Int) (h : shB n f = false) (w : World) (hi : Ints w a n f) :
    Calls Try.prog 26 #[.slice a n cap] w fun e w' => e = .returned (.slice none 0 0) ∧ Below w.heap.size w w' := by
  have HI := Lib.hid hi; clear hi
  cases hw : worldB n f with
  | false =>
    have HW := Lib.hid hw; clear hw h
    go_enter Try.func26, Try.ntmps26
    go_wp2_with fail
    refine (WorldOk_val _ _ _ _ false _ HW.out HI.out).mono ?_
    rintro e w1 ⟨rfl, hb⟩
    have HB := Lib.hid hb; clear hb
    go_wp2_with fail
    go_ret
    exact ⟨rfl, HB.out⟩
  | true =>
    have h4 : (4 : Int) < (n : Int) := by
      unfold shB at h; rw [hw, Bool.true_and, decide_eq_false_iff_not] at h; omega
    have HW := Lib.hid hw; clear hw h
    go_enter Try.func26, Try.ntmps26
    go_wp2_with fail
    refine (WorldOk_val _ _ _ _ true _ HW.out HI.out).mono ?_
    rintro e w1 ⟨rfl, hb⟩
    have HB := Lib.hid hb; clear hb
    go_wp2_with fail
    go_ret
    exact ⟨rfl, HB.out⟩

theorem worldB_pos {n : Nat} {f : Nat → Int} (h : worldB n f = true) : 1 ≤ n ∧ n ≤ 7 := by
  unfold worldB at h
  rw [Bool.and_eq_true, Bool.and_eq_true] at h
  exact ⟨of_decide_eq_true h.1.1, of_decide_eq_true h.1.2⟩

set_option maxRecDepth 100000 in
set_option maxHeartbeats 8000000 in
theorem ShapeOf_in (gw ow n cw : Nat) (f : Nat → Int) (hs : shB n f = true) (w : World) (hi : Ints w (some ⟨gw, ow, none⟩) n f) (hrw : Row w gw ow n f) (hgw : gw < w.heap.size) :
    Calls Try.prog 26 #[.slice (some ⟨gw, ow, none⟩) n cw] w (Gives 3 (shL n f) w) := by
  have hsb := Bool.and_eq_true_iff.1 hs
  have h1 := (worldB_pos hsb.1).1
  have h4 := of_decide_eq_true hsb.2
  have h4d : decide ((4 : Int) < (n : Int)) = false := decide_eq_false (by omega)
  have HI := Lib.hid hi; have HW := Lib.hid hsb.1; have HRW := Lib.hid hrw
  have h64 : ∀ x ∈ rowL f n, I64 x := rowL_mem (P := I64) hi.1.2
  have H64 := Lib.hid h64
  have HL1 := Lib.hid (rowL_len f n)
  have hrv : ∀ i, i < n → f i = rv (rowL f n) i := fun i hi => (rowL_getD f n i hi).symm
  have HRV := Lib.hid hrv
  have h16 : (16 : Nat) ^ n ≤ 65536 := by
    have hc : n = 1 ∨ n = 2 ∨ n = 3 ∨ n = 4 := by omega
    rcases hc with rfl | rfl | rfl | rfl <;> decide
  clear hi hrw hs hsb h64 hrv
  refine (callsIn_wide (n := 3)).1 ?_
  refine callsIn_of_wp_marks Try.func26 rfl trivial ?_ rfl
  simp only [Try.ntmps26, List.size_toArray, List.length_cons, List.length_nil, Nat.reduceAdd, Nat.reduceSub, Array.replicate_succ, Array.replicate_zero, List.push_toArray, List.append_toArray, List.nil_append, List.cons_append]
  gi_wp2_with fail
  refine ⟨trivial, (callsIn_wide.2 (WorldOk_val _ _ _ _ true _ HW.out HI.out)).mono ?_⟩
  rintro e w1 ⟨rfl, hb1⟩
  have HB1 := Lib.hid hb1
  have hgw1 : gw < w1.heap.size := Nat.lt_of_lt_of_le hgw hb1.size
  have HR1 := Lib.hid (HRW.out.below hb1 hgw)
  clear hb1
  gi_wp2_with fail
  refine ⟨trivial, (callsIn_wide.2 (cloneS_any gw ow n cw f h1 (by omega) _ HR1.out hgw1)).mono ?_⟩
  rintro e w2 ⟨v0, rfl, hown, hb2⟩
  obtain ⟨g1, c1, hv, hBg, hgl1, _, _, _, _⟩ := hown.shape (by rw [rowL_len]; exact h1)
  rw [rowL_len] at hv
  subst hv
  have HO := Lib.hid hown; have HB2 := Lib.hid hb2; clear hown hb2
  gi_wp2_with fail
  refine ⟨trivial, (callsIn_wide.2 (inOtherOrders_any _ _ _ _)).mono ?_⟩
  rintro e w' ⟨rfl, rfl⟩
  gi_wp2_with fail
  have q1 := alloc_below w2 (.cells #[.slice (some ⟨g1, 0, none⟩) n c1] 23)
  have b1 := (Boxed.new w2 23 (.slice (some ⟨g1, 0, none⟩) n c1)).alloc (.cells #[.slice (some ⟨gw, ow, none⟩) n cw] 23)
  have q2 := alloc_below (w2.alloc (.cells #[.slice (some ⟨g1, 0, none⟩) n c1] 23)) (.cells #[.slice (some ⟨gw, ow, none⟩) n cw] 23)
  have b2 := Boxed.new (w2.alloc (.cells #[.slice (some ⟨g1, 0, none⟩) n c1] 23)) 23 (.slice (some ⟨gw, ow, none⟩) n cw)
  have hz5 : ((w2.alloc (.cells #[.slice (some ⟨g1, 0, none⟩) n c1] 23)).alloc (.cells #[.slice (some ⟨gw, ow, none⟩) n cw] 23)).heap.size = w2.heap.size + 2 := by simp only [alloc_size]
  have hq := below_onto q1 q2
  rw [alloc_size] at b2
  obtain ⟨w5, hw5⟩ : ∃ w5, (w2.alloc (.cells #[.slice (some ⟨g1, 0, none⟩) n c1] 23)).alloc (.cells #[.slice (some ⟨gw, ow, none⟩) n cw] 23) = w5 := ⟨_, rfl⟩
  rw [hw5] at b1 b2 hz5 hq ⊢
  clear hw5 q1 q2
  have hs1 := HB1.out.size
  have hs2 := HB2.out.size
  have hb5 : Below w.heap.size w w5 := HB1.out.trans ((HB2.out.mono hs1).trans (hq.mono (by omega)))
  have hI0 : ShI n w.heap.size w2.heap.size (rowL f n) w [] (fun _ => False) w5 := ⟨⟨g1, c1, b1, (OwnX.at HO.out (hq.block g1 hgl1)).base hs1, rowL_len f n, by omega⟩, fun h => h, hb5, fun k h => h.elim⟩
  have hIa : AbideQ w5.heap.size (ShI n w.heap.size w2.heap.size (rowL f n) w) := ShI.abide (by omega) (Nat.le_refl _)
  have hseq := orders_stops n (rowL f n) (rowL_len f n) h1 h4 H64.out 2 (w2.heap.size + 1) gw ow cw (fun k => k < w.heap.size) w5 b2 (Row.congr (HRW.out.below hb5 hgw) HRV.out) (by omega) hgw (fun i hi => by omega)
  have HS5 := Lib.hid (show w5.heap.size = w2.heap.size + 2 ∧ w.heap.size ≤ w2.heap.size from ⟨hz5, by omega⟩)
  clear b1 b2 hq hz5 hs1 hs2
  refine wpIn_rangeFunc_sq (R := fun k => k < w.heap.size) (Hx := LstIn (orL (rowL f n)) w5.heap.size) (S := LstAll (orL (rowL f n)) w5.heap.size) (N := 16 ^ n) rfl (by omega) (gf := 80) (lb := #[.pointer (some ⟨w2.heap.size + 1, 0, none⟩)]) rfl trivial (enters_of Try.func80 (by kernel_rfl) rfl)
    hseq (fun k hk => by have := HS5.out; omega) (fun x T => LstIn.stays x T) (fun xs T => LstAll.stays xs T) (Below.refl _ _) (fun _ => rfl)
    (ShI n w.heap.size w2.heap.size (rowL f n) w) hIa hI0
    (fun x => { tmps := #[.slice (some ⟨gw, ow, none⟩) n cw, undef, .slice none 0 0, .pointer (some ⟨w2.heap.size, 0, none⟩), x.v, .slice (some ⟨gw, ow, none⟩) n cw, .bool true, .bool false, .bool false, .slice (some ⟨gw, ow, none⟩) n cw, .int .i64 (n : Int), .bool false, .bool false, .slice (some ⟨gw, ow, none⟩) n cw, .slice (some ⟨g1, 0, none⟩) n c1, .slice (some ⟨gw, ow, none⟩) n cw,
      .func (.func 80) #[] #[.pointer (some ⟨w2.heap.size + 1, 0, none⟩)], x.v, undef, undef, undef, undef, undef, undef], defers := [] })
    ?assign ?body ?done
  case assign =>
    intro l x W K hK
    dsimp only [encL]
    gi_wp2_with fail
    exact hK
  case body =>
    rintro l pre x T W hI hlen hx hTl
    obtain ⟨g2, c2, hv, hown2, hl2, hg2⟩ := hI.box
    have hcell := hv.cell
    have hfz := hv.frozen
    have hxf := hx.1.form (by rw [or_len _ hx.2, rowL_len]) h1
    have hxlen : x.L.length = n := by rw [or_len _ hx.2, rowL_len]
    obtain ⟨xv, xL⟩ := x
    obtain ⟨hxv, _⟩ := hxf
    dsimp only at hxv hxlen
    obtain ⟨gx, hgx⟩ : ∃ gx, (Lst.g ⟨xv, xL⟩) = gx := ⟨_, rfl⟩
    obtain ⟨cx, hcx⟩ : ∃ cx, (Lst.c ⟨xv, xL⟩) = cx := ⟨_, rfl⟩
    rw [hgx, hcx] at hxv
    clear hgx hcx
    subst hxv
    have hxo := hx.1.1
    have hxT := hx.1.2.2 gx rfl
    obtain ⟨gy, cy, hy, _, hgyl, _, _, hrx, _⟩ := hxo.shape (by show 1 ≤ xL.length; omega)
    simp only [Value.slice.injEq] at hy
    obtain ⟨hy1, hy2, hy3⟩ := hy
    clear hy2 hy3
    have hgg : gx = gy := by cases hy1; rfl
    subst hgg
    clear hy1
    obtain ⟨gz, cz, hz, _, hgzl, _, _, hrz, _⟩ := hown2.shape (by omega)
    simp only [Value.slice.injEq] at hz
    obtain ⟨hz1, hz2, hz3⟩ := hz
    clear hz2 hz3
    have hgz : g2 = gz := by cases hz1; rfl
    subst hgz
    clear hz1
    have hrx' : Row W gx 0 n (rv xL) := by have h5 : Row W gx 0 xL.length (rv xL) := hrx; rw [hxlen] at h5; exact h5
    have hrz' : Row W g2 0 n (rv (minL n (rowL f n) (pre.map (fun x => x.L)))) := by rw [hl2] at hrz; exact hrz
    have HCMP := Lib.hid (compare_row gx 0 cx g2 0 c2 n (rv xL) (rv (minL n (rowL f n) (pre.map (fun x => x.L)))) (by omega) W hrx' hrz')
    have HI2 := Lib.hid hI; have HV := Lib.hid hv; have HX := Lib.hid hx; have HTL := Lib.hid hTl; have HT := Lib.hid hxT; have HOW := Lib.hid (show _ ∧ _ ∧ _ from ⟨hown2, hl2, hg2⟩); have HXL := Lib.hid hxlen
    clear hI hx hTl hv hxT hown2 hrx hrz hrx' hrz' hl2 hxlen hxo hg2
    cases hlt : ltB n (rv xL) (rv (minL n (rowL f n) (pre.map (fun x => x.L)))) with
    | false =>
      have HLT := Lib.hid hlt; clear hlt
      gi_wp2_with fail
      refine ⟨trivial, (CallsIn.inRound l (callsIn_wide.2 HCMP.out)).mono ?_⟩
      rintro e w' ⟨⟨r, rfl, hr⟩, rfl⟩
      rw [HLT.out, decide_eq_false_iff_not] at hr
      gi_wp2_with fail
      refine ⟨KeepsFrom.refl _ _, ?_⟩
      have e1 : minL n (rowL f n) ((pre ++ [(⟨.slice (some ⟨gx, 0, none⟩) n cx, xL⟩ : Lst)]).map (fun x => x.L)) = minL n (rowL f n) (pre.map (fun x => x.L)) := by
        rw [List.map_append, List.map_cons, List.map_nil, minL_snoc]; unfold stepL; rw [HLT.out]; rfl
      exact ⟨⟨g2, c2, HV.out, by rw [e1]; exact HOW.out.1, by rw [e1]; exact HOW.out.2.1, HOW.out.2.2⟩, HI2.out.nV, HI2.out.bel, HI2.out.tl⟩
    | true =>
      have HLT := Lib.hid hlt; clear hlt
      gi_wp2_with fail
      refine ⟨trivial, (CallsIn.inRound l (callsIn_wide.2 HCMP.out)).mono ?_⟩
      rintro e w' ⟨⟨r, rfl, hr⟩, rfl⟩
      rw [HLT.out, decide_eq_true_eq] at hr
      gi_wp2_with fail
      have e1 : minL n (rowL f n) ((pre ++ [(⟨.slice (some ⟨gx, 0, none⟩) n cx, xL⟩ : Lst)]).map (fun x => x.L)) = xL := by
        rw [List.map_append, List.map_cons, List.map_nil, minL_snoc]; unfold stepL; rw [HLT.out]; rfl
      have hVx : gx ≠ w2.heap.size := fun e => HI2.out.nV (by rw [← e]; exact HT.out)
      refine ⟨(KeepsOthers.setCell _ _ _).from _, fun k hk => ?_, ⟨⟨gx, cx, HV.out.set _, ?_, by rw [e1]; exact HXL.out, hVx⟩, HI2.out.nV, HI2.out.bel.setCell (p := ⟨w2.heap.size, 0, none⟩) HS5.out.2 _, fun k hk => ?_⟩⟩
      · refine Below.heap_setCell _ _ _ k (fun e => ?_)
        rcases hk with hk | hk
        · exact HI2.out.nV (by rw [← show k = w2.heap.size from e]; exact hk)
        · have := HS5.out; have e5 : k = w2.heap.size := e; omega
      · rw [e1]
        exact OwnX.at ((HX.out.1.base (by have := HS5.out; omega)).1) (Below.heap_setCell _ _ _ gx hVx)
      · have := HI2.out.tl k hk
        simpa [World.setCell] using this
  case done =>
    rintro D xs T W hD hall hI hTl hnT hK
    obtain ⟨g2, c2, hv, hown2, hl2, hg2⟩ := hI.box
    have hcell := hv.cell
    have e1 : minL n (rowL f n) (xs.map (fun x => x.L)) = shL n f := by rw [hall.1]; rfl
    rw [e1] at hown2
    have HB := Lib.hid hI.bel; have HO2 := Lib.hid hown2
    clear hv hown2 hI hall hTl
    gi_wp2_with fail
    refine ⟨by simp, .inl ⟨_, _, rfl, run_takeDeferred hK, ?_⟩⟩
    refine ⟨_, results_tmp rfl _ _ _, _, rfl, ?_, ?_⟩
    · exact ownsRow_putObj HO2.out _ hK rfl
    · exact HB.out.trans (belowK_b (n₀ := w.heap.size) (w := w5) (by have := HS5.out; omega) W D _ (.deferred none) hD hK rfl rfl)

theorem ShapeOf_any (a : Option Addr) (n c : Nat) (f : Nat → Int) (w : World) (hi : Ints w a n f) :
    Calls Try.prog 26 #[.slice a n c] w (Gives 3 (shV n f) w) := by
  cases hs : shB n f with
  | false =>
    unfold shV
    rw [hs, if_neg (by decide)]
    refine (ShapeOf_no a n c f hs w hi).mono ?_
    rintro e w' ⟨rfl, hb⟩
    exact ⟨_, rfl, OwnX.nil _ _ _, hb⟩
  | true =>
    unfold shV
    rw [hs, if_pos rfl]
    obtain ⟨g, o, rfl, hlt, hr⟩ := hi.row (worldB_pos (Bool.and_eq_true_iff.1 hs).1).1
    exact ShapeOf_in g o n c f hs w hi hr hlt
end Go.Proofs.Ytglnefffkcillaa
