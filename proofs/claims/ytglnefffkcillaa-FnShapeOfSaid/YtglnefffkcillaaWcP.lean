import Derived.Test.YtglnefffkcillaaWcO
import Derived.Test.YtglnefffkcillaaWcK
import Derived.Maps.OwnIn
import Derived.Maps.Views
namespace Go.Proofs.Ytglnefffkcillaa
set_option linter.unusedVariables false
set_option linter.unusedSimpArgs false
open Go.RowKit Go.Maps
attribute [local go_sem] Oper.semAt_some

theorem minL_len {n : Nat} : ∀ (LL : List (List Int)) (m : List Int), m.length = n → (∀ x ∈ LL, x.length = n) → (minL n m LL).length = n
  | [], m, hm, _ => hm
  | x :: LL, m, hm, h => by
    show (minL n (stepL n m x) LL).length = n
    refine minL_len LL _ ?_ (fun y hy => h y (by simp [hy]))
    unfold stepL
    split
    · exact h x (by simp)
    · exact hm
theorem shL_len (n : Nat) (f : Nat → Int) : (shL n f).length = n :=
  minL_len _ _ (rowL_len f n) (fun x hx => by rw [or_len x hx, rowL_len])
/-- is a world its own shape? -/
def ownB (n : Nat) (L : List Int) : Bool := sameB n (rv L) (rv (shL n (rv L)))
def csN (n : Nat) : Int := ((wlL n).filter (ownB n)).length
def csV (t : Int) : Int := if 1 ≤ t ∧ t ≤ 3 then csN t.toNat else -1

/-- what a counter knows -/
structure CtI (R0 V : Nat) (q : List Int → Bool) (w : World) (xs : List Lst) (T : Nat → Prop) (W : World) : Prop where
  box : Boxed W V 3 (.int .i64 ((((xs.map (fun x => x.L)).filter q).length : Nat) : Int))
  nV : ¬ T V
  bel : Below R0 w W
  tl : ∀ k, T k → R0 ≤ k ∧ k < W.heap.size
theorem CtI.abide {R0 V Bs : Nat} {q : List Int → Bool} {w : World} (hB : R0 ≤ Bs) (hR : R0 ≤ w.heap.size) : AbideQ Bs (CtI R0 V q w) := by
  rintro xs T T' W W' h hm hT'
  have hVl := h.box.lt
  have eV : W'.heap[V]? = W.heap[V]? := hm.block V hVl (fun h => h) (fun _ o ho => by rw [show W.heap[V]? = _ from h.box] at ho; cases ho; rfl)
  refine ⟨eV.trans h.box, fun ht => ?_, ?_, fun k hk => ?_⟩
  · rcases hT' V ht with h5 | h5
    · exact h.nV h5
    · omega
  · have hR2 := h.bel
    refine ⟨hm.os.trans hR2.os, hm.tape.trans hR2.tape, hm.output.trans hR2.output, Nat.le_trans hR2.size hm.size, fun k hk => ?_⟩
    rw [hm.block k (by have := hR2.size; omega) (fun h5 => h5) (fun h5 => by omega)]
    exact hR2.block k hk
  · have := h.bel.size
    have := hm.size
    rcases hT' k hk with h5 | h5
    · have := h.tl k h5; omega
    · omega
theorem cnt_snoc (q : List Int → Bool) (xs : List Lst) (x : Lst) : ((((xs ++ [x]).map (fun x => x.L)).filter q).length : Nat) = ((xs.map (fun x => x.L)).filter q).length + (if q x.L then 1 else 0) := by
  rw [List.map_append, List.filter_append, List.length_append]
  cases h : q x.L <;> simp [h]

theorem pow16 {n : Nat} (h1 : 1 ≤ n) (h4 : n ≤ 4) : (16 : Nat) ^ n ≤ 65536 := by
  have hc : n = 1 ∨ n = 2 ∨ n = 3 ∨ n = 4 := by omega
  rcases hc with rfl | rfl | rfl | rfl <;> decide

theorem wl_facts {n : Nat} (h1 : 1 ≤ n) (h4 : n ≤ 4) {L : List Int} (h : L ∈ wlL n) : L.length = n ∧ worldB n (rv L) = true ∧ (∀ x ∈ L, I64 x) ∧ rowL (rv L) n = L := by
  have h2 := List.mem_filter.1 h
  have hl := llK_len h2.1
  refine ⟨hl, ?_, llK_all (self_I64 h1 h4) h2.1, ?_⟩
  · have := h2.2; unfold wlB at this; rw [hl] at this; exact this
  · have := rowL_self L; rw [hl] at this; exact this

theorem CountShapes_no (t : Int) (h : ¬ (1 ≤ t ∧ t ≤ 3)) (w : World) :
    Calls Try.prog 30 #[.int .i64 t] w fun e w' => e = .returned (.int .i64 (-1)) ∧ w = w' := by
  by_cases h1 : t < 1
  · clear h
    go_enter Try.func30, Try.ntmps30
    go_wp2_with fail
    go_ret
    exact ⟨rfl, rfl⟩
  · have h3 : 3 < t := by omega
    clear h
    go_enter Try.func30, Try.ntmps30
    go_wp2_with fail
    go_ret
    exact ⟨rfl, rfl⟩

set_option maxRecDepth 100000 in
set_option maxHeartbeats 8000000 in
theorem CountShapes_in (n : Nat) (h1 : 1 ≤ n) (h3 : n ≤ 3) (w : World) :
    Calls Try.prog 30 #[.int .i64 (n : Int)] w fun e w' => e = .returned (.int .i64 (csN n)) ∧ Below w.heap.size w w' := by
  have g1 : decide ((n : Int) < 1) = false := decide_eq_false (by omega)
  have g3 : decide ((3 : Int) < (n : Int)) = false := decide_eq_false (by omega)
  have H16 := Lib.hid (pow16 h1 (by omega : n ≤ 4))
  refine (callsIn_wide (n := 3)).1 ?_
  refine callsIn_of_wp_marks Try.func30 rfl trivial ?_ rfl
  simp only [Try.ntmps30, List.size_toArray, List.length_cons, List.length_nil, Nat.reduceAdd, Nat.reduceSub, Array.replicate_succ, Array.replicate_zero, List.push_toArray, List.append_toArray, List.nil_append, List.cons_append]
  gi_wp2_with fail
  refine ⟨trivial, (callsIn_wide.2 (worldsInOrder_any _ _)).mono ?_⟩
  rintro e w' ⟨rfl, rfl⟩
  gi_wp2_with fail
  have q1 := alloc_below w (.cells #[.int .i64 0] 3)
  have b1 := (Boxed.new w 3 (.int .i64 0)).alloc (.cells #[.int .i64 (n : Int)] 3)
  have q2 := alloc_below (w.alloc (.cells #[.int .i64 0] 3)) (.cells #[.int .i64 (n : Int)] 3)
  have b2 := Boxed.new (w.alloc (.cells #[.int .i64 0] 3)) 3 (.int .i64 (n : Int))
  have hz5 : ((w.alloc (.cells #[.int .i64 0] 3)).alloc (.cells #[.int .i64 (n : Int)] 3)).heap.size = w.heap.size + 2 := by simp only [alloc_size]
  have hq := below_onto q1 q2
  rw [alloc_size] at b2
  obtain ⟨w5, hw5⟩ : ∃ w5, (w.alloc (.cells #[.int .i64 0] 3)).alloc (.cells #[.int .i64 (n : Int)] 3) = w5 := ⟨_, rfl⟩
  rw [hw5] at b1 b2 hz5 hq ⊢
  clear hw5 q1 q2
  have hI0 : CtI w.heap.size w.heap.size (ownB n) w [] (fun _ => False) w5 := ⟨b1, fun h => h, hq, fun k h => h.elim⟩
  have hIa : AbideQ w5.heap.size (CtI w.heap.size w.heap.size (ownB n) w) := CtI.abide (by omega) (Nat.le_refl _)
  have hseq := worlds_stops n h1 (by omega) 2 (w.heap.size + 1) (fun _ => False) w5 b2 (fun _ h => h.elim)
  have HS5 := Lib.hid hz5
  clear b1 b2 hq hz5
  refine wpIn_rangeFunc_sq (R := fun _ => False) (Hx := LstIn (wlL n) w5.heap.size) (S := LstAll (wlL n) w5.heap.size) (N := 16 ^ n) rfl (by omega) (gf := 73) (lb := #[.pointer (some ⟨w.heap.size + 1, 0, none⟩)]) rfl trivial (enters_of Try.func73 (by kernel_rfl) rfl)
    hseq (fun k hk => hk.elim) (fun x T => LstIn.stays x T) (fun xs T => LstAll.stays xs T) (Below.refl _ _) (fun _ => rfl)
    (CtI w.heap.size w.heap.size (ownB n) w) hIa hI0
    (fun x => { tmps := #[.int .i64 (n : Int), undef, .int .i64 0, .pointer (some ⟨w.heap.size, 0, none⟩), x.v, .int .i64 (n : Int), .bool false, .bool false, .int .i64 (n : Int), .bool false, .bool false, .int .i64 (n : Int),
      .func (.func 73) #[] #[.pointer (some ⟨w.heap.size + 1, 0, none⟩)], x.v, undef, undef, undef, undef, undef, undef, undef], defers := [] })
    ?assign ?body ?done
  case assign =>
    intro l x W K hK
    dsimp only [encL]
    gi_wp2_with fail
    exact hK
  case body =>
    rintro l pre x T W hI hlen hx hTl
    have hcell := hI.box.cell
    have hfz := hI.box.frozen
    obtain ⟨hxlen, hxw, hx64, hxrow⟩ := wl_facts h1 (by omega) hx.2
    have hxf := hx.1.form hxlen h1
    obtain ⟨xv, xL⟩ := x
    obtain ⟨hxv, _⟩ := hxf
    dsimp only at hxv hxlen hxw hx64 hxrow
    obtain ⟨gx, hgx⟩ : ∃ gx, (Lst.g ⟨xv, xL⟩) = gx := ⟨_, rfl⟩
    obtain ⟨cx, hcx⟩ : ∃ cx, (Lst.c ⟨xv, xL⟩) = cx := ⟨_, rfl⟩
    rw [hgx, hcx] at hxv
    clear hgx hcx
    subst hxv
    obtain ⟨gy, cy, hy, _, hgyl, _, _, hrx, _⟩ := hx.1.1.shape (by show 1 ≤ xL.length; omega)
    simp only [Value.slice.injEq] at hy
    obtain ⟨hy1, hy2, hy3⟩ := hy
    clear hy2 hy3
    have hgg : gx = gy := by cases hy1; rfl
    subst hgg
    clear hy1
    have hrx' : Row W gx 0 n (rv xL) := by have h5 : Row W gx 0 xL.length (rv xL) := hrx; rw [hxlen] at h5; exact h5
    have hints : Ints W (some ⟨gx, 0, none⟩) n (rv xL) := ints_row hrx' hgyl (by omega) (fun i hi => hx64 _ (getD_mem (by omega)))
    have hsb : shB n (rv xL) = true := by unfold shB; rw [hxw, decide_eq_true (by omega : n ≤ 4)]; rfl
    have HSH := Lib.hid (ShapeOf_in gx 0 n cx (rv xL) hsb W hints hrx' hgyl)
    have HI2 := Lib.hid hI; have HTL := Lib.hid hTl; have HRX := Lib.hid hrx'; have HGL := Lib.hid hgyl
    have hp16 : (((pre.map (fun x => x.L)).filter (ownB n)).length : Nat) ≤ 65536 := by
      have h5 := List.length_filter_le (ownB n) (pre.map (fun x => x.L))
      rw [List.length_map] at h5
      have := H16.out; omega
    clear hI hx hTl hrx hrx' hints hsb hxlen hxw hx64 hxrow hgyl
    gi_wp2_with fail
    refine ⟨trivial, (CallsIn.inRound l (callsIn_wide.2 HSH.out)).mono ?_⟩
    rintro e w7 ⟨v7, rfl, ho7, hb7⟩
    obtain ⟨g7, c7, hv7, _, hgl7, _, _, hr7, _⟩ := ho7.shape (by rw [shL_len]; exact h1)
    rw [shL_len] at hv7 hr7
    subst hv7
    have HRX7 := Lib.hid (HRX.out.below hb7 HGL.out)
    have HR7 : Hid (Row w7 g7 0 n (rv (shL n (rv xL)))) := Lib.hid hr7
    have HB7 := Lib.hid hb7
    clear ho7 hr7 hb7
    gi_wp2_with fail
    refine ⟨trivial, (CallsIn.inRound l (callsIn_wide.2 (equal_row gx 0 cx g7 0 c7 n (rv xL) (rv (shL n (rv xL))) (by omega) w7 HRX7.out HR7.out))).mono ?_⟩
    rintro e w8 ⟨rfl, hd8⟩
    have hb8 : Below W.heap.size W w8 := HB7.out.trans (hd8.below.mono HB7.out.size)
    have HB8 := Lib.hid hb8
    have hbx8 : Boxed w8 w.heap.size 3 (.int .i64 ((((pre.map (fun x => x.L)).filter (ownB n)).length : Nat) : Int)) := (hb8.block _ HI2.out.box.lt).trans HI2.out.box
    have hc8 := hbx8.cell
    have hf8 := hbx8.frozen
    have HBX8 := Lib.hid hbx8
    have hs8 := hb8.size
    clear hd8 hb8 hbx8 hcell hfz
    have hbb : Below w.heap.size w w8 := HI2.out.bel.trans (HB8.out.mono (HI2.out.bel.size))
    have HBB := Lib.hid hbb; clear hbb
    have hkp : KeepsOthers W w8 := ⟨hs8, fun k o hk _ => (HB8.out.block k (Array.getElem?_eq_some_iff.1 hk).1).trans hk⟩
    have HKP := Lib.hid hkp; clear hkp
    cases hq : ownB n xL with
    | false =>
      have hq' : sameB n (rv xL) (rv (shL n (rv xL))) = false := hq
      have HQ := Lib.hid hq
      rw [hq']
      clear hq hq'
      gi_wp2_with fail
      refine ⟨HKP.out.from _, fun k hk => HB8.out.block k (HI2.out.tl k hk).2, ?_, HI2.out.nV, HBB.out, fun k hk => ?_⟩
      · rw [cnt_snoc]; rw [HQ.out]; exact HBX8.out
      · have := HI2.out.tl k hk; omega
    | true =>
      have hq' : sameB n (rv xL) (rv (shL n (rv xL))) = true := hq
      have HQ := Lib.hid hq
      rw [hq']
      clear hq hq'
      gi_wp2_with fail
      refine ⟨HKP.out.from _ |>.trans ((KeepsOthers.setCell _ _ _).from _), fun k hk => ?_, ?_, HI2.out.nV, HBB.out.setCell (p := ⟨w.heap.size, 0, none⟩) (Nat.le_refl _) _, fun k hk => ?_⟩
      · refine (Below.heap_setCell _ _ _ k (fun e => HI2.out.nV (by rw [← show k = w.heap.size from e]; exact hk))).trans (HB8.out.block k (HI2.out.tl k hk).2)
      · rw [cnt_snoc, HQ.out, if_pos rfl]
        have e5 : ((((pre.map (fun x => x.L)).filter (ownB n)).length + 1 : Nat) : Int) = ((((pre.map (fun x => x.L)).filter (ownB n)).length : Nat) : Int) + 1 := by omega
        rw [e5]
        exact HBX8.out.set _
      · have := HI2.out.tl k hk
        simp [World.setCell]; omega
  case done =>
    rintro D xs T W hD hall hI hTl hnT hK
    have hcell := hI.box.cell
    rw [hall.1] at hcell
    have HB := Lib.hid hI.bel
    clear hI hall hTl
    gi_wp2_with fail
    refine ⟨by simp, .inl ⟨_, _, rfl, run_takeDeferred hK, ?_⟩⟩
    refine ⟨_, results_tmp rfl _ _ _, rfl, ?_⟩
    exact HB.out.trans (belowK_b (n₀ := w.heap.size) (w := w5) (by have := HS5.out; omega) W D _ (.deferred none) hD hK rfl rfl)

theorem CountShapes_any (t : Int) (w : World) :
    Calls Try.prog 30 #[.int .i64 t] w fun e w' => e = .returned (.int .i64 (csV t)) ∧ Below w.heap.size w w' := by
  by_cases h : 1 ≤ t ∧ t ≤ 3
  · unfold csV
    rw [if_pos h]
    have := CountShapes_in t.toNat (by omega) (by omega) w
    rw [Int.toNat_of_nonneg (by omega)] at this
    exact this
  · unfold csV
    rw [if_neg h]
    refine (CountShapes_no t h w).mono ?_
    rintro e w' ⟨rfl, rfl⟩
    exact ⟨rfl, Below.refl _ _⟩
end Go.Proofs.Ytglnefffkcillaa
