import Derived.Test.YtglnefffkcillaaWcP
namespace Go.Proofs.Ytglnefffkcillaa
set_option linter.unusedVariables false
set_option linter.unusedSimpArgs false
open Go.RowKit Go.Maps
attribute [local go_sem] Oper.semAt_some

/-- is a world of this kind? -/
def kdB (k : Nat) (L : List Int) : Bool := kindB L.length (rv L) (k : Int)
/-- how many of these are of this kind -/
def cwN (n k : Nat) : Nat := ((wlL n).filter (kdB k)).length
def cwV (t k : Int) : Int := if (1 ≤ t ∧ t ≤ 4) ∧ (0 ≤ k ∧ k < 6) then (cwN t.toNat k.toNat : Nat) else -1
/-- how many there are in the midst of a round: x has been asked for the kinds below j -/
def hvN (pre : List (List Int)) (L : List Int) (j k : Nat) : Nat := (pre.filter (kdB k)).length + (if k < j then (if kdB k L then 1 else 0) else 0)
theorem hv_start (pre : List (List Int)) (L : List Int) (k : Nat) : hvN pre L 0 k = (pre.filter (kdB k)).length := by unfold hvN; simp
theorem hv_end (pre : List (List Int)) (L : List Int) (k : Nat) (hk : k < 6) : hvN pre L 6 k = ((pre ++ [L]).filter (kdB k)).length := by
  unfold hvN
  rw [if_pos hk, List.filter_append, List.length_append]
  cases h : kdB k L <;> simp [h]
theorem hv_same (pre : List (List Int)) (L : List Int) (j : Nat) : hvN pre L j j = (pre.filter (kdB j)).length := by unfold hvN; simp
theorem hv_next (pre : List (List Int)) (L : List Int) (j k : Nat) : hvN pre L (j + 1) k = hvN pre L j k + (if k = j then (if kdB j L then 1 else 0) else 0) := by
  unfold hvN
  rcases Nat.lt_trichotomy k j with h | h | h
  · rw [if_pos (show k < j + 1 by omega), if_pos h, if_neg (show ¬ k = j by omega)]; omega
  · subst h; rw [if_pos (show k < k + 1 by omega), if_neg (Nat.lt_irrefl k), if_pos rfl]; omega
  · rw [if_neg (show ¬ k < j + 1 by omega), if_neg (show ¬ k < j by omega), if_neg (show ¬ k = j by omega)]

/-- a map of counts -/
def Hist (W : World) (M N : Nat) (c : Nat → Nat) : Prop := ∃ D : DataW Empty, W.ownsMap Try.prog 3 (plainElem (H := Empty) Try.prog 3) M N D ∧ IsMap D ∧ ∀ k : Nat, k < 6 → D.atKey (.int .i64 (k : Int)) (.lit (.int .i64 0)) = .lit (.int .i64 (c k : Int))
theorem Hist.at {W W' : World} {M N : Nat} {c : Nat → Nat} (h : Hist W M N c) (hb : W'.heap[M]? = W.heap[M]?) : Hist W' M N c := by
  obtain ⟨D, ⟨es, ck, h1, h2⟩, h3⟩ := h
  exact ⟨D, ⟨es, ck, hb.trans h1, h2⟩, h3⟩
theorem Hist.lt {W : World} {M N : Nat} {c : Nat → Nat} (h : Hist W M N c) : M < W.heap.size := by
  obtain ⟨D, h1, _⟩ := h; exact h1.lt
theorem Hist.congr {W : World} {M N : Nat} {c c' : Nat → Nat} (h : Hist W M N c) (hc : ∀ k, k < 6 → c k = c' k) : Hist W M N c' := by
  obtain ⟨D, h1, h2, h3⟩ := h
  exact ⟨D, h1, h2, fun k hk => by rw [← hc k hk]; exact h3 k hk⟩

structure HiI (R0 M V : Nat) (w : World) (xs : List Lst) (T : Nat → Prop) (W : World) : Prop where
  box : Boxed W V 59 (.map (some M))
  own : ∃ N, N ≤ 6 * xs.length ∧ Hist W M N (fun k => ((xs.map (fun x => x.L)).filter (kdB k)).length)
  nV : ¬ T V
  nM : ¬ T M
  bel : Below R0 w W
  tl : ∀ k, T k → R0 ≤ k ∧ k < W.heap.size
theorem HiI.abide {R0 M V Bs : Nat} {w : World} (hB : R0 ≤ Bs) (hM : M < Bs) (hR : R0 ≤ w.heap.size) : AbideQ Bs (HiI R0 M V w) := by
  rintro xs T T' W W' h hm hT'
  have hVl := h.box.lt
  obtain ⟨N, hN, hh⟩ := h.own
  have hMl := hh.lt
  have eV : W'.heap[V]? = W.heap[V]? := hm.block V hVl (fun h => h) (fun _ o ho => by rw [show W.heap[V]? = _ from h.box] at ho; cases ho; rfl)
  have eM : W'.heap[M]? = W.heap[M]? := hm.block M hMl (fun h => h) (fun h5 => by omega)
  refine ⟨eV.trans h.box, ⟨N, hN, hh.at eM⟩, fun ht => ?_, fun ht => ?_, ?_, fun k hk => ?_⟩
  · rcases hT' V ht with h5 | h5
    · exact h.nV h5
    · omega
  · rcases hT' M ht with h5 | h5
    · exact h.nM h5
    · omega
  · have hR2 := h.bel
    refine ⟨hm.os.trans hR2.os, hm.tape.trans hR2.tape, hm.output.trans hR2.output, Nat.le_trans hR2.size hm.size, fun k hk => ?_⟩
    rw [hm.block k (by have := hR2.size; omega) (fun h5 => h5) (fun h5 => by omega)]
    exact hR2.block k hk
  · have := h.bel.size
    have := hm.size
    rcases hT' k hk with h5 | h5
    · have := h.tl k h5; omega
    · omega

theorem wfN {x : Int} (h : I64 x) : (Lit.int .i64 x).wf = true := by
  unfold I64 at h
  simp [Lit.wf, IntKind.min, IntKind.max, IntKind.signed, IntKind.bits]; omega
theorem key_int (x : Int) (h : I64 x) : keyOf Try.prog 3 (.int .i64 x) = some (.int .i64 x) := keyOf_int_mk Try.underlying3 (wfN h)

def CountsGive (n : Nat) (w : World) (e : Ending) (w' : World) : Prop := ∃ M N, e = .returned (.map (some M)) ∧ Hist w' M N (cwN n) ∧ w.heap.size ≤ M ∧ Below w.heap.size w w'

set_option maxRecDepth 100000 in
set_option maxHeartbeats 8000000 in
theorem countsOfKinds_any (n : Nat) (h1 : 1 ≤ n) (h4 : n ≤ 4) (w : World) :
    Calls Try.prog 55 #[.int .i64 (n : Int)] w (CountsGive n w) := by
  have hmm := @run_makeMap Try.prog
  have H16 := Lib.hid (pow16 h1 h4)
  refine (callsIn_wide (n := 3)).1 ?_
  refine callsIn_of_wp_marks Try.func55 rfl trivial ?_ rfl
  simp only [Try.ntmps55, List.size_toArray, List.length_cons, List.length_nil, Nat.reduceAdd, Nat.reduceSub, Array.replicate_succ, Array.replicate_zero, List.push_toArray, List.append_toArray, List.nil_append, List.cons_append]
  gi_wp2_with fail
  refine ⟨trivial, (callsIn_wide.2 (worldsInOrder_any _ _)).mono ?_⟩
  rintro e w' ⟨rfl, rfl⟩
  gi_wp2_with fail
  have hm0 : Hist (w.alloc (.map #[] 0)) w.heap.size 0 (fun _ => 0) := ⟨.map [], World.ownsMap_made w Try.prog 3 (plainElem (H := Empty) Try.prog 3), isMap_empty, fun k hk => by rfl⟩
  have q0 := alloc_below w (.map #[] 0)
  have q1 := alloc_below (w.alloc (.map #[] 0)) (.cells #[.map (some w.heap.size)] 59)
  have b1 := (Boxed.new (w.alloc (.map #[] 0)) 59 (.map (some w.heap.size))).alloc (.cells #[.int .i64 (n : Int)] 3)
  have q2 := alloc_below ((w.alloc (.map #[] 0)).alloc (.cells #[.map (some w.heap.size)] 59)) (.cells #[.int .i64 (n : Int)] 3)
  have b2 := Boxed.new ((w.alloc (.map #[] 0)).alloc (.cells #[.map (some w.heap.size)] 59)) 3 (.int .i64 (n : Int))
  have hz5 : (((w.alloc (.map #[] 0)).alloc (.cells #[.map (some w.heap.size)] 59)).alloc (.cells #[.int .i64 (n : Int)] 3)).heap.size = w.heap.size + 3 := by simp only [alloc_size]
  have hq12 := below_onto q1 q2
  have hm5 := hm0.at (hq12.block w.heap.size hm0.lt)
  have hq := below_onto q0 hq12
  simp only [alloc_size] at b1 b2
  obtain ⟨w5, hw5⟩ : ∃ w5, ((w.alloc (.map #[] 0)).alloc (.cells #[.map (some w.heap.size)] 59)).alloc (.cells #[.int .i64 (n : Int)] 3) = w5 := ⟨_, rfl⟩
  rw [hw5] at b1 b2 hz5 hq hm5 ⊢
  clear hw5 q1 q2 q0 hq12 hm0
  have hI0 : HiI w.heap.size w.heap.size (w.heap.size + 1) w [] (fun _ => False) w5 := ⟨b1, ⟨0, Nat.le_refl _, hm5⟩, fun h => h, fun h => h, hq, fun k h => h.elim⟩
  have hIa : AbideQ w5.heap.size (HiI w.heap.size w.heap.size (w.heap.size + 1) w) := HiI.abide (by omega) (by omega) (Nat.le_refl _)
  have hseq := worlds_stops n h1 h4 2 (w.heap.size + 1 + 1) (fun _ => False) w5 b2 (fun _ h => h.elim)
  have HS5 := Lib.hid hz5
  clear b1 b2 hq hz5 hm5
  refine wpIn_rangeFunc_sq (R := fun _ => False) (Hx := LstIn (wlL n) w5.heap.size) (S := LstAll (wlL n) w5.heap.size) (N := 16 ^ n) rfl (by omega) (gf := 73) (lb := #[.pointer (some ⟨w.heap.size + 1 + 1, 0, none⟩)]) rfl trivial (enters_of Try.func73 (by kernel_rfl) rfl)
    hseq (fun k hk => hk.elim) (fun x T => LstIn.stays x T) (fun xs T => LstAll.stays xs T) (Below.refl _ _) (fun _ => rfl)
    (HiI w.heap.size w.heap.size (w.heap.size + 1) w) hIa hI0
    (fun x => { tmps := #[.int .i64 (n : Int), undef, .map none, .pointer (some ⟨w.heap.size + 1, 0, none⟩), x.v, undef, .map (some w.heap.size), .int .i64 (n : Int),
      .func (.func 73) #[] #[.pointer (some ⟨w.heap.size + 1 + 1, 0, none⟩)], x.v, undef, undef, undef, undef, undef, undef, undef, undef, undef, undef, undef, undef], defers := [] })
    ?assign ?body ?done
  case assign =>
    intro l x W K hK
    dsimp only [encL]
    gi_wp2_with fail
    exact hK
  case body =>
    rintro l pre x T W hI hlen hx hTl
    obtain ⟨hxlen, hxw, hx64, hxrow⟩ := wl_facts h1 h4 hx.2
    have hxf := hx.1.form hxlen h1
    obtain ⟨xv, xL⟩ := x
    obtain ⟨hxv, _⟩ := hxf
    dsimp only at hxv hxlen hxw hx64 hxrow
    obtain ⟨gx, hgx⟩ : ∃ gx, (Lst.g ⟨xv, xL⟩) = gx := ⟨_, rfl⟩
    obtain ⟨cx, hcx⟩ : ∃ cx, (Lst.c ⟨xv, xL⟩) = cx := ⟨_, rfl⟩
    rw [hgx, hcx] at hxv
    clear hgx hcx
    subst hxv
    obtain ⟨gy, cy, hy, _, hgyl, _, _, hrx, _⟩ := hx.1.1.shape (by show 1 ≤ xL.length; omega)
    simp only [Value.slice.injEq] at hy
    obtain ⟨hy1, hy2, hy3⟩ := hy
    clear hy2 hy3
    have hgg : gx = gy := by cases hy1; rfl
    subst hgg
    clear hy1
    have hrx' : Row W gx 0 n (rv xL) := by have h5 : Row W gx 0 xL.length (rv xL) := hrx; rw [hxlen] at h5; exact h5
    have hp16 : pre.length ≤ 65536 := by have := H16.out; omega
    have hgT : T gx := hx.1.2.2 gx rfl
    have HT := Lib.hid hgT
    have HI2 := Lib.hid hI; have HTL := Lib.hid hTl; have HRX := Lib.hid hrx'; have HGL := Lib.hid hgyl; have HXL := Lib.hid hxlen; have HX64 := Lib.hid hx64
    have hnm : gx ≠ w.heap.size := fun e => hI.nM (e ▸ hgT)
    have HNM := Lib.hid hnm
    obtain ⟨N0, hN0, hh0⟩ := hI.own
    have HST : Hid (Hist W w.heap.size N0 (hvN (pre.map (fun x => x.L)) xL 0)) := Lib.hid (hh0.congr (fun k hk => (hv_start _ _ k).symm))
    clear hI hx hTl hrx hrx' hxlen hxw hx64 hxrow hgyl hh0 hgT hnm hlen
    gi_wp2_with fail
    gi_loopw [5, 10] (fun _ i wr => ∃ (j N : Nat), j ≤ 6 ∧ i = .int .i64 j ∧ N ≤ N0 + j ∧ Hid (Hist wr w.heap.size N (hvN (pre.map (fun x => x.L)) xL j)) ∧ Hid (W.heap.size ≤ wr.heap.size ∧ (∀ k, k < W.heap.size → k ≠ w.heap.size → wr.heap[k]? = W.heap[k]?) ∧ wr.os = W.os ∧ wr.tape = W.tape ∧ wr.output = W.output)) (fun _ i _ => 6 - (intOf i).toNat)
    case atStart => exact ⟨0, N0, by omega, rfl, by omega, HST, Lib.hid ⟨Nat.le_refl _, fun _ _ _ => rfl, rfl, rfl, rfl⟩⟩
    case round =>
      obtain ⟨j, N, hj, rfl, hN, hH, hk⟩ := hrel
      clear HST
      by_cases hlt : j < 6
      · have hji : (j : Int) < 6 := by omega
        have hrw : Row wr gx 0 n (rv xL) := fun i hi => (World.cell?_of_block (hk.out.2.1 gx HGL.out HNM.out)).trans (HRX.out i hi)
        have hints : Ints wr (some ⟨gx, 0, none⟩) n (rv xL) := ints_row hrw (by have := HGL.out; have := hk.out.1; omega) (by omega) (fun i hi => HX64.out _ (getD_mem (by have := HXL.out; omega)))
        have HINTS := Lib.hid hints
        clear hrw hints
        have hkd : kindB n (rv xL) (j : Int) = kdB j xL := by unfold kdB; rw [HXL.out]
        cases hq : kdB j xL with
        | false =>
          have HQ := Lib.hid (hkd.trans hq)
          have HQ2 := Lib.hid hq
          clear hkd hq
          gi_wp2_with fail
          refine ⟨trivial, (CallsIn.inRound l (callsIn_wide.2 (KindOk_val _ n _ (rv xL) (j : Int) false wr HQ.out HINTS.out))).mono ?_⟩
          rintro e w7 ⟨rfl, hb7⟩
          have hH7 : Hid (Hist w7 w.heap.size N (hvN (pre.map (fun x => x.L)) xL (j + 1))) := Lib.hid ((hH.out.at (hb7.block _ hH.out.lt)).congr (fun k hk => by rw [hv_next, HQ2.out]; simp))
          have hk7 := Lib.hid (show W.heap.size ≤ w7.heap.size ∧ (∀ k, k < W.heap.size → k ≠ w.heap.size → w7.heap[k]? = W.heap[k]?) ∧ w7.os = W.os ∧ w7.tape = W.tape ∧ w7.output = W.output from ⟨Nat.le_trans hk.out.1 hb7.size, fun k h5 h6 => (hb7.block k (Nat.lt_of_lt_of_le h5 hk.out.1)).trans (hk.out.2.1 k h5 h6), hb7.os.trans hk.out.2.2.1, hb7.tape.trans hk.out.2.2.2.1, hb7.output.trans hk.out.2.2.2.2⟩)
          clear hb7
          gi_wp2_with fail
          go_roundw
          case rel => exact ⟨j + 1, N, by omega, by go_num, by omega, hH7, hk7⟩
          case measure => simp [intOf]; omega
        | true =>
          have HQ := Lib.hid (hkd.trans hq)
          have HQ2 := Lib.hid hq
          clear hkd hq
          gi_wp2_with fail
          refine ⟨trivial, (CallsIn.inRound l (callsIn_wide.2 (KindOk_val _ n _ (rv xL) (j : Int) true wr HQ.out HINTS.out))).mono ?_⟩
          rintro e w7 ⟨rfl, hb7⟩
          have hH7 := hH.out.at (hb7.block _ hH.out.lt)
          obtain ⟨D, hown, hD, hat0⟩ := hH7
          have hbx : Boxed w7 (w.heap.size + 1) 59 (.map (some w.heap.size)) := (hb7.block _ (Nat.lt_of_lt_of_le HI2.out.box.lt hk.out.1)).trans ((hk.out.2.1 _ HI2.out.box.lt (by omega)).trans HI2.out.box)
          have hc7 := hbx.cell
          have hk7 := Lib.hid (show W.heap.size ≤ w7.heap.size ∧ (∀ k, k < W.heap.size → k ≠ w.heap.size → w7.heap[k]? = W.heap[k]?) ∧ w7.os = W.os ∧ w7.tape = W.tape ∧ w7.output = W.output from ⟨Nat.le_trans hk.out.1 hb7.size, fun k h5 h6 => (hb7.block k (Nat.lt_of_lt_of_le h5 hk.out.1)).trans (hk.out.2.1 k h5 h6), hb7.os.trans hk.out.2.2.1, hb7.tape.trans hk.out.2.2.2.1, hb7.output.trans hk.out.2.2.2.2⟩)
          have hkey := key_int (j : Int) (by unfold I64; omega)
          have HAT := Lib.hid hat0
          have HD := Lib.hid hD
          obtain ⟨c0, hc0⟩ : ∃ c0, hvN (pre.map (fun x => x.L)) xL j j = c0 := ⟨_, rfl⟩
          have hc0b : c0 ≤ 65536 := by
            have h5 := List.length_filter_le (kdB j) (pre.map (fun x => x.L))
            rw [List.length_map] at h5
            rw [hv_same] at hc0
            omega
          have HC0 := Lib.hid hc0
          have hzv : ∀ w, (zeroValue 3).run Try.prog w = .ok (.int .i64 0) w := fun w => by kernel_rfl
          clear hb7 hbx hat0 hD hc0
          have hwf : (Lit.int .i64 ((c0 : Int) + 1)).wf = true := wfN (by unfold I64; omega)
          have HNM9 : Hid (N < maxLen) := Lib.hid (by unfold maxLen; omega)
          have HPE : Hid (plainElem (H := Empty) Try.prog 3 (.int .i64 ((c0 : Int) + 1)) = some (.lit (.int .i64 ((c0 : Int) + 1)), [])) := Lib.hid (plainElem_int Try.underlying3 hwf)
          have HCE := Lib.hid (fun (c : Int) (hat : D.atKey (.int .i64 (j : Int)) (.lit (.int .i64 0)) = .lit (.int .i64 c)) => show c = (c0 : Int) by
            have h5 := HAT.out j hlt
            rw [hat, HC0.out] at h5
            simpa using h5)
          gi_wp2_with (first
            | (gi_at_lookup; refine wpListIn_lookup_own_int _ rfl _ _ 59 rfl 3 3 .i64 (int_keyed Try.underlying3) Try.underlying59 Try.underlying3 (hzv _) w.heap.size N _ rfl hown _ _ rfl hkey ?_; intro c hat hwc; have hce := HCE.out c hat; clear hat hwc; subst hce)
            | (gi_at_mapUpdate; refine wpListIn_mapUpdate_own _ rfl _ _ _ 59 rfl 3 3 (int_keyed Try.underlying3) Try.underlying59 _ w.heap.size N _ rfl hown HNM9.out _ _ _ rfl rfl hkey _ [] HPE.out ?_; intro w1 hown1 hgrow1))
          have hH1 : Hid (Hist w1 w.heap.size (N + 1) (hvN (pre.map (fun x => x.L)) xL (j + 1))) := Lib.hid ⟨_, hown1, HD.out.put _ _, fun k hk5 => by
            rw [hv_next, HQ2.out]
            by_cases e5 : k = j
            · subst e5
              rw [atKey_put_same (k := .int .i64 (k : Int)) HD.out trivial, if_pos rfl, HC0.out]
              rfl
            · rw [atKey_put_other (fun h => e5 (by simp at h; omega)), HAT.out k hk5, if_neg e5]
              rfl⟩
          have hk1 := Lib.hid (show W.heap.size ≤ w1.heap.size ∧ (∀ k, k < W.heap.size → k ≠ w.heap.size → w1.heap[k]? = W.heap[k]?) ∧ w1.os = W.os ∧ w1.tape = W.tape ∧ w1.output = W.output from ⟨Nat.le_trans hk7.out.1 hgrow1.size, fun k h5 h6 => (hgrow1.block k (Nat.lt_of_lt_of_le h5 hk7.out.1) (fun e => h6 (by cases e; rfl))).trans (hk7.out.2.1 k h5 h6), hgrow1.os.trans hk7.out.2.2.1, hgrow1.tape.trans hk7.out.2.2.2.1, hgrow1.output.trans hk7.out.2.2.2.2⟩)
          clear hown hown1 hgrow1
          go_roundw
          case rel => exact ⟨j + 1, N + 1, by omega, by go_num, by omega, hH1, hk1⟩
          case measure => simp [intOf]; omega
      · have hji : ¬ (j : Int) < 6 := by omega
        have hj6 : j = 6 := by omega
        subst hj6
        have hH6 := hH.out.congr (fun k hk => hv_end (pre.map (fun x => x.L)) xL k hk)
        have HH6 := Lib.hid hH6
        clear hH6
        gi_wp2_with fail
        have hV := HI2.out.box
        refine ⟨⟨hk.out.1, fun k o h5 h6 h7 => ?_⟩, fun k h5 => ?_, ⟨(hk.out.2.1 _ hV.lt (by omega)).trans hV, ⟨N, ?_, ?_⟩, HI2.out.nV, HI2.out.nM, ?_, fun k h5 => ?_⟩⟩
        · exact (hk.out.2.1 k (Array.getElem?_eq_some_iff.1 h6).1 (by have := HS5.out; omega)).trans h6
        · exact hk.out.2.1 k (HI2.out.tl k h5).2 (fun e => HI2.out.nM (e ▸ h5))
        · rw [List.length_append]; simp; omega
        · rw [List.map_append]; exact HH6.out
        · have hb := HI2.out.bel
          exact ⟨hk.out.2.2.1.trans hb.os, hk.out.2.2.2.1.trans hb.tape, hk.out.2.2.2.2.trans hb.output, Nat.le_trans hb.size hk.out.1, fun k h5 => (hk.out.2.1 k (by have := hb.size; omega) (by omega)).trans (hb.block k h5)⟩
        · have := HI2.out.tl k h5; have := hk.out.1; omega
  case done =>
    rintro D xs T W hD hall hI hTl hnT hK
    have hcell := hI.box.cell
    obtain ⟨N, _, hh⟩ := hI.own
    rw [hall.1] at hh
    have HB := Lib.hid hI.bel; have HH := Lib.hid hh
    clear hI hall hTl hh
    gi_wp2_with fail
    refine ⟨by simp, .inl ⟨_, _, rfl, run_takeDeferred hK, ?_⟩⟩
    refine ⟨_, results_tmp rfl _ _ _, w.heap.size, N, rfl, ?_, Nat.le_refl _, ?_⟩
    · exact HH.out.at (World.putObj_heap_other (by have := HS5.out; omega))
    · exact HB.out.trans (belowK_b (n₀ := w.heap.size) (w := w5) (by have := HS5.out; omega) W D _ (.deferred none) hD hK rfl rfl)
end Go.Proofs.Ytglnefffkcillaa
