import Derived.Test.YtglnefffkcillaaWcH
namespace Go.Proofs.Ytglnefffkcillaa
set_option linter.unusedVariables false
set_option linter.unusedSimpArgs false
open Go.RowKit Go.Maps
attribute [local go_sem] Oper.semAt_some

/-- the state of an iterator that hands on what another one yields -/
structure ItP (R : Nat → Prop) (J : List Lst → (Nat → Prop) → World → Prop) (W0 W2 : World) (outs : List Lst) (Ti T : Nat → Prop) (wr : World) : Prop where
  j : J outs T wr
  ti : ∀ i, Ti i → T i ∧ W2.heap.size ≤ i
  tl : ∀ i, T i → W0.heap.size ≤ i ∧ i < wr.heap.size
  own : ∀ i, W0.heap.size ≤ i → i < W2.heap.size → T i ∧ wr.heap[i]? = W2.heap[i]?
  two : ∀ i, W2.heap.size ≤ i → i < W2.heap.size + 2 → i < wr.heap.size → T i
  keep : ∀ i, R i → wr.heap[i]? = W0.heap[i]?
  size : W2.heap.size ≤ wr.heap.size
section
variable {R : Nat → Prop} {J : List Lst → (Nat → Prop) → World → Prop} {W0 W2 : World} {outs : List Lst} {Ti T : Nat → Prop} {wr : World}
theorem ItP.mvd (h : ItP R J W0 W2 outs Ti T wr) (hJ : AbideQ W0.heap.size J) (hR : ∀ i, R i → i < W0.heap.size) (h02 : W0.heap.size ≤ W2.heap.size) {Ti' : Nat → Prop} {w' : World} (hm : Mvd (fun _ => False) W2.heap.size wr w') (hT' : ∀ i, Ti' i → Ti i ∨ (wr.heap.size ≤ i ∧ i < w'.heap.size)) : ItP R J W0 W2 outs Ti' (TNew T wr w') w' := by
  have hs := hm.size
  have h2 := h.size
  refine ⟨hJ _ _ _ _ _ h.j ⟨hm.os, hm.tape, hm.output, hm.size, fun k hk1 hk2 hk3 => hm.block k hk1 (fun hk => hk) (fun hk => hk3 (by omega))⟩ (fun i hi => hi), fun i hi => ?_, ?_, fun i h1 h3 => ⟨.inl (h.own i h1 h3).1, ?_⟩, fun i h1 h3 h4 => ?_, fun i hi => ?_, by omega⟩
  · rcases hT' i hi with h3 | h3
    · exact ⟨.inl (h.ti i h3).1, (h.ti i h3).2⟩
    · exact ⟨.inr h3, by omega⟩
  · rintro i (hi | hi)
    · have := h.tl i hi; omega
    · omega
  · exact (hm.block i (by omega) (fun hT => hT) (fun h5 => by omega)).trans (h.own i h1 h3).2
  · by_cases h5 : i < wr.heap.size
    · exact .inl (h.two i h1 h3 h5)
    · exact .inr ⟨by omega, h4⟩
  · have := hR i hi
    rw [hm.block i (by omega) (fun hT => hT) (fun h5 => by omega)]
    exact h.keep i hi
theorem ItP.grow (h : ItP R J W0 W2 outs Ti T wr) (hJ : AbideQ W0.heap.size J) (hR : ∀ i, R i → i < W0.heap.size) (h02 : W0.heap.size ≤ W2.heap.size) {w' : World} (hb : Below wr.heap.size wr w') : ItP R J W0 W2 outs Ti (TNew T wr w') w' :=
  h.mvd hJ hR h02 (mvd_of_below hb) (fun i hi => .inl hi)
theorem ItP.next (h : ItP R J W0 W2 outs Ti T wr) {outs' : List Lst} {w' : World} (hj : J outs' T w') (hs : wr.heap.size ≤ w'.heap.size) (hk : ∀ i, T i ∨ R i → w'.heap[i]? = wr.heap[i]?)
    (hrec : W2.heap.size + 2 ≤ wr.heap.size) : ItP R J W0 W2 outs' Ti T w' :=
  ⟨hj, h.ti, fun i hi => by have := h.tl i hi; omega, fun i h1 h3 => ⟨(h.own i h1 h3).1, (hk i (.inl (h.own i h1 h3).1)).trans (h.own i h1 h3).2⟩, fun i h1 h3 _ => h.two i h1 h3 (by omega), fun i hi => (hk i (.inr hi)).trans (h.keep i hi), Nat.le_trans h.size hs⟩
/-- what the body has kept -/
theorem ItP.kept {wa wb : World} {outs' : List Lst} {Ta Tb : Nat → Prop} (ha : ItP R J W0 W2 outs Ti Ta wa) (hb : ItP R J W0 W2 outs' Ti Tb wb) (hT : ∀ i, Ta i → wb.heap[i]? = wa.heap[i]?) (h2 : W2.heap.size + 2 ≤ wa.heap.size) :
    ∀ i, Ti i ∨ (R i ∨ (W0.heap.size ≤ i ∧ i < W2.heap.size)) ∨ i = W2.heap.size ∨ i = W2.heap.size + 1 → wb.heap[i]? = wa.heap[i]? := by
  intro i hi
  rcases hi with hi | (hi | hi) | rfl | rfl
  · exact hT i (ha.ti i hi).1
  · exact (hb.keep i hi).trans (ha.keep i hi).symm
  · exact (hb.own i hi.1 hi.2).2.trans (ha.own i hi.1 hi.2).2.symm
  · exact hT _ (ha.two _ (Nat.le_refl _) (by omega) (by omega))
  · exact hT _ (ha.two _ (by omega) (by omega) (by omega))
end
def ItF (q : Lst → Bool) (R : Nat → Prop) (J : List Lst → (Nat → Prop) → World → Prop) (W0 W2 : World) (pre : List Lst) (Ti : Nat → Prop) (wr : World) : Prop := ∃ T, ItP R J W0 W2 (pre.filter q) Ti T wr
theorem ItF.abide {q : Lst → Bool} {Bs : Nat} {R : Nat → Prop} {J : List Lst → (Nat → Prop) → World → Prop} {W0 W2 : World} (hJ : AbideQ W0.heap.size J) (hR : ∀ i, R i → i < W0.heap.size) (h02 : W0.heap.size ≤ W2.heap.size) (hB : Bs = W2.heap.size) : AbideQ Bs (ItF q R J W0 W2) := by
  subst hB
  rintro pre Ti Ti' W W' ⟨T, h⟩ hm hT'
  exact ⟨_, h.mvd hJ hR h02 hm hT'⟩
theorem LstAll.filter {LL : List (List Int)} {B B' : Nat} {xs : List Lst} {T T' : Nat → Prop} {w : World} (h : LstAll LL B xs T w) (q : List Int → Bool) (hB : B' ≤ B) (hT : ∀ i, T i → T' i) : LstAll (LL.filter q) B' (xs.filter (fun x => q x.L)) T' w := by
  refine ⟨?_, ?_, fun x hx => ?_⟩
  · rw [← h.1, List.filter_map]; rfl
  · exact h.2.1.sublist (List.Sublist.filterMap _ List.filter_sublist)
  · have := h.2.2 x (List.mem_filter.1 hx).1
    exact ⟨this.1.base hB, this.2.1, fun g hg => hT g (this.2.2 g hg)⟩

theorem self_I64 {n : Nat} (h1 : 1 ≤ n) (h4 : n ≤ 4) : ∀ L, ∀ x ∈ selfC (setsL n) L, I64 x := fun L x hx => by
  have := (sets_facts n h1 h4).2.2 x (List.mem_filter.1 hx).1
  unfold I64; omega
theorem self_len {n : Nat} (h1 : 1 ≤ n) (h4 : n ≤ 4) : ∀ L, (selfC (setsL n) L).length ≤ 16 := fun L => by
  have := (sets_facts n h1 h4).2.1
  exact Nat.le_trans (List.length_filter_le _ _) this
set_option maxRecDepth 100000 in
set_option maxHeartbeats 8000000 in
theorem worlds_in (N l A0 n B : Nat) (h1 : 1 ≤ n) (h4 : n ≤ 4) (R : Nat → Prop) (J : List Lst → (Nat → Prop) → World → Prop) (W : World)
    (hJ : AbideQ W.heap.size J)
    (hY : ∀ pre x T W1, J pre T W1 → pre.length < 16 ^ n → LstIn (wlL n) B x T W1 → YieldAt Fence.wide (N - 1) Try.prog l (encL x) W1 fun e W' =>
      e = .returned (.bool true) ∧ J (pre ++ [x]) T W' ∧ W1.heap.size ≤ W'.heap.size ∧ ∀ k, T k ∨ R k → W'.heap[k]? = W1.heap[k]?)
    (hA0 : Boxed W A0 3 (.int .i64 (n : Int))) (hRl : ∀ i, R i → i < W.heap.size) (hB : B ≤ W.heap.size) (h0 : J [] (fun _ => False) W) :
    CallsIn Fence.wide N Try.prog 73 #[.func (.yield l) #[] #[], .pointer (some ⟨A0, 0, none⟩)] W fun e W' => (∃ v, e = .returned v) ∧
      ∃ xs T, LstAll (wlL n) B xs T W' ∧ J xs T W' := by
  have hmx : Try.prog.follows .mixedOrders = true := by kernel_rfl
  have hca := (hA0.alloc (.cells #[.func (.yield l) #[] #[]] 32)).cell
  have HJ := Lib.hid hJ; have HY := Lib.hid hY; have HRL := Lib.hid hRl; have HH0 := Lib.hid h0
  have q0 := alloc_below W (.cells #[.func (.yield l) #[] #[]] 32)
  have bY := Boxed.new W 32 (.func (.yield l) #[] #[])
  have hz1 : (W.alloc (.cells #[.func (.yield l) #[] #[]] 32)).heap.size = W.heap.size + 1 := alloc_size _ _
  obtain ⟨W1, hW1⟩ : ∃ W1, W.alloc (.cells #[.func (.yield l) #[] #[]] 32) = W1 := ⟨_, rfl⟩
  rw [hW1] at hca q0 bY hz1
  have HQ0 := Lib.hid q0; have HBY := Lib.hid bY
  clear hJ hY hRl h0 hA0 q0 bY
  refine callsIn_wide.2 (callsIn_wide (n := 3).1 ?_)
  refine callsIn_of_wp_marks Try.func73 rfl trivial ?_ rfl
  simp only [Try.ntmps73, List.size_toArray, List.length_cons, List.length_nil, Nat.reduceAdd, Nat.reduceSub, Array.replicate_succ, Array.replicate_zero, List.push_toArray, List.append_toArray, List.nil_append, List.cons_append]
  gi_wp2_with fail
  clear hW1
  rename_i Q8 K8 hK8
  have HK8 : Hid (∀ A gs cs w2, Below W1.heap.size W1 w2 → Boxed w2 A 23 (.slice (some ⟨gs, 0, none⟩) (setsL n).length cs) → Row w2 gs 0 (setsL n).length (fun i => (setsL n).getD i 0) → W1.heap.size ≤ A → W1.heap.size ≤ gs → gs < w2.heap.size →
      K8 { tmps := #[.func (.yield l) #[] #[], .pointer (some ⟨A0, 0, none⟩), .pointer (some ⟨W.heap.size, 0, none⟩), undef, .int .i64 (n : Int), .int .i64 (n : Int), .func (.func 90) #[] #[.pointer (some ⟨A, 0, none⟩)],
        .func (.func 87) #[] #[.pointer (some ⟨w2.heap.size, 0, none⟩), .pointer (some ⟨w2.heap.size + 1, 0, none⟩)], undef, undef, undef, undef, undef, undef, undef, undef, undef], defers := [] }
        ((w2.alloc (.cells #[.int .i64 (n : Int)] 3)).alloc (.cells #[.func (.func 90) #[] #[.pointer (some ⟨A, 0, none⟩)]] 38))) := Lib.hid (by
    intro A gs cs w2 hb2 hA hrw hA1 hg1 hgl
    refine hK8 _ _ ?_
    clear hK8
    have q1 := alloc_below w2 (.cells #[.int .i64 (n : Int)] 3)
    have q2 := alloc_below (w2.alloc (.cells #[.int .i64 (n : Int)] 3)) (.cells #[.func (.func 90) #[] #[.pointer (some ⟨A, 0, none⟩)]] 38)
    have b0 := (Boxed.new w2 3 (.int .i64 (n : Int))).alloc (.cells #[.func (.func 90) #[] #[.pointer (some ⟨A, 0, none⟩)]] 38)
    have b1 := Boxed.new (w2.alloc (.cells #[.int .i64 (n : Int)] 3)) 38 (.func (.func 90) #[] #[.pointer (some ⟨A, 0, none⟩)])
    have hq := below_onto q1 q2
    have hz : ((w2.alloc (.cells #[.int .i64 (n : Int)] 3)).alloc (.cells #[.func (.func 90) #[] #[.pointer (some ⟨A, 0, none⟩)]] 38)).heap.size = w2.heap.size + 2 := by simp only [alloc_size]
    rw [alloc_size] at b1
    obtain ⟨W2, hW2⟩ : ∃ W2, (w2.alloc (.cells #[.int .i64 (n : Int)] 3)).alloc (.cells #[.func (.func 90) #[] #[.pointer (some ⟨A, 0, none⟩)]] 38) = W2 := ⟨_, rfl⟩
    rw [hW2] at b0 b1 hq hz ⊢
    clear hW2 q1 q2
    have hs2 := hb2.size
    have hA' : Boxed W2 A 23 (.slice (some ⟨gs, 0, none⟩) (setsL n).length cs) := (hq.block _ hA.lt).trans hA
    have hAl := hA.lt
    have hrw' := hrw.below hq hgl
    have hbW : Below W.heap.size W W2 := HQ0.out.trans ((hb2.mono (by omega)).trans (hq.mono (by omega)))
    have hyc : W2.cell? ⟨W.heap.size, 0, none⟩ = some (.func (.yield l) #[] #[]) := (hq.cell (p := ⟨W.heap.size, 0, none⟩) (by show W.heap.size < _; omega)).trans ((hb2.cell (p := ⟨W.heap.size, 0, none⟩) (by show W.heap.size < _; omega)).trans HBY.out.cell)
    have HYC := Lib.hid hyc; have HZ2 := Lib.hid (show W.heap.size + 1 < W2.heap.size by omega)
    have hf := sets_facts n h1 h4
    have hI0 : ItF (fun x => wlB x.L) R J W W2 [] (fun _ => False) W2 := ⟨TNew (fun _ => False) W W2, ⟨HJ.out _ _ _ _ _ HH0.out (mvd_of_below hbW) (fun i hi => hi), fun _ h => h.elim,
      fun i hi => by rcases hi with hi | hi; exact hi.elim; exact hi, fun i h1 h2 => ⟨.inr ⟨h1, h2⟩, rfl⟩, fun i h1 _ h2 => absurd h2 (by omega), fun i hi => hbW.block i (HRL.out i hi), Nat.le_refl _⟩⟩
    have hRm : ∀ i, W.heap.size ≤ i → i < W2.heap.size → (fun i => R i ∨ (W.heap.size ≤ i ∧ i < W2.heap.size)) i := fun i h h' => Or.inr ⟨h, h'⟩
    have hseq := lists_stops A 90 16 (enters_of Try.func90 (by kernel_rfl) rfl) (selfC (setsL n)) (self_I64 h1 h4) (self_len h1 h4) (by omega) n (by omega) 2 w2.heap.size (w2.heap.size + 1) (fun i => R i ∨ (W.heap.size ≤ i ∧ i < W2.heap.size)) W2 b0 b1 (hRm _ (by omega) (by omega))
      (self_picks A gs _ cs n (setsL n) (by omega) rfl hf.1 (by omega) (fun x hx => by have := hf.2.2 x hx; unfold I64; omega) _ W2 hA' (hRm _ (by omega) (by omega)) hrw' (by omega) (hRm _ (by omega) (by omega)))
      (fun i hi => by rcases hi with hi | hi; have := HRL.out i hi; omega; exact hi.2)
    have HS2 := Lib.hid (show B ≤ W2.heap.size ∧ W.heap.size ≤ W2.heap.size by omega)
    clear b0 b1 hA hA' hrw hrw' hq hyc hRm hb2 hz
    gi_wp2_with fail
    refine wpIn_rangeFunc_sk (R := fun i => R i ∨ (W.heap.size ≤ i ∧ i < W2.heap.size)) (Hx := LstIn (llK (selfC (setsL n)) n) W2.heap.size) (S := LstAll (llK (selfC (setsL n)) n) W2.heap.size) (N := 16 ^ n) rfl (by omega) (gf := 87) (lb := #[.pointer (some ⟨w2.heap.size, 0, none⟩), .pointer (some ⟨w2.heap.size + 1, 0, none⟩)]) rfl trivial (enters_of Try.func87 (by kernel_rfl) rfl)
      hseq
      (fun i hi => by have h5 := HS2.out; rcases hi with hi | hi; have := HRL.out i hi; omega; exact hi.2) (fun x T => LstIn.stays x T) (fun xs T => LstAll.stays xs T) (Below.refl _ _) (fun _ => rfl)
      (ItF (fun x => wlB x.L) R J W W2) (ItF.abide HJ.out HRL.out HS2.out.2 rfl) hI0
      (fun x => { tmps := #[.func (.yield l) #[] #[], .pointer (some ⟨A0, 0, none⟩), .pointer (some ⟨W.heap.size, 0, none⟩), x.v, .int .i64 (n : Int), .int .i64 (n : Int), .func (.func 90) #[] #[.pointer (some ⟨A, 0, none⟩)],
        .func (.func 87) #[] #[.pointer (some ⟨w2.heap.size, 0, none⟩), .pointer (some ⟨w2.heap.size + 1, 0, none⟩)], x.v, undef, undef, undef, undef, undef, undef, undef, undef], defers := [] })
      ?assign ?body ?done
    case assign =>
      intro l2 x W' K hK
      dsimp only [encL]
      gi_wp2_with fail
      exact hK
    case body =>
      rintro l2 pre x Ti W3 ⟨T, hK⟩ hlen hx hTi hs3
      obtain ⟨v, L⟩ := x
      obtain ⟨a, c, hv⟩ := hx.1.1.slice
      dsimp only at hv hx
      subst hv
      have hLn : L.length = n := llK_len hx.2
      have hL64 := llK_all (self_I64 h1 h4) hx.2
      obtain ⟨a9, c9, hv9, hh⟩ := hx.1.1.has (show L.length ≤ 1000 by omega) hL64
      simp only [Value.slice.injEq] at hv9
      obtain ⟨rfl, _, rfl⟩ := hv9
      have HI : Hid (Ints W3 a L.length (rv L)) := Lib.hid hh.ints
      have HK := Lib.hid hK; have HX := Lib.hid hx; have HS3 := Lib.hid hs3; have HLEN := Lib.hid hlen
      clear hx hTi hs3 hlen hL64 hh hK hI0 hLn
      cases hw : wlB L with
      | true =>
        have HW := Lib.hid hw; clear hw
        gi_wp2_with fail
        refine ⟨trivial, (CallsIn.inRound l2 (callsIn_wide.2 (WorldOk_val _ _ _ _ true _ HW.out HI.out))).mono ?_⟩
        rintro e W4 ⟨rfl, hb4⟩
        have hs4 := hb4.size
        have hK4 := HK.out.grow HJ.out HRL.out HS2.out.2 hb4
        have hcY : W4.cell? ⟨W.heap.size, 0, none⟩ = some (.func (.yield l) #[] #[]) := by
          rw [World.cell?_of_block (hK4.own W.heap.size (Nat.le_refl _) (by have := HZ2.out; omega)).2]
          exact HYC.out
        have hx4 : LstAt B ⟨.slice a L.length c, L⟩ (TNew T W3 W4) W4 := (HX.out.1.moved (fun i hi => .inl (HK.out.ti i hi).1) (fun g hg => hb4.block g (HX.out.1.lt hg).2)).base HS2.out.1
        have hmem : L ∈ wlL n := List.mem_filter.2 ⟨HX.out.2, HW.out⟩
        obtain ⟨fn, tmps, assign, body, hy, hR⟩ := HY.out _ ⟨.slice a L.length c, L⟩ _ W4 hK4.j (Nat.lt_of_le_of_lt (List.length_filter_le _ _) HLEN.out) ⟨hx4, hmem⟩
        dsimp only [encL] at hy
        have HK4 := Lib.hid hK4; have HB4 := Lib.hid hb4
        have ef : (pre ++ [(⟨.slice a L.length c, L⟩ : Lst)]).filter (fun x => wlB x.L) = pre.filter (fun x => wlB x.L) ++ [⟨.slice a L.length c, L⟩] := by
          rw [List.filter_append]; congr 1; simp [HW.out]
        have HEF := Lib.hid ef
        clear hK4 hb4 hx4 hmem ef
        gi_wp2_with fail
        refine RoundIn.mono (F := Fence.wide.inRound l2) (round_any (F := Fence.wide) rfl hR) ?_
        rintro e w5 ⟨rfl, hj5, hs5, hk5⟩
        have hK5 := HK4.out.next (outs' := (pre ++ [(⟨.slice a L.length c, L⟩ : Lst)]).filter (fun x => wlB x.L)) (by rw [HEF.out]; exact hj5) hs5 hk5 (by have := HS3.out; omega)
        have HF := Lib.hid (show _ ∧ _ from ⟨hK5, HK.out.kept hK5 (fun i hi => (hk5 i (.inl (.inl hi))).trans (HB4.out.block i (HK.out.tl i hi).2)) HS3.out⟩)
        clear hK5 hj5 hk5 hy hR
        gi_wp2_with fail
        exact ⟨by omega, HF.out.2, _, HF.out.1⟩
      | false =>
        have HW := Lib.hid hw; clear hw
        gi_wp2_with fail
        refine ⟨trivial, (CallsIn.inRound l2 (callsIn_wide.2 (WorldOk_val _ _ _ _ false _ HW.out HI.out))).mono ?_⟩
        rintro e W4 ⟨rfl, hb4⟩
        have hs4 := hb4.size
        have hK4 := HK.out.grow HJ.out HRL.out HS2.out.2 hb4
        have HK4 := Lib.hid hK4; have HB4 := Lib.hid hb4
        have ef : (pre ++ [(⟨.slice a L.length c, L⟩ : Lst)]).filter (fun x => wlB x.L) = pre.filter (fun x => wlB x.L) := by
          rw [List.filter_append]; simp [HW.out]
        have HEF := Lib.hid ef
        clear hK4 hb4 ef
        gi_wp2_with fail
        refine ⟨fun _ h => (by cases h), ?_⟩
        have hK5 : ItP R J W W2 ((pre ++ [(⟨.slice a L.length c, L⟩ : Lst)]).filter (fun x => wlB x.L)) Ti (TNew T W3 W4) W4 := by rw [HEF.out]; exact HK4.out
        have HF := Lib.hid (show _ ∧ _ from ⟨hK5, HK.out.kept hK5 (fun i hi => HB4.out.block i (HK.out.tl i hi).2) HS3.out⟩)
        clear hK5
        gi_wp2_with fail
        exact ⟨HF.out.2, _, HF.out.1⟩
    case done =>
      rintro D xs Ti W' hD hall ⟨T, hI⟩ hTl hnT hK
      have HALL : Hid (LstAll (wlL n) B (xs.filter (fun x => wlB x.L)) T W') := Lib.hid (hall.filter wlB HS2.out.1 (fun i hi => (hI.ti i hi).1))
      have HJ9 := Lib.hid hI.j
      clear hall hI hTl
      gi_wp2_with fail
      refine ⟨by simp, .inl ⟨_, _, rfl, run_takeDeferred hK, ?_⟩⟩
      exact ⟨_, results_none rfl _ _ _, ⟨_, rfl⟩, _, T, LstAll.stays _ _ _ _ _ _ HALL.out hK rfl, HJ.out.put _ HJ9.out (by have := HS2.out; omega) hK rfl⟩)
  clear hK8
  have hA0l : A0 < W1.heap.size := by
    rcases Nat.lt_or_ge A0 W1.heap.size with h | h
    · exact h
    · simp [World.cell?, Array.getElem?_eq_none h] at hca
  gi_region_with_o (first
    | (refine ⟨trivial, (callsIn_wide.2 (setsWithItself_any n h1 h4 _)).mono ?_⟩; rintro e w2 ⟨A, gs, cs, rfl, hbA, hrg, hA1, hg1, hgl2, hb2⟩; have hca2 := (hb2.cell (p := ⟨A0, 0, none⟩) hA0l).trans hca)
    | (refine ⟨trivial, (callsIn_wide.2 (listsOf_any _ _ _ _)).mono ?_⟩; rintro e w3 ⟨rfl, rfl⟩))
  all_goals exact HK8.out _ _ _ _ (drew_onto (by assumption)) (by assumption) (by assumption) (by assumption) (by assumption) (by assumption)
end Go.Proofs.Ytglnefffkcillaa
