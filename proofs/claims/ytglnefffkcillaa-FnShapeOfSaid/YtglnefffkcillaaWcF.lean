import Derived.Test.YtglnefffkcillaaWcE
namespace Go.Proofs.Ytglnefffkcillaa
set_option linter.unusedVariables false
set_option linter.unusedSimpArgs false
open Go.RowKit Go.Maps
attribute [local go_sem] Oper.semAt_some

set_option maxRecDepth 100000 in
set_option maxHeartbeats 8000000 in
theorem listsS_in (N l A0 A1 Ac gc k B M : Nat) (heng : ∀ args w, (callFunc gc args).run Try.prog w = .ok (.enter gc args) w) (C : List Int → List Int) (R : Nat → Prop) (J : List Lst → (Nat → Prop) → World → Prop) (W : World)
    (h64 : ∀ L, ∀ x ∈ C L, I64 x) (hm : ∀ L, (C L).length ≤ M) (hM : M ≤ 100) (hk : k ≤ 40)
    (hJ : AbideQ W.heap.size J)
    (hY : ∀ pre x T W1, J pre T W1 → pre.length < M ^ (k + 1) → LstIn (llK C (k + 1)) B x T W1 → YieldAt Fence.wide (N - 1) Try.prog l (encL x) W1 fun e W' =>
      e = .returned (.bool true) ∧ J (pre ++ [x]) T W' ∧ W1.heap.size ≤ W'.heap.size ∧ ∀ k, T k ∨ R k → W'.heap[k]? = W1.heap[k]?)
    (hA0 : Boxed W A0 3 (.int .i64 ((k : Int) + 1))) (hA1 : Boxed W A1 38 (.func (.func gc) #[] #[.pointer (some ⟨Ac, 0, none⟩)])) (hRA1 : R A1) (hP : Picks gc Ac C k R W) (hRl : ∀ i, R i → i < W.heap.size) (hB : B ≤ W.heap.size)
    (ih : ∀ (A0' A1' : Nat) (W2 : World), Boxed W2 A0' 3 (.int .i64 k) → Boxed W2 A1' 38 (.func (.func gc) #[] #[.pointer (some ⟨Ac, 0, none⟩)]) → Below W.heap.size W W2 →
      SeqQ Fence.wide 2 Try.prog 87 #[.pointer (some ⟨A0', 0, none⟩), .pointer (some ⟨A1', 0, none⟩)] encL (fun i => R i ∨ i = A0' ∨ i = A1') (LstIn (llK C k) W2.heap.size) (LstAll (llK C k) W2.heap.size) (M ^ k) W2)
    (h0 : J [] (fun _ => False) W) :
    CallsIn Fence.wide N Try.prog 87 #[.func (.yield l) #[] #[], .pointer (some ⟨A0, 0, none⟩), .pointer (some ⟨A1, 0, none⟩)] W fun e W' => (∃ v, e = .returned v) ∧
      ∃ xs T, LstAll (llK C (k + 1)) B xs T W' ∧ J xs T W' := by
  have hca := (hA0.alloc (.cells #[.func (.yield l) #[] #[]] 32)).cell
  have hcb := (hA1.alloc (.cells #[.func (.yield l) #[] #[]] 32)).cell
  have hA1w : W.heap[A1]? = some (.cells #[.func (.func gc) #[] #[.pointer (some ⟨Ac, 0, none⟩)]] 38 (0, 0)) := hA1
  have hk0 : ((k : Int) + 1 == 0) = false := by rw [beq_eq_false_iff_ne]; omega
  have hk1 : IntKind.i64.wrap ((k : Int) + 1 - 1) = (k : Int) := by rw [IntKind.wrap_i64]; omega
  have HJ := Lib.hid hJ; have HY := Lib.hid hY; have HP := Lib.hid hP; have HRL := Lib.hid hRl; have H64 := Lib.hid h64; have HMM := Lib.hid hm; have HIH := Lib.hid ih; have HH0 := Lib.hid h0
  have HA1 := Lib.hid hA1; have HE := Lib.hid heng
  clear hJ hY hP hRl h64 hm ih h0 hA0 hA1 heng hA1w
  refine callsIn_wide.2 (callsIn_wide (n := 3).1 ?_)
  refine callsIn_of_wp_marks Try.func87 rfl trivial ?_ rfl
  simp only [Try.ntmps87, List.size_toArray, List.length_cons, List.length_nil, Nat.reduceAdd, Nat.reduceSub, Array.replicate_succ, Array.replicate_zero, List.push_toArray, List.append_toArray, List.nil_append, List.cons_append]
  gi_wp2_with fail
  refine ⟨trivial, (callsIn_wide.2 (listsOf_any _ _ _ _)).mono ?_⟩
  rintro e w' ⟨rfl, rfl⟩
  gi_wp2_with fail
  have q0 := alloc_below W (.cells #[.func (.yield l) #[] #[]] 32)
  have bY := Boxed.new W 32 (.func (.yield l) #[] #[])
  have q1 := alloc_below (W.alloc (.cells #[.func (.yield l) #[] #[]] 32)) (.cells #[.int .i64 (k : Int)] 3)
  have b1 := Boxed.new (W.alloc (.cells #[.func (.yield l) #[] #[]] 32)) 3 (.int .i64 (k : Int))
  have q2 := alloc_below ((W.alloc (.cells #[.func (.yield l) #[] #[]] 32)).alloc (.cells #[.int .i64 (k : Int)] 3)) (.cells #[.func (.func gc) #[] #[.pointer (some ⟨Ac, 0, none⟩)]] 38)
  have b2 := Boxed.new ((W.alloc (.cells #[.func (.yield l) #[] #[]] 32)).alloc (.cells #[.int .i64 (k : Int)] 3)) 38 (.func (.func gc) #[] #[.pointer (some ⟨Ac, 0, none⟩)])
  replace b1 := b1.alloc (.cells #[.func (.func gc) #[] #[.pointer (some ⟨Ac, 0, none⟩)]] 38)
  replace bY := (bY.alloc (.cells #[.int .i64 (k : Int)] 3)).alloc (.cells #[.func (.func gc) #[] #[.pointer (some ⟨Ac, 0, none⟩)]] 38)
  simp only [alloc_size] at q0 q1 q2 b1 b2 bY
  have hb2 := q0.trans ((q1.mono (by omega)).trans (q2.mono (by omega)))
  have hz2 : (((W.alloc (.cells #[.func (.yield l) #[] #[]] 32)).alloc (.cells #[.int .i64 (k : Int)] 3)).alloc (.cells #[.func (.func gc) #[] #[.pointer (some ⟨Ac, 0, none⟩)]] 38)).heap.size = W.heap.size + 3 := by simp only [alloc_size]
  obtain ⟨W2, hW2⟩ : ∃ W2, ((W.alloc (.cells #[.func (.yield l) #[] #[]] 32)).alloc (.cells #[.int .i64 (k : Int)] 3)).alloc (.cells #[.func (.func gc) #[] #[.pointer (some ⟨Ac, 0, none⟩)]] 38) = W2 := ⟨_, rfl⟩
  rw [hW2] at bY b1 b2 hb2 hz2 ⊢
  clear hW2 q0 q1 q2 hca hcb
  have hI0 : ItI (flC C) B R J W W2 [] (fun _ => False) W2 := ⟨[], TNew (fun _ => False) W W2, ⟨⟨rfl, List.nodup_nil, fun x hx => by cases hx⟩, HJ.out _ _ _ _ _ HH0.out (mvd_of_below hb2) (fun i hi => hi), fun _ h => h.elim, fun x hx => (by cases hx),
    fun i hi => by rcases hi with hi | hi; exact hi.elim; exact hi, fun i h1 h2 => ⟨.inr ⟨h1, h2⟩, rfl⟩, fun i h1 _ h2 => absurd h2 (by omega), fun i hi => hb2.block i (HRL.out i hi), Nat.le_refl _⟩⟩
  have HB2 := Lib.hid hb2; have HBY := Lib.hid bY; have HZ2 := Lib.hid hz2
  refine wpIn_rangeFunc_sk (R := fun i => R i ∨ i = W.heap.size + 1 ∨ i = W.heap.size + 1 + 1) (Hx := LstIn (llK C k) W2.heap.size) (S := LstAll (llK C k) W2.heap.size) (N := M ^ k) rfl (by omega) (gf := 87) (lb := #[.pointer (some ⟨W.heap.size + 1, 0, none⟩), .pointer (some ⟨W.heap.size + 1 + 1, 0, none⟩)]) rfl trivial (enters_of Try.func87 (by kernel_rfl) rfl)
    (HIH.out _ _ W2 b1 b2 hb2) (fun i hi => by rcases hi with hi | hi | hi; have := HRL.out i hi; omega; omega; omega) (fun x T => LstIn.stays x T) (fun xs T => LstAll.stays xs T) (Below.refl _ _) (fun _ => rfl)
    (ItI (flC C) B R J W W2) (ItI.abide HJ.out HRL.out (by omega) rfl) hI0
    (fun x => { tmps := #[.func (.yield l) #[] #[], .pointer (some ⟨A0, 0, none⟩), .pointer (some ⟨A1, 0, none⟩), .pointer (some ⟨W.heap.size, 0, none⟩), x.v, undef, undef, .int .i64 ((k : Int) + 1), .bool false, undef, undef, .int .i64 ((k : Int) + 1), .int .i64 (k : Int),
      .func (.func gc) #[] #[.pointer (some ⟨Ac, 0, none⟩)], .func (.func 87) #[] #[.pointer (some ⟨W.heap.size + 1, 0, none⟩), .pointer (some ⟨W.heap.size + 1 + 1, 0, none⟩)], x.v, undef, undef, undef, undef, undef, undef, undef, undef, undef, undef, undef, undef, undef, undef, undef, undef, undef], defers := [] })
    ?assign ?body ?done
  case assign =>
    intro l2 x W' K hK
    dsimp only [encL]
    gi_wp2_with fail
    exact hK
  case body =>
    rintro l2 pre x Ti W3 ⟨outs, T, hK⟩ hlen hx hTi hs3
    have hA13 : Boxed W3 A1 38 (.func (.func gc) #[] #[.pointer (some ⟨Ac, 0, none⟩)]) := (hK.keep A1 hRA1).trans HA1.out
    have hc1 := hA13.cell
    obtain ⟨v, L⟩ := x
    obtain ⟨a, c, hv⟩ := hx.1.1.slice
    dsimp only at hv hx
    subst hv
    have hLn : L.length = k := llK_len hx.2
    have hL64 := llK_all H64.out hx.2
    have HPC := Lib.hid (HP.out W3 (Nat.le_trans (by omega) hK.size) hK.keep _ _ L hx.1.1 (show L.length ≤ k by omega) hL64)
    have HK := Lib.hid hK; have HX := Lib.hid hx; have HTI := Lib.hid hTi; have HS3 := Lib.hid hs3; have HLEN := Lib.hid hlen; have HLN := Lib.hid hLn
    have hen := HE.out
    clear hx hTi hs3 hlen hLn hL64 hA13 hK bY b1 b2 hb2 hz2 hI0
    gi_wp2_with fail
    refine ⟨trivial, (CallsIn.inRound l2 (callsIn_wide.2 HPC.out)).mono ?_⟩
    rintro e W4 ⟨vC, rfl, hoC, hbC⟩
    obtain ⟨aC, cC, rfl⟩ := hoC.slice
    have hs34 := hbC.size
    have hK4 := HK.out.grow HJ.out HRL.out (by have := HZ2.out; omega) hbC
    have HX4 : Hid (LstAt W2.heap.size ⟨.slice a L.length c, L⟩ (TNew T W3 W4) W4) := Lib.hid (HX.out.1.moved (fun i hi => .inl (HK.out.ti i hi).1) (fun g hg => hbC.block g (HX.out.1.lt hg).2))
    have HT34 : Hid (∀ i, T i → W4.heap[i]? = W3.heap[i]?) := Lib.hid (fun i hi => hbC.block i (HK.out.tl i hi).2)
    have HOC := Lib.hid hoC
    have HP0 : Hid (PostS C B R J W W2 W4 pre L Ti (TNew T W3 W4) 0 W4) := Lib.hid ⟨outs, _, by simpa using hK4, fun i hi => ⟨hi, rfl⟩⟩
    clear hoC hbC hK4
    obtain ⟨m, hm⟩ : ∃ m, (C L).length = m := ⟨_, rfl⟩
    have HMC := Lib.hid hm
    have hm100 : m ≤ 100 := by have := HMM.out L; omega
    rw [hm] at HOC ⊢
    clear hm
    gi_wp2_with fail
    gi_loopw [6, 20] (fun _ i wr => ∃ j : Nat, j ≤ m ∧ i = .int .i64 j ∧ Hid (PostS C B R J W W2 W4 pre L Ti (TNew T W3 W4) j wr) ∧ W4.heap.size ≤ wr.heap.size) (fun _ i _ => m - (intOf i).toNat)
    case atStart => exact ⟨0, Nat.zero_le _, rfl, HP0, Nat.le_refl _⟩
    case round =>
      obtain ⟨j, hj, rfl, hP, hs4⟩ := hrel
      clear HP0 hc1
      by_cases hlt : j < m
      · have hji : (j : Int) < (m : Int) := by omega
        have hj0 : (0 : Int) ≤ (j : Int) := by omega
        obtain ⟨gC, capC, hv, hg1, hg2, _, _, hrow, _⟩ := HOC.out.shape (by rw [HMC.out]; omega)
        rw [HMC.out] at hv hrow
        simp only [Value.slice.injEq] at hv
        obtain ⟨rfl, _, rfl⟩ := hv
        have hcC := hrow j hlt
        obtain ⟨y, hy⟩ : ∃ y, (C L).getD j 0 = y := ⟨_, rfl⟩
        have hcC2 : wr.cell? ⟨gC, j, none⟩ = some (.int .i64 y) := by
          obtain ⟨outs2, T2, hK2, hT2⟩ := hP.out
          rw [← World.cell?_of_block (hT2 gC (.inr ⟨hg1, hg2⟩)).2] at hcC
          rw [Nat.zero_add] at hcC
          rw [← hy]; exact hcC
        have hcY : wr.cell? ⟨W.heap.size, 0, none⟩ = some (.func (.yield l) #[] #[]) := by
          obtain ⟨outs2, T2, hK2, hT2⟩ := hP.out
          rw [World.cell?_of_block (hK2.own W.heap.size (Nat.le_refl _) (by have := HZ2.out; omega)).2]
          exact HBY.out.cell
        have HCC := Lib.hid (joined_in l k B M j L.length c cC (N - 1) a C R J W W2 W4 wr pre L Ti (TNew T W3 W4) y HJ.out HRL.out HZ2.out.symm hB HMM.out HLEN.out rfl (by have := HLN.out; omega) HX.out.2 (by rw [HMC.out]; exact hlt) hy HX4.out (by have := HS3.out; omega) HBY.out.cell HY.out hP.out hs4 (fun i hi => by have := (HK.out.tl i (HK.out.ti i hi).1).2; omega))
        clear hcC hrow hy
        gi_wp2_with fail
        rename_i Q8 K8 hK8
        have HK8 : Hid (∀ g7 c7 w9, PostS C B R J W W2 W4 pre L Ti (TNew T W3 W4) (j + 1) w9 ∧ wr.heap.size ≤ w9.heap.size → K8 { tmps := #[.func (.yield l) #[] #[], .pointer (some ⟨A0, 0, none⟩), .pointer (some ⟨A1, 0, none⟩), .pointer (some ⟨W.heap.size, 0, none⟩), .slice a L.length c, undef, .int .i64 y, .int .i64 ((k : Int) + 1), .bool false,
          undef, undef, .int .i64 ((k : Int) + 1), .int .i64 (k : Int), .func (.func gc) #[] #[.pointer (some ⟨Ac, 0, none⟩)], .func (.func 87) #[] #[.pointer (some ⟨W.heap.size + 1, 0, none⟩), .pointer (some ⟨W.heap.size + 1 + 1, 0, none⟩)],
          .slice a L.length c, .func (.func gc) #[] #[.pointer (some ⟨Ac, 0, none⟩)], .slice a L.length c, .slice (some ⟨gC, 0, none⟩) m cC, .int .i64 (m : Int), .int .i64 (j : Int), .bool true, .pointer (some ⟨gC, j, none⟩), .int .i64 y,
          .func (.yield l) #[] #[], .slice a L.length c, .int .i64 y, .slice (some ⟨wr.heap.size, 0, none⟩) 1 1, .slice (some ⟨wr.heap.size + 1, 0, none⟩) 2 2, .slice (some ⟨g7, 0, none⟩) (L.length + 1) c7, .bool true, .bool false, u32], defers := [] } w9) := Lib.hid (by
          intro g7 c7 w9 hp9
          refine hK8 _ _ ?_
          clear hK8 hcC2 hcY
          have HP9 := Lib.hid hp9.1
          have hs9 := Nat.le_trans hs4 hp9.2
          clear hp9
          gi_wp2_with fail
          go_roundw
          case rel => exact ⟨j + 1, by omega, by go_num, HP9, hs9⟩
          case measure => simp [intOf]; omega)
        have hmx : Try.prog.follows .mixedOrders = true := by kernel_rfl
        have hwr : W.heap.size < wr.heap.size := by have := HZ2.out; have := HS3.out; omega
        have hn1 : ¬ (W.heap.size = wr.heap.size) := by omega
        have hn2 : ¬ (W.heap.size = wr.heap.size + 1) := by omega
        have hn3 : ¬ (wr.heap.size = W.heap.size) := by omega
        have hn4 : ¬ (wr.heap.size + 1 = W.heap.size) := by omega
        clear hK8 HJ HY HP HRL H64 HMM HIH HH0 HA1 HE HB2 HBY HPC HK HX HTI HLEN HX4 HT34 HOC HMC hP hen HZ2 HS3 HLN hs4 hlt hji hj0 hj hm100 hs34 hM hk hRA1 hB hk0 hk1 hcC2
        gi_region_with_o (first
          | (refine ⟨trivial, (CallsIn.inRound l2 (callsIn_wide.2 HCC.out)).mono ?_⟩; rintro e w7 ⟨g7, c7, rfl, hc7, fn7, tm7, as7, bd7, hy7, hR7⟩)
          | (refine RoundIn.mono (F := Fence.wide.inRound l2) (round_any (F := Fence.wide) rfl hR7) ?_; rintro e w9 ⟨rfl, hp9⟩))
        all_goals exact HK8.out _ _ _ hp9
      · have hji : ¬ (j : Int) < (m : Int) := by omega
        have hjm : j = m := by omega
        subst hjm
        obtain ⟨outs2, T2, hK2, hT2⟩ := hP.out
        rw [List.take_of_length_le (by rw [HMC.out]; exact Nat.le_refl _), ← flC_snoc C pre ⟨.slice a L.length c, L⟩] at hK2
        have HK2 := Lib.hid hK2; have HT2 := Lib.hid hT2
        clear hK2 hT2
        gi_wp2_with fail
        refine ⟨by omega, fun i hi => ?_, outs2, T2, HK2.out⟩
        have h3 := HS3.out
        have h2 := HZ2.out
        rcases hi with hi | (hi | rfl | rfl) | rfl | rfl
        · have h1 := (HK.out.ti i hi).1
          exact (HT2.out i (.inl h1)).2.trans (HT34.out i h1)
        · exact (HK2.out.keep i hi).trans (HK.out.keep i hi).symm
        · exact (HK2.out.own _ (by omega) (by omega)).2.trans (HK.out.own _ (by omega) (by omega)).2.symm
        · exact (HK2.out.own _ (by omega) (by omega)).2.trans (HK.out.own _ (by omega) (by omega)).2.symm
        · have h1 := HK.out.two _ (Nat.le_refl _) (by omega) (by omega)
          exact (HT2.out _ (.inl h1)).2.trans (HT34.out _ h1)
        · have h1 := HK.out.two (W2.heap.size + 1) (by omega) (by omega) (by omega)
          exact (HT2.out _ (.inl h1)).2.trans (HT34.out _ h1)
  case done =>
    rintro D xs Ti W' hD hall ⟨outs, T, hI⟩ hTl hnT hK
    have e1 : flC C xs = llK C (k + 1) := by unfold flC; rw [hall.1]; rfl
    have HALL := Lib.hid (e1 ▸ hI.all); have HJ9 := Lib.hid hI.j
    clear hall hI hTl
    gi_wp2_with fail
    refine ⟨by simp, .inl ⟨_, _, rfl, run_takeDeferred hK, ?_⟩⟩
    refine ⟨_, results_none rfl _ _ _, ⟨_, rfl⟩, outs, T, LstAll.stays _ _ _ _ _ _ HALL.out hK rfl, HJ.out.put _ HJ9.out (by omega) hK rfl⟩
end Go.Proofs.Ytglnefffkcillaa
