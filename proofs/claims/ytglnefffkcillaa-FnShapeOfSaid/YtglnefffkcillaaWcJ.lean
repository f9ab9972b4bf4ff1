import Derived.Test.YtglnefffkcillaaWcI
namespace Go.Proofs.Ytglnefffkcillaa
set_option linter.unusedVariables false
set_option linter.unusedSimpArgs false
open Go.RowKit Go.Maps
attribute [local go_sem] Oper.semAt_some

/-- the world of sets -/
def amL (L : List Int) : List Int := rowL (wfF L.length (rv L)) L.length
/-- a world of these sets in all orders -/
def orL (SL : List Int) : List (List Int) := (llK (otherC SL) SL.length).map amL

def flA (pre : List Lst) : List (List Int) := pre.map (fun x => amL x.L)

theorem othersThan_any (a : Option Addr) (n c : Nat) (w : World) :
    Calls Try.prog 81 #[.slice a n c] w fun e w' => e = .returned (.func (.func 98) #[] #[.pointer (some ⟨w.heap.size, 0, none⟩)]) ∧ w' = w.alloc (.cells #[.slice a n c] 23) := by
  have hmf : ∀ (fn : Fn) (first cap : Array Value) (w : World), (Instr.makeFunc fn first cap).run Try.prog w = .ok (.func fn first cap) w := fun _ _ _ _ => rfl
  go_enter Try.func81, Try.ntmps81
  go_wp2_with fail
  go_ret
  exact ⟨rfl, rfl⟩
theorem inOtherOrders_any (a : Option Addr) (n c : Nat) (w : World) :
    Calls Try.prog 57 #[.slice a n c] w fun e w' => e = .returned (.func (.func 80) #[] #[.pointer (some ⟨w.heap.size, 0, none⟩)]) ∧ w' = w.alloc (.cells #[.slice a n c] 23) := by
  have hmf : ∀ (fn : Fn) (first cap : Array Value) (w : World), (Instr.makeFunc fn first cap).run Try.prog w = .ok (.func fn first cap) w := fun _ _ _ _ => rfl
  go_enter Try.func57, Try.ntmps57
  go_wp2_with fail
  go_ret
  exact ⟨rfl, rfl⟩
theorem worldsInOrder_any (n : Int) (w : World) :
    Calls Try.prog 51 #[.int .i64 n] w fun e w' => e = .returned (.func (.func 73) #[] #[.pointer (some ⟨w.heap.size, 0, none⟩)]) ∧ w' = w.alloc (.cells #[.int .i64 n] 3) := by
  have hmf : ∀ (fn : Fn) (first cap : Array Value) (w : World), (Instr.makeFunc fn first cap).run Try.prog w = .ok (.func fn first cap) w := fun _ _ _ _ => rfl
  go_enter Try.func51, Try.ntmps51
  go_wp2_with fail
  go_ret
  exact ⟨rfl, rfl⟩

theorem ItK.kept {LL LL' : List (List Int)} {B : Nat} {R : Nat → Prop} {J : List Lst → (Nat → Prop) → World → Prop} {W0 W2 wa wb : World} {outs outs' : List Lst} {Ti Ta Tb : Nat → Prop} (ha : ItK LL B R J W0 W2 outs Ti Ta wa) (hb : ItK LL' B R J W0 W2 outs' Ti Tb wb) (hT : ∀ i, Ta i → wb.heap[i]? = wa.heap[i]?) (h2 : W2.heap.size + 2 ≤ wa.heap.size) :
    ∀ i, Ti i ∨ (R i ∨ (W0.heap.size ≤ i ∧ i < W2.heap.size)) ∨ i = W2.heap.size ∨ i = W2.heap.size + 1 → wb.heap[i]? = wa.heap[i]? := by
  intro i hi
  rcases hi with hi | (hi | hi) | rfl | rfl
  · exact hT i (ha.ti i hi).1
  · exact (hb.keep i hi).trans (ha.keep i hi).symm
  · exact (hb.own i hi.1 hi.2).2.trans (ha.own i hi.1 hi.2).2.symm
  · exact hT _ (ha.two _ (Nat.le_refl _) (by omega) (by omega))
  · exact hT _ (ha.two _ (by omega) (by omega) (by omega))

/-- behind a round -/
def PostO (LL : List (List Int)) (B : Nat) (R : Nat → Prop) (J : List Lst → (Nat → Prop) → World → Prop) (W W2 W3 : World) (Ti : Nat → Prop) (w9 : World) : Prop :=
  W3.heap.size ≤ w9.heap.size ∧ (∃ outs T, ItK LL B R J W W2 outs Ti T w9) ∧ ∀ i, Ti i ∨ (R i ∨ (W.heap.size ≤ i ∧ i < W2.heap.size)) ∨ i = W2.heap.size ∨ i = W2.heap.size + 1 → w9.heap[i]? = W3.heap[i]?

theorem am_in (l n c N B M : Nat) (a : Option Addr) (h1 : 1 ≤ n) (h4 : n ≤ 7) (LL : List (List Int)) (R : Nat → Prop) (J : List Lst → (Nat → Prop) → World → Prop) (W W2 W3 : World) (pre outs : List Lst) (L : List Int) (Ti T : Nat → Prop)
    (hJ : AbideQ W.heap.size J) (hRl : ∀ i, R i → i < W.heap.size) (h02 : W.heap.size < W2.heap.size) (hB : B ≤ W.heap.size) (hn : L.length = n) (hlen : pre.length < M) (hyc : W2.cell? ⟨W.heap.size, 0, none⟩ = some (.func (.yield l) #[] #[]))
    (hK : ItK (flA pre) B R J W W2 outs Ti T W3) (hx : LstAt W2.heap.size ⟨.slice a n c, L⟩ Ti W3) (hmem : amL L ∈ LL) (hs3 : W2.heap.size + 2 ≤ W3.heap.size)
    (hY : ∀ pre x T W1, J pre T W1 → pre.length < M → LstIn LL B x T W1 → YieldAt Fence.wide N Try.prog l (encL x) W1 fun e W' =>
      e = .returned (.bool true) ∧ J (pre ++ [x]) T W' ∧ W1.heap.size ≤ W'.heap.size ∧ ∀ k, T k ∨ R k → W'.heap[k]? = W1.heap[k]?) :
    Calls Try.prog 82 #[.slice a n c] W3.drew fun e w7 => ∃ g c7, e = .returned (.slice (some ⟨g, 0, none⟩) n c7) ∧ w7.cell? ⟨W.heap.size, 0, none⟩ = some (.func (.yield l) #[] #[]) ∧
      YieldAt Fence.wide 1 Try.prog l #[.slice (some ⟨g, 0, none⟩) n c7] w7 fun e w9 => e = .returned (.bool true) ∧ PostO (flA (pre ++ [⟨.slice a n c, L⟩])) B R J W W2 W3 Ti w9 := by
  obtain ⟨g, cap, hv, _, hgl, _, _, hr, _⟩ := hx.1.shape (by show 1 ≤ L.length; omega)
  simp only [Value.slice.injEq] at hv
  obtain ⟨rfl, e2, rfl⟩ := hv
  have hr' : Row W3.drew g 0 n (rv L) := by
    have h5 : Row W3 g 0 L.length (rv L) := hr
    rw [hn] at h5
    exact h5
  refine (worldAmong_any g 0 n c (rv L) h4 W3.drew hr' hgl).mono ?_
  rintro e w7 ⟨v7, rfl, ho7, hb7⟩
  have hb9 := drew_onto hb7
  have hl7 : (rowL (wfF n (rv L)) n).length = n := rowL_len _ _
  obtain ⟨g7, c7, rfl, hg8, hgl7, _, _, _, _⟩ := ho7.shape (by omega)
  have hsz : W3.drew.heap.size = W3.heap.size := rfl
  rw [hsz] at hg8 ho7
  rw [hl7] at ho7 ⊢
  have eam : amL L = rowL (wfF n (rv L)) n := by unfold amL; rw [hn]
  rw [← eam] at ho7
  have hK7 := hK.grow hJ hRl (by omega) hb9
  refine ⟨g7, c7, rfl, ?_, ?_⟩
  · rw [← hyc]
    exact World.cell?_of_block (hK7.own W.heap.size (Nat.le_refl _) h02).2
  · have hat : LstAt B ⟨.slice (some ⟨g7, 0, none⟩) n c7, amL L⟩ (TNew T W3 w7) w7 := ⟨ho7.base (by omega), fun h => by
      have h5 : amL L = [] := h
      rw [eam] at h5; rw [h5] at hl7; simp at hl7; omega, fun g' hg' => by
      simp [Value.ownBlock] at hg'
      subst hg'
      exact .inr ⟨by omega, hgl7⟩⟩
    have hol : outs.length < M := by rw [hK.all.len]; unfold flA; rw [List.length_map]; exact hlen
    refine (yield_any rfl 1 (hY outs ⟨.slice (some ⟨g7, 0, none⟩) n c7, amL L⟩ _ w7 hK7.j hol ⟨hat, hmem⟩)).mono ?_
    rintro e w9 ⟨rfl, hj9, hs9, hk9⟩
    have hs7 := hb9.size
    have hn9 := hK7.next hat (fun x hx g' hg' e => by
      simp [Value.ownBlock] at e
      subst e
      have := ((hK.all.2.2 x hx).lt hg').2
      omega) (fun g' hg' hTi => by
      simp [Value.ownBlock] at hg'
      subst hg'
      have := (hK.tl _ (hK.ti _ hTi).1).2
      omega) hj9 hs9 hk9 (fun i h1 h2 => by omega)
    refine ⟨rfl, by omega, ⟨outs ++ [⟨.slice (some ⟨g7, 0, none⟩) n c7, amL L⟩], TNew T W3 w7, ?_⟩, hK.kept hn9 (fun i hi => (hk9 i (.inl (.inl hi))).trans (hb9.block i (hK.tl i hi).2)) hs3⟩
    unfold flA at *
    rw [List.map_append]
    exact hn9

theorem other_I64 {SL : List Int} (h64 : ∀ x ∈ SL, I64 x) : ∀ L, ∀ x ∈ otherC SL L, I64 x := fun L x hx => h64 x (List.mem_filter.1 hx).1
theorem other_len {SL : List Int} (h16 : SL.length ≤ 16) : ∀ L, (otherC SL L).length ≤ 16 := fun L => Nat.le_trans (List.length_filter_le _ _) h16

set_option maxRecDepth 100000 in
set_option maxHeartbeats 8000000 in
theorem orders_in (N l A0 gw ow cw n B : Nat) (SL : List Int) (hSL : SL.length = n) (h1 : 1 ≤ n) (h4 : n ≤ 4) (h64 : ∀ x ∈ SL, I64 x) (R : Nat → Prop) (J : List Lst → (Nat → Prop) → World → Prop) (W : World)
    (hJ : AbideQ W.heap.size J)
    (hY : ∀ pre x T W1, J pre T W1 → pre.length < 16 ^ n → LstIn (orL SL) B x T W1 → YieldAt Fence.wide (N - 1) Try.prog l (encL x) W1 fun e W' =>
      e = .returned (.bool true) ∧ J (pre ++ [x]) T W' ∧ W1.heap.size ≤ W'.heap.size ∧ ∀ k, T k ∨ R k → W'.heap[k]? = W1.heap[k]?)
    (hA0 : Boxed W A0 23 (.slice (some ⟨gw, ow, none⟩) n cw)) (hrw : Row W gw ow n (rv SL)) (hgw : gw < W.heap.size) (hRg : R gw) (hRl : ∀ i, R i → i < W.heap.size) (hB : B ≤ W.heap.size) (h0 : J [] (fun _ => False) W) :
    CallsIn Fence.wide N Try.prog 80 #[.func (.yield l) #[] #[], .pointer (some ⟨A0, 0, none⟩)] W fun e W' => (∃ v, e = .returned v) ∧
      ∃ xs T, LstAll (orL SL) B xs T W' ∧ J xs T W' := by
  have hmx : Try.prog.follows .mixedOrders = true := by kernel_rfl
  have hca := (hA0.alloc (.cells #[.func (.yield l) #[] #[]] 32)).cell
  have HJ := Lib.hid hJ; have HY := Lib.hid hY; have HRL := Lib.hid hRl; have HH0 := Lib.hid h0; have H64 := Lib.hid h64; have HSL := Lib.hid hSL; have HRW := Lib.hid hrw
  have q0 := alloc_below W (.cells #[.func (.yield l) #[] #[]] 32)
  have bY := Boxed.new W 32 (.func (.yield l) #[] #[])
  have hz1 : (W.alloc (.cells #[.func (.yield l) #[] #[]] 32)).heap.size = W.heap.size + 1 := alloc_size _ _
  obtain ⟨W1, hW1⟩ : ∃ W1, W.alloc (.cells #[.func (.yield l) #[] #[]] 32) = W1 := ⟨_, rfl⟩
  rw [hW1] at hca q0 bY hz1
  have HQ0 := Lib.hid q0; have HBY := Lib.hid bY
  clear hJ hY hRl h0 hA0 q0 bY h64 hSL hrw
  refine callsIn_wide.2 (callsIn_wide (n := 3).1 ?_)
  refine callsIn_of_wp_marks Try.func80 rfl trivial ?_ rfl
  simp only [Try.ntmps80, List.size_toArray, List.length_cons, List.length_nil, Nat.reduceAdd, Nat.reduceSub, Array.replicate_succ, Array.replicate_zero, List.push_toArray, List.append_toArray, List.nil_append, List.cons_append]
  gi_wp2_with fail
  clear hW1
  rename_i Q8 K8 hK8
  have HK8 : Hid (∀ w2, Below W1.heap.size W1 w2 →
      K8 { tmps := #[.func (.yield l) #[] #[], .pointer (some ⟨A0, 0, none⟩), .pointer (some ⟨W.heap.size, 0, none⟩), undef, .slice (some ⟨gw, ow, none⟩) n cw, .int .i64 (n : Int), .slice (some ⟨gw, ow, none⟩) n cw, .func (.func 98) #[] #[.pointer (some ⟨w2.heap.size, 0, none⟩)],
        .func (.func 87) #[] #[.pointer (some ⟨w2.heap.size + 1, 0, none⟩), .pointer (some ⟨w2.heap.size + 1 + 1, 0, none⟩)], undef, undef, undef, undef, undef, undef], defers := [] }
        (((w2.alloc (.cells #[.slice (some ⟨gw, ow, none⟩) n cw] 23)).alloc (.cells #[.int .i64 (n : Int)] 3)).alloc (.cells #[.func (.func 98) #[] #[.pointer (some ⟨w2.heap.size, 0, none⟩)]] 38))) := Lib.hid (by
    intro w2 hb2
    refine hK8 _ _ ?_
    clear hK8
    have qa := alloc_below w2 (.cells #[.slice (some ⟨gw, ow, none⟩) n cw] 23)
    have ba := Boxed.new w2 23 (.slice (some ⟨gw, ow, none⟩) n cw)
    have hza : (w2.alloc (.cells #[.slice (some ⟨gw, ow, none⟩) n cw] 23)).heap.size = w2.heap.size + 1 := alloc_size _ _
    obtain ⟨w3, hw3⟩ : ∃ w3, w2.alloc (.cells #[.slice (some ⟨gw, ow, none⟩) n cw] 23) = w3 := ⟨_, rfl⟩
    rw [hw3] at qa ba hza ⊢
    clear hw3
    have q1 := alloc_below w3 (.cells #[.int .i64 (n : Int)] 3)
    have q2 := alloc_below (w3.alloc (.cells #[.int .i64 (n : Int)] 3)) (.cells #[.func (.func 98) #[] #[.pointer (some ⟨w2.heap.size, 0, none⟩)]] 38)
    have b0 := (Boxed.new w3 3 (.int .i64 (n : Int))).alloc (.cells #[.func (.func 98) #[] #[.pointer (some ⟨w2.heap.size, 0, none⟩)]] 38)
    have b1 := Boxed.new (w3.alloc (.cells #[.int .i64 (n : Int)] 3)) 38 (.func (.func 98) #[] #[.pointer (some ⟨w2.heap.size, 0, none⟩)])
    have hq := below_onto q1 q2
    have hz : ((w3.alloc (.cells #[.int .i64 (n : Int)] 3)).alloc (.cells #[.func (.func 98) #[] #[.pointer (some ⟨w2.heap.size, 0, none⟩)]] 38)).heap.size = w3.heap.size + 2 := by simp only [alloc_size]
    rw [alloc_size] at b1
    obtain ⟨W2, hW2⟩ : ∃ W2, (w3.alloc (.cells #[.int .i64 (n : Int)] 3)).alloc (.cells #[.func (.func 98) #[] #[.pointer (some ⟨w2.heap.size, 0, none⟩)]] 38) = W2 := ⟨_, rfl⟩
    rw [hW2] at b0 b1 hq hz ⊢
    clear hW2 q1 q2
    rw [hza] at b0 b1
    have hs2 := hb2.size
    have hA' : Boxed W2 w2.heap.size 23 (.slice (some ⟨gw, ow, none⟩) n cw) := (hq.block _ ba.lt).trans ba
    have hbW : Below W.heap.size W W2 := HQ0.out.trans ((hb2.mono (by omega)).trans ((qa.mono (by omega)).trans (hq.mono (by omega))))
    have hrw' := HRW.out.below hbW hgw
    have hyc : W2.cell? ⟨W.heap.size, 0, none⟩ = some (.func (.yield l) #[] #[]) := (hq.cell (p := ⟨W.heap.size, 0, none⟩) (by show W.heap.size < _; omega)).trans ((qa.cell (p := ⟨W.heap.size, 0, none⟩) (by show W.heap.size < _; omega)).trans ((hb2.cell (p := ⟨W.heap.size, 0, none⟩) (by show W.heap.size < _; omega)).trans HBY.out.cell))
    have HYC := Lib.hid hyc; have HZ2 := Lib.hid (show W.heap.size + 1 < W2.heap.size by omega)
    have hI0 : ItI flA B R J W W2 [] (fun _ => False) W2 := ⟨[], TNew (fun _ => False) W W2, ⟨⟨rfl, List.nodup_nil, fun x hx => by cases hx⟩, HJ.out _ _ _ _ _ HH0.out (mvd_of_below hbW) (fun i hi => hi), fun _ h => h.elim, fun x hx => (by cases hx),
      fun i hi => by rcases hi with hi | hi; exact hi.elim; exact hi, fun i h1 h2 => ⟨.inr ⟨h1, h2⟩, rfl⟩, fun i h1 _ h2 => absurd h2 (by omega), fun i hi => hbW.block i (HRL.out i hi), Nat.le_refl _⟩⟩
    have hRm : ∀ i, W.heap.size ≤ i → i < W2.heap.size → (fun i => R i ∨ (W.heap.size ≤ i ∧ i < W2.heap.size)) i := fun i h h' => Or.inr ⟨h, h'⟩
    have hseq := lists_stops w2.heap.size 98 16 (enters_of Try.func98 (by kernel_rfl) rfl) (otherC SL) (other_I64 H64.out) (other_len (by rw [HSL.out]; omega)) (by omega) n (by omega) 2 (w2.heap.size + 1) (w2.heap.size + 1 + 1) (fun i => R i ∨ (W.heap.size ≤ i ∧ i < W2.heap.size)) W2 b0 b1 (hRm _ (by omega) (by omega))
      (other_picks w2.heap.size gw ow n cw n SL (by omega) HSL.out h1 (by omega) H64.out _ W2 hA' (hRm _ (by omega) (by omega)) hrw' (by omega) (Or.inl hRg))
      (fun i hi => by rcases hi with hi | hi; have := HRL.out i hi; omega; exact hi.2)
    have HS2 := Lib.hid (show B ≤ W2.heap.size ∧ W.heap.size ≤ W2.heap.size by omega)
    clear b0 b1 ba hA' hrw' hq hyc hRm hb2 hz qa hza
    gi_wp2_with fail
    refine wpIn_rangeFunc_sk (R := fun i => R i ∨ (W.heap.size ≤ i ∧ i < W2.heap.size)) (Hx := LstIn (llK (otherC SL) n) W2.heap.size) (S := LstAll (llK (otherC SL) n) W2.heap.size) (N := 16 ^ n) rfl (by omega) (gf := 87) (lb := #[.pointer (some ⟨w2.heap.size + 1, 0, none⟩), .pointer (some ⟨w2.heap.size + 1 + 1, 0, none⟩)]) rfl trivial (enters_of Try.func87 (by kernel_rfl) rfl)
      hseq
      (fun i hi => by have h5 := HS2.out; rcases hi with hi | hi; have := HRL.out i hi; omega; exact hi.2) (fun x T => LstIn.stays x T) (fun xs T => LstAll.stays xs T) (Below.refl _ _) (fun _ => rfl)
      (ItI flA B R J W W2) (ItI.abide HJ.out HRL.out HS2.out.2 rfl) hI0
      (fun x => { tmps := #[.func (.yield l) #[] #[], .pointer (some ⟨A0, 0, none⟩), .pointer (some ⟨W.heap.size, 0, none⟩), x.v, .slice (some ⟨gw, ow, none⟩) n cw, .int .i64 (n : Int), .slice (some ⟨gw, ow, none⟩) n cw, .func (.func 98) #[] #[.pointer (some ⟨w2.heap.size, 0, none⟩)],
        .func (.func 87) #[] #[.pointer (some ⟨w2.heap.size + 1, 0, none⟩), .pointer (some ⟨w2.heap.size + 1 + 1, 0, none⟩)], x.v, undef, undef, undef, undef, undef], defers := [] })
      ?assign ?body ?done
    case assign =>
      intro l2 x W' K hK
      dsimp only [encL]
      gi_wp2_with fail
      exact hK
    case body =>
      rintro l2 pre x Ti W3 ⟨outs, T, hK⟩ hlen hx hTi hs3
      obtain ⟨v, L⟩ := x
      obtain ⟨a, c, hv⟩ := hx.1.1.slice
      dsimp only at hv hx
      have hLn : L.length = n := llK_len hx.2
      rw [hLn] at hv
      subst hv
      have hmem : amL L ∈ orL SL := List.mem_map.2 ⟨L, by rw [HSL.out]; exact hx.2, rfl⟩
      have HCC := Lib.hid (am_in l n c (3 - 1) B (16 ^ n) a h1 (by omega) (orL SL) R J W W2 W3 pre outs L Ti T HJ.out HRL.out (by have := HZ2.out; omega) hB hLn hlen HYC.out hK hx.1 hmem hs3 (fun pre x T W1 h1 h2 h3 => yield_any rfl _ (HY.out pre x T W1 h1 h2 h3)))
      have hcY : W3.cell? ⟨W.heap.size, 0, none⟩ = some (.func (.yield l) #[] #[]) := by
        rw [World.cell?_of_block (hK.own W.heap.size (Nat.le_refl _) (by have := HZ2.out; omega)).2]
        exact HYC.out
      clear hx hTi hs3 hlen hK hI0 hLn hmem
      gi_wp2_with fail
      rename_i Q9 K9 hK9
      have HK9 : Hid (∀ g7 c7 w9, PostO (flA (pre ++ [⟨.slice a n c, L⟩])) B R J W W2 W3 Ti w9 → K9 { tmps := #[.func (.yield l) #[] #[], .pointer (some ⟨A0, 0, none⟩), .pointer (some ⟨W.heap.size, 0, none⟩), .slice a n c, .slice (some ⟨gw, ow, none⟩) n cw, .int .i64 (n : Int), .slice (some ⟨gw, ow, none⟩) n cw, .func (.func 98) #[] #[.pointer (some ⟨w2.heap.size, 0, none⟩)],
        .func (.func 87) #[] #[.pointer (some ⟨w2.heap.size + 1, 0, none⟩), .pointer (some ⟨w2.heap.size + 1 + 1, 0, none⟩)], .slice a n c, .func (.yield l) #[] #[], .slice a n c, .slice (some ⟨g7, 0, none⟩) n c7, .bool true, .bool false], defers := [] } w9) := Lib.hid (by
        intro g7 c7 w9 hp9
        refine hK9 _ _ ?_
        have HP := Lib.hid hp9
        clear hp9 hK9 hcY
        gi_wp2_with fail
        exact ⟨HP.out.1, HP.out.2.2, HP.out.2.1⟩)
      clear hK9
      gi_region_with_o (first
        | (refine ⟨trivial, (CallsIn.inRound l2 (callsIn_wide.2 HCC.out)).mono ?_⟩; rintro e w7 ⟨g7, c7, rfl, hc7, fn7, tm7, as7, bd7, hy7, hR7⟩)
        | (refine RoundIn.mono (F := Fence.wide.inRound l2) (round_any (F := Fence.wide) rfl hR7) ?_; rintro e w9 ⟨rfl, hp9⟩))
      all_goals exact HK9.out _ _ _ hp9
    case done =>
      rintro D xs Ti W' hD hall ⟨outs, T, hI⟩ hTl hnT hK
      have e1 : flA xs = orL SL := by unfold orL flA; rw [HSL.out, ← hall.1, List.map_map]; rfl
      have HALL := Lib.hid (e1 ▸ hI.all); have HJ9 := Lib.hid hI.j
      clear hall hI hTl
      gi_wp2_with fail
      refine ⟨by simp, .inl ⟨_, _, rfl, run_takeDeferred hK, ?_⟩⟩
      exact ⟨_, results_none rfl _ _ _, ⟨_, rfl⟩, outs, T, LstAll.stays _ _ _ _ _ _ HALL.out hK rfl, HJ.out.put _ HJ9.out (by have := HS2.out; omega) hK rfl⟩)
  clear hK8
  have hA0l : A0 < W1.heap.size := by
    rcases Nat.lt_or_ge A0 W1.heap.size with h | h
    · exact h
    · simp [World.cell?, Array.getElem?_eq_none h] at hca
  have hA0n : ¬ (A0 = W1.heap.size) := by omega
  have hA0m : ¬ (W1.heap.size = A0) := by omega
  clear hz1
  gi_region_with_o (first
    | (refine ⟨trivial, (callsIn_wide.2 (othersThan_any _ _ _ _)).mono ?_⟩; rintro e w2 ⟨rfl, rfl⟩)
    | (refine ⟨trivial, (callsIn_wide.2 (listsOf_any _ _ _ _)).mono ?_⟩; rintro e w3 ⟨rfl, rfl⟩))
  all_goals exact HK8.out W1.drew (below_drewN (Below.refl _ W1) 1)
end Go.Proofs.Ytglnefffkcillaa
