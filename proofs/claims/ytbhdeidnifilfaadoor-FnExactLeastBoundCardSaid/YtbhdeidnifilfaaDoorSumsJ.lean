import Derived.Test.YtbhdeidnifilfaaDoorSumsI
namespace Go.Proofs.YtbhdeidnifilfaaDoor
open Go.RowKit Go.Shelf
attribute [local go_sem] Oper.semAt_some

/-- what has come, put together -/
def orAll (xs : List Th) : Int := (xs.map (fun x => x.1)).foldl (fun v a => bits .or .i64 v (2 ^ a)) 0
theorem orAll_snoc (xs : List Th) (x : Th) : orAll (xs ++ [x]) = bits .or .i64 (orAll xs) (2 ^ x.1) := by
  unfold orAll; rw [List.map_append, List.foldl_append]; rfl
theorem orAll_range (g : Nat → Bool) (k : Nat) : ((List.range k).filter g).foldl (fun v a => bits .or .i64 v (2 ^ a)) 0 = setOf g k := by
  induction k with
  | zero => rfl
  | succ k ih =>
    rw [List.range_succ, List.filter_append, List.foldl_append, ih]
    cases h : g k with
    | true => rw [setOf_yes g k h]; simp [h]
    | false => rw [setOf_no g k h]; simp [h]
theorem orAll_came {g : Nat → Bool} {k : Nat} {xs : List Th} (h : Came g k xs) : orAll xs = setOf g k := by
  unfold Came at h; unfold orAll; rw [h, orAll_range]

set_option maxRecDepth 100000 in
set_option maxHeartbeats 4000000 in
theorem SumsOf_in (a : Option Addr) (n cap : Nat) (f : Nat → Int) (s : Int) (hs64 : I64 s) (w : World) (hi : Ints w a n f) (hs : setB n f s = true) :
    Calls Tryd.prog 11 #[.slice a n cap, .int .i64 s] w fun e w' => e = .returned (.int .i64 (sumsI n f s)) ∧ Below w.heap.size w w' := by
  have h7 := (worldB_7 (setB_iff.1 hs).1).2
  have HN := Lib.hid hi; have HS := Lib.hid hs; clear hi hs
  refine (callsIn_wide (n := 9)).1 ?_
  refine callsIn_of_wp_marks Tryd.func11 rfl trivial ?_ rfl
  simp only [Tryd.ntmps11, List.size_toArray, List.length_cons, List.length_nil, Nat.reduceAdd, Nat.reduceSub, Array.replicate_succ, Array.replicate_zero, List.push_toArray, List.append_toArray, List.nil_append, List.cons_append]
  gi_wp2_with fail
  refine ⟨trivial, (callsIn_wide.2 (worldWithSet_any a n cap f s hs64 w HN.out)).mono ?_⟩
  rintro e w1 ⟨hbel, ⟨hb, rfl, hlt, hr⟩ | ⟨hb, rfl⟩⟩
  · have HR := Lib.hid hr; clear hb hr
    gi_wp2_with fail
    refine ⟨trivial, (callsIn_wide.2 (sums_any _ n n s _)).mono ?_⟩
    rintro e w2 ⟨rfl, rfl⟩
    gi_wp2_with fail
    have bF := Boxed.new w1 40 (.int .i64 0)
    have bP := Boxed.new (w1.alloc (.cells #[.int .i64 0] 40)) 39 (.slice (some ⟨w.heap.size, 0, none⟩) n n)
    have bQ := Boxed.new ((w1.alloc (.cells #[.int .i64 0] 40)).alloc (.cells #[.slice (some ⟨w.heap.size, 0, none⟩) n n] 39)) 40 (.int .i64 s)
    replace bF := (bF.alloc (.cells #[.slice (some ⟨w.heap.size, 0, none⟩) n n] 39)).alloc (.cells #[.int .i64 s] 40)
    replace bP := bP.alloc (.cells #[.int .i64 s] 40)
    have hB0 : Below w1.heap.size w1 (((w1.alloc (.cells #[.int .i64 0] 40)).alloc (.cells #[.slice (some ⟨w.heap.size, 0, none⟩) n n] 39)).alloc (.cells #[.int .i64 s] 40)) :=
      (((Below.refl _ w1).alloc (Nat.le_refl _) _).alloc (by simp) _).alloc (by simp; omega) _
    simp only [World.size_alloc] at bP bQ
    refine wpIn_rangeFunc_ownF rfl (by omega) (gf := 39) (lb := #[.pointer (some ⟨w1.heap.size + 1, 0, none⟩), .pointer (some ⟨w1.heap.size + 1 + 1, 0, none⟩)]) rfl trivial (enters_of Tryd.func39 (by kernel_rfl) rfl)
      (sumsC_stops _ (w1.heap.size + 1) (w1.heap.size + 1 + 1) w1.heap.size w.heap.size n n f s h7 hlt _ (by simp; omega) (by simp) (HR.out.below hB0 hlt) (by simp) bP.cell bQ.cell)
      (fun h k => Kept.on h k) (kept_b (by simp; omega) (by simp)) (Below.refl _ _) (fun _ => rfl)
      (fun pre W => (W.cell? ⟨w1.heap.size, 0, none⟩ = some (.int .i64 (orAll pre)) ∧ W.frozen? ⟨w1.heap.size, 0, none⟩ = false) ∧ Below w1.heap.size w1 W)
      (fun _ _ _ => False)
      (OwnFrom.and (Own.from (fun s A B row hs hg hr => ⟨cell_kept hs.1 hg hr, (frozen_kept hs.1 hg hr).trans hs.2⟩) _) (ownFrom_below (Nat.le_refl _) (by simp; omega)))
      (fun _ _ _ _ _ hs _ _ => hs)
      ⟨⟨bF.cell, bF.frozen⟩, hB0⟩
      (fun x => { tmps := #[.slice a n cap, .int .i64 s, undef, undef, .int .i64 0, .slice (some ⟨w.heap.size, 0, none⟩) n n, .int .i64 s, .bool true, .pointer (some ⟨w1.heap.size, 0, none⟩), .int .i64 (x.1 : Int),
          .tuple #[.slice (some ⟨w.heap.size, 0, none⟩) n n, .int .i64 s, .bool true], .slice a n cap, .int .i64 s, .tuple #[.slice (some ⟨w.heap.size, 0, none⟩) n n, .int .i64 s, .bool true],
          .slice (some ⟨w.heap.size, 0, none⟩) n n, .int .i64 s, .bool true, .bool true, .bool false, .slice (some ⟨w.heap.size, 0, none⟩) n n, .int .i64 s,
          .func (.func 39) #[] #[.pointer (some ⟨w1.heap.size + 1, 0, none⟩), .pointer (some ⟨w1.heap.size + 1 + 1, 0, none⟩)], .int .i64 (x.1 : Int), undef, undef, undef, undef, undef], defers := [] }) ?assign ?body ?done ?stop
    case assign =>
      intro l x W K hK
      gi_wp2_with fail
      exact hK
    case body =>
      rintro l pre x W ⟨⟨hc, hf⟩, hB⟩ _
      have hmx : Tryd.prog.follows .mixedOrders = true := by kernel_rfl
      have hx7 := x.2
      have ⟨hp1, hp2⟩ := pow_bounds x.1 (by omega)
      have hwr : IntKind.i64.wrap (2 ^ x.1) = 2 ^ x.1 := wrap_in _ (by unfold I64; omega)
      gi_wp2_with fail
      gi_region_with_o (fail)
      all_goals gi_wp2_with fail
      all_goals
        exact ⟨(KeepsOthers.setCell _ _ _).trans (KeepsOthers.drew _),
          ⟨((Below.refl w1.heap.size W).setCell (p := ⟨w1.heap.size, 0, none⟩) (Nat.le_refl _) _).drew, by rw [World.cell?_drew]; exact World.cell?_setCell_other _ _ _ _ (by simp)⟩,
          ⟨by rw [orAll_snoc, World.cell?_drew]; exact World.cell?_setCell_same' _ _ _ (by rw [hc]; rfl), by rw [frozen_drew_own, World.frozen?_setCell]; exact hf⟩,
          (hB.setCell (p := ⟨w1.heap.size, 0, none⟩) (Nat.le_refl _) _).drew⟩
    case done =>
      rintro D ys W hD hys ⟨⟨hc, _⟩, hB⟩ hK
      gi_wp2_with fail
      refine ⟨by simp, .inl ⟨_, _, rfl, run_takeDeferred hK, ?_⟩⟩
      exact ⟨_, results_tmp rfl _ _ _, by rw [orAll_came hys]; rfl, below_to hbel (hB.trans (belowK_b (w := w1) (Nat.le_refl _) W D _ _ (by simp at hD; omega) hK rfl rfl))⟩
    case stop =>
      rintro D c pre W _ _ h _
      exact h.elim
  · rw [HS.out] at hb; cases hb

set_option maxHeartbeats 800000 in
theorem SumsOf_any (a : Option Addr) (n cap : Nat) (f : Nat → Int) (s : Int) (hs64 : I64 s) (w : World) (hi : Ints w a n f) :
    Calls Tryd.prog 11 #[.slice a n cap, .int .i64 s] w fun e w' => e = .returned (.int .i64 (sumsB n f s)) ∧ Below w.heap.size w w' := by
  cases hs : setB n f s with
  | true =>
    have e : sumsB n f s = sumsI n f s := by unfold sumsB; rw [if_pos hs]
    rw [e]
    exact SumsOf_in a n cap f s hs64 w hi hs
  | false =>
    have HN := Lib.hid hi; clear hi
    have HF := Lib.hid (show sumsB n f s = -1 by unfold sumsB; rw [if_neg (by rw [hs]; decide)])
    have HS := Lib.hid hs; clear hs
    go_enter Tryd.func11, Tryd.ntmps11
    go_wp2_with fail
    refine (worldWithSet_any a n cap f s hs64 w HN.out).mono ?_
    rintro e w' ⟨hbel, ⟨hb, rfl, hlt, hr⟩ | ⟨hb, rfl⟩⟩
    · rw [HS.out] at hb; cases hb
    · clear hb
      go_wp2_with fail
      go_ret
      exact ⟨reti HF.out.symm, hbel⟩

theorem SumsOf_val (a : Option Addr) (n cap : Nat) (f : Nat → Int) (s : Int) (v : Int) (hs64 : I64 s) (w : World) (hv : sumsB n f s = v) (hi : Ints w a n f) :
    Calls Tryd.prog 11 #[.slice a n cap, .int .i64 s] w fun e w' => e = .returned (.int .i64 v) ∧ Below w.heap.size w w' := by
  subst hv; exact SumsOf_any a n cap f s hs64 w hi
theorem summed_no {n : Nat} {f : Nat → Int} {k : Nat} (h1 : 1 ≤ k) (hk : k < 2 ^ n) (h : hasSumB n f k = false) : decide (∀ s : Nat, s < 2 ^ n → 1 ≤ s → hasSumB n f s = true) = false :=
  decide_eq_false (fun e => by have := e k hk h1; rw [h] at this; cases this)

end Go.Proofs.YtbhdeidnifilfaaDoor
