import Derived.Test.YtbhdeidnifilfaaSumsI
namespace Go.Proofs.Ytbhdeidnifilfaa
open Go.RowKit Go.Shelf
attribute [local go_sem] Oper.semAt_some

/-- what has come, put together -/
def orAll (xs : List Th) : Int := (xs.map (fun x => x.1)).foldl (fun v a => bits .or .i64 v (2 ^ a)) 0
theorem orAll_snoc (xs : List Th) (x : Th) : orAll (xs ++ [x]) = bits .or .i64 (orAll xs) (2 ^ x.1) := by
  unfold orAll; rw [List.map_append, List.foldl_append]; rfl
theorem orAll_range (g : Nat → Bool) (k : Nat) : ((List.range k).filter g).foldl (fun v a => bits .or .i64 v (2 ^ a)) 0 = setOf g k := by
  induction k with
  | zero => rfl
  | succ k ih =>
    rw [List.range_succ, List.filter_append, List.foldl_append, ih]
    cases h : g k with
    | true => rw [setOf_yes g k h]; simp [h]
    | false => rw [setOf_no g k h]; simp [h]
theorem orAll_came {g : Nat → Bool} {k : Nat} {xs : List Th} (h : Came g k xs) : orAll xs = setOf g k := by
  unfold Came at h; unfold orAll; rw [h, orAll_range]

set_option maxRecDepth 100000 in
set_option maxHeartbeats 4000000 in
theorem SumsOf_in (a : Option Addr) (n cap : Nat) (f : Nat → Int) (s : Int) (hs64 : I64 s) (w : World) (hi : Ints w a n f) (hs : setB n f s = true) :
    Calls Try.prog 10 #[.slice a n cap, .int .i64 s] w fun e w' => e = .returned (.int .i64 (sumsI n f s)) ∧ Below w.heap.size w w' := by
  have h7 := (worldB_7 (setB_iff.1 hs).1).2
  have HN := Lib.hid hi; have HS := Lib.hid hs; clear hi hs
  refine (callsIn_wide (n := 9)).1 ?_
  refine callsIn_of_wp_marks Try.func10 rfl trivial ?_ rfl
  simp only [Try.ntmps10, List.size_toArray, List.length_cons, List.length_nil, Nat.reduceAdd, Nat.reduceSub, Array.replicate_succ, Array.replicate_zero, List.push_toArray, List.append_toArray, List.nil_append, List.cons_append]
  gi_wp2_with fail
  refine ⟨trivial, (callsIn_wide.2 (worldWithSet_any a n cap f s hs64 w HN.out)).mono ?_⟩
  rintro e w1 ⟨hbel, ⟨hb, rfl, hlt, hr⟩ | ⟨hb, rfl⟩⟩
  · have HR := Lib.hid hr; clear hb hr
    gi_wp2_with fail
    refine ⟨trivial, (callsIn_wide.2 (sums_any _ n n s _)).mono ?_⟩
    rintro e w2 ⟨rfl, rfl⟩
    gi_wp2_with fail
    have bF := Boxed.new w1 41 (.int .i64 0)
    have bP := Boxed.new (w1.alloc (.cells #[.int .i64 0] 41)) 40 (.slice (some ⟨w.heap.size, 0, none⟩) n n)
    have bQ := Boxed.new ((w1.alloc (.cells #[.int .i64 0] 41)).alloc (.cells #[.slice (some ⟨w.heap.size, 0, none⟩) n n] 40)) 41 (.int .i64 s)
    replace bF := (bF.alloc (.cells #[.slice (some ⟨w.heap.size, 0, none⟩) n n] 40)).alloc (.cells #[.int .i64 s] 41)
    replace bP := bP.alloc (.cells #[.int .i64 s] 41)
    have hB0 : Below w1.heap.size w1 (((w1.alloc (.cells #[.int .i64 0] 41)).alloc (.cells #[.slice (some ⟨w.heap.size, 0, none⟩) n n] 40)).alloc (.cells #[.int .i64 s] 41)) :=
      (((Below.refl _ w1).alloc (Nat.le_refl _) _).alloc (by simp) _).alloc (by simp; omega) _
    simp only [World.size_alloc] at bP bQ
    refine wpIn_rangeFunc_ownF rfl (by omega) (gf := 47) (lb := #[.pointer (some ⟨w1.heap.size + 1, 0, none⟩), .pointer (some ⟨w1.heap.size + 1 + 1, 0, none⟩)]) rfl trivial (enters_of Try.func47 (by kernel_rfl) rfl)
      (sumsC_stops _ (w1.heap.size + 1) (w1.heap.size + 1 + 1) w1.heap.size w.heap.size n n f s h7 hlt _ (by simp; omega) (by simp) (HR.out.below hB0 hlt) (by simp) bP.cell bQ.cell)
      (fun h k => Kept.on h k) (kept_b (by simp; omega) (by simp)) (Below.refl _ _) (fun _ => rfl)
      (fun pre W => (W.cell? ⟨w1.heap.size, 0, none⟩ = some (.int .i64 (orAll pre)) ∧ W.frozen? ⟨w1.heap.size, 0, none⟩ = false) ∧ Below w1.heap.size w1 W)
      (fun _ _ _ => False)
      (OwnFrom.and (Own.from (fun s A B row hs hg hr => ⟨cell_kept hs.1 hg hr, (frozen_kept hs.1 hg hr).trans hs.2⟩) _) (ownFrom_below (Nat.le_refl _) (by simp; omega)))
      (fun _ _ _ _ _ hs _ _ => hs)
      ⟨⟨bF.cell, bF.frozen⟩, hB0⟩
      (fun x => { tmps := #[.slice a n cap, .int .i64 s, undef, undef, .int .i64 0, .slice (some ⟨w.heap.size, 0, none⟩) n n, .int .i64 s, .bool true, .pointer (some ⟨w1.heap.size, 0, none⟩), .int .i64 (x.1 : Int),
          .tuple #[.slice (some ⟨w.heap.size, 0, none⟩) n n, .int .i64 s, .bool true], .slice a n cap, .int .i64 s, .tuple #[.slice (some ⟨w.heap.size, 0, none⟩) n n, .int .i64 s, .bool true],
          .slice (some ⟨w.heap.size, 0, none⟩) n n, .int .i64 s, .bool true, .bool true, .bool false, .slice (some ⟨w.heap.size, 0, none⟩) n n, .int .i64 s,
          .func (.func 47) #[] #[.pointer (some ⟨w1.heap.size + 1, 0, none⟩), .pointer (some ⟨w1.heap.size + 1 + 1, 0, none⟩)], .int .i64 (x.1 : Int), undef, undef, undef, undef, undef], defers := [] }) ?assign ?body ?done ?stop
    case assign =>
      intro l x W K hK
      gi_wp2_with fail
      exact hK
    case body =>
      rintro l pre x W ⟨⟨hc, hf⟩, hB⟩ _
      have hmx : Try.prog.follows .mixedOrders = true := by kernel_rfl
      have hx7 := x.2
      have ⟨hp1, hp2⟩ := pow_bounds x.1 (by omega)
      have hwr : IntKind.i64.wrap (2 ^ x.1) = 2 ^ x.1 := wrap_in _ (by unfold I64; omega)
      gi_wp2_with fail
      gi_region_with_o (fail)
      all_goals gi_wp2_with fail
      all_goals
        exact ⟨(KeepsOthers.setCell _ _ _).trans (KeepsOthers.drew _),
          ⟨((Below.refl w1.heap.size W).setCell (p := ⟨w1.heap.size, 0, none⟩) (Nat.le_refl _) _).drew, by rw [World.cell?_drew]; exact World.cell?_setCell_other _ _ _ _ (by simp)⟩,
          ⟨by rw [orAll_snoc, World.cell?_drew]; exact World.cell?_setCell_same' _ _ _ (by rw [hc]; rfl), by rw [frozen_drew_own, World.frozen?_setCell]; exact hf⟩,
          (hB.setCell (p := ⟨w1.heap.size, 0, none⟩) (Nat.le_refl _) _).drew⟩
    case done =>
      rintro D ys W hD hys ⟨⟨hc, _⟩, hB⟩ hK
      gi_wp2_with fail
      refine ⟨by simp, .inl ⟨_, _, rfl, run_takeDeferred hK, ?_⟩⟩
      exact ⟨_, results_tmp rfl _ _ _, by rw [orAll_came hys]; rfl, below_to hbel (hB.trans (belowK_b (w := w1) (Nat.le_refl _) W D _ _ (by simp at hD; omega) hK rfl rfl))⟩
    case stop =>
      rintro D c pre W _ _ h _
      exact h.elim
  · rw [HS.out] at hb; cases hb

set_option maxHeartbeats 800000 in
theorem SumsOf_any (a : Option Addr) (n cap : Nat) (f : Nat → Int) (s : Int) (hs64 : I64 s) (w : World) (hi : Ints w a n f) :
    Calls Try.prog 10 #[.slice a n cap, .int .i64 s] w fun e w' => e = .returned (.int .i64 (sumsB n f s)) ∧ Below w.heap.size w w' := by
  cases hs : setB n f s with
  | true =>
    have e : sumsB n f s = sumsI n f s := by unfold sumsB; rw [if_pos hs]
    rw [e]
    exact SumsOf_in a n cap f s hs64 w hi hs
  | false =>
    have HN := Lib.hid hi; clear hi
    have HF := Lib.hid (show sumsB n f s = -1 by unfold sumsB; rw [if_neg (by rw [hs]; decide)])
    have HS := Lib.hid hs; clear hs
    go_enter Try.func10, Try.ntmps10
    go_wp2_with fail
    refine (worldWithSet_any a n cap f s hs64 w HN.out).mono ?_
    rintro e w' ⟨hbel, ⟨hb, rfl, hlt, hr⟩ | ⟨hb, rfl⟩⟩
    · rw [HS.out] at hb; cases hb
    · clear hb
      go_wp2_with fail
      go_ret
      exact ⟨reti HF.out.symm, hbel⟩

theorem SumsOf_val (a : Option Addr) (n cap : Nat) (f : Nat → Int) (s : Int) (v : Int) (hs64 : I64 s) (w : World) (hv : sumsB n f s = v) (hi : Ints w a n f) :
    Calls Try.prog 10 #[.slice a n cap, .int .i64 s] w fun e w' => e = .returned (.int .i64 v) ∧ Below w.heap.size w w' := by
  subst hv; exact SumsOf_any a n cap f s hs64 w hi
theorem BoundsOf_val (a : Option Addr) (n cap : Nat) (f : Nat → Int) (s : Int) (v : Int) (hs64 : I64 s) (w : World) (hv : boundsB n f s = v) (hi : Ints w a n f) :
    Calls Try.prog 18 #[.slice a n cap, .int .i64 s] w fun e w' => e = .returned (.int .i64 v) ∧ Below w.heap.size w w' := by
  subst hv; exact BoundsOf_any a n cap f s hs64 w hi

set_option maxRecDepth 100000 in
set_option maxHeartbeats 4000000 in
theorem hasSum_any (bk n cap : Nat) (f : Nat → Int) (s : Int) (h7 : n ≤ 7) (w : World) (hr : Row w bk 0 n f) (hlt : bk < w.heap.size) :
    Calls Try.prog 68 #[.slice (some ⟨bk, 0, none⟩) n cap, .int .i64 s] w fun e w' => e = .returned (.bool (hasSumB n f s)) ∧ Below w.heap.size w w' := by
  have HR := Lib.hid hr; clear hr
  refine (callsIn_wide (n := 9)).1 ?_
  refine callsIn_of_wp_marks Try.func68 rfl trivial ?_ rfl
  simp only [Try.ntmps68, List.size_toArray, List.length_cons, List.length_nil, Nat.reduceAdd, Nat.reduceSub, Array.replicate_succ, Array.replicate_zero, List.push_toArray, List.append_toArray, List.nil_append, List.cons_append]
  gi_wp2_with fail
  refine ⟨trivial, (callsIn_wide.2 (sums_any _ n cap s _)).mono ?_⟩
  rintro e w2 ⟨rfl, rfl⟩
  gi_wp2_with fail
  have bF := Boxed.new w 4 (.bool false)
  have bP := Boxed.new (w.alloc (.cells #[.bool false] 4)) 40 (.slice (some ⟨bk, 0, none⟩) n cap)
  have bQ := Boxed.new ((w.alloc (.cells #[.bool false] 4)).alloc (.cells #[.slice (some ⟨bk, 0, none⟩) n cap] 40)) 41 (.int .i64 s)
  replace bF := (bF.alloc (.cells #[.slice (some ⟨bk, 0, none⟩) n cap] 40)).alloc (.cells #[.int .i64 s] 41)
  replace bP := bP.alloc (.cells #[.int .i64 s] 41)
  have hB0 : Below w.heap.size w (((w.alloc (.cells #[.bool false] 4)).alloc (.cells #[.slice (some ⟨bk, 0, none⟩) n cap] 40)).alloc (.cells #[.int .i64 s] 41)) :=
    (((Below.refl _ w).alloc (Nat.le_refl _) _).alloc (by simp) _).alloc (by simp; omega) _
  simp only [World.size_alloc] at bP bQ
  refine wpIn_rangeFunc_ownF rfl (by omega) (gf := 47) (lb := #[.pointer (some ⟨w.heap.size + 1, 0, none⟩), .pointer (some ⟨w.heap.size + 1 + 1, 0, none⟩)]) rfl trivial (enters_of Try.func47 (by kernel_rfl) rfl)
    (sumsC_stops _ (w.heap.size + 1) (w.heap.size + 1 + 1) w.heap.size bk n cap f s h7 hlt _ (by simp; omega) (by simp) (HR.out.below hB0 hlt) (by simp) bP.cell bQ.cell)
    (fun h k => Kept.on h k) (kept_b (by simp; omega) (by simp)) (Below.refl _ _) (fun _ => rfl)
    (fun pre W => (pre = [] ∧ W.cell? ⟨w.heap.size, 0, none⟩ = some (.bool false) ∧ W.frozen? ⟨w.heap.size, 0, none⟩ = false) ∧ Below w.heap.size w W)
    (fun c pre W => (c = .ret ∧ W.cell? ⟨w.heap.size, 0, none⟩ = some (.bool true)) ∧ Below w.heap.size w W)
    (OwnFrom.and (Own.from (fun s A B row hs hg hr => ⟨hs.1, cell_kept hs.2.1 hg hr, (frozen_kept hs.2.1 hg hr).trans hs.2.2⟩) _) (ownFrom_below (Nat.le_refl _) (by simp; omega)))
    (fun c => OwnFrom.and (Own.from (fun s A B row hs hg hr => ⟨hs.1, cell_kept hs.2 hg hr⟩) _) (ownFrom_below (Nat.le_refl _) (by simp; omega)))
    ⟨⟨rfl, bF.cell, bF.frozen⟩, hB0⟩
    (fun x => { tmps := #[.slice (some ⟨bk, 0, none⟩) n cap, .int .i64 s, undef, undef, .pointer (some ⟨w.heap.size, 0, none⟩), .slice (some ⟨bk, 0, none⟩) n cap, .int .i64 s,
        .func (.func 47) #[] #[.pointer (some ⟨w.heap.size + 1, 0, none⟩), .pointer (some ⟨w.heap.size + 1 + 1, 0, none⟩)], .int .i64 (x.1 : Int)], defers := [] }) ?assign ?body ?done ?stop
  case assign =>
    intro l x W K hK
    gi_wp2_with fail
    simpa using hK
  case body =>
    rintro l pre x W ⟨⟨rfl, hc, hf⟩, hB⟩ _
    gi_wp2_with fail
    exact ⟨KeepsOthers.setCell _ _ _, ⟨rfl, World.cell?_setCell_same' _ _ _ (by rw [hc]; rfl)⟩, hB.setCell (p := ⟨w.heap.size, 0, none⟩) (Nat.le_refl _) _⟩
  case done =>
    rintro D ys W hD hys ⟨⟨rfl, hcr, hfr⟩, hB⟩ hK
    gi_wp2_with fail
    have hK' := (KeepsOthers.setCell W ⟨w.heap.size, 0, none⟩ (.bool false)).same D _ hK rfl
    refine ⟨by simp, .inl ⟨_, _, rfl, run_takeDeferred hK', ?_⟩⟩
    have hc5 := cell_kept (World.cell?_setCell_same' W ⟨w.heap.size, 0, none⟩ (.bool false) (by rw [hcr]; rfl)) (grownBy_putObj' _ D (.deferred none)) (fun r e => by cases e; exact ⟨_, hK', rfl⟩)
    have hfin : hasSumB n f s = false := by
      refine decide_eq_false ?_
      rintro ⟨k, hk, hg⟩
      have : k ∈ (List.range n).filter (sumG n f s) := List.mem_filter.2 ⟨List.mem_range.2 hk, hg⟩
      unfold Came at hys
      rw [← hys] at this
      simp at this
    refine ⟨.bool false, ?_, by rw [hfin], (hB.setCell (p := ⟨w.heap.size, 0, none⟩) (Nat.le_refl _) _).trans (belowK_b (w := w) (Nat.le_refl _) _ D _ _ (by simp at hD; omega) hK' rfl rfl)⟩
    simp [results, Try.f68, go_sem, hc5]
  case stop =>
    rintro D c pre W hD ⟨k, hk, hg⟩ ⟨⟨rfl, hcr⟩, hB⟩ hK
    gi_wp2_with fail
    refine ⟨by simp, .inl ⟨_, _, rfl, run_takeDeferred hK, ?_⟩⟩
    have hc5 := cell_kept hcr (grownBy_putObj' _ D (.deferred none)) (fun r e => by cases e; exact ⟨_, hK, rfl⟩)
    refine ⟨.bool true, ?_, by rw [show hasSumB n f s = true from decide_eq_true ⟨k, hk, hg⟩], hB.trans (belowK_b (w := w) (Nat.le_refl _) W D _ _ (by simp at hD; omega) hK rfl rfl)⟩
    simp [results, Try.f68, go_sem, hc5]

theorem hasSum_val (bk n cap : Nat) (f : Nat → Int) (s : Int) (v : Bool) (h7 : n ≤ 7) (w : World) (hv : hasSumB n f s = v) (hr : Row w bk 0 n f) (hlt : bk < w.heap.size) :
    Calls Try.prog 68 #[.slice (some ⟨bk, 0, none⟩) n cap, .int .i64 s] w fun e w' => e = .returned (.bool v) ∧ Below w.heap.size w w' := by
  subst hv; exact hasSum_any bk n cap f s h7 w hr hlt

theorem summed_no {n : Nat} {f : Nat → Int} {k : Nat} (h1 : 1 ≤ k) (hk : k < 2 ^ n) (h : hasSumB n f k = false) : decide (∀ s : Nat, s < 2 ^ n → 1 ≤ s → hasSumB n f s = true) = false :=
  decide_eq_false (fun e => by have := e k hk h1; rw [h] at this; cases this)

set_option maxHeartbeats 1600000 in
theorem summed_any (bk n cap : Nat) (f : Nat → Int) (h7 : n ≤ 7) (w : World) (hr : Row w bk 0 n f) (hlt : bk < w.heap.size) :
    Calls Try.prog 42 #[.slice (some ⟨bk, 0, none⟩) n cap] w fun e w' => e = .returned (.bool (decide (∀ s : Nat, s < 2 ^ n → 1 ≤ s → hasSumB n f s = true))) ∧ Below w.heap.size w w' := by
  have HR := Lib.hid hr; clear hr
  obtain ⟨hp1, hp2⟩ := pow_bounds n h7
  have e2 : ((2 ^ n : Nat) : Int) = 2 ^ n := by simp
  go_enter Try.func42, Try.ntmps42
  go_wp2_with fail
  go_loopw [3] (fun v wr => ∃ k : Nat, 1 ≤ k ∧ k ≤ 2 ^ n ∧ v = .int .i64 k ∧ Hid (∀ s : Nat, s < k → 1 ≤ s → hasSumB n f s = true) ∧ Below w.heap.size w wr) (fun v _ => 2 ^ n - (intOf v).toNat)
  case atStart => exact ⟨1, by omega, Nat.one_le_two_pow, rfl, Lib.hid (fun s h1 h2 => by omega), Below.refl _ _⟩
  case round =>
    obtain ⟨k, hk1, hk, rfl, hall, hd⟩ := hrel
    by_cases hk2 : k < 2 ^ n
    · have hle : decide ((k : Int) ≤ 2 ^ n - 1) = true := by simp; omega
      cases hg : hasSumB n f k with
      | true =>
        have HG := Lib.hid hg; clear hg
        go_wp2_with fail
        refine (all_any _ _ _ h7 _).mono ?_
        rintro e w1 ⟨rfl, rfl⟩
        go_wp2_with fail
        refine (hasSum_val bk n cap f k true h7 _ HG.out (HR.out.below hd hlt) (Nat.lt_of_lt_of_le hlt hd.size)).mono ?_
        rintro e w1 ⟨rfl, hb1⟩
        replace hd := hd.trans (hb1.mono hd.size)
        clear hb1
        go_wp2_with fail
        go_roundw
        case rel => exact ⟨k + 1, by omega, by omega, by go_num, Lib.hid (fun s h1 h2 => by
          by_cases e : s = k
          · subst e; exact HG.out
          · exact hall.out s (by omega) h2), hd⟩
        case measure => simp [intOf]; omega
      | false =>
        have HF := Lib.hid (summed_no hk1 hk2 hg); have HG := Lib.hid hg; clear hg
        go_wp2_with fail
        refine (all_any _ _ _ h7 _).mono ?_
        rintro e w1 ⟨rfl, rfl⟩
        go_wp2_with fail
        refine (hasSum_val bk n cap f k false h7 _ HG.out (HR.out.below hd hlt) (Nat.lt_of_lt_of_le hlt hd.size)).mono ?_
        rintro e w1 ⟨rfl, hb1⟩
        replace hd := hd.trans (hb1.mono hd.size)
        clear hb1
        go_wp2_with fail
        go_ret
        exact ⟨retb HF.out.symm, hd⟩
    · have hle : decide ((k : Int) ≤ 2 ^ n - 1) = false := by simp; omega
      have hkn : k = 2 ^ n := by omega
      have HF := Lib.hid (show decide (∀ s : Nat, s < 2 ^ n → 1 ≤ s → hasSumB n f s = true) = true from decide_eq_true (fun s h1 h2 => hall.out s (by omega) h2))
      go_wp2_with fail
      refine (all_any _ _ _ h7 _).mono ?_
      rintro e w1 ⟨rfl, rfl⟩
      go_wp2_with fail
      go_ret
      exact ⟨retb HF.out.symm, hd⟩

set_option maxHeartbeats 800000 in
theorem SummedOk_any (a : Option Addr) (n cap : Nat) (f : Nat → Int) (w : World) (hi : Ints w a n f) :
    Calls Try.prog 22 #[.slice a n cap] w fun e w' => e = .returned (.bool (summedB n f)) ∧ Below w.heap.size w w' := by
  have HN := Lib.hid hi; clear hi
  go_enter Try.func22, Try.ntmps22
  go_wp2_with fail
  refine (worldOf_end a n cap f w HN.out).mono ?_
  rintro e w' ⟨hbel, ⟨hb, rfl, hlt, hr⟩ | ⟨hb, rfl⟩⟩
  · have h7 := (worldB_7 hb).2
    have HF := Lib.hid (show summedB n f = decide (∀ s : Nat, s < 2 ^ n → 1 ≤ s → hasSumB n f s = true) by unfold summedB; rw [hb]; rfl)
    clear hb
    go_wp2_with fail
    refine (summed_any _ n n f h7 _ hr hlt).mono ?_
    rintro e w2 ⟨rfl, hb2⟩
    go_wp2_with fail
    go_ret
    exact ⟨retb HF.out.symm, below_to hbel hb2⟩
  · have HF := Lib.hid (show summedB n f = false by unfold summedB; rw [hb]; rfl)
    clear hb
    go_wp2_with fail
    go_ret
    exact ⟨retb HF.out.symm, hbel⟩

theorem SummedOk_val (a : Option Addr) (n cap : Nat) (f : Nat → Int) (v : Bool) (w : World) (hv : summedB n f = v) (hi : Ints w a n f) :
    Calls Try.prog 22 #[.slice a n cap] w fun e w' => e = .returned (.bool v) ∧ Below w.heap.size w w' := by
  subst hv; exact SummedOk_any a n cap f w hi
end Go.Proofs.Ytbhdeidnifilfaa
