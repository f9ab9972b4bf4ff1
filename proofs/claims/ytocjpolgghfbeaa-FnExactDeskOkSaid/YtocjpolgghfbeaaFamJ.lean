import Derived.Test.YtocjpolgghfbeaaFamI
import Derived.Laws.NewBlocks
namespace Go.Proofs.Ytocjpolgghfbeaa
open Go.RowKit Go.Maps

/-- what the new row holds at first -/
def growR (cs : List Value) (n i G : Nat) : Array Value := (cs.take i).toArray ++ Builtin.zeroCells (Value.int .i64 0).cells (n + 1 - i) ++ Builtin.zeroCells (Value.int .i64 0).cells (G - (n + 1))
theorem growR_size {cs : List Value} {n i G : Nat} (hcl : cs.length = n) (hi : i < n) (hG : n + 1 ≤ G) : (growR cs n i G).size = G := by
  unfold growR
  simp [Builtin.zeroCells, Value.cells, List.length_take, hcl]
  omega

set_option maxRecDepth 100000 in
set_option maxHeartbeats 4000000 in
/-- ahead of another one, where there is no room -/
theorem insert_grow (g o n c i vb : Nat) (x : Int) (cs : List Value) (w : World) (hi : i < n) (hnc : n ≤ c) (hroom : c < n + 1) (hbig : n ≤ 1000) (hcl : cs.length = n)
    (hcs : ∀ j v, cs[j]? = some v → w.cell? ⟨g, o + j, none⟩ = some v) (hx : w.cell? ⟨vb, 0, none⟩ = some (.int .i64 x)) (h1c : ∀ v ∈ cs, v.oneCell' = true) :
    Calls Try.prog 95 #[.slice (some ⟨g, o, none⟩) n c, .int .i64 i, .slice (some ⟨vb, 0, none⟩) 1 1] w fun e w' =>
      e = .returned (.slice (some ⟨w.heap.size, 0, none⟩) (n + 1) (grownCap w (n + 1) c 3)) ∧
      w' = (((w.alloc (.cells (growR cs n i (grownCap w (n + 1) c 3)) 3)).drew.setCells w.heap.size i [.int .i64 x]).drew).setCells w.heap.size (i + 1) (cs.drop i) := by
  obtain ⟨i0, hi0, hz0, hzs, hzb⟩ := infoF
  have hz2 : ¬ ((i : Int) = (n : Int)) := by omega
  have hz3 : (c : Int) < (n : Int) + 1 := by omega
  have hsz : (Try.prog.info? 3).map (·.size) = some 1 := by rw [hi0]; simp [hzs]
  have hbw : g < w.heap.size := block_lt_of_cell (hcs 0 _ (List.getElem?_eq_getElem (by omega)))
  have hvw : vb < w.heap.size := block_lt_of_cell hx
  have hkk : (n : Int) + 1 - (i : Int) = ((n + 1 - i : Nat) : Int) := by omega
  have hik : i + (n + 1 - i) = n + 1 := by omega
  have hold : (Builtin.firstCells i0.size i (.slice (some ⟨g, o, none⟩) i c)).run Try.prog w.drew = .ok (cs.take i).toArray w.drew := by
    rw [hzs]
    exact run_firstCells_some w.drew 1 i ⟨g, o, none⟩ i c (cs.take i) (by rw [List.length_take]; omega) (fun j v hj => by
      rw [Addr.add_lit]
      rw [List.getElem?_take] at hj
      split at hj
      · exact hcs j v hj
      · cases hj)
  have hrz : ∀ ty, (Builtin.append_ #[69, 3] ty #[.slice (some ⟨g, o, none⟩) i c, .int .i64 ((n : Int) + 1 - (i : Int))]).run Try.prog w =
      .ok (.slice (some ⟨w.heap.size, 0, none⟩) (n + 1) (grownCap w (n + 1) c 3)) (w.drew.alloc (.cells (growR cs n i (grownCap w (n + 1) c 3)) 3)) := fun ty => by
    have h := Lib.run_append_grow_zeros w 69 3 ty 3 i0 _ .i64 .i64 Try.underlying69 Try.underlying3 hi0 hz0 (some ⟨g, o, none⟩) i c (cs.take i) hold (n + 1 - i) (by omega) (by omega) (by omega) (by omega) (by rw [hzb]; omega) (by rw [hzb, hik]; exact growslice_fits hroom (by omega))
    rw [hik] at h
    rw [hkk]
    exact h
  have hGn : n + 1 ≤ grownCap w (n + 1) c 3 := grownCap_ge w _ _ _
  have hG63 : grownCap w (n + 1) c 3 ≤ 9223372036854775807 := by
    have := grownCap_le_maxLen w (n + 1) c 3 (by unfold maxLen; omega)
    unfold maxLen at this
    omega
  obtain ⟨G, hG⟩ : ∃ G, G = grownCap w (n + 1) c 3 := ⟨_, rfl⟩
  rw [← hG] at hrz hGn hG63 ⊢
  have hRl := growR_size hcl hi hGn
  obtain ⟨ROW, hROW⟩ : ∃ ROW : Array Value, ROW = growR cs n i G := ⟨_, rfl⟩
  rw [← hROW] at hrz hRl ⊢
  obtain ⟨W1, hW1⟩ : ∃ W1, W1 = w.drew.alloc (.cells ROW 3) := ⟨_, rfl⟩
  rw [← hW1] at hrz
  have hN : ∀ j, j < n + 1 → (W1.cell? ⟨w.heap.size, j, none⟩).isSome = true := fun j hj => by
    rw [hW1, World.cell?_alloc_at (w := w.drew) ROW _ w.heap.size j rfl, Array.getElem?_eq_getElem (by omega)]; rfl
  have hNf : ∀ j, W1.frozen? ⟨w.heap.size, j, none⟩ = false := fun j => by rw [hW1]; exact World.frozen?_alloc_at (w := w.drew) ROW _ w.heap.size j rfl
  have hOb : ∀ j v, w.cell? ⟨g, j, none⟩ = some v → W1.cell? ⟨g, j, none⟩ = some v := fun j v h => by rw [hW1, World.cell?_alloc_past (w := w.drew) _ g j hbw]; exact h
  have hOv : ∀ j v, w.cell? ⟨vb, j, none⟩ = some v → W1.cell? ⟨vb, j, none⟩ = some v := fun j v h => by rw [hW1, World.cell?_alloc_past (w := w.drew) _ vb j hvw]; exact h
  have hcpA : ∀ (W : World), (∀ x, W.cell? x = W1.cell? x) → (∀ x, W.frozen? x = W1.frozen? x) → ∀ ty dc, (Builtin.copy_ #[69, 23] ty #[.slice (some ⟨w.heap.size, i, none⟩) (n + 1 - i) dc, .slice (some ⟨vb, 0, none⟩) 1 1]).run Try.prog W = .ok (goInt 1) (W.setCells w.heap.size i [.int .i64 x]) := fun W hWc hWf ty dc =>
    run_copy_cells W _ _ ty 3 w.heap.size i (n + 1 - i) dc ⟨vb, 0, none⟩ 1 1 [.int .i64 x] Try.underlying69 hsz (by simp only [List.length_cons, List.length_nil, Nat.min_def]; split <;> omega)
      (fun j v hj => by
        match j, hj with
        | 0, hj =>
          simp at hj; subst hj
          rw [Addr.add_lit, hWc]
          exact hOv _ _ hx)
      (fun j hj => by rw [hWc]; exact hN _ (by simp at hj; omega)) (fun j hj => by rw [hWf]; exact hNf _) (fun u hu => by simp at hu; subst hu; rfl)
  have hGi : ¬ (G = i) := by omega
  have hGim : ¬ (G = i + 1) := by omega
  have hci : ¬ (c = i) := by omega
  have hbN : g ≠ w.heap.size := by omega
  have hdl : (cs.drop i).length = n - i := by rw [List.length_drop, hcl]
  have hcpB : ∀ (W : World), (∀ y, W.cell? y = (W1.setCells w.heap.size i [.int .i64 x]).cell? y) → (∀ y, W.frozen? y = (W1.setCells w.heap.size i [.int .i64 x]).frozen? y) → ∀ ty dc sc, (Builtin.copy_ #[69, 69] ty #[.slice (some ⟨w.heap.size, i + 1, none⟩) (n - i) dc, .slice (some ⟨g, o + i, none⟩) (n - i) sc]).run Try.prog W = .ok (goInt (cs.drop i).length) (W.setCells w.heap.size (i + 1) (cs.drop i)) := fun W hWc hWf ty dc sc =>
    run_copy_cells W _ _ ty 3 w.heap.size (i + 1) (n - i) dc ⟨g, o + i, none⟩ (n - i) sc (cs.drop i) Try.underlying69 hsz (by rw [hdl]; simp only [Nat.min_def]; split <;> omega)
      (fun j v hj => by
        rw [Addr.add_lit, hWc, World.cell?_setCells_out _ _ _ _ _ (fun h _ => absurd h hbN), Nat.add_assoc]
        exact hOb _ v (hcs (i + j) v (by rwa [List.getElem?_drop] at hj)))
      (fun j hj => by rw [hWc]; exact some_sets _ _ _ _ (fun t ht => hN _ (by simp at ht; omega)) _ (hN _ (by omega)))
      (fun j hj => by rw [hWf, World.frozen?_setCells]; exact hNf _) (fun v hv => h1c v (List.mem_of_mem_drop hv))
  subst hW1
  have hE1 : ∀ x, ((w.alloc (.cells ROW 3)).drew).cell? x = (w.drew.alloc (.cells ROW 3)).cell? x := fun x => rfl
  have hE2 : ∀ x, ((w.alloc (.cells ROW 3)).drew).frozen? x = (w.drew.alloc (.cells ROW 3)).frozen? x := fun x => rfl
  have hF1 : ∀ y, (((w.alloc (.cells ROW 3)).drew.setCells w.heap.size i [.int .i64 x]).drew).cell? y = ((w.drew.alloc (.cells ROW 3)).setCells w.heap.size i [.int .i64 x]).cell? y := fun x => rfl
  have hF2 : ∀ y, (((w.alloc (.cells ROW 3)).drew.setCells w.heap.size i [.int .i64 x]).drew).frozen? y = ((w.drew.alloc (.cells ROW 3)).setCells w.heap.size i [.int .i64 x]).frozen? y := fun x => rfl
  have hw1 : IntKind.i64.wrap ((i : Int) + 1) = (i : Int) + 1 := by rw [IntKind.wrap_i64]; omega
  have hb1 : (0 : Int) ≤ (i : Int) + 1 := by omega
  have hin : i ≤ n := by omega
  have htn : ((i : Int) + 1).toNat = i + 1 := by omega
  have hb3 : (i : Int) ≤ (n : Int) := by omega
  clear hkk hik hold hROW hG hRl
  go_enter Try.func95, Try.ntmps95
  go_wp2_with (first
    | (at_builtin; refine Lib.wpList_append_run _ rfl _ _ _ _ rfl _ _ rfl rfl _ _ (hrz _) ?_)
    | (at_builtin; refine wpList_copied _ rfl _ _ 69 23 rfl _ _ rfl rfl (hcpA _ hE1 hE2 _ _) ?_)
    | (at_builtin; refine wpList_copied _ rfl _ _ 69 69 rfl _ _ rfl rfl (hcpB _ (fun _ => rfl) (fun _ => rfl) _ _ _) ?_))
  go_region_law (refine step_copied rfl _ _ 69 69 rfl (.slice (some ⟨w.heap.size, i + 1, none⟩) (n - i) (G - (i + 1))) (.slice (some ⟨g, o + i, none⟩) (n - i) (c - i)) (by simp [Act.eval, Act.put]) (by simp [Act.eval, Act.put]) (hcpB _ hF1 hF2 3 (G - (i + 1)) (c - i)) ?_)
  go_wp2
  go_ret
  exact ⟨rfl, rfl⟩

/-! ### the library's insertion, at a row of one's own -/

theorem drop_getD (xs : List Int) (i j : Nat) : (xs.drop i).getD j 0 = xs.getD (i + j) 0 := by
  rw [List.getD_eq_getElem?_getD, List.getD_eq_getElem?_getD, List.getElem?_drop]
/-- a number put at a place -/
def putL (xs : List Int) (i : Nat) (x : Int) : List Int := xs.take i ++ x :: xs.drop i
theorem putL_len {xs : List Int} {i : Nat} (hi : i ≤ xs.length) (x : Int) : (putL xs i x).length = xs.length + 1 := by
  unfold putL; simp [List.length_take]; omega
theorem putL_getD {xs : List Int} {i : Nat} (hi : i ≤ xs.length) (x : Int) (j : Nat) : (putL xs i x).getD j 0 = if j < i then xs.getD j 0 else if j = i then x else xs.getD (j - 1) 0 := by
  unfold putL
  by_cases h1 : j < i
  · rw [if_pos h1, append_getD_left (by simp [List.length_take]; omega), List.getD_eq_getElem?_getD, List.getD_eq_getElem?_getD, List.getElem?_take, if_pos h1]
  · rw [if_neg h1, append_getD_right (by simp [List.length_take]; omega)]
    have hl : (xs.take i).length = i := by rw [List.length_take]; omega
    rw [hl]
    by_cases h2 : j = i
    · subst h2; rw [if_pos rfl, Nat.sub_self]; rfl
    · rw [if_neg h2]
      obtain ⟨m, hm⟩ : ∃ m, j - i = m + 1 := ⟨j - i - 1, by omega⟩
      rw [hm]
      show (xs.drop i).getD m 0 = _
      rw [drop_getD, show i + m = j - 1 by omega]
def valsL (xs : List Int) : List Value := xs.map (Value.int .i64)
theorem vals_len (xs : List Int) : (valsL xs).length = xs.length := by unfold valsL; simp
theorem vals_at {xs : List Int} {j : Nat} {v : Value} (h : (valsL xs)[j]? = some v) : j < xs.length ∧ v = .int .i64 (xs.getD j 0) := by
  unfold valsL at h
  have hj : j < xs.length := by
    have := (List.getElem?_eq_some_iff.1 h).1
    simpa using this
  rw [List.getElem?_map, List.getElem?_eq_getElem hj] at h
  simp at h
  refine ⟨hj, ?_⟩
  rw [List.getD_eq_getElem?_getD, List.getElem?_eq_getElem hj]
  exact h.symm
theorem vals_drop (xs : List Int) (i : Nat) : (valsL xs).drop i = valsL (xs.drop i) := by unfold valsL; simp
theorem vals_one (xs : List Int) : ∀ v ∈ valsL xs, v.oneCell' = true := by
  intro v hv; unfold valsL at hv
  obtain ⟨x, _, rfl⟩ := List.mem_map.1 hv; rfl
theorem vals_getElem {xs : List Int} {j : Nat} (hj : j < (valsL xs).length) : (valsL xs)[j] = .int .i64 (xs.getD j 0) := by
  have h := vals_at (xs := xs) (j := j) (v := (valsL xs)[j]) (List.getElem?_eq_getElem hj)
  exact h.2

theorem shape_of {w : World} {g : Nat} {cur : Array Value} {t : TypeId} (h : w.heap[g]? = some (.cells cur t (0, 0))) : w.shape? g = some (t, cur.size) := by
  unfold World.shape?; rw [h]

set_option maxHeartbeats 1600000 in
theorem insert_any (B vb : Nat) (v : Value) (xs : List Int) (x : Int) (i : Nat) (hi : i ≤ xs.length) (hl : xs.length ≤ 1000) (w : World) (hB : B ≤ w.heap.size) (hown : OwnX w B 3 v xs)
    (hvb : w.heap[vb]? = some (.cells #[.int .i64 x] 3 (0, 0))) (hne : v.ownBlock ≠ some vb) :
    Calls Try.prog 95 #[v, .int .i64 i, .slice (some ⟨vb, 0, none⟩) 1 1] w (Ins B v (putL xs i x) w) := by
  have hx : w.cell? ⟨vb, 0, none⟩ = some (.int .i64 x) := by rw [cell_of_row w vb 0 _ _ _ hvb]; rfl
  have hxf : ∀ j, w.frozen? ⟨vb, j, none⟩ = false := fun j => by simp [World.frozen?, hvb]
  by_cases he : i = xs.length
  · subst he
    have := insert_end B vb v xs x hl w hB hown hx
    unfold putL
    rwa [List.take_length, List.drop_length]
  · obtain ⟨g, cap, cur, rfl, hBg, hgl, hlc, hc63, hg, hcs, hsp, hfz, hrow⟩ := hown.room (by omega)
    have hne' : vb ≠ g := by intro e; subst e; exact hne rfl
    have hil : i < xs.length := by omega
    by_cases hroom : xs.length + 1 ≤ cap
    · refine (insert_room g 0 xs.length cap i vb x (valsL xs) w hil hroom hc63 hne' (vals_len xs) (fun j u hj => by
        obtain ⟨h1, rfl⟩ := vals_at hj
        rw [Nat.zero_add]; exact hrow j h1) (fun j hj => by rw [Nat.zero_add]; exact hsp j (by omega)) hfz hx (vals_one xs) _ _ _ _ (shape_of hvb) (shape_of hg) (by omega) (hxf 0) (hxf _)).mono ?_
      rintro e w' ⟨rfl, hw'⟩
      rw [Nat.zero_add, Nat.zero_add, vals_drop] at hw'
      have hup : Upon (fun k => (Value.slice (some ⟨g, 0, none⟩) xs.length cap).ownBlock = some k) w w' := by
        rw [hw']
        exact Upon.puts (F := fun k => (Value.slice (some ⟨g, 0, none⟩) xs.length cap).ownBlock = some k) rfl _ _ (Upon.puts (F := fun k => (Value.slice (some ⟨g, 0, none⟩) xs.length cap).ownBlock = some k) rfl _ _ (Upon.refl _ _).drew)
      obtain ⟨c1, hc1, hs1⟩ := blockCells_sets (valsL (xs.drop i)) (i + 1) (w := w.drew) hg
      obtain ⟨c2, hc2, hs2⟩ := blockCells_sets [Value.int .i64 x] i hc1
      have hsome1 : ∀ j, j < cap → ((w.drew.setCells g (i + 1) (valsL (xs.drop i))).cell? ⟨g, j, none⟩).isSome = true := fun j hj =>
        some_sets g _ _ w.drew (fun t ht => hsp _ (by rw [vals_len, List.length_drop] at ht; omega)) j (hsp j hj)
      refine ⟨_, rfl, ?_, hup, .inl rfl⟩
      have hlen := putL_len (xs := xs) (i := i) (by omega) x
      rw [← hlen]
      refine OwnX.of_cells (cur := c2) (by rw [hw']; exact hc2) (by omega) hBg (by omega) (by unfold maxLen; omega) (fun j hj => ?_)
      rw [putL_getD (by omega), hw']
      by_cases hji : j = i
      · subst hji
        rw [if_neg (by omega), if_pos rfl]
        have := World.cell?_setCells_in g [Value.int .i64 x] j (w.drew.setCells g (j + 1) (valsL (xs.drop j))) (fun t ht => by
          simp at ht; subst ht; exact hsome1 _ (by omega)) 0 (by simp)
        simpa using this
      · rw [World.cell?_setCells_out g _ _ _ _ (fun _ _ => by show j < i ∨ i + 1 ≤ j; omega)]
        by_cases hlt : j < i
        · rw [if_pos hlt, World.cell?_setCells_out g _ _ _ _ (fun _ _ => by show j < i + 1 ∨ _; omega)]
          exact hrow j (by omega)
        · rw [if_neg hlt, if_neg hji]
          have := World.cell?_setCells_in g (valsL (xs.drop i)) (i + 1) w.drew (fun t ht => hsp _ (by rw [vals_len, List.length_drop] at ht; omega)) (j - (i + 1)) (by rw [vals_len, List.length_drop]; omega)
          rw [show i + 1 + (j - (i + 1)) = j by omega, vals_getElem, drop_getD, show i + (j - (i + 1)) = j - 1 by omega] at this
          exact this
    · refine (insert_grow g 0 xs.length cap i vb x (valsL xs) w hil hlc (by omega) hl (vals_len xs) (fun j u hj => by
        obtain ⟨h1, rfl⟩ := vals_at hj
        rw [Nat.zero_add]; exact hrow j h1) hx (vals_one xs)).mono ?_
      rintro e w' ⟨rfl, hw'⟩
      have hGn : xs.length + 1 ≤ grownCap w (xs.length + 1) cap 3 := grownCap_ge w _ _ _
      have hGm := grownCap_le_maxLen w (xs.length + 1) cap 3 (by unfold maxLen; omega)
      obtain ⟨G, hG⟩ : ∃ G, G = grownCap w (xs.length + 1) cap 3 := ⟨_, rfl⟩
      rw [← hG] at hw' hGn hGm ⊢
      have hR := growR_size (vals_len xs) hil hGn
      obtain ⟨ROW, hROW⟩ : ∃ ROW : Array Value, ROW = growR (valsL xs) xs.length i G := ⟨_, rfl⟩
      have hRt : ∀ j, j < i → ROW[j]? = some (.int .i64 (xs.getD j 0)) := fun j hj => by
        rw [hROW]; unfold growR
        rw [Array.append_assoc, Array.getElem?_append_left (by simp [List.length_take, vals_len]; omega)]
        simp only [List.getElem?_toArray, List.getElem?_take, if_pos hj]
        rw [List.getElem?_eq_getElem (by rw [vals_len]; omega), vals_getElem]
      rw [← hROW] at hw' hR
      clear hROW
      rw [vals_drop] at hw'
      have hup : Upon (fun k => (Value.slice (some ⟨g, 0, none⟩) xs.length cap).ownBlock = some k) w w' := by
        rw [hw']
        have h0 : Upon (fun k => k = w.heap.size) w (w.alloc (.cells ROW 3)) := Upon.of_below (alloc_below _ _)
        exact ((Upon.puts (F := fun k => k = w.heap.size) rfl _ _ (Upon.puts (F := fun k => k = w.heap.size) rfl _ _ h0.drew).drew)).mono (fun k hk e => by omega)
      have hg0 : (w.alloc (.cells ROW 3)).drew.heap[w.heap.size]? = some (.cells ROW 3 (0, 0)) := heap_alloc_new w _
      obtain ⟨c1, hc1, hs1⟩ := blockCells_sets [Value.int .i64 x] i hg0
      have hc1' : ((w.alloc (.cells ROW 3)).drew.setCells w.heap.size i [Value.int .i64 x]).drew.heap[w.heap.size]? = some (.cells c1 3 (0, 0)) := hc1
      obtain ⟨c2, hc2, hs2⟩ := blockCells_sets (valsL (xs.drop i)) (i + 1) hc1'
      have hsome0 : ∀ j, j < G → ((w.alloc (.cells ROW 3)).drew.cell? ⟨w.heap.size, j, none⟩).isSome = true := fun j hj => by
        rw [cell_of_row _ _ j _ _ _ hg0, Array.getElem?_eq_getElem (by omega)]; rfl
      have hsome1 : ∀ j, j < G → (((w.alloc (.cells ROW 3)).drew.setCells w.heap.size i [Value.int .i64 x]).drew.cell? ⟨w.heap.size, j, none⟩).isSome = true := fun j hj => by
        rw [cell_of_row _ _ j _ _ _ hc1', Array.getElem?_eq_getElem (by omega)]; rfl
      refine ⟨_, rfl, ?_, hup, .inr ⟨_, rfl, Nat.le_refl _⟩⟩
      have hlen := putL_len (xs := xs) (i := i) (by omega) x
      rw [← hlen]
      refine OwnX.of_cells (cur := c2) (by rw [hw']; exact hc2) (by omega) hB (by omega) hGm (fun j hj => ?_)
      rw [putL_getD (by omega), hw']
      by_cases hlt : j ≤ i
      · rw [World.cell?_setCells_out _ _ _ _ _ (fun _ _ => by show j < i + 1 ∨ _; omega)]
        by_cases hji : j = i
        · subst hji
          rw [if_neg (by omega), if_pos rfl]
          have := World.cell?_setCells_in w.heap.size [Value.int .i64 x] j (w.alloc (.cells ROW 3)).drew (fun t ht => by
            simp at ht; subst ht; exact hsome0 _ (by omega)) 0 (by simp)
          simpa using this
        · rw [if_pos (by omega)]
          show ((w.alloc (.cells ROW 3)).drew.setCells w.heap.size i [Value.int .i64 x]).cell? _ = _
          rw [World.cell?_setCells_out _ _ _ _ _ (fun _ _ => by show j < i ∨ _; omega), cell_of_row _ _ j _ _ _ hg0]
          exact hRt j (by omega)
      · rw [if_neg (by omega), if_neg (by omega)]
        have := World.cell?_setCells_in w.heap.size (valsL (xs.drop i)) (i + 1) ((w.alloc (.cells ROW 3)).drew.setCells w.heap.size i [Value.int .i64 x]).drew (fun t ht => hsome1 _ (by rw [vals_len, List.length_drop] at ht; omega)) (j - (i + 1)) (by rw [vals_len, List.length_drop]; omega)
        rw [show i + 1 + (j - (i + 1)) = j by omega, vals_getElem, drop_getD, show i + (j - (i + 1)) = j - 1 by omega] at this
        exact this
end Go.Proofs.Ytocjpolgghfbeaa
