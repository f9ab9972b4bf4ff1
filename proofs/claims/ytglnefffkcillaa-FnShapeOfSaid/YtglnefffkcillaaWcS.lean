import Derived.Test.YtglnefffkcillaaWcL
import Derived.Test.YtglnefffkcillaaPlTwo
import Derived.Test.YtglnefffkcillaaSameX
namespace Go.Proofs.Ytglnefffkcillaa
set_option linter.unusedVariables false
set_option linter.unusedSimpArgs false
open Go.RowKit Go.Maps

/-- what is left of a number behind t of its digits -/
def lfN (n m t : Nat) : Nat := m / 2 ^ (n * t)
theorem lfN_zero (n m : Nat) : lfN n m 0 = m := by unfold lfN; simp
theorem lfN_next (n m t : Nat) : lfN n m (t + 1) = lfN n m t / 2 ^ n := by unfold lfN; rw [Nat.mul_succ, Nat.pow_add, Nat.div_div_eq_div_mul]
/-- digit i of n -/
def dgN (n m i : Nat) : Nat := lfN n m (n - 1 - i) % 2 ^ n
def dgR (n m k : Nat) (i : Nat) : Int := if k ≤ i then (dgN n m i : Int) else 0
/-- have the digits from k on their own bits? -/
def ftB (n m k : Nat) : Bool := decide (∀ i, i < n → k ≤ i → hasB (dgN n m i : Int) i = true)
theorem ft_end (n m : Nat) : ftB n m n = true := decide_eq_true (fun i h1 h2 => absurd h1 (by omega))
theorem ft_next (n m k : Nat) (hk : k < n) : ftB n m k = (ftB n m (k + 1) && hasB (dgN n m k : Int) k) := by
  rw [Bool.eq_iff_iff, Bool.and_eq_true]
  unfold ftB
  rw [decide_eq_true_eq, decide_eq_true_eq]
  refine ⟨fun h => ⟨fun i h1 h2 => h i h1 (by omega), h k hk (Nat.le_refl _)⟩, fun ⟨h1, h2⟩ i h3 h4 => ?_⟩
  by_cases e : i = k
  · subst e; exact h2
  · exact h1 i h3 (by omega)
theorem dgR_next (n m k i : Nat) : dgR n m k i = if i = k then (dgN n m k : Int) else dgR n m (k + 1) i := by
  unfold dgR
  by_cases e : i = k
  · subst e; rw [if_pos (Nat.le_refl _), if_pos rfl]
  · rw [if_neg e]
    by_cases h : k ≤ i
    · rw [if_pos h, if_pos (by omega)]
    · rw [if_neg h, if_neg (by omega)]
/-- number m as a list of n digits -/
def dgL (n m : Nat) : List Int := rowL (dgR n m 0) n
def akB (n m : Nat) : Bool := ftB n m 0 && worldB n (dgR n m 0)
/-- the worlds among the first k numbers -/
def alK (n k : Nat) : List (List Int) := ((List.range k).filter (akB n)).map (dgL n)
theorem alK_next (n k : Nat) : alK n (k + 1) = if akB n k then alK n k ++ [dgL n k] else alK n k := by
  unfold alK
  rw [List.range_succ, List.filter_append, List.map_append]
  cases h : akB n k <;> simp [h]
theorem alK_len (n k : Nat) : (alK n k).length ≤ k := by
  unfold alK
  rw [List.length_map]
  have := List.length_filter_le (akB n) (List.range k)
  rw [List.length_range] at this
  exact this
def alL (n : Nat) : List (List Int) := alK n (2 ^ (n * n))

theorem specWorldOk_at (a : Option Addr) (n cap : Nat) (f : Nat → Int) (v : Bool) (w : World) (hv : worldB n f = v) (hi : Ints w a n f) :
    Calls Try.prog 44 #[.slice a n cap] w fun e w' => e = .returned (.bool v) ∧ Drew w w' := by subst hv; exact specWorldOk_any a n cap f w hi

set_option maxRecDepth 100000 in
set_option maxHeartbeats 8000000 in
theorem specAll_1 (w : World) :
    Calls Try.prog 53 #[.int .i64 1] w (RowsGive 1 (alL 1) w) := by
  obtain ⟨i0, hii, hz0, hz1, hz2⟩ := info_parts Try.infoIntS
  have hmk : ∀ w, (Instr.makeSlice 23 (.int .i64 1) (.int .i64 1)).run Try.prog w = .ok (.slice (some ⟨w.heap.size, 0, none⟩) 1 1) (w.alloc (.cells (madeCells #[.int .i64 0] 1) 3)) := run_make_row' (P := Try.prog) 23 3 (.int .i64 0) 8 Try.underlying23 Try.infoInt rfl .i64 .i64 1 (by omega) (by omega)
  have hmade := Lib.hid (specStory_made w 1)
  have HB0 := Lib.hid (alloc_below w (.cells #[] 23))
  have HZ0 := Lib.hid (show (w.alloc (.cells #[] 23)).heap.size = w.heap.size + 1 from alloc_size _ _)
  go_enter Try.func53, Try.ntmps53
  go_wp2_with fail
  go_loopw [4, 5] (fun a i wr => ((i = .int .i64 0 ∧ a = .int .i64 1) ∨ (i = .int .i64 1 ∧ a = .int .i64 2)) ∧ wr = w.alloc (.cells #[] 23)) (fun _ i _ => 1 - (intOf i).toNat)
  case atStart => exact ⟨by simp, rfl⟩
  case round =>
    obtain ⟨hc, rfl⟩ := hrel
    rcases hc with ⟨rfl, rfl⟩ | ⟨rfl, rfl⟩
    · go_wp2_with fail
      go_roundw
      case rel => exact ⟨by simp, by first | rfl | trivial⟩
      case measure => simp [intOf]
    · go_wp2_with fail
      go_loopw [3, 6, 7, 8, 9, 10] (fun v m _ _ _ _ wr => ∃ (k : Nat) (rs : List (Nat × Nat)), k ≤ 2 ∧ m = .int .i64 k ∧ Hid (Ships wr w.heap.size 1 v (alK 1 k) rs) ∧ Hid (Below w.heap.size w wr)) (fun _ m _ _ _ _ _ => 2 - (intOf m).toNat)
      case atStart => exact ⟨0, [], by omega, rfl, hmade, HB0⟩
      case round =>
        obtain ⟨m, rs, hm, rfl, hsh, hb⟩ := hrel
        clear hmade HB0 HZ0
        obtain ⟨w0, hw0⟩ : ∃ w0, w0 = wr := ⟨_, rfl⟩
        subst hw0
        obtain ⟨av, cv, rfl⟩ := hsh.out.slice
        by_cases hlt : m < 2
        · have hmi : (m : Int) < 2 := by omega
          have hb1 := alloc_below w0 (.cells (madeCells #[.int .i64 0] 1) 3)
          have hr0 : Rw (w0.alloc (.cells (madeCells #[.int .i64 0] 1) 3)) w0.heap.size 3 1 1 (dgR 1 m 1) := Rw.less (World.rowIs_made w0 (.int .i64 0) 1 3 : Rw _ _ _ _ _ (fun _ => (0 : Int))) (Nat.le_refl _) (fun i hi => by unfold dgR; rw [if_neg (by omega)])
          have hz1' : (w0.alloc (.cells (madeCells #[.int .i64 0] 1) 3)).heap.size = w0.heap.size + 1 := alloc_size _ _
          obtain ⟨w1, hw1⟩ : ∃ w1, w0.alloc (.cells (madeCells #[.int .i64 0] 1) 3) = w1 := ⟨_, rfl⟩
          rw [hw1] at hb1 hr0 hz1'
          have HR0 := Lib.hid hr0; have HB1 := Lib.hid hb1; have HZ1 := Lib.hid hz1'
          clear hb1 hr0 hz1'
          go_wp2_with fail
          clear hw1
          go_loopw [8, 9, 10] (fun l b j wr => ∃ k : Nat, k ≤ 1 ∧ j = .int .i64 ((k : Int) - 1) ∧ l = .int .i64 (lfN 1 m (1 - k) : Nat) ∧ b = .bool (ftB 1 m k) ∧ Hid (Rw wr w0.heap.size 3 1 1 (dgR 1 m k)) ∧ Hid (Only w0.heap.size w1 wr)) (fun _ _ j _ => ((intOf j) + 1).toNat)
          case atStart => exact ⟨1, by omega, rfl, by rw [show 1 - 1 = 0 from rfl, lfN_zero], by rw [ft_end], HR0, Lib.hid (Only.refl _ _)⟩
          case round =>
            obtain ⟨k, hk, rfl, rfl, rfl, hr, ho⟩ := hrel
            cases k with
            | zero =>
              clear HR0
              have hrow : Row wr w0.heap.size 0 1 (dgR 1 m 0) := fun i hi => by rw [Nat.zero_add]; exact hr.out.cell i hi
              have hsx := ho.out.size
              have hints : Ints wr (some ⟨w0.heap.size, 0, none⟩) 1 (dgR 1 m 0) := ints_row hrow (by have := HZ1.out; omega) (by omega) (fun i hi => by unfold dgR; rw [if_pos (Nat.zero_le _)]; have h5 : dgN 1 m i < 2 := Nat.mod_lt _ (by decide); unfold I64; omega)
              have hown : OwnX wr w.heap.size 3 (.slice (some ⟨w0.heap.size, 0, none⟩) 1 1) (dgL 1 m) := Rw.own (hr.out.less (Nat.le_refl _) (fun i hi => (rowL_getD _ _ _ hi).symm)) (rowL_len _ _).symm hb.out.size (Nat.le_refl _) (by unfold maxLen; omega)
              have hbx : Below w0.heap.size w0 wr := HB1.out.trans (ho.out.below (Nat.le_refl _) (by have := HZ1.out; omega))
              have HI := Lib.hid hints; have HOW := Lib.hid hown
              have HSH := Lib.hid (hsh.out.kept hbx)
              have HBX := Lib.hid (hb.out.trans (hbx.mono hb.out.size))
              have hlts := hsh.out.lt
              have hvne : (Value.slice av (alK 1 m).length cv).ownBlock ≠ some w0.heap.size := fun e => by have := (World.ownsRow.lt hsh.out.own _ e).2; omega
              have HNE := Lib.hid (show (∀ r ∈ rs, r.1 ≠ w0.heap.size) ∧ (Value.slice av (alK 1 m).length cv).ownBlock ≠ some w0.heap.size from ⟨fun r hr5 => by have := (hlts r hr5).2; omega, hvne⟩)
              have HSX := Lib.hid (show w0.heap.size < wr.heap.size by have := HZ1.out; omega)
              clear hrow hints hown hbx hlts hvne
              cases hft : ftB 1 m 0 with
              | false =>
                have HAK := Lib.hid (show akB 1 m = false by unfold akB; rw [hft]; rfl)
                clear hft
                go_wp2_with fail
                go_roundw
                case rel => exact ⟨m + 1, rs, by omega, by go_num, by rw [alK_next, HAK.out]; exact HSH, HBX⟩
                case measure => first | (simp [intOf]; done) | (simp [intOf]; omega)
              | true =>
                cases hwb : worldB 1 (dgR 1 m 0) with
                | false =>
                  have HAK := Lib.hid (show akB 1 m = false by unfold akB; rw [hft, hwb]; rfl)
                  have HWB := Lib.hid hwb
                  clear hft hwb
                  go_wp2_with fail
                  refine (specWorldOk_at _ 1 _ (dgR 1 m 0) false _ HWB.out HI.out).mono ?_
                  rintro e w9 ⟨rfl, hd⟩
                  have HSH9 := Lib.hid (HSH.out.kept hd.below); have HB9 := Lib.hid (HBX.out.trans (hd.below.mono HBX.out.size))
                  clear hd
                  go_wp2_with fail
                  go_roundw
                  case rel => exact ⟨m + 1, rs, by omega, by go_num, by rw [alK_next, HAK.out]; exact HSH9, HB9⟩
                  case measure => first | (simp [intOf]; done) | (simp [intOf]; omega)
                | true =>
                  have HAK := Lib.hid (show akB 1 m = true by unfold akB; rw [hft, hwb]; rfl)
                  have HWB := Lib.hid hwb
                  clear hft hwb
                  go_wp2_with fail
                  refine (specWorldOk_at _ 1 _ (dgR 1 m 0) true _ HWB.out HI.out).mono ?_
                  rintro e w9 ⟨rfl, hd⟩
                  have HSH9 := Lib.hid (HSH.out.kept hd.below); have HB9 := Lib.hid (HBX.out.trans (hd.below.mono HBX.out.size)); have HOW9 := Lib.hid (HOW.out.kept hd.below)
                  have hs9 := hd.below.size
                  clear hd
                  have hrow9 := HSH9.out.own
                  have hlen9 := alK_len 1 m
                  have k1 := Lib.hid (fun (j : Nat) (u : Value) (h : [Value.slice (some ⟨w0.heap.size, 0, none⟩) 1 1][j]? = some u) => cell_one_new w9 (.slice (some ⟨w0.heap.size, 0, none⟩) 1 1) 23 j u h)
                  have k2 : Hid (∀ u ∈ [Value.slice (some ⟨w0.heap.size, 0, none⟩) 1 1], u.oneCell' = true) := Lib.hid (by intro u hu; simp at hu; subst hu; rfl)
                  have k3 : Hid ((alK 1 m).length + 1 ≤ maxLen) := Lib.hid (by unfold maxLen; omega)
                  have k4 : Hid (((alK 1 m).length + 1) * 24 ≤ 140737488355328) := Lib.hid (by omega)
                  have k5 : Hid (w.heap.size ≤ (w9.alloc (.cells #[.slice (some ⟨w0.heap.size, 0, none⟩) 1 1] 23)).heap.size) := Lib.hid (by rw [alloc_size]; have := HB9.out.size; omega)
                  have HROW := Lib.hid hrow9
                  clear hrow9 hlen9
                  go_wp2_with (at_builtin; refine wpList_append_own_at _ rfl (.tmp 58) (.tmp 60) 29 rfl w.heap.size 23 i0 (.slice none 0 0) 1 24 Try.underlying29 hii hz0 hz1 hz2 rfl (by decide) _ _ _ rfl (HROW.out.alloc _) ⟨w9.heap.size, 0, none⟩ 1 1 [.slice (some ⟨w0.heap.size, 0, none⟩) 1 1] rfl rfl k1.out k2.out k3.out k4.out k5.out ?_)
                  intro v' w5 hown' hgrow _ hat
                  have hsn := HSH9.out.snoc HOW9.out (Nat.le_refl _) HNE.out.1 HNE.out.2 hown' hgrow hat
                  have hb5 : Below w.heap.size w w5 := HB9.out.trans (((alloc_below w9 _).mono HB9.out.size).trans ((Below.refl w.heap.size _).grown hgrow k5.out (fun q hq => (HSH9.out.own.lt q hq).1)))
                  have HS5 := Lib.hid hsn; have HB5 := Lib.hid hb5
                  clear hown' hgrow hat hsn hb5
                  try go_wp2_with fail
                  go_roundw
                  case rel => exact ⟨m + 1, _, by omega, by go_num, by rw [alK_next, HAK.out]; exact HS5, HB5⟩
                  case measure => first | (simp [intOf]; done) | (simp [intOf]; omega)
            | succ k =>
              have hkk : ((k + 1 : Nat) : Int) - 1 = (k : Int) := by omega
              have HNX := Lib.hid (lfN_next 1 m (1 - (k + 1)))
              have HDG : Hid (dgN 1 m k = lfN 1 m (1 - (k + 1)) % 2) := Lib.hid (by unfold dgN; rw [show 1 - 1 - k = 1 - (k + 1) by omega])
              have HLF : Hid (1 - k = 1 - (k + 1) + 1) := Lib.hid (by omega)
              have hft := ft_next 1 m k (by omega)
              have HRW2 := Lib.hid (fun i => dgR_next 1 m k i)
              obtain ⟨L, hL⟩ : ∃ L, lfN 1 m (1 - (k + 1)) = L := ⟨_, rfl⟩
              rw [hL] at HNX HDG ⊢
              clear hL HR0
              have hk0 : (0 : Int) ≤ (k : Int) := by omega
              have hkn : (k : Int) < 1 := by omega
              have hcc := hr.out.cell k (by omega)
              have hff := hr.out.frozen k
              rw [hkk]
              clear hkk
              have hL0 : (0 : Int) ≤ (L : Int) := by omega
              cases hf1 : ftB 1 m (k + 1) with
              | false =>
                have HFT := Lib.hid (show ftB 1 m k = false by rw [hft, hf1]; rfl)
                clear hft hf1
                go_wp2_with fail
                try (refine ⟨fun _ h => (by cases h), ?_⟩; go_wp2_with fail)
                go_roundw
                case rel => exact ⟨k, by omega, by go_num, by rw [HLF.out, HNX.out]; first | rfl | omega | (congr 1; done) | (congr 1; omega), by rw [HFT.out], Lib.hid ((hr.out.set k _).less (Nat.le_refl _) (fun i hi => by rw [HRW2.out i, HDG.out]; rfl)), Lib.hid (ho.out.setCell k _)⟩
                case measure => first | (simp [intOf]; done) | (simp [intOf]; omega)
              | true =>
                cases hh : hasB (dgN 1 m k : Int) k with
                | false =>
                  have HFT := Lib.hid (show ftB 1 m k = false by rw [hft, hf1, hh]; rfl)
                  have HH := Lib.hid (show hasB ((L : Int) % 2) k = false by rw [HDG.out] at hh; rw [← hh]; congr 1)
                  clear hft hf1 hh
                  go_wp2_with fail
                  refine (l1Has_val _ k false _ HH.out (by omega) (by omega)).mono ?_
                  rintro e w9 ⟨rfl, rfl⟩
                  go_wp2_with fail
                  go_roundw
                  case rel => exact ⟨k, by omega, by go_num, by rw [HLF.out, HNX.out]; first | rfl | omega | (congr 1; done) | (congr 1; omega), by rw [HFT.out], Lib.hid ((hr.out.set k _).less (Nat.le_refl _) (fun i hi => by rw [HRW2.out i, HDG.out]; rfl)), Lib.hid (ho.out.setCell k _)⟩
                  case measure => first | (simp [intOf]; done) | (simp [intOf]; omega)
                | true =>
                  have HFT := Lib.hid (show ftB 1 m k = true by rw [hft, hf1, hh]; rfl)
                  have HH := Lib.hid (show hasB ((L : Int) % 2) k = true by rw [HDG.out] at hh; rw [← hh]; congr 1)
                  clear hft hf1 hh
                  go_wp2_with fail
                  refine (l1Has_val _ k true _ HH.out (by omega) (by omega)).mono ?_
                  rintro e w9 ⟨rfl, rfl⟩
                  go_wp2_with fail
                  go_roundw
                  case rel => exact ⟨k, by omega, by go_num, by rw [HLF.out, HNX.out]; first | rfl | omega | (congr 1; done) | (congr 1; omega), by rw [HFT.out], Lib.hid ((hr.out.set k _).less (Nat.le_refl _) (fun i hi => by rw [HRW2.out i, HDG.out]; rfl)), Lib.hid (ho.out.setCell k _)⟩
                  case measure => first | (simp [intOf]; done) | (simp [intOf]; omega)
        · have hmi : ¬ (m : Int) < 2 := by omega
          have hme : m = 2 := by omega
          subst hme
          go_wp2_with fail
          go_ret
          exact ⟨_, rs, rfl, hsh.out, hb.out⟩

set_option maxRecDepth 100000 in
set_option maxHeartbeats 8000000 in
theorem specAll_2 (w : World) :
    Calls Try.prog 53 #[.int .i64 2] w (RowsGive 2 (alL 2) w) := by
  obtain ⟨i0, hii, hz0, hz1, hz2⟩ := info_parts Try.infoIntS
  have hmk : ∀ w, (Instr.makeSlice 23 (.int .i64 2) (.int .i64 2)).run Try.prog w = .ok (.slice (some ⟨w.heap.size, 0, none⟩) 2 2) (w.alloc (.cells (madeCells #[.int .i64 0] 2) 3)) := run_make_row' (P := Try.prog) 23 3 (.int .i64 0) 8 Try.underlying23 Try.infoInt rfl .i64 .i64 2 (by omega) (by omega)
  have hmade := Lib.hid (specStory_made w 2)
  have HB0 := Lib.hid (alloc_below w (.cells #[] 23))
  have HZ0 := Lib.hid (show (w.alloc (.cells #[] 23)).heap.size = w.heap.size + 1 from alloc_size _ _)
  go_enter Try.func53, Try.ntmps53
  go_wp2_with fail
  go_loopw [4, 5] (fun a i wr => ((i = .int .i64 0 ∧ a = .int .i64 1) ∨ (i = .int .i64 1 ∧ a = .int .i64 4) ∨ (i = .int .i64 2 ∧ a = .int .i64 16)) ∧ wr = w.alloc (.cells #[] 23)) (fun _ i _ => 2 - (intOf i).toNat)
  case atStart => exact ⟨by simp, rfl⟩
  case round =>
    obtain ⟨hc, rfl⟩ := hrel
    rcases hc with ⟨rfl, rfl⟩ | ⟨rfl, rfl⟩ | ⟨rfl, rfl⟩
    · go_wp2_with fail
      go_roundw
      case rel => exact ⟨by simp, by first | rfl | trivial⟩
      case measure => simp [intOf]
    · go_wp2_with fail
      go_roundw
      case rel => exact ⟨by simp, by first | rfl | trivial⟩
      case measure => simp [intOf]
    · go_wp2_with fail
      go_loopw [3, 6, 7, 8, 9, 10] (fun v m _ _ _ _ wr => ∃ (k : Nat) (rs : List (Nat × Nat)), k ≤ 16 ∧ m = .int .i64 k ∧ Hid (Ships wr w.heap.size 2 v (alK 2 k) rs) ∧ Hid (Below w.heap.size w wr)) (fun _ m _ _ _ _ _ => 16 - (intOf m).toNat)
      case atStart => exact ⟨0, [], by omega, rfl, hmade, HB0⟩
      case round =>
        obtain ⟨m, rs, hm, rfl, hsh, hb⟩ := hrel
        clear hmade HB0 HZ0
        obtain ⟨w0, hw0⟩ : ∃ w0, w0 = wr := ⟨_, rfl⟩
        subst hw0
        obtain ⟨av, cv, rfl⟩ := hsh.out.slice
        by_cases hlt : m < 16
        · have hmi : (m : Int) < 16 := by omega
          have hb1 := alloc_below w0 (.cells (madeCells #[.int .i64 0] 2) 3)
          have hr0 : Rw (w0.alloc (.cells (madeCells #[.int .i64 0] 2) 3)) w0.heap.size 3 2 2 (dgR 2 m 2) := Rw.less (World.rowIs_made w0 (.int .i64 0) 2 3 : Rw _ _ _ _ _ (fun _ => (0 : Int))) (Nat.le_refl _) (fun i hi => by unfold dgR; rw [if_neg (by omega)])
          have hz1' : (w0.alloc (.cells (madeCells #[.int .i64 0] 2) 3)).heap.size = w0.heap.size + 1 := alloc_size _ _
          obtain ⟨w1, hw1⟩ : ∃ w1, w0.alloc (.cells (madeCells #[.int .i64 0] 2) 3) = w1 := ⟨_, rfl⟩
          rw [hw1] at hb1 hr0 hz1'
          have HR0 := Lib.hid hr0; have HB1 := Lib.hid hb1; have HZ1 := Lib.hid hz1'
          clear hb1 hr0 hz1'
          go_wp2_with fail
          clear hw1
          go_loopw [8, 9, 10] (fun l b j wr => ∃ k : Nat, k ≤ 2 ∧ j = .int .i64 ((k : Int) - 1) ∧ l = .int .i64 (lfN 2 m (2 - k) : Nat) ∧ b = .bool (ftB 2 m k) ∧ Hid (Rw wr w0.heap.size 3 2 2 (dgR 2 m k)) ∧ Hid (Only w0.heap.size w1 wr)) (fun _ _ j _ => ((intOf j) + 1).toNat)
          case atStart => exact ⟨2, by omega, rfl, by rw [show 2 - 2 = 0 from rfl, lfN_zero], by rw [ft_end], HR0, Lib.hid (Only.refl _ _)⟩
          case round =>
            obtain ⟨k, hk, rfl, rfl, rfl, hr, ho⟩ := hrel
            cases k with
            | zero =>
              clear HR0
              have hrow : Row wr w0.heap.size 0 2 (dgR 2 m 0) := fun i hi => by rw [Nat.zero_add]; exact hr.out.cell i hi
              have hsx := ho.out.size
              have hints : Ints wr (some ⟨w0.heap.size, 0, none⟩) 2 (dgR 2 m 0) := ints_row hrow (by have := HZ1.out; omega) (by omega) (fun i hi => by unfold dgR; rw [if_pos (Nat.zero_le _)]; have h5 : dgN 2 m i < 4 := Nat.mod_lt _ (by decide); unfold I64; omega)
              have hown : OwnX wr w.heap.size 3 (.slice (some ⟨w0.heap.size, 0, none⟩) 2 2) (dgL 2 m) := Rw.own (hr.out.less (Nat.le_refl _) (fun i hi => (rowL_getD _ _ _ hi).symm)) (rowL_len _ _).symm hb.out.size (Nat.le_refl _) (by unfold maxLen; omega)
              have hbx : Below w0.heap.size w0 wr := HB1.out.trans (ho.out.below (Nat.le_refl _) (by have := HZ1.out; omega))
              have HI := Lib.hid hints; have HOW := Lib.hid hown
              have HSH := Lib.hid (hsh.out.kept hbx)
              have HBX := Lib.hid (hb.out.trans (hbx.mono hb.out.size))
              have hlts := hsh.out.lt
              have hvne : (Value.slice av (alK 2 m).length cv).ownBlock ≠ some w0.heap.size := fun e => by have := (World.ownsRow.lt hsh.out.own _ e).2; omega
              have HNE := Lib.hid (show (∀ r ∈ rs, r.1 ≠ w0.heap.size) ∧ (Value.slice av (alK 2 m).length cv).ownBlock ≠ some w0.heap.size from ⟨fun r hr5 => by have := (hlts r hr5).2; omega, hvne⟩)
              have HSX := Lib.hid (show w0.heap.size < wr.heap.size by have := HZ1.out; omega)
              clear hrow hints hown hbx hlts hvne
              cases hft : ftB 2 m 0 with
              | false =>
                have HAK := Lib.hid (show akB 2 m = false by unfold akB; rw [hft]; rfl)
                clear hft
                go_wp2_with fail
                go_roundw
                case rel => exact ⟨m + 1, rs, by omega, by go_num, by rw [alK_next, HAK.out]; exact HSH, HBX⟩
                case measure => first | (simp [intOf]; done) | (simp [intOf]; omega)
              | true =>
                cases hwb : worldB 2 (dgR 2 m 0) with
                | false =>
                  have HAK := Lib.hid (show akB 2 m = false by unfold akB; rw [hft, hwb]; rfl)
                  have HWB := Lib.hid hwb
                  clear hft hwb
                  go_wp2_with fail
                  refine (specWorldOk_at _ 2 _ (dgR 2 m 0) false _ HWB.out HI.out).mono ?_
                  rintro e w9 ⟨rfl, hd⟩
                  have HSH9 := Lib.hid (HSH.out.kept hd.below); have HB9 := Lib.hid (HBX.out.trans (hd.below.mono HBX.out.size))
                  clear hd
                  go_wp2_with fail
                  go_roundw
                  case rel => exact ⟨m + 1, rs, by omega, by go_num, by rw [alK_next, HAK.out]; exact HSH9, HB9⟩
                  case measure => first | (simp [intOf]; done) | (simp [intOf]; omega)
                | true =>
                  have HAK := Lib.hid (show akB 2 m = true by unfold akB; rw [hft, hwb]; rfl)
                  have HWB := Lib.hid hwb
                  clear hft hwb
                  go_wp2_with fail
                  refine (specWorldOk_at _ 2 _ (dgR 2 m 0) true _ HWB.out HI.out).mono ?_
                  rintro e w9 ⟨rfl, hd⟩
                  have HSH9 := Lib.hid (HSH.out.kept hd.below); have HB9 := Lib.hid (HBX.out.trans (hd.below.mono HBX.out.size)); have HOW9 := Lib.hid (HOW.out.kept hd.below)
                  have hs9 := hd.below.size
                  clear hd
                  have hrow9 := HSH9.out.own
                  have hlen9 := alK_len 2 m
                  have k1 := Lib.hid (fun (j : Nat) (u : Value) (h : [Value.slice (some ⟨w0.heap.size, 0, none⟩) 2 2][j]? = some u) => cell_one_new w9 (.slice (some ⟨w0.heap.size, 0, none⟩) 2 2) 23 j u h)
                  have k2 : Hid (∀ u ∈ [Value.slice (some ⟨w0.heap.size, 0, none⟩) 2 2], u.oneCell' = true) := Lib.hid (by intro u hu; simp at hu; subst hu; rfl)
                  have k3 : Hid ((alK 2 m).length + 1 ≤ maxLen) := Lib.hid (by unfold maxLen; omega)
                  have k4 : Hid (((alK 2 m).length + 1) * 24 ≤ 140737488355328) := Lib.hid (by omega)
                  have k5 : Hid (w.heap.size ≤ (w9.alloc (.cells #[.slice (some ⟨w0.heap.size, 0, none⟩) 2 2] 23)).heap.size) := Lib.hid (by rw [alloc_size]; have := HB9.out.size; omega)
                  have HROW := Lib.hid hrow9
                  clear hrow9 hlen9
                  go_wp2_with (at_builtin; refine wpList_append_own_at _ rfl (.tmp 58) (.tmp 60) 29 rfl w.heap.size 23 i0 (.slice none 0 0) 1 24 Try.underlying29 hii hz0 hz1 hz2 rfl (by decide) _ _ _ rfl (HROW.out.alloc _) ⟨w9.heap.size, 0, none⟩ 1 1 [.slice (some ⟨w0.heap.size, 0, none⟩) 2 2] rfl rfl k1.out k2.out k3.out k4.out k5.out ?_)
                  intro v' w5 hown' hgrow _ hat
                  have hsn := HSH9.out.snoc HOW9.out (Nat.le_refl _) HNE.out.1 HNE.out.2 hown' hgrow hat
                  have hb5 : Below w.heap.size w w5 := HB9.out.trans (((alloc_below w9 _).mono HB9.out.size).trans ((Below.refl w.heap.size _).grown hgrow k5.out (fun q hq => (HSH9.out.own.lt q hq).1)))
                  have HS5 := Lib.hid hsn; have HB5 := Lib.hid hb5
                  clear hown' hgrow hat hsn hb5
                  try go_wp2_with fail
                  go_roundw
                  case rel => exact ⟨m + 1, _, by omega, by go_num, by rw [alK_next, HAK.out]; exact HS5, HB5⟩
                  case measure => first | (simp [intOf]; done) | (simp [intOf]; omega)
            | succ k =>
              have hkk : ((k + 1 : Nat) : Int) - 1 = (k : Int) := by omega
              have HNX := Lib.hid (lfN_next 2 m (2 - (k + 1)))
              have HDG : Hid (dgN 2 m k = lfN 2 m (2 - (k + 1)) % 4) := Lib.hid (by unfold dgN; rw [show 2 - 1 - k = 2 - (k + 1) by omega])
              have HLF : Hid (2 - k = 2 - (k + 1) + 1) := Lib.hid (by omega)
              have hft := ft_next 2 m k (by omega)
              have HRW2 := Lib.hid (fun i => dgR_next 2 m k i)
              obtain ⟨L, hL⟩ : ∃ L, lfN 2 m (2 - (k + 1)) = L := ⟨_, rfl⟩
              rw [hL] at HNX HDG ⊢
              clear hL HR0
              have hk0 : (0 : Int) ≤ (k : Int) := by omega
              have hkn : (k : Int) < 2 := by omega
              have hcc := hr.out.cell k (by omega)
              have hff := hr.out.frozen k
              rw [hkk]
              clear hkk
              have hL0 : (0 : Int) ≤ (L : Int) := by omega
              cases hf1 : ftB 2 m (k + 1) with
              | false =>
                have HFT := Lib.hid (show ftB 2 m k = false by rw [hft, hf1]; rfl)
                clear hft hf1
                go_wp2_with fail
                try (refine ⟨fun _ h => (by cases h), ?_⟩; go_wp2_with fail)
                go_roundw
                case rel => exact ⟨k, by omega, by go_num, by rw [HLF.out, HNX.out]; first | rfl | omega | (congr 1; done) | (congr 1; omega), by rw [HFT.out], Lib.hid ((hr.out.set k _).less (Nat.le_refl _) (fun i hi => by rw [HRW2.out i, HDG.out]; rfl)), Lib.hid (ho.out.setCell k _)⟩
                case measure => first | (simp [intOf]; done) | (simp [intOf]; omega)
              | true =>
                cases hh : hasB (dgN 2 m k : Int) k with
                | false =>
                  have HFT := Lib.hid (show ftB 2 m k = false by rw [hft, hf1, hh]; rfl)
                  have HH := Lib.hid (show hasB ((L : Int) % 4) k = false by rw [HDG.out] at hh; rw [← hh]; congr 1)
                  clear hft hf1 hh
                  go_wp2_with fail
                  refine (l1Has_val _ k false _ HH.out (by omega) (by omega)).mono ?_
                  rintro e w9 ⟨rfl, rfl⟩
                  go_wp2_with fail
                  go_roundw
                  case rel => exact ⟨k, by omega, by go_num, by rw [HLF.out, HNX.out]; first | rfl | omega | (congr 1; done) | (congr 1; omega), by rw [HFT.out], Lib.hid ((hr.out.set k _).less (Nat.le_refl _) (fun i hi => by rw [HRW2.out i, HDG.out]; rfl)), Lib.hid (ho.out.setCell k _)⟩
                  case measure => first | (simp [intOf]; done) | (simp [intOf]; omega)
                | true =>
                  have HFT := Lib.hid (show ftB 2 m k = true by rw [hft, hf1, hh]; rfl)
                  have HH := Lib.hid (show hasB ((L : Int) % 4) k = true by rw [HDG.out] at hh; rw [← hh]; congr 1)
                  clear hft hf1 hh
                  go_wp2_with fail
                  refine (l1Has_val _ k true _ HH.out (by omega) (by omega)).mono ?_
                  rintro e w9 ⟨rfl, rfl⟩
                  go_wp2_with fail
                  go_roundw
                  case rel => exact ⟨k, by omega, by go_num, by rw [HLF.out, HNX.out]; first | rfl | omega | (congr 1; done) | (congr 1; omega), by rw [HFT.out], Lib.hid ((hr.out.set k _).less (Nat.le_refl _) (fun i hi => by rw [HRW2.out i, HDG.out]; rfl)), Lib.hid (ho.out.setCell k _)⟩
                  case measure => first | (simp [intOf]; done) | (simp [intOf]; omega)
        · have hmi : ¬ (m : Int) < 16 := by omega
          have hme : m = 16 := by omega
          subst hme
          go_wp2_with fail
          go_ret
          exact ⟨_, rs, rfl, hsh.out, hb.out⟩

set_option maxRecDepth 100000 in
set_option maxHeartbeats 8000000 in
theorem specAll_3 (w : World) :
    Calls Try.prog 53 #[.int .i64 3] w (RowsGive 3 (alL 3) w) := by
  obtain ⟨i0, hii, hz0, hz1, hz2⟩ := info_parts Try.infoIntS
  have hmk : ∀ w, (Instr.makeSlice 23 (.int .i64 3) (.int .i64 3)).run Try.prog w = .ok (.slice (some ⟨w.heap.size, 0, none⟩) 3 3) (w.alloc (.cells (madeCells #[.int .i64 0] 3) 3)) := run_make_row' (P := Try.prog) 23 3 (.int .i64 0) 8 Try.underlying23 Try.infoInt rfl .i64 .i64 3 (by omega) (by omega)
  have hmade := Lib.hid (specStory_made w 3)
  have HB0 := Lib.hid (alloc_below w (.cells #[] 23))
  have HZ0 := Lib.hid (show (w.alloc (.cells #[] 23)).heap.size = w.heap.size + 1 from alloc_size _ _)
  go_enter Try.func53, Try.ntmps53
  go_wp2_with fail
  go_loopw [4, 5] (fun a i wr => ((i = .int .i64 0 ∧ a = .int .i64 1) ∨ (i = .int .i64 1 ∧ a = .int .i64 8) ∨ (i = .int .i64 2 ∧ a = .int .i64 64) ∨ (i = .int .i64 3 ∧ a = .int .i64 512)) ∧ wr = w.alloc (.cells #[] 23)) (fun _ i _ => 3 - (intOf i).toNat)
  case atStart => exact ⟨by simp, rfl⟩
  case round =>
    obtain ⟨hc, rfl⟩ := hrel
    rcases hc with ⟨rfl, rfl⟩ | ⟨rfl, rfl⟩ | ⟨rfl, rfl⟩ | ⟨rfl, rfl⟩
    · go_wp2_with fail
      go_roundw
      case rel => exact ⟨by simp, by first | rfl | trivial⟩
      case measure => simp [intOf]
    · go_wp2_with fail
      go_roundw
      case rel => exact ⟨by simp, by first | rfl | trivial⟩
      case measure => simp [intOf]
    · go_wp2_with fail
      go_roundw
      case rel => exact ⟨by simp, by first | rfl | trivial⟩
      case measure => simp [intOf]
    · go_wp2_with fail
      go_loopw [3, 6, 7, 8, 9, 10] (fun v m _ _ _ _ wr => ∃ (k : Nat) (rs : List (Nat × Nat)), k ≤ 512 ∧ m = .int .i64 k ∧ Hid (Ships wr w.heap.size 3 v (alK 3 k) rs) ∧ Hid (Below w.heap.size w wr)) (fun _ m _ _ _ _ _ => 512 - (intOf m).toNat)
      case atStart => exact ⟨0, [], by omega, rfl, hmade, HB0⟩
      case round =>
        obtain ⟨m, rs, hm, rfl, hsh, hb⟩ := hrel
        clear hmade HB0 HZ0
        obtain ⟨w0, hw0⟩ : ∃ w0, w0 = wr := ⟨_, rfl⟩
        subst hw0
        obtain ⟨av, cv, rfl⟩ := hsh.out.slice
        by_cases hlt : m < 512
        · have hmi : (m : Int) < 512 := by omega
          have hb1 := alloc_below w0 (.cells (madeCells #[.int .i64 0] 3) 3)
          have hr0 : Rw (w0.alloc (.cells (madeCells #[.int .i64 0] 3) 3)) w0.heap.size 3 3 3 (dgR 3 m 3) := Rw.less (World.rowIs_made w0 (.int .i64 0) 3 3 : Rw _ _ _ _ _ (fun _ => (0 : Int))) (Nat.le_refl _) (fun i hi => by unfold dgR; rw [if_neg (by omega)])
          have hz1' : (w0.alloc (.cells (madeCells #[.int .i64 0] 3) 3)).heap.size = w0.heap.size + 1 := alloc_size _ _
          obtain ⟨w1, hw1⟩ : ∃ w1, w0.alloc (.cells (madeCells #[.int .i64 0] 3) 3) = w1 := ⟨_, rfl⟩
          rw [hw1] at hb1 hr0 hz1'
          have HR0 := Lib.hid hr0; have HB1 := Lib.hid hb1; have HZ1 := Lib.hid hz1'
          clear hb1 hr0 hz1'
          go_wp2_with fail
          clear hw1
          go_loopw [8, 9, 10] (fun l b j wr => ∃ k : Nat, k ≤ 3 ∧ j = .int .i64 ((k : Int) - 1) ∧ l = .int .i64 (lfN 3 m (3 - k) : Nat) ∧ b = .bool (ftB 3 m k) ∧ Hid (Rw wr w0.heap.size 3 3 3 (dgR 3 m k)) ∧ Hid (Only w0.heap.size w1 wr)) (fun _ _ j _ => ((intOf j) + 1).toNat)
          case atStart => exact ⟨3, by omega, rfl, by rw [show 3 - 3 = 0 from rfl, lfN_zero], by rw [ft_end], HR0, Lib.hid (Only.refl _ _)⟩
          case round =>
            obtain ⟨k, hk, rfl, rfl, rfl, hr, ho⟩ := hrel
            cases k with
            | zero =>
              clear HR0
              have hrow : Row wr w0.heap.size 0 3 (dgR 3 m 0) := fun i hi => by rw [Nat.zero_add]; exact hr.out.cell i hi
              have hsx := ho.out.size
              have hints : Ints wr (some ⟨w0.heap.size, 0, none⟩) 3 (dgR 3 m 0) := ints_row hrow (by have := HZ1.out; omega) (by omega) (fun i hi => by unfold dgR; rw [if_pos (Nat.zero_le _)]; have h5 : dgN 3 m i < 8 := Nat.mod_lt _ (by decide); unfold I64; omega)
              have hown : OwnX wr w.heap.size 3 (.slice (some ⟨w0.heap.size, 0, none⟩) 3 3) (dgL 3 m) := Rw.own (hr.out.less (Nat.le_refl _) (fun i hi => (rowL_getD _ _ _ hi).symm)) (rowL_len _ _).symm hb.out.size (Nat.le_refl _) (by unfold maxLen; omega)
              have hbx : Below w0.heap.size w0 wr := HB1.out.trans (ho.out.below (Nat.le_refl _) (by have := HZ1.out; omega))
              have HI := Lib.hid hints; have HOW := Lib.hid hown
              have HSH := Lib.hid (hsh.out.kept hbx)
              have HBX := Lib.hid (hb.out.trans (hbx.mono hb.out.size))
              have hlts := hsh.out.lt
              have hvne : (Value.slice av (alK 3 m).length cv).ownBlock ≠ some w0.heap.size := fun e => by have := (World.ownsRow.lt hsh.out.own _ e).2; omega
              have HNE := Lib.hid (show (∀ r ∈ rs, r.1 ≠ w0.heap.size) ∧ (Value.slice av (alK 3 m).length cv).ownBlock ≠ some w0.heap.size from ⟨fun r hr5 => by have := (hlts r hr5).2; omega, hvne⟩)
              have HSX := Lib.hid (show w0.heap.size < wr.heap.size by have := HZ1.out; omega)
              clear hrow hints hown hbx hlts hvne
              cases hft : ftB 3 m 0 with
              | false =>
                have HAK := Lib.hid (show akB 3 m = false by unfold akB; rw [hft]; rfl)
                clear hft
                go_wp2_with fail
                go_roundw
                case rel => exact ⟨m + 1, rs, by omega, by go_num, by rw [alK_next, HAK.out]; exact HSH, HBX⟩
                case measure => first | (simp [intOf]; done) | (simp [intOf]; omega)
              | true =>
                cases hwb : worldB 3 (dgR 3 m 0) with
                | false =>
                  have HAK := Lib.hid (show akB 3 m = false by unfold akB; rw [hft, hwb]; rfl)
                  have HWB := Lib.hid hwb
                  clear hft hwb
                  go_wp2_with fail
                  refine (specWorldOk_at _ 3 _ (dgR 3 m 0) false _ HWB.out HI.out).mono ?_
                  rintro e w9 ⟨rfl, hd⟩
                  have HSH9 := Lib.hid (HSH.out.kept hd.below); have HB9 := Lib.hid (HBX.out.trans (hd.below.mono HBX.out.size))
                  clear hd
                  go_wp2_with fail
                  go_roundw
                  case rel => exact ⟨m + 1, rs, by omega, by go_num, by rw [alK_next, HAK.out]; exact HSH9, HB9⟩
                  case measure => first | (simp [intOf]; done) | (simp [intOf]; omega)
                | true =>
                  have HAK := Lib.hid (show akB 3 m = true by unfold akB; rw [hft, hwb]; rfl)
                  have HWB := Lib.hid hwb
                  clear hft hwb
                  go_wp2_with fail
                  refine (specWorldOk_at _ 3 _ (dgR 3 m 0) true _ HWB.out HI.out).mono ?_
                  rintro e w9 ⟨rfl, hd⟩
                  have HSH9 := Lib.hid (HSH.out.kept hd.below); have HB9 := Lib.hid (HBX.out.trans (hd.below.mono HBX.out.size)); have HOW9 := Lib.hid (HOW.out.kept hd.below)
                  have hs9 := hd.below.size
                  clear hd
                  have hrow9 := HSH9.out.own
                  have hlen9 := alK_len 3 m
                  have k1 := Lib.hid (fun (j : Nat) (u : Value) (h : [Value.slice (some ⟨w0.heap.size, 0, none⟩) 3 3][j]? = some u) => cell_one_new w9 (.slice (some ⟨w0.heap.size, 0, none⟩) 3 3) 23 j u h)
                  have k2 : Hid (∀ u ∈ [Value.slice (some ⟨w0.heap.size, 0, none⟩) 3 3], u.oneCell' = true) := Lib.hid (by intro u hu; simp at hu; subst hu; rfl)
                  have k3 : Hid ((alK 3 m).length + 1 ≤ maxLen) := Lib.hid (by unfold maxLen; omega)
                  have k4 : Hid (((alK 3 m).length + 1) * 24 ≤ 140737488355328) := Lib.hid (by omega)
                  have k5 : Hid (w.heap.size ≤ (w9.alloc (.cells #[.slice (some ⟨w0.heap.size, 0, none⟩) 3 3] 23)).heap.size) := Lib.hid (by rw [alloc_size]; have := HB9.out.size; omega)
                  have HROW := Lib.hid hrow9
                  clear hrow9 hlen9
                  go_wp2_with (at_builtin; refine wpList_append_own_at _ rfl (.tmp 58) (.tmp 60) 29 rfl w.heap.size 23 i0 (.slice none 0 0) 1 24 Try.underlying29 hii hz0 hz1 hz2 rfl (by decide) _ _ _ rfl (HROW.out.alloc _) ⟨w9.heap.size, 0, none⟩ 1 1 [.slice (some ⟨w0.heap.size, 0, none⟩) 3 3] rfl rfl k1.out k2.out k3.out k4.out k5.out ?_)
                  intro v' w5 hown' hgrow _ hat
                  have hsn := HSH9.out.snoc HOW9.out (Nat.le_refl _) HNE.out.1 HNE.out.2 hown' hgrow hat
                  have hb5 : Below w.heap.size w w5 := HB9.out.trans (((alloc_below w9 _).mono HB9.out.size).trans ((Below.refl w.heap.size _).grown hgrow k5.out (fun q hq => (HSH9.out.own.lt q hq).1)))
                  have HS5 := Lib.hid hsn; have HB5 := Lib.hid hb5
                  clear hown' hgrow hat hsn hb5
                  try go_wp2_with fail
                  go_roundw
                  case rel => exact ⟨m + 1, _, by omega, by go_num, by rw [alK_next, HAK.out]; exact HS5, HB5⟩
                  case measure => first | (simp [intOf]; done) | (simp [intOf]; omega)
            | succ k =>
              have hkk : ((k + 1 : Nat) : Int) - 1 = (k : Int) := by omega
              have HNX := Lib.hid (lfN_next 3 m (3 - (k + 1)))
              have HDG : Hid (dgN 3 m k = lfN 3 m (3 - (k + 1)) % 8) := Lib.hid (by unfold dgN; rw [show 3 - 1 - k = 3 - (k + 1) by omega])
              have HLF : Hid (3 - k = 3 - (k + 1) + 1) := Lib.hid (by omega)
              have hft := ft_next 3 m k (by omega)
              have HRW2 := Lib.hid (fun i => dgR_next 3 m k i)
              obtain ⟨L, hL⟩ : ∃ L, lfN 3 m (3 - (k + 1)) = L := ⟨_, rfl⟩
              rw [hL] at HNX HDG ⊢
              clear hL HR0
              have hk0 : (0 : Int) ≤ (k : Int) := by omega
              have hkn : (k : Int) < 3 := by omega
              have hcc := hr.out.cell k (by omega)
              have hff := hr.out.frozen k
              rw [hkk]
              clear hkk
              have hL0 : (0 : Int) ≤ (L : Int) := by omega
              cases hf1 : ftB 3 m (k + 1) with
              | false =>
                have HFT := Lib.hid (show ftB 3 m k = false by rw [hft, hf1]; rfl)
                clear hft hf1
                go_wp2_with fail
                try (refine ⟨fun _ h => (by cases h), ?_⟩; go_wp2_with fail)
                go_roundw
                case rel => exact ⟨k, by omega, by go_num, by rw [HLF.out, HNX.out]; first | rfl | omega | (congr 1; done) | (congr 1; omega), by rw [HFT.out], Lib.hid ((hr.out.set k _).less (Nat.le_refl _) (fun i hi => by rw [HRW2.out i, HDG.out]; rfl)), Lib.hid (ho.out.setCell k _)⟩
                case measure => first | (simp [intOf]; done) | (simp [intOf]; omega)
              | true =>
                cases hh : hasB (dgN 3 m k : Int) k with
                | false =>
                  have HFT := Lib.hid (show ftB 3 m k = false by rw [hft, hf1, hh]; rfl)
                  have HH := Lib.hid (show hasB ((L : Int) % 8) k = false by rw [HDG.out] at hh; rw [← hh]; congr 1)
                  clear hft hf1 hh
                  go_wp2_with fail
                  refine (l1Has_val _ k false _ HH.out (by omega) (by omega)).mono ?_
                  rintro e w9 ⟨rfl, rfl⟩
                  go_wp2_with fail
                  go_roundw
                  case rel => exact ⟨k, by omega, by go_num, by rw [HLF.out, HNX.out]; first | rfl | omega | (congr 1; done) | (congr 1; omega), by rw [HFT.out], Lib.hid ((hr.out.set k _).less (Nat.le_refl _) (fun i hi => by rw [HRW2.out i, HDG.out]; rfl)), Lib.hid (ho.out.setCell k _)⟩
                  case measure => first | (simp [intOf]; done) | (simp [intOf]; omega)
                | true =>
                  have HFT := Lib.hid (show ftB 3 m k = true by rw [hft, hf1, hh]; rfl)
                  have HH := Lib.hid (show hasB ((L : Int) % 8) k = true by rw [HDG.out] at hh; rw [← hh]; congr 1)
                  clear hft hf1 hh
                  go_wp2_with fail
                  refine (l1Has_val _ k true _ HH.out (by omega) (by omega)).mono ?_
                  rintro e w9 ⟨rfl, rfl⟩
                  go_wp2_with fail
                  go_roundw
                  case rel => exact ⟨k, by omega, by go_num, by rw [HLF.out, HNX.out]; first | rfl | omega | (congr 1; done) | (congr 1; omega), by rw [HFT.out], Lib.hid ((hr.out.set k _).less (Nat.le_refl _) (fun i hi => by rw [HRW2.out i, HDG.out]; rfl)), Lib.hid (ho.out.setCell k _)⟩
                  case measure => first | (simp [intOf]; done) | (simp [intOf]; omega)
        · have hmi : ¬ (m : Int) < 512 := by omega
          have hme : m = 512 := by omega
          subst hme
          go_wp2_with fail
          go_ret
          exact ⟨_, rs, rfl, hsh.out, hb.out⟩

set_option maxRecDepth 100000 in
set_option maxHeartbeats 8000000 in
theorem specAll_4 (w : World) :
    Calls Try.prog 53 #[.int .i64 4] w (RowsGive 4 (alL 4) w) := by
  obtain ⟨i0, hii, hz0, hz1, hz2⟩ := info_parts Try.infoIntS
  have hmk : ∀ w, (Instr.makeSlice 23 (.int .i64 4) (.int .i64 4)).run Try.prog w = .ok (.slice (some ⟨w.heap.size, 0, none⟩) 4 4) (w.alloc (.cells (madeCells #[.int .i64 0] 4) 3)) := run_make_row' (P := Try.prog) 23 3 (.int .i64 0) 8 Try.underlying23 Try.infoInt rfl .i64 .i64 4 (by omega) (by omega)
  have hmade := Lib.hid (specStory_made w 4)
  have HB0 := Lib.hid (alloc_below w (.cells #[] 23))
  have HZ0 := Lib.hid (show (w.alloc (.cells #[] 23)).heap.size = w.heap.size + 1 from alloc_size _ _)
  go_enter Try.func53, Try.ntmps53
  go_wp2_with fail
  go_loopw [4, 5] (fun a i wr => ((i = .int .i64 0 ∧ a = .int .i64 1) ∨ (i = .int .i64 1 ∧ a = .int .i64 16) ∨ (i = .int .i64 2 ∧ a = .int .i64 256) ∨ (i = .int .i64 3 ∧ a = .int .i64 4096) ∨ (i = .int .i64 4 ∧ a = .int .i64 65536)) ∧ wr = w.alloc (.cells #[] 23)) (fun _ i _ => 4 - (intOf i).toNat)
  case atStart => exact ⟨by simp, rfl⟩
  case round =>
    obtain ⟨hc, rfl⟩ := hrel
    rcases hc with ⟨rfl, rfl⟩ | ⟨rfl, rfl⟩ | ⟨rfl, rfl⟩ | ⟨rfl, rfl⟩ | ⟨rfl, rfl⟩
    · go_wp2_with fail
      go_roundw
      case rel => exact ⟨by simp, by first | rfl | trivial⟩
      case measure => simp [intOf]
    · go_wp2_with fail
      go_roundw
      case rel => exact ⟨by simp, by first | rfl | trivial⟩
      case measure => simp [intOf]
    · go_wp2_with fail
      go_roundw
      case rel => exact ⟨by simp, by first | rfl | trivial⟩
      case measure => simp [intOf]
    · go_wp2_with fail
      go_roundw
      case rel => exact ⟨by simp, by first | rfl | trivial⟩
      case measure => simp [intOf]
    · go_wp2_with fail
      go_loopw [3, 6, 7, 8, 9, 10] (fun v m _ _ _ _ wr => ∃ (k : Nat) (rs : List (Nat × Nat)), k ≤ 65536 ∧ m = .int .i64 k ∧ Hid (Ships wr w.heap.size 4 v (alK 4 k) rs) ∧ Hid (Below w.heap.size w wr)) (fun _ m _ _ _ _ _ => 65536 - (intOf m).toNat)
      case atStart => exact ⟨0, [], by omega, rfl, hmade, HB0⟩
      case round =>
        obtain ⟨m, rs, hm, rfl, hsh, hb⟩ := hrel
        clear hmade HB0 HZ0
        obtain ⟨w0, hw0⟩ : ∃ w0, w0 = wr := ⟨_, rfl⟩
        subst hw0
        obtain ⟨av, cv, rfl⟩ := hsh.out.slice
        by_cases hlt : m < 65536
        · have hmi : (m : Int) < 65536 := by omega
          have hb1 := alloc_below w0 (.cells (madeCells #[.int .i64 0] 4) 3)
          have hr0 : Rw (w0.alloc (.cells (madeCells #[.int .i64 0] 4) 3)) w0.heap.size 3 4 4 (dgR 4 m 4) := Rw.less (World.rowIs_made w0 (.int .i64 0) 4 3 : Rw _ _ _ _ _ (fun _ => (0 : Int))) (Nat.le_refl _) (fun i hi => by unfold dgR; rw [if_neg (by omega)])
          have hz1' : (w0.alloc (.cells (madeCells #[.int .i64 0] 4) 3)).heap.size = w0.heap.size + 1 := alloc_size _ _
          obtain ⟨w1, hw1⟩ : ∃ w1, w0.alloc (.cells (madeCells #[.int .i64 0] 4) 3) = w1 := ⟨_, rfl⟩
          rw [hw1] at hb1 hr0 hz1'
          have HR0 := Lib.hid hr0; have HB1 := Lib.hid hb1; have HZ1 := Lib.hid hz1'
          clear hb1 hr0 hz1'
          go_wp2_with fail
          clear hw1
          go_loopw [8, 9, 10] (fun l b j wr => ∃ k : Nat, k ≤ 4 ∧ j = .int .i64 ((k : Int) - 1) ∧ l = .int .i64 (lfN 4 m (4 - k) : Nat) ∧ b = .bool (ftB 4 m k) ∧ Hid (Rw wr w0.heap.size 3 4 4 (dgR 4 m k)) ∧ Hid (Only w0.heap.size w1 wr)) (fun _ _ j _ => ((intOf j) + 1).toNat)
          case atStart => exact ⟨4, by omega, rfl, by rw [show 4 - 4 = 0 from rfl, lfN_zero], by rw [ft_end], HR0, Lib.hid (Only.refl _ _)⟩
          case round =>
            obtain ⟨k, hk, rfl, rfl, rfl, hr, ho⟩ := hrel
            cases k with
            | zero =>
              clear HR0
              have hrow : Row wr w0.heap.size 0 4 (dgR 4 m 0) := fun i hi => by rw [Nat.zero_add]; exact hr.out.cell i hi
              have hsx := ho.out.size
              have hints : Ints wr (some ⟨w0.heap.size, 0, none⟩) 4 (dgR 4 m 0) := ints_row hrow (by have := HZ1.out; omega) (by omega) (fun i hi => by unfold dgR; rw [if_pos (Nat.zero_le _)]; have h5 : dgN 4 m i < 16 := Nat.mod_lt _ (by decide); unfold I64; omega)
              have hown : OwnX wr w.heap.size 3 (.slice (some ⟨w0.heap.size, 0, none⟩) 4 4) (dgL 4 m) := Rw.own (hr.out.less (Nat.le_refl _) (fun i hi => (rowL_getD _ _ _ hi).symm)) (rowL_len _ _).symm hb.out.size (Nat.le_refl _) (by unfold maxLen; omega)
              have hbx : Below w0.heap.size w0 wr := HB1.out.trans (ho.out.below (Nat.le_refl _) (by have := HZ1.out; omega))
              have HI := Lib.hid hints; have HOW := Lib.hid hown
              have HSH := Lib.hid (hsh.out.kept hbx)
              have HBX := Lib.hid (hb.out.trans (hbx.mono hb.out.size))
              have hlts := hsh.out.lt
              have hvne : (Value.slice av (alK 4 m).length cv).ownBlock ≠ some w0.heap.size := fun e => by have := (World.ownsRow.lt hsh.out.own _ e).2; omega
              have HNE := Lib.hid (show (∀ r ∈ rs, r.1 ≠ w0.heap.size) ∧ (Value.slice av (alK 4 m).length cv).ownBlock ≠ some w0.heap.size from ⟨fun r hr5 => by have := (hlts r hr5).2; omega, hvne⟩)
              have HSX := Lib.hid (show w0.heap.size < wr.heap.size by have := HZ1.out; omega)
              clear hrow hints hown hbx hlts hvne
              cases hft : ftB 4 m 0 with
              | false =>
                have HAK := Lib.hid (show akB 4 m = false by unfold akB; rw [hft]; rfl)
                clear hft
                go_wp2_with fail
                go_roundw
                case rel => exact ⟨m + 1, rs, by omega, by go_num, by rw [alK_next, HAK.out]; exact HSH, HBX⟩
                case measure => first | (simp [intOf]; done) | (simp [intOf]; omega)
              | true =>
                cases hwb : worldB 4 (dgR 4 m 0) with
                | false =>
                  have HAK := Lib.hid (show akB 4 m = false by unfold akB; rw [hft, hwb]; rfl)
                  have HWB := Lib.hid hwb
                  clear hft hwb
                  go_wp2_with fail
                  refine (specWorldOk_at _ 4 _ (dgR 4 m 0) false _ HWB.out HI.out).mono ?_
                  rintro e w9 ⟨rfl, hd⟩
                  have HSH9 := Lib.hid (HSH.out.kept hd.below); have HB9 := Lib.hid (HBX.out.trans (hd.below.mono HBX.out.size))
                  clear hd
                  go_wp2_with fail
                  go_roundw
                  case rel => exact ⟨m + 1, rs, by omega, by go_num, by rw [alK_next, HAK.out]; exact HSH9, HB9⟩
                  case measure => first | (simp [intOf]; done) | (simp [intOf]; omega)
                | true =>
                  have HAK := Lib.hid (show akB 4 m = true by unfold akB; rw [hft, hwb]; rfl)
                  have HWB := Lib.hid hwb
                  clear hft hwb
                  go_wp2_with fail
                  refine (specWorldOk_at _ 4 _ (dgR 4 m 0) true _ HWB.out HI.out).mono ?_
                  rintro e w9 ⟨rfl, hd⟩
                  have HSH9 := Lib.hid (HSH.out.kept hd.below); have HB9 := Lib.hid (HBX.out.trans (hd.below.mono HBX.out.size)); have HOW9 := Lib.hid (HOW.out.kept hd.below)
                  have hs9 := hd.below.size
                  clear hd
                  have hrow9 := HSH9.out.own
                  have hlen9 := alK_len 4 m
                  have k1 := Lib.hid (fun (j : Nat) (u : Value) (h : [Value.slice (some ⟨w0.heap.size, 0, none⟩) 4 4][j]? = some u) => cell_one_new w9 (.slice (some ⟨w0.heap.size, 0, none⟩) 4 4) 23 j u h)
                  have k2 : Hid (∀ u ∈ [Value.slice (some ⟨w0.heap.size, 0, none⟩) 4 4], u.oneCell' = true) := Lib.hid (by intro u hu; simp at hu; subst hu; rfl)
                  have k3 : Hid ((alK 4 m).length + 1 ≤ maxLen) := Lib.hid (by unfold maxLen; omega)
                  have k4 : Hid (((alK 4 m).length + 1) * 24 ≤ 140737488355328) := Lib.hid (by omega)
                  have k5 : Hid (w.heap.size ≤ (w9.alloc (.cells #[.slice (some ⟨w0.heap.size, 0, none⟩) 4 4] 23)).heap.size) := Lib.hid (by rw [alloc_size]; have := HB9.out.size; omega)
                  have HROW := Lib.hid hrow9
                  clear hrow9 hlen9
                  go_wp2_with (at_builtin; refine wpList_append_own_at _ rfl (.tmp 58) (.tmp 60) 29 rfl w.heap.size 23 i0 (.slice none 0 0) 1 24 Try.underlying29 hii hz0 hz1 hz2 rfl (by decide) _ _ _ rfl (HROW.out.alloc _) ⟨w9.heap.size, 0, none⟩ 1 1 [.slice (some ⟨w0.heap.size, 0, none⟩) 4 4] rfl rfl k1.out k2.out k3.out k4.out k5.out ?_)
                  intro v' w5 hown' hgrow _ hat
                  have hsn := HSH9.out.snoc HOW9.out (Nat.le_refl _) HNE.out.1 HNE.out.2 hown' hgrow hat
                  have hb5 : Below w.heap.size w w5 := HB9.out.trans (((alloc_below w9 _).mono HB9.out.size).trans ((Below.refl w.heap.size _).grown hgrow k5.out (fun q hq => (HSH9.out.own.lt q hq).1)))
                  have HS5 := Lib.hid hsn; have HB5 := Lib.hid hb5
                  clear hown' hgrow hat hsn hb5
                  try go_wp2_with fail
                  go_roundw
                  case rel => exact ⟨m + 1, _, by omega, by go_num, by rw [alK_next, HAK.out]; exact HS5, HB5⟩
                  case measure => first | (simp [intOf]; done) | (simp [intOf]; omega)
            | succ k =>
              have hkk : ((k + 1 : Nat) : Int) - 1 = (k : Int) := by omega
              have HNX := Lib.hid (lfN_next 4 m (4 - (k + 1)))
              have HDG : Hid (dgN 4 m k = lfN 4 m (4 - (k + 1)) % 16) := Lib.hid (by unfold dgN; rw [show 4 - 1 - k = 4 - (k + 1) by omega])
              have HLF : Hid (4 - k = 4 - (k + 1) + 1) := Lib.hid (by omega)
              have hft := ft_next 4 m k (by omega)
              have HRW2 := Lib.hid (fun i => dgR_next 4 m k i)
              obtain ⟨L, hL⟩ : ∃ L, lfN 4 m (4 - (k + 1)) = L := ⟨_, rfl⟩
              rw [hL] at HNX HDG ⊢
              clear hL HR0
              have hk0 : (0 : Int) ≤ (k : Int) := by omega
              have hkn : (k : Int) < 4 := by omega
              have hcc := hr.out.cell k (by omega)
              have hff := hr.out.frozen k
              rw [hkk]
              clear hkk
              have hL0 : (0 : Int) ≤ (L : Int) := by omega
              cases hf1 : ftB 4 m (k + 1) with
              | false =>
                have HFT := Lib.hid (show ftB 4 m k = false by rw [hft, hf1]; rfl)
                clear hft hf1
                go_wp2_with fail
                try (refine ⟨fun _ h => (by cases h), ?_⟩; go_wp2_with fail)
                go_roundw
                case rel => exact ⟨k, by omega, by go_num, by rw [HLF.out, HNX.out]; first | rfl | omega | (congr 1; done) | (congr 1; omega), by rw [HFT.out], Lib.hid ((hr.out.set k _).less (Nat.le_refl _) (fun i hi => by rw [HRW2.out i, HDG.out]; rfl)), Lib.hid (ho.out.setCell k _)⟩
                case measure => first | (simp [intOf]; done) | (simp [intOf]; omega)
              | true =>
                cases hh : hasB (dgN 4 m k : Int) k with
                | false =>
                  have HFT := Lib.hid (show ftB 4 m k = false by rw [hft, hf1, hh]; rfl)
                  have HH := Lib.hid (show hasB ((L : Int) % 16) k = false by rw [HDG.out] at hh; rw [← hh]; congr 1)
                  clear hft hf1 hh
                  go_wp2_with fail
                  refine (l1Has_val _ k false _ HH.out (by omega) (by omega)).mono ?_
                  rintro e w9 ⟨rfl, rfl⟩
                  go_wp2_with fail
                  go_roundw
                  case rel => exact ⟨k, by omega, by go_num, by rw [HLF.out, HNX.out]; first | rfl | omega | (congr 1; done) | (congr 1; omega), by rw [HFT.out], Lib.hid ((hr.out.set k _).less (Nat.le_refl _) (fun i hi => by rw [HRW2.out i, HDG.out]; rfl)), Lib.hid (ho.out.setCell k _)⟩
                  case measure => first | (simp [intOf]; done) | (simp [intOf]; omega)
                | true =>
                  have HFT := Lib.hid (show ftB 4 m k = true by rw [hft, hf1, hh]; rfl)
                  have HH := Lib.hid (show hasB ((L : Int) % 16) k = true by rw [HDG.out] at hh; rw [← hh]; congr 1)
                  clear hft hf1 hh
                  go_wp2_with fail
                  refine (l1Has_val _ k true _ HH.out (by omega) (by omega)).mono ?_
                  rintro e w9 ⟨rfl, rfl⟩
                  go_wp2_with fail
                  go_roundw
                  case rel => exact ⟨k, by omega, by go_num, by rw [HLF.out, HNX.out]; first | rfl | omega | (congr 1; done) | (congr 1; omega), by rw [HFT.out], Lib.hid ((hr.out.set k _).less (Nat.le_refl _) (fun i hi => by rw [HRW2.out i, HDG.out]; rfl)), Lib.hid (ho.out.setCell k _)⟩
                  case measure => first | (simp [intOf]; done) | (simp [intOf]; omega)
        · have hmi : ¬ (m : Int) < 65536 := by omega
          have hme : m = 65536 := by omega
          subst hme
          go_wp2_with fail
          go_ret
          exact ⟨_, rs, rfl, hsh.out, hb.out⟩
end Go.Proofs.Ytglnefffkcillaa
