import Derived.Test.YthbancphegnpdaaTxC
import Derived.Test.YthbancphegnpdaaTxD
import Derived.Test.YthbancphegnpdaaOwnX
namespace Go.Proofs.Ythbancphegnpdaa
set_option linter.unusedVariables false
set_option linter.unusedSimpArgs false
open Go.RowKit Go.Maps

/-- the words of deeds, in a block -/
def wordsO : Obj := .cells #[.string { data := #[112, 117, 116] }, .string { data := #[116, 97, 107, 101] }, .string { data := #[112, 111, 105, 110, 116, 115] }, .string { data := #[115, 117, 109, 115] }, .string { data := #[98, 97, 99, 107] }] 9
theorem deedWords_any (w : World) :
    Calls Try.prog 50 #[] w fun e w' => e = .returned (.slice (some ⟨w.heap.size, 0, none⟩) 5 5) ∧ w' = w.alloc wordsO := by
  go_enter Try.func50, Try.ntmps50
  go_wp2_with fail
  go_ret
  exact ⟨rfl, rfl⟩
/-- the words lie at B -/
def WordsAt (w : World) (B : Nat) : Prop := ∀ k, k < 5 → w.cell? ⟨B, k, none⟩ = some (.string (bs (wordL k)))
theorem words_new (w : World) : WordsAt (w.alloc wordsO) w.heap.size := by
  intro k hk
  have h : (w.alloc wordsO).heap[w.heap.size]? = some wordsO := heap_alloc_new w _
  have : k = 0 ∨ k = 1 ∨ k = 2 ∨ k = 3 ∨ k = 4 := by omega
  unfold World.cell?
  rw [h]
  rcases this with rfl | rfl | rfl | rfl | rfl <;> rfl
theorem word_size {k : Nat} (hk : k < 5) : (bs (wordL k)).size ≤ 6 := by
  have : k = 0 ∨ k = 1 ∨ k = 2 ∨ k = 3 ∨ k = 4 := by omega
  rcases this with rfl | rfl | rfl | rfl | rfl <;> decide

set_option maxRecDepth 100000 in
set_option maxHeartbeats 1600000 in
theorem DeedText_in (k : Nat) (hk : k < 5) (x : Int) (w : World) :
    Calls Try.prog 22 #[.agg #[.int .i64 (k : Int), .int .i64 x]] w fun e w' => e = .returned (.string (deedT (k : Int) x)) ∧ Below w.heap.size w w' := by
  have hbel := alloc_below w (.cells #[.int .i64 (k : Int), .int .i64 x] 31)
  have hblk := Blk2.new w 31 (.int .i64 (k : Int)) (.int .i64 x)
  obtain ⟨w1, hw1⟩ : ∃ w1, w.alloc (.cells #[.int .i64 (k : Int), .int .i64 x] 31) = w1 := ⟨_, rfl⟩
  have hsz : w1.heap.size = w.heap.size + 1 := by rw [← hw1]; exact alloc_size _ _
  have hbel2 : Below w.heap.size w (w1.alloc wordsO) := by
    have := alloc_below w1 wordsO
    rw [hw1] at hbel
    exact below_onto hbel this
  have hblk2 : Blk2 (w1.alloc wordsO) w.heap.size 31 (.int .i64 (k : Int)) (.int .i64 x) := by
    rw [hw1] at hblk
    exact hblk.kept (alloc_below w1 wordsO) (by omega)
  have hwd := words_new w1 k hk
  obtain ⟨w2, hw2⟩ : ∃ w2, w1.alloc wordsO = w2 := ⟨_, rfl⟩
  obtain ⟨Bw, hBw⟩ : ∃ Bw, w1.heap.size = Bw := ⟨_, rfl⟩
  have HW1 := Lib.hid hw1; have HW2 := Lib.hid hw2; have HBW := Lib.hid hBw
  rw [hw2] at hbel2 hblk2 hwd
  rw [hBw] at hwd
  obtain ⟨wd, hwdd⟩ : ∃ wd, bs (wordL k) = wd := ⟨_, rfl⟩
  have hws : wd.size ≤ 6 := by rw [← hwdd]; exact word_size hk
  rw [hwdd] at hwd
  have HWD := Lib.hid hwdd
  obtain ⟨hq0, hq1⟩ := hblk2.cell
  have HB := Lib.hid hbel2
  have HBL := Lib.hid hblk2
  have hk0 : (0 : Int) ≤ (k : Int) := by omega
  have hk5 : (k : Int) < 5 := by omega
  have hd1 : decide ((k : Int) < 0) = false := decide_eq_false (by omega)
  have hd2 : decide ((5 : Int) ≤ (k : Int)) = false := decide_eq_false (by omega)
  clear hbel hblk hsz hw1 hw2 hBw hwdd hbel2 hblk2
  by_cases hnm : k ≤ 1
  · obtain ⟨b0, hb0⟩ : ∃ b, ((k : Int) == 0) = b := ⟨_, rfl⟩
    have hor : ((k : Int) == 0) = true ∨ (((k : Int) == 0) = false ∧ ((k : Int) == 1) = true) := by
      have : k = 0 ∨ k = 1 := by omega
      rcases this with rfl | rfl
      · exact .inl rfl
      · exact .inr ⟨rfl, rfl⟩
    cases hx : okX x with
    | true =>
      have HX := Lib.hid hx
      have HE : Hid (wd ++ { data := #[32] } ++ setT x = deedT (k : Int) x) := Lib.hid (by
        have hd : dOk (k : Int) x = true := dOk_iff.2 (.inl ⟨by omega, by omega, okX_iff.1 hx⟩)
        unfold deedT deedL setT
        rw [if_pos hd, if_pos (by omega), ← HWD.out, Int.toNat_natCast]
        rw [show ({ data := #[32] } : ByteArray) = bs [32] from rfl, bs_app, bs_app, List.append_assoc]; rfl)
      have hss : (setT x).size ≤ 4 := setL_len x
      obtain ⟨st, hst⟩ : ∃ st, setT x = st := ⟨_, rfl⟩
      rw [hst] at hss
      rw [hst] at HE
      have HST := Lib.hid hst
      clear hx hst hnm hb0
      rcases hor with hb | ⟨hb, hb1⟩
      all_goals
        go_enter Try.func22, Try.ntmps22
        go_wp2_with fail
        rw [HW1.out]
        refine (deedWords_any _).mono ?_
        rintro e w3 ⟨rfl, rfl⟩
        rw [HW2.out, HBW.out]
        go_wp2_with fail
        go_quiet (fail)
        go_wp2_with fail
        refine (pointsOk_val _ true HX.out _).mono ?_
        rintro e w4 ⟨rfl, rfl⟩
        go_wp2_with fail
        refine (SetText_any _ _).mono ?_
        rintro e w5 ⟨rfl, hb5⟩
        rw [HST.out]
        have HB5 := Lib.hid (below_onto (below_drewN HB.out _) hb5)
        clear hb5
        go_wp2_with fail
        go_ret
        exact ⟨rets HE.out, HB5.out⟩
    | false =>
      have HX := Lib.hid hx
      have HE : Hid (({ data := #[] } : ByteArray) = deedT (k : Int) x) := Lib.hid (by
        have hd : dOk (k : Int) x = false := by
          cases h : dOk (k : Int) x with
          | false => rfl
          | true =>
            have h1 := okX_no.1 hx
            have h2 := dOk_iff.1 h
            omega
        unfold deedT
        rw [deedL_no hd]; rfl)
      clear hx hnm hb0
      rcases hor with hb | ⟨hb, hb1⟩
      all_goals
        go_enter Try.func22, Try.ntmps22
        go_wp2_with fail
        rw [HW1.out]
        refine (deedWords_any _).mono ?_
        rintro e w3 ⟨rfl, rfl⟩
        rw [HW2.out, HBW.out]
        go_wp2_with fail
        go_quiet (fail)
        go_wp2_with fail
        refine (pointsOk_val _ false HX.out _).mono ?_
        rintro e w4 ⟨rfl, rfl⟩
        go_wp2_with fail
        go_ret
        exact ⟨rets HE.out, below_drewN HB.out _⟩
  · have hb0 : ((k : Int) == 0) = false := by simp; omega
    have hb1 : ((k : Int) == 1) = false := by simp; omega
    by_cases hx : x = 0
    · have hbx : (x == 0) = true := by simpa using hx
      have HE : Hid (wd = deedT (k : Int) x) := Lib.hid (by
        have hd : dOk (k : Int) x = true := dOk_iff.2 (.inr ⟨by omega, by omega, hx⟩)
        unfold deedT deedL
        rw [if_pos hd, if_neg (by omega), ← HWD.out, Int.toNat_natCast])
      clear hx hnm
      go_enter Try.func22, Try.ntmps22
      go_wp2_with fail
      rw [HW1.out]
      refine (deedWords_any _).mono ?_
      rintro e w3 ⟨rfl, rfl⟩
      rw [HW2.out, HBW.out]
      go_wp2_with fail
      go_quiet (fail)
      go_wp2_with fail
      go_ret
      exact ⟨rets HE.out, below_drewN HB.out _⟩
    · have hbx : (x == 0) = false := by simpa using hx
      have HE : Hid (({ data := #[] } : ByteArray) = deedT (k : Int) x) := Lib.hid (by
        have hd : dOk (k : Int) x = false := by
          cases h : dOk (k : Int) x with
          | false => rfl
          | true => have h2 := dOk_iff.1 h; omega
        unfold deedT
        rw [deedL_no hd]; rfl)
      clear hx hnm
      go_enter Try.func22, Try.ntmps22
      go_wp2_with fail
      rw [HW1.out]
      refine (deedWords_any _).mono ?_
      rintro e w3 ⟨rfl, rfl⟩
      rw [HW2.out, HBW.out]
      go_wp2_with fail
      go_quiet (fail)
      go_wp2_with fail
      go_ret
      exact ⟨rets HE.out, below_drewN HB.out _⟩

set_option maxRecDepth 100000 in
set_option maxHeartbeats 1600000 in
theorem DeedText_any (k x : Int) (w : World) :
    Calls Try.prog 22 #[.agg #[.int .i64 k, .int .i64 x]] w fun e w' => e = .returned (.string (deedT k x)) ∧ Below w.heap.size w w' := by
  by_cases hk : 0 ≤ k ∧ k < 5
  · obtain ⟨n, rfl⟩ := Int.eq_ofNat_of_zero_le hk.1
    exact DeedText_in n (by omega) x w
  · have HE : Hid (({ data := #[] } : ByteArray) = deedT k x) := Lib.hid (by
      have hd : dOk k x = false := by
        cases h : dOk k x with
        | false => rfl
        | true => have h2 := dOk_iff.1 h; omega
      unfold deedT
      rw [deedL_no hd]; rfl)
    have hbel := alloc_below w (.cells #[.int .i64 k, .int .i64 x] 31)
    have hblk := Blk2.new w 31 (.int .i64 k) (.int .i64 x)
    obtain ⟨w1, hw1⟩ : ∃ w1, w.alloc (.cells #[.int .i64 k, .int .i64 x] 31) = w1 := ⟨_, rfl⟩
    have hsz : w1.heap.size = w.heap.size + 1 := by rw [← hw1]; exact alloc_size _ _
    rw [hw1] at hbel hblk
    have hbel2 := below_onto hbel (alloc_below w1 wordsO)
    have hblk2 := hblk.kept (alloc_below w1 wordsO) (show w.heap.size < w1.heap.size by omega)
    obtain ⟨w2, hw2⟩ : ∃ w2, w1.alloc wordsO = w2 := ⟨_, rfl⟩
    have HW1 := Lib.hid hw1; have HW2 := Lib.hid hw2
    rw [hw2] at hbel2 hblk2
    obtain ⟨hq0, hq1⟩ := hblk2.cell
    have HB := Lib.hid hbel2
    clear hbel hblk hsz hw1 hw2 hbel2 hblk2
    by_cases h0 : k < 0
    · have hd1 : decide (k < 0) = true := decide_eq_true h0
      clear h0 hk
      go_enter Try.func22, Try.ntmps22
      go_wp2_with fail
      rw [HW1.out]
      refine (deedWords_any _).mono ?_
      rintro e w3 ⟨rfl, rfl⟩
      rw [HW2.out]
      go_wp2_with fail
      go_ret
      exact ⟨rets HE.out, HB.out⟩
    · have hd1 : decide (k < 0) = false := decide_eq_false h0
      have hd2 : decide ((5 : Int) ≤ k) = true := decide_eq_true (by omega)
      clear h0 hk
      go_enter Try.func22, Try.ntmps22
      go_wp2_with fail
      rw [HW1.out]
      refine (deedWords_any _).mono ?_
      rintro e w3 ⟨rfl, rfl⟩
      rw [HW2.out]
      go_wp2_with fail
      go_ret
      exact ⟨rets HE.out, HB.out⟩
end Go.Proofs.Ythbancphegnpdaa
