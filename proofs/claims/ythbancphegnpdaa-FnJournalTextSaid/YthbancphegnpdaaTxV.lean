import Derived.Test.YthbancphegnpdaaTxU
namespace Go.Proofs.Ythbancphegnpdaa
set_option linter.unusedVariables false
set_option linter.unusedSimpArgs false
open Go.RowKit Go.Maps

theorem sameT (t : ByteArray) : (t.toList == t.toList) = true := by simp

set_option maxRecDepth 100000 in
set_option maxHeartbeats 1600000 in
theorem exactSetText (x : Int) (w : World) :
    Calls Try.prog 8 #[.int .i64 x] w fun e w' => e = .returned (.bool true) ∧ Below w.heap.size w w' := by
  have hb := sameT (setT x)
  go_enter Try.func8, Try.ntmps8
  go_wp2_with fail
  refine (specSetText_any _ _).mono ?_
  rintro e w2 ⟨rfl, rfl⟩
  go_wp2_with fail
  refine (SetText_any _ _).mono ?_
  rintro e w2 ⟨rfl, hb2⟩
  have HB := Lib.hid hb2
  clear hb2
  go_wp2_with fail
  go_ret
  exact ⟨rfl, HB.out⟩

set_option maxRecDepth 100000 in
set_option maxHeartbeats 1600000 in
theorem exactReadSet (s : ByteArray) (hs : s.size ≤ 9223372036854775807) (w : World) :
    Calls Try.prog 9 #[.string s] w fun e w' => e = .returned (.bool true) ∧ Below w.heap.size w w' := by
  by_cases hl : 1048576 < s.size
  · have hd : decide ((1048576 : Int) < (s.size : Int)) = true := decide_eq_true (by omega)
    clear hl
    go_enter Try.func9, Try.ntmps9
    go_wp2_with fail
    go_ret
    exact ⟨rfl, Below.refl _ _⟩
  · have hd : decide ((1048576 : Int) < (s.size : Int)) = false := decide_eq_false (by omega)
    obtain ⟨x, hx⟩ : ∃ x, rdI s.data.toList = x := ⟨_, rfl⟩
    obtain ⟨b, hb⟩ : ∃ x, rdB s.data.toList = x := ⟨_, rfl⟩
    have HX := Lib.hid hx; have HBB := Lib.hid hb
    have hx1 : (x != x) = false := by simp
    clear hl hx hb
    cases b
    all_goals
      go_enter Try.func9, Try.ntmps9
      go_wp2_with fail
      refine (specReadSet_any _ _).mono ?_
      rintro e w2 ⟨rfl, rfl⟩
      rw [HX.out, HBB.out]
      go_wp2_with fail
      refine (ReadSet_any _ _).mono ?_
      rintro e w2 ⟨rfl, hb2⟩
      rw [HX.out, HBB.out]
      have HB := Lib.hid hb2
      clear hb2
      go_wp2_with fail
      go_ret
      exact ⟨rfl, HB.out⟩

set_option maxRecDepth 100000 in
set_option maxHeartbeats 1600000 in
theorem exactDeedText (k x : Int) (w : World) :
    Calls Try.prog 10 #[.agg #[.int .i64 k, .int .i64 x]] w fun e w' => e = .returned (.bool true) ∧ Below w.heap.size w w' := by
  have hb := sameT (deedT k x)
  have hbel := alloc_below w (.cells #[.int .i64 k, .int .i64 x] 44)
  have hblk := Blk2.new w 44 (.int .i64 k) (.int .i64 x)
  obtain ⟨w1, hw1⟩ : ∃ w1, w.alloc (.cells #[.int .i64 k, .int .i64 x] 44) = w1 := ⟨_, rfl⟩
  have HW1 := Lib.hid hw1
  rw [hw1] at hbel hblk
  have HB := Lib.hid hbel; have HBL := Lib.hid hblk
  obtain ⟨hq0, hq1⟩ := hblk.cell
  clear hbel hblk
  go_enter Try.func10, Try.ntmps10
  go_wp2_with fail
  refine (toDeed_any _ _ _).mono ?_
  rintro e w2 ⟨rfl, hb2⟩
  have HB2 := Lib.hid (below_onto HB.out hb2)
  replace HBL := Lib.hid (HBL.out.kept hb2 HBL.out.lt)
  clear hb2 hq0 hq1 hw1
  go_wp2_with fail
  refine (specDeedText_any _ _ _).mono ?_
  rintro e w3 ⟨rfl, hb3⟩
  have HB3 := Lib.hid (below_onto HB2.out hb3)
  replace HBL := Lib.hid (HBL.out.kept hb3 HBL.out.lt)
  obtain ⟨hq0, hq1⟩ := HBL.out.cell
  clear hb3
  go_wp2_with fail
  refine (toDeed_any _ _ _).mono ?_
  rintro e w4 ⟨rfl, hb4⟩
  have HB4 := Lib.hid (below_onto HB3.out hb4)
  clear hb4 hq0 hq1
  go_wp2_with fail
  refine (DeedText_any _ _ _).mono ?_
  rintro e w5 ⟨rfl, hb5⟩
  have HB5 := Lib.hid (below_onto HB4.out hb5)
  clear hb5
  go_wp2_with fail
  go_ret
  exact ⟨rfl, HB5.out⟩

set_option maxRecDepth 100000 in
set_option maxHeartbeats 1600000 in
theorem exactReadDeed (s : ByteArray) (hs : s.size ≤ 9223372036854775807) (w : World) :
    Calls Try.prog 11 #[.string s] w fun e w' => e = .returned (.bool true) ∧ Below w.heap.size w w' := by
  by_cases hl : 1048576 < s.size
  · have hd : decide ((1048576 : Int) < (s.size : Int)) = true := decide_eq_true (by omega)
    clear hl
    go_enter Try.func11, Try.ntmps11
    go_wp2_with fail
    go_ret
    exact ⟨rfl, Below.refl _ _⟩
  · have hd : decide ((1048576 : Int) < (s.size : Int)) = false := decide_eq_false (by omega)
    have HS := Lib.hid (show s.size ≤ 1048600 by omega)
    obtain ⟨k, hk⟩ : ∃ x, rdK s.data.toList = x := ⟨_, rfl⟩
    obtain ⟨x, hx⟩ : ∃ x, rdY s.data.toList = x := ⟨_, rfl⟩
    obtain ⟨b, hb⟩ : ∃ x, rdDB s.data.toList = x := ⟨_, rfl⟩
    have HK := Lib.hid hk; have HX := Lib.hid hx; have HBB := Lib.hid hb
    clear hl hk hx hb
    cases b
    all_goals
      go_enter Try.func11, Try.ntmps11
      go_wp2_with fail
      refine (specReadDeed_any _ HS.out _).mono ?_
      rintro e w2 ⟨rfl, hb2⟩
      rw [HK.out, HX.out, HBB.out]
      have hbel3 := alloc_below w2 (.cells #[.int .i64 k, .int .i64 x] 31)
      have HB3 := Lib.hid (below_onto hb2 hbel3)
      have hblk3 := Blk2.new w2 31 (.int .i64 k) (.int .i64 x)
      obtain ⟨w3, hw3⟩ : ∃ w3, w2.alloc (.cells #[.int .i64 k, .int .i64 x] 31) = w3 := ⟨_, rfl⟩
      obtain ⟨A3, hA3⟩ : ∃ A3, w2.heap.size = A3 := ⟨_, rfl⟩
      rw [hw3] at HB3 hblk3
      rw [hA3] at hblk3
      have HBL3 := Lib.hid hblk3
      clear hb2 hbel3 hblk3
      go_wp2_with fail
      clear hw3 hA3
      refine (ReadDeed_any _ (by have := HS.out; omega) _).mono ?_
      rintro e w4 ⟨rfl, hb4⟩
      rw [HK.out, HX.out, HBB.out]
      have hbel5 := alloc_below w4 (.cells #[.int .i64 k, .int .i64 x] 31)
      have HB5 := Lib.hid (below_onto (below_onto HB3.out hb4) hbel5)
      have HBL4 := Lib.hid (HBL3.out.kept hb4 HBL3.out.lt)
      have HBL5 := Lib.hid (HBL4.out.kept hbel5 HBL4.out.lt)
      have hblk5 := Blk2.new w4 31 (.int .i64 k) (.int .i64 x)
      obtain ⟨w5, hw5⟩ : ∃ w5, w4.alloc (.cells #[.int .i64 k, .int .i64 x] 31) = w5 := ⟨_, rfl⟩
      obtain ⟨A5, hA5⟩ : ∃ A5, w4.heap.size = A5 := ⟨_, rfl⟩
      rw [hw5] at HB5 HBL5 hblk5
      rw [hA5] at hblk5
      obtain ⟨hq0, hq1⟩ := HBL5.out.cell
      obtain ⟨hq2, hq3⟩ := hblk5.cell
      clear hb4 hbel5 hblk5
      go_wp2_with fail
      refine (eqDeed_same _ _ _).mono ?_
      rintro e w6 ⟨rfl, hb6⟩
      have HB6 := Lib.hid (below_onto HB5.out hb6)
      clear hb6 hq0 hq1 hq2 hq3 hw5 hA5
      go_wp2_with fail
      go_ret
      exact ⟨rfl, HB6.out⟩
end Go.Proofs.Ythbancphegnpdaa
