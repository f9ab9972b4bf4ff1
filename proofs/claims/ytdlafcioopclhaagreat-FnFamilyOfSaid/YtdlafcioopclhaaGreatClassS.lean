import Derived.Test.YtdlafcioopclhaaGreatClassN
namespace Go.Proofs.YtdlafcioopclhaaGreat
open Go.RowKit Go.Maps

set_option maxRecDepth 100000 in
set_option maxHeartbeats 3200000 in
theorem specClassicalOf_in (k N : Nat) (hF : Full k N) (w : World) :
    Calls Tryz.prog 32 #[.int .i64 k] w (Gives 3 (rowL (clsF N) N) w) := by
  obtain ⟨i0, hi, hz0, hz1, hz2⟩ := info_parts Tryz.infoInt
  obtain ⟨hpw, hk1, hk3, hN1, hN7⟩ := hF.pow
  have HIN := Lib.hid (inB_true (l := 1) (x := (k : Int)) (h := 3) (by omega) (by omega))
  have hp1 : (1 : Int) ≤ 2 ^ k := by omega
  have hp2 : (2 : Int) ^ k ≤ 8 := by omega
  have HPW := Lib.hid hpw
  have hst : OwnX (w.alloc (.cells #[] 3)) w.heap.size 3 (.slice (some ⟨w.heap.size, 0, none⟩) 0 0) (rowL (clsF N) 0) := OwnX.made w _ (Nat.le_refl _) _
  have hsb := alloc_below w (.cells #[] 3)
  clear hF hpw
  go_enter Tryz.func32, Tryz.ntmps32
  go_wp2_with fail
  go_loopw [3, 4] (fun v i wr => ∃ a : Nat, a ≤ N ∧ i = .int .i64 ((a : Int) + 1) ∧ OwnX wr w.heap.size 3 v (rowL (clsF N) a) ∧ Below w.heap.size w wr) (fun _ i _ => N + 1 - (intOf i).toNat)
  case atStart => exact ⟨0, Nat.zero_le _, rfl, hst, hsb⟩
  case round =>
    clear hst hsb
    obtain ⟨a, ha, rfl, hown, hbel⟩ := hrel
    obtain ⟨a9, c9, rfl⟩ := hown.slice
    have HOW := Lib.hid hown; have HB := Lib.hid hbel; clear hown hbel
    by_cases hlt : a < N
    · have hai : (a : Int) + 1 < 2 ^ k := by have := HPW.out; omega
      go_wp2_with fail
      refine (l1In_val _ _ _ true _ HIN.out).mono ?_
      rintro e w' ⟨rfl, rfl⟩
      go_wp2_with fail
      obtain ⟨wo, rfl⟩ : ∃ wo : World, wo = wr := ⟨_, rfl⟩
      go_loopw [5, 6] (fun v i wr => ∃ b : Nat, b ≤ N ∧ i = .int .i64 ((b : Int) + 1) ∧ v = .int .i64 (setOf (fun b => withinB ((b : Int) + 1) ((a : Int) + 1)) b) ∧ wo = wr) (fun _ i _ => N + 1 - (intOf i).toNat)
      case atStart => exact ⟨0, Nat.zero_le _, rfl, rfl, rfl⟩
      case round =>
        obtain ⟨b, hb, rfl, rfl, rfl⟩ := hrel
        by_cases hbn : b < N
        · have hbi : (b : Int) + 1 < 2 ^ k := by have := HPW.out; omega
          have ⟨hq1, hq2⟩ := pow_bounds b (by omega)
          have hew := or_eq_within ((a : Int) + 1) ((b : Int) + 1) (by unfold I64; omega)
          cases hg : withinB ((b : Int) + 1) ((a : Int) + 1) with
          | true =>
            have HS := Lib.hid (setOf_yes (fun b => withinB ((b : Int) + 1) ((a : Int) + 1)) b hg)
            rw [hg] at hew; clear hg
            go_wp2_with fail
            go_roundw
            case rel => exact ⟨b + 1, by omega, by go_num, by rw [HS.out], by first | rfl | trivial⟩
            case measure => simp [intOf]; omega
          | false =>
            have HS := Lib.hid (setOf_no (fun b => withinB ((b : Int) + 1) ((a : Int) + 1)) b hg)
            rw [hg] at hew; clear hg
            go_wp2_with fail
            go_roundw
            case rel => exact ⟨b + 1, by omega, by go_num, by rw [HS.out], by first | rfl | trivial⟩
            case measure => simp [intOf]; omega
        · have hbe : b = N := by omega
          subst hbe
          have hbi : ¬ ((b : Int) + 1 < 2 ^ k) := by have := HPW.out; omega
          have HS := Lib.hid (rowL_succ (clsF b) a)
          have HL := Lib.hid (show (rowL (clsF b) a).length ≤ 1000 by rw [rowL_len]; omega)
          have HSZ := Lib.hid HB.out.size
          have HO : Hid (wo.ownsRow w.heap.size 3 1 (.slice a9 (rowL (clsF b) a).length c9) (rowL (clsF b) a).length ((rowL (clsF b) a).map (Value.int .i64))) := Lib.hid HOW.out
          have k1 := Lib.hid (fun (j : Nat) (u : Value) (h : [Value.int .i64 (setOf (fun b => withinB ((b : Int) + 1) ((a : Int) + 1)) b)][j]? = some u) => cell_one_new wo (.int .i64 (setOf (fun b => withinB ((b : Int) + 1) ((a : Int) + 1)) b)) 3 j u h)
          have k2 : Hid (∀ u ∈ [Value.int .i64 (setOf (fun b => withinB ((b : Int) + 1) ((a : Int) + 1)) b)], u.oneCell' = true) := Lib.hid (by intro u hu; simp at hu; subst hu; rfl)
          have k3 : Hid ((rowL (clsF b) a).length + 1 ≤ maxLen) := Lib.hid (by have := HL.out; unfold maxLen; omega)
          have k4 : Hid (((rowL (clsF b) a).length + 1) * 8 ≤ 140737488355328) := Lib.hid (by have := HL.out; omega)
          have k5 : Hid (w.heap.size ≤ (wo.alloc (.cells #[.int .i64 (setOf (fun b => withinB ((b : Int) + 1) ((a : Int) + 1)) b)] 3)).heap.size) := Lib.hid (by rw [alloc_size]; have := HSZ.out; omega)
          go_wp2_with (at_builtin; refine wpList_append_own _ rfl (.tmp 34) (.tmp 36) 23 rfl w.heap.size 3 i0 (.int .i64 0) 1 8 Tryz.underlying23 hi hz0 hz1 hz2 rfl (by decide) _ _ _ rfl (HO.out.alloc _) ⟨wo.heap.size, 0, none⟩ 1 1 [.int .i64 (setOf (fun b => withinB ((b : Int) + 1) ((a : Int) + 1)) b)] rfl rfl k1.out k2.out k3.out k4.out k5.out ?_)
          intro v' w5 hown' hgrow _
          have hg5 : Below w.heap.size wo w5 := ((Below.refl w.heap.size wo).alloc HSZ.out _).grown hgrow (by have := HSZ.out; rw [alloc_size]; omega) (fun q hq => (HO.out.lt q hq).1)
          have ho5 := OwnX.snoc hown'
          clear hown' hgrow k1 k2 k3 k4 k5
          have HO5 := Lib.hid ho5; have HG5 := Lib.hid hg5; clear ho5 hg5
          go_wp2_with fail
          go_roundw
          case rel => exact ⟨a + 1, by omega, by go_num, by rw [HS.out]; exact HO5.out, HB.out.trans HG5.out⟩
          case measure => simp [intOf]; omega
    · have hae : a = N := by omega
      subst hae
      have hai : ¬ ((a : Int) + 1 < 2 ^ k) := by have := HPW.out; omega
      go_wp2_with fail
      refine (l1In_val _ _ _ true _ HIN.out).mono ?_
      rintro e w' ⟨rfl, rfl⟩
      go_wp2_with fail
      go_ret
      exact ⟨_, rfl, HOW.out, HB.out⟩

set_option maxRecDepth 100000 in
set_option maxHeartbeats 1600000 in
theorem specClassicalOf_any (x : Int) (w : World) : Calls Tryz.prog 32 #[.int .i64 x] w (Gives 3 (clsL x) w) := by
  by_cases h : 1 ≤ x ∧ x ≤ 3
  · obtain ⟨k, N, rfl, hF⟩ := full_of h
    rw [hF.list]
    exact specClassicalOf_in k N hF w
  · rw [clsL_no h]
    have HIN := Lib.hid (inB_false (l := 1) (x := x) (h := 3) h)
    have hn : OwnX (w.alloc (.cells #[] 3)) w.heap.size 3 (.slice (some ⟨w.heap.size, 0, none⟩) 0 0) [] := OwnX.made w _ (Nat.le_refl _) _
    have HN := Lib.hid hn; clear hn h
    have hsb := alloc_below w (.cells #[] 3)
    go_enter Tryz.func32, Tryz.ntmps32
    go_wp2_with fail
    go_loopw [3, 4] (fun v i wr => i = .int .i64 1 ∧ v = .slice (some ⟨w.heap.size, 0, none⟩) 0 0 ∧ wr = w.alloc (.cells #[] 3)) (fun _ _ _ => 0)
    case atStart => exact ⟨rfl, rfl, rfl⟩
    case round =>
      obtain ⟨rfl, rfl, rfl⟩ := hrel
      go_wp2_with fail
      refine (l1In_val _ _ _ false _ HIN.out).mono ?_
      rintro e w' ⟨rfl, rfl⟩
      go_wp2_with fail
      go_ret
      exact ⟨_, rfl, HN.out, hsb⟩

theorem specAtomsOf_at (a : Option Addr) (n cap : Nat) (f : Nat → Int) (w : World) (hw : worldB n f = true) (hi : Ints w a n f) :
    Calls Tryz.prog 25 #[.slice a n cap] w fun e w' => e = .returned (.int .i64 (atomsI n f)) ∧ Drew w w' := by
  have := specAtomsOf_any a n cap f w hi
  rwa [show atomsB n f = atomsI n f by unfold atomsB; rw [if_pos hw]] at this

end Go.Proofs.YtdlafcioopclhaaGreat
