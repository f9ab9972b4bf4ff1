import Derived.Test.YtamiidgpglepcaaClassN
namespace Go.Proofs.Ytamiidgpglepcaa
open Go.RowKit Go.Maps

set_option maxRecDepth 100000 in
set_option maxHeartbeats 3200000 in
theorem specClassicalOf_in (k N : Nat) (hF : Full k N) (w : World) :
    Calls Try.prog 15 #[.int .i64 k] w (Gives 3 (rowL (clsF N) N) w) := by
  obtain ⟨i0, hi, hz0, hz1, hz2⟩ := info_parts Try.infoInt
  obtain ⟨hpw, hk1, hk3, hN1, hN7⟩ := hF.pow
  have HIN := Lib.hid (inB_true (l := 1) (x := (k : Int)) (h := 3) (by omega) (by omega))
  have hp1 : (1 : Int) ≤ 2 ^ k := by omega
  have hp2 : (2 : Int) ^ k ≤ 8 := by omega
  have HPW := Lib.hid hpw
  have hst : OwnX (w.alloc (.cells #[] 3)) w.heap.size 3 (.slice (some ⟨w.heap.size, 0, none⟩) 0 0) (rowL (clsF N) 0) := OwnX.made w _ (Nat.le_refl _) _
  have hsb := alloc_below w (.cells #[] 3)
  clear hF hpw
  go_enter Try.func15, Try.ntmps15
  go_wp2_with fail
  go_loopw [3, 4] (fun v i wr => ∃ a : Nat, a ≤ N ∧ i = .int .i64 ((a : Int) + 1) ∧ OwnX wr w.heap.size 3 v (rowL (clsF N) a) ∧ Below w.heap.size w wr) (fun _ i _ => N + 1 - (intOf i).toNat)
  case atStart => exact ⟨0, Nat.zero_le _, rfl, hst, hsb⟩
  case round =>
    clear hst hsb
    obtain ⟨a, ha, rfl, hown, hbel⟩ := hrel
    obtain ⟨a9, c9, rfl⟩ := hown.slice
    have HOW := Lib.hid hown; have HB := Lib.hid hbel; clear hown hbel
    by_cases hlt : a < N
    · have hai : (a : Int) + 1 < 2 ^ k := by have := HPW.out; omega
      go_wp2_with fail
      refine (l1In_val _ _ _ true _ HIN.out).mono ?_
      rintro e w' ⟨rfl, rfl⟩
      go_wp2_with fail
      obtain ⟨wo, rfl⟩ : ∃ wo : World, wo = wr := ⟨_, rfl⟩
      go_loopw [5, 6] (fun v i wr => ∃ b : Nat, b ≤ N ∧ i = .int .i64 ((b : Int) + 1) ∧ v = .int .i64 (setOf (fun b => withinB ((b : Int) + 1) ((a : Int) + 1)) b) ∧ wo = wr) (fun _ i _ => N + 1 - (intOf i).toNat)
      case atStart => exact ⟨0, Nat.zero_le _, rfl, rfl, rfl⟩
      case round =>
        obtain ⟨b, hb, rfl, rfl, rfl⟩ := hrel
        by_cases hbn : b < N
        · have hbi : (b : Int) + 1 < 2 ^ k := by have := HPW.out; omega
          have ⟨hq1, hq2⟩ := pow_bounds b (by omega)
          have hew := or_eq_within ((a : Int) + 1) ((b : Int) + 1) (by unfold I64; omega)
          cases hg : withinB ((b : Int) + 1) ((a : Int) + 1) with
          | true =>
            have HS := Lib.hid (setOf_yes (fun b => withinB ((b : Int) + 1) ((a : Int) + 1)) b hg)
            rw [hg] at hew; clear hg
            go_wp2_with fail
            go_roundw
            case rel => exact ⟨b + 1, by omega, by go_num, by rw [HS.out], by first | rfl | trivial⟩
            case measure => simp [intOf]; omega
          | false =>
            have HS := Lib.hid (setOf_no (fun b => withinB ((b : Int) + 1) ((a : Int) + 1)) b hg)
            rw [hg] at hew; clear hg
            go_wp2_with fail
            go_roundw
            case rel => exact ⟨b + 1, by omega, by go_num, by rw [HS.out], by first | rfl | trivial⟩
            case measure => simp [intOf]; omega
        · have hbe : b = N := by omega
          subst hbe
          have hbi : ¬ ((b : Int) + 1 < 2 ^ k) := by have := HPW.out; omega
          have HS := Lib.hid (rowL_succ (clsF b) a)
          have HL := Lib.hid (show (rowL (clsF b) a).length ≤ 1000 by rw [rowL_len]; omega)
          have HSZ := Lib.hid HB.out.size
          have HO : Hid (wo.ownsRow w.heap.size 3 1 (.slice a9 (rowL (clsF b) a).length c9) (rowL (clsF b) a).length ((rowL (clsF b) a).map (Value.int .i64))) := Lib.hid HOW.out
          have k1 := Lib.hid (fun (j : Nat) (u : Value) (h : [Value.int .i64 (setOf (fun b => withinB ((b : Int) + 1) ((a : Int) + 1)) b)][j]? = some u) => cell_one_new wo (.int .i64 (setOf (fun b => withinB ((b : Int) + 1) ((a : Int) + 1)) b)) 3 j u h)
          have k2 : Hid (∀ u ∈ [Value.int .i64 (setOf (fun b => withinB ((b : Int) + 1) ((a : Int) + 1)) b)], u.oneCell' = true) := Lib.hid (by intro u hu; simp at hu; subst hu; rfl)
          have k3 : Hid ((rowL (clsF b) a).length + 1 ≤ maxLen) := Lib.hid (by have := HL.out; unfold maxLen; omega)
          have k4 : Hid (((rowL (clsF b) a).length + 1) * 8 ≤ 140737488355328) := Lib.hid (by have := HL.out; omega)
          have k5 : Hid (w.heap.size ≤ (wo.alloc (.cells #[.int .i64 (setOf (fun b => withinB ((b : Int) + 1) ((a : Int) + 1)) b)] 3)).heap.size) := Lib.hid (by rw [alloc_size]; have := HSZ.out; omega)
          go_wp2_with (at_builtin; refine wpList_append_own _ rfl (.tmp 34) (.tmp 36) 23 rfl w.heap.size 3 i0 (.int .i64 0) 1 8 Try.underlying23 hi hz0 hz1 hz2 rfl (by decide) _ _ _ rfl (HO.out.alloc _) ⟨wo.heap.size, 0, none⟩ 1 1 [.int .i64 (setOf (fun b => withinB ((b : Int) + 1) ((a : Int) + 1)) b)] rfl rfl k1.out k2.out k3.out k4.out k5.out ?_)
          intro v' w5 hown' hgrow _
          have hg5 : Below w.heap.size wo w5 := ((Below.refl w.heap.size wo).alloc HSZ.out _).grown hgrow (by have := HSZ.out; rw [alloc_size]; omega) (fun q hq => (HO.out.lt q hq).1)
          have ho5 := OwnX.snoc hown'
          clear hown' hgrow k1 k2 k3 k4 k5
          have HO5 := Lib.hid ho5; have HG5 := Lib.hid hg5; clear ho5 hg5
          go_wp2_with fail
          go_roundw
          case rel => exact ⟨a + 1, by omega, by go_num, by rw [HS.out]; exact HO5.out, HB.out.trans HG5.out⟩
          case measure => simp [intOf]; omega
    · have hae : a = N := by omega
      subst hae
      have hai : ¬ ((a : Int) + 1 < 2 ^ k) := by have := HPW.out; omega
      go_wp2_with fail
      refine (l1In_val _ _ _ true _ HIN.out).mono ?_
      rintro e w' ⟨rfl, rfl⟩
      go_wp2_with fail
      go_ret
      exact ⟨_, rfl, HOW.out, HB.out⟩

set_option maxRecDepth 100000 in
set_option maxHeartbeats 1600000 in
theorem specClassicalOf_any (x : Int) (w : World) : Calls Try.prog 15 #[.int .i64 x] w (Gives 3 (clsL x) w) := by
  by_cases h : 1 ≤ x ∧ x ≤ 3
  · obtain ⟨k, N, rfl, hF⟩ := full_of h
    rw [hF.list]
    exact specClassicalOf_in k N hF w
  · rw [clsL_no h]
    have HIN := Lib.hid (inB_false (l := 1) (x := x) (h := 3) h)
    have hn : OwnX (w.alloc (.cells #[] 3)) w.heap.size 3 (.slice (some ⟨w.heap.size, 0, none⟩) 0 0) [] := OwnX.made w _ (Nat.le_refl _) _
    have HN := Lib.hid hn; clear hn h
    have hsb := alloc_below w (.cells #[] 3)
    go_enter Try.func15, Try.ntmps15
    go_wp2_with fail
    go_loopw [3, 4] (fun v i wr => i = .int .i64 1 ∧ v = .slice (some ⟨w.heap.size, 0, none⟩) 0 0 ∧ wr = w.alloc (.cells #[] 3)) (fun _ _ _ => 0)
    case atStart => exact ⟨rfl, rfl, rfl⟩
    case round =>
      obtain ⟨rfl, rfl, rfl⟩ := hrel
      go_wp2_with fail
      refine (l1In_val _ _ _ false _ HIN.out).mono ?_
      rintro e w' ⟨rfl, rfl⟩
      go_wp2_with fail
      go_ret
      exact ⟨_, rfl, HN.out, hsb⟩

theorem specAtomsOf_at (a : Option Addr) (n cap : Nat) (f : Nat → Int) (w : World) (hw : worldB n f = true) (hi : Ints w a n f) :
    Calls Try.prog 14 #[.slice a n cap] w fun e w' => e = .returned (.int .i64 (atomsI n f)) ∧ Drew w w' := by
  have := specAtomsOf_any a n cap f w hi
  rwa [show atomsB n f = atomsI n f by unfold atomsB; rw [if_pos hw]] at this

set_option maxRecDepth 100000 in
set_option maxHeartbeats 3200000 in
theorem specNamesOf_in (a : Option Addr) (n cap : Nat) (f : Nat → Int) (w : World) (hi : Ints w a n f) (hc : classB n f = true) :
    Calls Try.prog 10 #[.slice a n cap] w (Gives 3 (rowL (nameI n f) n) w) := by
  obtain ⟨i0, hii, hz0, hz1, hz2⟩ := info_parts Try.infoInt
  have hnot : ∀ (x : Bool) (w : World), (Op.unary .not (.bool x)).run Try.prog w = .ok (.bool (!x)) w := fun _ _ => rfl
  have hw := class_world hc
  have hP := world_of hi hw
  have h7 := hP.hi
  have h1n := hP.lo
  obtain ⟨b, o, rfl, hbl, hrow⟩ := hi.row h1n
  have hA0 : 0 ≤ atomsI n f := (atomsI_rng n f h7).1
  have HNM := Lib.hid (fun k hk => name_lt hi.i64 hc (a := k) hk : ∀ k, k < n → _)
  have HRG := Lib.hid hP.rng
  have HI := Lib.hid hi; have HC := Lib.hid hc; have HW := Lib.hid hw; have HR := Lib.hid hrow
  have hst : OwnX (w.alloc (.cells #[] 3)) w.heap.size 3 (.slice (some ⟨w.heap.size, 0, none⟩) 0 0) (rowL (nameI n f) 0) := OwnX.made w _ (Nat.le_refl _) _
  have hsb := alloc_below w (.cells #[] 3)
  clear hi hc hw hP hrow
  go_enter Try.func10, Try.ntmps10
  go_wp2_with fail
  go_loopw [3, 4] (fun v i wr => ∃ k : Nat, k ≤ n ∧ i = .int .i64 k ∧ OwnX wr w.heap.size 3 v (rowL (nameI n f) k) ∧ Below w.heap.size w wr) (fun _ i _ => n - (intOf i).toNat)
  case atStart => exact ⟨0, Nat.zero_le _, rfl, hst, hsb⟩
  case round =>
    clear hst hsb
    obtain ⟨k, hk, rfl, hown, hbel⟩ := hrel
    obtain ⟨a9, c9, rfl⟩ := hown.slice
    have HOW := Lib.hid hown; have HB := Lib.hid hbel; clear hown hbel
    by_cases hlt : k < n
    · have hki : (k : Int) < (n : Int) := by omega
      go_wp2_with fail
      refine (specClassicalOk_val _ _ _ f true _ HC.out (HI.out.next HB.out)).mono ?_
      rintro e w1 ⟨rfl, hd1⟩
      have HB1 := Lib.hid (HB.out.trans (hd1.below.mono HB.out.size)); have HOW1 := Lib.hid (HOW.out.kept hd1.below)
      clear hd1
      go_wp2_with fail
      go_loopw [5, 6, 7] (fun v t i wr => ∃ j : Nat, j ≤ n ∧ i = .int .i64 j ∧ t = .int .i64 (atK (atomsI n f) j : Nat) ∧ v = .int .i64 (cmpK (atomsI n f) (f k) j) ∧ Drew w1 wr) (fun _ _ i _ => n - (intOf i).toNat)
      case atStart => exact ⟨0, Nat.zero_le _, rfl, rfl, rfl, Drew.refl _⟩
      case round =>
        obtain ⟨j, hj, rfl, rfl, rfl, hd⟩ := hrel
        have hbw : Below w.heap.size w wr := HB1.out.trans (hd.below.mono HB1.out.size)
        have hiw := HI.out.next hbw
        have hrw := HR.out.below hbw hbl
        by_cases hjn : j < n
        · have hji : (j : Int) < (n : Int) := by omega
          have hc : wr.cell? ⟨b, o + k, none⟩ = some (.int .i64 (f k)) := hrw k hlt
          have hat := atK_le (atomsI n f) j
          have ⟨hp1, hp2⟩ := pow_bounds (atK (atomsI n f) j) (by omega)
          have hfk := (HRG.out k hlt).1
          have HBW := Lib.hid hbw; have HIW := Lib.hid hiw; clear hbw hiw hrw
          cases hh : hasB (atomsI n f) j with
          | false =>
            have HA := Lib.hid (atK_no hh); have HM := Lib.hid (cmpK_no (x := f k) (show (hasB (atomsI n f) j && hasB (f k) j) = false by rw [hh]; rfl))
            have HH := Lib.hid hh; clear hh
            go_wp2_with fail
            refine (specAtomsOf_at _ _ _ f _ HW.out HIW.out).mono ?_
            rintro e w2 ⟨rfl, m2, rfl⟩
            go_wp2_with fail
            refine (l1Has_val _ j false _ HH.out (by omega) hA0).mono ?_
            rintro e w' ⟨rfl, rfl⟩
            go_wp2_with fail
            go_roundw
            case rel => exact ⟨j + 1, by omega, by go_num, by rw [HA.out], by rw [HM.out], hd.more _⟩
            case measure => simp [intOf]; omega
          | true =>
            cases hq : hasB (f k) j with
            | false =>
              have HA := Lib.hid (atK_yes hh); have HM := Lib.hid (cmpK_no (x := f k) (show (hasB (atomsI n f) j && hasB (f k) j) = false by rw [hq, Bool.and_false]))
              have HH := Lib.hid hh; have HQ := Lib.hid hq; clear hh hq
              go_wp2_with fail
              refine (specAtomsOf_at _ _ _ f _ HW.out HIW.out).mono ?_
              rintro e w2 ⟨rfl, m2, rfl⟩
              go_wp2_with fail
              refine (l1Has_val _ j true _ HH.out (by omega) hA0).mono ?_
              rintro e w' ⟨rfl, rfl⟩
              go_wp2_with fail
              refine (l1Has_val _ j false _ HQ.out (by omega) hfk).mono ?_
              rintro e w' ⟨rfl, rfl⟩
              go_wp2_with fail
              go_roundw
              case rel => exact ⟨j + 1, by omega, by go_num, by rw [HA.out]; go_num, by rw [HM.out], hd.more _⟩
              case measure => simp [intOf]; omega
            | true =>
              have HA := Lib.hid (atK_yes hh); have HM := Lib.hid (cmpK_yes hh hq)
              have HH := Lib.hid hh; have HQ := Lib.hid hq; clear hh hq
              go_wp2_with fail
              refine (specAtomsOf_at _ _ _ f _ HW.out HIW.out).mono ?_
              rintro e w2 ⟨rfl, m2, rfl⟩
              go_wp2_with fail
              refine (l1Has_val _ j true _ HH.out (by omega) hA0).mono ?_
              rintro e w' ⟨rfl, rfl⟩
              go_wp2_with fail
              refine (l1Has_val _ j true _ HQ.out (by omega) hfk).mono ?_
              rintro e w' ⟨rfl, rfl⟩
              go_wp2_with fail
              go_roundw
              case rel => exact ⟨j + 1, by omega, by go_num, by rw [HA.out]; go_num, by rw [HM.out], hd.more _⟩
              case measure => simp [intOf]; omega
        · have hje : j = n := by omega
          subst hje
          have hji : ¬ ((j : Int) < (j : Int)) := by omega
          obtain ⟨z, hzj, hz⟩ := HNM.out k hlt
          have HZ := Lib.hid (show cmpK (atomsI j f) (f k) j = (z : Int) + 1 by unfold nameI at hz; omega)
          have HS := Lib.hid (show rowL (nameI j f) (k + 1) = rowL (nameI j f) k ++ [(z : Int)] by rw [rowL_succ, hz])
          have HL := Lib.hid (show (rowL (nameI j f) k).length ≤ 1000 by rw [rowL_len]; omega)
          have HSZ := Lib.hid hbw.size; have HBW := Lib.hid hbw
          have HO : Hid (wr.ownsRow w.heap.size 3 1 (.slice a9 (rowL (nameI j f) k).length c9) (rowL (nameI j f) k).length ((rowL (nameI j f) k).map (Value.int .i64))) := Lib.hid (HOW1.out.kept hd.below)
          clear hz hbw hiw hrw hd
          rw [HZ.out]
          have k1 := Lib.hid (fun (j : Nat) (u : Value) (h : [Value.int .i64 (z : Int)][j]? = some u) => cell_one_new wr (.int .i64 (z : Int)) 3 j u h)
          have k2 : Hid (∀ u ∈ [Value.int .i64 (z : Int)], u.oneCell' = true) := Lib.hid (by intro u hu; simp at hu; subst hu; rfl)
          have k3 : Hid ((rowL (nameI j f) k).length + 1 ≤ maxLen) := Lib.hid (by have := HL.out; unfold maxLen; omega)
          have k4 : Hid (((rowL (nameI j f) k).length + 1) * 8 ≤ 140737488355328) := Lib.hid (by have := HL.out; omega)
          have k5 : Hid (w.heap.size ≤ (wr.alloc (.cells #[.int .i64 (z : Int)] 3)).heap.size) := Lib.hid (by rw [alloc_size]; have := HSZ.out; omega)
          go_wp2_with (at_builtin; refine wpList_append_own _ rfl (.tmp 42) (.tmp 45) 23 rfl w.heap.size 3 i0 (.int .i64 0) 1 8 Try.underlying23 hii hz0 hz1 hz2 rfl (by decide) _ _ _ rfl (HO.out.alloc _) ⟨wr.heap.size, 0, none⟩ 1 1 [.int .i64 (z : Int)] rfl rfl k1.out k2.out k3.out k4.out k5.out ?_)
          intro v' w5 hown' hgrow _
          have hg5 : Below w.heap.size wr w5 := ((Below.refl w.heap.size wr).alloc HSZ.out _).grown hgrow (by have := HSZ.out; rw [alloc_size]; omega) (fun q hq => (HO.out.lt q hq).1)
          have ho5 := OwnX.snoc hown'
          clear hown' hgrow k1 k2 k3 k4 k5
          have HO5 := Lib.hid ho5; have HG5 := Lib.hid hg5; clear ho5 hg5
          go_wp2_with fail
          go_roundw
          case rel => exact ⟨k + 1, by omega, by go_num, by rw [HS.out]; exact HO5.out, HBW.out.trans HG5.out⟩
          case measure => simp [intOf]; omega
    · have hki : ¬ (k : Int) < (n : Int) := by omega
      have hkn : k = n := by omega
      subst hkn
      go_wp2_with fail
      go_ret
      exact ⟨_, rfl, HOW.out, HB.out⟩

set_option maxRecDepth 100000 in
set_option maxHeartbeats 1600000 in
theorem specNamesOf_any (a : Option Addr) (n cap : Nat) (f : Nat → Int) (w : World) (hi : Ints w a n f) :
    Calls Try.prog 10 #[.slice a n cap] w (Gives 3 (namesL n f) w) := by
  cases hc : classB n f with
  | true =>
    rw [show namesL n f = rowL (nameI n f) n by unfold namesL; rw [if_pos hc]]
    exact specNamesOf_in a n cap f w hi hc
  | false =>
    rw [show namesL n f = [] by unfold namesL; rw [if_neg (by rw [hc]; decide)]]
    have hn : OwnX (w.alloc (.cells #[] 3)) w.heap.size 3 (.slice (some ⟨w.heap.size, 0, none⟩) 0 0) [] := OwnX.made w _ (Nat.le_refl _) _
    have hsb := alloc_below w (.cells #[] 3)
    have HN := Lib.hid hn; have HB := Lib.hid hsb; have HI := Lib.hid hi; have HC := Lib.hid hc
    have hn63 := hi.1.1
    clear hn hsb hi hc
    go_enter Try.func10, Try.ntmps10
    go_wp2_with fail
    go_loopw [3, 4] (fun v i wr => i = .int .i64 0 ∧ v = .slice (some ⟨w.heap.size, 0, none⟩) 0 0 ∧ wr = w.alloc (.cells #[] 3)) (fun _ _ _ => 0)
    case atStart => exact ⟨rfl, rfl, rfl⟩
    case round =>
      obtain ⟨rfl, rfl, rfl⟩ := hrel
      by_cases h0 : n = 0
      · subst h0
        go_wp2_with fail
        go_ret
        exact ⟨_, rfl, HN.out, HB.out⟩
      · have h0i : (0 : Int) < (n : Int) := by omega
        go_wp2_with fail
        refine (specClassicalOk_val _ _ _ f false _ HC.out (HI.out.next HB.out)).mono ?_
        rintro e w1 ⟨rfl, hd1⟩
        have HN1 := Lib.hid (HN.out.kept hd1.below); have HB1 := Lib.hid (below_onto HB.out hd1.below)
        clear hd1
        go_wp2_with fail
        go_ret
        exact ⟨_, rfl, HN1.out, HB1.out⟩
end Go.Proofs.Ytamiidgpglepcaa
