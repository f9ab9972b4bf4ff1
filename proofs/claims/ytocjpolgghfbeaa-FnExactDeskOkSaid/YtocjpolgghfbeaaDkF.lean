import Derived.Test.YtocjpolgghfbeaaDkE
namespace Go.Proofs.Ytocjpolgghfbeaa
set_option linter.unusedVariables false
set_option linter.unusedSimpArgs false
open Go.RowKit Go.Maps

theorem Ints.drewsN {w : World} {a : Option Addr} {n : Nat} {f : Nat → Int} (h : Ints w a n f) (m : Nat) : Ints (w.drewN m) a n f := h.below (below_drewN (Below.refl _ _) m) (Nat.le_refl _)

set_option maxRecDepth 100000 in
set_option maxHeartbeats 1600000 in
theorem eqNest_any (b1 b2 : Option Addr) (L : List (List Int)) (c1 c2 : Nat) (hL : L.length ≤ 1048576) (hl : ∀ l ∈ L, l.length ≤ 1048576) (w : World) (h1 : Nest w b1 L) (h2 : Nest w b2 L) :
    Calls Try.prog 67 #[.slice b1 L.length c1, .slice b2 L.length c2] w fun e w' => e = .returned (.bool true) ∧ Below w.heap.size w w' := by
  have H1 := Lib.hid h1; have H2 := Lib.hid h2; have HLL := Lib.hid hl
  clear h1 h2 hl
  obtain ⟨n, hnn⟩ : ∃ n, L.length = n := ⟨_, rfl⟩
  have HL := Lib.hid hnn
  rw [hnn] at hL ⊢
  have hne : ((n : Int) != (n : Int)) = false := by simp
  clear hnn
  go_enter Try.func67, Try.ntmps67
  go_wp2_with fail
  clear hne
  go_loopw [5] (fun i wr => ∃ k : Nat, k ≤ n ∧ i = .int .i64 k ∧ Hid (Below w.heap.size w wr)) (fun i _ => n - (intOf i).toNat)
  case atStart => exact ⟨0, Nat.zero_le _, rfl, Lib.hid (Below.refl _ _)⟩
  case round =>
    obtain ⟨k, hk, rfl, HB⟩ := hrel
    by_cases hlt : k < n
    · have hki : (k : Int) < (n : Int) := by omega
      have hk0 : (0 : Int) ≤ (k : Int) := by omega
      have hkl : k < L.length := by rw [HL.out]; exact hlt
      obtain ⟨bk1, o1, a1, d1, rfl, _, hi1, hcell1⟩ := H1.out.at hkl
      obtain ⟨bk2, o2, a2, d2, rfl, _, hi2, hcell2⟩ := H2.out.at hkl
      have hc1 := hcell1 wr HB.out
      have hc2 := hcell2 wr HB.out
      have HI1 := Lib.hid (hi1.below HB.out (Nat.le_refl _)); have HI2 := Lib.hid (hi2.below HB.out (Nat.le_refl _))
      have HLN := Lib.hid (show (L.getD k []).length ≤ 1048576 from HLL.out _ (by rw [List.getD_eq_getElem?_getD, List.getElem?_eq_getElem hkl]; exact List.getElem_mem hkl))
      obtain ⟨l, hl⟩ : ∃ l, L.getD k [] = l := ⟨_, rfl⟩
      rw [hl] at hc1 hc2 HI1 HI2 HLN
      clear hi1 hi2 hcell1 hcell2 hl hkl
      go_wp2_with fail
      go_quiet ((go_at_call 34; exact quiet_drew (eqIntS_any a1 a2 d1 d2 l.length (fun j => l.getD j 0) HLN.out _ (HI1.out.drewsN _) (HI2.out.drewsN _))))
      all_goals
        go_wp2_with fail
        go_roundw
        case rel => exact ⟨k + 1, by omega, by go_num, Lib.hid (by first | exact HB.out | exact HB.out.drew | exact below_drewN HB.out _)⟩
        case measure => simp [intOf]; omega
    · have hki : ¬ (k : Int) < (n : Int) := by omega
      go_wp2_with fail
      go_ret
      exact ⟨rfl, HB.out⟩

/-- what is left of a measure -/
theorem szIntS_any (a : Option Addr) (n cap : Nat) (hn : n ≤ 9223372036854775807) (k : Nat) (hk : k ≤ 1048576) (w : World) :
    Calls Try.prog 64 #[.slice a n cap, .int .i64 k] w fun e w' => e = .returned (.int .i64 (if n ≤ k then ((k - n : Nat) : Int) else -1)) ∧ w = w' := by
  by_cases h : n ≤ k
  · have hd : decide ((k : Int) - (n : Int) < 0) = false := decide_eq_false (by omega)
    have he : (k : Int) - (n : Int) = ((k - n : Nat) : Int) := by omega
    rw [if_pos h]
    have HE := Lib.hid he
    clear he
    go_enter Try.func64, Try.ntmps64
    go_wp2_with fail
    go_ret
    refine ⟨?_, rfl⟩
    rw [← HE.out]
    rfl
  · have hd : decide ((k : Int) - (n : Int) < 0) = true := decide_eq_true (by omega)
    have hlt : (k : Int) < (n : Int) := by omega
    rw [if_neg h]
    go_enter Try.func64, Try.ntmps64
    go_wp2_with fail
    go_ret
    exact ⟨rfl, rfl⟩

/-- a measure that is not passed bounds every length -/
def SzEnd (L : List (List Int)) (k : Nat) (w : World) (e : Ending) (w' : World) : Prop :=
  ∃ r : Int, e = .returned (.int .i64 r) ∧ (r = -1 ∨ ∃ m : Nat, r = m ∧ m ≤ k ∧ L.length ≤ k ∧ ∀ l ∈ L, l.length ≤ k) ∧ Below w.heap.size w w'

set_option maxRecDepth 100000 in
set_option maxHeartbeats 1600000 in
theorem szNest_any (b : Option Addr) (L : List (List Int)) (c : Nat) (k : Nat) (hk : k ≤ 1048576) (w : World) (h : Nest w b L) :
    Calls Try.prog 65 #[.slice b L.length c, .int .i64 k] w (SzEnd L k w) := by
  have H := Lib.hid h
  have h63 := h.1
  obtain ⟨n, hnn⟩ : ∃ n, L.length = n := ⟨_, rfl⟩
  have HL := Lib.hid hnn
  rw [hnn] at h63 ⊢
  clear h hnn
  by_cases hn : n ≤ k
  · have hd : decide ((k : Int) - (n : Int) < 0) = false := decide_eq_false (by omega)
    obtain ⟨q, hq⟩ : ∃ q : Nat, k - n = q := ⟨_, rfl⟩
    have hqk : (k : Int) - (n : Int) = (q : Int) := by omega
    have hql : q ≤ k := by omega
    clear hq
    go_enter Try.func65, Try.ntmps65
    go_wp2_with fail
    go_loopw [1, 5] (fun v i wr => ∃ j m : Nat, j ≤ n ∧ m ≤ k ∧ i = .int .i64 j ∧ v = .int .i64 m ∧ Hid (∀ i, i < j → (L.getD i []).length ≤ k) ∧ Hid (Below w.heap.size w wr)) (fun _ i _ => n - (intOf i).toNat)
    case atStart => exact ⟨0, q, Nat.zero_le _, hql, rfl, by first | rfl | rw [hqk], Lib.hid (fun i hi => absurd hi (Nat.not_lt_zero _)), Lib.hid (Below.refl _ _)⟩
    case round =>
      clear hqk hd
      obtain ⟨j, m, hj, hm, rfl, rfl, hall, HB⟩ := hrel
      by_cases hlt : j < n
      · have hki : (j : Int) < (n : Int) := by omega
        have hk0 : (0 : Int) ≤ (j : Int) := by omega
        obtain ⟨bk, o, a1, c1, rfl, _, hi, hcell⟩ := H.out.at (show j < L.length by rw [HL.out]; exact hlt)
        have hc := hcell wr HB.out
        have HLE := Lib.hid hi.1.1
        obtain ⟨l, hl⟩ : ∃ l, L.getD j [] = l := ⟨_, rfl⟩
        have HLL := Lib.hid hl
        rw [hl] at hc HLE
        clear hi hcell hl
        by_cases hs : l.length ≤ m
        · go_wp2_with fail
          refine (szIntS_any a1 l.length c1 HLE.out m (by omega) _).mono ?_
          rintro e w5 ⟨rfl, rfl⟩
          rw [if_pos hs]
          have hge : decide (((m - l.length : Nat) : Int) < 0) = false := decide_eq_false (by omega)
          obtain ⟨p, hp⟩ : ∃ p : Nat, m - l.length = p := ⟨_, rfl⟩
          rw [hp] at hge ⊢
          have hpk : p ≤ k := by omega
          have hlk : l.length ≤ k := by omega
          clear hp hc
          go_wp2_with fail
          go_roundw
          case rel => exact ⟨j + 1, p, by omega, hpk, by go_num, rfl, Lib.hid (fun i hi => by
            by_cases e : i = j
            · subst e; rw [HLL.out]; exact hlk
            · exact hall.out i (by omega)), HB⟩
          case measure => simp [intOf]; omega
        · go_wp2_with fail
          refine (szIntS_any a1 l.length c1 HLE.out m (by omega) _).mono ?_
          rintro e w5 ⟨rfl, rfl⟩
          rw [if_neg hs]
          clear hc
          go_wp2_with fail
          go_ret
          exact ⟨_, rfl, .inl rfl, HB.out⟩
      · have hki : ¬ (j : Int) < (n : Int) := by omega
        have hjn : j = n := by omega
        have HA := Lib.hid (show ∀ l ∈ L, l.length ≤ k from fun l hl => by
          obtain ⟨i, hi, rfl⟩ := List.getElem_of_mem hl
          have := hall.out i (by rw [HL.out] at hi; omega)
          rwa [List.getD_eq_getElem?_getD, List.getElem?_eq_getElem hi] at this)
        go_wp2_with fail
        go_ret
        exact ⟨_, rfl, .inr ⟨m, rfl, hm, by rw [HL.out]; exact hn, HA.out⟩, HB.out⟩
  · have hd : decide ((k : Int) - (n : Int) < 0) = true := decide_eq_true (by omega)
    have hlt : (k : Int) < (n : Int) := by omega
    go_enter Try.func65, Try.ntmps65
    go_wp2_with fail
    go_ret
    exact ⟨_, rfl, .inl rfl, Below.refl _ _⟩
end Go.Proofs.Ytocjpolgghfbeaa
