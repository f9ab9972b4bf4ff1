import Derived.Test.YtibjdmmcnhlgnaaLaw10M
namespace Go.Proofs.Ytibjdmmcnhlgnaa
set_option linter.unusedVariables false
set_option linter.unusedSimpArgs false
open Go.RowKit Go.Maps

theorem sameInts_any (a1 a2 : Option Addr) (c1 c2 n : Nat) (f : Nat → Int) (hn : n ≤ 1048576) (w : World) (h1 : Ints w a1 n f) (h2 : Ints w a2 n f) :
    Calls Try.prog 30 #[.slice a1 n c1, .slice a2 n c2] w fun e w' => e = .returned (.bool true) ∧ Below w.heap.size w w' := by
  obtain ⟨_, rfl | ⟨b1, o1, rfl, hl1, hr1⟩⟩ := h1
  · exact (sameInts_nil a1 a2 c1 c2 w).mono fun _ _ ⟨h, hd⟩ => ⟨h, hd.below⟩
  obtain ⟨_, rfl | ⟨b2, o2, rfl, hl2, hr2⟩⟩ := h2
  · exact (sameInts_nil _ a2 c1 c2 w).mono fun _ _ ⟨h, hd⟩ => ⟨h, hd.below⟩
  exact (sameInts_row b1 o1 c1 b2 o2 c2 n f hn w hr1 hr2).mono fun _ _ ⟨h, hd⟩ => ⟨h, hd.below⟩

set_option maxRecDepth 100000 in
set_option maxHeartbeats 1600000 in
theorem hasInt_any (a : Option Addr) (n cap : Nat) (f : Nat → Int) (v : Int) (w : World) (hi : Ints w a n f) :
    Calls Try.prog 37 #[.slice a n cap, .int .i64 v] w fun e w' => e = .returned (.bool (inF v n f)) ∧ Below w.heap.size w w' := by
  have HI := Lib.hid hi; clear hi
  have hn := HI.out.1.1
  go_enter Try.func37, Try.ntmps37
  go_wp2_with fail
  go_loopw [5] (fun i wr => ∃ k : Nat, k ≤ n ∧ i = .int .i64 k ∧ Hid (inF v k f = false) ∧ w = wr) (fun i _ => n - (intOf i).toNat)
  case atStart => exact ⟨0, Nat.zero_le _, rfl, Lib.hid (inF_zero v f), rfl⟩
  case round =>
    obtain ⟨k, hk, rfl, hall, rfl⟩ := hrel
    by_cases hlt : k < n
    · have hki : (k : Int) < (n : Int) := by omega
      have hk0 : (0 : Int) ≤ (k : Int) := by omega
      obtain ⟨b, o, rfl, hbl, hrow⟩ := HI.out.row (by omega)
      have hc := hrow k hlt
      clear hrow hbl
      obtain ⟨z, hz⟩ : ∃ z, f k = z := ⟨_, rfl⟩
      rw [hz] at hc
      cases hv : (z == v) with
      | true =>
        have HV := Lib.hid (show inF v n f = true from inF_iff.2 ⟨k, hlt, by rw [hz]; simpa using hv⟩)
        clear hz
        go_wp2_with fail
        go_ret
        exact ⟨retb HV.out.symm, Below.refl _ _⟩
      | false =>
        have HV := Lib.hid (show inF v (k + 1) f = false by rw [inF_succ, hall.out, hz, hv]; rfl)
        clear hz
        go_wp2_with fail
        go_roundw
        case rel => exact ⟨k + 1, by omega, by go_num, HV, by first | rfl | trivial⟩
        case measure => simp [intOf]; omega
    · have hki : ¬ (k : Int) < (n : Int) := by omega
      have hkn : k = n := by omega
      subst hkn
      go_wp2_with fail
      go_ret
      exact ⟨retb hall.out.symm, Below.refl _ _⟩
theorem hasInt_val (a : Option Addr) (n cap : Nat) (f : Nat → Int) (v : Int) (b : Bool) (hb : inF v n f = b) (w : World) (hi : Ints w a n f) :
    Calls Try.prog 37 #[.slice a n cap, .int .i64 v] w fun e w' => e = .returned (.bool b) ∧ Below w.heap.size w w' := by subst hb; exact hasInt_any a n cap f v w hi

/-- the number of the change that makes ship i + 1 -/
theorem dn_count (n : Nat) (f P Q : Nat → Int) : ∀ m i, i < (dnL n f P Q m).length → (dnL n f P Q ((dnL n f P Q m).getD i 0 + 1)).length = i + 1
  | 0, i, h => by simp [dnL] at h
  | m + 1, i, h => by
    cases hg : goB n f P Q m with
    | true =>
      rw [dn_yes hg] at h ⊢
      by_cases hi : i < (dnL n f P Q m).length
      · rw [getD_left hi]
        exact dn_count n f P Q m i hi
      · have e : i = (dnL n f P Q m).length := by rw [List.length_append] at h; simp at h; omega
        rw [getD_last e, dn_yes hg, List.length_append, e]
        rfl
    | false =>
      rw [dn_no hg] at h ⊢
      exact dn_count n f P Q m i h

theorem allC_one (x : Int) : allC (fun v => v == x) ≤ 1 := by
  unfold allC
  by_cases h : 0 ≤ x ∧ x < 100
  · obtain ⟨y, rfl⟩ := Int.eq_ofNat_of_zero_le h.1
    have := countP_one y 100 (by omega)
    have e : (List.range 100).countP (fun v : Nat => ((v : Int) == (y : Int))) = (List.range 100).countP (fun v => decide (v = y)) := by
      apply List.countP_congr
      intro v _
      simp
      omega
    rw [e, this]
    exact Nat.le_refl 1
  · have : (List.range 100).countP (fun v : Nat => ((v : Int) == x)) = 0 := by
      rw [List.countP_eq_zero]
      intro v hv
      have := List.mem_range.1 hv
      simp; omega
    rw [this]; omega
theorem allC_list : ∀ L : List Int, allC (fun v => L.contains v) ≤ L.length
  | [] => by
    have : allC (fun v => ([] : List Int).contains v) = 0 := by
      unfold allC
      rw [List.countP_eq_zero]
      intro v _
      simp
    rw [this]; exact Nat.le_refl 0
  | x :: L => by
    have ih := allC_list L
    have h1 := allC_one x
    have h2 := allC_add (A := fun v => (x :: L).contains v) (B := fun _ => false) (C := fun v => v == x) (D := fun v => L.contains v) (fun v => by
      rw [List.contains_cons]
      cases (v == x) <;> cases (L.contains v) <;> decide)
    have h3 : allC (fun _ => false) = 0 := by
      unfold allC
      rw [List.countP_eq_zero]
      intro v _
      simp
    rw [List.length_cons]
    omega
/-- what is built again was changed as often as there are planks -/
theorem bu_many {n : Nat} {f P Q : Nat → Int} {m : Nat} (h : buB n f P Q m = true) : n ≤ m := by
  unfold buB at h
  rw [Bool.and_eq_true, Bool.and_eq_true, List.all_eq_true] at h
  obtain ⟨⟨hs, _⟩, hall⟩ := h
  have h1 := len_ship hs
  have h2 : allC (fun v => inF v n f) ≤ allC (fun v => (tkL n f P Q m).contains v) := allC_mono (fun v hv => by
    obtain ⟨k, hk, e⟩ := inF_iff.1 hv
    rw [← e]
    exact hall k (List.mem_range.2 hk))
  have h3 := allC_list (tkL n f P Q m)
  rw [tk_len] at h3
  have h4 := dn_len n f P Q m
  omega
/-- where nothing is left, it is built again -/
theorem bu_none {n : Nat} {f P Q : Nat → Int} {m : Nat} (hs : syB n f m = true) (h : cntF n f n (nowF n f P Q m) = 0) : buB n f P Q m = true := by
  unfold buB
  rw [show (shipB n f && decide (m ≤ 20)) = true from hs, Bool.true_and, List.all_eq_true]
  intro k hk
  have hk := List.mem_range.1 hk
  rw [List.contains_iff_mem]
  rcases lost_taken (P := P) (Q := Q) (inF_iff.2 ⟨k, hk, rfl⟩ : inF (f k) n f = true) m with h1 | h1
  · rw [cnt_zero.1 h k hk] at h1; cases h1
  · exact h1
theorem Ships.nil_slice {w : World} {B n : Nat} {v : Value} {rs : List (Nat × Nat)} (h : Ships w B n v [] rs) : ∃ a c, v = .slice a 0 c := by
  obtain ⟨_, ⟨hv, _⟩ | ⟨g, cap, cur, hv, _⟩⟩ := h.own
  · exact ⟨none, 0, hv⟩
  · exact ⟨_, cap, hv⟩
end Go.Proofs.Ytibjdmmcnhlgnaa
