import Derived.Test.YtibjdmmcnhlgnaaPlX
namespace Go.Proofs.Ytibjdmmcnhlgnaa
set_option linter.unusedVariables false
set_option linter.unusedSimpArgs false
open Go.RowKit Go.Maps

set_option maxRecDepth 100000 in
set_option maxHeartbeats 1600000 in
theorem mark_from (g cap n c s : Nat) (t : TypeId) (F : Nat → Int) (hs : s + n ≤ 1099511627776) (w : World) (hr : Rw w g t cap n F) :
    Calls Try.prog 44 #[.slice (some ⟨g, 0, none⟩) n c, .int .i64 s] w fun e w' => e = .returned (.int .i64 ((s : Int) + n)) ∧ Only g w w' ∧ Rw w' g t cap n (fun i => (s : Int) + i) := by
  have HR := Lib.hid (hr.less (h' := fun j => if j < 0 then (s : Int) + j else F j) (Nat.le_refl _) (fun i _ => by rw [if_neg (by omega)])); clear hr
  go_enter Try.func44, Try.ntmps44
  go_wp2_with fail
  go_loopw [1, 5] (fun v i wr => ∃ k : Nat, k ≤ n ∧ i = .int .i64 k ∧ v = .int .i64 ((s : Int) + k) ∧ Hid (Rw wr g t cap n (fun j => if j < k then (s : Int) + j else F j)) ∧ Hid (Only g w wr)) (fun _ i _ => n - (intOf i).toNat)
  case atStart => exact ⟨0, Nat.zero_le _, rfl, by simp, HR, Lib.hid (Only.refl _ _)⟩
  case round =>
    clear HR
    obtain ⟨k, hk, rfl, rfl, HR, HO⟩ := hrel
    by_cases hlt : k < n
    · have hki : (k : Int) < (n : Int) := by omega
      have hk0 : (0 : Int) ≤ (k : Int) := by omega
      have hold := HR.out.cell k hlt
      have hfr := HR.out.frozen k
      obtain ⟨u, hu⟩ : ∃ u, (if k < k then (s : Int) + k else F k) = u := ⟨_, rfl⟩
      rw [hu] at hold
      clear hu
      have HR2 := Lib.hid ((HR.out.set k ((s : Int) + k)).less (h' := fun j => if j < k + 1 then (s : Int) + j else F j) (Nat.le_refl _) (fun j _ => by
        by_cases e : j = k
        · subst e; rw [if_pos rfl, if_pos (by omega)]
        · rw [if_neg e]
          by_cases e2 : j < k
          · rw [if_pos e2, if_pos (by omega)]
          · rw [if_neg e2, if_neg (by omega)]))
      have HO2 := Lib.hid (HO.out.setCell k (.int .i64 ((s : Int) + k)))
      clear HR HO
      go_wp2_with fail
      go_roundw
      case rel => exact ⟨k + 1, by omega, by go_num, by go_num, HR2, HO2⟩
      case measure => simp [intOf]; omega
    · have hki : ¬ (k : Int) < (n : Int) := by omega
      have hkn : k = n := by omega
      subst hkn
      have HR2 := Lib.hid (HR.out.less (h' := fun j => (s : Int) + j) (Nat.le_refl _) (fun j hj => by rw [if_pos hj]))
      clear HR
      go_wp2_with fail
      go_ret
      exact ⟨rfl, HO.out, HR2.out⟩

set_option maxRecDepth 100000 in
set_option maxHeartbeats 1600000 in
theorem held_from (g n c s : Nat) (hs : s + n ≤ 1099511627776) (w : World) (hr : Row w g 0 n (fun i => (s : Int) + i)) :
    Calls Try.prog 45 #[.slice (some ⟨g, 0, none⟩) n c, .int .i64 s] w fun e w' => e = .returned (.int .i64 ((s : Int) + n)) ∧ w = w' := by
  have HR := Lib.hid hr; clear hr
  go_enter Try.func45, Try.ntmps45
  go_wp2_with fail
  go_loopw [1, 5] (fun v i wr => ∃ k : Nat, k ≤ n ∧ i = .int .i64 k ∧ v = .int .i64 ((s : Int) + k) ∧ w = wr) (fun _ i _ => n - (intOf i).toNat)
  case atStart => exact ⟨0, Nat.zero_le _, rfl, by simp, rfl⟩
  case round =>
    obtain ⟨k, hk, rfl, rfl, rfl⟩ := hrel
    by_cases hlt : k < n
    · have hki : (k : Int) < (n : Int) := by omega
      have hk0 : (0 : Int) ≤ (k : Int) := by omega
      have hold := HR.out k hlt
      rw [Nat.zero_add] at hold
      have hne : (((s : Int) + k) != ((s : Int) + k)) = false := by simp
      go_wp2_with fail
      go_roundw
      case rel => exact ⟨k + 1, by omega, by go_num, by go_num, by first | rfl | trivial⟩
      case measure => simp [intOf]; omega
    · have hki : ¬ (k : Int) < (n : Int) := by omega
      have hkn : k = n := by omega
      subst hkn
      go_wp2_with fail
      go_ret
      exact ⟨rfl, rfl⟩

set_option maxRecDepth 100000 in
set_option maxHeartbeats 1600000 in
theorem markChange_any (g cap n c s : Nat) (t : TypeId) (F : Nat → Int) (hs : s + n * 2 ≤ 1099511627776) (w : World) (hr : Rw w g t cap (n * 2) F) :
    Calls Try.prog 50 #[.slice (some ⟨g, 0, none⟩) n c, .int .i64 s] w fun e w' => e = .returned (.int .i64 ((s : Int) + n * 2)) ∧ Only g w w' := by
  have HR := Lib.hid hr; clear hr
  go_enter Try.func50, Try.ntmps50
  go_wp2_with fail
  go_loopw [1, 5] (fun v i wr => ∃ k : Nat, k ≤ n ∧ i = .int .i64 k ∧ v = .int .i64 ((s : Int) + k * 2) ∧ (∃ F, Hid (Rw wr g t cap (n * 2) F)) ∧ Hid (Only g w wr)) (fun _ i _ => n - (intOf i).toNat)
  case atStart => exact ⟨0, Nat.zero_le _, rfl, by simp, ⟨_, HR⟩, Lib.hid (Only.refl _ _)⟩
  case round =>
    clear HR
    obtain ⟨k, hk, rfl, rfl, ⟨F, HR⟩, HO⟩ := hrel
    by_cases hlt : k < n
    · have hki : (k : Int) < (n : Int) := by omega
      have hk0 : (0 : Int) ≤ (k : Int) := by omega
      have hc0 := HR.out.cell (k * 2) (by omega)
      have hc1 := HR.out.cell (k * 2 + 1) (by omega)
      have hf0 := HR.out.frozen (k * 2)
      have hf1 := HR.out.frozen (k * 2 + 1)
      have HR2 := Lib.hid ((HR.out.set (k * 2) ((s : Int) + k * 2)).set (k * 2 + 1) ((s : Int) + k * 2 + 1))
      have HO2 := Lib.hid ((HO.out.setCell (k * 2) (.int .i64 ((s : Int) + k * 2))).setCell (k * 2 + 1) (.int .i64 ((s : Int) + k * 2 + 1)))
      have hw1 : IntKind.i64.wrap ((s : Int) + k * 2 + 1) = (s : Int) + k * 2 + 1 := wrap_in _ (by unfold I64; omega)
      have hw2 : IntKind.i64.wrap ((s : Int) + k * 2 + 1 + 1) = (s : Int) + k * 2 + 1 + 1 := wrap_in _ (by unfold I64; omega)
      clear HR HO
      go_wp2_with fail
      go_roundw
      case rel => exact ⟨k + 1, by omega, by go_num, by go_num, ⟨_, HR2⟩, HO2⟩
      case measure => simp [intOf]; omega
    · have hki : ¬ (k : Int) < (n : Int) := by omega
      have hkn : k = n := by omega
      subst hkn
      go_wp2_with fail
      go_ret
      exact ⟨rfl, HO.out⟩

theorem Ships.slice {w : World} {B n : Nat} {v : Value} {L : List (List Int)} {rs : List (Nat × Nat)} (h : Ships w B n v L rs) : ∃ a c, v = .slice a L.length c := by
  obtain ⟨_, ⟨hv, h0⟩ | ⟨g, cap, cur, hv, _⟩⟩ := h.own
  · exact ⟨none, 0, by rw [h0]; exact hv⟩
  · exact ⟨_, cap, hv⟩
theorem Ships.rowI {w : World} {B n : Nat} {v : Value} {L : List (List Int)} {rs : List (Nat × Nat)} (h : Ships w B n v L rs) {i : Nat} (hi : i < L.length) : (L.getD i []).length = n := by
  obtain ⟨a, c, e⟩ := (h.row i hi).1.slice
  injection e with _ e2 _
  exact e2.symm
theorem Ships.rowG {w : World} {B n : Nat} {v : Value} {L : List (List Int)} {rs : List (Nat × Nat)} (h : Ships w B n v L rs) {i : Nat} (hi : i < L.length) (hn : 1 ≤ n) : Row w (rs.getD i (0, 0)).1 0 n (fun j => (L.getD i []).getD j 0) := by
  have h1 := (h.row i hi).1
  have h2 := h.rowI hi
  obtain ⟨g', c', e, _, _, _, _, h5, _⟩ := h1.shape (by rw [h2]; exact hn)
  rw [h2] at e h5
  cases e
  exact h5

set_option maxRecDepth 100000 in
set_option maxHeartbeats 3200000 in
theorem eqIntSS_any (n : Nat) (hn : 1 ≤ n ∧ n ≤ 6) (v1 v2 : Value) (B1 B2 : Nat) (L : List (List Int)) (r1 r2 : List (Nat × Nat)) (hL : L.length ≤ 100) (w : World) (h1 : Ships w B1 n v1 L r1) (h2 : Ships w B2 n v2 L r2) :
    Calls Try.prog 48 #[v1, v2] w fun e w' => e = .returned (.bool true) ∧ Drew w w' := by
  obtain ⟨a1, c1, rfl⟩ := h1.slice
  obtain ⟨a2, c2, rfl⟩ := h2.slice
  have H1 := Lib.hid h1; have H2 := Lib.hid h2; clear h1 h2
  obtain ⟨len, hlen⟩ : ∃ len, L.length = len := ⟨_, rfl⟩
  have HL := Lib.hid hlen
  have hl1 : len ≤ 100 := by omega
  rw [hlen]
  clear hlen hL
  have hne : ((len : Int) != (len : Int)) = false := by simp
  go_enter Try.func48, Try.ntmps48
  go_wp2_with fail
  clear hne
  go_loopw [5] (fun i wr => ∃ k : Nat, k ≤ len ∧ i = .int .i64 k ∧ Drew w wr) (fun i _ => len - (intOf i).toNat)
  case atStart => exact ⟨0, Nat.zero_le _, rfl, Drew.refl w⟩
  case round =>
    obtain ⟨k, hk, rfl, hd⟩ := hrel
    by_cases hlt : k < len
    · have hki : (k : Int) < (len : Int) := by omega
      have hk0 : (0 : Int) ≤ (k : Int) := by omega
      have H1w := H1.out.kept hd.below
      have H2w := H2.out.kept hd.below
      have hkL : k < L.length := by rw [HL.out]; exact hlt
      obtain ⟨g1, d1, e1⟩ := H1w.shape (by omega)
      obtain ⟨g2, d2, e2⟩ := H2w.shape (by omega)
      rw [e1] at H1w
      rw [e2] at H2w
      rw [HL.out] at e1 e2
      cases e1; cases e2
      have hc1 := H1w.cell hkL
      have hc2 := H2w.cell hkL
      have hr1 := H1w.rowG hkL hn.1
      have hr2 := H2w.rowG hkL hn.1
      have hg1 := (World.ownsRow.lt (H1w.row k hkL).1 _ rfl).2
      have hg2 := (World.ownsRow.lt (H2w.row k hkL).1 _ rfl).2
      obtain ⟨x1, hx1⟩ : ∃ r, r1.getD k (0, 0) = r := ⟨_, rfl⟩
      obtain ⟨x2, hx2⟩ : ∃ r, r2.getD k (0, 0) = r := ⟨_, rfl⟩
      rw [hx1] at hc1 hr1 hg1
      rw [hx2] at hc2 hr2 hg2
      obtain ⟨b1, q1⟩ := x1
      obtain ⟨b2, q2⟩ := x2
      dsimp only at hc1 hc2 hr1 hr2 hg1 hg2
      have HR1 := Lib.hid hr1; have HR2 := Lib.hid hr2
      clear H1w H2w hx1 hx2 hr1 hr2
      go_wp2_with fail
      go_quiet ((go_at_call 42; exact quiet_drew (eqIntS_row b1 0 q1 b2 0 q2 n _ (by omega) _ (HR1.out.drewN _) (HR2.out.drewN _))))
      go_wp2_with fail
      go_roundw
      case rel => exact ⟨k + 1, by omega, by go_num, hd.more _⟩
      case measure => simp [intOf]; omega
    · have hki : ¬ (k : Int) < (len : Int) := by omega
      have hkn : k = len := by omega
      subst hkn
      go_wp2_with fail
      go_ret
      exact ⟨rfl, hd⟩
end Go.Proofs.Ytibjdmmcnhlgnaa
