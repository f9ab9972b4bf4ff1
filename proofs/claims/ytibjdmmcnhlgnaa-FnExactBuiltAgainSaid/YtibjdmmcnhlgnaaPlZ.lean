import Derived.Test.YtibjdmmcnhlgnaaPlY
namespace Go.Proofs.Ytibjdmmcnhlgnaa
set_option linter.unusedVariables false
set_option linter.unusedSimpArgs false
open Go.RowKit Go.Maps

/-- nothing of old has changed but the ships themselves -/
structure Among (rs : List (Nat × Nat)) (w w' : World) : Prop where
  os : w'.os = w.os
  tape : w'.tape = w.tape
  output : w'.output = w.output
  size : w.heap.size ≤ w'.heap.size
  block : ∀ k, k < w.heap.size → (∀ r ∈ rs, r.1 ≠ k) → w'.heap[k]? = w.heap[k]?
theorem Among.refl (rs : List (Nat × Nat)) (w : World) : Among rs w w := ⟨rfl, rfl, rfl, Nat.le_refl _, fun _ _ _ => rfl⟩
theorem Among.only {rs : List (Nat × Nat)} {w w1 w2 : World} (h : Among rs w w1) {r : Nat × Nat} (hr : r ∈ rs) (ho : Only r.1 w1 w2) : Among rs w w2 :=
  ⟨ho.os.trans h.os, ho.tape.trans h.tape, ho.output.trans h.output, Nat.le_trans h.size ho.size, fun k hk hn => (ho.block k (Nat.lt_of_lt_of_le hk h.size) (fun e => hn r hr e.symm)).trans (h.block k hk hn)⟩
theorem Among.below {rs : List (Nat × Nat)} {w w' : World} (h : Among rs w w') {B : Nat} (hB : ∀ r ∈ rs, B ≤ r.1) (hs : B ≤ w.heap.size) : Below B w w' :=
  ⟨h.os, h.tape, h.output, h.size, fun k hk => h.block k (by omega) (fun r hr e => by have := hB r hr; omega)⟩

/-- the first i ships marked, the others as they were -/
def mkL (s n : Nat) (L : List (List Int)) (i : Nat) : List (List Int) := (List.range L.length).map (fun j => if j < i then rowL (fun q => ((s + j * n : Nat) : Int) + q) n else L.getD j [])
theorem mkL_len (s n : Nat) (L : List (List Int)) (i : Nat) : (mkL s n L i).length = L.length := by unfold mkL; simp
theorem mkL_at {s n : Nat} {L : List (List Int)} {i j : Nat} (hj : j < L.length) : (mkL s n L i).getD j [] = if j < i then rowL (fun q => ((s + j * n : Nat) : Int) + q) n else L.getD j [] := by
  unfold mkL
  rw [List.getD_eq_getElem?_getD, List.getElem?_map, List.getElem?_range hj]
  rfl
theorem mkL_zero {s n : Nat} {L : List (List Int)} : mkL s n L 0 = L := by
  apply List.ext_getElem?
  intro j
  by_cases hj : j < L.length
  · have := mkL_at (s := s) (n := n) (i := 0) hj
    rw [if_neg (by omega), List.getD_eq_getElem?_getD, List.getD_eq_getElem?_getD, List.getElem?_eq_getElem (by rw [mkL_len]; exact hj), List.getElem?_eq_getElem hj] at this
    rw [List.getElem?_eq_getElem (by rw [mkL_len]; exact hj), List.getElem?_eq_getElem hj]
    exact congrArg some this
  · rw [List.getElem?_eq_none (by rw [mkL_len]; omega), List.getElem?_eq_none (by omega)]

theorem Ships.mem {w : World} {B n : Nat} {v : Value} {L : List (List Int)} {rs : List (Nat × Nat)} (h : Ships w B n v L rs) {i : Nat} (hi : i < L.length) : rs.getD i (0, 0) ∈ rs := by
  rw [List.getD_eq_getElem?_getD, List.getElem?_eq_getElem (by rw [h.len]; exact hi)]; exact List.getElem_mem _
theorem Ships.ne {w : World} {B n : Nat} {v : Value} {L : List (List Int)} {rs : List (Nat × Nat)} (h : Ships w B n v L rs) {i j : Nat} (hi : i < L.length) (hj : j < L.length) (hne : j ≠ i) : (rs.getD j (0, 0)).1 ≠ (rs.getD i (0, 0)).1 := by
  have hl := h.len
  have hd := h.dis
  intro e
  rw [List.getD_eq_getElem?_getD, List.getD_eq_getElem?_getD, List.getElem?_eq_getElem (by omega : i < rs.length), List.getElem?_eq_getElem (by omega : j < rs.length)] at e
  have e : (rs[j]'(by omega)).1 = (rs[i]'(by omega)).1 := e
  have hp := List.pairwise_iff_getElem.1 (show List.Pairwise (· ≠ ·) (rs.map (fun r => r.1)) from hd)
  rcases Nat.lt_or_gt_of_ne hne with h1 | h1
  · exact hp j i (by simp; omega) (by simp; omega) h1 (by simpa using e)
  · exact hp i j (by simp; omega) (by simp; omega) h1 (by simpa using e.symm)

set_option maxRecDepth 100000 in
set_option maxHeartbeats 3200000 in
theorem markSS_any (n s : Nat) (hn : 1 ≤ n ∧ n ≤ 6) (v : Value) (B : Nat) (L : List (List Int)) (rs : List (Nat × Nat)) (hL : L.length ≤ 100) (hs : s ≤ 10) (w : World) (h : Ships w B n v L rs) :
    Calls Try.prog 51 #[v, .int .i64 s] w fun e w' => e = .returned (.int .i64 ((s + L.length * n : Nat) : Int)) ∧ Among rs w w' ∧ Ships w' B n v (mkL s n L L.length) rs := by
  obtain ⟨a, c, rfl⟩ := h.slice
  obtain ⟨len, hlen⟩ : ∃ len, L.length = len := ⟨_, rfl⟩
  have HL := Lib.hid hlen
  have HS : Hid (Ships w B n (.slice a len c) (mkL s n L 0) rs) := Lib.hid (by rw [mkL_zero, ← hlen]; exact h)
  rw [hlen]
  have hl1 : len ≤ 100 := by omega
  clear hlen hL h
  go_enter Try.func51, Try.ntmps51
  go_wp2_with fail
  go_loopw [1, 5] (fun v i wr => ∃ k t : Nat, k ≤ len ∧ t = s + k * n ∧ i = .int .i64 k ∧ v = .int .i64 t ∧ Hid (Ships wr B n (.slice a len c) (mkL s n L k) rs) ∧ Hid (Among rs w wr)) (fun _ i _ => len - (intOf i).toNat)
  case atStart => exact ⟨0, s, Nat.zero_le _, by simp, rfl, rfl, HS, Lib.hid (Among.refl _ _)⟩
  case round =>
    clear HS
    obtain ⟨k, t, hk, ht, rfl, rfl, HS, HA⟩ := hrel
    have HT := Lib.hid ht
    have htb : t ≤ 10 + 100 * 6 := by
      have : k * n ≤ 100 * 6 := Nat.mul_le_mul (by omega) hn.2
      omega
    clear ht
    by_cases hlt : k < len
    · have hki : (k : Int) < (len : Int) := by omega
      have hk0 : (0 : Int) ≤ (k : Int) := by omega
      have hkL : k < (mkL s n L k).length := by rw [mkL_len, HL.out]; exact hlt
      obtain ⟨g1, d1, e1⟩ := HS.out.shape (by omega)
      rw [mkL_len, HL.out] at e1
      cases e1
      have hS := HS.out
      have hS2 : Ships wr B n (.slice (some ⟨g1, 0, none⟩) (mkL s n L k).length c) (mkL s n L k) rs := by rw [mkL_len, HL.out]; exact hS
      have hc1 := hS2.cell hkL
      have hrow := (hS.row k hkL)
      have hrl := hS.rowI hkL
      obtain ⟨g', cp, e, _, _, hcp, hM, hrw⟩ := hrow.1.rw (by rw [hrl]; exact hn.1)
      rw [hrl] at e hcp hrw
      have hm := hS.mem hkL
      obtain ⟨x1, hx1⟩ : ∃ r, rs.getD k (0, 0) = r := ⟨_, rfl⟩
      rw [hx1] at hc1 hrow e hm
      obtain ⟨b1, q1⟩ := x1
      dsimp only at hc1 hrow e
      cases e
      have HRW := Lib.hid hrw; have HX := Lib.hid hx1; have HMM := Lib.hid hm; have HM := Lib.hid hM; have HCP := Lib.hid hcp
      have HBb := Lib.hid (World.ownsRow.lt hrow.1 _ rfl)
      clear hS hS2 hrow hrl hcp hM hrw hx1 hm
      go_wp2_with fail
      refine (mark_from g' cp n cp t 3 _ (by omega) _ HRW.out).mono ?_
      rintro e w5 ⟨rfl, ho5, hr5⟩
      have HA5 := Lib.hid (HA.out.only HMM.out ho5)
      have hown5 : OwnX w5 B 3 (.slice (some ⟨g', 0, none⟩) n cp) (rowL (fun q => ((s + k * n : Nat) : Int) + q) n) := by
        rw [← HT.out]
        exact Rw.own (m := n) (Rw.rowL hr5 (fun i hi => rfl)) (rowL_len _ _).symm HBb.out.1 HCP.out HM.out
      have HS5 : Hid (Ships w5 B n (.slice (some ⟨g1, 0, none⟩) len c) (mkL s n L (k + 1)) rs) := Lib.hid (by
        have hl : (mkL s n L (k + 1)).length = (mkL s n L k).length := by rw [mkL_len, mkL_len]
        have hS := HS.out
        refine ⟨?_, fun j hj => ?_, hS.dis, hS.apart⟩
        · rw [hl]
          exact ownsRow_same hS.own (fun g hg => ho5.block g (World.ownsRow.lt hS.own g hg).2 (fun e => hS.apart _ HMM.out (by rw [hg, e])))
        · rw [mkL_len] at hj
          rw [mkL_at hj]
          by_cases e : j = k
          · subst e
            rw [if_pos (by omega), HX.out]
            refine ⟨hown5, ?_⟩
            have := (hS.row j (by rw [mkL_len]; exact hj)).2
            rw [HX.out] at this; exact this
          · have hj2 : j < (mkL s n L k).length := by rw [mkL_len]; exact hj
            have h1 := hS.row j hj2
            have h2 := hS.ne (i := k) (j := j) (by rw [mkL_len, HL.out]; exact hlt) hj2 e
            rw [HX.out] at h2
            rw [mkL_at hj] at h1
            have e3 : (if j < k + 1 then rowL (fun q => ((s + j * n : Nat) : Int) + q) n else L.getD j []) = (if j < k then rowL (fun q => ((s + j * n : Nat) : Int) + q) n else L.getD j []) := by
              by_cases e4 : j < k
              · rw [if_pos e4, if_pos (by omega)]
              · rw [if_neg e4, if_neg (by omega)]
            rw [e3]
            exact ⟨OwnX.at h1.1 (ho5.block _ (World.ownsRow.lt h1.1 _ rfl).2 h2), h1.2⟩)
      have HT2 := Lib.hid (show t + n = s + (k + 1) * n by rw [HT.out, Nat.add_mul]; omega)
      have hcs : ((t : Int) + (n : Int)) = ((t + n : Nat) : Int) := by omega
      rw [hcs]
      clear hr5 ho5 hown5 HS HA hc1 hcs
      go_wp2_with fail
      go_roundw
      case rel => exact ⟨k + 1, t + n, by omega, HT2.out, by go_num, by first | rfl | go_num, HS5, HA5⟩
      case measure => simp [intOf]; omega
    · have hki : ¬ (k : Int) < (len : Int) := by omega
      have hkn : k = len := by omega
      subst hkn
      go_wp2_with fail
      go_ret
      exact ⟨reti (by rw [HT.out]; first | rfl | simp), HA.out, HS.out⟩

set_option maxRecDepth 100000 in
set_option maxHeartbeats 3200000 in
theorem heldSS_any (n s : Nat) (hn : 1 ≤ n ∧ n ≤ 6) (v : Value) (B : Nat) (L : List (List Int)) (rs : List (Nat × Nat)) (hL : L.length ≤ 100) (hs : s ≤ 10) (w : World) (h : Ships w B n v (mkL s n L L.length) rs) :
    Calls Try.prog 52 #[v, .int .i64 s] w fun e w' => e = .returned (.int .i64 ((s + L.length * n : Nat) : Int)) ∧ w = w' := by
  obtain ⟨a, c, rfl⟩ := h.slice
  obtain ⟨len, hlen⟩ : ∃ len, L.length = len := ⟨_, rfl⟩
  rw [mkL_len] at h ⊢
  have HL := Lib.hid hlen
  rw [hlen] at h ⊢
  have HS := Lib.hid h
  have hl1 : len ≤ 100 := by omega
  clear hlen hL h
  go_enter Try.func52, Try.ntmps52
  go_wp2_with fail
  go_loopw [1, 5] (fun v i wr => ∃ k t : Nat, k ≤ len ∧ t = s + k * n ∧ i = .int .i64 k ∧ v = .int .i64 t ∧ w = wr) (fun _ i _ => len - (intOf i).toNat)
  case atStart => exact ⟨0, s, Nat.zero_le _, by simp, rfl, rfl, rfl⟩
  case round =>
    obtain ⟨k, t, hk, ht, rfl, rfl, rfl⟩ := hrel
    have HT := Lib.hid ht
    have htb : t ≤ 10 + 100 * 6 := by
      have : k * n ≤ 100 * 6 := Nat.mul_le_mul (by omega) hn.2
      omega
    clear ht
    by_cases hlt : k < len
    · have hki : (k : Int) < (len : Int) := by omega
      have hk0 : (0 : Int) ≤ (k : Int) := by omega
      have hkL : k < (mkL s n L len).length := by rw [mkL_len, HL.out]; exact hlt
      obtain ⟨g1, d1, e1⟩ := HS.out.shape (by omega)
      rw [mkL_len, HL.out] at e1
      cases e1
      have hS2 : Ships w B n (.slice (some ⟨g1, 0, none⟩) (mkL s n L len).length c) (mkL s n L len) rs := by rw [mkL_len, HL.out]; exact HS.out
      have hc1 := hS2.cell hkL
      have hr1 := hS2.rowAt hkL hn.1 (show (mkL s n L len).getD k [] = rowL (fun q => ((s + k * n : Nat) : Int) + q) n by rw [mkL_at (by rw [HL.out]; exact hlt), if_pos hlt])
      obtain ⟨x1, hx1⟩ : ∃ r, rs.getD k (0, 0) = r := ⟨_, rfl⟩
      rw [hx1] at hc1 hr1
      obtain ⟨b1, q1⟩ := x1
      dsimp only at hc1 hr1
      rw [← HT.out] at hr1
      have HR := Lib.hid hr1
      have hnn : decide (((t + n : Nat) : Int) < 0) = false := by simp; omega
      have HT2 := Lib.hid (show t + n = s + (k + 1) * n by rw [HT.out, Nat.add_mul]; omega)
      have hcs : ((t : Int) + (n : Int)) = ((t + n : Nat) : Int) := by omega
      have HCS := Lib.hid hcs
      obtain ⟨u, hu⟩ : ∃ u, t + n = u := ⟨_, rfl⟩
      rw [hu] at HCS HT2 hnn
      clear hS2 hx1 hr1 hcs hu
      go_wp2_with fail
      refine (held_from b1 n q1 t (by omega) _ HR.out).mono ?_
      rintro e w5 ⟨rfl, rfl⟩
      rw [HCS.out]
      clear hc1
      go_wp2_with fail
      go_roundw
      case rel => exact ⟨k + 1, u, by omega, HT2.out, by go_num, by first | rfl | go_num, by first | rfl | trivial⟩
      case measure => simp [intOf]; omega
    · have hki : ¬ (k : Int) < (len : Int) := by omega
      have hkn : k = len := by omega
      subst hkn
      go_wp2_with fail
      go_ret
      exact ⟨reti (by rw [HT.out]; first | rfl | simp), rfl⟩

theorem markSS_one (n : Nat) (hn : 1 ≤ n ∧ n ≤ 6) (v : Value) (B : Nat) (L : List (List Int)) (rs : List (Nat × Nat)) (hL : L.length ≤ 100) (w : World) (h : Ships w B n v L rs) :
    Calls Try.prog 51 #[v, .int .i64 1] w fun e w' => e = .returned (.int .i64 ((1 + L.length * n : Nat) : Int)) ∧ Among rs w w' ∧ Ships w' B n v (mkL 1 n L L.length) rs :=
  markSS_any n 1 hn v B L rs hL (by omega) w h
theorem heldSS_one (n : Nat) (hn : 1 ≤ n ∧ n ≤ 6) (v : Value) (B : Nat) (L : List (List Int)) (rs : List (Nat × Nat)) (hL : L.length ≤ 100) (w : World) (h : Ships w B n v (mkL 1 n L L.length) rs) :
    Calls Try.prog 52 #[v, .int .i64 1] w fun e w' => e = .returned (.int .i64 ((1 + L.length * n : Nat) : Int)) ∧ w = w' :=
  heldSS_any n 1 hn v B L rs hL (by omega) w h
theorem Ships.ltB {w : World} {B n : Nat} {v : Value} {L : List (List Int)} {rs : List (Nat × Nat)} (h : Ships w B n v L rs) : ∀ g, (v.ownBlock = some g ∨ ∃ r ∈ rs, r.1 = g) → B ≤ g ∧ g < w.heap.size := by
  rintro g (hg | ⟨r, hr, rfl⟩)
  · exact World.ownsRow.lt h.own g hg
  · exact h.lt r hr
/-- as many planks as a story's ships have; one, where there is no story -/
def nnN (n : Nat) (f : Nat → Int) (m : Nat) : Nat := if syB n f m then n else 1
theorem nn_rng (n : Nat) (f : Nat → Int) (m : Nat) : 1 ≤ nnN n f m ∧ nnN n f m ≤ 6 := by
  unfold nnN
  cases h : syB n f m with
  | true =>
    rw [if_pos rfl]
    have := shipB_iff.1 (Bool.and_eq_true_iff.1 h).1
    exact ⟨this.1, this.2.1⟩
  | false => rw [if_neg (by simp)]; omega
theorem sy_len (n : Nat) (f P Q : Nat → Int) (m : Nat) : (syL n f P Q m).length ≤ 21 := by
  unfold syL
  cases h : syB n f m with
  | false => simp
  | true =>
    have h2 := of_decide_eq_true (Bool.and_eq_true_iff.1 h).2
    have := dn_len n f P Q m
    rw [if_pos rfl, st_len]; omega
theorem StoryGives.nn {n : Nat} {f P Q : Nat → Int} {m : Nat} {w w' : World} {e : Ending} (h : StoryGives n (syL n f P Q m) w e w') : StoryGives (nnN n f m) (syL n f P Q m) w e w' := by
  obtain ⟨v, rs, h1, h2, h3⟩ := h
  refine ⟨v, rs, h1, ?_, h3⟩
  unfold nnN
  cases hs : syB n f m with
  | true => rw [if_pos rfl]; exact h2
  | false =>
    rw [if_neg (by simp)]
    have e : syL n f P Q m = [] := by unfold syL; rw [hs]; rfl
    rw [e] at h2 ⊢
    have hl := h2.len
    have hr : rs = [] := List.eq_nil_of_length_eq_zero hl
    subst hr
    exact ⟨h2.own, fun i hi => (by cases hi), h2.dis, fun r hr => (by cases hr)⟩
end Go.Proofs.Ytibjdmmcnhlgnaa
