import Derived.Test.YtndcnfbncepihaaTxT
namespace Go.Proofs.Ytndcnfbncepihaa
set_option linter.unusedVariables false
set_option linter.unusedSimpArgs false
open Go.RowKit Go.Maps

/-- s, s + 1; s + 2, s + 3; .. -/
def mkD (n s : Nat) : List (Int × Int) := (List.range n).map (fun i => (((s + i * 2 : Nat) : Int), ((s + i * 2 + 1 : Nat) : Int)))
theorem mkD_len (n s : Nat) : (mkD n s).length = n := by unfold mkD; simp
theorem mkD_at {n s i : Nat} (hi : i < (mkD n s).length) : (mkD n s)[i] = (((s + i * 2 : Nat) : Int), ((s + i * 2 + 1 : Nat) : Int)) := by unfold mkD; simp
theorem cellsD_get (ds : List (Int × Int)) (i : Nat) (hi : i < ds.length * 2) : (cellsD ds)[i]? = some (.int .i64 (prQ (fstF ds) (sndF ds) i)) := by
  have hk : i / 2 < ds.length := by omega
  obtain ⟨h1, h2⟩ := cellsD_at hk
  unfold prQ
  by_cases e : i % 2 = 0
  · rw [if_pos e, fst_at hk]
    rw [show i / 2 * 2 = i by omega] at h1
    exact h1
  · rw [if_neg e, snd_at hk]
    rw [show i / 2 * 2 + 1 = i by omega] at h2
    exact h2
theorem OwnD.rw {w : World} {B : Nat} {v : Value} {ds : List (Int × Int)} (h : OwnD w B v ds) (h1 : 1 ≤ ds.length) :
    ∃ g c, v = .slice (some ⟨g, 0, none⟩) ds.length c ∧ B ≤ g ∧ g < w.heap.size ∧ ds.length ≤ c ∧ c ≤ maxLen ∧ Rw w g 38 (c * 2) (ds.length * 2) (prQ (fstF ds) (sndF ds)) := by
  have hlt := World.ownsRow.lt h
  have hl := h.1
  rcases h.2 with ⟨_, h2⟩ | ⟨g, cap, cur, hv, hB, hg, hc, hm, hs, ht⟩
  · omega
  · subst hv
    refine ⟨g, cap, rfl, hB, (hlt g rfl).2, hc, hm, cur, hg, hs, fun i hi => ?_⟩
    rw [← cellsD_get ds i hi, ← ht, List.getElem?_take, if_pos hi]
    simp
theorem Rw.ownD {w : World} {g B c : Nat} {ds : List (Int × Int)} (hr : Rw w g 38 (c * 2) (ds.length * 2) (prQ (fstF ds) (sndF ds))) (hB : B ≤ g) (hc : ds.length ≤ c) (hm : c ≤ maxLen) : OwnD w B (.slice (some ⟨g, 0, none⟩) ds.length c) ds := by
  obtain ⟨cur, h1, h2, h3⟩ := hr
  refine ⟨cellsD_len ds, .inr ⟨g, c, cur, rfl, hB, h1, hc, hm, h2, ?_⟩⟩
  apply List.ext_getElem?
  intro i
  by_cases hi : i < ds.length * 2
  · rw [List.getElem?_take, if_pos hi, cellsD_get ds i hi]
    have := h3 i hi
    simpa using this
  · rw [List.getElem?_eq_none (by rw [List.length_take]; omega), List.getElem?_eq_none (by rw [cellsD_len]; omega)]
/-- nothing has changed but the slice's own block -/
structure Upd (v : Value) (w w' : World) : Prop where
  os : w'.os = w.os
  tape : w'.tape = w.tape
  output : w'.output = w.output
  size : w.heap.size ≤ w'.heap.size
  block : ∀ k, k < w.heap.size → v.ownBlock ≠ some k → w'.heap[k]? = w.heap[k]?
theorem Upd.refl (v : Value) (w : World) : Upd v w w := ⟨rfl, rfl, rfl, Nat.le_refl _, fun _ _ _ => rfl⟩
theorem Upd.below {v : Value} {w w' : World} (h : Upd v w w') {C : Nat} (hC : C ≤ w.heap.size) (hv : ∀ g, v.ownBlock = some g → C ≤ g) : Below C w w' :=
  ⟨h.os, h.tape, h.output, h.size, fun k hk => h.block k (by omega) (fun e => by have := hv k e; omega)⟩
theorem Upd.of_only {g o n c : Nat} {w w' : World} (h : Only g w w') : Upd (.slice (some ⟨g, o, none⟩) n c) w w' :=
  ⟨h.os, h.tape, h.output, h.size, fun k hk hn => h.block k hk (fun e => hn (by rw [e]; rfl))⟩
theorem OwnD.upd {w w' : World} {B : Nat} {v u : Value} {ds : List (Int × Int)} (h : OwnD w B u ds) (hu : Upd v w w') (hn : ∀ g, u.ownBlock = some g → v.ownBlock ≠ some g) : OwnD w' B u ds := by
  refine ⟨h.1, ?_⟩
  rcases h.2 with h1 | ⟨g, cap, cur, hv, hBg, hg, hr⟩
  · exact .inl h1
  · exact .inr ⟨g, cap, cur, hv, hBg, (hu.block g (Array.getElem?_eq_some_iff.1 hg).1 (hn g (by rw [hv]; rfl))).trans hg, hr⟩
theorem OwnD.kept {w w' : World} {B : Nat} {u : Value} {ds : List (Int × Int)} (h : OwnD w B u ds) (hb : Below w.heap.size w w') : OwnD w' B u ds := by
  refine ⟨h.1, ?_⟩
  rcases h.2 with h1 | ⟨g, cap, cur, hv, hBg, hg, hr⟩
  · exact .inl h1
  · exact .inr ⟨g, cap, cur, hv, hBg, (hb.block g (Array.getElem?_eq_some_iff.1 hg).1).trans hg, hr⟩
theorem OwnD.dds {w : World} {B : Nat} {v : Value} {ds : List (Int × Int)} (h : OwnD w B v ds) (h64 : ∀ d ∈ ds, I64 d.1 ∧ I64 d.2) (hl : ds.length ≤ 9223372036854775807) : ∃ a c, v = .slice a ds.length c ∧ Dds w a ds := by
  by_cases h1 : 1 ≤ ds.length
  · obtain ⟨g, c, rfl, _, h3, _, h4⟩ := h.row h1
    exact ⟨_, c, rfl, ⟨hl, h64⟩, .inr ⟨g, 0, rfl, h3, h4⟩⟩
  · obtain ⟨a, c, rfl⟩ := h.slice
    exact ⟨a, c, rfl, ⟨hl, h64⟩, .inl (by omega)⟩

set_option maxRecDepth 100000 in
set_option maxHeartbeats 1600000 in
theorem markD_row (g cap n c s : Nat) (t : TypeId) (F : Nat → Int) (hs : s + n * 2 ≤ 1099511627776) (w : World) (hr : Rw w g t cap (n * 2) F) :
    Calls Try.prog 42 #[.slice (some ⟨g, 0, none⟩) n c, .int .i64 s] w fun e w' => e = .returned (.int .i64 ((s : Int) + n * 2)) ∧ Only g w w' ∧ Rw w' g t cap (n * 2) (fun j => (s : Int) + j) := by
  have HR := Lib.hid (hr.less (h' := fun j => if j < 0 * 2 then (s : Int) + j else F j) (Nat.le_refl _) (fun i _ => by rw [if_neg (by omega)])); clear hr
  go_enter Try.func42, Try.ntmps42
  go_wp2_with fail
  go_loopw [1, 5] (fun v i wr => ∃ k : Nat, k ≤ n ∧ i = .int .i64 k ∧ v = .int .i64 ((s : Int) + k * 2) ∧ Hid (Rw wr g t cap (n * 2) (fun j => if j < k * 2 then (s : Int) + j else F j)) ∧ Hid (Only g w wr)) (fun _ i _ => n - (intOf i).toNat)
  case atStart => exact ⟨0, Nat.zero_le _, rfl, by simp, HR, Lib.hid (Only.refl _ _)⟩
  case round =>
    clear HR
    obtain ⟨k, hk, rfl, rfl, HR, HO⟩ := hrel
    by_cases hlt : k < n
    · have hki : (k : Int) < (n : Int) := by omega
      have hk0 : (0 : Int) ≤ (k : Int) := by omega
      have hc0 := HR.out.cell (k * 2) (by omega)
      have hc1 := HR.out.cell (k * 2 + 1) (by omega)
      rw [if_neg (by omega)] at hc0 hc1
      have hf0 := HR.out.frozen (k * 2)
      have hf1 := HR.out.frozen (k * 2 + 1)
      have HR2 := Lib.hid (((HR.out.set (k * 2) ((s : Int) + k * 2)).set (k * 2 + 1) ((s : Int) + k * 2 + 1)).less (h' := fun j => if j < (k + 1) * 2 then (s : Int) + j else F j) (Nat.le_refl _) (fun j hj => by
        show (if j = k * 2 + 1 then (s : Int) + k * 2 + 1 else if j = k * 2 then (s : Int) + k * 2 else if j < k * 2 then (s : Int) + j else F j) = if j < (k + 1) * 2 then (s : Int) + j else F j
        by_cases e1 : j = k * 2 + 1
        · rw [if_pos e1, if_pos (by omega)]; omega
        · rw [if_neg e1]
          by_cases e2 : j = k * 2
          · rw [if_pos e2, if_pos (by omega)]; omega
          · rw [if_neg e2]
            by_cases e3 : j < k * 2
            · rw [if_pos e3, if_pos (by omega)]
            · rw [if_neg e3, if_neg (by omega)]))
      have HO2 := Lib.hid ((HO.out.setCell (k * 2) (.int .i64 ((s : Int) + k * 2))).setCell (k * 2 + 1) (.int .i64 ((s : Int) + k * 2 + 1)))
      have hw1 : IntKind.i64.wrap ((s : Int) + k * 2 + 1) = (s : Int) + k * 2 + 1 := wrap_in _ (by unfold I64; omega)
      have hw2 : IntKind.i64.wrap ((s : Int) + k * 2 + 1 + 1) = (s : Int) + k * 2 + 1 + 1 := wrap_in _ (by unfold I64; omega)
      clear HR HO
      go_wp2_with fail
      go_roundw
      case rel => exact ⟨k + 1, by omega, by go_num, by go_num, HR2, HO2⟩
      case measure => simp [intOf]; omega
    · have hki : ¬ (k : Int) < (n : Int) := by omega
      have hkn : k = n := by omega
      subst hkn
      have HR2 := Lib.hid (HR.out.less (h' := fun j => (s : Int) + j) (Nat.le_refl _) (fun j hj => by rw [if_pos hj]))
      go_wp2_with fail
      go_ret
      exact ⟨rfl, HO.out, HR2.out⟩

set_option maxRecDepth 100000 in
set_option maxHeartbeats 800000 in
theorem markD_none (a : Option Addr) (c s : Nat) (w : World) : Calls Try.prog 42 #[.slice a 0 c, .int .i64 s] w fun e w' => e = .returned (.int .i64 (s : Int)) ∧ w = w' := by
  go_enter Try.func42, Try.ntmps42
  go_wp2_with fail
  refine wp_loop_rounds 1 ?_
  rw [rounds_succ]
  go_wp2_with fail
  go_ret
  exact ⟨rfl, rfl⟩
theorem prq_mk {n s j : Nat} (hj : j < n * 2) : prQ (fstF (mkD n s)) (sndF (mkD n s)) j = (s : Int) + j := by
  have hk : j / 2 < (mkD n s).length := by rw [mkD_len]; omega
  unfold prQ
  by_cases e : j % 2 = 0
  · rw [if_pos e, fst_at hk, mkD_at]; show ((s + j / 2 * 2 : Nat) : Int) = _; omega
  · rw [if_neg e, snd_at hk, mkD_at]; show ((s + j / 2 * 2 + 1 : Nat) : Int) = _; omega
theorem markD_any (v : Value) (B : Nat) (ds : List (Int × Int)) (s : Nat) (hs : s + ds.length * 2 ≤ 1099511627776) (w : World) (h : OwnD w B v ds) :
    Calls Try.prog 42 #[v, .int .i64 s] w fun e w' => e = .returned (.int .i64 ((s : Int) + ds.length * 2)) ∧ OwnD w' B v (mkD ds.length s) ∧ Upd v w w' := by
  by_cases h1 : 1 ≤ ds.length
  · obtain ⟨g, c, rfl, hB, hg, hc, hm, hr⟩ := h.rw h1
    refine (markD_row g (c * 2) ds.length c s 38 _ hs w hr).mono ?_
    rintro e w' ⟨rfl, ho, hr2⟩
    refine ⟨rfl, ?_, Upd.of_only ho⟩
    have hr3 : Rw w' g 38 (c * 2) ((mkD ds.length s).length * 2) (prQ (fstF (mkD ds.length s)) (sndF (mkD ds.length s))) := by
      rw [mkD_len]
      exact hr2.less (Nat.le_refl _) (fun j hj => (prq_mk hj).symm)
    have := Rw.ownD (B := B) hr3 hB (by rw [mkD_len]; exact hc) hm
    rw [mkD_len] at this
    exact this
  · have h0 : ds = [] := List.eq_nil_of_length_eq_zero (by omega)
    subst h0
    obtain ⟨a, c, rfl⟩ := h.slice
    refine (markD_none a c s w).mono ?_
    rintro e w' ⟨rfl, rfl⟩
    exact ⟨by simp, h, Upd.refl _ _⟩
end Go.Proofs.Ytndcnfbncepihaa
