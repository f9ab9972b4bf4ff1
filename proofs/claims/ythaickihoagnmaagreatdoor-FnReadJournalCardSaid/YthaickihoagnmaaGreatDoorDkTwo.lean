import Derived.Test.YthaickihoagnmaaGreatDoorDkOne
import Derived.Deep.DeepFit
import Derived.Deep.AppendLies
namespace Go.Proofs.YthaickihoagnmaaGreatDoor
set_option linter.unusedVariables false
set_option linter.unusedSimpArgs false
open Go.RowKit Go.Maps

/-- s, s + 1 .. -/
def runL (s n : Nat) : List Int := rowL (fun i => ((s + i : Nat) : Int)) n
theorem runL_len (s n : Nat) : (runL s n).length = n := rowL_len _ n
theorem runL_I64 {s n : Nat} (h : s + n ≤ 4398046511104) : I64s (runL s n) := rowL_mem (P := I64) (fun i hi => by unfold I64; omega)
theorem runL_at {s n i : Nat} (hi : i < n) : (runL s n).getD i 0 = ((s + i : Nat) : Int) := rowL_getD _ _ _ hi

set_option maxRecDepth 100000 in
set_option maxHeartbeats 1600000 in
theorem markX_row (g cap n c s : Nat) (t : TypeId) (F : Nat → Int) (hs : s + n ≤ 4398046511104) (w : World) (hr : Rw w g t cap n F) :
    Calls Tryz.prog 94 #[.slice (some ⟨g, 0, none⟩) n c, .int .i64 s] w fun e w' => e = .returned (.int .i64 ((s : Int) + n)) ∧ Only g w w' ∧ Rw w' g t cap n (fun j => (s : Int) + j) := by
  have HR := Lib.hid (hr.less (h' := fun j => if j < 0 then (s : Int) + j else F j) (Nat.le_refl _) (fun i _ => by rw [if_neg (by omega)])); clear hr
  go_enter Tryz.func94, Tryz.ntmps94
  go_wp2_with fail
  go_loopw [1, 5] (fun v i wr => ∃ k : Nat, k ≤ n ∧ i = .int .i64 k ∧ v = .int .i64 ((s : Int) + k) ∧ Hid (Rw wr g t cap n (fun j => if j < k then (s : Int) + j else F j)) ∧ Hid (Only g w wr)) (fun _ i _ => n - (intOf i).toNat)
  case atStart => exact ⟨0, Nat.zero_le _, rfl, by simp, HR, Lib.hid (Only.refl _ _)⟩
  case round =>
    clear HR
    obtain ⟨k, hk, rfl, rfl, HR, HO⟩ := hrel
    by_cases hlt : k < n
    · have hki : (k : Int) < (n : Int) := by omega
      have hk0 : (0 : Int) ≤ (k : Int) := by omega
      have hc0 := HR.out.cell k (by omega)
      rw [if_neg (by omega)] at hc0
      have hf0 := HR.out.frozen k
      have HR2 := Lib.hid ((HR.out.set k ((s : Int) + k)).less (h' := fun j => if j < k + 1 then (s : Int) + j else F j) (Nat.le_refl _) (fun j hj => by
        show (if j = k then (s : Int) + k else if j < k then (s : Int) + j else F j) = if j < k + 1 then (s : Int) + j else F j
        by_cases e2 : j = k
        · rw [if_pos e2, if_pos (by omega)]; omega
        · rw [if_neg e2]
          by_cases e3 : j < k
          · rw [if_pos e3, if_pos (by omega)]
          · rw [if_neg e3, if_neg (by omega)]))
      have HO2 := Lib.hid (HO.out.setCell k (.int .i64 ((s : Int) + k)))
      have hw1 : IntKind.i64.wrap ((s : Int) + k + 1) = (s : Int) + k + 1 := wrap_in _ (by unfold I64; omega)
      clear HR HO
      go_wp2_with fail
      go_roundw
      case rel => exact ⟨k + 1, by omega, by go_num, by go_num, HR2, HO2⟩
      case measure => simp [intOf]; omega
    · have hki : ¬ (k : Int) < (n : Int) := by omega
      have hkn : k = n := by omega
      subst hkn
      have HR2 := Lib.hid (HR.out.less (h' := fun j => (s : Int) + j) (Nat.le_refl _) (fun j hj => by rw [if_pos hj]))
      go_wp2_with fail
      go_ret
      exact ⟨rfl, HO.out, HR2.out⟩

set_option maxRecDepth 100000 in
set_option maxHeartbeats 1600000 in
theorem heldX_row (g o n c s : Nat) (hs : s + n ≤ 4398046511104) (w : World) (hr : Row w g o n (fun j => (runL s n).getD j 0)) :
    Calls Tryz.prog 96 #[.slice (some ⟨g, o, none⟩) n c, .int .i64 s] w fun e w' => e = .returned (.int .i64 ((s : Int) + n)) ∧ w = w' := by
  have HR := Lib.hid hr; clear hr
  go_enter Tryz.func96, Tryz.ntmps96
  go_wp2_with fail
  go_loopw [1, 5] (fun v i wr => ∃ k : Nat, k ≤ n ∧ i = .int .i64 k ∧ v = .int .i64 ((s : Int) + k) ∧ w = wr) (fun _ i _ => n - (intOf i).toNat)
  case atStart => exact ⟨0, Nat.zero_le _, rfl, by simp, rfl⟩
  case round =>
    obtain ⟨k, hk, rfl, rfl, rfl⟩ := hrel
    by_cases hlt : k < n
    · have hki : (k : Int) < (n : Int) := by omega
      have hk0 : (0 : Int) ≤ (k : Int) := by omega
      have hc0 := HR.out k hlt
      dsimp only at hc0
      rw [runL_at hlt] at hc0
      have e1 : ((s + k : Nat) : Int) = (s : Int) + k := by omega
      rw [e1] at hc0
      clear e1
      have hne1 : (((s : Int) + k) != ((s : Int) + k)) = false := by simp
      have hw1 : IntKind.i64.wrap ((s : Int) + k + 1) = (s : Int) + k + 1 := wrap_in _ (by unfold I64; omega)
      go_wp2_with fail
      go_roundw
      case rel => exact ⟨k + 1, by omega, by go_num, by go_num, by first | rfl | trivial⟩
      case measure => simp [intOf]; omega
    · have hki : ¬ (k : Int) < (n : Int) := by omega
      have hkn : k = n := by omega
      subst hkn
      go_wp2_with fail
      go_ret
      exact ⟨rfl, rfl⟩
set_option maxRecDepth 100000 in
set_option maxHeartbeats 800000 in
theorem markX_none (a : Option Addr) (c s : Nat) (w : World) : Calls Tryz.prog 94 #[.slice a 0 c, .int .i64 s] w fun e w' => e = .returned (.int .i64 (s : Int)) ∧ w = w' := by
  go_enter Tryz.func94, Tryz.ntmps94
  go_wp2_with fail
  refine wp_loop_rounds 1 ?_
  rw [rounds_succ]
  go_wp2_with fail
  go_ret
  exact ⟨rfl, rfl⟩
set_option maxRecDepth 100000 in
set_option maxHeartbeats 800000 in
theorem heldX_none (a : Option Addr) (c s : Nat) (w : World) : Calls Tryz.prog 96 #[.slice a 0 c, .int .i64 s] w fun e w' => e = .returned (.int .i64 (s : Int)) ∧ w = w' := by
  go_enter Tryz.func96, Tryz.ntmps96
  go_wp2_with fail
  refine wp_loop_rounds 1 ?_
  rw [rounds_succ]
  go_wp2_with fail
  go_ret
  exact ⟨rfl, rfl⟩
theorem int_cast {s n m : Nat} (h : s + n = m) : Value.int .i64 ((s : Int) + n) = .int .i64 (m : Int) := by rw [← h]; simp
theorem markX_any (v : Value) (B : Nat) (xs : List Int) (s m : Nat) (hm : s + xs.length = m) (hs : m ≤ 4398046511104) (w : World) (h : OwnX w B 3 v xs) :
    Calls Tryz.prog 94 #[v, .int .i64 s] w fun e w' => e = .returned (.int .i64 (m : Int)) ∧ OwnX w' B 3 v (runL s xs.length) ∧ Upon (fun g => v.ownBlock = some g) w w' := by
  by_cases h1 : 1 ≤ xs.length
  · obtain ⟨g, c, rfl, hB, hg, hc, hmx, hr⟩ := h.rw h1
    refine (markX_row g c xs.length c s 3 _ (by omega) w hr).mono ?_
    rintro e w' ⟨rfl, ho, hr2⟩
    refine ⟨by rw [int_cast hm], ?_, (Upon.of_only ho).mono (fun i _ e => by rw [e]; rfl)⟩
    have hr3 : Rw w' g 3 c xs.length (fun i => (runL s xs.length).getD i 0) := hr2.less (Nat.le_refl _) (fun j hj => by rw [runL_at hj]; omega)
    exact hr3.own (runL_len _ _).symm hB hc hmx
  · have h0 : xs = [] := List.eq_nil_of_length_eq_zero (by omega)
    subst h0
    obtain ⟨a, c, rfl⟩ := h.slice
    refine (markX_none a c s w).mono ?_
    rintro e w' ⟨rfl, rfl⟩
    have : s = m := by simpa using hm
    subst this
    exact ⟨rfl, h, Upon.refl _ _⟩
theorem heldX_any (a : Option Addr) (n c s m : Nat) (hm : s + n = m) (hs : m ≤ 4398046511104) (w : World) (h : Ints w a n (fun j => (runL s n).getD j 0)) :
    Calls Tryz.prog 96 #[.slice a n c, .int .i64 s] w fun e w' => e = .returned (.int .i64 (m : Int)) ∧ w = w' := by
  by_cases h1 : 1 ≤ n
  · obtain ⟨g, o, rfl, hg, hr⟩ := h.row h1
    refine (heldX_row g o n c s (by omega) w hr).mono ?_
    rintro e w' ⟨rfl, rfl⟩
    exact ⟨by rw [int_cast hm], rfl⟩
  · have h0 : n = 0 := by omega
    subst h0
    refine (heldX_none a c s w).mono ?_
    rintro e w' ⟨rfl, rfl⟩
    have : s = m := by simpa using hm
    subst this
    exact ⟨rfl, rfl⟩

/-! ### families -/
def totF (rs : List Fr) : Nat := ((rs.map Fr.xs).map List.length).sum
theorem totF_snoc (p : List Fr) (r : Fr) : totF (p ++ [r]) = totF p + r.xs.length := by unfold totF; simp
theorem totF_app (p q : List Fr) : totF (p ++ q) = totF p + totF q := by unfold totF; simp
theorem totF_cons (r : Fr) (q : List Fr) : totF (r :: q) = r.xs.length + totF q := by unfold totF; simp
def mkF : Nat → List Fr → List Fr
  | _, [] => []
  | s, r :: rs => ⟨r.g, r.c, runL s r.xs.length⟩ :: mkF (s + r.xs.length) rs
theorem mkF_snoc (s : Nat) (p : List Fr) (r : Fr) : mkF s (p ++ [r]) = mkF s p ++ [⟨r.g, r.c, runL (s + totF p) r.xs.length⟩] := by
  induction p generalizing s with
  | nil => simp [mkF, totF]
  | cons x p ih => rw [List.cons_append, mkF, ih, mkF, totF_cons, Nat.add_assoc]; rfl
theorem mkF_g (s : Nat) (p : List Fr) : (mkF s p).map Fr.g = p.map Fr.g := by
  induction p generalizing s with
  | nil => rfl
  | cons x p ih => rw [mkF, List.map_cons, ih]; rfl
theorem mkF_v (s : Nat) (p : List Fr) : (mkF s p).map Fr.v = p.map Fr.v := by
  induction p generalizing s with
  | nil => rfl
  | cons x p ih => rw [mkF, List.map_cons, ih, List.map_cons]; unfold Fr.v; rw [runL_len]
def runsL : Nat → List Nat → List (List Int)
  | _, [] => []
  | s, n :: ns => runL s n :: runsL (s + n) ns
theorem runsL_len (s : Nat) (ns : List Nat) : (runsL s ns).length = ns.length := by
  induction ns generalizing s with
  | nil => rfl
  | cons n ns ih => rw [runsL, List.length_cons, ih, List.length_cons]
theorem runsL_at (s : Nat) (ns : List Nat) (k : Nat) (hk : k < ns.length) : (runsL s ns).getD k [] = runL (s + (ns.take k).sum) (ns.getD k 0) := by
  induction ns generalizing s k with
  | nil => cases hk
  | cons n ns ih =>
    cases k with
    | zero => simp [runsL]
    | succ k =>
      rw [runsL, List.getD_cons_succ, ih _ _ (by simp at hk; omega), List.take_succ_cons, List.sum_cons, List.getD_cons_succ, Nat.add_assoc]
theorem mkF_xs (s : Nat) (p : List Fr) : (mkF s p).map Fr.xs = runsL s ((p.map Fr.xs).map List.length) := by
  induction p generalizing s with
  | nil => rfl
  | cons x p ih => rw [mkF, List.map_cons, ih]; rfl
theorem mkF_len (s : Nat) (p : List Fr) : (mkF s p).length = p.length := by
  have := congrArg List.length (mkF_g s p)
  simpa using this
theorem FB_mk {v : Value} {s : Nat} {rs : List Fr} {g : Nat} : FB v (mkF s rs) g ↔ FB v rs g := by
  have e : ∀ ps : List Fr, (∃ r ∈ ps, r.g = g) ↔ g ∈ ps.map Fr.g := fun ps => by rw [List.mem_map]
  unfold FB
  rw [e, e, mkF_g]

theorem Fams.swap {w w' : World} {B : Nat} {v : Value} {p q : List Fr} {r r' : Fr} (h : Fams w B v (p ++ r :: q)) (hg : r'.g = r.g) (hv : r'.v = r.v) (ho : OwnX w' B 3 r'.v r'.xs) (hu : Upon (fun g => r.g = g) w w') : Fams w' B v (p ++ r' :: q) := by
  have e1 : (p ++ r' :: q).map Fr.v = (p ++ r :: q).map Fr.v := by simp [hv]
  have e2 : (p ++ r' :: q).map Fr.g = (p ++ r :: q).map Fr.g := by simp [hg]
  have hd := h.dis
  have hin : r ∈ p ++ r :: q := by simp
  have hne : ∀ x, x ∈ p ∨ x ∈ q → r.g ≠ x.g := by
    intro x hx e
    rw [List.map_append, List.map_cons, List.nodup_append, List.nodup_cons] at hd
    obtain ⟨_, ⟨h1, _⟩, h2⟩ := hd
    rcases hx with hx | hx
    · exact h2 x.g (List.mem_map.2 ⟨x, hx, rfl⟩) r.g (List.mem_cons_self) e.symm
    · exact h1 (List.mem_map.2 ⟨x, hx, e.symm⟩)
  refine ⟨?_, fun x hx => ?_, by rw [e2]; exact hd, fun x hx => ?_⟩
  · rw [e1]
    exact h.seq.same hu.size (fun g hg => hu.block g (h.seq.lt g hg).2 (fun e => h.apart r hin (by rw [e]; exact hg)))
  · rcases List.mem_append.1 hx with hx | hx
    · have hm : x ∈ p ++ r :: q := List.mem_append.2 (.inl hx)
      exact (h.row x hm).blk (hu.block _ (h.lt x hm).2 (hne x (.inl hx)))
    · rcases List.mem_cons.1 hx with rfl | hx
      · exact ho
      · have hm : x ∈ p ++ r :: q := List.mem_append.2 (.inr (List.mem_cons.2 (.inr hx)))
        exact (h.row x hm).blk (hu.block _ (h.lt x hm).2 (hne x (.inr hx)))
  · have : x.g ∈ (p ++ r :: q).map Fr.g := by rw [← e2]; exact List.mem_map.2 ⟨x, hx, rfl⟩
    obtain ⟨y, hy, e⟩ := List.mem_map.1 this
    rw [← e]
    exact h.apart y hy

/-- families of which the first ones are marked -/
structure MkS (w : World) (B : Nat) (v : Value) (rs : List Fr) (s : Nat) (p q : List Fr) (k m : Nat) (wr : World) : Prop where
  eq : rs = p ++ q
  len : p.length = k
  sum : s + totF p = m
  fams : Fams wr B v (mkF s p ++ q)
  up : Upon (fun g => ∃ r ∈ rs, r.g = g) w wr
theorem MkS.step {w wr w' : World} {B s k m m2 : Nat} {v : Value} {rs p q : List Fr} {r : Fr} (h : MkS w B v rs s p (r :: q) k m wr) (hm : m + r.xs.length = m2)
    (ho : OwnX w' B 3 r.v (runL m r.xs.length)) (hu : Upon (fun g => r.v.ownBlock = some g) wr w') : MkS w B v rs s (p ++ [r]) q (k + 1) m2 w' := by
  have hu' : Upon (fun g => r.g = g) wr w' := hu.mono (fun i _ e => by rw [Fr.block] at e; injection e)
  have hin : r ∈ rs := by rw [h.eq]; simp
  have hv : Fr.v ⟨r.g, r.c, runL m r.xs.length⟩ = r.v := by unfold Fr.v; rw [runL_len]
  refine ⟨by rw [h.eq]; simp, by rw [List.length_append, h.len]; rfl, by rw [totF_snoc, ← hm, ← h.sum, Nat.add_assoc], ?_, h.up.trans hu' (fun i _ e => ⟨r, hin, e⟩)⟩
  have := h.fams.swap (r' := ⟨r.g, r.c, runL m r.xs.length⟩) rfl hv (by rw [hv]; exact ho) hu'
  rw [mkF_snoc, h.sum, List.append_assoc]
  exact this
/-- families are marked -/
def MarkF (B : Nat) (v : Value) (rs : List Fr) (s m : Nat) (w : World) (e : Ending) (w' : World) : Prop :=
  e = .returned (.int .i64 (m : Int)) ∧ Fams w' B v (mkF s rs) ∧ Upon (fun g => ∃ r ∈ rs, r.g = g) w w'

set_option maxRecDepth 100000 in
set_option maxHeartbeats 800000 in
theorem markNest_none (a : Option Addr) (c s : Nat) (w : World) : Calls Tryz.prog 95 #[.slice a 0 c, .int .i64 s] w fun e w' => e = .returned (.int .i64 (s : Int)) ∧ w = w' := by
  go_enter Tryz.func95, Tryz.ntmps95
  go_wp2_with fail
  refine wp_loop_rounds 1 ?_
  rw [rounds_succ]
  go_wp2_with fail
  go_ret
  exact ⟨rfl, rfl⟩

set_option maxRecDepth 100000 in
set_option maxHeartbeats 1600000 in
theorem markNest_row (B g o c s m n : Nat) (rs : List Fr) (hm : s + totF rs = m) (hs : m ≤ 4398046511104) (hn : rs.length = n) (w : World) (h : Fams w B (.slice (some ⟨g, o, none⟩) n c) rs)
    (hc : ∀ (wr : World) (ps : List Fr), ps.map Fr.v = rs.map Fr.v → Fams wr B (.slice (some ⟨g, o, none⟩) n c) ps → ∀ i u, (ps.map Fr.v)[i]? = some u → wr.cell? ⟨g, o + i, none⟩ = some u) (hnm : n ≤ 9223372036854775807) :
    Calls Tryz.prog 95 #[.slice (some ⟨g, o, none⟩) n c, .int .i64 s] w (MarkF B (.slice (some ⟨g, o, none⟩) n c) rs s m w) := by
  have H : Hid (MkS w B (.slice (some ⟨g, o, none⟩) n c) rs s [] rs 0 s w) := Lib.hid ⟨rfl, rfl, by simp [totF], h, Upon.refl _ _⟩
  have HM := Lib.hid hm; have HN := Lib.hid hn; have HC := Lib.hid hc
  clear h hm hn hc
  go_enter Tryz.func95, Tryz.ntmps95
  go_wp2_with fail
  go_loopw [1, 5] (fun v i wr => ∃ (k j : Nat) (p q : List Fr), k ≤ n ∧ i = .int .i64 k ∧ v = .int .i64 j ∧ Hid (MkS w B (.slice (some ⟨g, o, none⟩) n c) rs s p q k j wr)) (fun _ i _ => n - (intOf i).toNat)
  case atStart => exact ⟨0, s, [], rs, Nat.zero_le _, rfl, rfl, H⟩
  case round =>
    clear H
    obtain ⟨k, j, p, q, hk, rfl, rfl, H⟩ := hrel
    by_cases hlt : k < n
    · have hki : (k : Int) < (n : Int) := by omega
      have hk0 : (0 : Int) ≤ (k : Int) := by omega
      cases q with
      | nil => exact absurd H.out.len (by have h1 := H.out.eq; have h2 := HN.out; rw [h1] at h2; simp at h2; omega)
      | cons r q =>
        obtain ⟨rg, rc, xs⟩ := r
        have hcell : wr.cell? ⟨g, o + k, none⟩ = some (.slice (some ⟨rg, 0, none⟩) xs.length rc) := HC.out wr (mkF s p ++ ⟨rg, rc, xs⟩ :: q) (by rw [H.out.eq, List.map_append, mkF_v, List.map_append]) H.out.fams k _ (by
          rw [List.map_append, List.getElem?_append_right (by rw [List.length_map, mkF_len, H.out.len]; exact Nat.le_refl _), List.length_map, mkF_len, H.out.len, Nat.sub_self]; rfl)
        obtain ⟨m2, hm2⟩ : ∃ m2, j + xs.length = m2 := ⟨_, rfl⟩
        have hmb : m2 ≤ 4398046511104 := by
          have h1 := HM.out
          have h2 := H.out.sum
          rw [H.out.eq, totF_app, totF_cons] at h1
          have h3 : (Fr.mk rg rc xs).xs.length = xs.length := rfl
          omega
        have HM2 := Lib.hid hm2
        have HO := Lib.hid (show OwnX wr B 3 (.slice (some ⟨rg, 0, none⟩) xs.length rc) xs from H.out.fams.row ⟨rg, rc, xs⟩ (by simp))
        clear hm2
        go_wp2_with fail
        refine (markX_any _ B xs j m2 HM2.out hmb _ HO.out).mono ?_
        rintro e w5 ⟨rfl, ho, hu⟩
        have H5 := Lib.hid (H.out.step HM2.out ho hu)
        clear ho hu hcell
        go_wp2_with fail
        go_roundw
        case rel => exact ⟨k + 1, m2, _, _, by omega, by go_num, rfl, H5⟩
        case measure => simp [intOf]; omega
    · have hki : ¬ (k : Int) < (n : Int) := by omega
      have HD : Hid (MarkF B (.slice (some ⟨g, o, none⟩) n c) rs s m w (.returned (.int .i64 (j : Int))) wr) := Lib.hid (by
        have hq : q = [] := List.eq_nil_of_length_eq_zero (by have h1 := H.out.eq; have h2 := HN.out; have h3 := H.out.len; rw [h1, List.length_append] at h2; omega)
        subst hq
        have he : rs = p := by have := H.out.eq; simpa using this
        have hj : j = m := by rw [← H.out.sum, ← HM.out, he]
        have hf := H.out.fams
        rw [List.append_nil] at hf
        have hup := H.out.up
        refine ⟨by rw [hj], ?_, hup⟩
        rw [he]; exact hf)
      go_wp2_with fail
      go_ret
      exact HD.out
theorem fams_cells {w : World} {B g o n c : Nat} {rs : List Fr} (hn : 1 ≤ rs.length) (h : Fams w B (.slice (some ⟨g, o, none⟩) n c) rs) : ∀ i u, (rs.map Fr.v)[i]? = some u → w.cell? ⟨g, o + i, none⟩ = some u := by
  rcases h.seq with ⟨e, _⟩ | ⟨g', o', c', e, _, _, _, _, h3⟩
  · have h0 : rs.length = 0 := by rw [← List.length_map (f := Fr.v), e]; rfl
    omega
  · injection e with e1 e2 e3
    injection e1 with e1
    injection e1 with e4 e5
    subst e4; subst e5
    exact h3
theorem markNest_any (v : Value) (B : Nat) (rs : List Fr) (s m : Nat) (hm : s + totF rs = m) (hs : m ≤ 4398046511104) (w : World) (h : Fams w B v rs) :
    Calls Tryz.prog 95 #[v, .int .i64 s] w (MarkF B v rs s m w) := by
  by_cases h1 : 1 ≤ rs.length
  · rcases h.seq with ⟨e, _⟩ | ⟨g, o, c, rfl, hc, hmx, _⟩
    · have h0 : rs.length = 0 := by rw [← List.length_map (f := Fr.v), e]; rfl
      omega
    · rw [List.length_map] at h hc ⊢
      unfold maxLen at hmx
      exact markNest_row B g o c s m rs.length rs hm hs rfl w h (fun wr ps hp hf => fams_cells (by have := congrArg List.length hp; rw [List.length_map, List.length_map] at this; omega) hf) (by omega)
  · have h0 : rs = [] := List.eq_nil_of_length_eq_zero (by omega)
    subst h0
    obtain ⟨a, c, rfl⟩ := h.seq.slice
    refine (markNest_none a c s w).mono ?_
    rintro e w' ⟨rfl, rfl⟩
    have : s = m := by simpa [totF] using hm
    subst this
    exact ⟨rfl, h, Upon.refl _ _⟩

set_option maxRecDepth 100000 in
set_option maxHeartbeats 1600000 in
theorem heldNest_any (b : Option Addr) (ns : List Nat) (c s m : Nat) (hm : s + ns.sum = m) (hs : m ≤ 4398046511104) (w : World) (h : Nest w b (runsL s ns)) :
    Calls Tryz.prog 97 #[.slice b ns.length c, .int .i64 s] w fun e w' => e = .returned (.int .i64 (m : Int)) ∧ w = w' := by
  have h63 := h.1
  rw [runsL_len] at h63
  obtain ⟨n, hn⟩ : ∃ n, ns.length = n := ⟨_, rfl⟩
  have H := Lib.hid h; have HM := Lib.hid hm; have HN := Lib.hid hn
  rw [hn] at h63 ⊢
  clear h hm hn
  go_enter Tryz.func97, Tryz.ntmps97
  go_wp2_with fail
  go_loopw [1, 5] (fun v i wr => ∃ k j : Nat, k ≤ n ∧ i = .int .i64 k ∧ v = .int .i64 j ∧ Hid (s + (ns.take k).sum = j) ∧ w = wr) (fun _ i _ => n - (intOf i).toNat)
  case atStart => exact ⟨0, s, Nat.zero_le _, rfl, rfl, Lib.hid (by simp), rfl⟩
  case round =>
    obtain ⟨k, j, hk, rfl, rfl, HJ, rfl⟩ := hrel
    by_cases hlt : k < n
    · have hki : (k : Int) < (n : Int) := by omega
      have hk0 : (0 : Int) ≤ (k : Int) := by omega
      obtain ⟨bk, o, a1, c1, rfl, hlc, hi, hcell⟩ := H.out.at (show k < (runsL s ns).length by rw [runsL_len, HN.out]; exact hlt)
      have hc := hcell w (Below.refl _ _)
      rw [runsL_at s ns k (by rw [HN.out]; exact hlt), HJ.out] at hc hi
      obtain ⟨z, hz⟩ : ∃ z, ns.getD k 0 = z := ⟨_, rfl⟩
      rw [hz, runL_len] at hc hi
      obtain ⟨m2, hm2⟩ : ∃ m2, j + z = m2 := ⟨_, rfl⟩
      have hks : k < ns.length := by rw [HN.out]; exact hlt
      have hsum : (ns.take (k + 1)).sum = (ns.take k).sum + z := by
        have hz' : ns[k] = z := by rw [← hz, List.getD_eq_getElem?_getD, List.getElem?_eq_getElem hks]; rfl
        rw [List.take_succ_eq_append_getElem hks, List.sum_append, List.sum_cons, List.sum_nil, hz', Nat.add_zero]
      have hle : (ns.take (k + 1)).sum ≤ ns.sum := by
        have := congrArg List.sum (List.take_append_drop (k + 1) ns)
        rw [List.sum_append] at this
        omega
      have HJ2 := Lib.hid (show s + (ns.take (k + 1)).sum = m2 by rw [hsum, ← hm2, ← HJ.out]; omega)
      have hmb : m2 ≤ 4398046511104 := by have h1 := HJ2.out; have h2 := HM.out; omega
      have HM2 := Lib.hid hm2
      have HI := Lib.hid hi
      have hge : decide ((m2 : Int) < 0) = false := decide_eq_false (by omega)
      clear hm2 hz hi hcell hsum hle hlc hks HJ
      go_wp2_with fail
      refine (heldX_any a1 z c1 j m2 HM2.out hmb _ HI.out).mono ?_
      rintro e w5 ⟨rfl, rfl⟩
      go_wp2_with fail
      go_roundw
      case rel => exact ⟨k + 1, m2, by omega, by go_num, rfl, HJ2, by first | rfl | trivial⟩
      case measure => simp [intOf]; omega
    · have hki : ¬ (k : Int) < (n : Int) := by omega
      have hjm : j = m := by
        rw [← HJ.out, ← HM.out, List.take_of_length_le (by rw [HN.out]; omega)]
      clear HJ
      subst hjm
      go_wp2_with fail
      go_ret
      exact ⟨rfl, rfl⟩
end Go.Proofs.YthaickihoagnmaaGreatDoor

namespace Go.Proofs.YthaickihoagnmaaGreatDoor
set_option linter.unusedVariables false
set_option linter.unusedSimpArgs false
open Go.RowKit Go.Maps

/-- the blocks of a desk -/
def DkBl (v1 v2 : Value) (rs : List Fr) (g : Nat) : Prop := v1.ownBlock = some g ∨ FB v2 rs g
theorem DeskG.ltB {w : World} {B : Nat} {v1 v2 : Value} {xs : List Int} {rs : List Fr} (h : DeskG w B v1 v2 xs rs) : ∀ g, DkBl v1 v2 rs g → B ≤ g ∧ g < w.heap.size := by
  rintro g (hg | hg)
  · exact h.now.lt hg
  · exact h.past.ltB g hg
theorem Fams.upon {F : Nat → Prop} {w w' : World} {B : Nat} {v : Value} {rs : List Fr} (h : Fams w B v rs) (hu : Upon F w w') (hF : ∀ g, FB v rs g → ¬ F g) : Fams w' B v rs :=
  h.same hu.size (fun g hg => hu.block g (h.ltB g hg).2 (hF g hg))
theorem DeskG.upon {F : Nat → Prop} {w w' : World} {B : Nat} {v1 v2 : Value} {xs : List Int} {rs : List Fr} (h : DeskG w B v1 v2 xs rs) (hu : Upon F w w') (hF : ∀ g, DkBl v1 v2 rs g → ¬ F g) : DeskG w' B v1 v2 xs rs :=
  ⟨hu.ownX h.now (fun g hg => hF g (.inl hg)), h.past.upon hu (fun g hg => hF g (.inr hg)), h.sep⟩
/-- a desk is marked -/
def MarkD (B : Nat) (v1 v2 : Value) (xs : List Int) (rs : List Fr) (s m : Nat) (w : World) (e : Ending) (w' : World) : Prop :=
  e = .returned (.int .i64 (m : Int)) ∧ DeskG w' B v1 v2 (runL s xs.length) (mkF (s + xs.length) rs) ∧ Upon (DkBl v1 v2 rs) w w'

set_option maxRecDepth 100000 in
set_option maxHeartbeats 1600000 in
theorem markDesk_any (v1 v2 : Value) (B : Nat) (xs : List Int) (rs : List Fr) (s m : Nat) (hm : s + xs.length + totF rs = m) (hs : m ≤ 4398046511104) (w : World) (h : DeskG w B v1 v2 xs rs) :
    Calls Tryz.prog 32 #[.agg #[v1, v2], .int .i64 s] w (MarkD B v1 v2 xs rs s m w) := by
  have hal := alloc_below w (.cells #[v1, v2] 31)
  have hblk := Blk2.new w 31 v1 v2
  obtain ⟨j, hj⟩ : ∃ j, s + xs.length = j := ⟨_, rfl⟩
  have HNE := Lib.hid (fun g hg => Nat.ne_of_lt (h.ltB g hg).2)
  have H := Lib.hid (h.kept hal)
  have HBL := Lib.hid hblk
  have HU : Hid (Upon (DkBl v1 v2 rs) w (w.alloc (.cells #[v1, v2] 31))) := Lib.hid (Upon.of_below hal)
  have HJ := Lib.hid hj
  have HM := Lib.hid (show j + totF rs = m by omega)
  have hjm : j ≤ 4398046511104 := by omega
  obtain ⟨a, c, e1⟩ := h.now.slice
  obtain ⟨b, c2, e2⟩ := h.past.seq.slice
  rw [List.length_map] at e2
  subst e1; subst e2
  clear h hal hblk hj hm
  go_enter Tryz.func32, Tryz.ntmps32
  go_wp2_with fail
  refine (markX_any _ B xs s j HJ.out hjm _ H.out.now).mono ?_
  rintro e w1 ⟨rfl, ho, hu⟩
  have HF1 := Lib.hid (H.out.past.upon hu (fun g hf hg => H.out.sep g hg hf))
  have hn1 : ¬ (Value.slice a xs.length c).ownBlock = some w.heap.size := fun e => HNE.out _ (.inl e) rfl
  have HB1 : Hid (Blk2 w1 w.heap.size 31 (.slice a xs.length c) (.slice b rs.length c2)) := Lib.hid ((hu.block _ HBL.out.lt hn1).trans HBL.out)
  have HU1 := Lib.hid (HU.out.trans hu (fun i _ e => .inl e))
  have HO1 := Lib.hid ho
  clear ho hu hn1
  have hc1 := HB1.out.cell.2
  go_wp2_with fail
  refine (markNest_any _ B rs j m HM.out hs _ HF1.out).mono ?_
  rintro e w2 ⟨rfl, hf, hu⟩
  have HO2 := Lib.hid (hu.ownX HO1.out (fun g hg ⟨r, hr, e⟩ => H.out.sep g hg (.inr ⟨r, hr, e⟩)))
  have HU2 := Lib.hid (HU1.out.trans hu (fun i _ e => .inr (.inr e)))
  have HF2 := Lib.hid hf
  have HSP := Lib.hid (fun g hg hf => H.out.sep g hg (FB_mk.1 hf) : ∀ g, (Value.slice a xs.length c).ownBlock = some g → ¬ FB (.slice b rs.length c2) (mkF j rs) g)
  clear hf hu hc1
  go_wp2_with fail
  go_ret
  unfold MarkD
  rw [HJ.out]
  exact ⟨rfl, ⟨HO2.out, HF2.out, HSP.out⟩, HU2.out⟩

set_option maxRecDepth 100000 in
set_option maxHeartbeats 1600000 in
theorem heldDesk_any (d : Value) (n : Nat) (ns : List Nat) (s m : Nat) (hm : s + n + ns.sum = m) (hs : m ≤ 4398046511104) (w : World) (h : DeskR w d (runL s n) (runsL (s + n) ns)) :
    Calls Tryz.prog 33 #[d, .int .i64 s] w fun e w' => e = .returned (.int .i64 (m : Int)) ∧ Below w.heap.size w w' := by
  obtain ⟨a, c, b, c2, rfl, hi, hn⟩ := h.parts
  rw [runL_len] at hi ⊢
  rw [runsL_len]
  obtain ⟨j, hj⟩ : ∃ j, s + n = j := ⟨_, rfl⟩
  rw [hj] at hn
  have hal := alloc_below w (.cells #[.slice a n c, .slice b ns.length c2] 31)
  have HI := Lib.hid (hi.below hal (Nat.le_refl _)); have HN := Lib.hid (hn.kept hal)
  have HAL := Lib.hid hal
  have HBL := Lib.hid (Blk2.new w 31 (.slice a n c) (.slice b ns.length c2))
  have HJ := Lib.hid hj
  have HM := Lib.hid (show j + ns.sum = m by omega)
  have hjm : j ≤ 4398046511104 := by omega
  have hge1 : decide ((j : Int) < 0) = false := decide_eq_false (by omega)
  have hge2 : decide ((m : Int) < 0) = false := decide_eq_false (by omega)
  clear h hi hn hal hj hm
  go_enter Tryz.func33, Tryz.ntmps33
  go_wp2_with fail
  refine (heldX_any a n c s j HJ.out hjm _ HI.out).mono ?_
  rintro e w1 ⟨rfl, rfl⟩
  have hc1 := HBL.out.cell.2
  go_wp2_with fail
  refine (heldNest_any b ns c2 j m HM.out hs _ HN.out).mono ?_
  rintro e w2 ⟨rfl, rfl⟩
  go_wp2_with fail
  go_ret
  exact ⟨rfl, HAL.out⟩
/-- a marked desk can be read -/
theorem DeskG.marked {w : World} {B s m : Nat} {v1 v2 : Value} {xs : List Int} {rs : List Fr} (h : DeskG w B v1 v2 (runL s xs.length) (mkF (s + xs.length) rs)) (hm : s + xs.length + totF rs = m) (hs : m ≤ 4398046511104) :
    DeskR w (.agg #[v1, v2]) (runL s xs.length) (runsL (s + xs.length) ((rs.map Fr.xs).map List.length)) := by
  have key : ∀ (j : Nat) (ps : List Fr), j + totF ps ≤ 4398046511104 → ∀ r ∈ mkF j ps, r.xs.length ≤ 9223372036854775807 ∧ I64s r.xs := by
    intro j ps
    induction ps generalizing j with
    | nil => intro _ r hr; cases hr
    | cons x ps ih =>
      intro hj r hr
      rw [totF_cons] at hj
      rcases List.mem_cons.1 hr with rfl | hr
      · exact ⟨by show (runL j x.xs.length).length ≤ _; rw [runL_len]; omega, runL_I64 (by omega)⟩
      · exact ih (j + x.xs.length) (by omega) r hr
  rw [← mkF_xs]
  exact h.read ⟨by rw [runL_len]; omega, runL_I64 (by omega)⟩ (key _ _ (by omega))
end Go.Proofs.YthaickihoagnmaaGreatDoor

namespace Go.Proofs.YthaickihoagnmaaGreatDoor
set_option linter.unusedVariables false
set_option linter.unusedSimpArgs false
open Go.RowKit Go.Maps

theorem info_parts3 {t : TypeId} {z : Value} {s b : Nat} (h : (Tryz.prog.info? t).map (fun i => (i.zero, i.size, i.bytes)) = some (some z, s, b)) : ∃ i, Tryz.prog.info? t = some i ∧ i.zero = some z ∧ i.size = s ∧ i.bytes = b := by
  obtain ⟨i, hi, hzz⟩ := Option.map_eq_some_iff.1 h
  simp only [Prod.mk.injEq] at hzz
  exact ⟨i, hi, hzz.1, hzz.2.1, hzz.2.2⟩
theorem row_succ {w : World} {B n s : Nat} {e : TypeId} {v : Value} {xs : List Value} (h : w.ownsRow B e s v (n + 1) xs) (hs : 0 < s) : ∃ g c, v = .slice (some ⟨g, 0, none⟩) (n + 1) c := by
  rcases h.2 with ⟨h1, _⟩ | ⟨g, cap, cur, hv, _⟩
  · have := h.1
    subst h1
    have h2 := h.2
    rcases h2 with ⟨h3, h4⟩ | ⟨g, cap, cur, hv, _⟩
    · omega
    · exact ⟨g, cap, hv⟩
  · exact ⟨g, cap, hv⟩

/-- a family is put behind families -/
theorem append_fr {ops : Array Oper} {rest : List Oper} {o : Oper} {a : Act} {Q : Exit → Act → World → Prop} (hgd : o.guard = none) (s x : Operand)
    (ho : o.op = .call { callee := .builtin .append, args := #[s, x], argTypes := #[29, 29] })
    (B : Nat) (v : Value) (rs : List Fr) (y : Fr) (w : World) (hs : a.eval s = v) (hx : a.eval x = .slice (some ⟨w.heap.size, 0, none⟩) 1 1) (h : FamsO w B v rs) (hl : rs.length ≤ 1000) (hy : OwnX w B 3 y.v y.xs)
    (h1 : ∀ r ∈ rs, r.g ≠ y.g) (h2 : v.ownBlock ≠ some y.g) (hB : B ≤ w.heap.size)
    (hk : ∀ g c w', FamsO w' B (.slice (some ⟨g, 0, none⟩) (rs.length + 1) c) (rs ++ [y]) → Below B w w' → Upon (fun q => v.ownBlock = some q) w w' → (v.ownBlock = some g ∨ g = w.heap.size + 1) → wpList Tryz.prog ops Q rest (a.put o.dst (.slice (some ⟨g, 0, none⟩) (rs.length + 1) c)) w') :
    wpList Tryz.prog ops Q (o :: rest) a (w.alloc (.cells #[y.v] 28)) := by
  obtain ⟨j0, hjj, hy0, hy1, hy2⟩ := info_parts3 Tryz.infoSl
  refine wpList_append_own_at _ hgd s x 29 ho B 28 j0 (.slice none 0 0) 1 24 Tryz.underlying29 hjj hy0 hy1 hy2 rfl (by decide) v rs.length (rs.map Fr.v) hs (h.own.alloc _) ⟨w.heap.size, 0, none⟩ 1 1 [y.v] hx rfl (fun j u hj => cell_one_new w y.v 28 j u hj)
    (by intro u hu; simp at hu; subst hu; rfl) (by unfold maxLen; omega) (by omega) (by rw [alloc_size]; omega) ?_
  intro v' w' hown hgrow _ hat
  have hat' : v'.ownBlock = v.ownBlock ∨ v'.ownBlock = some (w.heap.size + 1) := by rw [alloc_size] at hat; exact hat
  have hsn := h.snoc hy h1 h2 hown hgrow hat'
  have hup : Upon (fun q => v.ownBlock = some q) w w' := by
    have q1 : Upon (fun q => v.ownBlock = some q) w (w.alloc (.cells #[y.v] 28)) := (Upon.refl _ _).alloc _
    exact q1.trans (Upon.of_grown hgrow) (fun i _ e => e)
  obtain ⟨g, c, rfl⟩ := row_succ hown (by decide)
  exact hk g c w' hsn (hup.below (fun k hk => (World.ownsRow.lt h.own k hk).1) hB) hup (by
    rcases hat' with e | e
    · exact .inl e.symm
    · exact .inr (by injection e))

/-- a family's clone -/
def ClonF (xs : List Int) (w : World) (e : Ending) (w' : World) : Prop :=
  ∃ g c, e = .returned (.slice (some ⟨g, 0, none⟩) xs.length c) ∧ w.heap.size ≤ g ∧ g < w'.heap.size ∧ OwnX w' w.heap.size 3 (.slice (some ⟨g, 0, none⟩) xs.length c) xs ∧ Below w.heap.size w w'
theorem cloneFr_any (a : Option Addr) (c : Nat) (xs : List Int) (hf : famL xs = true) (w : World) (hi : Ints w a xs.length (fun j => xs.getD j 0)) :
    Calls Tryz.prog 110 #[.slice a xs.length c] w (ClonF xs w) := by
  have hlen := famL_len hf
  obtain ⟨b, o, rfl, hbl, hrow⟩ := hi.row hlen.1
  refine (cloneI_any b o xs.length c (fun j => xs.getD j 0) hlen.1 (by omega) w hrow hbl).mono ?_
  rintro e w2 ⟨v, rfl, hown, hb⟩
  rw [famL_get] at hown
  obtain ⟨g, c2, rfl, h1, h2, _⟩ := hown.shape hlen.1
  exact ⟨g, c2, rfl, h1, h2, hown, hb⟩

/-- families are copied, as far as it is done -/
structure CopS (L : List (List Int)) (w : World) (k : Nat) (v : Value) (rs : List Fr) (wr : World) : Prop where
  xs : rs.map Fr.xs = L.take k
  len : rs.length = k
  own : FamsO wr w.heap.size v rs
  bel : Below w.heap.size w wr
/-- families of one's own are handed back -/
def GivesF (L : List (List Int)) (w : World) (e : Ending) (w' : World) : Prop := ∃ a c rs, e = .returned (.slice a L.length c) ∧ FamsO w' w.heap.size (.slice a L.length c) rs ∧ rs.map Fr.xs = L ∧ Below w.heap.size w w'
theorem CopS.step {L : List (List Int)} {w wr w5 : World} {k : Nat} {v v' : Value} {rs : List Fr} {g c : Nat} {l : List Int} (h : CopS L w k v rs wr) (hk : k < L.length) (hl : L.getD k [] = l) (hb5 : Below w.heap.size w w5)
    (ho : FamsO w5 w.heap.size v' (rs ++ [⟨g, c, l⟩])) : CopS L w (k + 1) v' (rs ++ [⟨g, c, l⟩]) w5 := by
  refine ⟨?_, by rw [List.length_append, h.len]; rfl, ho, hb5⟩
  rw [List.map_append, h.xs, List.take_add_one, List.getElem?_eq_getElem hk]
  rw [List.getD_eq_getElem?_getD, List.getElem?_eq_getElem hk] at hl
  rw [← hl]; rfl
theorem fam_at {L : List (List Int)} (h : ∀ l ∈ L, famL l = true) {k : Nat} (hk : k < L.length) : famL (L.getD k []) = true := by
  rw [List.getD_eq_getElem?_getD, List.getElem?_eq_getElem hk]
  exact h _ (List.getElem_mem hk)

set_option maxRecDepth 100000 in
set_option maxHeartbeats 1600000 in
theorem copies_any (b : Option Addr) (L : List (List Int)) (c : Nat) (h8 : L.length ≤ 100) (hf : ∀ l ∈ L, famL l = true) (w : World) (h : Nest w b L) :
    Calls Tryz.prog 111 #[.slice b L.length c] w (GivesF L w) := by
  have H := Lib.hid h; have HF := Lib.hid hf
  obtain ⟨n, hnn⟩ : ∃ n, L.length = n := ⟨_, rfl⟩
  have HN := Lib.hid hnn
  rw [hnn] at h8 ⊢
  have HST : Hid (CopS L w 0 (.slice none 0 0) [] w) := Lib.hid ⟨by simp, rfl, FamsO.nil _ _, Below.refl _ _⟩
  clear h hf hnn
  go_enter Tryz.func111, Tryz.ntmps111
  go_wp2_with fail
  go_loopw [3, 5, 8] (fun v _ i wr => ∃ (k : Nat) (rs : List Fr), k ≤ n ∧ i = .int .i64 k ∧ Hid (CopS L w k v rs wr)) (fun _ _ i _ => n - (intOf i).toNat)
  case atStart => exact ⟨0, [], Nat.zero_le _, rfl, HST⟩
  case round =>
    clear HST
    obtain ⟨k, rs, hk, rfl, HS⟩ := hrel
    obtain ⟨va, vc, hv⟩ := HS.out.own.fams.seq.slice
    rw [List.length_map, HS.out.len] at hv
    subst hv
    by_cases hlt : k < n
    · have hki : (k : Int) < (n : Int) := by omega
      have hk0 : (0 : Int) ≤ (k : Int) := by omega
      have hkl : k < L.length := by rw [HN.out]; exact hlt
      obtain ⟨bk, o, a1, c1, rfl, hlc, hi, hcell⟩ := H.out.at hkl
      have hc := hcell wr HS.out.bel
      have HI := Lib.hid (hi.below HS.out.bel (Nat.le_refl _))
      have HFK := Lib.hid (fam_at HF.out hkl)
      obtain ⟨l, hl⟩ : ∃ l, L.getD k [] = l := ⟨_, rfl⟩
      have HL := Lib.hid hl; have HKL := Lib.hid hkl
      rw [hl] at hc HI HFK
      clear hi hcell hl hkl hlc
      go_wp2_with fail
      refine (cloneFr_any a1 c1 l HFK.out _ HI.out).mono ?_
      rintro e w5 ⟨g5, c5, rfl, hg1, hg2, hown, hb5⟩
      have HO5 := Lib.hid (HS.out.own.kept hb5)
      have HY5 := Lib.hid (hown.base HS.out.bel.size)
      have HB5 := Lib.hid (below_onto HS.out.bel hb5)
      have HNE1 := Lib.hid (fun r hr e => by have := (HS.out.own.fams.lt r hr).2; omega : ∀ r ∈ rs, r.g ≠ g5)
      have HNE2 : Hid ((Value.slice va k vc).ownBlock ≠ some g5) := Lib.hid (fun e => by have := (HS.out.own.fams.seq.lt g5 e).2; omega)
      have HLE := Lib.hid HS.out.len
      clear hg1 hg2 hown hb5 hc
      go_wp2_with (at_builtin; refine append_fr rfl (.tmp 12) (.tmp 15) rfl w.heap.size (.slice va k vc) rs ⟨g5, c5, l⟩ w5 rfl rfl HO5.out (by rw [HLE.out]; omega) HY5.out HNE1.out HNE2.out HB5.out.size ?_)
      intro g6 c6 w6 ho6 hb6 _ _
      rw [HLE.out] at ho6 ⊢
      have HN6 := Lib.hid (HS.out.step HKL.out HL.out (HB5.out.trans hb6) ho6)
      clear ho6 hb6 HS
      go_wp2_with fail
      go_roundw
      case rel => exact ⟨k + 1, _, by omega, by go_num, HN6⟩
      case measure => simp [intOf]; omega
    · have hki : ¬ (k : Int) < (n : Int) := by omega
      have hkn : k = n := by omega
      subst hkn
      have HD : Hid (GivesF L w (.returned (.slice va k vc)) wr) := Lib.hid (by
        have hn := HN.out
        exact ⟨va, vc, rs, by rw [hn], by rw [hn]; exact HS.out.own, by rw [HS.out.xs, List.take_of_length_le (by rw [hn]; exact Nat.le_refl _)], HS.out.bel⟩)
      go_wp2_with fail
      go_ret
      exact HD.out
end Go.Proofs.YthaickihoagnmaaGreatDoor

namespace Go.Proofs.YthaickihoagnmaaGreatDoor
set_option linter.unusedVariables false
set_option linter.unusedSimpArgs false
open Go.RowKit Go.Maps

/-- what a desk's two blocks hold: the desk that came in, and the one that is handed back -/
def Two2 (w : World) (D R : Nat) (x y : Value) : Prop := Blk2 w D 31 x y ∧ Blk2 w R 31 (.slice none 0 0) (.slice none 0 0)
theorem Two2.kept {w w' : World} {D R : Nat} {x y : Value} (h : Two2 w D R x y) (hb : Below w.heap.size w w') : Two2 w' D R x y := ⟨h.1.kept hb h.1.lt, h.2.kept hb h.2.lt⟩
theorem deskA {w7 w8 : World} {B S7 : Nat} {v1 v2 : Value} {xs : List Int} {rs : List Fr} (h1 : OwnX w7 B 3 v1 xs) (hs : S7 = w7.heap.size) (hB : B ≤ S7) (h2 : FamsO w8 S7 v2 rs) (hb : Below w7.heap.size w7 w8) : DeskG w8 B v1 v2 xs rs :=
  ⟨h1.kept hb, h2.fams.base hB, fun g hg hf => by have q1 := (h1.lt hg).2; have q2 := (h2.fams.ltB g hf).1; omega⟩
theorem deskB' {w7 w8 : World} {B S7 : Nat} {v1 v2 : Value} {xs : List Int} {rs : List Fr} (h1 : FamsO w7 B v2 rs) (hs : S7 = w7.heap.size) (hB : B ≤ S7) (h2 : OwnX w8 S7 3 v1 xs) (hb : Below w7.heap.size w7 w8) : DeskG w8 B v1 v2 xs rs :=
  ⟨h2.base hB, (h1.kept hb).fams, fun g hg hf => by have q1 := (h2.lt hg).1; have q2 := (h1.fams.ltB g hf).2; omega⟩

set_option maxRecDepth 100000 in
set_option maxHeartbeats 3200000 in
theorem copied_any (d : Value) (xs : List Int) (L : List (List Int)) (hd : deskB xs L = true) (w : World) (h : DeskR w d xs L) :
    Calls Tryz.prog 52 #[d] w (CopyD xs L w) := by
  obtain ⟨a, c, b, c2, rfl, hi, hn⟩ := h.parts
  obtain ⟨hf, h8, hL⟩ := deskB_iff.1 hd
  have q1 := alloc_below w (.cells #[.slice a xs.length c, .slice b L.length c2] 31)
  have q2 := alloc_below (w.alloc (.cells #[.slice a xs.length c, .slice b L.length c2] 31)) (.cells #[.slice none 0 0, .slice none 0 0] 31)
  have b1 := (Blk2.new w 31 (.slice a xs.length c) (.slice b L.length c2)).kept q2 (by rw [alloc_size]; omega)
  have b2 := (Blk2.new (w.alloc (.cells #[.slice a xs.length c, .slice b L.length c2] 31)) 31 (.slice none 0 0) (.slice none 0 0))
  have hz : ((w.alloc (.cells #[.slice a xs.length c, .slice b L.length c2] 31)).alloc (.cells #[.slice none 0 0, .slice none 0 0] 31)).heap.size = w.heap.size + 2 := by rw [alloc_size, alloc_size]
  rw [alloc_size] at b2
  have hq := below_onto q1 q2
  have HI0 := hi.below hq (Nat.le_refl _)
  have HN0 := hn.kept hq
  have HF := Lib.hid hf; have HL := Lib.hid hL
  clear h hi hn q1 q2 hd hf hL
  go_enter Tryz.func52, Tryz.ntmps52
  go_wp2_with fail
  obtain ⟨w2, hw2⟩ : ∃ w2, (w.alloc (.cells #[.slice a xs.length c, .slice b L.length c2] 31)).alloc (.cells #[.slice none 0 0, .slice none 0 0] 31) = w2 := ⟨_, rfl⟩
  rw [hw2] at b1 b2 hz hq HI0 HN0 ⊢
  have HKS := Lib.hid (show ∀ W, Below w2.heap.size w2 W → (W.cell? ⟨w.heap.size, 0, none⟩ = some (.slice a xs.length c) ∧ W.cell? ⟨w.heap.size, 1, none⟩ = some (.slice b L.length c2)) from
      fun W hW => (b1.kept hW b1.lt).cell)
  have HI := Lib.hid HI0; have HN := Lib.hid HN0; have HBL := Lib.hid b2; have HQ := Lib.hid hq; have HZ2 := Lib.hid hz
  have HB6 := Lib.hid (Below.refl w2.heap.size w2)
  clear b1 b2 hz hq HI0 HN0 hw2
  go_region_held3 (fun W => W.cell? ⟨w.heap.size, 0, none⟩ = some (.slice a xs.length c) ∧ W.cell? ⟨w.heap.size, 1, none⟩ = some (.slice b L.length c2)) (first | exact HKS.out _ HB6.out | exact HKS.out _ HB6.out.drew | exact HKS.out _ (below_drewN HB6.out _) | go_keep)
    (first | (go_at_call 110; refine (cloneFr_any a c xs HF.out _ (HI.out.below ?_ (Nat.le_refl _))).mono ?_; (first | exact HB6.out | exact HB6.out.drew | exact below_drewN HB6.out _); rintro e w7 ⟨g7, c7, rfl, hg1, hg2, hown, hb7⟩; have HC := Lib.hid hown; have HCB := Lib.hid hb7; have HZ := Lib.hid (show Below w2.heap.size w2 w7 from (by first | exact below_onto HB6.out hb7 | exact below_onto HB6.out.drew hb7 | exact below_onto (below_drewN HB6.out _) hb7)); clear HB6; have HB6 := HZ; clear HZ hg1 hg2 hown hb7; have hR := HBL.out.kept HB6.out HBL.out.lt; have hx0 := hR.cell.1; have hx1 := hR.cell.2; have hx2 := hR.frozen 0; have hx3 := hR.frozen 1; clear hR) | (go_at_call 111; refine (copies_any b L c2 (by omega) HL.out _ (HN.out.kept ?_)).mono ?_; (first | exact HB6.out | exact HB6.out.drew | exact below_drewN HB6.out _); rintro e w8 ⟨p2, e2, rs, rfl, hfo, hrs, hb8⟩; have HR := Lib.hid hrs; have HFO := Lib.hid hfo; have HFB := Lib.hid hb8; have HZ := Lib.hid (show Below w2.heap.size w2 w8 from (by first | exact below_onto HB6.out hb8 | exact below_onto HB6.out.drew hb8 | exact below_onto (below_drewN HB6.out _) hb8)); clear HB6; have HB6 := HZ; clear HZ hfo hrs hb8; have hR := HBL.out.kept HB6.out HBL.out.lt; have hx0 := hR.cell.1; have hx1 := hR.cell.2; have hx2 := hR.frozen 0; have hx3 := hR.frozen 1; clear hR))
  all_goals
    have HD : Hid (DeskG w8 w2.heap.size (.slice (some ⟨g7, 0, none⟩) xs.length c7) (.slice p2 L.length e2) xs rs) := Lib.hid (by first | exact deskA HC.out rfl HCB.out.size HFO.out HFB.out | exact deskB' HFO.out rfl HFB.out.size HC.out HCB.out)
    have HR2 := Lib.hid (HBL.out.kept HB6.out HBL.out.lt)
    clear HC HCB HFO HFB hx0 hx1 hx2 hx3
    go_wp2_with fail
    refine bodyPost_ret (results_desk1 rfl _ _ (w.heap.size + 1) ((HR2.out.set0 (.slice (some ⟨g7, 0, none⟩) xs.length c7)).set1 (.slice p2 L.length e2)) rfl (by kernel_rfl)) rfl ?_
    exact ⟨_, _, rfl, rs, ((HD.out.put (p := ⟨w.heap.size + 1, 0, none⟩) (show w.heap.size + 1 < w2.heap.size by have := HZ2.out; omega)).put (p := ⟨w.heap.size + 1, 1, none⟩) (show w.heap.size + 1 < w2.heap.size by have := HZ2.out; omega)).base (by have := HZ2.out; omega), HR.out,
      (((below_onto HQ.out HB6.out).setCell (p := ⟨w.heap.size + 1, 0, none⟩) (show w.heap.size ≤ w.heap.size + 1 by omega) _).setCell (p := ⟨w.heap.size + 1, 1, none⟩) (show w.heap.size ≤ w.heap.size + 1 by omega) _)⟩
end Go.Proofs.YthaickihoagnmaaGreatDoor

namespace Go.Proofs.YthaickihoagnmaaGreatDoor
set_option linter.unusedVariables false
set_option linter.unusedSimpArgs false
open Go.RowKit Go.Maps

/-- a family is put behind families, in a region that draws -/
theorem step_fr {ops : Array Oper} {o : Oper} {a : Act} {K : Act → World → Prop} {Q : Exit → Act → World → Prop} {E : Prop} (hgd : o.guard = none) (s x : Operand)
    (ho : o.op = .call { callee := .builtin .append, args := #[s, x], argTypes := #[29, 29] })
    (B : Nat) (v : Value) (rs : List Fr) (y : Fr) (w : World) (hs : a.eval s = v) (hx : a.eval x = .slice (some ⟨w.heap.size, 0, none⟩) 1 1) (h : FamsO w B v rs) (hl : rs.length ≤ 1000) (hy : OwnX w B 3 y.v y.xs)
    (h1 : ∀ r ∈ rs, r.g ≠ y.g) (h2 : v.ownBlock ≠ some y.g) (hB : B ≤ w.heap.size)
    (hk : ∀ g c w', FamsO w' B (.slice (some ⟨g, 0, none⟩) (rs.length + 1) c) (rs ++ [y]) → Below B w w' → Upon (fun q => v.ownBlock = some q) w w' → K (a.put o.dst (.slice (some ⟨g, 0, none⟩) (rs.length + 1) c)) w') :
    if Region.wanted o (yielded ops a.tmps) = true then Oper.wp Tryz.prog o a (w.alloc (.cells #[y.v] 28)) K Q else E := by
  obtain ⟨j0, hjj, hy0, hy1, hy2⟩ := info_parts3 Tryz.infoSl
  refine step_append_lies _ hgd s x 29 ho B 28 j0 (.slice none 0 0) 1 24 Tryz.underlying29 hjj hy0 hy1 hy2 rfl (by decide) v rs.length (rs.map Fr.v) hs (h.own.alloc _) ⟨w.heap.size, 0, none⟩ 1 1 [y.v] hx rfl (fun j u hj => cell_one_new w y.v 28 j u hj)
    (by intro u hu; simp at hu; subst hu; rfl) (by omega) (by unfold maxLen; omega) (by omega) (by rw [alloc_size]; omega) (w.heap.size + 1) (by rw [alloc_size]) ?_
  intro g c w' hown hgrow hat hlt
  have hat' : (Value.slice (some ⟨g, 0, none⟩) (rs.length + 1) c).ownBlock = v.ownBlock ∨ (Value.slice (some ⟨g, 0, none⟩) (rs.length + 1) c).ownBlock = some (w.heap.size + 1) := by
    rcases hat with e | e
    · exact .inl e.symm
    · exact .inr (by rw [e]; rfl)
  have hsn := h.snoc hy h1 h2 hown hgrow hat'
  have hup : Upon (fun q => v.ownBlock = some q) w w' := by
    have q1 : Upon (fun q => v.ownBlock = some q) w (w.alloc (.cells #[y.v] 28)) := (Upon.refl _ _).alloc _
    exact q1.trans (Upon.of_grown hgrow) (fun i _ e => e)
  exact hk g c w' hsn (hup.below (fun k hk => (World.ownsRow.lt h.own k hk).1) hB) hup

/-- a family is copied onto an empty slice, in a region that draws -/
theorem step_cl {ops : Array Oper} {o : Oper} {a : Act} {K : Act → World → Prop} {Q : Exit → Act → World → Prop} {E : Prop} (hgd : o.guard = none) (s x : Operand)
    (ho : o.op = .call { callee := .builtin .append, args := #[s, x], argTypes := #[28, 28] })
    (xs : List Int) (h1 : 1 ≤ xs.length) (hl : xs.length ≤ 1000) (w : World) (g o' c : Nat) (hs : a.eval s = .slice (some ⟨w.heap.size, 0, none⟩) 0 0) (hx : a.eval x = .slice (some ⟨g, o', none⟩) xs.length c) (hr : Row w g o' xs.length (fun j => xs.getD j 0)) (hg : g < w.heap.size)
    (hk : ∀ g c w', OwnX w' w.heap.size 3 (.slice (some ⟨g, 0, none⟩) xs.length c) xs → Below w.heap.size w w' → w.heap.size ≤ g ∧ g < w'.heap.size → K (a.put o.dst (.slice (some ⟨g, 0, none⟩) xs.length c)) w') :
    if Region.wanted o (yielded ops a.tmps) = true then Oper.wp Tryz.prog o a (w.alloc (.cells #[] 3)) K Q else E := by
  obtain ⟨i0, hi0, hz0, hz1, hz2⟩ := info_parts Tryz.infoInt
  have hmade : OwnX (w.alloc (.cells #[] 3)) w.heap.size 3 (.slice (some ⟨w.heap.size, 0, none⟩) 0 0) [] := OwnX.made w _ (Nat.le_refl _) _
  refine step_append_lies _ hgd s x 28 ho w.heap.size 3 i0 (.int .i64 0) 1 8 Tryz.underlying28 hi0 hz0 hz1 hz2 rfl (by decide) (.slice (some ⟨w.heap.size, 0, none⟩) 0 0) 0 [] hs hmade ⟨g, o', none⟩ xs.length c (rowV (fun j => xs.getD j 0) xs.length) hx (by rw [rowV_len]; omega) (rowV_cells (hr.below (alloc_below w _) hg)) (rowV_one _ _)
    (by omega) (by unfold maxLen; omega) (by omega) (by rw [alloc_size]; omega) (w.heap.size + 1) (by rw [alloc_size]) ?_
  intro g' c' w' hown hgrow hat hlt
  have hb : Below w.heap.size w w' := (alloc_below w (.cells #[] 3)).trans ((Below.refl w.heap.size _).grown hgrow (by rw [alloc_size]; omega) (fun q hq => (World.ownsRow.lt hmade q hq).1))
  rw [Nat.zero_add, List.nil_append] at hown
  rw [Nat.zero_add]
  have hrx := OwnX.rowV hown
  rw [famL_get] at hrx
  exact hk g' c' w' hrx hb ⟨(hrx.lt (g := g') rfl).1, hlt⟩

/-- a desk of one's own that can be appended to -/
def GivesO (xs : List Int) (L : List (List Int)) (w w' : World) (v1 v2 : Value) : Prop :=
  ∃ rs, OwnX w' w.heap.size 3 v1 xs ∧ FamsO w' w.heap.size v2 rs ∧ (∀ g, v1.ownBlock = some g → ¬ FB v2 rs g) ∧ rs.map Fr.xs = L ∧ Below w.heap.size w w'
theorem GivesO.desk {xs : List Int} {L : List (List Int)} {w w' : World} {v1 v2 : Value} (h : GivesO xs L w w' v1 v2) : GivesD xs L w w' v1 v2 := by
  obtain ⟨rs, h1, h2, h3, h4, h5⟩ := h
  exact ⟨rs, ⟨h1, h2.fams, h3⟩, h4, h5⟩
/-- the state of a copy of a desk -/
structure L12S (xs : List Int) (L : List (List Int)) (x y : Value) (w : World) (D O : Nat) (v1 : Value) (k : Nat) (v2 : Value) (rs : List Fr) (wr : World) : Prop where
  d : Blk2 wr D 31 x y
  r : Blk2 wr (D + 1) 31 (.slice none 0 0) (.slice none 0 0)
  o : Blk2 wr O 31 v1 v2
  lt : D + 1 < O
  eq : D = w.heap.size
  now : OwnX wr (D + 2) 3 v1 xs
  low : ∀ g, v1.ownBlock = some g → g < O
  own : FamsO wr (O + 1) v2 rs
  xs : rs.map Fr.xs = L.take k
  len : rs.length = k
  bel : Below w.heap.size w wr
theorem FamsO.put {w : World} {B : Nat} {v u : Value} {rs : List Fr} {p : Addr} (h : FamsO w B v rs) (hp : p.block < B) : FamsO (w.setCell p u) B v rs :=
  h.same (fun g hg => set_blk (by have := (h.fams.ltB g hg).1; omega))
theorem L12S.step {xs : List Int} {L : List (List Int)} {x y : Value} {w wr w6 w7 : World} {D O k g6 c6 g7 c7 : Nat} {v1 v2 : Value} {rs : List Fr} {l : List Int} (h : L12S xs L x y w D O v1 k v2 rs wr) (hk : k < L.length) (hl : L.getD k [] = l)
    (hb6 : Below wr.heap.size wr w6) (hu7 : Upon (fun q => v2.ownBlock = some q) w6 w7) (ho7 : FamsO w7 (O + 1) (.slice (some ⟨g7, 0, none⟩) (rs.length + 1) c7) (rs ++ [⟨g6, c6, l⟩])) :
    L12S xs L x y w D O v1 (k + 1) (.slice (some ⟨g7, 0, none⟩) (rs.length + 1) c7) (rs ++ [⟨g6, c6, l⟩]) (w7.setCell ⟨O, 1, none⟩ (.slice (some ⟨g7, 0, none⟩) (rs.length + 1) c7)) := by
  have hv2 : ∀ q, v2.ownBlock = some q → O + 1 ≤ q ∧ q < wr.heap.size := fun q hq => h.own.fams.ltB q (.inl hq)
  have hOl : O < wr.heap.size := h.o.lt
  have key : ∀ q, q < wr.heap.size → q ≤ O → w7.heap[q]? = wr.heap[q]? := fun q hq hO => (hu7.block q (Nat.lt_of_lt_of_le hq hb6.size) (fun e => by have := (hv2 q e).1; omega)).trans (hb6.block q hq)
  have hlt := h.lt
  have hb7 : Below w.heap.size w w7 := (below_onto h.bel hb6).trans (hu7.below (fun q hq => by have := (hv2 q hq).1; have := h.eq; omega) (Nat.le_trans h.bel.size hb6.size))
  refine ⟨?_, ?_, ?_, hlt, h.eq, ?_, h.low, ho7.put (Nat.lt_succ_self _), ?_, by rw [List.length_append, h.len]; rfl, hb7.setCell (by show w.heap.size ≤ O; have := h.eq; omega) _⟩
  · exact Blk2.other ((key D h.d.lt (by omega)).trans h.d) (by omega) 1 _
  · exact Blk2.other ((key (D + 1) h.r.lt (by omega)).trans h.r) (by omega) 1 _
  · exact Blk2.set1 (x := v1) (y := v2) ((key O hOl (Nat.le_refl _)).trans h.o) _
  · refine h.now.other (fun g hg hBg hgl => ?_)
    have := h.low g hg
    exact (set_blk (by show g ≠ O; omega)).trans (key g hgl (by omega))
  · rw [List.map_append, h.xs, List.take_add_one, List.getElem?_eq_getElem hk]
    rw [List.getD_eq_getElem?_getD, List.getElem?_eq_getElem hk] at hl
    rw [← hl]; rfl

/-- a desk of one's own that can be appended to is handed back -/
def CopyO (xs : List Int) (L : List (List Int)) (w : World) (e : Ending) (w' : World) : Prop := ∃ v1 v2, e = .returned (.agg #[v1, v2]) ∧ GivesO xs L w w' v1 v2
theorem ownsRow_base {w : World} {B B' n s : Nat} {e : TypeId} {v : Value} {xs : List Value} (h : w.ownsRow B e s v n xs) (hB : B' ≤ B) : w.ownsRow B' e s v n xs := by
  obtain ⟨h3, h4⟩ := h
  refine ⟨h3, ?_⟩
  rcases h4 with h4 | ⟨g, cap, cur, hv, hBg, hr⟩
  · exact .inl h4
  · exact .inr ⟨g, cap, cur, hv, Nat.le_trans hB hBg, hr⟩
theorem FamsO.base {w : World} {B B' : Nat} {v : Value} {rs : List Fr} (h : FamsO w B v rs) (hB : B' ≤ B) : FamsO w B' v rs := ⟨ownsRow_base h.own hB, fun r hr => (h.row r hr).base hB, h.dis, h.apart⟩
theorem L12S.done {xs : List Int} {L : List (List Int)} {x y : Value} {w wr : World} {D O k : Nat} {v1 v2 : Value} {rs : List Fr} (h : L12S xs L x y w D O v1 k v2 rs wr) (hk : L.length ≤ k) :
    GivesO xs L w ((wr.setCell ⟨D + 1, 0, none⟩ v1).setCell ⟨D + 1, 1, none⟩ v2) v1 v2 := by
  have hlt := h.lt
  have heq := h.eq
  refine ⟨rs, ((h.now.put (show D + 1 < D + 2 by omega)).put (show D + 1 < D + 2 by omega)).base (by omega), ?_, fun g hg hf => ?_, by rw [h.xs, List.take_of_length_le hk], (h.bel.setCell (by show w.heap.size ≤ D + 1; omega) _).setCell (by show w.heap.size ≤ D + 1; omega) _⟩
  · have := ((h.own.put (u := v1) (p := ⟨D + 1, 0, none⟩) (show D + 1 < O + 1 by omega)).put (u := v2) (p := ⟨D + 1, 1, none⟩) (show D + 1 < O + 1 by omega))
    exact this.base (by omega)
  · have h1 := h.low g hg
    have h2 := (h.own.fams.ltB g hf).1
    omega
end Go.Proofs.YthaickihoagnmaaGreatDoor
