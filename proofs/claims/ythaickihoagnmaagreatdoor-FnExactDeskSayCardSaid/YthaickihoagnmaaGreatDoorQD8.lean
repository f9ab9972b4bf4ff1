import Derived.Test.YthaickihoagnmaaGreatDoorQD7
import Derived.Deep.DeepFit
import Derived.Deep.AppendLies
set_option linter.unusedVariables false
set_option linter.unusedSimpArgs false
set_option maxHeartbeats 12800000
namespace Go.Proofs.YthaickihoagnmaaGreatDoor
open Go.RowKit Go.Maps
def runL (s n : Nat) : List Int := rowL (fun i => ((s + i : Nat) : Int)) n
theorem runL_len (s n : Nat) : (runL s n).length = n := rowL_len _ n
theorem runL_I64 {s n : Nat} (h : s + n ≤ 4398046511104) : I64s (runL s n) := rowL_mem (P := I64) (fun i hi => by unfold I64; omega)
theorem runL_at {s n i : Nat} (hi : i < n) : (runL s n).getD i 0 = ((s + i : Nat) : Int) := rowL_getD _ _ _ hi
set_option maxRecDepth 100000 in
theorem markX_row (g cap n c s : Nat) (t : TypeId) (F : Nat → Int) (hs : s + n ≤ 4398046511104) (w : World) (hr : Rw w g t cap n F) :
    Calls Tryz.prog 94 #[.slice (some ⟨g, 0, none⟩) n c, .int .i64 s] w fun e w' => e = .returned (.int .i64 ((s : Int) + n)) ∧ Only g w w' ∧ Rw w' g t cap n (fun j => (s : Int) + j) := by
  have HR := Lib.hid (hr.less (h' := fun j => if j < 0 then (s : Int) + j else F j) (Nat.le_refl _) (fun i _ => by rw [if_neg (by omega)])); clear hr
  go_enter Tryz.func94, Tryz.ntmps94
  go_wp2_with fail
  go_loopw [1, 5] (fun v i wr => ∃ k : Nat, k ≤ n ∧ i = .int .i64 k ∧ v = .int .i64 ((s : Int) + k) ∧ Hid (Rw wr g t cap n (fun j => if j < k then (s : Int) + j else F j)) ∧ Hid (Only g w wr)) (fun _ i _ => n - (intOf i).toNat)
  case atStart => exact ⟨0, Nat.zero_le _, rfl, by simp, HR, Lib.hid (Only.refl _ _)⟩
  case round =>
    clear HR
    obtain ⟨k, hk, rfl, rfl, HR, HO⟩ := hrel
    by_cases hlt : k < n
    · have hki : (k : Int) < (n : Int) := by omega
      have hk0 : (0 : Int) ≤ (k : Int) := by omega
      have hc0 := HR.out.cell k (by omega)
      rw [if_neg (by omega)] at hc0
      have hf0 := HR.out.frozen k
      have HR2 := Lib.hid ((HR.out.set k ((s : Int) + k)).less (h' := fun j => if j < k + 1 then (s : Int) + j else F j) (Nat.le_refl _) (fun j hj => by
        show (if j = k then (s : Int) + k else if j < k then (s : Int) + j else F j) = if j < k + 1 then (s : Int) + j else F j
        by_cases e2 : j = k
        · rw [if_pos e2, if_pos (by omega)]; omega
        · rw [if_neg e2]
          by_cases e3 : j < k
          · rw [if_pos e3, if_pos (by omega)]
          · rw [if_neg e3, if_neg (by omega)]))
      have HO2 := Lib.hid (HO.out.setCell k (.int .i64 ((s : Int) + k)))
      have hw1 : IntKind.i64.wrap ((s : Int) + k + 1) = (s : Int) + k + 1 := wrap_in _ (by unfold I64; omega)
      clear HR HO
      go_wp2_with fail
      go_roundw
      case rel => exact ⟨k + 1, by omega, by go_num, by go_num, HR2, HO2⟩
      case measure => simp [intOf]; omega
    · have hki : ¬ (k : Int) < (n : Int) := by omega
      have hkn : k = n := by omega
      subst hkn
      have HR2 := Lib.hid (HR.out.less (h' := fun j => (s : Int) + j) (Nat.le_refl _) (fun j hj => by rw [if_pos hj]))
      go_wp2_with fail
      go_ret
      exact ⟨rfl, HO.out, HR2.out⟩
set_option maxRecDepth 100000 in
theorem heldX_row (g o n c s : Nat) (hs : s + n ≤ 4398046511104) (w : World) (hr : Row w g o n (fun j => (runL s n).getD j 0)) :
    Calls Tryz.prog 96 #[.slice (some ⟨g, o, none⟩) n c, .int .i64 s] w fun e w' => e = .returned (.int .i64 ((s : Int) + n)) ∧ w = w' := by
  have HR := Lib.hid hr; clear hr
  go_enter Tryz.func96, Tryz.ntmps96
  go_wp2_with fail
  go_loopw [1, 5] (fun v i wr => ∃ k : Nat, k ≤ n ∧ i = .int .i64 k ∧ v = .int .i64 ((s : Int) + k) ∧ w = wr) (fun _ i _ => n - (intOf i).toNat)
  case atStart => exact ⟨0, Nat.zero_le _, rfl, by simp, rfl⟩
  case round =>
    obtain ⟨k, hk, rfl, rfl, rfl⟩ := hrel
    by_cases hlt : k < n
    · have hki : (k : Int) < (n : Int) := by omega
      have hk0 : (0 : Int) ≤ (k : Int) := by omega
      have hc0 := HR.out k hlt
      dsimp only at hc0
      rw [runL_at hlt] at hc0
      have e1 : ((s + k : Nat) : Int) = (s : Int) + k := by omega
      rw [e1] at hc0
      clear e1
      have hne1 : (((s : Int) + k) != ((s : Int) + k)) = false := by simp
      have hw1 : IntKind.i64.wrap ((s : Int) + k + 1) = (s : Int) + k + 1 := wrap_in _ (by unfold I64; omega)
      go_wp2_with fail
      go_roundw
      case rel => exact ⟨k + 1, by omega, by go_num, by go_num, by first | rfl | trivial⟩
      case measure => simp [intOf]; omega
    · have hki : ¬ (k : Int) < (n : Int) := by omega
      have hkn : k = n := by omega
      subst hkn
      go_wp2_with fail
      go_ret
      exact ⟨rfl, rfl⟩
set_option maxRecDepth 100000 in
theorem markX_none (a : Option Addr) (c s : Nat) (w : World) : Calls Tryz.prog 94 #[.slice a 0 c, .int .i64 s] w fun e w' => e = .returned (.int .i64 (s : Int)) ∧ w = w' := by
  go_enter Tryz.func94, Tryz.ntmps94
  go_wp2_with fail
  refine wp_loop_rounds 1 ?_
  rw [rounds_succ]
  go_wp2_with fail
  go_ret
  exact ⟨rfl, rfl⟩
set_option maxRecDepth 100000 in
theorem heldX_none (a : Option Addr) (c s : Nat) (w : World) : Calls Tryz.prog 96 #[.slice a 0 c, .int .i64 s] w fun e w' => e = .returned (.int .i64 (s : Int)) ∧ w = w' := by
  go_enter Tryz.func96, Tryz.ntmps96
  go_wp2_with fail
  refine wp_loop_rounds 1 ?_
  rw [rounds_succ]
  go_wp2_with fail
  go_ret
  exact ⟨rfl, rfl⟩
theorem int_cast {s n m : Nat} (h : s + n = m) : Value.int .i64 ((s : Int) + n) = .int .i64 (m : Int) := by rw [← h]; simp
theorem markX_any (v : Value) (B : Nat) (xs : List Int) (s m : Nat) (hm : s + xs.length = m) (hs : m ≤ 4398046511104) (w : World) (h : OwnX w B 3 v xs) :
    Calls Tryz.prog 94 #[v, .int .i64 s] w fun e w' => e = .returned (.int .i64 (m : Int)) ∧ OwnX w' B 3 v (runL s xs.length) ∧ Upon (fun g => v.ownBlock = some g) w w' := by
  by_cases h1 : 1 ≤ xs.length
  · obtain ⟨g, c, rfl, hB, hg, hc, hmx, hr⟩ := h.rw h1
    refine (markX_row g c xs.length c s 3 _ (by omega) w hr).mono ?_
    rintro e w' ⟨rfl, ho, hr2⟩
    refine ⟨by rw [int_cast hm], ?_, (Upon.of_only ho).mono (fun i _ e => by rw [e]; rfl)⟩
    have hr3 : Rw w' g 3 c xs.length (fun i => (runL s xs.length).getD i 0) := hr2.less (Nat.le_refl _) (fun j hj => by rw [runL_at hj]; omega)
    exact hr3.own (runL_len _ _).symm hB hc hmx
  · have h0 : xs = [] := List.eq_nil_of_length_eq_zero (by omega)
    subst h0
    obtain ⟨a, c, rfl⟩ := h.slice
    refine (markX_none a c s w).mono ?_
    rintro e w' ⟨rfl, rfl⟩
    have : s = m := by simpa using hm
    subst this
    exact ⟨rfl, h, Upon.refl _ _⟩
theorem heldX_any (a : Option Addr) (n c s m : Nat) (hm : s + n = m) (hs : m ≤ 4398046511104) (w : World) (h : Ints w a n (fun j => (runL s n).getD j 0)) :
    Calls Tryz.prog 96 #[.slice a n c, .int .i64 s] w fun e w' => e = .returned (.int .i64 (m : Int)) ∧ w = w' := by
  by_cases h1 : 1 ≤ n
  · obtain ⟨g, o, rfl, hg, hr⟩ := h.row h1
    refine (heldX_row g o n c s (by omega) w hr).mono ?_
    rintro e w' ⟨rfl, rfl⟩
    exact ⟨by rw [int_cast hm], rfl⟩
  · have h0 : n = 0 := by omega
    subst h0
    refine (heldX_none a c s w).mono ?_
    rintro e w' ⟨rfl, rfl⟩
    have : s = m := by simpa using hm
    subst this
    exact ⟨rfl, rfl⟩
def totF (rs : List Fr) : Nat := ((rs.map Fr.xs).map List.length).sum
theorem totF_snoc (p : List Fr) (r : Fr) : totF (p ++ [r]) = totF p + r.xs.length := by unfold totF; simp
theorem totF_app (p q : List Fr) : totF (p ++ q) = totF p + totF q := by unfold totF; simp
theorem totF_cons (r : Fr) (q : List Fr) : totF (r :: q) = r.xs.length + totF q := by unfold totF; simp
def mkF : Nat → List Fr → List Fr
  | _, [] => []
  | s, r :: rs => ⟨r.g, r.c, runL s r.xs.length⟩ :: mkF (s + r.xs.length) rs
theorem mkF_snoc (s : Nat) (p : List Fr) (r : Fr) : mkF s (p ++ [r]) = mkF s p ++ [⟨r.g, r.c, runL (s + totF p) r.xs.length⟩] := by
  induction p generalizing s with
  | nil => simp [mkF, totF]
  | cons x p ih => rw [List.cons_append, mkF, ih, mkF, totF_cons, Nat.add_assoc]; rfl
theorem mkF_g (s : Nat) (p : List Fr) : (mkF s p).map Fr.g = p.map Fr.g := by
  induction p generalizing s with
  | nil => rfl
  | cons x p ih => rw [mkF, List.map_cons, ih]; rfl
theorem mkF_v (s : Nat) (p : List Fr) : (mkF s p).map Fr.v = p.map Fr.v := by
  induction p generalizing s with
  | nil => rfl
  | cons x p ih => rw [mkF, List.map_cons, ih, List.map_cons]; unfold Fr.v; rw [runL_len]
def runsL : Nat → List Nat → List (List Int)
  | _, [] => []
  | s, n :: ns => runL s n :: runsL (s + n) ns
theorem runsL_len (s : Nat) (ns : List Nat) : (runsL s ns).length = ns.length := by
  induction ns generalizing s with
  | nil => rfl
  | cons n ns ih => rw [runsL, List.length_cons, ih, List.length_cons]
theorem runsL_at (s : Nat) (ns : List Nat) (k : Nat) (hk : k < ns.length) : (runsL s ns).getD k [] = runL (s + (ns.take k).sum) (ns.getD k 0) := by
  induction ns generalizing s k with
  | nil => cases hk
  | cons n ns ih =>
    cases k with
    | zero => simp [runsL]
    | succ k =>
      rw [runsL, List.getD_cons_succ, ih _ _ (by simp at hk; omega), List.take_succ_cons, List.sum_cons, List.getD_cons_succ, Nat.add_assoc]
theorem mkF_xs (s : Nat) (p : List Fr) : (mkF s p).map Fr.xs = runsL s ((p.map Fr.xs).map List.length) := by
  induction p generalizing s with
  | nil => rfl
  | cons x p ih => rw [mkF, List.map_cons, ih]; rfl
theorem mkF_len (s : Nat) (p : List Fr) : (mkF s p).length = p.length := by
  have := congrArg List.length (mkF_g s p)
  simpa using this
theorem FB_mk {v : Value} {s : Nat} {rs : List Fr} {g : Nat} : FB v (mkF s rs) g ↔ FB v rs g := by
  have e : ∀ ps : List Fr, (∃ r ∈ ps, r.g = g) ↔ g ∈ ps.map Fr.g := fun ps => by rw [List.mem_map]
  unfold FB
  rw [e, e, mkF_g]
theorem Fams.swap {w w' : World} {B : Nat} {v : Value} {p q : List Fr} {r r' : Fr} (h : Fams w B v (p ++ r :: q)) (hg : r'.g = r.g) (hv : r'.v = r.v) (ho : OwnX w' B 3 r'.v r'.xs) (hu : Upon (fun g => r.g = g) w w') : Fams w' B v (p ++ r' :: q) := by
  have e1 : (p ++ r' :: q).map Fr.v = (p ++ r :: q).map Fr.v := by simp [hv]
  have e2 : (p ++ r' :: q).map Fr.g = (p ++ r :: q).map Fr.g := by simp [hg]
  have hd := h.dis
  have hin : r ∈ p ++ r :: q := by simp
  have hne : ∀ x, x ∈ p ∨ x ∈ q → r.g ≠ x.g := by
    intro x hx e
    rw [List.map_append, List.map_cons, List.nodup_append, List.nodup_cons] at hd
    obtain ⟨_, ⟨h1, _⟩, h2⟩ := hd
    rcases hx with hx | hx
    · exact h2 x.g (List.mem_map.2 ⟨x, hx, rfl⟩) r.g (List.mem_cons_self) e.symm
    · exact h1 (List.mem_map.2 ⟨x, hx, e.symm⟩)
  refine ⟨?_, fun x hx => ?_, by rw [e2]; exact hd, fun x hx => ?_⟩
  · rw [e1]
    exact h.seq.same hu.size (fun g hg => hu.block g (h.seq.lt g hg).2 (fun e => h.apart r hin (by rw [e]; exact hg)))
  · rcases List.mem_append.1 hx with hx | hx
    · have hm : x ∈ p ++ r :: q := List.mem_append.2 (.inl hx)
      exact (h.row x hm).blk (hu.block _ (h.lt x hm).2 (hne x (.inl hx)))
    · rcases List.mem_cons.1 hx with rfl | hx
      · exact ho
      · have hm : x ∈ p ++ r :: q := List.mem_append.2 (.inr (List.mem_cons.2 (.inr hx)))
        exact (h.row x hm).blk (hu.block _ (h.lt x hm).2 (hne x (.inr hx)))
  · have : x.g ∈ (p ++ r :: q).map Fr.g := by rw [← e2]; exact List.mem_map.2 ⟨x, hx, rfl⟩
    obtain ⟨y, hy, e⟩ := List.mem_map.1 this
    rw [← e]
    exact h.apart y hy
structure MkS (w : World) (B : Nat) (v : Value) (rs : List Fr) (s : Nat) (p q : List Fr) (k m : Nat) (wr : World) : Prop where
  eq : rs = p ++ q
  len : p.length = k
  sum : s + totF p = m
  fams : Fams wr B v (mkF s p ++ q)
  up : Upon (fun g => ∃ r ∈ rs, r.g = g) w wr
theorem MkS.step {w wr w' : World} {B s k m m2 : Nat} {v : Value} {rs p q : List Fr} {r : Fr} (h : MkS w B v rs s p (r :: q) k m wr) (hm : m + r.xs.length = m2)
    (ho : OwnX w' B 3 r.v (runL m r.xs.length)) (hu : Upon (fun g => r.v.ownBlock = some g) wr w') : MkS w B v rs s (p ++ [r]) q (k + 1) m2 w' := by
  have hu' : Upon (fun g => r.g = g) wr w' := hu.mono (fun i _ e => by rw [Fr.block] at e; injection e)
  have hin : r ∈ rs := by rw [h.eq]; simp
  have hv : Fr.v ⟨r.g, r.c, runL m r.xs.length⟩ = r.v := by unfold Fr.v; rw [runL_len]
  refine ⟨by rw [h.eq]; simp, by rw [List.length_append, h.len]; rfl, by rw [totF_snoc, ← hm, ← h.sum, Nat.add_assoc], ?_, h.up.trans hu' (fun i _ e => ⟨r, hin, e⟩)⟩
  have := h.fams.swap (r' := ⟨r.g, r.c, runL m r.xs.length⟩) rfl hv (by rw [hv]; exact ho) hu'
  rw [mkF_snoc, h.sum, List.append_assoc]
  exact this
def MarkF (B : Nat) (v : Value) (rs : List Fr) (s m : Nat) (w : World) (e : Ending) (w' : World) : Prop :=
  e = .returned (.int .i64 (m : Int)) ∧ Fams w' B v (mkF s rs) ∧ Upon (fun g => ∃ r ∈ rs, r.g = g) w w'
set_option maxRecDepth 100000 in
theorem markNest_none (a : Option Addr) (c s : Nat) (w : World) : Calls Tryz.prog 95 #[.slice a 0 c, .int .i64 s] w fun e w' => e = .returned (.int .i64 (s : Int)) ∧ w = w' := by
  go_enter Tryz.func95, Tryz.ntmps95
  go_wp2_with fail
  refine wp_loop_rounds 1 ?_
  rw [rounds_succ]
  go_wp2_with fail
  go_ret
  exact ⟨rfl, rfl⟩
set_option maxRecDepth 100000 in
theorem markNest_row (B g o c s m n : Nat) (rs : List Fr) (hm : s + totF rs = m) (hs : m ≤ 4398046511104) (hn : rs.length = n) (w : World) (h : Fams w B (.slice (some ⟨g, o, none⟩) n c) rs)
    (hc : ∀ (wr : World) (ps : List Fr), ps.map Fr.v = rs.map Fr.v → Fams wr B (.slice (some ⟨g, o, none⟩) n c) ps → ∀ i u, (ps.map Fr.v)[i]? = some u → wr.cell? ⟨g, o + i, none⟩ = some u) (hnm : n ≤ 9223372036854775807) :
    Calls Tryz.prog 95 #[.slice (some ⟨g, o, none⟩) n c, .int .i64 s] w (MarkF B (.slice (some ⟨g, o, none⟩) n c) rs s m w) := by
  have H : Hid (MkS w B (.slice (some ⟨g, o, none⟩) n c) rs s [] rs 0 s w) := Lib.hid ⟨rfl, rfl, by simp [totF], h, Upon.refl _ _⟩
  have HM := Lib.hid hm; have HN := Lib.hid hn; have HC := Lib.hid hc
  clear h hm hn hc
  go_enter Tryz.func95, Tryz.ntmps95
  go_wp2_with fail
  go_loopw [1, 5] (fun v i wr => ∃ (k j : Nat) (p q : List Fr), k ≤ n ∧ i = .int .i64 k ∧ v = .int .i64 j ∧ Hid (MkS w B (.slice (some ⟨g, o, none⟩) n c) rs s p q k j wr)) (fun _ i _ => n - (intOf i).toNat)
  case atStart => exact ⟨0, s, [], rs, Nat.zero_le _, rfl, rfl, H⟩
  case round =>
    clear H
    obtain ⟨k, j, p, q, hk, rfl, rfl, H⟩ := hrel
    by_cases hlt : k < n
    · have hki : (k : Int) < (n : Int) := by omega
      have hk0 : (0 : Int) ≤ (k : Int) := by omega
      cases q with
      | nil => exact absurd H.out.len (by have h1 := H.out.eq; have h2 := HN.out; rw [h1] at h2; simp at h2; omega)
      | cons r q =>
        obtain ⟨rg, rc, xs⟩ := r
        have hcell : wr.cell? ⟨g, o + k, none⟩ = some (.slice (some ⟨rg, 0, none⟩) xs.length rc) := HC.out wr (mkF s p ++ ⟨rg, rc, xs⟩ :: q) (by rw [H.out.eq, List.map_append, mkF_v, List.map_append]) H.out.fams k _ (by
          rw [List.map_append, List.getElem?_append_right (by rw [List.length_map, mkF_len, H.out.len]; exact Nat.le_refl _), List.length_map, mkF_len, H.out.len, Nat.sub_self]; rfl)
        obtain ⟨m2, hm2⟩ : ∃ m2, j + xs.length = m2 := ⟨_, rfl⟩
        have hmb : m2 ≤ 4398046511104 := by
          have h1 := HM.out
          have h2 := H.out.sum
          rw [H.out.eq, totF_app, totF_cons] at h1
          have h3 : (Fr.mk rg rc xs).xs.length = xs.length := rfl
          omega
        have HM2 := Lib.hid hm2
        have HO := Lib.hid (show OwnX wr B 3 (.slice (some ⟨rg, 0, none⟩) xs.length rc) xs from H.out.fams.row ⟨rg, rc, xs⟩ (by simp))
        clear hm2
        go_wp2_with fail
        refine (markX_any _ B xs j m2 HM2.out hmb _ HO.out).mono ?_
        rintro e w5 ⟨rfl, ho, hu⟩
        have H5 := Lib.hid (H.out.step HM2.out ho hu)
        clear ho hu hcell
        go_wp2_with fail
        go_roundw
        case rel => exact ⟨k + 1, m2, _, _, by omega, by go_num, rfl, H5⟩
        case measure => simp [intOf]; omega
    · have hki : ¬ (k : Int) < (n : Int) := by omega
      have HD : Hid (MarkF B (.slice (some ⟨g, o, none⟩) n c) rs s m w (.returned (.int .i64 (j : Int))) wr) := Lib.hid (by
        have hq : q = [] := List.eq_nil_of_length_eq_zero (by have h1 := H.out.eq; have h2 := HN.out; have h3 := H.out.len; rw [h1, List.length_append] at h2; omega)
        subst hq
        have he : rs = p := by have := H.out.eq; simpa using this
        have hj : j = m := by rw [← H.out.sum, ← HM.out, he]
        have hf := H.out.fams
        rw [List.append_nil] at hf
        have hup := H.out.up
        refine ⟨by rw [hj], ?_, hup⟩
        rw [he]; exact hf)
      go_wp2_with fail
      go_ret
      exact HD.out
theorem fams_cells {w : World} {B g o n c : Nat} {rs : List Fr} (hn : 1 ≤ rs.length) (h : Fams w B (.slice (some ⟨g, o, none⟩) n c) rs) : ∀ i u, (rs.map Fr.v)[i]? = some u → w.cell? ⟨g, o + i, none⟩ = some u := by
  rcases h.seq with ⟨e, _⟩ | ⟨g', o', c', e, _, _, _, _, h3⟩
  · have h0 : rs.length = 0 := by rw [← List.length_map (f := Fr.v), e]; rfl
    omega
  · injection e with e1 e2 e3
    injection e1 with e1
    injection e1 with e4 e5
    subst e4; subst e5
    exact h3
theorem markNest_any (v : Value) (B : Nat) (rs : List Fr) (s m : Nat) (hm : s + totF rs = m) (hs : m ≤ 4398046511104) (w : World) (h : Fams w B v rs) :
    Calls Tryz.prog 95 #[v, .int .i64 s] w (MarkF B v rs s m w) := by
  by_cases h1 : 1 ≤ rs.length
  · rcases h.seq with ⟨e, _⟩ | ⟨g, o, c, rfl, hc, hmx, _⟩
    · have h0 : rs.length = 0 := by rw [← List.length_map (f := Fr.v), e]; rfl
      omega
    · rw [List.length_map] at h hc ⊢
      unfold maxLen at hmx
      exact markNest_row B g o c s m rs.length rs hm hs rfl w h (fun wr ps hp hf => fams_cells (by have := congrArg List.length hp; rw [List.length_map, List.length_map] at this; omega) hf) (by omega)
  · have h0 : rs = [] := List.eq_nil_of_length_eq_zero (by omega)
    subst h0
    obtain ⟨a, c, rfl⟩ := h.seq.slice
    refine (markNest_none a c s w).mono ?_
    rintro e w' ⟨rfl, rfl⟩
    have : s = m := by simpa [totF] using hm
    subst this
    exact ⟨rfl, h, Upon.refl _ _⟩
set_option maxRecDepth 100000 in
theorem heldNest_any (b : Option Addr) (ns : List Nat) (c s m : Nat) (hm : s + ns.sum = m) (hs : m ≤ 4398046511104) (w : World) (h : Nest w b (runsL s ns)) :
    Calls Tryz.prog 97 #[.slice b ns.length c, .int .i64 s] w fun e w' => e = .returned (.int .i64 (m : Int)) ∧ w = w' := by
  have h63 := h.1
  rw [runsL_len] at h63
  obtain ⟨n, hn⟩ : ∃ n, ns.length = n := ⟨_, rfl⟩
  have H := Lib.hid h; have HM := Lib.hid hm; have HN := Lib.hid hn
  rw [hn] at h63 ⊢
  clear h hm hn
  go_enter Tryz.func97, Tryz.ntmps97
  go_wp2_with fail
  go_loopw [1, 5] (fun v i wr => ∃ k j : Nat, k ≤ n ∧ i = .int .i64 k ∧ v = .int .i64 j ∧ Hid (s + (ns.take k).sum = j) ∧ w = wr) (fun _ i _ => n - (intOf i).toNat)
  case atStart => exact ⟨0, s, Nat.zero_le _, rfl, rfl, Lib.hid (by simp), rfl⟩
  case round =>
    obtain ⟨k, j, hk, rfl, rfl, HJ, rfl⟩ := hrel
    by_cases hlt : k < n
    · have hki : (k : Int) < (n : Int) := by omega
      have hk0 : (0 : Int) ≤ (k : Int) := by omega
      obtain ⟨bk, o, a1, c1, rfl, hlc, hi, hcell⟩ := H.out.at (show k < (runsL s ns).length by rw [runsL_len, HN.out]; exact hlt)
      have hc := hcell w (Below.refl _ _)
      rw [runsL_at s ns k (by rw [HN.out]; exact hlt), HJ.out] at hc hi
      obtain ⟨z, hz⟩ : ∃ z, ns.getD k 0 = z := ⟨_, rfl⟩
      rw [hz, runL_len] at hc hi
      obtain ⟨m2, hm2⟩ : ∃ m2, j + z = m2 := ⟨_, rfl⟩
      have hks : k < ns.length := by rw [HN.out]; exact hlt
      have hsum : (ns.take (k + 1)).sum = (ns.take k).sum + z := by
        have hz' : ns[k] = z := by rw [← hz, List.getD_eq_getElem?_getD, List.getElem?_eq_getElem hks]; rfl
        rw [List.take_succ_eq_append_getElem hks, List.sum_append, List.sum_cons, List.sum_nil, hz', Nat.add_zero]
      have hle : (ns.take (k + 1)).sum ≤ ns.sum := by
        have := congrArg List.sum (List.take_append_drop (k + 1) ns)
        rw [List.sum_append] at this
        omega
      have HJ2 := Lib.hid (show s + (ns.take (k + 1)).sum = m2 by rw [hsum, ← hm2, ← HJ.out]; omega)
      have hmb : m2 ≤ 4398046511104 := by have h1 := HJ2.out; have h2 := HM.out; omega
      have HM2 := Lib.hid hm2
      have HI := Lib.hid hi
      have hge : decide ((m2 : Int) < 0) = false := decide_eq_false (by omega)
      clear hm2 hz hi hcell hsum hle hlc hks HJ
      go_wp2_with fail
      refine (heldX_any a1 z c1 j m2 HM2.out hmb _ HI.out).mono ?_
      rintro e w5 ⟨rfl, rfl⟩
      go_wp2_with fail
      go_roundw
      case rel => exact ⟨k + 1, m2, by omega, by go_num, rfl, HJ2, by first | rfl | trivial⟩
      case measure => simp [intOf]; omega
    · have hki : ¬ (k : Int) < (n : Int) := by omega
      have hjm : j = m := by
        rw [← HJ.out, ← HM.out, List.take_of_length_le (by rw [HN.out]; omega)]
      clear HJ
      subst hjm
      go_wp2_with fail
      go_ret
      exact ⟨rfl, rfl⟩
def DkBl (v1 v2 : Value) (rs : List Fr) (g : Nat) : Prop := v1.ownBlock = some g ∨ FB v2 rs g
theorem DeskG.ltB {w : World} {B : Nat} {v1 v2 : Value} {xs : List Int} {rs : List Fr} (h : DeskG w B v1 v2 xs rs) : ∀ g, DkBl v1 v2 rs g → B ≤ g ∧ g < w.heap.size := by
  rintro g (hg | hg)
  · exact h.now.lt hg
  · exact h.past.ltB g hg
theorem Fams.upon {F : Nat → Prop} {w w' : World} {B : Nat} {v : Value} {rs : List Fr} (h : Fams w B v rs) (hu : Upon F w w') (hF : ∀ g, FB v rs g → ¬ F g) : Fams w' B v rs :=
  h.same hu.size (fun g hg => hu.block g (h.ltB g hg).2 (hF g hg))
theorem DeskG.upon {F : Nat → Prop} {w w' : World} {B : Nat} {v1 v2 : Value} {xs : List Int} {rs : List Fr} (h : DeskG w B v1 v2 xs rs) (hu : Upon F w w') (hF : ∀ g, DkBl v1 v2 rs g → ¬ F g) : DeskG w' B v1 v2 xs rs :=
  ⟨hu.ownX h.now (fun g hg => hF g (.inl hg)), h.past.upon hu (fun g hg => hF g (.inr hg)), h.sep⟩
def MarkD (B : Nat) (v1 v2 : Value) (xs : List Int) (rs : List Fr) (s m : Nat) (w : World) (e : Ending) (w' : World) : Prop :=
  e = .returned (.int .i64 (m : Int)) ∧ DeskG w' B v1 v2 (runL s xs.length) (mkF (s + xs.length) rs) ∧ Upon (DkBl v1 v2 rs) w w'
set_option maxRecDepth 100000 in
theorem markDesk_any (v1 v2 : Value) (B : Nat) (xs : List Int) (rs : List Fr) (s m : Nat) (hm : s + xs.length + totF rs = m) (hs : m ≤ 4398046511104) (w : World) (h : DeskG w B v1 v2 xs rs) :
    Calls Tryz.prog 32 #[.agg #[v1, v2], .int .i64 s] w (MarkD B v1 v2 xs rs s m w) := by
  have hal := alloc_below w (.cells #[v1, v2] 31)
  have hblk := Blk2.new w 31 v1 v2
  obtain ⟨j, hj⟩ : ∃ j, s + xs.length = j := ⟨_, rfl⟩
  have HNE := Lib.hid (fun g hg => Nat.ne_of_lt (h.ltB g hg).2)
  have H := Lib.hid (h.kept hal)
  have HBL := Lib.hid hblk
  have HU : Hid (Upon (DkBl v1 v2 rs) w (w.alloc (.cells #[v1, v2] 31))) := Lib.hid (Upon.of_below hal)
  have HJ := Lib.hid hj
  have HM := Lib.hid (show j + totF rs = m by omega)
  have hjm : j ≤ 4398046511104 := by omega
  obtain ⟨a, c, e1⟩ := h.now.slice
  obtain ⟨b, c2, e2⟩ := h.past.seq.slice
  rw [List.length_map] at e2
  subst e1; subst e2
  clear h hal hblk hj hm
  go_enter Tryz.func32, Tryz.ntmps32
  go_wp2_with fail
  refine (markX_any _ B xs s j HJ.out hjm _ H.out.now).mono ?_
  rintro e w1 ⟨rfl, ho, hu⟩
  have HF1 := Lib.hid (H.out.past.upon hu (fun g hf hg => H.out.sep g hg hf))
  have hn1 : ¬ (Value.slice a xs.length c).ownBlock = some w.heap.size := fun e => HNE.out _ (.inl e) rfl
  have HB1 : Hid (Blk2 w1 w.heap.size 31 (.slice a xs.length c) (.slice b rs.length c2)) := Lib.hid ((hu.block _ HBL.out.lt hn1).trans HBL.out)
  have HU1 := Lib.hid (HU.out.trans hu (fun i _ e => .inl e))
  have HO1 := Lib.hid ho
  clear ho hu hn1
  have hc1 := HB1.out.cell.2
  go_wp2_with fail
  refine (markNest_any _ B rs j m HM.out hs _ HF1.out).mono ?_
  rintro e w2 ⟨rfl, hf, hu⟩
  have HO2 := Lib.hid (hu.ownX HO1.out (fun g hg ⟨r, hr, e⟩ => H.out.sep g hg (.inr ⟨r, hr, e⟩)))
  have HU2 := Lib.hid (HU1.out.trans hu (fun i _ e => .inr (.inr e)))
  have HF2 := Lib.hid hf
  have HSP := Lib.hid (fun g hg hf => H.out.sep g hg (FB_mk.1 hf) : ∀ g, (Value.slice a xs.length c).ownBlock = some g → ¬ FB (.slice b rs.length c2) (mkF j rs) g)
  clear hf hu hc1
  go_wp2_with fail
  go_ret
  unfold MarkD
  rw [HJ.out]
  exact ⟨rfl, ⟨HO2.out, HF2.out, HSP.out⟩, HU2.out⟩
set_option maxRecDepth 100000 in
theorem heldDesk_any (d : Value) (n : Nat) (ns : List Nat) (s m : Nat) (hm : s + n + ns.sum = m) (hs : m ≤ 4398046511104) (w : World) (h : DeskR w d (runL s n) (runsL (s + n) ns)) :
    Calls Tryz.prog 33 #[d, .int .i64 s] w fun e w' => e = .returned (.int .i64 (m : Int)) ∧ Below w.heap.size w w' := by
  obtain ⟨a, c, b, c2, rfl, hi, hn⟩ := h.parts
  rw [runL_len] at hi ⊢
  rw [runsL_len]
  obtain ⟨j, hj⟩ : ∃ j, s + n = j := ⟨_, rfl⟩
  rw [hj] at hn
  have hal := alloc_below w (.cells #[.slice a n c, .slice b ns.length c2] 31)
  have HI := Lib.hid (hi.below hal (Nat.le_refl _)); have HN := Lib.hid (hn.kept hal)
  have HAL := Lib.hid hal
  have HBL := Lib.hid (Blk2.new w 31 (.slice a n c) (.slice b ns.length c2))
  have HJ := Lib.hid hj
  have HM := Lib.hid (show j + ns.sum = m by omega)
  have hjm : j ≤ 4398046511104 := by omega
  have hge1 : decide ((j : Int) < 0) = false := decide_eq_false (by omega)
  have hge2 : decide ((m : Int) < 0) = false := decide_eq_false (by omega)
  clear h hi hn hal hj hm
  go_enter Tryz.func33, Tryz.ntmps33
  go_wp2_with fail
  refine (heldX_any a n c s j HJ.out hjm _ HI.out).mono ?_
  rintro e w1 ⟨rfl, rfl⟩
  have hc1 := HBL.out.cell.2
  go_wp2_with fail
  refine (heldNest_any b ns c2 j m HM.out hs _ HN.out).mono ?_
  rintro e w2 ⟨rfl, rfl⟩
  go_wp2_with fail
  go_ret
  exact ⟨rfl, HAL.out⟩
theorem DeskG.marked {w : World} {B s m : Nat} {v1 v2 : Value} {xs : List Int} {rs : List Fr} (h : DeskG w B v1 v2 (runL s xs.length) (mkF (s + xs.length) rs)) (hm : s + xs.length + totF rs = m) (hs : m ≤ 4398046511104) :
    DeskR w (.agg #[v1, v2]) (runL s xs.length) (runsL (s + xs.length) ((rs.map Fr.xs).map List.length)) := by
  have key : ∀ (j : Nat) (ps : List Fr), j + totF ps ≤ 4398046511104 → ∀ r ∈ mkF j ps, r.xs.length ≤ 9223372036854775807 ∧ I64s r.xs := by
    intro j ps
    induction ps generalizing j with
    | nil => intro _ r hr; cases hr
    | cons x ps ih =>
      intro hj r hr
      rw [totF_cons] at hj
      rcases List.mem_cons.1 hr with rfl | hr
      · exact ⟨by show (runL j x.xs.length).length ≤ _; rw [runL_len]; omega, runL_I64 (by omega)⟩
      · exact ih (j + x.xs.length) (by omega) r hr
  rw [← mkF_xs]
  exact h.read ⟨by rw [runL_len]; omega, runL_I64 (by omega)⟩ (key _ _ (by omega))
theorem info_parts3 {t : TypeId} {z : Value} {s b : Nat} (h : (Tryz.prog.info? t).map (fun i => (i.zero, i.size, i.bytes)) = some (some z, s, b)) : ∃ i, Tryz.prog.info? t = some i ∧ i.zero = some z ∧ i.size = s ∧ i.bytes = b := by
  obtain ⟨i, hi, hzz⟩ := Option.map_eq_some_iff.1 h
  simp only [Prod.mk.injEq] at hzz
  exact ⟨i, hi, hzz.1, hzz.2.1, hzz.2.2⟩
theorem row_succ {w : World} {B n s : Nat} {e : TypeId} {v : Value} {xs : List Value} (h : w.ownsRow B e s v (n + 1) xs) (hs : 0 < s) : ∃ g c, v = .slice (some ⟨g, 0, none⟩) (n + 1) c := by
  rcases h.2 with ⟨h1, _⟩ | ⟨g, cap, cur, hv, _⟩
  · have := h.1
    subst h1
    have h2 := h.2
    rcases h2 with ⟨h3, h4⟩ | ⟨g, cap, cur, hv, _⟩
    · omega
    · exact ⟨g, cap, hv⟩
  · exact ⟨g, cap, hv⟩
theorem append_fr {ops : Array Oper} {rest : List Oper} {o : Oper} {a : Act} {Q : Exit → Act → World → Prop} (hgd : o.guard = none) (s x : Operand)
    (ho : o.op = .call { callee := .builtin .append, args := #[s, x], argTypes := #[29, 29] })
    (B : Nat) (v : Value) (rs : List Fr) (y : Fr) (w : World) (hs : a.eval s = v) (hx : a.eval x = .slice (some ⟨w.heap.size, 0, none⟩) 1 1) (h : FamsO w B v rs) (hl : rs.length ≤ 1000) (hy : OwnX w B 3 y.v y.xs)
    (h1 : ∀ r ∈ rs, r.g ≠ y.g) (h2 : v.ownBlock ≠ some y.g) (hB : B ≤ w.heap.size)
    (hk : ∀ g c w', FamsO w' B (.slice (some ⟨g, 0, none⟩) (rs.length + 1) c) (rs ++ [y]) → Below B w w' → Upon (fun q => v.ownBlock = some q) w w' → (v.ownBlock = some g ∨ g = w.heap.size + 1) → wpList Tryz.prog ops Q rest (a.put o.dst (.slice (some ⟨g, 0, none⟩) (rs.length + 1) c)) w') :
    wpList Tryz.prog ops Q (o :: rest) a (w.alloc (.cells #[y.v] 28)) := by
  obtain ⟨j0, hjj, hy0, hy1, hy2⟩ := info_parts3 Tryz.infoSl
  refine wpList_append_own_at _ hgd s x 29 ho B 28 j0 (.slice none 0 0) 1 24 Tryz.underlying29 hjj hy0 hy1 hy2 rfl (by decide) v rs.length (rs.map Fr.v) hs (h.own.alloc _) ⟨w.heap.size, 0, none⟩ 1 1 [y.v] hx rfl (fun j u hj => cell_one_new w y.v 28 j u hj)
    (by intro u hu; simp at hu; subst hu; rfl) (by unfold maxLen; omega) (by omega) (by rw [alloc_size]; omega) ?_
  intro v' w' hown hgrow _ hat
  have hat' : v'.ownBlock = v.ownBlock ∨ v'.ownBlock = some (w.heap.size + 1) := by rw [alloc_size] at hat; exact hat
  have hsn := h.snoc hy h1 h2 hown hgrow hat'
  have hup : Upon (fun q => v.ownBlock = some q) w w' := by
    have q1 : Upon (fun q => v.ownBlock = some q) w (w.alloc (.cells #[y.v] 28)) := (Upon.refl _ _).alloc _
    exact q1.trans (Upon.of_grown hgrow) (fun i _ e => e)
  obtain ⟨g, c, rfl⟩ := row_succ hown (by decide)
  exact hk g c w' hsn (hup.below (fun k hk => (World.ownsRow.lt h.own k hk).1) hB) hup (by
    rcases hat' with e | e
    · exact .inl e.symm
    · exact .inr (by injection e))
def ClonF (xs : List Int) (w : World) (e : Ending) (w' : World) : Prop :=
  ∃ g c, e = .returned (.slice (some ⟨g, 0, none⟩) xs.length c) ∧ w.heap.size ≤ g ∧ g < w'.heap.size ∧ OwnX w' w.heap.size 3 (.slice (some ⟨g, 0, none⟩) xs.length c) xs ∧ Below w.heap.size w w'
theorem cloneFr_any (a : Option Addr) (c : Nat) (xs : List Int) (hf : famL xs = true) (w : World) (hi : Ints w a xs.length (fun j => xs.getD j 0)) :
    Calls Tryz.prog 110 #[.slice a xs.length c] w (ClonF xs w) := by
  have hlen := famL_len hf
  obtain ⟨b, o, rfl, hbl, hrow⟩ := hi.row hlen.1
  refine (cloneI_any b o xs.length c (fun j => xs.getD j 0) hlen.1 (by omega) w hrow hbl).mono ?_
  rintro e w2 ⟨v, rfl, hown, hb⟩
  rw [famL_get] at hown
  obtain ⟨g, c2, rfl, h1, h2, _⟩ := hown.shape hlen.1
  exact ⟨g, c2, rfl, h1, h2, hown, hb⟩
structure CopS (L : List (List Int)) (w : World) (k : Nat) (v : Value) (rs : List Fr) (wr : World) : Prop where
  xs : rs.map Fr.xs = L.take k
  len : rs.length = k
  own : FamsO wr w.heap.size v rs
  bel : Below w.heap.size w wr
def GivesF (L : List (List Int)) (w : World) (e : Ending) (w' : World) : Prop := ∃ a c rs, e = .returned (.slice a L.length c) ∧ FamsO w' w.heap.size (.slice a L.length c) rs ∧ rs.map Fr.xs = L ∧ Below w.heap.size w w'
theorem CopS.step {L : List (List Int)} {w wr w5 : World} {k : Nat} {v v' : Value} {rs : List Fr} {g c : Nat} {l : List Int} (h : CopS L w k v rs wr) (hk : k < L.length) (hl : L.getD k [] = l) (hb5 : Below w.heap.size w w5)
    (ho : FamsO w5 w.heap.size v' (rs ++ [⟨g, c, l⟩])) : CopS L w (k + 1) v' (rs ++ [⟨g, c, l⟩]) w5 := by
  refine ⟨?_, by rw [List.length_append, h.len]; rfl, ho, hb5⟩
  rw [List.map_append, h.xs, List.take_add_one, List.getElem?_eq_getElem hk]
  rw [List.getD_eq_getElem?_getD, List.getElem?_eq_getElem hk] at hl
  rw [← hl]; rfl
theorem fam_at {L : List (List Int)} (h : ∀ l ∈ L, famL l = true) {k : Nat} (hk : k < L.length) : famL (L.getD k []) = true := by
  rw [List.getD_eq_getElem?_getD, List.getElem?_eq_getElem hk]
  exact h _ (List.getElem_mem hk)
set_option maxRecDepth 100000 in
theorem copies_any (b : Option Addr) (L : List (List Int)) (c : Nat) (h8 : L.length ≤ 100) (hf : ∀ l ∈ L, famL l = true) (w : World) (h : Nest w b L) :
    Calls Tryz.prog 111 #[.slice b L.length c] w (GivesF L w) := by
  have H := Lib.hid h; have HF := Lib.hid hf
  obtain ⟨n, hnn⟩ : ∃ n, L.length = n := ⟨_, rfl⟩
  have HN := Lib.hid hnn
  rw [hnn] at h8 ⊢
  have HST : Hid (CopS L w 0 (.slice none 0 0) [] w) := Lib.hid ⟨by simp, rfl, FamsO.nil _ _, Below.refl _ _⟩
  clear h hf hnn
  go_enter Tryz.func111, Tryz.ntmps111
  go_wp2_with fail
  go_loopw [3, 5, 8] (fun v _ i wr => ∃ (k : Nat) (rs : List Fr), k ≤ n ∧ i = .int .i64 k ∧ Hid (CopS L w k v rs wr)) (fun _ _ i _ => n - (intOf i).toNat)
  case atStart => exact ⟨0, [], Nat.zero_le _, rfl, HST⟩
  case round =>
    clear HST
    obtain ⟨k, rs, hk, rfl, HS⟩ := hrel
    obtain ⟨va, vc, hv⟩ := HS.out.own.fams.seq.slice
    rw [List.length_map, HS.out.len] at hv
    subst hv
    by_cases hlt : k < n
    · have hki : (k : Int) < (n : Int) := by omega
      have hk0 : (0 : Int) ≤ (k : Int) := by omega
      have hkl : k < L.length := by rw [HN.out]; exact hlt
      obtain ⟨bk, o, a1, c1, rfl, hlc, hi, hcell⟩ := H.out.at hkl
      have hc := hcell wr HS.out.bel
      have HI := Lib.hid (hi.below HS.out.bel (Nat.le_refl _))
      have HFK := Lib.hid (fam_at HF.out hkl)
      obtain ⟨l, hl⟩ : ∃ l, L.getD k [] = l := ⟨_, rfl⟩
      have HL := Lib.hid hl; have HKL := Lib.hid hkl
      rw [hl] at hc HI HFK
      clear hi hcell hl hkl hlc
      go_wp2_with fail
      refine (cloneFr_any a1 c1 l HFK.out _ HI.out).mono ?_
      rintro e w5 ⟨g5, c5, rfl, hg1, hg2, hown, hb5⟩
      have HO5 := Lib.hid (HS.out.own.kept hb5)
      have HY5 := Lib.hid (hown.base HS.out.bel.size)
      have HB5 := Lib.hid (below_onto HS.out.bel hb5)
      have HNE1 := Lib.hid (fun r hr e => by have := (HS.out.own.fams.lt r hr).2; omega : ∀ r ∈ rs, r.g ≠ g5)
      have HNE2 : Hid ((Value.slice va k vc).ownBlock ≠ some g5) := Lib.hid (fun e => by have := (HS.out.own.fams.seq.lt g5 e).2; omega)
      have HLE := Lib.hid HS.out.len
      clear hg1 hg2 hown hb5 hc
      go_wp2_with (at_builtin; refine append_fr rfl (.tmp 12) (.tmp 15) rfl w.heap.size (.slice va k vc) rs ⟨g5, c5, l⟩ w5 rfl rfl HO5.out (by rw [HLE.out]; omega) HY5.out HNE1.out HNE2.out HB5.out.size ?_)
      intro g6 c6 w6 ho6 hb6 _ _
      rw [HLE.out] at ho6 ⊢
      have HN6 := Lib.hid (HS.out.step HKL.out HL.out (HB5.out.trans hb6) ho6)
      clear ho6 hb6 HS
      go_wp2_with fail
      go_roundw
      case rel => exact ⟨k + 1, _, by omega, by go_num, HN6⟩
      case measure => simp [intOf]; omega
    · have hki : ¬ (k : Int) < (n : Int) := by omega
      have hkn : k = n := by omega
      subst hkn
      have HD : Hid (GivesF L w (.returned (.slice va k vc)) wr) := Lib.hid (by
        have hn := HN.out
        exact ⟨va, vc, rs, by rw [hn], by rw [hn]; exact HS.out.own, by rw [HS.out.xs, List.take_of_length_le (by rw [hn]; exact Nat.le_refl _)], HS.out.bel⟩)
      go_wp2_with fail
      go_ret
      exact HD.out
theorem deskA {w7 w8 : World} {B S7 : Nat} {v1 v2 : Value} {xs : List Int} {rs : List Fr} (h1 : OwnX w7 B 3 v1 xs) (hs : S7 = w7.heap.size) (hB : B ≤ S7) (h2 : FamsO w8 S7 v2 rs) (hb : Below w7.heap.size w7 w8) : DeskG w8 B v1 v2 xs rs :=
  ⟨h1.kept hb, h2.fams.base hB, fun g hg hf => by have q1 := (h1.lt hg).2; have q2 := (h2.fams.ltB g hf).1; omega⟩
set_option maxRecDepth 100000 in
theorem copied_any (d : Value) (xs : List Int) (L : List (List Int)) (hd : deskB xs L = true) (w : World) (h : DeskR w d xs L) :
    Calls Tryz.prog 52 #[d] w (CopyD xs L w) := by
  obtain ⟨a, c, b, c2, rfl, hi, hn⟩ := h.parts
  obtain ⟨hf, h8, hL⟩ := deskB_iff.1 hd
  have q1 := alloc_below w (.cells #[.slice a xs.length c, .slice b L.length c2] 31)
  have q2 := alloc_below (w.alloc (.cells #[.slice a xs.length c, .slice b L.length c2] 31)) (.cells #[.slice none 0 0, .slice none 0 0] 31)
  have b1 := (Blk2.new w 31 (.slice a xs.length c) (.slice b L.length c2)).kept q2 (by rw [alloc_size]; omega)
  have b2 := (Blk2.new (w.alloc (.cells #[.slice a xs.length c, .slice b L.length c2] 31)) 31 (.slice none 0 0) (.slice none 0 0))
  have hz : ((w.alloc (.cells #[.slice a xs.length c, .slice b L.length c2] 31)).alloc (.cells #[.slice none 0 0, .slice none 0 0] 31)).heap.size = w.heap.size + 2 := by rw [alloc_size, alloc_size]
  rw [alloc_size] at b2
  have hq := below_onto q1 q2
  have HI0 := hi.below hq (Nat.le_refl _)
  have HN0 := hn.kept hq
  have HF := Lib.hid hf; have HL := Lib.hid hL
  clear h hi hn q1 q2 hd hf hL
  go_enter Tryz.func52, Tryz.ntmps52
  go_wp2_with fail
  obtain ⟨w2, hw2⟩ : ∃ w2, (w.alloc (.cells #[.slice a xs.length c, .slice b L.length c2] 31)).alloc (.cells #[.slice none 0 0, .slice none 0 0] 31) = w2 := ⟨_, rfl⟩
  rw [hw2] at b1 b2 hz hq HI0 HN0 ⊢
  have HKS := Lib.hid (show ∀ W, Below w2.heap.size w2 W → (W.cell? ⟨w.heap.size, 0, none⟩ = some (.slice a xs.length c) ∧ W.cell? ⟨w.heap.size, 1, none⟩ = some (.slice b L.length c2)) from
      fun W hW => (b1.kept hW b1.lt).cell)
  have HI := Lib.hid HI0; have HN := Lib.hid HN0; have HBL := Lib.hid b2; have HQ := Lib.hid hq; have HZ2 := Lib.hid hz
  have HB6 := Lib.hid (Below.refl w2.heap.size w2)
  clear b1 b2 hz hq HI0 HN0 hw2
  go_region_held3 (fun W => W.cell? ⟨w.heap.size, 0, none⟩ = some (.slice a xs.length c) ∧ W.cell? ⟨w.heap.size, 1, none⟩ = some (.slice b L.length c2)) (first | exact HKS.out _ HB6.out | exact HKS.out _ HB6.out.drew | exact HKS.out _ (below_drewN HB6.out _) | go_keep)
    (first | (go_at_call 110; refine (cloneFr_any a c xs HF.out _ (HI.out.below ?_ (Nat.le_refl _))).mono ?_; (first | exact HB6.out | exact HB6.out.drew | exact below_drewN HB6.out _); rintro e w7 ⟨g7, c7, rfl, hg1, hg2, hown, hb7⟩; have HC := Lib.hid hown; have HCB := Lib.hid hb7; have HZ := Lib.hid (show Below w2.heap.size w2 w7 from (by first | exact below_onto HB6.out hb7 | exact below_onto HB6.out.drew hb7 | exact below_onto (below_drewN HB6.out _) hb7)); clear HB6; have HB6 := HZ; clear HZ hg1 hg2 hown hb7; have hR := HBL.out.kept HB6.out HBL.out.lt; have hx0 := hR.cell.1; have hx1 := hR.cell.2; have hx2 := hR.frozen 0; have hx3 := hR.frozen 1; clear hR) | (go_at_call 111; refine (copies_any b L c2 (by omega) HL.out _ (HN.out.kept ?_)).mono ?_; (first | exact HB6.out | exact HB6.out.drew | exact below_drewN HB6.out _); rintro e w8 ⟨p2, e2, rs, rfl, hfo, hrs, hb8⟩; have HR := Lib.hid hrs; have HFO := Lib.hid hfo; have HFB := Lib.hid hb8; have HZ := Lib.hid (show Below w2.heap.size w2 w8 from (by first | exact below_onto HB6.out hb8 | exact below_onto HB6.out.drew hb8 | exact below_onto (below_drewN HB6.out _) hb8)); clear HB6; have HB6 := HZ; clear HZ hfo hrs hb8; have hR := HBL.out.kept HB6.out HBL.out.lt; have hx0 := hR.cell.1; have hx1 := hR.cell.2; have hx2 := hR.frozen 0; have hx3 := hR.frozen 1; clear hR))
  all_goals
    have HD : Hid (DeskG w8 w2.heap.size (.slice (some ⟨g7, 0, none⟩) xs.length c7) (.slice p2 L.length e2) xs rs) := Lib.hid (by first | exact deskA HC.out rfl HCB.out.size HFO.out HFB.out | exact deskB' HFO.out rfl HFB.out.size HC.out HCB.out)
    have HR2 := Lib.hid (HBL.out.kept HB6.out HBL.out.lt)
    clear HC HCB HFO HFB hx0 hx1 hx2 hx3
    go_wp2_with fail
    refine bodyPost_ret (results_desk1 rfl _ _ (w.heap.size + 1) ((HR2.out.set0 (.slice (some ⟨g7, 0, none⟩) xs.length c7)).set1 (.slice p2 L.length e2)) rfl (by kernel_rfl)) rfl ?_
    exact ⟨_, _, rfl, rs, ((HD.out.put (p := ⟨w.heap.size + 1, 0, none⟩) (show w.heap.size + 1 < w2.heap.size by have := HZ2.out; omega)).put (p := ⟨w.heap.size + 1, 1, none⟩) (show w.heap.size + 1 < w2.heap.size by have := HZ2.out; omega)).base (by have := HZ2.out; omega), HR.out,
      (((below_onto HQ.out HB6.out).setCell (p := ⟨w.heap.size + 1, 0, none⟩) (show w.heap.size ≤ w.heap.size + 1 by omega) _).setCell (p := ⟨w.heap.size + 1, 1, none⟩) (show w.heap.size ≤ w.heap.size + 1 by omega) _)⟩
theorem step_fr {ops : Array Oper} {o : Oper} {a : Act} {K : Act → World → Prop} {Q : Exit → Act → World → Prop} {E : Prop} (hgd : o.guard = none) (s x : Operand)
    (ho : o.op = .call { callee := .builtin .append, args := #[s, x], argTypes := #[29, 29] })
    (B : Nat) (v : Value) (rs : List Fr) (y : Fr) (w : World) (hs : a.eval s = v) (hx : a.eval x = .slice (some ⟨w.heap.size, 0, none⟩) 1 1) (h : FamsO w B v rs) (hl : rs.length ≤ 1000) (hy : OwnX w B 3 y.v y.xs)
    (h1 : ∀ r ∈ rs, r.g ≠ y.g) (h2 : v.ownBlock ≠ some y.g) (hB : B ≤ w.heap.size)
    (hk : ∀ g c w', FamsO w' B (.slice (some ⟨g, 0, none⟩) (rs.length + 1) c) (rs ++ [y]) → Below B w w' → Upon (fun q => v.ownBlock = some q) w w' → K (a.put o.dst (.slice (some ⟨g, 0, none⟩) (rs.length + 1) c)) w') :
    if Region.wanted o (yielded ops a.tmps) = true then Oper.wp Tryz.prog o a (w.alloc (.cells #[y.v] 28)) K Q else E := by
  obtain ⟨j0, hjj, hy0, hy1, hy2⟩ := info_parts3 Tryz.infoSl
  refine step_append_lies _ hgd s x 29 ho B 28 j0 (.slice none 0 0) 1 24 Tryz.underlying29 hjj hy0 hy1 hy2 rfl (by decide) v rs.length (rs.map Fr.v) hs (h.own.alloc _) ⟨w.heap.size, 0, none⟩ 1 1 [y.v] hx rfl (fun j u hj => cell_one_new w y.v 28 j u hj)
    (by intro u hu; simp at hu; subst hu; rfl) (by omega) (by unfold maxLen; omega) (by omega) (by rw [alloc_size]; omega) (w.heap.size + 1) (by rw [alloc_size]) ?_
  intro g c w' hown hgrow hat hlt
  have hat' : (Value.slice (some ⟨g, 0, none⟩) (rs.length + 1) c).ownBlock = v.ownBlock ∨ (Value.slice (some ⟨g, 0, none⟩) (rs.length + 1) c).ownBlock = some (w.heap.size + 1) := by
    rcases hat with e | e
    · exact .inl e.symm
    · exact .inr (by rw [e]; rfl)
  have hsn := h.snoc hy h1 h2 hown hgrow hat'
  have hup : Upon (fun q => v.ownBlock = some q) w w' := by
    have q1 : Upon (fun q => v.ownBlock = some q) w (w.alloc (.cells #[y.v] 28)) := (Upon.refl _ _).alloc _
    exact q1.trans (Upon.of_grown hgrow) (fun i _ e => e)
  exact hk g c w' hsn (hup.below (fun k hk => (World.ownsRow.lt h.own k hk).1) hB) hup
theorem step_cl {ops : Array Oper} {o : Oper} {a : Act} {K : Act → World → Prop} {Q : Exit → Act → World → Prop} {E : Prop} (hgd : o.guard = none) (s x : Operand)
    (ho : o.op = .call { callee := .builtin .append, args := #[s, x], argTypes := #[28, 28] })
    (xs : List Int) (h1 : 1 ≤ xs.length) (hl : xs.length ≤ 1000) (w : World) (g o' c : Nat) (hs : a.eval s = .slice (some ⟨w.heap.size, 0, none⟩) 0 0) (hx : a.eval x = .slice (some ⟨g, o', none⟩) xs.length c) (hr : Row w g o' xs.length (fun j => xs.getD j 0)) (hg : g < w.heap.size)
    (hk : ∀ g c w', OwnX w' w.heap.size 3 (.slice (some ⟨g, 0, none⟩) xs.length c) xs → Below w.heap.size w w' → w.heap.size ≤ g ∧ g < w'.heap.size → K (a.put o.dst (.slice (some ⟨g, 0, none⟩) xs.length c)) w') :
    if Region.wanted o (yielded ops a.tmps) = true then Oper.wp Tryz.prog o a (w.alloc (.cells #[] 3)) K Q else E := by
  obtain ⟨i0, hi0, hz0, hz1, hz2⟩ := info_parts Tryz.infoInt
  have hmade : OwnX (w.alloc (.cells #[] 3)) w.heap.size 3 (.slice (some ⟨w.heap.size, 0, none⟩) 0 0) [] := OwnX.made w _ (Nat.le_refl _) _
  refine step_append_lies _ hgd s x 28 ho w.heap.size 3 i0 (.int .i64 0) 1 8 Tryz.underlying28 hi0 hz0 hz1 hz2 rfl (by decide) (.slice (some ⟨w.heap.size, 0, none⟩) 0 0) 0 [] hs hmade ⟨g, o', none⟩ xs.length c (rowV (fun j => xs.getD j 0) xs.length) hx (by rw [rowV_len]; omega) (rowV_cells (hr.below (alloc_below w _) hg)) (rowV_one _ _)
    (by omega) (by unfold maxLen; omega) (by omega) (by rw [alloc_size]; omega) (w.heap.size + 1) (by rw [alloc_size]) ?_
  intro g' c' w' hown hgrow hat hlt
  have hb : Below w.heap.size w w' := (alloc_below w (.cells #[] 3)).trans ((Below.refl w.heap.size _).grown hgrow (by rw [alloc_size]; omega) (fun q hq => (World.ownsRow.lt hmade q hq).1))
  rw [Nat.zero_add, List.nil_append] at hown
  rw [Nat.zero_add]
  have hrx := OwnX.rowV hown
  rw [famL_get] at hrx
  exact hk g' c' w' hrx hb ⟨(hrx.lt (g := g') rfl).1, hlt⟩
def GivesO (xs : List Int) (L : List (List Int)) (w w' : World) (v1 v2 : Value) : Prop :=
  ∃ rs, OwnX w' w.heap.size 3 v1 xs ∧ FamsO w' w.heap.size v2 rs ∧ (∀ g, v1.ownBlock = some g → ¬ FB v2 rs g) ∧ rs.map Fr.xs = L ∧ Below w.heap.size w w'
theorem GivesO.desk {xs : List Int} {L : List (List Int)} {w w' : World} {v1 v2 : Value} (h : GivesO xs L w w' v1 v2) : GivesD xs L w w' v1 v2 := by
  obtain ⟨rs, h1, h2, h3, h4, h5⟩ := h
  exact ⟨rs, ⟨h1, h2.fams, h3⟩, h4, h5⟩
structure L12S (xs : List Int) (L : List (List Int)) (x y : Value) (w : World) (D O : Nat) (v1 : Value) (k : Nat) (v2 : Value) (rs : List Fr) (wr : World) : Prop where
  d : Blk2 wr D 31 x y
  r : Blk2 wr (D + 1) 31 (.slice none 0 0) (.slice none 0 0)
  o : Blk2 wr O 31 v1 v2
  lt : D + 1 < O
  eq : D = w.heap.size
  now : OwnX wr (D + 2) 3 v1 xs
  low : ∀ g, v1.ownBlock = some g → g < O
  own : FamsO wr (O + 1) v2 rs
  xs : rs.map Fr.xs = L.take k
  len : rs.length = k
  bel : Below w.heap.size w wr
theorem FamsO.put {w : World} {B : Nat} {v u : Value} {rs : List Fr} {p : Addr} (h : FamsO w B v rs) (hp : p.block < B) : FamsO (w.setCell p u) B v rs :=
  h.same (fun g hg => set_blk (by have := (h.fams.ltB g hg).1; omega))
theorem L12S.step {xs : List Int} {L : List (List Int)} {x y : Value} {w wr w6 w7 : World} {D O k g6 c6 g7 c7 : Nat} {v1 v2 : Value} {rs : List Fr} {l : List Int} (h : L12S xs L x y w D O v1 k v2 rs wr) (hk : k < L.length) (hl : L.getD k [] = l)
    (hb6 : Below wr.heap.size wr w6) (hu7 : Upon (fun q => v2.ownBlock = some q) w6 w7) (ho7 : FamsO w7 (O + 1) (.slice (some ⟨g7, 0, none⟩) (rs.length + 1) c7) (rs ++ [⟨g6, c6, l⟩])) :
    L12S xs L x y w D O v1 (k + 1) (.slice (some ⟨g7, 0, none⟩) (rs.length + 1) c7) (rs ++ [⟨g6, c6, l⟩]) (w7.setCell ⟨O, 1, none⟩ (.slice (some ⟨g7, 0, none⟩) (rs.length + 1) c7)) := by
  have hv2 : ∀ q, v2.ownBlock = some q → O + 1 ≤ q ∧ q < wr.heap.size := fun q hq => h.own.fams.ltB q (.inl hq)
  have hOl : O < wr.heap.size := h.o.lt
  have key : ∀ q, q < wr.heap.size → q ≤ O → w7.heap[q]? = wr.heap[q]? := fun q hq hO => (hu7.block q (Nat.lt_of_lt_of_le hq hb6.size) (fun e => by have := (hv2 q e).1; omega)).trans (hb6.block q hq)
  have hlt := h.lt
  have hb7 : Below w.heap.size w w7 := (below_onto h.bel hb6).trans (hu7.below (fun q hq => by have := (hv2 q hq).1; have := h.eq; omega) (Nat.le_trans h.bel.size hb6.size))
  refine ⟨?_, ?_, ?_, hlt, h.eq, ?_, h.low, ho7.put (Nat.lt_succ_self _), ?_, by rw [List.length_append, h.len]; rfl, hb7.setCell (by show w.heap.size ≤ O; have := h.eq; omega) _⟩
  · exact Blk2.other ((key D h.d.lt (by omega)).trans h.d) (by omega) 1 _
  · exact Blk2.other ((key (D + 1) h.r.lt (by omega)).trans h.r) (by omega) 1 _
  · exact Blk2.set1 (x := v1) (y := v2) ((key O hOl (Nat.le_refl _)).trans h.o) _
  · refine h.now.other (fun g hg hBg hgl => ?_)
    have := h.low g hg
    exact (set_blk (by show g ≠ O; omega)).trans (key g hgl (by omega))
  · rw [List.map_append, h.xs, List.take_add_one, List.getElem?_eq_getElem hk]
    rw [List.getD_eq_getElem?_getD, List.getElem?_eq_getElem hk] at hl
    rw [← hl]; rfl
def CopyO (xs : List Int) (L : List (List Int)) (w : World) (e : Ending) (w' : World) : Prop := ∃ v1 v2, e = .returned (.agg #[v1, v2]) ∧ GivesO xs L w w' v1 v2
theorem ownsRow_base {w : World} {B B' n s : Nat} {e : TypeId} {v : Value} {xs : List Value} (h : w.ownsRow B e s v n xs) (hB : B' ≤ B) : w.ownsRow B' e s v n xs := by
  obtain ⟨h3, h4⟩ := h
  refine ⟨h3, ?_⟩
  rcases h4 with h4 | ⟨g, cap, cur, hv, hBg, hr⟩
  · exact .inl h4
  · exact .inr ⟨g, cap, cur, hv, Nat.le_trans hB hBg, hr⟩
theorem FamsO.base {w : World} {B B' : Nat} {v : Value} {rs : List Fr} (h : FamsO w B v rs) (hB : B' ≤ B) : FamsO w B' v rs := ⟨ownsRow_base h.own hB, fun r hr => (h.row r hr).base hB, h.dis, h.apart⟩
theorem L12S.done {xs : List Int} {L : List (List Int)} {x y : Value} {w wr : World} {D O k : Nat} {v1 v2 : Value} {rs : List Fr} (h : L12S xs L x y w D O v1 k v2 rs wr) (hk : L.length ≤ k) :
    GivesO xs L w ((wr.setCell ⟨D + 1, 0, none⟩ v1).setCell ⟨D + 1, 1, none⟩ v2) v1 v2 := by
  have hlt := h.lt
  have heq := h.eq
  refine ⟨rs, ((h.now.put (show D + 1 < D + 2 by omega)).put (show D + 1 < D + 2 by omega)).base (by omega), ?_, fun g hg hf => ?_, by rw [h.xs, List.take_of_length_le hk], (h.bel.setCell (by show w.heap.size ≤ D + 1; omega) _).setCell (by show w.heap.size ≤ D + 1; omega) _⟩
  · have := ((h.own.put (u := v1) (p := ⟨D + 1, 0, none⟩) (show D + 1 < O + 1 by omega)).put (u := v2) (p := ⟨D + 1, 1, none⟩) (show D + 1 < O + 1 by omega))
    exact this.base (by omega)
  · have h1 := h.low g hg
    have h2 := (h.own.fams.ltB g hf).1
    omega
theorem filter_all {xs : List Int} {p : Int → Bool} (h : (xs.filter p).length = xs.length) : xs.filter p = xs :=
  List.filter_eq_self.2 (List.length_filter_eq_length_iff.1 h)
theorem done_all {xs : List Int} {F : Nat → Bool} (hf : famL (doneL xs.length (fun i => xs.getD i 0) F) = true) (h : (doneL xs.length (fun i => xs.getD i 0) F).length = xs.length) : doneL xs.length (fun i => xs.getD i 0) F = xs := by
  unfold doneL at hf h ⊢
  cases hr : roomB xs.length (fun i => xs.getD i 0) F with
  | false => rw [hr] at hf; exact absurd famL_nil (by rw [show famL [] = true from hf]; decide)
  | true =>
    rw [hr, if_pos rfl] at h
    rw [if_pos rfl]
    rw [with_len] at h
    have h0 : fam (newS F (memS xs.length (fun i => xs.getD i 0))) 16 = [] := List.eq_nil_of_length_eq_zero (by omega)
    unfold withL
    rw [h0, List.append_nil]
    exact famL_get
theorem md_same {xs : List Int} {k x : Int} (hk : 0 ≤ k ∧ k ≤ 3) (hf : famL (mdL xs k x) = true) (h : (mdL xs k x).length = xs.length) : mdL xs k x = xs := by
  have : k = 0 ∨ k = 1 ∨ k = 2 ∨ k = 3 := by omega
  rcases this with rfl | rfl | rfl | rfl
  · exact absurd h (by show (xs ++ [x]).length ≠ xs.length; rw [List.length_append, List.length_singleton]; omega)
  · exact filter_all h
  · exact done_all hf h
  · exact done_all hf h
theorem equal_same (a1 a2 : Option Addr) (xs : List Int) (c1 c2 : Nat) (h1 : 1 ≤ xs.length) (hn : xs.length ≤ 1000) (w : World) (hi1 : Ints w a1 xs.length (fun j => xs.getD j 0)) (hi2 : Ints w a2 xs.length (fun j => xs.getD j 0)) :
    Calls Tryz.prog 146 #[.slice a1 xs.length c1, .slice a2 xs.length c2] w fun e w' => e = .returned (.bool true) ∧ Drew w w' := by
  obtain ⟨b1, o1, rfl, _, hr1⟩ := hi1.row h1
  obtain ⟨b2, o2, rfl, _, hr2⟩ := hi2.row h1
  refine (equal_row b1 o1 c1 b2 o2 c2 xs.length _ _ hn w hr1 hr2).mono ?_
  rintro e w' ⟨rfl, hd⟩
  exact ⟨by rw [show sameB xs.length (fun j => xs.getD j 0) (fun j => xs.getD j 0) = true from decide_eq_true (fun i _ => rfl)], hd⟩
theorem equal_len (a1 a2 : Option Addr) (n1 n2 c1 c2 : Nat) (h : n1 ≠ n2) (w : World) :
    Calls Tryz.prog 146 #[.slice a1 n1 c1, .slice a2 n2 c2] w fun e w' => e = .returned (.bool false) ∧ Drew w w' := by
  have hne : ((n1 : Int) != (n2 : Int)) = true := by simp; omega
  clear h
  go_enter Tryz.func146, Tryz.ntmps146
  go_wp2_with fail
  go_ret
  exact ⟨rfl, Drew.refl _⟩
theorem take_asks (E g : Nat) (k x : Int) (w : World) (hb : Blk2 w E 39 (.int .i64 k) (.int .i64 x)) (hne : E ≠ g) :
    Asks 171 E g (fun y => y == x) w := by
  intro W ho y hy
  have hbW : Blk2 W E 39 (.int .i64 k) (.int .i64 x) := (ho.block E hb.lt hne).trans hb
  have hc1 := hbW.cell.2
  clear hb ho hbW hne
  go_enter Tryz.func171, Tryz.ntmps171
  go_wp2_with fail
  go_ret
  exact ⟨rfl, rfl⟩
theorem evL_take (xs : List Int) (x : Int) : evL (fun y => y == x) xs = xs.filter (fun y => y != x) := rfl
set_option maxRecDepth 100000 in
theorem familyAfter_any (d : Value) (xs : List Int) (L : List (List Int)) (k x : Int) (hf : famL xs = true) (hk : 0 ≤ k ∧ k ≤ 3) (hx : I64 x) (w : World) (h : DeskR w d xs L) :
    Calls Tryz.prog 145 #[d, .agg #[.int .i64 k, .int .i64 x]] w (Gives 3 (mdL xs k x) w) := by
  obtain ⟨a, c, b, c2, rfl, hi, hn⟩ := h.parts
  obtain ⟨i0, hi0, hz0, hz1, hz2⟩ := info_parts Tryz.infoInt
  have hlen := famL_len hf
  have q1 := alloc_below w (.cells #[.slice a xs.length c, .slice b L.length c2] 31)
  have q2 := alloc_below (w.alloc (.cells #[.slice a xs.length c, .slice b L.length c2] 31)) (.cells #[.int .i64 k, .int .i64 x] 39)
  have b2 := (Blk2.new (w.alloc (.cells #[.slice a xs.length c, .slice b L.length c2] 31)) 39 (.int .i64 k) (.int .i64 x))
  rw [alloc_size] at b2
  have hz : ((w.alloc (.cells #[.slice a xs.length c, .slice b L.length c2] 31)).alloc (.cells #[.int .i64 k, .int .i64 x] 39)).heap.size = w.heap.size + 2 := by rw [alloc_size, alloc_size]
  have hq := below_onto q1 q2
  have HI := Lib.hid (hi.below hq (Nat.le_refl _))
  have HBL := Lib.hid b2; have HQ := Lib.hid hq; have HF := Lib.hid hf; have HX := Lib.hid hx; have HZ := Lib.hid hz
  have H64 := Lib.hid (famL_I64 hf)
  clear h hi hn q1 q2 hq b2 hf hx hz
  have hkk : k = 0 ∨ k = 1 ∨ k = 2 ∨ k = 3 := by omega
  clear hk
  rcases hkk with rfl | rfl | rfl | rfl
  · go_enter Tryz.func145, Tryz.ntmps145
    go_wp2_with fail
    refine (cloneFr_any a c xs HF.out _ HI.out).mono ?_
    rintro e w1 ⟨g, cg, rfl, hg1, hg2, hown, hb⟩
    have HB1 := Lib.hid (below_onto HQ.out hb)
    have HBL1 := Lib.hid (HBL.out.kept hb HBL.out.lt)
    rw [HZ.out] at hown hg1
    have HO1 : Hid (w1.ownsRow (w.heap.size + 2) 3 1 (.slice (some ⟨g, 0, none⟩) xs.length cg) xs.length (xs.map (Value.int .i64))) := Lib.hid hown
    have HS1 := Lib.hid (show w.heap.size + 2 ≤ w1.heap.size by have := HZ.out; have := hb.size; omega)
    clear hown hb hg1 hg2 HI HBL HQ
    have hc0 := HBL1.out.cell.1; have hc1 := HBL1.out.cell.2
    have k1 := Lib.hid (fun (j : Nat) (u : Value) (h : [Value.int .i64 x][j]? = some u) => cell_one_new w1 (.int .i64 x) 3 j u h)
    have k2 : Hid (∀ u ∈ [Value.int .i64 x], u.oneCell' = true) := Lib.hid (by intro u hu; simp at hu; subst hu; rfl)
    have k3 : Hid (xs.length + 1 ≤ maxLen) := Lib.hid (by unfold maxLen; omega)
    have k4 : Hid ((xs.length + 1) * 8 ≤ 140737488355328) := Lib.hid (by omega)
    have k5 : Hid (w.heap.size + 2 ≤ (w1.alloc (.cells #[.int .i64 x] 3)).heap.size) := Lib.hid (by rw [alloc_size]; have := HS1.out; omega)
    go_wp2_with (at_builtin; refine wpList_append_own _ rfl (.tmp 13) (.tmp 16) 28 rfl (w.heap.size + 2) 3 i0 (.int .i64 0) 1 8 Tryz.underlying28 hi0 hz0 hz1 hz2 rfl (by decide) _ _ _ rfl (HO1.out.alloc _) ⟨w1.heap.size, 0, none⟩ 1 1 [.int .i64 x] rfl rfl k1.out k2.out k3.out k4.out k5.out ?_)
    intro v5 w5 hown5 hgrow5 _
    have hb5 : Below w.heap.size w w5 := (HB1.out.alloc HB1.out.size _).grown hgrow5 (by rw [alloc_size]; have := HS1.out; omega) (fun q hq => by have := (HO1.out.lt q hq).1; omega)
    have HO5 := Lib.hid ((OwnX.snoc hown5).base (B' := w.heap.size) (by omega)); have HB5 := Lib.hid hb5
    clear hown5 hgrow5 hb5 k1 k2 k3 k4 k5 HO1 HB1 hc0 hc1
    go_wp2_with fail
    go_ret
    exact ⟨_, rfl, HO5.out, HB5.out⟩
  · go_enter Tryz.func145, Tryz.ntmps145
    go_wp2_with fail
    refine (cloneFr_any a c xs HF.out _ HI.out).mono ?_
    rintro e w1 ⟨g, cg, rfl, hg1, hg2, hown, hb⟩
    have HB1 := Lib.hid (below_onto HQ.out hb)
    have HBL1 := Lib.hid (HBL.out.kept hb HBL.out.lt)
    rw [HZ.out] at hown hg1
    have HO1 := Lib.hid hown
    have HS1 := Lib.hid (show w.heap.size + 2 ≤ w1.heap.size by have := HZ.out; have := hb.size; omega)
    clear hown hb hg1 hg2 HI HBL HQ
    have hc0 := HBL1.out.cell.1
    go_wp2_with fail
    refine (deleteFunc_any 171 (w.heap.size + 1) (enters_of (P := Tryz.prog) Tryz.func171 (by kernel_rfl) rfl) (fun y => y == x) (w.heap.size + 2) (.slice (some ⟨g, 0, none⟩) xs.length cg) xs (by omega) H64.out hlen.1 w1 HS1.out HO1.out (fun g' hg' _ => take_asks _ g' 1 x w1 HBL1.out (by omega))).mono ?_
    rintro e w5 ⟨v, rfl, hown5, hb5⟩
    rw [evL_take] at hown5
    have HO5 := Lib.hid (hown5.base (B' := w.heap.size) (by omega))
    have HB5 := Lib.hid (HB1.out.trans (hb5.mono (by omega)))
    clear hown5 hb5 hc0
    go_wp2_with fail
    go_ret
    exact ⟨_, rfl, HO5.out, HB5.out⟩
  · go_enter Tryz.func145, Tryz.ntmps145
    go_wp2_with fail
    refine (cloneFr_any a c xs HF.out _ HI.out).mono ?_
    rintro e w1 ⟨g, cg, rfl, hg1, hg2, hown, hb⟩
    have HB1 := Lib.hid (below_onto HQ.out hb)
    have HBL1 := Lib.hid (HBL.out.kept hb HBL.out.lt)
    obtain ⟨p1, p2, hp, hpi⟩ := hown.intsR (by omega) H64.out
    injection hp with e1 e2 e3
    subst e1; subst e3
    have HI1 := Lib.hid hpi.2
    clear hown hb hg1 hg2 HI HBL HQ hpi e2
    have hc0 := HBL1.out.cell.1
    go_wp2_with fail
    refine (WithPoints_any _ xs.length _ (fun j => xs.getD j 0) _ HI1.out).mono ?_
    rintro e w5 ⟨v, rfl, hown5, hb5⟩
    have HO5 := Lib.hid (hown5.base (B' := w.heap.size) HB1.out.size)
    have HB5 := Lib.hid (below_onto HB1.out hb5)
    clear hown5 hb5 hc0
    go_wp2_with fail
    go_ret
    exact ⟨_, rfl, HO5.out, HB5.out⟩
  · go_enter Tryz.func145, Tryz.ntmps145
    go_wp2_with fail
    refine (cloneFr_any a c xs HF.out _ HI.out).mono ?_
    rintro e w1 ⟨g, cg, rfl, hg1, hg2, hown, hb⟩
    have HB1 := Lib.hid (below_onto HQ.out hb)
    have HBL1 := Lib.hid (HBL.out.kept hb HBL.out.lt)
    obtain ⟨p1, p2, hp, hpi⟩ := hown.intsR (by omega) H64.out
    injection hp with e1 e2 e3
    subst e1; subst e3
    have HI1 := Lib.hid hpi.2
    clear hown hb hg1 hg2 HI HBL HQ hpi e2
    have hc0 := HBL1.out.cell.1
    go_wp2_with fail
    refine (WithSums_any _ xs.length _ (fun j => xs.getD j 0) _ HI1.out).mono ?_
    rintro e w5 ⟨v, rfl, hown5, hb5⟩
    have HO5 := Lib.hid (hown5.base (B' := w.heap.size) HB1.out.size)
    have HB5 := Lib.hid (below_onto HB1.out hb5)
    clear hown5 hb5 hc0
    go_wp2_with fail
    go_ret
    exact ⟨_, rfl, HO5.out, HB5.out⟩
theorem Nest.less {w : World} {b : Option Addr} {L : List (List Int)} (h : Nest w b L) : Nest w b L.dropLast := by
  obtain ⟨h1, h2⟩ := h
  refine ⟨by rw [List.length_dropLast]; omega, ?_⟩
  rcases h2 with h2 | ⟨bk, o, e, hl, hr⟩
  · exact .inl (by rw [List.length_dropLast]; omega)
  · by_cases h0 : L.dropLast.length = 0
    · exact .inl h0
    · refine .inr ⟨bk, o, e, hl, fun i hi => ?_⟩
      have hi' : i < L.length := by rw [List.length_dropLast] at hi; omega
      obtain ⟨a, c, q1, q2, q3⟩ := hr i hi'
      have e2 : L.dropLast[i] = L[i] := by rw [List.getElem_dropLast]
      rw [e2]
      exact ⟨a, c, q1, q2, q3⟩
theorem run_cut (g o n c m : Nat) (hm : m ≤ n) (hc : n ≤ c) (W : World) : (Instr.slice 29 (.slice (some ⟨g, o, none⟩) n c) none (some (.int .i64 m)) none).run Tryz.prog W = .ok (.slice (some ⟨g, o, none⟩) m c) W := by
  have hz : ∀ w, (Go.sizeOf 28).run Tryz.prog w = .ok 1 w := fun w => by kernel_rfl
  have h0 : (0 : Int) ≤ (m : Int) := by omega
  have hmc : ¬ c < m := by omega
  simp [hmc, Instr.slice, Instr.sliceBounds, Instr.sliceBound, run_underlying Tryz.underlying29, asIntOf, hz, h0, Addr.add_lit]
def DoneD (ok : Bool) (xs : List Int) (L : List (List Int)) (w : World) (e : Ending) (w' : World) : Prop := ∃ v1 v2, e = .returned (.tuple #[.agg #[v1, v2], .bool ok]) ∧ GivesD xs L w w' v1 v2
set_option maxRecDepth 100000 in
theorem back_any (d : Value) (xs : List Int) (L : List (List Int)) (hd : deskB xs L = true) (w : World) (h : DeskR w d xs L) :
    Calls Tryz.prog 115 #[d] w (DoneD (decide (L ≠ [])) (if L ≠ [] then L.getLastD [] else xs) (if L ≠ [] then L.dropLast else L) w) := by
  have hdd := h
  obtain ⟨a, c, b, c2, rfl, hi, hn⟩ := h.parts
  obtain ⟨hf, h8, hL⟩ := deskB_iff.1 hd
  have q1 := alloc_below w (.cells #[.slice a xs.length c, .slice b L.length c2] 31)
  have q2 := alloc_below (w.alloc (.cells #[.slice a xs.length c, .slice b L.length c2] 31)) (.cells #[.slice none 0 0, .slice none 0 0] 31)
  have b1 := (Blk2.new w 31 (.slice a xs.length c) (.slice b L.length c2)).kept q2 (by rw [alloc_size]; omega)
  have b2 := (Blk2.new (w.alloc (.cells #[.slice a xs.length c, .slice b L.length c2] 31)) 31 (.slice none 0 0) (.slice none 0 0))
  have hz : ((w.alloc (.cells #[.slice a xs.length c, .slice b L.length c2] 31)).alloc (.cells #[.slice none 0 0, .slice none 0 0] 31)).heap.size = w.heap.size + 2 := by rw [alloc_size, alloc_size]
  rw [alloc_size] at b2
  have hq := below_onto q1 q2
  have HDR := Lib.hid (hdd.kept hq)
  by_cases hne : L = []
  · have hnn : ¬ (L ≠ []) := fun h => h hne
    rw [if_neg hnn, if_neg hnn, decide_eq_false hnn]
    clear hnn
    subst hne
    have HD := Lib.hid hd
    have HBL := Lib.hid b2; have HQ := Lib.hid hq; have HZ := Lib.hid hz
    have hc0 := b1.cell.1; have hc1 := b1.cell.2
    clear hdd hi hn q1 q2 hd hL b1 b2 hz hq h8
    go_enter Tryz.func115, Tryz.ntmps115
    go_wp2_with fail
    refine (copied_any _ xs [] HD.out _ HDR.out).mono ?_
    rintro e w3 ⟨v1, v2, rfl, hg⟩
    obtain ⟨rs, hdg, hrs, hb⟩ := hg
    rw [HZ.out] at hdg
    have hR := HBL.out.kept hb HBL.out.lt
    obtain ⟨p1, e1, rfl⟩ := hdg.now.slice
    obtain ⟨p2, e2, hp2⟩ := hdg.past.seq.slice
    have hrs0 : rs = [] := List.map_eq_nil_iff.1 hrs
    subst hrs0
    have hp3 : v2 = .slice p2 0 e2 := hp2
    subst hp3
    clear hp2
    have hx0 := hR.cell.1; have hx1 := hR.cell.2; have hx2 := hR.frozen 0; have hx3 := hR.frozen 1
    have HR := Lib.hid hR; have HDG := Lib.hid hdg; have HRS := Lib.hid hrs; have HB := Lib.hid hb
    clear hdg hrs hb hR
    go_wp2_with fail
    refine bodyPost_ret (results_desk rfl _ _ (w.heap.size + 1) ((HR.out.set0 _).set1 _) rfl rfl (by kernel_rfl)) rfl ?_
    exact ⟨_, _, rfl, [], ((HDG.out.put (p := ⟨w.heap.size + 1, 0, none⟩) (show w.heap.size + 1 < w.heap.size + 2 by omega)).put (p := ⟨w.heap.size + 1, 1, none⟩) (show w.heap.size + 1 < w.heap.size + 2 by omega)).base (B' := w.heap.size) (by omega), HRS.out,
      (((below_onto HQ.out HB.out).setCell (p := ⟨w.heap.size + 1, 0, none⟩) (show w.heap.size ≤ w.heap.size + 1 by omega) _).setCell (p := ⟨w.heap.size + 1, 1, none⟩) (show w.heap.size ≤ w.heap.size + 1 by omega) _)⟩
  · rw [if_pos hne, if_pos hne, decide_eq_true hne]
    have hl1 : 1 ≤ L.length := by cases L with | nil => exact absurd rfl hne | cons _ _ => simp
    obtain ⟨m, hm⟩ : ∃ m, L.length = m + 1 := ⟨L.length - 1, by omega⟩
    have hlast : L.getD m [] = L.getLastD [] := by rw [List.getLastD_eq_getLast?, List.getLast?_eq_getElem?, List.getD_eq_getElem?_getD, hm]; rfl
    have hdl : L.dropLast.length = m := by rw [List.length_dropLast, hm]; rfl
    have hkl : m < L.length := by omega
    obtain ⟨bk, o, a1, c1, rfl, hlc, hi1, hcell⟩ := hn.at hkl
    have hfl := fam_at hL hkl
    have hbkl : bk < w.heap.size := World.block_lt_of_cell? w _ (hcell w (Below.refl _ _))
    have hnb : ¬ bk = w.heap.size + 1 := by omega
    have hnc : ¬ w.heap.size + 1 = bk := by omega
    clear hbkl
    have hLd : ∀ l ∈ L.dropLast, famL l = true := fun l hl => hL l (List.dropLast_subset L hl)
    have hm8 : m ≤ 8 := by omega
    have hc2l : L.length ≤ c2 := by obtain ⟨_, _, _, _, e, _, h2, _⟩ := hdd.eq; cases e; exact h2
    rw [hm] at b1 b2 hz hq hc2l ⊢
    have HN1 := hn.less.kept hq
    obtain ⟨DL, hDL⟩ : ∃ DL, L.dropLast = DL := ⟨_, rfl⟩
    rw [hDL] at HN1 hdl hLd ⊢
    clear hDL
    have HI1 := hi1.below hq (Nat.le_refl _)
    rw [hlast] at HI1 hfl hcell
    obtain ⟨l, hl⟩ : ∃ l, L.getLastD [] = l := ⟨_, rfl⟩
    rw [hl] at HI1 hfl hcell ⊢
    have hcut := fun W => run_cut bk o (m + 1) c2 m (by omega) hc2l W
    obtain ⟨w2, hw2⟩ : ∃ w2, (w.alloc (.cells #[.slice a xs.length c, .slice (some ⟨bk, o, none⟩) (m + 1) c2] 31)).alloc (.cells #[.slice none 0 0, .slice none 0 0] 31) = w2 := ⟨_, rfl⟩
    rw [hw2] at b1 b2 hz hq HN1 HI1
    have HLF := Lib.hid hfl
    have HCP := Lib.hid (show ∀ W, Below w2.heap.size w2 W → Calls Tryz.prog 111 #[.slice (some ⟨bk, o, none⟩) m c2] W (GivesF DL W) from fun W hW => by
      have := copies_any (some ⟨bk, o, none⟩) DL c2 (by omega) hLd W (HN1.kept hW)
      rw [hdl] at this; exact this)
    have HKS := Lib.hid (show ∀ W, Below w2.heap.size w2 W → ((W.cell? ⟨w.heap.size, 0, none⟩ = some (.slice a xs.length c) ∧ W.cell? ⟨w.heap.size, 1, none⟩ = some (.slice (some ⟨bk, o, none⟩) (m + 1) c2)) ∧ W.cell? ⟨bk, o + m, none⟩ = some (.slice a1 l.length c1)) from
      fun W hW => ⟨(b1.kept hW b1.lt).cell, hcell W (below_onto hq hW)⟩)
    have HI := Lib.hid HI1; have HBL := Lib.hid b2; have HQ := Lib.hid hq; have HZ2 := Lib.hid hz; have HW2 := Lib.hid hw2
    have HB6 := Lib.hid (Below.refl w2.heap.size w2)
    have hg0 : (0 : Int) ≤ (m : Int) := by omega
    have hg1 : decide ((m : Int) < 0) = false := decide_eq_false (by omega)
    have hg2 : (m : Int) < (m : Int) + 1 := by omega
    have HK0 := HKS.out w2 (Below.refl _ _)
    obtain ⟨⟨hk0, hk1⟩, hk2⟩ := HK0
    clear hdd hi hn q1 q2 hd hL b1 b2 hz hq h8 hf hi1 hcell hlc hkl hm hlast hdl hl1 hne HDR HN1 HI1 hfl hLd hl hc2l
    go_enter Tryz.func115, Tryz.ntmps115
    go_wp2_with fail
    clear hk0 hk1 hk2 hw2
    go_region_held3 (fun W => (W.cell? ⟨w.heap.size, 0, none⟩ = some (.slice a xs.length c) ∧ W.cell? ⟨w.heap.size, 1, none⟩ = some (.slice (some ⟨bk, o, none⟩) (m + 1) c2)) ∧ W.cell? ⟨bk, o + m, none⟩ = some (.slice a1 l.length c1)) (first | exact HKS.out _ HB6.out | exact HKS.out _ HB6.out.drew | exact HKS.out _ (below_drewN HB6.out _) | go_keep)
      (first | (go_at_call 110; refine (cloneFr_any a1 c1 l HLF.out _ (HI.out.below ?_ (Nat.le_refl _))).mono ?_; (first | exact HB6.out | exact HB6.out.drew | exact below_drewN HB6.out _); rintro e w7 ⟨g7, c7, rfl, hg1, hg2, hown, hb7⟩; have HC := Lib.hid hown; have HCB := Lib.hid hb7; have HZ := Lib.hid (show Below w2.heap.size w2 w7 from (by first | exact below_onto HB6.out hb7 | exact below_onto HB6.out.drew hb7 | exact below_onto (below_drewN HB6.out _) hb7)); clear HB6; have HB6 := HZ; clear HZ hg1 hg2 hown hb7; have hR := HBL.out.kept HB6.out HBL.out.lt; have hx0 := hR.cell.1; have hx1 := hR.cell.2; have hx2 := hR.frozen 0; have hx3 := hR.frozen 1; clear hR) | (go_at_call 111; refine (HCP.out _ ?_).mono ?_; (first | exact HB6.out | exact HB6.out.drew | exact below_drewN HB6.out _); rintro e w8 ⟨p2, e2, rs, rfl, hfo, hrs, hb8⟩; have HR := Lib.hid hrs; have HFO := Lib.hid hfo; have HFB := Lib.hid hb8; have HZ := Lib.hid (show Below w2.heap.size w2 w8 from (by first | exact below_onto HB6.out hb8 | exact below_onto HB6.out.drew hb8 | exact below_onto (below_drewN HB6.out _) hb8)); clear HB6; have HB6 := HZ; clear HZ hfo hrs hb8; have hR := HBL.out.kept HB6.out HBL.out.lt; have hx0 := hR.cell.1; have hx1 := hR.cell.2; have hx2 := hR.frozen 0; have hx3 := hR.frozen 1; clear hR))
    all_goals
      have HD : Hid (DeskG w8 w2.heap.size (.slice (some ⟨g7, 0, none⟩) l.length c7) (.slice p2 DL.length e2) l rs) := Lib.hid (by first | exact deskA HC.out rfl HCB.out.size HFO.out HFB.out | exact deskB' HFO.out rfl HFB.out.size HC.out HCB.out)
      have HR2 := Lib.hid (HBL.out.kept HB6.out HBL.out.lt)
      clear HC HCB HFO HFB hx0 hx1 hx2 hx3
      go_wp2_with fail
      refine bodyPost_ret (results_desk rfl _ _ (w.heap.size + 1) ((HR2.out.set0 (.slice (some ⟨g7, 0, none⟩) l.length c7)).set1 (.slice p2 DL.length e2)) rfl rfl (by kernel_rfl)) rfl ?_
      exact ⟨_, _, rfl, rs, ((HD.out.put (p := ⟨w.heap.size + 1, 0, none⟩) (show w.heap.size + 1 < w2.heap.size by have := HZ2.out; omega)).put (p := ⟨w.heap.size + 1, 1, none⟩) (show w.heap.size + 1 < w2.heap.size by have := HZ2.out; omega)).base (by have := HZ2.out; omega), HR.out,
        (((below_onto HQ.out HB6.out).setCell (p := ⟨w.heap.size + 1, 0, none⟩) (show w.heap.size ≤ w.heap.size + 1 by omega) _).setCell (p := ⟨w.heap.size + 1, 1, none⟩) (show w.heap.size ≤ w.heap.size + 1 by omega) _)⟩
theorem step_frn {ops : Array Oper} {o : Oper} {a : Act} {K : Act → World → Prop} {Q : Exit → Act → World → Prop} {E : Prop} (hgd : o.guard = none) (s x : Operand)
    (ho : o.op = .call { callee := .builtin .append, args := #[s, x], argTypes := #[29, 29] })
    (B n : Nat) (v : Value) (rs : List Fr) (y : Fr) (w : World) (hs : a.eval s = v) (hx : a.eval x = .slice (some ⟨w.heap.size, 0, none⟩) 1 1) (h : FamsO w B v rs) (hn : rs.length = n) (hl : n ≤ 1000) (hy : OwnX w B 3 y.v y.xs)
    (h1 : ∀ r ∈ rs, r.g ≠ y.g) (h2 : v.ownBlock ≠ some y.g) (hB : B ≤ w.heap.size)
    (hk : ∀ g c w', FamsO w' B (.slice (some ⟨g, 0, none⟩) (n + 1) c) (rs ++ [y]) → Below B w w' → K (a.put o.dst (.slice (some ⟨g, 0, none⟩) (n + 1) c)) w') :
    if Region.wanted o (yielded ops a.tmps) = true then Oper.wp Tryz.prog o a (w.alloc (.cells #[y.v] 28)) K Q else E := by
  subst hn
  exact step_fr hgd s x ho B v rs y w hs hx h hl hy h1 h2 hB (fun g c w' q1 q2 _ => hk g c w' q1 q2)
structure Rdy (w : World) (B : Nat) (v : Value) (rs : List Fr) (y : Fr) : Prop where
  own : FamsO w B v rs
  row : OwnX w B 3 y.v y.xs
  ne1 : ∀ r ∈ rs, r.g ≠ y.g
  ne2 : v.ownBlock ≠ some y.g
  size : B ≤ w.heap.size
theorem rdyA {w7 w8 : World} {B S7 g c : Nat} {v2 : Value} {rs : List Fr} {xs : List Int} (h1 : FamsO w7 B v2 rs) (hs : S7 = w7.heap.size) (hB : B ≤ S7) (h2 : OwnX w8 S7 3 (.slice (some ⟨g, 0, none⟩) xs.length c) xs) (hb : Below w7.heap.size w7 w8) : Rdy w8 B v2 rs ⟨g, c, xs⟩ := by
  have hg := (h2.lt (g := g) rfl).1
  have hz := hb.size
  exact ⟨h1.kept hb, h2.base hB, fun r hr e => by have := (h1.fams.lt r hr).2; have e : r.g = g := e; omega, fun e => by have := (h1.fams.seq.lt g e).2; omega, by omega⟩
theorem FamsO.cap {w : World} {B g m c : Nat} {rs : List Fr} (h : FamsO w B (.slice (some ⟨g, 0, none⟩) m c) rs) (h1 : 1 ≤ m) : m = rs.length ∧ m ≤ c ∧ c ≤ 9223372036854775807 := by
  rcases h.own.2 with ⟨h2, h3⟩ | ⟨g', cap, cur, hv, _, _, hc, hm, _⟩
  · cases h2
  · injection hv with e1 e2 e3
    unfold maxLen at hm
    omega
theorem FamsO.tail {w : World} {B g m c : Nat} {r : Fr} {rs : List Fr} (h : FamsO w B (.slice (some ⟨g, 0, none⟩) (m + 1) c) (r :: rs)) : Fams w B (.slice (some ⟨g, 1, none⟩) m (c - 1)) rs := by
  obtain ⟨h1, h2, h3⟩ := h.cap (by omega)
  have hm : m = rs.length := by simpa using h1
  have hf := h.fams
  refine ⟨?_, fun x hx => h.row x (List.mem_cons_of_mem r hx), ?_, fun x hx => h.apart x (List.mem_cons_of_mem r hx)⟩
  · rcases hf.seq with ⟨e, _⟩ | ⟨g', o, c', e, hc, hmx, hB, hl, hcell⟩
    · cases e
    · injection e with e1 e2 e3
      injection e1 with e1
      injection e1 with e4 e5
      subst e4; subst e5; subst e3
      refine .inr ⟨g, 1, c - 1, by rw [List.length_map, hm], by rw [List.length_map]; omega, by omega, hB, hl, fun i u hu => ?_⟩
      have := hcell (i + 1) u (by simpa using hu)
      rw [show 1 + i = 0 + (i + 1) by omega]; exact this
  · have := h.dis
    rw [List.map_cons, List.nodup_cons] at this
    exact this.2
theorem run_from1 (g m c : Nat) (hc : m + 1 ≤ c) (h1 : 1 ≤ m) (W : World) : (Instr.slice 29 (.slice (some ⟨g, 0, none⟩) (m + 1) c) (some (.int .i64 1)) none none).run Tryz.prog W = .ok (.slice (some ⟨g, 1, none⟩) m (c - 1)) W := by
  have hz : ∀ w, (Go.sizeOf 28).run Tryz.prog w = .ok 1 w := fun w => by kernel_rfl
  have hc' : ¬ c = 1 := by omega
  have hlt : ¬ ((m : Int) + 1 < 1) := by omega
  simp [hlt, Instr.slice, Instr.sliceBounds, Instr.sliceBound, run_underlying Tryz.underlying29, asIntOf, hz, hc', Addr.add_lit]
theorem run_from0 (g m c : Nat) (hc : m ≤ c) (h1 : 1 ≤ m) (W : World) : (Instr.slice 29 (.slice (some ⟨g, 0, none⟩) m c) (some (.int .i64 0)) none none).run Tryz.prog W = .ok (.slice (some ⟨g, 0, none⟩) m c) W := by
  have hz : ∀ w, (Go.sizeOf 28).run Tryz.prog w = .ok 1 w := fun w => by kernel_rfl
  have hc' : ¬ c = 0 := by omega
  simp [Instr.slice, Instr.sliceBounds, Instr.sliceBound, run_underlying Tryz.underlying29, asIntOf, hz, hc', Addr.add_lit]
theorem FB_tail {g c m : Nat} {r : Fr} {rs : List Fr} {q : Nat} (h : FB (.slice (some ⟨g, 1, none⟩) m (c - 1)) rs q) : FB (.slice (some ⟨g, 0, none⟩) (m + 1) c) (r :: rs) q := by
  rcases h with h | ⟨x, hx, e⟩
  · exact .inl h
  · exact .inr ⟨x, List.mem_cons_of_mem r hx, e⟩
theorem changed_no {w w3 w5 : World} {R : Nat} {v1 v2 : Value} {xs : List Int} {L : List (List Int)} (hR : R = w.heap.size + 2) (hb : Below w.heap.size w w3) (hz : w.heap.size + 3 ≤ w3.heap.size) (hg : GivesD xs L w3 w5 v1 v2) :
    GivesD xs L w ((w5.setCell ⟨R, 0, none⟩ v1).setCell ⟨R, 1, none⟩ v2) v1 v2 := by
  obtain ⟨rs, hdg, hrs, hb2⟩ := hg
  exact ⟨rs, ((hdg.put (p := ⟨R, 0, none⟩) (show R < w3.heap.size by omega)).put (p := ⟨R, 1, none⟩) (show R < w3.heap.size by omega)).base (by omega), hrs,
    ((below_onto hb hb2).setCell (p := ⟨R, 0, none⟩) (show w.heap.size ≤ R by omega) _).setCell (p := ⟨R, 1, none⟩) (show w.heap.size ≤ R by omega) _⟩
theorem changed_yes {w w5 w9 : World} {R : Nat} {v1 v2 : Value} {ys : List Int} {rs : List Fr} {L : List (List Int)} (hR : R = w.heap.size + 2) (hb : Below w.heap.size w w9) (hz : w.heap.size + 3 ≤ w5.heap.size) (ho : OwnX w5 (w.heap.size + 3) 3 v1 ys)
    (hb9 : Below w5.heap.size w5 w9) (hf : Fams w9 w5.heap.size v2 rs) (hrs : rs.map Fr.xs = L) :
    GivesD ys L w ((w9.setCell ⟨R, 0, none⟩ v1).setCell ⟨R, 1, none⟩ v2) v1 v2 := by
  have hdg : DeskG w9 (w.heap.size + 3) v1 v2 ys rs := ⟨ho.kept hb9, hf.base hz, fun g hg hq => by have q1 := (ho.lt hg).2; have q2 := (hf.ltB g hq).1; omega⟩
  exact ⟨rs, ((hdg.put (p := ⟨R, 0, none⟩) (show R < w.heap.size + 3 by omega)).put (p := ⟨R, 1, none⟩) (show R < w.heap.size + 3 by omega)).base (by omega), hrs,
    (hb.setCell (p := ⟨R, 0, none⟩) (show w.heap.size ≤ R by omega) _).setCell (p := ⟨R, 1, none⟩) (show w.heap.size ≤ R by omega) _⟩
theorem done_ok (n : Nat) (f : Nat → Int) (F : Nat → Bool) (h64 : ∀ i, i < n → I64 (f i)) : (doneL n f F).length ≤ 8 ∧ I64s (doneL n f F) := by
  unfold doneL
  cases hr : roomB n f F with
  | false => exact ⟨by simp, fun y hy => by simp at hy⟩
  | true =>
    unfold roomB at hr
    rw [Bool.and_eq_true, decide_eq_true_eq] at hr
    refine ⟨by rw [if_pos rfl]; omega, fun y hy => ?_⟩
    rw [if_pos rfl] at hy
    unfold withL at hy
    rcases List.mem_append.1 hy with hy | hy
    · obtain ⟨i, hi, rfl⟩ := List.mem_map.1 hy
      exact h64 i (List.mem_range.1 hi)
    · obtain ⟨t, ht, _, rfl⟩ := fam_mem.1 hy
      unfold I64; omega
theorem md_ok {xs : List Int} {k x : Int} (hf : famL xs = true) (hx : I64 x) : (mdL xs k x).length ≤ 8 ∧ I64s (mdL xs k x) := by
  have hl := famL_len hf
  have h64 := famL_I64 hf
  have hi : ∀ i, i < xs.length → I64 (xs.getD i 0) := fun i hi => h64 _ (getD_mem hi)
  unfold mdL
  split
  · exact ⟨by rw [List.length_append, List.length_singleton]; omega, fun y hy => by
      rcases List.mem_append.1 hy with hy | hy
      · exact h64 y hy
      · rw [List.mem_singleton] at hy; rw [hy]; exact hx⟩
  split
  · exact ⟨Nat.le_trans (List.length_filter_le _ _) (by omega), fun y hy => h64 y (List.mem_filter.1 hy).1⟩
  split
  · exact done_ok _ _ _ hi
  split
  · exact done_ok _ _ _ hi
  · exact ⟨by simp, fun y hy => by simp at hy⟩
theorem ints_own {w : World} {B c : Nat} {g : Option Addr} {ys : List Int} (h : OwnX w B 3 (.slice g ys.length c) ys) (hl : ys.length ≤ 9223372036854775807) (h64 : I64s ys) : Ints w g ys.length (fun j => ys.getD j 0) := by
  obtain ⟨a, c', e, _, hi⟩ := h.intsR hl h64
  injection e with e1 e2 e3
  rw [e1]; exact hi
theorem GivesD.one {xs : List Int} {L : List (List Int)} {w w' : World} {v1 v2 : Value} (h : GivesD xs L w w' v1 v2) : ∃ a c, v1 = .slice a xs.length c := by
  obtain ⟨rs, hg, _, _⟩ := h
  exact hg.now.slice
theorem GivesD.two {xs : List Int} {L : List (List Int)} {w w' : World} {v1 v2 : Value} (h : GivesD xs L w w' v1 v2) : ∃ a c, v2 = .slice a L.length c := by
  obtain ⟨rs, hg, rfl, _⟩ := h
  have := hg.past.seq.slice
  rw [List.length_map] at this ⊢
  exact this
theorem GivesD.below {xs : List Int} {L : List (List Int)} {w w' : World} {v1 v2 : Value} (h : GivesD xs L w w' v1 v2) : Below w.heap.size w w' := by
  obtain ⟨rs, _, _, hb⟩ := h
  exact hb
theorem len_of {rs : List Fr} {L : List (List Int)} {n : Nat} (h : rs.map Fr.xs = L) (hn : L.length = n) : rs.length = n := by rw [← hn, ← h, List.length_map]
set_option maxRecDepth 100000 in
theorem changed_any (d : Value) (xs : List Int) (L : List (List Int)) (k x : Int) (hd : deskB xs L = true) (hk : 0 ≤ k ∧ k ≤ 3) (hok : dOk k x = true) (hx : I64 x) (w : World) (h : DeskR w d xs L) :
    Calls Tryz.prog 116 #[d, .agg #[.int .i64 k, .int .i64 x]] w (DoneD (chB xs k x) (if chB xs k x then mdL xs k x else xs) (if chB xs k x then (L ++ [xs]).drop (L.length - 7) else L) w) := by
  have hdd := h
  obtain ⟨a, c, b, c2, rfl, hi, hn⟩ := h.parts
  obtain ⟨hf, h8, hL⟩ := deskB_iff.1 hd
  obtain ⟨n, hnn⟩ : ∃ n, L.length = n := ⟨_, rfl⟩
  have q1 := alloc_below w (.cells #[.slice a xs.length c, .slice b L.length c2] 31)
  have q2 := alloc_below (w.alloc (.cells #[.slice a xs.length c, .slice b L.length c2] 31)) (.cells #[.int .i64 k, .int .i64 x] 39)
  have q3 := alloc_below ((w.alloc (.cells #[.slice a xs.length c, .slice b L.length c2] 31)).alloc (.cells #[.int .i64 k, .int .i64 x] 39)) (.cells #[.slice none 0 0, .slice none 0 0] 31)
  have b1' := (Blk2.new w 31 (.slice a xs.length c) (.slice b L.length c2)).kept q2 (by rw [alloc_size]; omega)
  have b1 := b1'.kept q3 b1'.lt
  have b2' := (Blk2.new (w.alloc (.cells #[.slice a xs.length c, .slice b L.length c2] 31)) 39 (.int .i64 k) (.int .i64 x))
  have b2 := b2'.kept q3 b2'.lt
  have b3 := Blk2.new ((w.alloc (.cells #[.slice a xs.length c, .slice b L.length c2] 31)).alloc (.cells #[.int .i64 k, .int .i64 x] 39)) 31 (.slice none 0 0) (.slice none 0 0)
  have hz : (((w.alloc (.cells #[.slice a xs.length c, .slice b L.length c2] 31)).alloc (.cells #[.int .i64 k, .int .i64 x] 39)).alloc (.cells #[.slice none 0 0, .slice none 0 0] 31)).heap.size = w.heap.size + 3 := by rw [alloc_size, alloc_size, alloc_size]
  rw [alloc_size] at b2
  rw [alloc_size, alloc_size] at b3
  have hq := below_onto q1 (below_onto q2 q3)
  rw [hnn] at b1 b2 b3 hz hq h8 ⊢
  have hdr := hdd.kept (w' := ((w.alloc (.cells #[.slice a xs.length c, .slice b n c2] 31)).alloc (.cells #[.int .i64 k, .int .i64 x] 39)).alloc (.cells #[.slice none 0 0, .slice none 0 0] 31)) hq
  rw [hnn] at hdr
  have hi3 := hi.below hq (Nat.le_refl _)
  have hn3 := hn.kept hq
  obtain ⟨w3, hw3⟩ : ∃ w3, ((w.alloc (.cells #[.slice a xs.length c, .slice b n c2] 31)).alloc (.cells #[.int .i64 k, .int .i64 x] 39)).alloc (.cells #[.slice none 0 0, .slice none 0 0] 31) = w3 := ⟨_, rfl⟩
  rw [hw3] at b1 b2 b3 hz hq hdr hi3 hn3
  have HB1 := Lib.hid b1; have HB2 := Lib.hid b2; have HB3 := Lib.hid b3; have HZ := Lib.hid hz; have HQ := Lib.hid hq; have HDR := Lib.hid hdr
  have HI := Lib.hid hi3; have HN := Lib.hid hn3; have HF := Lib.hid hf; have HL := Lib.hid hL; have HD := Lib.hid hd; have HX := Lib.hid hx; have HKK := Lib.hid hk; have HNN := Lib.hid hnn
  have HKS := Lib.hid (show ∀ W, Below w3.heap.size w3 W → (W.cell? ⟨w.heap.size, 0, none⟩ = some (.slice a xs.length c) ∧ W.cell? ⟨w.heap.size, 1, none⟩ = some (.slice b n c2)) from fun W hW => (b1.kept hW b1.lt).cell)
  have HKR := Lib.hid (show ∀ W, Below w3.heap.size w3 W → Blk2 W (w.heap.size + 1 + 1) 31 (.slice none 0 0) (.slice none 0 0) from fun W hW => b3.kept hW b3.lt)
  have hd0 := b1.cell.1; have hd1 := b1.cell.2; have he0 := b2.cell.1; have he1 := b2.cell.2
  obtain ⟨ys, hys⟩ : ∃ ys, mdL xs k x = ys := ⟨_, rfl⟩
  have HYS := Lib.hid hys
  have hmd := md_ok (k := k) hf hx
  rw [hys] at hmd
  have HMD := Lib.hid hmd
  have HSAME := Lib.hid (fun (q1 : famL ys = true) (q2 : ys.length = xs.length) => show ys = xs by rw [← hys]; exact md_same hk (by rw [hys]; exact q1) (by rw [hys]; exact q2))
  have HCH := Lib.hid (show chB xs k x = (famL ys && decide (ys.length ≠ xs.length)) by unfold chB; rw [hok, hys, Bool.true_and])
  rw [hys]
  clear hmd hdd hi hn q1 q2 q3 b1' b2' hd hf hL b1 b2 b3 hz hq hdr hi3 hn3 hx hnn hys hok hk
  cases hfy : famL ys with
  | false =>
    have HFY := Lib.hid hfy
    have hcb : chB xs k x = false := by rw [HCH.out, hfy, Bool.false_and]
    have e1 : ∀ A : List Int, (if chB xs k x = true then A else xs) = xs := fun A => by rw [hcb]; rfl
    have e2 : ∀ A : List (List Int), (if chB xs k x = true then A else L) = L := fun A => by rw [hcb]; rfl
    rw [e1, e2, hcb]
    clear hfy hcb e1 e2
    go_enter Tryz.func116, Tryz.ntmps116
    go_wp2_with fail
    refine (familyAfter_any _ xs L k x HF.out HKK.out HX.out _ HDR.out).mono ?_
    rintro e w4 ⟨v, rfl, hown, hb4⟩
    rw [HYS.out] at hown
    obtain ⟨g, cg, rfl⟩ := hown.slice
    have HB4 := Lib.hid hb4
    have HI4 := Lib.hid (HI.out.below hb4 (Nat.le_refl _))
    obtain ⟨hf0, hf1⟩ := HKS.out _ hb4
    have HY4 := Lib.hid (ints_own hown (by have := HMD.out.1; omega) HMD.out.2)
    rw [HZ.out] at hown
    have HO4 := Lib.hid hown
    clear hown hb4 hd0 hd1 he0 he1
    go_wp2_with fail
    refine (FamilyOk_val g ys.length cg (fun j => ys.getD j 0) false _ HFY.out HY4.out).mono ?_
    rintro e w5 ⟨rfl, hb5⟩
    have HB5 := Lib.hid (below_onto HB4.out hb5)
    have HO5 := Lib.hid (HO4.out.kept hb5)
    have HY5 := Lib.hid (HY4.out.below hb5 (Nat.le_refl _))
    obtain ⟨hf2, hf3⟩ := HKS.out _ HB5.out
    clear hb5 hf0 hf1
    go_wp2_with fail
    have HBX := HB5
    refine (copied_any _ xs L HD.out _ (HDR.out.kept HBX.out)).mono ?_
    rintro e w6 ⟨v1, v2, rfl, hg6⟩
    obtain ⟨p1, e1, rfl⟩ := hg6.one
    obtain ⟨p2, e2, rfl⟩ := hg6.two
    have HB6 := Lib.hid (below_onto HBX.out hg6.below)
    have hR := HKR.out _ HB6.out
    have HG := Lib.hid (changed_no (R := w.heap.size + 1 + 1) rfl (below_onto HQ.out HBX.out) (by have := HZ.out; have := HBX.out.size; omega) hg6)
    rw [HNN.out] at HG
    rw [HNN.out]
    have hx0 := hR.cell.1; have hx1 := hR.cell.2; have hx2 := hR.frozen 0; have hx3 := hR.frozen 1
    have HR := Lib.hid hR
    clear hg6 hR
    go_wp2_with fail
    refine bodyPost_ret (results_desk rfl _ _ (w.heap.size + 1 + 1) ((HR.out.set0 (.slice p1 xs.length e1)).set1 (.slice p2 n e2)) rfl rfl (by kernel_rfl)) rfl ?_
    exact ⟨_, _, rfl, HG.out⟩
  | true =>
    by_cases hlen : ys.length = xs.length
    · have HFY := Lib.hid hfy
      have hcb : chB xs k x = false := by rw [HCH.out, hfy, decide_eq_false (fun h => h hlen), Bool.and_false]
      have e1 : ∀ A : List Int, (if chB xs k x = true then A else xs) = xs := fun A => by rw [hcb]; rfl
      have e2 : ∀ A : List (List Int), (if chB xs k x = true then A else L) = L := fun A => by rw [hcb]; rfl
      rw [e1, e2, hcb]
      have he := HSAME.out hfy hlen
      clear hfy hcb e1 e2 hlen
      subst he
      have HL1 := Lib.hid (show 1 ≤ ys.length ∧ ys.length ≤ 1000 from by have := famL_len HF.out; omega)
      go_enter Tryz.func116, Tryz.ntmps116
      go_wp2_with fail
      refine (familyAfter_any _ ys L k x HF.out HKK.out HX.out _ HDR.out).mono ?_
      rintro e w4 ⟨v, rfl, hown, hb4⟩
      rw [HYS.out] at hown
      obtain ⟨g, cg, rfl⟩ := hown.slice
      have HB4 := Lib.hid hb4
      have HI4 := Lib.hid (HI.out.below hb4 (Nat.le_refl _))
      obtain ⟨hf0, hf1⟩ := HKS.out _ hb4
      have HY4 := Lib.hid (ints_own hown (by have := HMD.out.1; omega) HMD.out.2)
      rw [HZ.out] at hown
      have HO4 := Lib.hid hown
      clear hown hb4 hd0 hd1 he0 he1
      go_wp2_with fail
      refine (FamilyOk_val g ys.length cg (fun j => ys.getD j 0) true _ HFY.out HY4.out).mono ?_
      rintro e w5 ⟨rfl, hb5⟩
      have HB5 := Lib.hid (below_onto HB4.out hb5)
      have HO5 := Lib.hid (HO4.out.kept hb5)
      have HY5 := Lib.hid (HY4.out.below hb5 (Nat.le_refl _))
      obtain ⟨hf2, hf3⟩ := HKS.out _ HB5.out
      clear hb5 hf0 hf1
      go_wp2_with fail
      refine (equal_same g a ys cg c HL1.out.1 HL1.out.2 _ HY5.out (HI.out.below HB5.out (Nat.le_refl _))).mono ?_
      rintro e w6 ⟨rfl, hd6⟩
      have HBX := Lib.hid (below_onto HB5.out hd6.below)
      obtain ⟨hf4, hf5⟩ := HKS.out _ HBX.out
      clear hd6 hf2 hf3
      go_wp2_with fail
      refine (copied_any _ ys L HD.out _ (HDR.out.kept HBX.out)).mono ?_
      rintro e w6 ⟨v1, v2, rfl, hg6⟩
      obtain ⟨p1, e1, rfl⟩ := hg6.one
      obtain ⟨p2, e2, rfl⟩ := hg6.two
      have HB6 := Lib.hid (below_onto HBX.out hg6.below)
      have hR := HKR.out _ HB6.out
      have HG := Lib.hid (changed_no (R := w.heap.size + 1 + 1) rfl (below_onto HQ.out HBX.out) (by have := HZ.out; have := HBX.out.size; omega) hg6)
      rw [HNN.out] at HG
      rw [HNN.out]
      have hx0 := hR.cell.1; have hx1 := hR.cell.2; have hx2 := hR.frozen 0; have hx3 := hR.frozen 1
      have HR := Lib.hid hR
      clear hg6 hR
      go_wp2_with fail
      refine bodyPost_ret (results_desk rfl _ _ (w.heap.size + 1 + 1) ((HR.out.set0 (.slice p1 ys.length e1)).set1 (.slice p2 n e2)) rfl rfl (by kernel_rfl)) rfl ?_
      exact ⟨_, _, rfl, HG.out⟩
    · have HFY := Lib.hid hfy
      have hcb : chB xs k x = true := by rw [HCH.out, hfy, decide_eq_true hlen]; rfl
      have e1 : ∀ A : List Int, (if chB xs k x = true then A else xs) = A := fun A => by rw [hcb]; rfl
      have e2 : ∀ A : List (List Int), (if chB xs k x = true then A else L) = A := fun A => by rw [hcb]; rfl
      rw [e1, e2, hcb]
      have HLEN := Lib.hid hlen
      clear hfy hcb e1 e2 hlen
      go_enter Tryz.func116, Tryz.ntmps116
      go_wp2_with fail
      refine (familyAfter_any _ xs L k x HF.out HKK.out HX.out _ HDR.out).mono ?_
      rintro e w4 ⟨v, rfl, hown, hb4⟩
      rw [HYS.out] at hown
      obtain ⟨g, cg, rfl⟩ := hown.slice
      have HB4 := Lib.hid hb4
      have HI4 := Lib.hid (HI.out.below hb4 (Nat.le_refl _))
      obtain ⟨hf0, hf1⟩ := HKS.out _ hb4
      have HY4 := Lib.hid (ints_own hown (by have := HMD.out.1; omega) HMD.out.2)
      rw [HZ.out] at hown
      have HO4 := Lib.hid hown
      clear hown hb4 hd0 hd1 he0 he1
      go_wp2_with fail
      refine (FamilyOk_val g ys.length cg (fun j => ys.getD j 0) true _ HFY.out HY4.out).mono ?_
      rintro e w5 ⟨rfl, hb5⟩
      have HB5 := Lib.hid (below_onto HB4.out hb5)
      have HO5 := Lib.hid (HO4.out.kept hb5)
      have HY5 := Lib.hid (HY4.out.below hb5 (Nat.le_refl _))
      obtain ⟨hf2, hf3⟩ := HKS.out _ HB5.out
      clear hb5 hf0 hf1
      go_wp2_with fail
      refine (equal_len g a ys.length xs.length cg c HLEN.out _).mono ?_
      rintro e w6 ⟨rfl, hd6⟩
      have HBX := Lib.hid (below_onto HB5.out hd6.below)
      have HO6 := Lib.hid (HO5.out.kept hd6.below)
      obtain ⟨hf4, hf5⟩ := HKS.out _ HBX.out
      have HS6 := Lib.hid (show w.heap.size + 3 ≤ w6.heap.size by have := HZ.out; have := HBX.out.size; omega)
      have HI6 := Lib.hid (HI.out.below HBX.out (Nat.le_refl _))
      have HN6 := Lib.hid (HN.out.kept HBX.out)
      have HKT := Lib.hid (show ∀ W, Below w6.heap.size w6 W → (W.cell? ⟨w.heap.size, 0, none⟩ = some (.slice a xs.length c) ∧ W.cell? ⟨w.heap.size, 1, none⟩ = some (.slice b n c2)) from fun W hW => HKS.out W (below_onto HBX.out hW))
      have HKU := Lib.hid (fun W hW => HKR.out W (below_onto HBX.out hW) : ∀ W, Below w6.heap.size w6 W → Blk2 W (w.heap.size + 1 + 1) 31 (.slice none 0 0) (.slice none 0 0))
      have HB7 := Lib.hid (Below.refl w6.heap.size w6)
      have HCP := Lib.hid (show ∀ W, Below w6.heap.size w6 W → Calls Tryz.prog 111 #[.slice b n c2] W (GivesF L W) from fun W hW => by
        have := copies_any b L c2 (by rw [HNN.out]; omega) HL.out W (HN6.out.kept hW)
        rw [HNN.out] at this; exact this)
      clear hd6 hf2 hf3
      go_wp2_with fail
      clear hf4 hf5
      go_region_held3 (fun W => W.cell? ⟨w.heap.size, 0, none⟩ = some (.slice a xs.length c) ∧ W.cell? ⟨w.heap.size, 1, none⟩ = some (.slice b n c2)) (first | exact HKT.out _ HB7.out | exact HKT.out _ HB7.out.drew | exact HKT.out _ (below_drewN HB7.out _) | exact HKT.out _ (HB7.out.alloc HB7.out.size _) | go_keep)
        (first | (go_at_call 110; refine (cloneFr_any a c xs HF.out _ (HI6.out.below ?_ (Nat.le_refl _))).mono ?_; (first | exact HB7.out | exact HB7.out.drew | exact below_drewN HB7.out _); rintro e w7 ⟨g7, c7, rfl, hg1, hg2, hown, hb7⟩; (try have HRD := Lib.hid (rdyA HFO.out rfl HFB.out.size hown hb7)); have HC := Lib.hid hown; have HCB := Lib.hid hb7; have HZZ := Lib.hid (show Below w6.heap.size w6 w7 from (by first | exact below_onto HB7.out hb7 | exact below_onto HB7.out.drew hb7 | exact below_onto (below_drewN HB7.out _) hb7)); clear HB7; have HB7 := HZZ; clear HZZ hg1 hg2 hown hb7) | (go_at_call 111; refine (HCP.out _ ?_).mono ?_; (first | exact HB7.out | exact HB7.out.drew | exact below_drewN HB7.out _); rintro e w8 ⟨p2, e2, rs, rfl, hfo, hrs, hb8⟩; rw [HNN.out] at hfo ⊢; have HRN := Lib.hid (len_of hrs HNN.out); (try have HRD := Lib.hid (rdyB HC.out rfl HCB.out.size hfo hb8)); have HR := Lib.hid hrs; have HFO := Lib.hid hfo; have HFB := Lib.hid hb8; have HZZ := Lib.hid (show Below w6.heap.size w6 w8 from (by first | exact below_onto HB7.out hb8 | exact below_onto HB7.out.drew hb8 | exact below_onto (below_drewN HB7.out _) hb8)); clear HB7; have HB7 := HZZ; clear HZZ hfo hrs hb8) | ((refine step_frn (by rfl) (.tmp 24) (.tmp 28) (by rfl) w6.heap.size n (.slice p2 n e2) rs ⟨g7, c7, xs⟩ _ (by rfl) (by rfl) HRD.out.own HRN.out (by omega) HRD.out.row HRD.out.ne1 HRD.out.ne2 HRD.out.size ?_; intro g9 c9 w9 ho9 hb9; have HO9 := Lib.hid ho9; have HZZ := Lib.hid (HB7.out.trans hb9); clear HB7; have HB7 := HZZ; clear HZZ ho9 hb9)))
      all_goals
        obtain ⟨hcp1, hcp2, hcp3⟩ := HO9.out.cap (by omega)
        have hR := HKU.out _ HB7.out
        have hx0 := hR.cell.1; have hx1 := hR.cell.2; have hx2 := hR.frozen 0; have hx3 := hR.frozen 1
        have HR9 := Lib.hid hR
        have HB9 := Lib.hid (below_onto HQ.out (below_onto HBX.out HB7.out))
        clear hR hcp1 HRD HC HCB HFO HFB
        by_cases hn8 : n = 8
        · have hsl := fun W => run_from1 g9 n c9 hcp2 (by omega) W
          have heq : (n : Int) + 1 - 8 = 1 := by omega
          have hmx : max (0 : Int) 1 = 1 := by decide
          have HG : Hid (GivesD ys ((L ++ [xs]).drop (n - 7)) w ((w9.setCell ⟨w.heap.size + 1 + 1, 0, none⟩ (.slice g ys.length cg)).setCell ⟨w.heap.size + 1 + 1, 1, none⟩ (.slice (some ⟨g9, 1, none⟩) n (c9 - 1))) (.slice g ys.length cg) (.slice (some ⟨g9, 1, none⟩) n (c9 - 1))) := Lib.hid (by
            have h9 := HO9.out
            have hr := HR.out
            have hl := HRN.out
            cases rs with
            | nil => exact absurd hl (by rw [hn8]; simp)
            | cons r rs' =>
              have ht := h9.tail
              have hd : (L ++ [xs]).drop (n - 7) = (rs' ++ [Fr.mk g7 c7 xs]).map Fr.xs := by
                rw [← hr, hn8]; simp
              rw [hd]
              exact changed_yes rfl HB9.out HS6.out HO6.out HB7.out ht rfl)
          clear hn8
          go_wp2_with fail
          refine bodyPost_ret (results_desk rfl _ _ (w.heap.size + 1 + 1) ((HR9.out.set0 (.slice g ys.length cg)).set1 (.slice (some ⟨g9, 1, none⟩) n (c9 - 1))) rfl rfl (by kernel_rfl)) rfl ?_
          exact ⟨_, _, rfl, HG.out⟩
        · have hsl := fun W => run_from0 g9 (n + 1) c9 hcp2 (by omega) W
          have hmx : max (0 : Int) ((n : Int) + 1 - 8) = 0 := by omega
          have HG : Hid (GivesD ys ((L ++ [xs]).drop (n - 7)) w ((w9.setCell ⟨w.heap.size + 1 + 1, 0, none⟩ (.slice g ys.length cg)).setCell ⟨w.heap.size + 1 + 1, 1, none⟩ (.slice (some ⟨g9, 0, none⟩) (n + 1) c9)) (.slice g ys.length cg) (.slice (some ⟨g9, 0, none⟩) (n + 1) c9)) := Lib.hid (by
            have h9 := HO9.out
            have hr := HR.out
            have hd : (L ++ [xs]).drop (n - 7) = (rs ++ [Fr.mk g7 c7 xs]).map Fr.xs := by
              rw [← hr, show n - 7 = 0 by omega]; simp
            rw [hd]
            exact changed_yes rfl HB9.out HS6.out HO6.out HB7.out h9.fams rfl)
          by_cases hn7 : n = 7
          · have hgt : ¬ ((0 : Int) < (n : Int) + 1 - 8) := by omega
            have hgt2 : ¬ ((n : Int) + 1 - 8 < 0) := by omega
            have heq : (n : Int) + 1 - 8 = 0 := by omega
            clear hn7 hn8 hmx
            go_wp2_with fail
            refine bodyPost_ret (results_desk rfl _ _ (w.heap.size + 1 + 1) ((HR9.out.set0 (.slice g ys.length cg)).set1 (.slice (some ⟨g9, 0, none⟩) (n + 1) c9)) rfl rfl (by kernel_rfl)) rfl ?_
            exact ⟨_, _, rfl, HG.out⟩
          · clear hn7 hn8
            go_wp2_with fail
            refine bodyPost_ret (results_desk rfl _ _ (w.heap.size + 1 + 1) ((HR9.out.set0 (.slice g ys.length cg)).set1 (.slice (some ⟨g9, 0, none⟩) (n + 1) c9)) rfl rfl (by kernel_rfl)) rfl ?_
            exact ⟨_, _, rfl, HG.out⟩
end Go.Proofs.YthaickihoagnmaaGreatDoor
