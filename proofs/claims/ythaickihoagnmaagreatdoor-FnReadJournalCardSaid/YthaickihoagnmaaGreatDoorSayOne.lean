import Derived.Test.YthaickihoagnmaaGreatDoorTxOne
import Derived.Test.YthaickihoagnmaaGreatDoorClFam
import Derived.Test.YthaickihoagnmaaGreatDoorMzOne
namespace Go.Proofs.YthaickihoagnmaaGreatDoor
set_option linter.unusedVariables false
set_option linter.unusedSimpArgs false
open Go.RowKit Go.Maps

/-! ### a line, cut at its spaces -/
/-- the parts, told from the front -/
def spR (c : UInt8) : List UInt8 → List (List UInt8)
  | [] => [[]]
  | b :: l => if b == c then [] :: spR c l else match spR c l with
    | [] => [[b]]
    | p :: ps => (b :: p) :: ps
theorem spR_none {c : UInt8} {a : List UInt8} (h : c ∉ a) : spR c a = [a] := by
  induction a with
  | nil => rfl
  | cons b a ih =>
    have hb : (b == c) = false := by
      cases hb : b == c with
      | false => rfl
      | true => exact absurd (by rw [beq_iff_eq.1 hb]; exact List.mem_cons_self) h
    unfold spR
    rw [hb, ih (fun hx => h (List.mem_cons_of_mem _ hx))]
    rfl
theorem spR_app {c : UInt8} {a r : List UInt8} (h : c ∉ a) : spR c (a ++ c :: r) = a :: spR c r := by
  induction a with
  | nil =>
    show spR c (c :: r) = _
    rw [spR, if_pos (by simp)]
  | cons b a ih =>
    have hb : (b == c) = false := by
      cases hb : b == c with
      | false => rfl
      | true => exact absurd (by rw [beq_iff_eq.1 hb]; exact List.mem_cons_self) h
    rw [List.cons_append, spR, hb, ih (fun hx => h (List.mem_cons_of_mem _ hx))]
    rfl
theorem spK_inv (l : List UInt8) (c : UInt8) (k : Nat) (hk : k ≤ l.length) :
    (spK l c k).1 ++ spR c (l.drop (spK l c k).2) = spR c l ∧ c ∉ (l.drop (spK l c k).2).take (k - (spK l c k).2) := by
  induction k with
  | zero => exact ⟨rfl, by simp [spK]⟩
  | succ k ih =>
    obtain ⟨h1, h2⟩ := ih (by omega)
    have hle := (spK_le l c k).1
    obtain ⟨p, hp⟩ : ∃ p, (spK l c k).2 = p := ⟨_, rfl⟩
    have hgt : l.getD k 0 = l[k] := by rw [List.getD_eq_getElem?_getD, List.getElem?_eq_getElem (by omega)]; rfl
    have hsp : l.drop p = (l.drop p).take (k - p) ++ l[k] :: l.drop (k + 1) := by
      have e := List.take_append_drop (k - p) (l.drop p)
      rw [List.drop_drop, show p + (k - p) = k by omega, List.drop_eq_getElem_cons (by omega : k < l.length)] at e
      exact e.symm
    cases hb : l.getD k 0 == c with
    | true =>
      rw [spK_yes hb]
      have he : l[k] = c := by rw [← hgt]; exact beq_iff_eq.1 hb
      refine ⟨?_, by simp⟩
      rw [hp] at h1 h2 ⊢
      rw [← h1, hsp, he, spR_app h2, ← he, ← hsp]
      simp
    | false =>
      rw [spK_no hb]
      refine ⟨h1, ?_⟩
      rw [hp] at h2 hle ⊢
      rw [show k + 1 - p = (k - p) + 1 by omega, List.take_add_one]
      intro hm
      rcases List.mem_append.1 hm with hm | hm
      · exact h2 hm
      · rw [List.getElem?_drop, show p + (k - p) = k by omega, List.getElem?_eq_getElem (by omega)] at hm
        have hm : c = l[k] := by simpa using hm
        rw [hgt, ← hm] at hb
        simp at hb
theorem spL_R (l : List UInt8) (c : UInt8) : spL l c = spR c l := by
  obtain ⟨h1, h2⟩ := spK_inv l c l.length (Nat.le_refl _)
  unfold spL
  rw [← h1]
  congr 1
  rw [List.take_of_length_le (by rw [List.length_drop]; omega)] at h2
  exact (spR_none h2).symm
/-- a space in a text, or none -/
theorem cut_parts (l : List UInt8) : (cut1 l = l ∧ cut2 l = [] ∧ (32 : UInt8) ∉ l) ∨ (l = cut1 l ++ 32 :: cut2 l ∧ (32 : UInt8) ∉ cut1 l) := by
  have key : (Lib.indexByte l 32 < 0 ∧ (32 : UInt8) ∉ l) ∨ ∃ i : Nat, Lib.indexByte l 32 = i ∧ l = l.take i ++ 32 :: l.drop (i + 1) ∧ (32 : UInt8) ∉ l.take i := by
    induction l with
    | nil => exact .inl ⟨by decide +kernel, by simp⟩
    | cons b l ih =>
      unfold Lib.indexByte
      by_cases hb : b = 32
      · subst hb
        exact .inr ⟨0, by simp, by simp, by simp⟩
      · rcases ih with ⟨h1, h2⟩ | ⟨i, h1, h2, h3⟩
        · refine .inl ⟨?_, ?_⟩
          · rw [if_neg (by simpa using hb), if_pos (by have := Lib.indexByte_ge l 32; rw [show Lib.indexByte l 32 = -1 by omega]; rfl)]; omega
          · intro hm
            rcases List.mem_cons.1 hm with hm | hm
            · exact hb hm.symm
            · exact h2 hm
        · refine .inr ⟨i + 1, ?_, ?_, ?_⟩
          · rw [if_neg (by simpa using hb), if_neg (by rw [h1]; simp), h1]; rfl
          · rw [List.take_succ_cons, List.drop_succ_cons, List.cons_append, ← h2]
          · rw [List.take_succ_cons]
            intro hm
            rcases List.mem_cons.1 hm with hm | hm
            · exact hb hm.symm
            · exact h3 hm
  unfold cut1 cut2
  rcases key with ⟨h1, h2⟩ | ⟨i, h1, h2, h3⟩
  · exact .inl ⟨if_pos h1, if_pos h1, h2⟩
  · refine .inr ?_
    rw [if_neg (by omega), if_neg (by omega), h1, Int.toNat_natCast]
    exact ⟨h2, h3⟩
theorem txt_space : (List.range 16).all (fun x => !(txtL x).contains 32) = true := by decide +kernel
theorem rdI_space {l : List UInt8} (h : (32 : UInt8) ∈ l) : rdI l = -1 := by
  cases hb : rdB l with
  | false => exact rd_bad hb
  | true =>
    exfalso
    obtain ⟨h1, h2⟩ := rd_ok hb
    rw [setL_yes h1] at h2
    have hr := rdI_rng l
    have hx : (rdI l).toNat < 16 := by omega
    have := List.all_eq_true.1 txt_space _ (List.mem_range.2 hx)
    rw [h2] at this
    simp [h] at this
theorem rdI_nil : rdI [] = -1 := by decide +kernel
/-- three words, or two that are not read as sets -/
theorem three_words (l : List UInt8) : ((spL l 32).length = 3 → spL l 32 = [cut1 l, cut1 (cut2 l), cut2 (cut2 l)]) ∧ ((spL l 32).length ≠ 3 → rdI (cut1 (cut2 l)) = -1 ∨ rdI (cut2 (cut2 l)) = -1) := by
  rw [spL_R]
  rcases cut_parts l with ⟨h1, h2, h3⟩ | ⟨h1, h3⟩
  · rw [spR_none h3, h2]
    refine ⟨fun h => by simp at h, fun _ => .inl ?_⟩
    decide +kernel
  · obtain ⟨a, ha⟩ : ∃ a, cut1 l = a := ⟨_, rfl⟩
    obtain ⟨t, ht⟩ : ∃ t, cut2 l = t := ⟨_, rfl⟩
    rw [ha, ht] at h1
    rw [ha] at h3
    rw [ha, ht, h1, spR_app h3]
    rcases cut_parts t with ⟨k1, k2, k3⟩ | ⟨k1, k3⟩
    · rw [spR_none k3, k2]
      exact ⟨fun h => by simp at h, fun _ => .inr rdI_nil⟩
    · obtain ⟨b, hb⟩ : ∃ b, cut1 t = b := ⟨_, rfl⟩
      obtain ⟨u, hu⟩ : ∃ u, cut2 t = u := ⟨_, rfl⟩
      rw [hb, hu] at k1
      rw [hb] at k3
      rw [hb, hu, k1, spR_app k3]
      rcases cut_parts u with ⟨j1, j2, j3⟩ | ⟨j1, j3⟩
      · rw [spR_none j3]
        exact ⟨fun _ => rfl, fun h => absurd rfl h⟩
      · refine ⟨fun h => ?_, fun _ => .inr (rdI_space (by rw [j1]; simp))⟩
        rw [j1, spR_app j3] at h
        obtain ⟨q, qs, hq⟩ : ∃ q qs, spR 32 (cut2 u) = q :: qs := by
          cases hx : spR 32 (cut2 u) with
          | nil =>
            exfalso
            revert hx
            cases cut2 u with
            | nil => simp [spR]
            | cons b l => unfold spR; split <;> (try split) <;> simp
          | cons q qs => exact ⟨q, qs, rfl⟩
        rw [hq] at h
        simp at h

/-! ### texts with commas between them -/
def joinL : List (List UInt8) → List UInt8
  | [] => []
  | [a] => a
  | a :: b :: l => a ++ 44 :: joinL (b :: l)
theorem join_snoc (ls : List (List UInt8)) (a : List UInt8) (h : ls ≠ []) : joinL (ls ++ [a]) = joinL ls ++ 44 :: a := by
  induction ls with
  | nil => exact absurd rfl h
  | cons x ls ih =>
    cases ls with
    | nil => rfl
    | cons y ls =>
      have := ih (by simp)
      show x ++ 44 :: joinL ((y :: ls) ++ [a]) = (x ++ 44 :: joinL (y :: ls)) ++ 44 :: a
      rw [this]; simp
theorem join_ne {ls : List (List UInt8)} (h : ls ≠ []) (hn : ∀ l ∈ ls, l ≠ []) : joinL ls ≠ [] := by
  cases ls with
  | nil => exact absurd rfl h
  | cons x ls =>
    have hx := hn x List.mem_cons_self
    cases ls with
    | nil => exact hx
    | cons y ls => show x ++ _ ≠ []; simp
/-- the texts of the sets at places of a set, below k -/
def atS (xs : List Int) (s : Int) : Nat → List (List UInt8)
  | 0 => []
  | k + 1 => if hasB s k then atS xs s k ++ [setL (xs.getD k 0)] else atS xs s k
theorem atS_len (xs : List Int) (s : Int) (k : Nat) : (atS xs s k).length ≤ k := by
  induction k with
  | zero => exact Nat.le_refl _
  | succ k ih =>
    unfold atS
    split
    · rw [List.length_append, List.length_singleton]; omega
    · omega
end Go.Proofs.YthaickihoagnmaaGreatDoor

namespace Go.Proofs.YthaickihoagnmaaGreatDoor
set_option linter.unusedVariables false
set_option linter.unusedSimpArgs false
open Go.RowKit Go.Maps

/-! ### a desk behind a line, and what is answered (A: what is answered to a line that is no deed) -/
def okW : List UInt8 := [111, 107]
def notW : List UInt8 := [110, 111, 116]
def whatW : List UInt8 := [119, 104, 97, 116]
def liX (xs : List Int) (L : List (List Int)) (l : List UInt8) : List Int := if deskB xs L then (if rdDB l then dkX xs L (rdK l) (rdY l) else xs) else []
def liL (xs : List Int) (L : List (List Int)) (l : List UInt8) : List (List Int) := if deskB xs L then (if rdDB l then dkL xs L (rdK l) (rdY l) else L) else []
def liT (A : List Int → List UInt8 → List UInt8) (xs : List Int) (L : List (List Int)) (l : List UInt8) : List UInt8 :=
  if deskB xs L then (if rdDB l then (if dkB xs L (rdK l) (rdY l) then okW else notW) else A xs l) else []
theorem li_none {A : List Int → List UInt8 → List UInt8} {xs : List Int} {L : List (List Int)} {l : List UInt8} (h : deskB xs L = false) : liX xs L l = [] ∧ liL xs L l = [] ∧ liT A xs L l = [] := by
  unfold liX liL liT; rw [h]; exact ⟨rfl, rfl, rfl⟩
theorem li_deed {A : List Int → List UInt8 → List UInt8} {xs : List Int} {L : List (List Int)} {l : List UInt8} (h : deskB xs L = true) (hd : rdDB l = true) :
    liX xs L l = dkX xs L (rdK l) (rdY l) ∧ liL xs L l = dkL xs L (rdK l) (rdY l) ∧ liT A xs L l = if dkB xs L (rdK l) (rdY l) then okW else notW := by
  unfold liX liL liT; rw [h, hd]; exact ⟨rfl, rfl, rfl⟩
theorem li_ask {A : List Int → List UInt8 → List UInt8} {xs : List Int} {L : List (List Int)} {l : List UInt8} (h : deskB xs L = true) (hd : rdDB l = false) : liX xs L l = xs ∧ liL xs L l = L ∧ liT A xs L l = A xs l := by
  unfold liX liL liT; rw [h, hd]; exact ⟨rfl, rfl, rfl⟩
theorem li_desk {xs : List Int} {L : List (List Int)} {l : List UInt8} (h : deskB xs L = true) : deskB (liX xs L l) (liL xs L l) = true := by
  cases hd : rdDB l with
  | true =>
    obtain ⟨h1, h2, _⟩ := li_deed (A := fun _ _ => []) h hd
    rw [h1, h2]; exact dk_desk h
  | false =>
    obtain ⟨h1, h2, _⟩ := li_ask (A := fun _ _ => []) h hd
    rw [h1, h2]; exact h
/-- the desk stays as it is but for deeds that are done -/
theorem li_stays {A : List Int → List UInt8 → List UInt8} {xs : List Int} {L : List (List Int)} {l : List UInt8} (h : deskB xs L = true) (ha : liT A xs L l ≠ okW) : liX xs L l = xs ∧ liL xs L l = L := by
  cases hd : rdDB l with
  | false =>
    obtain ⟨h1, h2, _⟩ := li_ask (A := A) h hd
    exact ⟨h1, h2⟩
  | true =>
    obtain ⟨h1, h2, h3⟩ := li_deed (A := A) h hd
    rw [h3] at ha
    cases hb : dkB xs L (rdK l) (rdY l) with
    | true => rw [hb] at ha; exact absurd rfl ha
    | false =>
      obtain ⟨e1, e2⟩ := dk_no hb h
      rw [h1, h2]; exact ⟨e1, e2⟩

/-! ### lines, one after the other -/
def sayD (A : List Int → List UInt8 → List UInt8) : List Int → List (List Int) → List (List UInt8) → List Int × List (List Int) × List (List UInt8)
  | xs, L, [] => (xs, L, [])
  | xs, L, l :: ls => ((sayD A (liX xs L l) (liL xs L l) ls).1, (sayD A (liX xs L l) (liL xs L l) ls).2.1, liT A xs L l :: (sayD A (liX xs L l) (liL xs L l) ls).2.2)
section
variable (A : List Int → List UInt8 → List UInt8) (xs : List Int) (L : List (List Int))
theorem say_app (ls ms : List (List UInt8)) :
    sayD A xs L (ls ++ ms) = ((sayD A (sayD A xs L ls).1 (sayD A xs L ls).2.1 ms).1, (sayD A (sayD A xs L ls).1 (sayD A xs L ls).2.1 ms).2.1, (sayD A xs L ls).2.2 ++ (sayD A (sayD A xs L ls).1 (sayD A xs L ls).2.1 ms).2.2) := by
  induction ls generalizing xs L with
  | nil => simp [sayD]
  | cons l ls ih =>
    rw [List.cons_append, sayD, ih]
    rw [sayD]
    refine Prod.ext rfl (Prod.ext rfl ?_)
    simp
theorem say_snoc (ls : List (List UInt8)) (l : List UInt8) :
    sayD A xs L (ls ++ [l]) = (liX (sayD A xs L ls).1 (sayD A xs L ls).2.1 l, liL (sayD A xs L ls).1 (sayD A xs L ls).2.1 l, (sayD A xs L ls).2.2 ++ [liT A (sayD A xs L ls).1 (sayD A xs L ls).2.1 l]) := by
  rw [say_app]; rfl
theorem say_len (ls : List (List UInt8)) : (sayD A xs L ls).2.2.length = ls.length := by
  induction ls generalizing xs L with
  | nil => rfl
  | cons l ls ih => rw [sayD]; simp [ih]
theorem say_desk (h : deskB xs L = true) (ls : List (List UInt8)) : deskB (sayD A xs L ls).1 (sayD A xs L ls).2.1 = true := by
  induction ls generalizing xs L with
  | nil => exact h
  | cons l ls ih => rw [sayD]; exact ih _ _ (li_desk h)
end
def syB (xs : List Int) (L : List (List Int)) (ls : List (List UInt8)) : Bool := deskB xs L && decide (ls.length ≤ 40)
def syX (A : List Int → List UInt8 → List UInt8) (xs : List Int) (L : List (List Int)) (ls : List (List UInt8)) : List Int := if syB xs L ls then (sayD A xs L ls).1 else []
def syL (A : List Int → List UInt8 → List UInt8) (xs : List Int) (L : List (List Int)) (ls : List (List UInt8)) : List (List Int) := if syB xs L ls then (sayD A xs L ls).2.1 else []
def syT (A : List Int → List UInt8 → List UInt8) (xs : List Int) (L : List (List Int)) (ls : List (List UInt8)) : List (List UInt8) := if syB xs L ls then (sayD A xs L ls).2.2 else []
theorem sy_yes {A : List Int → List UInt8 → List UInt8} {xs : List Int} {L : List (List Int)} {ls : List (List UInt8)} (h : syB xs L ls = true) : syX A xs L ls = (sayD A xs L ls).1 ∧ syL A xs L ls = (sayD A xs L ls).2.1 ∧ syT A xs L ls = (sayD A xs L ls).2.2 := by
  unfold syX syL syT; rw [h]; exact ⟨rfl, rfl, rfl⟩
theorem sy_no {A : List Int → List UInt8 → List UInt8} {xs : List Int} {L : List (List Int)} {ls : List (List UInt8)} (h : syB xs L ls = false) : syX A xs L ls = [] ∧ syL A xs L ls = [] ∧ syT A xs L ls = [] := by
  unfold syX syL syT; rw [h]; exact ⟨rfl, rfl, rfl⟩
/-- in two parts it is the same -/
theorem sy_parts {A : List Int → List UInt8 → List UInt8} {xs : List Int} {L : List (List Int)} {ls d1 d2 : List (List UInt8)} (h : syB xs L ls = true) (e : d1 ++ d2 = ls) :
    syX A (syX A xs L d1) (syL A xs L d1) d2 = syX A xs L ls ∧ syL A (syX A xs L d1) (syL A xs L d1) d2 = syL A xs L ls ∧ syT A xs L d1 ++ syT A (syX A xs L d1) (syL A xs L d1) d2 = syT A xs L ls := by
  have hl : d1.length + d2.length = ls.length := by rw [← e, List.length_append]
  have h' := h
  unfold syB at h'
  rw [Bool.and_eq_true, decide_eq_true_eq] at h'
  have h1 : syB xs L d1 = true := by unfold syB; rw [h'.1, decide_eq_true (by omega)]; rfl
  obtain ⟨b1, b2, b3⟩ := sy_yes (A := A) h1
  have h2 : syB (syX A xs L d1) (syL A xs L d1) d2 = true := by unfold syB; rw [b1, b2, say_desk A xs L h'.1, decide_eq_true (by omega)]; rfl
  obtain ⟨a1, a2, a3⟩ := sy_yes (A := A) h
  obtain ⟨c1, c2, c3⟩ := sy_yes (A := A) h2
  rw [c1, c2, c3, a1, a2, a3, b3, b1, b2, ← e, say_app]
  exact ⟨rfl, rfl, rfl⟩

/-! ### deeds of a journal are lines -/
/-- the text of a deed that has one is read as this deed -/
theorem line_deed {k x : Int} (h : dOk k x = true) : rdDB (deedL k x) = true ∧ rdK (deedL k x) = k ∧ rdY (deedL k x) = x := by
  have e := rdD_of h
  unfold rdDB rdK rdY
  rw [e]
  exact ⟨rfl, rfl, rfl⟩
/-- the lines of deeds lead where the deeds lead -/
theorem say_run (A : List Int → List UInt8 → List UInt8) (xs : List Int) (L : List (List Int)) (h : deskB xs L = true) (ds : List (Int × Int)) (hd : jtB ds = true) :
    (sayD A xs L (ds.map (fun d => deedL d.1 d.2))).1 = (runD xs L ds).1 ∧ (sayD A xs L (ds.map (fun d => deedL d.1 d.2))).2.1 = (runD xs L ds).2.1 := by
  induction ds generalizing xs L with
  | nil => exact ⟨rfl, rfl⟩
  | cons d ds ih =>
    have hd' : dOk d.1 d.2 = true ∧ jtB ds = true := by
      unfold jtB at hd ⊢
      rw [List.all_cons, Bool.and_eq_true] at hd
      exact hd
    obtain ⟨e1, e2, e3⟩ := line_deed hd'.1
    obtain ⟨f1, f2, _⟩ := li_deed (A := A) h e1
    rw [e2, e3] at f1 f2
    rw [List.map_cons, sayD, runD, f1, f2]
    exact ih _ _ (dk_desk h) hd'.2
end Go.Proofs.YthaickihoagnmaaGreatDoor

namespace Go.Proofs.YthaickihoagnmaaGreatDoor
set_option linter.unusedVariables false
set_option linter.unusedSimpArgs false
open Go.RowKit Go.Maps

/-! ### what is answered to a line that is no deed -/
def allW : List UInt8 := [97, 108, 108]
def companyW : List UInt8 := [99, 111, 109, 112, 97, 110, 121]
def weakW : List UInt8 := [119, 101, 97, 107]
def strongW : List UInt8 := [115, 116, 114, 111, 110, 103]
def summedW : List UInt8 := [115, 117, 109, 109, 101, 100]
def classicalW : List UInt8 := [99, 108, 97, 115, 115, 105, 99, 97, 108]
def atomsW : List UInt8 := [97, 116, 111, 109, 115]
def wholeW : List UInt8 := [119, 104, 111, 108, 101]
def sumW : List UInt8 := [115, 117, 109]
def commonW : List UInt8 := [99, 111, 109, 109, 111, 110]
def leftW : List UInt8 := [108, 101, 102, 116]
def noneW : List UInt8 := [110, 111, 110, 101]
def yesW : List UInt8 := [121, 101, 115]
def noW : List UInt8 := [110, 111]
def ynW (b : Bool) : List UInt8 := if b then yesW else noW
/-- the texts of the sets at places -/
def setsW (xs : List Int) (s : Int) : List UInt8 := if atS xs s xs.length = [] then noneW else joinL (atS xs s xs.length)
/-- the text of the set at a place, if there is one -/
def oneW (xs : List Int) (p : Int) (ok : Bool) : List UInt8 := if ok then setL (xs.getD p.toNat 0) else noneW
/-- the place of a set -/
def plK (xs : List Int) (x : Int) : Nat → Int
  | 0 => -1
  | k + 1 => if plK xs x k < 0 then (if xs.getD k 0 = x then (k : Int) else -1) else plK xs x k
def plI (xs : List Int) (x : Int) : Int := plK xs x xs.length
theorem plK_rng (xs : List Int) (x : Int) (k : Nat) : -1 ≤ plK xs x k ∧ plK xs x k < k := by
  induction k with
  | zero => unfold plK; omega
  | succ k ih =>
    unfold plK
    split
    · split <;> omega
    · omega
theorem plK_none {xs : List Int} {x : Int} {k : Nat} : plK xs x k < 0 ↔ ∀ j, j < k → xs.getD j 0 ≠ x := by
  induction k with
  | zero => exact ⟨fun _ j hj => absurd hj (Nat.not_lt_zero _), fun _ => by unfold plK; omega⟩
  | succ k ih =>
    unfold plK
    constructor
    · intro h j hj
      split at h
      · rename_i h1
        split at h
        · omega
        · rename_i h2
          by_cases e : j = k
          · subst e; exact h2
          · exact ih.1 h1 j (by omega)
      · rename_i h1; exact absurd h h1
    · intro h
      rw [if_pos (ih.2 (fun j hj => h j (by omega))), if_neg (h k (Nat.lt_succ_self _))]
      omega
theorem plK_at {xs : List Int} {x : Int} {k : Nat} (h : ∀ j, j < k → xs.getD j 0 ≠ x) (e : xs.getD k 0 = x) {n : Nat} (hn : k < n) : plK xs x n = k := by
  induction n with
  | zero => omega
  | succ n ih =>
    unfold plK
    by_cases hk : k = n
    · subst hk
      rw [if_pos (plK_none.2 h), if_pos e]
    · have := ih (by omega)
      rw [this, if_neg (by omega)]
theorem plI_at {xs : List Int} {x : Int} {k : Nat} (hk : k < xs.length) (h : ∀ j, j < k → xs.getD j 0 ≠ x) (e : xs.getD k 0 = x) : plI xs x = k := plK_at h e hk
theorem plI_none {xs : List Int} {x : Int} (h : ∀ j, j < xs.length → xs.getD j 0 ≠ x) : plI xs x = -1 := by
  have h1 := plK_none.2 h
  have h2 := (plK_rng xs x xs.length).1
  unfold plI
  omega
theorem plI_lt (xs : List Int) (x : Int) : -1 ≤ plI xs x ∧ plI xs x < xs.length := plK_rng xs x xs.length
/-- a family has no set -1: a text that is not read has no place -/
theorem plI_bad {xs : List Int} (h : famL xs = true) : plI xs (-1) = -1 := by
  refine plI_none (fun j hj e => ?_)
  have hm : xs.getD j 0 ∈ xs := by
    rw [List.getD_eq_getElem?_getD, List.getElem?_eq_getElem hj]
    exact List.getElem_mem hj
  have := famL_rng h _ hm
  omega
/-- the texts are none only where no place is -/
theorem atS_nil {xs : List Int} {s : Int} {k : Nat} : atS xs s k = [] ↔ ∀ j, j < k → hasB s j = false := by
  induction k with
  | zero => exact ⟨fun _ j hj => absurd hj (Nat.not_lt_zero _), fun _ => rfl⟩
  | succ k ih =>
    unfold atS
    cases hb : hasB s k with
    | true =>
      rw [if_pos rfl]
      exact ⟨fun h => by simp at h, fun h => by rw [h k (Nat.lt_succ_self _)] at hb; cases hb⟩
    | false =>
      rw [if_neg (by decide), ih]
      exact ⟨fun h j hj => by
        by_cases e : j = k
        · subst e; exact hb
        · exact h j (by omega), fun h j hj => h j (by omega)⟩
/-- each text of a family's set is one -/
theorem atS_ne {xs : List Int} (h : famL xs = true) (s : Int) {k : Nat} (hk : k ≤ xs.length) : ∀ l ∈ atS xs s k, l ≠ [] ∧ l.length ≤ 4 := by
  induction k with
  | zero => intro l hl; cases hl
  | succ k ih =>
    intro l hl
    unfold atS at hl
    split at hl
    · rcases List.mem_append.1 hl with hl | hl
      · exact ih (by omega) l hl
      · rw [List.mem_singleton] at hl
        subst hl
        have hm : xs.getD k 0 ∈ xs := by
          rw [List.getD_eq_getElem?_getD, List.getElem?_eq_getElem (by omega)]
          exact List.getElem_mem _
        have hr := famL_rng h _ hm
        obtain ⟨y, hy⟩ : ∃ y, xs.getD k 0 = y := ⟨_, rfl⟩
        rw [hy] at hr ⊢
        exact ⟨setL_ne (by unfold okX; simp; omega), setL_len _⟩
    · exact ih (by omega) l hl
end Go.Proofs.YthaickihoagnmaaGreatDoor

namespace Go.Proofs.YthaickihoagnmaaGreatDoor
set_option linter.unusedVariables false
set_option linter.unusedSimpArgs false
open Go.RowKit Go.Maps

/-- a text's beginning -/
theorem headSl2 (s : ByteArray) (k : Nat) (hk : k ≤ s.size) (w : World) : (Instr.slice 9 (.string s) none (some (.int .i64 (k : Int))) none).run Tryz.prog w = .ok (.string (s.extract 0 k)) w := by
  have h0 : (0 : Int) ≤ (k : Int) := by omega
  have hk' : ¬ s.size < k := by omega
  simp [hk', Instr.slice, Instr.sliceBounds, Instr.sliceBound, run_underlying Tryz.underlying9, asIntOf, h0]
theorem head_list (s : ByteArray) (k : Nat) : (s.extract 0 k).data.toList = s.data.toList.take k := by
  simp [ByteArray.data_extract]
/-- of a journal's beginning the first deeds are read -/
theorem IsRj.head {l : List UInt8} {ds es : List (Int × Int)} {k : Nat} (h : IsRj l ds) (g : IsRj (l.take k) es) : ds.take es.length = es ∧ es.length ≤ ds.length ∧ (jtR es).length ≤ k := by
  have hp := h.cut g
  refine ⟨?_, hp.length_le, ?_⟩
  · exact (List.prefix_iff_eq_take.1 hp).symm
  · have := g.pre.length_le
    rw [List.length_take] at this
    omega
/-- the text of what was read is the text's beginning -/
theorem IsRj.text {s : ByteArray} {ds : List (Int × Int)} (h : IsRj s.data.toList ds) : (jtR ds).length ≤ s.size ∧ bs (jtL ds) = s.extract 0 (jtR ds).length := by
  have hl := h.pre.length_le
  have hz : s.data.toList.length = s.size := rfl
  refine ⟨by omega, ?_⟩
  apply list_inj
  rw [head_list, bs_data]
  unfold jtL
  rw [if_pos h.ok]
  exact List.prefix_iff_eq_take.1 h.pre
/-- deeds that were read have texts -/
theorem IsRj.deed {l : List UInt8} {ds : List (Int × Int)} (h : IsRj l ds) {k : Nat} (hk : k < ds.length) : dOk ds[k].1 ds[k].2 = true := by
  have := h.ok
  unfold jtB at this
  exact List.all_eq_true.1 this _ (List.getElem_mem hk)
end Go.Proofs.YthaickihoagnmaaGreatDoor
