import Derived.Test.YthaickihoagnmaaGreatDoorQD9
import Derived.Shelf.Spec.TrailingZeros
import Derived.Deep.RegionHeld3
import Derived.Shelf.Strings.Builder1
import Derived.StillTailTactics
import Derived.RangeFuncNested
import Derived.RangeFuncBound
import Derived.RangeFuncCalls
import Derived.RangeFuncLeaves
import Derived.Shelf.Abstract
import Derived.Shelf.RegionOpen
import Derived.WalkKit
import Derived.OwnWalkIn
import Derived.TacticsInMore
import Derived.LoopNIn
import Derived.LoopIn
import Derived.Maps.OwnIn
import Derived.Shelf.Strings.OnBuilder
set_option linter.unusedVariables false
set_option linter.unusedSimpArgs false
set_option maxHeartbeats 12800000
namespace Go.Proofs.YthaickihoagnmaaGreatDoor
open Go.RowKit Go.Maps
def spR (c : UInt8) : List UInt8 → List (List UInt8)
  | [] => [[]]
  | b :: l => if b == c then [] :: spR c l else match spR c l with
    | [] => [[b]]
    | p :: ps => (b :: p) :: ps
theorem spR_none {c : UInt8} {a : List UInt8} (h : c ∉ a) : spR c a = [a] := by
  induction a with
  | nil => rfl
  | cons b a ih =>
    have hb : (b == c) = false := by
      cases hb : b == c with
      | false => rfl
      | true => exact absurd (by rw [beq_iff_eq.1 hb]; exact List.mem_cons_self) h
    unfold spR
    rw [hb, ih (fun hx => h (List.mem_cons_of_mem _ hx))]
    rfl
theorem spR_app {c : UInt8} {a r : List UInt8} (h : c ∉ a) : spR c (a ++ c :: r) = a :: spR c r := by
  induction a with
  | nil =>
    show spR c (c :: r) = _
    rw [spR, if_pos (by simp)]
  | cons b a ih =>
    have hb : (b == c) = false := by
      cases hb : b == c with
      | false => rfl
      | true => exact absurd (by rw [beq_iff_eq.1 hb]; exact List.mem_cons_self) h
    rw [List.cons_append, spR, hb, ih (fun hx => h (List.mem_cons_of_mem _ hx))]
    rfl
theorem spK_inv (l : List UInt8) (c : UInt8) (k : Nat) (hk : k ≤ l.length) :
    (spK l c k).1 ++ spR c (l.drop (spK l c k).2) = spR c l ∧ c ∉ (l.drop (spK l c k).2).take (k - (spK l c k).2) := by
  induction k with
  | zero => exact ⟨rfl, by simp [spK]⟩
  | succ k ih =>
    obtain ⟨h1, h2⟩ := ih (by omega)
    have hle := (spK_le l c k).1
    obtain ⟨p, hp⟩ : ∃ p, (spK l c k).2 = p := ⟨_, rfl⟩
    have hgt : l.getD k 0 = l[k] := by rw [List.getD_eq_getElem?_getD, List.getElem?_eq_getElem (by omega)]; rfl
    have hsp : l.drop p = (l.drop p).take (k - p) ++ l[k] :: l.drop (k + 1) := by
      have e := List.take_append_drop (k - p) (l.drop p)
      rw [List.drop_drop, show p + (k - p) = k by omega, List.drop_eq_getElem_cons (by omega : k < l.length)] at e
      exact e.symm
    cases hb : l.getD k 0 == c with
    | true =>
      rw [spK_yes hb]
      have he : l[k] = c := by rw [← hgt]; exact beq_iff_eq.1 hb
      refine ⟨?_, by simp⟩
      rw [hp] at h1 h2 ⊢
      rw [← h1, hsp, he, spR_app h2, ← he, ← hsp]
      simp
    | false =>
      rw [spK_no hb]
      refine ⟨h1, ?_⟩
      rw [hp] at h2 hle ⊢
      rw [show k + 1 - p = (k - p) + 1 by omega, List.take_add_one]
      intro hm
      rcases List.mem_append.1 hm with hm | hm
      · exact h2 hm
      · rw [List.getElem?_drop, show p + (k - p) = k by omega, List.getElem?_eq_getElem (by omega)] at hm
        have hm : c = l[k] := by simpa using hm
        rw [hgt, ← hm] at hb
        simp at hb
theorem spL_R (l : List UInt8) (c : UInt8) : spL l c = spR c l := by
  obtain ⟨h1, h2⟩ := spK_inv l c l.length (Nat.le_refl _)
  unfold spL
  rw [← h1]
  congr 1
  rw [List.take_of_length_le (by rw [List.length_drop]; omega)] at h2
  exact (spR_none h2).symm
theorem cut_parts (l : List UInt8) : (cut1 l = l ∧ cut2 l = [] ∧ (32 : UInt8) ∉ l) ∨ (l = cut1 l ++ 32 :: cut2 l ∧ (32 : UInt8) ∉ cut1 l) := by
  have key : (Lib.indexByte l 32 < 0 ∧ (32 : UInt8) ∉ l) ∨ ∃ i : Nat, Lib.indexByte l 32 = i ∧ l = l.take i ++ 32 :: l.drop (i + 1) ∧ (32 : UInt8) ∉ l.take i := by
    induction l with
    | nil => exact .inl ⟨by decide +kernel, by simp⟩
    | cons b l ih =>
      unfold Lib.indexByte
      by_cases hb : b = 32
      · subst hb
        exact .inr ⟨0, by simp, by simp, by simp⟩
      · rcases ih with ⟨h1, h2⟩ | ⟨i, h1, h2, h3⟩
        · refine .inl ⟨?_, ?_⟩
          · rw [if_neg (by simpa using hb), if_pos (by have := Lib.indexByte_ge l 32; rw [show Lib.indexByte l 32 = -1 by omega]; rfl)]; omega
          · intro hm
            rcases List.mem_cons.1 hm with hm | hm
            · exact hb hm.symm
            · exact h2 hm
        · refine .inr ⟨i + 1, ?_, ?_, ?_⟩
          · rw [if_neg (by simpa using hb), if_neg (by rw [h1]; simp), h1]; rfl
          · rw [List.take_succ_cons, List.drop_succ_cons, List.cons_append, ← h2]
          · rw [List.take_succ_cons]
            intro hm
            rcases List.mem_cons.1 hm with hm | hm
            · exact hb hm.symm
            · exact h3 hm
  unfold cut1 cut2
  rcases key with ⟨h1, h2⟩ | ⟨i, h1, h2, h3⟩
  · exact .inl ⟨if_pos h1, if_pos h1, h2⟩
  · refine .inr ?_
    rw [if_neg (by omega), if_neg (by omega), h1, Int.toNat_natCast]
    exact ⟨h2, h3⟩
theorem txt_space : (List.range 16).all (fun x => !(txtL x).contains 32) = true := by decide +kernel
theorem rdI_space {l : List UInt8} (h : (32 : UInt8) ∈ l) : rdI l = -1 := by
  cases hb : rdB l with
  | false => exact rd_bad hb
  | true =>
    exfalso
    obtain ⟨h1, h2⟩ := rd_ok hb
    rw [setL_yes h1] at h2
    have hr := rdI_rng l
    have hx : (rdI l).toNat < 16 := by omega
    have := List.all_eq_true.1 txt_space _ (List.mem_range.2 hx)
    rw [h2] at this
    simp [h] at this
theorem rdI_nil : rdI [] = -1 := by decide +kernel
theorem three_words (l : List UInt8) : ((spL l 32).length = 3 → spL l 32 = [cut1 l, cut1 (cut2 l), cut2 (cut2 l)]) ∧ ((spL l 32).length ≠ 3 → rdI (cut1 (cut2 l)) = -1 ∨ rdI (cut2 (cut2 l)) = -1) := by
  rw [spL_R]
  rcases cut_parts l with ⟨h1, h2, h3⟩ | ⟨h1, h3⟩
  · rw [spR_none h3, h2]
    refine ⟨fun h => by simp at h, fun _ => .inl ?_⟩
    decide +kernel
  · obtain ⟨a, ha⟩ : ∃ a, cut1 l = a := ⟨_, rfl⟩
    obtain ⟨t, ht⟩ : ∃ t, cut2 l = t := ⟨_, rfl⟩
    rw [ha, ht] at h1
    rw [ha] at h3
    rw [ha, ht, h1, spR_app h3]
    rcases cut_parts t with ⟨k1, k2, k3⟩ | ⟨k1, k3⟩
    · rw [spR_none k3, k2]
      exact ⟨fun h => by simp at h, fun _ => .inr rdI_nil⟩
    · obtain ⟨b, hb⟩ : ∃ b, cut1 t = b := ⟨_, rfl⟩
      obtain ⟨u, hu⟩ : ∃ u, cut2 t = u := ⟨_, rfl⟩
      rw [hb, hu] at k1
      rw [hb] at k3
      rw [hb, hu, k1, spR_app k3]
      rcases cut_parts u with ⟨j1, j2, j3⟩ | ⟨j1, j3⟩
      · rw [spR_none j3]
        exact ⟨fun _ => rfl, fun h => absurd rfl h⟩
      · refine ⟨fun h => ?_, fun _ => .inr (rdI_space (by rw [j1]; simp))⟩
        rw [j1, spR_app j3] at h
        obtain ⟨q, qs, hq⟩ : ∃ q qs, spR 32 (cut2 u) = q :: qs := by
          cases hx : spR 32 (cut2 u) with
          | nil =>
            exfalso
            revert hx
            cases cut2 u with
            | nil => simp [spR]
            | cons b l => unfold spR; split <;> (try split) <;> simp
          | cons q qs => exact ⟨q, qs, rfl⟩
        rw [hq] at h
        simp at h
def joinL : List (List UInt8) → List UInt8
  | [] => []
  | [a] => a
  | a :: b :: l => a ++ 44 :: joinL (b :: l)
theorem join_snoc (ls : List (List UInt8)) (a : List UInt8) (h : ls ≠ []) : joinL (ls ++ [a]) = joinL ls ++ 44 :: a := by
  induction ls with
  | nil => exact absurd rfl h
  | cons x ls ih =>
    cases ls with
    | nil => rfl
    | cons y ls =>
      have := ih (by simp)
      show x ++ 44 :: joinL ((y :: ls) ++ [a]) = (x ++ 44 :: joinL (y :: ls)) ++ 44 :: a
      rw [this]; simp
theorem join_ne {ls : List (List UInt8)} (h : ls ≠ []) (hn : ∀ l ∈ ls, l ≠ []) : joinL ls ≠ [] := by
  cases ls with
  | nil => exact absurd rfl h
  | cons x ls =>
    have hx := hn x List.mem_cons_self
    cases ls with
    | nil => exact hx
    | cons y ls => show x ++ _ ≠ []; simp
def atS (xs : List Int) (s : Int) : Nat → List (List UInt8)
  | 0 => []
  | k + 1 => if hasB s k then atS xs s k ++ [setL (xs.getD k 0)] else atS xs s k
theorem atS_len (xs : List Int) (s : Int) (k : Nat) : (atS xs s k).length ≤ k := by
  induction k with
  | zero => exact Nat.le_refl _
  | succ k ih =>
    unfold atS
    split
    · rw [List.length_append, List.length_singleton]; omega
    · omega
def okW : List UInt8 := [111, 107]
def notW : List UInt8 := [110, 111, 116]
def whatW : List UInt8 := [119, 104, 97, 116]
def liX (xs : List Int) (L : List (List Int)) (l : List UInt8) : List Int := if deskB xs L then (if rdDB l then dkX xs L (rdK l) (rdY l) else xs) else []
def liL (xs : List Int) (L : List (List Int)) (l : List UInt8) : List (List Int) := if deskB xs L then (if rdDB l then dkL xs L (rdK l) (rdY l) else L) else []
def liT (A : List Int → List UInt8 → List UInt8) (xs : List Int) (L : List (List Int)) (l : List UInt8) : List UInt8 :=
  if deskB xs L then (if rdDB l then (if dkB xs L (rdK l) (rdY l) then okW else notW) else A xs l) else []
theorem li_none {A : List Int → List UInt8 → List UInt8} {xs : List Int} {L : List (List Int)} {l : List UInt8} (h : deskB xs L = false) : liX xs L l = [] ∧ liL xs L l = [] ∧ liT A xs L l = [] := by
  unfold liX liL liT; rw [h]; exact ⟨rfl, rfl, rfl⟩
theorem li_deed {A : List Int → List UInt8 → List UInt8} {xs : List Int} {L : List (List Int)} {l : List UInt8} (h : deskB xs L = true) (hd : rdDB l = true) :
    liX xs L l = dkX xs L (rdK l) (rdY l) ∧ liL xs L l = dkL xs L (rdK l) (rdY l) ∧ liT A xs L l = if dkB xs L (rdK l) (rdY l) then okW else notW := by
  unfold liX liL liT; rw [h, hd]; exact ⟨rfl, rfl, rfl⟩
theorem li_ask {A : List Int → List UInt8 → List UInt8} {xs : List Int} {L : List (List Int)} {l : List UInt8} (h : deskB xs L = true) (hd : rdDB l = false) : liX xs L l = xs ∧ liL xs L l = L ∧ liT A xs L l = A xs l := by
  unfold liX liL liT; rw [h, hd]; exact ⟨rfl, rfl, rfl⟩
theorem li_desk {xs : List Int} {L : List (List Int)} {l : List UInt8} (h : deskB xs L = true) : deskB (liX xs L l) (liL xs L l) = true := by
  cases hd : rdDB l with
  | true =>
    obtain ⟨h1, h2, _⟩ := li_deed (A := fun _ _ => []) h hd
    rw [h1, h2]; exact dk_desk h
  | false =>
    obtain ⟨h1, h2, _⟩ := li_ask (A := fun _ _ => []) h hd
    rw [h1, h2]; exact h
def sayD (A : List Int → List UInt8 → List UInt8) : List Int → List (List Int) → List (List UInt8) → List Int × List (List Int) × List (List UInt8)
  | xs, L, [] => (xs, L, [])
  | xs, L, l :: ls => ((sayD A (liX xs L l) (liL xs L l) ls).1, (sayD A (liX xs L l) (liL xs L l) ls).2.1, liT A xs L l :: (sayD A (liX xs L l) (liL xs L l) ls).2.2)
section
variable (A : List Int → List UInt8 → List UInt8) (xs : List Int) (L : List (List Int))
theorem say_app (ls ms : List (List UInt8)) :
    sayD A xs L (ls ++ ms) = ((sayD A (sayD A xs L ls).1 (sayD A xs L ls).2.1 ms).1, (sayD A (sayD A xs L ls).1 (sayD A xs L ls).2.1 ms).2.1, (sayD A xs L ls).2.2 ++ (sayD A (sayD A xs L ls).1 (sayD A xs L ls).2.1 ms).2.2) := by
  induction ls generalizing xs L with
  | nil => simp [sayD]
  | cons l ls ih =>
    rw [List.cons_append, sayD, ih]
    rw [sayD]
    refine Prod.ext rfl (Prod.ext rfl ?_)
    simp
theorem say_snoc (ls : List (List UInt8)) (l : List UInt8) :
    sayD A xs L (ls ++ [l]) = (liX (sayD A xs L ls).1 (sayD A xs L ls).2.1 l, liL (sayD A xs L ls).1 (sayD A xs L ls).2.1 l, (sayD A xs L ls).2.2 ++ [liT A (sayD A xs L ls).1 (sayD A xs L ls).2.1 l]) := by
  rw [say_app]; rfl
theorem say_len (ls : List (List UInt8)) : (sayD A xs L ls).2.2.length = ls.length := by
  induction ls generalizing xs L with
  | nil => rfl
  | cons l ls ih => rw [sayD]; simp [ih]
theorem say_desk (h : deskB xs L = true) (ls : List (List UInt8)) : deskB (sayD A xs L ls).1 (sayD A xs L ls).2.1 = true := by
  induction ls generalizing xs L with
  | nil => exact h
  | cons l ls ih => rw [sayD]; exact ih _ _ (li_desk h)
end
def syB (xs : List Int) (L : List (List Int)) (ls : List (List UInt8)) : Bool := deskB xs L && decide (ls.length ≤ 40)
def syX (A : List Int → List UInt8 → List UInt8) (xs : List Int) (L : List (List Int)) (ls : List (List UInt8)) : List Int := if syB xs L ls then (sayD A xs L ls).1 else []
def syL (A : List Int → List UInt8 → List UInt8) (xs : List Int) (L : List (List Int)) (ls : List (List UInt8)) : List (List Int) := if syB xs L ls then (sayD A xs L ls).2.1 else []
def syT (A : List Int → List UInt8 → List UInt8) (xs : List Int) (L : List (List Int)) (ls : List (List UInt8)) : List (List UInt8) := if syB xs L ls then (sayD A xs L ls).2.2 else []
theorem sy_yes {A : List Int → List UInt8 → List UInt8} {xs : List Int} {L : List (List Int)} {ls : List (List UInt8)} (h : syB xs L ls = true) : syX A xs L ls = (sayD A xs L ls).1 ∧ syL A xs L ls = (sayD A xs L ls).2.1 ∧ syT A xs L ls = (sayD A xs L ls).2.2 := by
  unfold syX syL syT; rw [h]; exact ⟨rfl, rfl, rfl⟩
theorem sy_no {A : List Int → List UInt8 → List UInt8} {xs : List Int} {L : List (List Int)} {ls : List (List UInt8)} (h : syB xs L ls = false) : syX A xs L ls = [] ∧ syL A xs L ls = [] ∧ syT A xs L ls = [] := by
  unfold syX syL syT; rw [h]; exact ⟨rfl, rfl, rfl⟩
def allW : List UInt8 := [97, 108, 108]
def companyW : List UInt8 := [99, 111, 109, 112, 97, 110, 121]
def weakW : List UInt8 := [119, 101, 97, 107]
def strongW : List UInt8 := [115, 116, 114, 111, 110, 103]
def summedW : List UInt8 := [115, 117, 109, 109, 101, 100]
def classicalW : List UInt8 := [99, 108, 97, 115, 115, 105, 99, 97, 108]
def atomsW : List UInt8 := [97, 116, 111, 109, 115]
def wholeW : List UInt8 := [119, 104, 111, 108, 101]
def sumW : List UInt8 := [115, 117, 109]
def commonW : List UInt8 := [99, 111, 109, 109, 111, 110]
def leftW : List UInt8 := [108, 101, 102, 116]
def noneW : List UInt8 := [110, 111, 110, 101]
def yesW : List UInt8 := [121, 101, 115]
def noW : List UInt8 := [110, 111]
def ynW (b : Bool) : List UInt8 := if b then yesW else noW
def setsW (xs : List Int) (s : Int) : List UInt8 := if atS xs s xs.length = [] then noneW else joinL (atS xs s xs.length)
def oneW (xs : List Int) (p : Int) (ok : Bool) : List UInt8 := if ok then setL (xs.getD p.toNat 0) else noneW
def plK (xs : List Int) (x : Int) : Nat → Int
  | 0 => -1
  | k + 1 => if plK xs x k < 0 then (if xs.getD k 0 = x then (k : Int) else -1) else plK xs x k
def plI (xs : List Int) (x : Int) : Int := plK xs x xs.length
theorem plK_rng (xs : List Int) (x : Int) (k : Nat) : -1 ≤ plK xs x k ∧ plK xs x k < k := by
  induction k with
  | zero => unfold plK; omega
  | succ k ih =>
    unfold plK
    split
    · split <;> omega
    · omega
theorem plK_none {xs : List Int} {x : Int} {k : Nat} : plK xs x k < 0 ↔ ∀ j, j < k → xs.getD j 0 ≠ x := by
  induction k with
  | zero => exact ⟨fun _ j hj => absurd hj (Nat.not_lt_zero _), fun _ => by unfold plK; omega⟩
  | succ k ih =>
    unfold plK
    constructor
    · intro h j hj
      split at h
      · rename_i h1
        split at h
        · omega
        · rename_i h2
          by_cases e : j = k
          · subst e; exact h2
          · exact ih.1 h1 j (by omega)
      · rename_i h1; exact absurd h h1
    · intro h
      rw [if_pos (ih.2 (fun j hj => h j (by omega))), if_neg (h k (Nat.lt_succ_self _))]
      omega
theorem plK_at {xs : List Int} {x : Int} {k : Nat} (h : ∀ j, j < k → xs.getD j 0 ≠ x) (e : xs.getD k 0 = x) {n : Nat} (hn : k < n) : plK xs x n = k := by
  induction n with
  | zero => omega
  | succ n ih =>
    unfold plK
    by_cases hk : k = n
    · subst hk
      rw [if_pos (plK_none.2 h), if_pos e]
    · have := ih (by omega)
      rw [this, if_neg (by omega)]
theorem plI_at {xs : List Int} {x : Int} {k : Nat} (hk : k < xs.length) (h : ∀ j, j < k → xs.getD j 0 ≠ x) (e : xs.getD k 0 = x) : plI xs x = k := plK_at h e hk
theorem plI_none {xs : List Int} {x : Int} (h : ∀ j, j < xs.length → xs.getD j 0 ≠ x) : plI xs x = -1 := by
  have h1 := plK_none.2 h
  have h2 := (plK_rng xs x xs.length).1
  unfold plI
  omega
theorem plI_lt (xs : List Int) (x : Int) : -1 ≤ plI xs x ∧ plI xs x < xs.length := plK_rng xs x xs.length
theorem plI_bad {xs : List Int} (h : famL xs = true) : plI xs (-1) = -1 := by
  refine plI_none (fun j hj e => ?_)
  have hm : xs.getD j 0 ∈ xs := by
    rw [List.getD_eq_getElem?_getD, List.getElem?_eq_getElem hj]
    exact List.getElem_mem hj
  have := famL_rng h _ hm
  omega
theorem atS_ne {xs : List Int} (h : famL xs = true) (s : Int) {k : Nat} (hk : k ≤ xs.length) : ∀ l ∈ atS xs s k, l ≠ [] ∧ l.length ≤ 4 := by
  induction k with
  | zero => intro l hl; cases hl
  | succ k ih =>
    intro l hl
    unfold atS at hl
    split at hl
    · rcases List.mem_append.1 hl with hl | hl
      · exact ih (by omega) l hl
      · rw [List.mem_singleton] at hl
        subst hl
        have hm : xs.getD k 0 ∈ xs := by
          rw [List.getD_eq_getElem?_getD, List.getElem?_eq_getElem (by omega)]
          exact List.getElem_mem _
        have hr := famL_rng h _ hm
        obtain ⟨y, hy⟩ : ∃ y, xs.getD k 0 = y := ⟨_, rfl⟩
        rw [hy] at hr ⊢
        exact ⟨setL_ne (by unfold okX; simp; omega), setL_len _⟩
    · exact ih (by omega) l hl
def LineD (xs : List Int) (L : List (List Int)) (t : List UInt8) (w : World) (e : Ending) (w' : World) : Prop := ∃ v1 v2, e = .returned (.tuple #[.agg #[v1, v2], .string (bs t)]) ∧ GivesD xs L w w' v1 v2
theorem GivesD.fin {xs : List Int} {L : List (List Int)} {w w5 w6 W : World} {R : Nat} {v1 v2 : Value} (hg : GivesD xs L w5 w6 v1 v2) (hb : Below w.heap.size w w5) (hR : w.heap.size ≤ R) (hl : R < w5.heap.size) (hW : Below w6.heap.size w6 W) :
    GivesD xs L w ((W.setCell ⟨R, 0, none⟩ v1).setCell ⟨R, 1, none⟩ v2) v1 v2 := by
  obtain ⟨rs, hdg, hrs, hb2⟩ := hg
  exact ⟨rs, (((hdg.kept hW).put (p := ⟨R, 0, none⟩) hl).put (p := ⟨R, 1, none⟩) hl).base hb.size, hrs, ((below_onto (below_onto hb hb2) hW).setCell (p := ⟨R, 0, none⟩) hR _).setCell (p := ⟨R, 1, none⟩) hR _⟩
theorem GivesD.drew {xs : List Int} {L : List (List Int)} {w W : World} {v1 v2 : Value} (h : GivesD xs L w W v1 v2) : GivesD xs L w W.drew v1 v2 := by
  obtain ⟨rs, h1, h2, h3⟩ := h
  exact ⟨rs, h1.kept ((Below.refl _ W).drew), h2, h3.drew⟩
theorem retdt {v1 v2 : Value} {s t : ByteArray} (h : s = t) : Ending.returned (.tuple #[.agg #[v1, v2], .string s]) = .returned (.tuple #[.agg #[v1, v2], .string t]) := by rw [h]
theorem either_any (o : Bool) (s t : ByteArray) (w : World) :
    Calls Tryz.prog 55 #[.bool o, .string s, .string t] w fun e w' => e = .returned (.string (if o then s else t)) ∧ w' = w := by
  cases o with
  | true =>
    go_enter Tryz.func55, Tryz.ntmps55
    go_wp2_with fail
    go_ret
    exact ⟨rfl, rfl⟩
  | false =>
    go_enter Tryz.func55, Tryz.ntmps55
    go_wp2_with fail
    go_ret
    exact ⟨rfl, rfl⟩
theorem deed_rng {k x : Int} (h : dOk k x = true) : (0 ≤ k ∧ k ≤ 4) ∧ 0 ≤ x ∧ x ≤ 15 := by rcases dOk_iff.1 h with h | h <;> omega
theorem rdY_I64 (l : List UInt8) : I64 (rdY l) := by
  cases h : rdD l with
  | none => rw [(rdD_no h).2.1]; unfold I64; omega
  | some d =>
    obtain ⟨k, x⟩ := d
    rw [(rdD_is h).2.1]
    have := deed_rng (rdD_some h).1
    unfold I64; omega
theorem ok_if (o : Bool) : (if o then ({ data := #[111, 107] } : ByteArray) else { data := #[110, 111, 116] }) = bs (if o then okW else notW) := by cases o <;> rfl
set_option maxRecDepth 100000 in
theorem DeskLine_deed (d : Value) (xs : List Int) (L : List (List Int)) (s : ByteArray) (hs : s.size ≤ 1048600) (hdk : deskB xs L = true) (hrd : rdDB s.data.toList = true) (w : World) (h : DeskR w d xs L) :
    Calls Tryz.prog 14 #[d, .string s] w (LineD (liX xs L s.data.toList) (liL xs L s.data.toList) (liT (fun _ _ => []) xs L s.data.toList) w) := by
  obtain ⟨f1, f2, f3⟩ := li_deed (A := fun _ _ => []) hdk hrd
  rw [f1, f2, f3]
  have hkx : I64 (rdY s.data.toList) := rdY_I64 _
  obtain ⟨k, hk⟩ : ∃ k, rdK s.data.toList = k := ⟨_, rfl⟩
  obtain ⟨x, hx⟩ : ∃ x, rdY s.data.toList = x := ⟨_, rfl⟩
  rw [hk, hx]
  rw [hx] at hkx
  have hdk2 : okD (dkX xs L k x) (dkL xs L k x) := okD_desk (dk_desk hdk)
  obtain ⟨ok, hok⟩ : ∃ ok, dkB xs L k x = ok := ⟨_, rfl⟩
  obtain ⟨ys, hys⟩ : ∃ ys, dkX xs L k x = ys := ⟨_, rfl⟩
  obtain ⟨M, hM⟩ : ∃ M, dkL xs L k x = M := ⟨_, rfl⟩
  have hoe := ok_if ok
  obtain ⟨tw, htw⟩ : ∃ tw, (if ok then okW else notW) = tw := ⟨_, rfl⟩
  rw [htw] at hoe
  rw [hys, hM] at hdk2
  rw [hys, hM, hok, htw]
  have HOK := Lib.hid hok; have HYS := Lib.hid hys; have HMM := Lib.hid hM; have HKD := Lib.hid hdk2; have HOE := Lib.hid hoe
  clear hdk2 hok hys hM hoe htw
  have hdd := h
  obtain ⟨a, c, b, c2, rfl, _⟩ := h.parts
  have q1 := alloc_below w (.cells #[.slice a xs.length c, .slice b L.length c2] 31)
  have q2 := alloc_below (w.alloc (.cells #[.slice a xs.length c, .slice b L.length c2] 31)) (.cells #[.slice none 0 0, .slice none 0 0] 31)
  have HV := Lib.hid ((VarD.new hdd).kept q2)
  have hbr := Blk2.new (w.alloc (.cells #[.slice a xs.length c, .slice b L.length c2] 31)) 31 (.slice none 0 0) (.slice none 0 0)
  rw [alloc_size] at hbr
  have HBR := Lib.hid hbr
  have HB := Lib.hid (below_onto q1 q2)
  obtain ⟨w2, hw2⟩ : ∃ w2, (w.alloc (.cells #[.slice a xs.length c, .slice b L.length c2] 31)).alloc (.cells #[.slice none 0 0, .slice none 0 0] 31) = w2 := ⟨_, rfl⟩
  rw [hw2] at HV HBR HB
  have hd0 := HV.out.blk.cell.1; have hd1 := HV.out.blk.cell.2
  have HDK := Lib.hid hdk; have HRD := Lib.hid hrd; have HKK := Lib.hid hk; have HXX := Lib.hid hx; have HX := Lib.hid hkx
  clear h hdd q1 q2 hbr hdk hrd hk hx hkx f1 f2 f3
  go_enter Tryz.func14, Tryz.ntmps14
  go_wp2_with fail
  clear hw2
  refine (DeskOk_any _ xs L _ HV.out.d).mono ?_
  rintro e w3 ⟨rfl, hb⟩
  rw [HDK.out]
  replace HV := Lib.hid (HV.out.kept hb); replace HBR := Lib.hid (HBR.out.kept hb HBR.out.lt); replace HB := Lib.hid (below_onto HB.out hb)
  clear hb hd0 hd1
  go_wp2_with fail
  refine (ReadDeed_any s (by omega) _).mono ?_
  rintro e w4 ⟨rfl, hb⟩
  rw [HKK.out, HXX.out, HRD.out]
  have hal := alloc_below w4 (.cells #[.int .i64 k, .int .i64 x] 39)
  have HE := Lib.hid (Blk2.new w4 39 (.int .i64 k) (.int .i64 x))
  replace hb := below_onto hb hal
  replace HV := Lib.hid (HV.out.kept hb); replace HBR := Lib.hid (HBR.out.kept hb HBR.out.lt); replace HB := Lib.hid (below_onto HB.out hb)
  obtain ⟨w5, hw5⟩ : ∃ w5, w4.alloc (.cells #[.int .i64 k, .int .i64 x] 39) = w5 := ⟨_, rfl⟩
  obtain ⟨E, hE⟩ : ∃ E, w4.heap.size = E := ⟨_, rfl⟩
  rw [hw5] at HV HBR HB HE
  rw [hE] at HE
  clear hb hal
  have hd0 := HV.out.blk.cell.1; have hd1 := HV.out.blk.cell.2; have he0 := HE.out.cell.1; have he1 := HE.out.cell.2
  go_wp2_with fail
  clear hw5 hE
  have HLT := Lib.hid (show w.heap.size + 1 < w5.heap.size from HBR.out.lt)
  refine (DeskDo_any _ xs L k x HX.out _ HV.out.d).mono ?_
  rintro e w6 ⟨v1, v2, rfl, hg⟩
  rw [HOK.out]
  rw [HYS.out, HMM.out] at hg
  obtain ⟨p1, e1, p2, e2, rfl, rfl, hd, _⟩ := HKD.out.gives hg
  have HG := Lib.hid hg
  have hal := alloc_below w6 (.cells #[.slice p1 ys.length e1, .slice p2 M.length e2] 31)
  have HA := Lib.hid (Blk2.new w6 31 (.slice p1 ys.length e1) (.slice p2 M.length e2))
  have HAL := Lib.hid hal
  replace HBR := Lib.hid (HBR.out.kept (below_onto hg.below hal) HBR.out.lt)
  have HSZ := Lib.hid (show w.heap.size + 1 < w5.heap.size ∧ w5.heap.size ≤ w6.heap.size from ⟨HLT.out, hg.below.size⟩)
  obtain ⟨w7, hw7⟩ : ∃ w7, w6.alloc (.cells #[.slice p1 ys.length e1, .slice p2 M.length e2] 31) = w7 := ⟨_, rfl⟩
  obtain ⟨A, hA⟩ : ∃ A, w6.heap.size = A := ⟨_, rfl⟩
  rw [hw7] at HA HAL HBR
  rw [hA] at HA
  have hn1 : ¬ A = w.heap.size + 1 := by have := HSZ.out; omega
  have HN1 := Lib.hid hn1
  have hR0 := HBR.out.cell.1; have hR1 := HBR.out.cell.2; have hR2 := HBR.out.frozen 0; have hR3 := HBR.out.frozen 1
  have HKS := Lib.hid (show ∀ W : World, W.heap[A]? = w7.heap[A]? → (W.cell? ⟨A, 0, none⟩ = some (.slice p1 ys.length e1) ∧ W.cell? ⟨A, 1, none⟩ = some (.slice p2 M.length e2)) from fun W hW => Blk2.cell (show Blk2 W A 31 _ _ from hW.trans HA.out))
  clear hg hd hal hd0 hd1 he0 he1
  go_upto_region 7 with fail
  clear hw7 hA
  go_region_held3 (fun W => W.cell? ⟨A, 0, none⟩ = some (.slice p1 ys.length e1) ∧ W.cell? ⟨A, 1, none⟩ = some (.slice p2 M.length e2))
    (first | exact HKS.out _ rfl | exact HKS.out _ ((set_blk HN1.out).trans (set_blk HN1.out)) | go_keep)
    (first | (go_at_call 55; refine (either_any ok _ _ _).mono ?_; rintro e w8 ⟨rfl, rfl⟩; rw [HOE.out]))
  all_goals
    go_wp2_with fail
    refine bodyPost_ret (results_desk rfl _ _ (w.heap.size + 1) ((HBR.out.set0 _).set1 _) rfl rfl (by kernel_rfl)) rfl ?_
    refine ⟨_, _, rfl, ?_⟩
    first
      | exact HG.out.fin HB.out (Nat.le_succ _) HSZ.out.1 HAL.out
      | exact (HG.out.fin HB.out (Nat.le_succ _) HSZ.out.1 HAL.out).drew
end Go.Proofs.YthaickihoagnmaaGreatDoor
namespace Go.Proofs.YthaickihoagnmaaGreatDoor
open Go.RowKit
def TabW (w : World) : Prop := TabAt 2 Lib.deBruijn64tab w
theorem TabW.below {w w' : World} (h : TabW w) (hb : Below w.heap.size w w') : TabW w' := fun j hj =>
  (hb.cell (p := ⟨2, j, none⟩) (World.block_lt_of_cell? w _ (h j hj))).trans (h j hj)
theorem tz64_core (x k idx : Nat) (w : World) (hx0 : ((x : Int) == 0) = false)
    (key : IntKind.u64.wrap (bits BinOp.and IntKind.u64 (x : Int) (IntKind.u64.wrap (-(x : Int))) * 285870213051353865) / 288230376151711744 = (idx : Int))
    (hi : idx < 64) (hk : k < 64) (hcell : w.cell? ⟨2, idx, none⟩ = some (.int .u8 k)) :
    Calls Tryz.prog 258 #[.int .u64 x] w fun e w' => e = .returned (.int .i64 k) ∧ w = w' := by
  go_enter Tryz.func258, Tryz.ntmps258
  go_wp2_with (simp only [key])
  go_ret
  exact ⟨rfl, rfl⟩
def lowOk (X : Nat) : Bool := X == 0 || (X.testBit (Lib.ctz 64 X) && (List.range (Lib.ctz 64 X)).all (fun i => !X.testBit i) && decide (Lib.ctz 64 X < 7))
theorem lowOk_all : (List.range 128).all lowOk = true := by kernel_rfl
theorem ctz_at {X k : Nat} (hX : X < 128) (hk : X.testBit k = true) (hl : ∀ i, i < k → X.testBit i = false) : Lib.ctz 64 X = k ∧ k < 7 := by
  have h0 : X ≠ 0 := by intro e; subst e; simp at hk
  have h := lowOk_all
  rw [List.all_eq_true] at h
  have h2 := h X (List.mem_range.2 hX)
  unfold lowOk at h2
  rw [Bool.or_eq_true, Bool.and_eq_true, Bool.and_eq_true, decide_eq_true_eq, List.all_eq_true] at h2
  rcases h2 with h2 | ⟨⟨h3, h4⟩, h5⟩
  · exact absurd (beq_iff_eq.1 h2) h0
  · rcases Nat.lt_trichotomy (Lib.ctz 64 X) k with h6 | h6 | h6
    · rw [hl _ h6] at h3; cases h3
    · omega
    · have := h4 k (List.mem_range.2 h6); rw [hk] at this; cases this
theorem tz64_any (x : Nat) (h0 : x ≠ 0) (hx : x < 128) (w : World) (hT : TabW w) :
    Calls Tryz.prog 258 #[.int .u64 x] w fun e w' => e = .returned (.int .i64 (Lib.ctz 64 x)) ∧ w = w' := by
  have hx' : x < 18446744073709551616 := by omega
  obtain ⟨hlow, hk⟩ := Lib.lowest_bit 64 x h0 hx'
  obtain ⟨hi, htab⟩ := Lib.deBruijn64_at _ hk
  have hcell := hT _ hi
  rw [htab] at hcell
  exact tz64_core x _ _ w (by rw [beq_eq_false_iff_ne]; omega) (tz64_key x _ hx' h0 hlow) hi hk hcell
theorem tz_any (x : Nat) (h0 : x ≠ 0) (hx : x < 128) (w : World) (hT : TabW w) :
    Calls Tryz.prog 252 #[.int .u64 x] w fun e w' => e = .returned (.int .i64 (Lib.ctz 64 x)) ∧ w = w' := by
  have HT := Lib.hid hT; clear hT
  go_enter Tryz.func252, Tryz.ntmps252
  go_wp2_with fail
  refine (tz64_any x h0 hx _ HT.out).mono ?_
  rintro e w' ⟨rfl, rfl⟩
  go_wp2_with fail
  go_ret
  exact ⟨rfl, rfl⟩
def firstI (x : Int) : Int := if x = 0 then -1 else (Lib.ctz 64 x.toNat : Nat)
theorem first_any (x : Nat) (hx : x < 128) (w : World) (hT : TabW w) :
    Calls Tryz.prog 238 #[.int .i64 x] w fun e w' => e = .returned (.tuple #[.int .i64 (firstI x), .bool ((x : Int) != 0)]) ∧ w = w' := by
  have HT := Lib.hid hT; clear hT
  by_cases h0 : x = 0
  · subst h0
    go_enter Tryz.func238, Tryz.ntmps238
    go_wp2_with fail
    go_ret2
    exact ⟨rfl, rfl⟩
  · have hx0 : ((x : Int) == 0) = false := by rw [beq_eq_false_iff_ne]; omega
    have HF := Lib.hid (show firstI x = (Lib.ctz 64 x : Nat) by unfold firstI; rw [if_neg (by omega)]; rfl)
    have HB := Lib.hid (show ((x : Int) != 0) = true by rw [bne, hx0]; rfl)
    go_enter Tryz.func238, Tryz.ntmps238
    go_wp2_with fail
    refine (tz_any x h0 hx _ HT.out).mono ?_
    rintro e w' ⟨rfl, rfl⟩
    go_wp2_with fail
    go_ret2
    exact ⟨by rw [HF.out, HB.out]; rfl, rfl⟩
def TwoEnd (i : Int) (v : Bool) (w : World) (e : Ending) (w' : World) : Prop := e = .returned (.tuple #[.int .i64 i, .bool v]) ∧ Below w.heap.size w w'
def TwoDrew (i : Int) (v : Bool) (w : World) (e : Ending) (w' : World) : Prop := e = .returned (.tuple #[.int .i64 i, .bool v]) ∧ Drew w w'
def noneG (g : Nat → Bool) (k : Nat) : Bool := decide (∀ a, a < k → g a = false)
theorem noneG_zero (g : Nat → Bool) : noneG g 0 = true := decide_eq_true (fun _ h => absurd h (Nat.not_lt_zero _))
theorem noneG_step {g : Nat → Bool} {k : Nat} (h : noneG g k = true) (hg : g k = false) : noneG g (k + 1) = true := by
  unfold noneG at h ⊢; rw [decide_eq_true_eq] at h ⊢
  intro a ha
  by_cases e : a = k
  · subst e; exact hg
  · exact h a (by omega)
theorem setOf_nat (g : Nat → Bool) (n : Nat) (hn : n ≤ 7) : ∃ X : Nat, setOf g n = X ∧ X < 128 := by
  have h := setOf_rng g n (by omega)
  have hp := (pow_bounds n hn).2
  obtain ⟨X, e⟩ := Int.eq_ofNat_of_zero_le h.1
  exact ⟨X, e, by omega⟩
theorem firstI_found {g : Nat → Bool} {n k : Nat} (h7 : n ≤ 7) (hk : k < n) (h0 : noneG g k = true) (h1 : g k = true) : firstI (setOf g n) = k ∧ (setOf g n != 0) = true := by
  obtain ⟨R, hR, hR7⟩ := setOf_nat g n h7
  have hbit : ∀ i, i < n → R.testBit i = g i := fun i hi => by rw [← hasB_nat, ← hR, setOf_bit _ _ _ (by omega), decide_eq_true hi, Bool.true_and]
  unfold noneG at h0; rw [decide_eq_true_eq] at h0
  have hlow : ∀ i, i < k → R.testBit i = false := fun i hi => by rw [hbit i (by omega)]; exact h0 i hi
  have hk2 : R.testBit k = true := by rw [hbit k hk, h1]
  obtain ⟨h3, _⟩ := ctz_at hR7 hk2 hlow
  have h4 : R ≠ 0 := by intro e; subst e; simp at hk2
  rw [hR]
  constructor
  · unfold firstI; rw [if_neg (by omega), Int.toNat_natCast, h3]
  · rw [bne_iff_ne]; omega
theorem setOf_none {g : Nat → Bool} {n : Nat} (h0 : noneG g n = true) : setOf g n = 0 := by
  unfold noneG at h0; rw [decide_eq_true_eq] at h0
  refine ext64 _ _ (setOf_I64 _ _) I64_zero (fun i hi => ?_)
  rw [hasB_zero, setOf_bit _ _ _ hi]
  by_cases hin : i < n
  · rw [h0 i hin]; simp
  · rw [decide_eq_false hin]; rfl
theorem setOf_some {g : Nat → Bool} {n : Nat} (_ : n ≤ 7) (h : (setOf g n != 0) = true) : ∃ a, a < n ∧ g a = true := by
  obtain ⟨i, hi, hb⟩ := (nonzero_iff _ (setOf_I64 g n)).1 h
  rw [setOf_bit _ _ _ hi, Bool.and_eq_true, decide_eq_true_eq] at hb
  exact ⟨i, hb.1, hb.2⟩
def topG (f : Nat → Int) (s : Int) (a : Nat) : Bool := hasB s a && withinB s (f a)
def topI (n : Nat) (f : Nat → Int) (s : Int) : Int := setOf (topG f s) n
def ansN (g : Bool) (n : Nat) (f : Nat → Int) (s : Int) : Int := if g then firstI (topI n f s) else -1
def ansOk (g : Bool) (n : Nat) (f : Nat → Int) (s : Int) : Bool := g && (topI n f s != 0)
theorem topG_iff {f : Nat → Int} {s : Int} {a : Nat} : topG f s a = true ↔ hasB s a = true ∧ ∀ i, i < 64 → hasB s i = true → hasB (f a) i = true := by
  unfold topG; rw [Bool.and_eq_true, within_iff]
theorem topG_uniq {n : Nat} {f : Nat → Int} (hP : WorldP n f) {s : Int} {a b : Nat} (ha : a < n) (hb : b < n) (h1 : topG f s a = true) (h2 : topG f s b = true) : a = b := by
  have h7 := hP.hi
  rw [topG_iff] at h1 h2
  exact anti_eq hP ha hb (h1.2 b (by omega) h2.1) (h2.2 a (by omega) h1.1)
theorem ans_at {n : Nat} {f : Nat → Int} (hP : WorldP n f) {s : Int} {k : Nat} (hk : k < n) (h1 : topG f s k = true) : ansN true n f s = k ∧ ansOk true n f s = true := by
  have hno : noneG (topG f s) k = true := decide_eq_true (fun a ha => by
    cases e : topG f s a with
    | false => rfl
    | true => have := topG_uniq hP (by omega) hk e h1; omega)
  obtain ⟨e1, e2⟩ := firstI_found hP.hi hk hno h1
  exact ⟨by unfold ansN topI; rw [if_pos rfl, e1], by unfold ansOk topI; rw [e2]; rfl⟩
theorem ans_on {g : Bool} {n : Nat} {f : Nat → Int} {s : Int} (hP : g = true → WorldP n f) (h : ansOk g n f s = true) : g = true ∧ ∃ C : Nat, C < n ∧ ansN g n f s = C ∧ topG f s C = true := by
  have hg : g = true := by unfold ansOk at h; cases g with | true => rfl | false => cases h
  subst hg
  have hP := hP rfl
  have h2 : (setOf (topG f s) n != 0) = true := by unfold ansOk topI at h; simpa using h
  obtain ⟨a, ha, hh⟩ := setOf_some hP.hi h2
  exact ⟨rfl, a, ha, (ans_at hP ha hh).1, hh⟩
def commonS (n : Nat) (f : Nat → Int) (a b : Nat) : Int := setOf (fun c => hasB (f a) c && hasB (f b) c) n
def leftS (n : Nat) (f : Nat → Int) (a b : Nat) : Int := setOf (fun c => hasB (f a) c && !(andI (f c) (f b) != 0)) n
def wholeS (n : Nat) : Int := setOf (fun _ => true) n
theorem common_and {n : Nat} {f : Nat → Int} (hP : WorldP n f) {a b : Nat} (ha : a < n) : commonS n f a b = bits .and .i64 (f a) (f b) := by
  refine ext64 _ _ (setOf_I64 _ _) (andI_I64 _ _) (fun i hi => ?_)
  show _ = hasB (andI _ _) i
  unfold commonS; rw [setOf_bit _ _ _ hi, and_bit _ _ _ hi]
  by_cases hin : i < n
  · rw [decide_eq_true hin, Bool.true_and]
  · rw [decide_eq_false hin, Bool.false_and]
    cases e : hasB (f a) i with
    | false => rfl
    | true => exact absurd (hasB_lt (hP.rng a ha) e) hin
theorem whole_low (n : Nat) (hn : n ≤ 7) : wholeS n = 2 ^ n - 1 := by
  have hp := pow_bounds n hn
  refine ext64 _ _ (setOf_I64 _ _) (by unfold I64; omega) (fun i hi => ?_)
  unfold wholeS; rw [setOf_bit _ _ _ hi, hasB_low, Bool.and_true]
theorem those0_any (K : Nat) (a : Option Addr) (n cap : Nat) (g : Nat → Bool) (hn : n ≤ 7) (w : World)
    (hE : ∀ (args : Array Value) (w : World), Sem.run Tryz.prog (callFunc K args) w = .ok (.enter K args) w)
    (hF : Hid (∀ (wr : World) (b : Nat), b < n → Drew w wr → Calls Tryz.prog K #[.int .i64 b] wr fun e w' => e = .returned (.bool (g b)) ∧ Drew wr w')) :
    Calls Tryz.prog 215 #[.slice a n cap, .func (.func K) #[] #[]] w fun e w' => e = .returned (.int .i64 (setOf g n)) ∧ Drew w w' := by
  go_enter Tryz.func215, Tryz.ntmps215
  go_wp2_with fail
  go_loopw [5, 9] (fun v i wr => ∃ k : Nat, k ≤ n ∧ i = .int .i64 k ∧ v = .int .i64 (setOf g k) ∧ Drew w wr) (fun _ i _ => n - (intOf i).toNat)
  case atStart => exact ⟨0, Nat.zero_le _, rfl, rfl, Drew.refl w⟩
  case round =>
    obtain ⟨k, hk, rfl, rfl, hd⟩ := hrel
    by_cases hlt : k < n
    · have hk7 : k < 7 := by omega
      have hp := pow_bounds k (by omega)
      obtain ⟨hp1, hp2⟩ := hp
      cases hg : g k with
      | true =>
        have HS := Lib.hid (setOf_yes g k hg); have HG := Lib.hid hg; clear hg
        go_wp2_with fail
        refine (hF.out wr k hlt hd).mono ?_
        rintro e w' ⟨rfl, hd'⟩
        rw [HG.out]
        go_wp2_with fail
        go_roundw
        case rel => exact ⟨k + 1, by omega, by go_num, by rw [HS.out], by obtain ⟨m, rfl⟩ := hd'; exact hd.more m⟩
        case measure => simp [intOf]; omega
      | false =>
        have HS := Lib.hid (setOf_no g k hg); have HG := Lib.hid hg; clear hg
        go_wp2_with fail
        refine (hF.out wr k hlt hd).mono ?_
        rintro e w' ⟨rfl, hd'⟩
        rw [HG.out]
        go_wp2_with fail
        go_roundw
        case rel => exact ⟨k + 1, by omega, by go_num, by rw [HS.out], by obtain ⟨m, rfl⟩ := hd'; exact hd.more m⟩
        case measure => simp [intOf]; omega
    · have hkn : k = n := by omega
      subst hkn
      go_wp2_with fail
      go_ret
      exact ⟨rfl, hd⟩
theorem those3_any (K : Nat) (a : Option Addr) (n cap : Nat) (p1 p2 p3 : Value) (g : Nat → Bool) (hn : n ≤ 7) (w : World)
    (hE : ∀ (args : Array Value) (w : World), Sem.run Tryz.prog (callFunc K args) w = .ok (.enter K args) w)
    (hF : Hid (∀ (wr : World) (b : Nat), b < n → Drew w wr → Calls Tryz.prog K #[.int .i64 b, p1, p2, p3] wr fun e w' => e = .returned (.bool (g b)) ∧ Drew wr w')) :
    Calls Tryz.prog 215 #[.slice a n cap, .func (.func K) #[] #[p1, p2, p3]] w fun e w' => e = .returned (.int .i64 (setOf g n)) ∧ Drew w w' := by
  go_enter Tryz.func215, Tryz.ntmps215
  go_wp2_with fail
  go_loopw [5, 9] (fun v i wr => ∃ k : Nat, k ≤ n ∧ i = .int .i64 k ∧ v = .int .i64 (setOf g k) ∧ Drew w wr) (fun _ i _ => n - (intOf i).toNat)
  case atStart => exact ⟨0, Nat.zero_le _, rfl, rfl, Drew.refl w⟩
  case round =>
    obtain ⟨k, hk, rfl, rfl, hd⟩ := hrel
    by_cases hlt : k < n
    · have hk7 : k < 7 := by omega
      have hp := pow_bounds k (by omega)
      obtain ⟨hp1, hp2⟩ := hp
      cases hg : g k with
      | true =>
        have HS := Lib.hid (setOf_yes g k hg); have HG := Lib.hid hg; clear hg
        go_wp2_with fail
        refine (hF.out wr k hlt hd).mono ?_
        rintro e w' ⟨rfl, hd'⟩
        rw [HG.out]
        go_wp2_with fail
        go_roundw
        case rel => exact ⟨k + 1, by omega, by go_num, by rw [HS.out], by obtain ⟨m, rfl⟩ := hd'; exact hd.more m⟩
        case measure => simp [intOf]; omega
      | false =>
        have HS := Lib.hid (setOf_no g k hg); have HG := Lib.hid hg; clear hg
        go_wp2_with fail
        refine (hF.out wr k hlt hd).mono ?_
        rintro e w' ⟨rfl, hd'⟩
        rw [HG.out]
        go_wp2_with fail
        go_roundw
        case rel => exact ⟨k + 1, by omega, by go_num, by rw [HS.out], by obtain ⟨m, rfl⟩ := hd'; exact hd.more m⟩
        case measure => simp [intOf]; omega
    · have hkn : k = n := by omega
      subst hkn
      go_wp2_with fail
      go_ret
      exact ⟨rfl, hd⟩
theorem overlap_val (bk off len cap : Nat) (a b : Nat) (x y : Int) (v : Bool) (ha : a < len) (hb : b < len) (w : World) (hv : (andI x y != 0) = v) (hca : w.cell? ⟨bk, off + a, none⟩ = some (.int .i64 x)) (hcb : w.cell? ⟨bk, off + b, none⟩ = some (.int .i64 y)) :
    Calls Tryz.prog 225 #[.slice (some ⟨bk, off, none⟩) len cap, .int .i64 a, .int .i64 b] w fun e w' => e = .returned (.bool v) ∧ Drew w w' := by
  subst hv; exact overlap_any bk off len cap a b x y ha hb w hca hcb
theorem three_cells (w : World) (v1 v2 v3 : Value) (t1 t2 t3 : TypeId) :
    (((w.alloc (.cells #[v1] t1)).alloc (.cells #[v2] t2)).alloc (.cells #[v3] t3)).cell? ⟨w.heap.size, 0, none⟩ = some v1 ∧ (((w.alloc (.cells #[v1] t1)).alloc (.cells #[v2] t2)).alloc (.cells #[v3] t3)).cell? ⟨w.heap.size + 1, 0, none⟩ = some v2 ∧
    (((w.alloc (.cells #[v1] t1)).alloc (.cells #[v2] t2)).alloc (.cells #[v3] t3)).cell? ⟨w.heap.size + 1 + 1, 0, none⟩ = some v3 ∧ Below w.heap.size w (((w.alloc (.cells #[v1] t1)).alloc (.cells #[v2] t2)).alloc (.cells #[v3] t3)) := by
  obtain ⟨h1, h2, hb⟩ := two_cells w v1 v2 t1 t2
  obtain ⟨h3, hb3, hs3⟩ := cell_new ((w.alloc (.cells #[v1] t1)).alloc (.cells #[v2] t2)) v3 t3
  have hsz : ((w.alloc (.cells #[v1] t1)).alloc (.cells #[v2] t2)).heap.size = w.heap.size + 1 + 1 := by
    show ((w.heap.push _).push _).size = _; rw [Array.size_push, Array.size_push]
  rw [hsz] at h3
  exact ⟨(hb3.cell (p := ⟨w.heap.size, 0, none⟩) (by show w.heap.size < _; omega)).trans h1, (hb3.cell (p := ⟨w.heap.size + 1, 0, none⟩) (by show w.heap.size + 1 < _; omega)).trans h2, h3, below_onto hb hb3⟩
theorem greatestC_any (bk n cap p q : Nat) (b : Nat) (f : Nat → Int) (s : Int) (hn : n ≤ 7) (hb : b < n) (w : World) (hr : Row w bk 0 n f)
    (hp : w.cell? ⟨p, 0, none⟩ = some (.int .i64 s)) (hq : w.cell? ⟨q, 0, none⟩ = some (.slice (some ⟨bk, 0, none⟩) n cap)) :
    Calls Tryz.prog 237 #[.int .i64 b, .pointer (some ⟨p, 0, none⟩), .pointer (some ⟨q, 0, none⟩)] w fun e w' => e = .returned (.bool (topG f s b)) ∧ Drew w w' := by
  have hc := hr b hb
  rw [Nat.zero_add] at hc
  have hbi : (b : Int) < (n : Int) := by omega
  have hb63 : b ≤ 63 := by omega
  clear hr
  cases hg : hasB s b with
  | false =>
    have HF := Lib.hid (show topG f s b = false by unfold topG; rw [hg]; rfl)
    have HG := Lib.hid hg; clear hg
    go_enter Tryz.func237, Tryz.ntmps237
    go_wp2_with fail
    go_quiet ((go_at_call 177; exact quiet_left (has_val _ _ false _ HG.out hb63)))
    go_wp2_with fail
    go_ret
    exact ⟨retb HF.out.symm, _, rfl⟩
  | true =>
    cases hw : withinB s (f b) with
    | true =>
      have HF := Lib.hid (show topG f s b = true by unfold topG; rw [hg, hw]; rfl)
      have HG := Lib.hid hg; have HW := Lib.hid hw; clear hg hw
      go_enter Tryz.func237, Tryz.ntmps237
      go_wp2_with fail
      go_quiet (first | (go_at_call 177; exact quiet_left (has_val _ _ true _ HG.out hb63)) | (go_at_call 174; exact quiet_left (within_val _ _ true _ HW.out)))
      go_wp2_with fail
      go_ret
      exact ⟨retb HF.out.symm, _, rfl⟩
    | false =>
      have HF := Lib.hid (show topG f s b = false by unfold topG; rw [hg, hw]; rfl)
      have HG := Lib.hid hg; have HW := Lib.hid hw; clear hg hw
      go_enter Tryz.func237, Tryz.ntmps237
      go_wp2_with fail
      go_quiet (first | (go_at_call 177; exact quiet_left (has_val _ _ true _ HG.out hb63)) | (go_at_call 174; exact quiet_left (within_val _ _ false _ HW.out)))
      go_wp2_with fail
      go_ret
      exact ⟨retb HF.out.symm, _, rfl⟩
/-- of those that are asked for the one of which all are parts -/
theorem greatest_any (bk n cap : Nat) (f : Nat → Int) (asked : Value) (g : Nat → Bool) (hn : n ≤ 7) (w : World) (hr : Row w bk 0 n f) (hlt : bk < w.heap.size) (hT : TabW w)
    (hA : Hid (∀ wr : World, Below w.heap.size w wr → Calls Tryz.prog 215 #[.slice (some ⟨bk, 0, none⟩) n cap, asked] wr fun e w' => e = .returned (.int .i64 (setOf g n)) ∧ Drew wr w')) :
    Calls Tryz.prog 218 #[.slice (some ⟨bk, 0, none⟩) n cap, asked] w (TwoEnd (firstI (topI n f (setOf g n))) (topI n f (setOf g n) != 0) w) := by
  have hmf : ∀ (fn : Fn) (first cap : Array Value) (w : World), (Instr.makeFunc fn first cap).run Tryz.prog w = .ok (.func fn first cap) w := fun _ _ _ _ => rfl
  obtain ⟨S, hS⟩ : ∃ S, setOf g n = S := ⟨_, rfl⟩
  rw [hS] at hA ⊢
  clear hS
  obtain ⟨X, hX, hX7⟩ := setOf_nat (topG f S) n hn
  have HX := Lib.hid hX; clear hX
  obtain ⟨c1, b1, s1⟩ := cell_new w (.slice (some ⟨bk, 0, none⟩) n cap) 136
  have HE := Lib.hid (enters_of (P := Tryz.prog) Tryz.func237 (by kernel_rfl) rfl)
  have HR := Lib.hid hr; have HT := Lib.hid hT; have HB1 := Lib.hid b1; have HS1 := Lib.hid s1; clear hr hT b1 s1
  rw [show topI n f S = X from HX.out]
  go_enter Tryz.func218, Tryz.ntmps218
  go_wp2_with fail
  refine (hA.out _ HB1.out).mono ?_
  rintro e w2 ⟨rfl, hd2⟩
  have hb2 := hd2.below
  have hs2 : w.heap.size + 1 ≤ w2.heap.size := by have := hb2.size; rw [HS1.out] at this; exact this
  have hq2 := (hb2.cell (p := ⟨w.heap.size, 0, none⟩) (by rw [HS1.out]; show w.heap.size < w.heap.size + 1; omega)).trans c1
  have hB2 := below_onto HB1.out hb2
  obtain ⟨c3, b3, s3⟩ := cell_new w2 (.int .i64 S) 153
  have hq3 := (b3.cell (p := ⟨w.heap.size, 0, none⟩) (by show w.heap.size < w2.heap.size; omega)).trans hq2
  have HB3 := Lib.hid (below_onto hB2 b3)
  have HC3 := Lib.hid c3; have HQ3 := Lib.hid hq3; have HQ2 := Lib.hid hq2
  clear hb2 hB2 b3 c1 c3 hq2 hd2
  go_wp2_with fail
  refine (those_any _ _ _ _ _ _ (topG f S) hn _ HE.out ?_).mono ?_
  · rintro wr b hb ⟨m, rfl⟩
    exact greatestC_any bk n cap _ _ b f S hn hb _ ((HR.out.below HB3.out hlt).drewN m) (by rw [World.cell?_drewN]; exact HC3.out) (by rw [World.cell?_drewN]; exact HQ3.out)
  · rintro e w4 ⟨rfl, hd4⟩
    rw [show setOf (topG f S) n = X from HX.out]
    have HB4 := Lib.hid (below_onto HB3.out hd4.below)
    have HT4 := Lib.hid (HT.out.below HB4.out)
    clear hd4
    go_wp2_with fail
    refine (first_any X hX7 _ HT4.out).mono ?_
    rintro e w5 ⟨rfl, rfl⟩
    go_wp2_with fail
    go_ret2
    exact ⟨rfl, HB4.out⟩
theorem nothing_any (v : Value) (w : World) : Calls Tryz.prog 217 #[v] w fun e w' => e = .returned (.tuple #[.int .i64 (-1), .bool false]) ∧ w = w' := by
  go_enter Tryz.func217, Tryz.ntmps217
  go_wp2_with fail
  go_ret2
  exact ⟨rfl, rfl⟩
def SearchEnd (n : Nat) (f : Nat → Int) (G : Bool) (bk : Nat) (w : World) (e : Ending) (w' : World) : Prop :=
  Below w.heap.size w w' ∧ ((G = true ∧ e = .returned (.tuple #[.slice (some ⟨bk, 0, none⟩) n n, .func (.func 218) #[.slice (some ⟨bk, 0, none⟩) n n] #[]]) ∧ Row w' bk 0 n f)
    ∨ (G = false ∧ e = .returned (.tuple #[.slice none 0 0, .func (.func 217) #[] #[]])))
theorem searchOf_any (va vn : Value) (n bk : Nat) (f : Nat → Int) (G : Bool) (w w0 : World)
    (h : Calls Tryz.prog 212 #[va, vn] w fun e w' => Below w0.heap.size w0 w' ∧ ((G = true ∧ e = .returned (.tuple #[.slice (some ⟨bk, 0, none⟩) n n, .bool true]) ∧ Row w' bk 0 n f) ∨ (G = false ∧ e = .returned (.tuple #[.slice none 0 0, .bool false])))) :
    Calls Tryz.prog 190 #[va, vn] w (SearchEnd n f G bk w0) := by
  have hmf : ∀ (fn : Fn) (first cap : Array Value) (w : World), (Instr.makeFunc fn first cap).run Tryz.prog w = .ok (.func fn first cap) w := fun _ _ _ _ => rfl
  have H := Lib.hid h; clear h
  go_enter Tryz.func190, Tryz.ntmps190
  go_wp2_with fail
  refine H.out.mono ?_
  rintro e w' ⟨hbel, ⟨hb, rfl, hr⟩ | ⟨hb, rfl⟩⟩
  · have HB := Lib.hid hb; clear hb
    go_wp2_with fail
    go_ret2
    exact ⟨hbel, .inl ⟨HB.out, rfl, hr⟩⟩
  · have HB := Lib.hid hb; clear hb
    go_wp2_with fail
    go_ret2
    exact ⟨hbel, .inr ⟨HB.out, rfl⟩⟩
/-- worldWith without numbers -/
theorem with0 (a : Option Addr) (n cap : Nat) (f : Nat → Int) (w : World) (hi : Ints w a n f) :
    Calls Tryz.prog 212 #[.slice a n cap, .slice none 0 0] w fun e w' => Below w.heap.size w w' ∧ ((worldB n f = true ∧ e = .returned (.tuple #[.slice (some ⟨w.heap.size, 0, none⟩) n n, .bool true]) ∧ Row w' w.heap.size 0 n f) ∨ (worldB n f = false ∧ e = .returned (.tuple #[.slice none 0 0, .bool false]))) := by
  have HI := Lib.hid hi; clear hi
  go_enter Tryz.func212, Tryz.ntmps212
  go_wp2_with fail
  refine (worldOf_end a n cap f w HI.out).mono ?_
  rintro e w' ⟨hbel, ⟨hb, rfl, hs, hr⟩ | ⟨hb, rfl⟩⟩
  · have HB := Lib.hid hb; clear hb
    go_wp2_with fail
    go_loop [19] (fun i => i = .int .i64 0) (fun _ => 0)
    case atStart => rfl
    case round =>
      subst hrel
      go_wp2_with fail
      go_ret2
      exact ⟨hbel, .inl ⟨HB.out, rfl, hr⟩⟩
  · have HB := Lib.hid hb; clear hb
    go_wp2_with fail
    go_ret2
    exact ⟨hbel, .inr ⟨HB.out, rfl⟩⟩
theorem commonC_any (bk n cap p q r : Nat) (a b c : Nat) (f : Nat → Int) (hn : n ≤ 7) (ha : a < n) (hb : b < n) (hc : c < n) (w : World) (hr : Row w bk 0 n f)
    (hp : w.cell? ⟨p, 0, none⟩ = some (.slice (some ⟨bk, 0, none⟩) n cap)) (hq : w.cell? ⟨q, 0, none⟩ = some (.int .i64 a)) (hr2 : w.cell? ⟨r, 0, none⟩ = some (.int .i64 b)) :
    Calls Tryz.prog 223 #[.int .i64 c, .pointer (some ⟨p, 0, none⟩), .pointer (some ⟨q, 0, none⟩), .pointer (some ⟨r, 0, none⟩)] w fun e w' => e = .returned (.bool (hasB (f a) c && hasB (f b) c)) ∧ Drew w w' := by
  have HA := Lib.hid (hr a ha); have HB := Lib.hid (hr b hb); clear hr
  cases h1 : hasB (f a) c with
  | false =>
    have H1 := Lib.hid h1; clear h1
    go_enter Tryz.func223, Tryz.ntmps223
    go_wp2_with fail
    refine (part_val bk 0 n cap c a (f a) false ha (by omega) _ H1.out HA.out).mono ?_
    rintro e w' ⟨rfl, rfl⟩
    go_wp2_with fail
    go_ret
    exact ⟨rfl, Drew.refl _⟩
  | true =>
    have H1 := Lib.hid h1; clear h1
    go_enter Tryz.func223, Tryz.ntmps223
    go_wp2_with fail
    refine (part_val bk 0 n cap c a (f a) true ha (by omega) _ H1.out HA.out).mono ?_
    rintro e w' ⟨rfl, rfl⟩
    go_wp2_with fail
    refine (part_val bk 0 n cap c b (f b) _ hb (by omega) _ rfl HB.out).mono ?_
    rintro e w' ⟨rfl, rfl⟩
    go_wp2_with fail
    go_ret
    exact ⟨by rw [Bool.true_and]; rfl, Drew.refl _⟩
theorem leftC_any (bk n cap p q r : Nat) (a b c : Nat) (f : Nat → Int) (hn : n ≤ 7) (ha : a < n) (hb : b < n) (hc : c < n) (w : World) (hr : Row w bk 0 n f)
    (hp : w.cell? ⟨p, 0, none⟩ = some (.slice (some ⟨bk, 0, none⟩) n cap)) (hq : w.cell? ⟨q, 0, none⟩ = some (.int .i64 a)) (hr2 : w.cell? ⟨r, 0, none⟩ = some (.int .i64 b)) :
    Calls Tryz.prog 224 #[.int .i64 c, .pointer (some ⟨p, 0, none⟩), .pointer (some ⟨q, 0, none⟩), .pointer (some ⟨r, 0, none⟩)] w fun e w' => e = .returned (.bool (hasB (f a) c && !(andI (f c) (f b) != 0))) ∧ Drew w w' := by
  have hnot : ∀ (x : Bool) (w : World), (Op.unary .not (.bool x)).run Tryz.prog w = .ok (.bool (!x)) w := fun _ _ => rfl
  have HA := Lib.hid (hr a ha); have HB := Lib.hid (hr b hb); have HC := Lib.hid (hr c hc); clear hr
  cases h1 : hasB (f a) c with
  | false =>
    have H1 := Lib.hid h1; clear h1
    go_enter Tryz.func224, Tryz.ntmps224
    go_wp2_with fail
    refine (part_val bk 0 n cap c a (f a) false ha (by omega) _ H1.out HA.out).mono ?_
    rintro e w' ⟨rfl, rfl⟩
    go_wp2_with fail
    go_ret
    exact ⟨rfl, Drew.refl _⟩
  | true =>
    have H1 := Lib.hid h1; clear h1
    go_enter Tryz.func224, Tryz.ntmps224
    go_wp2_with fail
    refine (part_val bk 0 n cap c a (f a) true ha (by omega) _ H1.out HA.out).mono ?_
    rintro e w' ⟨rfl, rfl⟩
    go_wp2_with fail
    refine (overlap_val bk 0 n cap c b (f c) (f b) _ hc hb _ rfl HC.out HB.out).mono ?_
    rintro e w' ⟨rfl, hd⟩
    go_wp2_with fail
    go_ret
    exact ⟨by rw [Bool.true_and]; rfl, hd⟩
theorem wholeC_any (c : Nat) (w : World) : Calls Tryz.prog 219 #[.int .i64 c] w fun e w' => e = .returned (.bool true) ∧ Drew w w' := by
  go_enter Tryz.func219, Tryz.ntmps219
  go_wp2_with fail
  go_ret
  exact ⟨rfl, Drew.refl _⟩
theorem common_any (bk n cap : Nat) (a b : Nat) (f : Nat → Int) (hn : n ≤ 7) (ha : a < n) (hb : b < n) (w : World) (hr : Row w bk 0 n f) (hlt : bk < w.heap.size) (hT : TabW w) :
    Calls Tryz.prog 194 #[.slice (some ⟨bk, 0, none⟩) n cap, .int .i64 a, .int .i64 b, .func (.func 218) #[.slice (some ⟨bk, 0, none⟩) n cap] #[]] w (TwoEnd (firstI (topI n f (commonS n f a b))) (topI n f (commonS n f a b) != 0) w) := by
  have hmf : ∀ (fn : Fn) (first cap : Array Value) (w : World), (Instr.makeFunc fn first cap).run Tryz.prog w = .ok (.func fn first cap) w := fun _ _ _ _ => rfl
  have hEg : ∀ (args : Array Value) (w : World), Sem.run Tryz.prog (callFunc 218 args) w = .ok (.enter 218 args) w := enters_of Tryz.func218 (by kernel_rfl) rfl
  have HE := Lib.hid (enters_of (P := Tryz.prog) Tryz.func223 (by kernel_rfl) rfl)
  obtain ⟨h1, h2, h3, hbel⟩ := three_cells w (.slice (some ⟨bk, 0, none⟩) n cap) (.int .i64 a) (.int .i64 b) 136 3 3
  have HR := Lib.hid (hr.below hbel hlt); have HT := Lib.hid (hT.below hbel); have HB := Lib.hid hbel
  have HL := Lib.hid (Nat.lt_of_lt_of_le hlt hbel.size)
  have H1 := Lib.hid h1; have H2 := Lib.hid h2; have H3 := Lib.hid h3; clear h1 h2 h3
  clear hr hT hbel
  go_enter Tryz.func194, Tryz.ntmps194
  go_wp2_with fail
  refine (greatest_any bk n cap f _ (fun c => hasB (f a) c && hasB (f b) c) hn _ HR.out HL.out HT.out ?_).mono ?_
  · intro wr hwr
    refine those3_any _ _ _ _ _ _ _ (fun c => hasB (f a) c && hasB (f b) c) hn _ HE.out ?_
    rintro wr2 c hc ⟨m, rfl⟩
    have hrr := (HR.out.below hwr HL.out).drewN m
    exact commonC_any bk n cap _ _ _ a b c f hn ha hb hc _ (hrr) (by rw [World.cell?_drewN]; exact (hwr.cell (p := ⟨w.heap.size, 0, none⟩) (World.block_lt_of_cell? _ _ H1.out)).trans H1.out) (by rw [World.cell?_drewN]; exact (hwr.cell (p := ⟨w.heap.size + 1, 0, none⟩) (World.block_lt_of_cell? _ _ H2.out)).trans H2.out) (by rw [World.cell?_drewN]; exact (hwr.cell (p := ⟨w.heap.size + 1 + 1, 0, none⟩) (World.block_lt_of_cell? _ _ H3.out)).trans H3.out)
  · rintro e w2 ⟨rfl, hb2⟩
    go_wp2_with fail
    go_ret2
    exact ⟨rfl, below_onto HB.out hb2⟩
theorem common_no (x y : Int) (w : World) :
    Calls Tryz.prog 194 #[.slice none 0 0, .int .i64 x, .int .i64 y, .func (.func 217) #[] #[]] w (TwoEnd (-1) false w) := by
  have hmf : ∀ (fn : Fn) (first cap : Array Value) (w : World), (Instr.makeFunc fn first cap).run Tryz.prog w = .ok (.func fn first cap) w := fun _ _ _ _ => rfl
  have hEg : ∀ (args : Array Value) (w : World), Sem.run Tryz.prog (callFunc 217 args) w = .ok (.enter 217 args) w := enters_of Tryz.func217 (by kernel_rfl) rfl
  obtain ⟨h1, h2, h3, hbel⟩ := three_cells w (.slice none 0 0) (.int .i64 x) (.int .i64 y) 136 3 3
  have HB := Lib.hid hbel
  clear h1 h2 h3 hbel
  go_enter Tryz.func194, Tryz.ntmps194
  go_wp2_with fail
  refine (nothing_any _ _).mono ?_
  rintro e w2 ⟨rfl, rfl⟩
  go_wp2_with fail
  go_ret2
  exact ⟨rfl, HB.out⟩
theorem left_any (bk n cap : Nat) (a b : Nat) (f : Nat → Int) (hn : n ≤ 7) (ha : a < n) (hb : b < n) (w : World) (hr : Row w bk 0 n f) (hlt : bk < w.heap.size) (hT : TabW w) :
    Calls Tryz.prog 195 #[.slice (some ⟨bk, 0, none⟩) n cap, .int .i64 a, .int .i64 b, .func (.func 218) #[.slice (some ⟨bk, 0, none⟩) n cap] #[]] w (TwoEnd (firstI (topI n f (leftS n f a b))) (topI n f (leftS n f a b) != 0) w) := by
  have hmf : ∀ (fn : Fn) (first cap : Array Value) (w : World), (Instr.makeFunc fn first cap).run Tryz.prog w = .ok (.func fn first cap) w := fun _ _ _ _ => rfl
  have hEg : ∀ (args : Array Value) (w : World), Sem.run Tryz.prog (callFunc 218 args) w = .ok (.enter 218 args) w := enters_of Tryz.func218 (by kernel_rfl) rfl
  have HE := Lib.hid (enters_of (P := Tryz.prog) Tryz.func224 (by kernel_rfl) rfl)
  obtain ⟨h1, h2, h3, hbel⟩ := three_cells w (.slice (some ⟨bk, 0, none⟩) n cap) (.int .i64 a) (.int .i64 b) 136 3 3
  have HR := Lib.hid (hr.below hbel hlt); have HT := Lib.hid (hT.below hbel); have HB := Lib.hid hbel
  have HL := Lib.hid (Nat.lt_of_lt_of_le hlt hbel.size)
  have H1 := Lib.hid h1; have H2 := Lib.hid h2; have H3 := Lib.hid h3; clear h1 h2 h3
  clear hr hT hbel
  go_enter Tryz.func195, Tryz.ntmps195
  go_wp2_with fail
  refine (greatest_any bk n cap f _ (fun c => hasB (f a) c && !(andI (f c) (f b) != 0)) hn _ HR.out HL.out HT.out ?_).mono ?_
  · intro wr hwr
    refine those3_any _ _ _ _ _ _ _ (fun c => hasB (f a) c && !(andI (f c) (f b) != 0)) hn _ HE.out ?_
    rintro wr2 c hc ⟨m, rfl⟩
    have hrr := (HR.out.below hwr HL.out).drewN m
    exact leftC_any bk n cap _ _ _ a b c f hn ha hb hc _ (hrr) (by rw [World.cell?_drewN]; exact (hwr.cell (p := ⟨w.heap.size, 0, none⟩) (World.block_lt_of_cell? _ _ H1.out)).trans H1.out) (by rw [World.cell?_drewN]; exact (hwr.cell (p := ⟨w.heap.size + 1, 0, none⟩) (World.block_lt_of_cell? _ _ H2.out)).trans H2.out) (by rw [World.cell?_drewN]; exact (hwr.cell (p := ⟨w.heap.size + 1 + 1, 0, none⟩) (World.block_lt_of_cell? _ _ H3.out)).trans H3.out)
  · rintro e w2 ⟨rfl, hb2⟩
    go_wp2_with fail
    go_ret2
    exact ⟨rfl, below_onto HB.out hb2⟩
theorem left_no (x y : Int) (w : World) :
    Calls Tryz.prog 195 #[.slice none 0 0, .int .i64 x, .int .i64 y, .func (.func 217) #[] #[]] w (TwoEnd (-1) false w) := by
  have hmf : ∀ (fn : Fn) (first cap : Array Value) (w : World), (Instr.makeFunc fn first cap).run Tryz.prog w = .ok (.func fn first cap) w := fun _ _ _ _ => rfl
  have hEg : ∀ (args : Array Value) (w : World), Sem.run Tryz.prog (callFunc 217 args) w = .ok (.enter 217 args) w := enters_of Tryz.func217 (by kernel_rfl) rfl
  obtain ⟨h1, h2, h3, hbel⟩ := three_cells w (.slice none 0 0) (.int .i64 x) (.int .i64 y) 136 3 3
  have HB := Lib.hid hbel
  clear h1 h2 h3 hbel
  go_enter Tryz.func195, Tryz.ntmps195
  go_wp2_with fail
  refine (nothing_any _ _).mono ?_
  rintro e w2 ⟨rfl, rfl⟩
  go_wp2_with fail
  go_ret2
  exact ⟨rfl, HB.out⟩
theorem whole_any (bk n cap : Nat) (f : Nat → Int) (hn : n ≤ 7)  (w : World) (hr : Row w bk 0 n f) (hlt : bk < w.heap.size) (hT : TabW w) :
    Calls Tryz.prog 191 #[.slice (some ⟨bk, 0, none⟩) n cap, .func (.func 218) #[.slice (some ⟨bk, 0, none⟩) n cap] #[]] w (TwoEnd (firstI (topI n f (wholeS n))) (topI n f (wholeS n) != 0) w) := by
  have hmf : ∀ (fn : Fn) (first cap : Array Value) (w : World), (Instr.makeFunc fn first cap).run Tryz.prog w = .ok (.func fn first cap) w := fun _ _ _ _ => rfl
  have hEg : ∀ (args : Array Value) (w : World), Sem.run Tryz.prog (callFunc 218 args) w = .ok (.enter 218 args) w := enters_of Tryz.func218 (by kernel_rfl) rfl
  have HE := Lib.hid (enters_of (P := Tryz.prog) Tryz.func219 (by kernel_rfl) rfl)
  have hbel := Below.refl w.heap.size w
  have HR := Lib.hid (hr.below hbel hlt); have HT := Lib.hid (hT.below hbel); have HB := Lib.hid hbel
  have HL := Lib.hid (Nat.lt_of_lt_of_le hlt hbel.size)
  skip
  clear hr hT hbel
  go_enter Tryz.func191, Tryz.ntmps191
  go_wp2_with fail
  refine (greatest_any bk n cap f _ (fun _ => true) hn _ HR.out HL.out HT.out ?_).mono ?_
  · intro wr hwr
    refine those0_any _ _ _ _ (fun _ => true) hn _ HE.out ?_
    rintro wr2 c hc ⟨m, rfl⟩
    have hrr := (HR.out.below hwr HL.out).drewN m
    exact wholeC_any c _
  · rintro e w2 ⟨rfl, hb2⟩
    go_wp2_with fail
    go_ret2
    exact ⟨rfl, below_onto HB.out hb2⟩
theorem whole_no (w : World) :
    Calls Tryz.prog 191 #[.slice none 0 0, .func (.func 217) #[] #[]] w (TwoEnd (-1) false w) := by
  have hmf : ∀ (fn : Fn) (first cap : Array Value) (w : World), (Instr.makeFunc fn first cap).run Tryz.prog w = .ok (.func fn first cap) w := fun _ _ _ _ => rfl
  have hEg : ∀ (args : Array Value) (w : World), Sem.run Tryz.prog (callFunc 217 args) w = .ok (.enter 217 args) w := enters_of Tryz.func217 (by kernel_rfl) rfl
  have hbel := Below.refl w.heap.size w
  have HB := Lib.hid hbel
  clear  hbel
  go_enter Tryz.func191, Tryz.ntmps191
  go_wp2_with fail
  refine (nothing_any _ _).mono ?_
  rintro e w2 ⟨rfl, rfl⟩
  go_wp2_with fail
  go_ret2
  exact ⟨rfl, HB.out⟩
def commonN (n : Nat) (f : Nat → Int) (x y : Int) : Int := ansN (good2 n f x y) n f (commonS n f x.toNat y.toNat)
def commonOk (n : Nat) (f : Nat → Int) (x y : Int) : Bool := ansOk (good2 n f x y) n f (commonS n f x.toNat y.toNat)
def leftN (n : Nat) (f : Nat → Int) (x y : Int) : Int := ansN (good2 n f x y) n f (leftS n f x.toNat y.toNat)
def leftOk (n : Nat) (f : Nat → Int) (x y : Int) : Bool := ansOk (good2 n f x y) n f (leftS n f x.toNat y.toNat)
def wholeN (n : Nat) (f : Nat → Int) : Int := ansN (worldB n f) n f (wholeS n)
def wholeOk (n : Nat) (f : Nat → Int) : Bool := ansOk (worldB n f) n f (wholeS n)
theorem CommonOf_any (a : Option Addr) (n cap : Nat) (f : Nat → Int) (x y : Int) (w : World) (hi : Ints w a n f) (hT : TabW w) :
    Calls Tryz.prog 168 #[.slice a n cap, .int .i64 x, .int .i64 y] w (TwoEnd (commonN n f x y) (commonOk n f x y) w) := by
  have hmf : ∀ (fn : Fn) (first cap : Array Value) (w : World), (Instr.makeFunc fn first cap).run Tryz.prog w = .ok (.func fn first cap) w := fun _ _ _ _ => rfl
  by_cases hg : (good2 n f x y) = true
  · obtain ⟨hwb, ⟨hx0, hx1⟩, hy0, hy1⟩ := (good2_iff n f x y).1 hg
    have h7 := (worldB_7 hwb).2
    have h1n := (worldB_7 hwb).1
    obtain ⟨X, rfl⟩ := Int.eq_ofNat_of_zero_le hx0
    obtain ⟨Y, rfl⟩ := Int.eq_ofNat_of_zero_le hy0
    have hX : X < n := by omega
    have hY : Y < n := by omega
    have hf1 : commonN n f X Y = firstI (topI n f (commonS n f X Y)) := by unfold commonN ansN; rw [if_pos hg, Int.toNat_natCast, Int.toNat_natCast]
    have hf2 : commonOk n f X Y = (topI n f (commonS n f X Y) != 0) := by unfold commonOk ansOk; rw [hg, Int.toNat_natCast, Int.toNat_natCast, Bool.true_and]
    have HF1 := Lib.hid hf1; have HF2 := Lib.hid hf2; have HG := Lib.hid hg; have HT := Lib.hid hT; have HI := Lib.hid hi
    clear hf1 hf2 hg hwb hx0 hx1 hy0 hy1 hT hi
    go_enter Tryz.func168, Tryz.ntmps168
    go_wp2_with fail
    refine (searchOf_any _ _ n (w.heap.size + 1) f (good2 n f X Y) _ w (with2 a n cap f X Y w HI.out _)).mono ?_
    rintro e w' ⟨hbel, ⟨hb, rfl, hr⟩ | ⟨hb, rfl⟩⟩
    · have hlt := World.block_lt_of_cell? w' _ (hr 0 (by omega))
      have HT1 := Lib.hid (HT.out.below hbel)
      clear hb
      go_wp2_with fail
      refine (common_any _ _ _ X Y f h7 hX hY _ hr hlt HT1.out).mono ?_
      rintro e w2 ⟨rfl, hb2⟩
      go_wp2_with fail
      go_ret2
      exact ⟨by rw [HF1.out, HF2.out]; rfl, below_onto hbel hb2⟩
    · rw [HG.out] at hb; cases hb
  · have hg' : (good2 n f x y) = false := by simpa using hg
    have hf1 : commonN n f x y = -1 := by unfold commonN ansN; rw [if_neg hg]
    have hf2 : commonOk n f x y = false := by unfold commonOk ansOk; rw [hg']; rfl
    have HF1 := Lib.hid hf1; have HF2 := Lib.hid hf2; have HG := Lib.hid hg'; have HI := Lib.hid hi; clear hf1 hf2 hg hg' hT hi
    go_enter Tryz.func168, Tryz.ntmps168
    go_wp2_with fail
    refine (searchOf_any _ _ n (w.heap.size + 1) f (good2 n f x y) _ w (with2 a n cap f x y w HI.out _)).mono ?_
    rintro e w' ⟨hbel, ⟨hb, rfl, hr⟩ | ⟨hb, rfl⟩⟩
    · rw [HG.out] at hb; cases hb
    · clear hb
      go_wp2_with fail
      refine (common_no x y _).mono ?_
      rintro e w2 ⟨rfl, hb2⟩
      go_wp2_with fail
      go_ret2
      exact ⟨by rw [HF1.out, HF2.out]; rfl, below_onto hbel hb2⟩
theorem CommonOf_val (a : Option Addr) (n cap : Nat) (f : Nat → Int) (x y : Int) (i : Int) (v : Bool) (w : World) (h1 : commonN n f x y = i) (h2 : commonOk n f x y = v) (hi : Ints w a n f) (hT : TabW w) :
    Calls Tryz.prog 168 #[.slice a n cap, .int .i64 x, .int .i64 y] w (TwoEnd i v w) := by
  subst h1; subst h2; exact CommonOf_any a n cap f x y w hi hT
theorem LeftOf_any (a : Option Addr) (n cap : Nat) (f : Nat → Int) (x y : Int) (w : World) (hi : Ints w a n f) (hT : TabW w) :
    Calls Tryz.prog 169 #[.slice a n cap, .int .i64 x, .int .i64 y] w (TwoEnd (leftN n f x y) (leftOk n f x y) w) := by
  have hmf : ∀ (fn : Fn) (first cap : Array Value) (w : World), (Instr.makeFunc fn first cap).run Tryz.prog w = .ok (.func fn first cap) w := fun _ _ _ _ => rfl
  by_cases hg : (good2 n f x y) = true
  · obtain ⟨hwb, ⟨hx0, hx1⟩, hy0, hy1⟩ := (good2_iff n f x y).1 hg
    have h7 := (worldB_7 hwb).2
    have h1n := (worldB_7 hwb).1
    obtain ⟨X, rfl⟩ := Int.eq_ofNat_of_zero_le hx0
    obtain ⟨Y, rfl⟩ := Int.eq_ofNat_of_zero_le hy0
    have hX : X < n := by omega
    have hY : Y < n := by omega
    have hf1 : leftN n f X Y = firstI (topI n f (leftS n f X Y)) := by unfold leftN ansN; rw [if_pos hg, Int.toNat_natCast, Int.toNat_natCast]
    have hf2 : leftOk n f X Y = (topI n f (leftS n f X Y) != 0) := by unfold leftOk ansOk; rw [hg, Int.toNat_natCast, Int.toNat_natCast, Bool.true_and]
    have HF1 := Lib.hid hf1; have HF2 := Lib.hid hf2; have HG := Lib.hid hg; have HT := Lib.hid hT; have HI := Lib.hid hi
    clear hf1 hf2 hg hwb hx0 hx1 hy0 hy1 hT hi
    go_enter Tryz.func169, Tryz.ntmps169
    go_wp2_with fail
    refine (searchOf_any _ _ n (w.heap.size + 1) f (good2 n f X Y) _ w (with2 a n cap f X Y w HI.out _)).mono ?_
    rintro e w' ⟨hbel, ⟨hb, rfl, hr⟩ | ⟨hb, rfl⟩⟩
    · have hlt := World.block_lt_of_cell? w' _ (hr 0 (by omega))
      have HT1 := Lib.hid (HT.out.below hbel)
      clear hb
      go_wp2_with fail
      refine (left_any _ _ _ X Y f h7 hX hY _ hr hlt HT1.out).mono ?_
      rintro e w2 ⟨rfl, hb2⟩
      go_wp2_with fail
      go_ret2
      exact ⟨by rw [HF1.out, HF2.out]; rfl, below_onto hbel hb2⟩
    · rw [HG.out] at hb; cases hb
  · have hg' : (good2 n f x y) = false := by simpa using hg
    have hf1 : leftN n f x y = -1 := by unfold leftN ansN; rw [if_neg hg]
    have hf2 : leftOk n f x y = false := by unfold leftOk ansOk; rw [hg']; rfl
    have HF1 := Lib.hid hf1; have HF2 := Lib.hid hf2; have HG := Lib.hid hg'; have HI := Lib.hid hi; clear hf1 hf2 hg hg' hT hi
    go_enter Tryz.func169, Tryz.ntmps169
    go_wp2_with fail
    refine (searchOf_any _ _ n (w.heap.size + 1) f (good2 n f x y) _ w (with2 a n cap f x y w HI.out _)).mono ?_
    rintro e w' ⟨hbel, ⟨hb, rfl, hr⟩ | ⟨hb, rfl⟩⟩
    · rw [HG.out] at hb; cases hb
    · clear hb
      go_wp2_with fail
      refine (left_no x y _).mono ?_
      rintro e w2 ⟨rfl, hb2⟩
      go_wp2_with fail
      go_ret2
      exact ⟨by rw [HF1.out, HF2.out]; rfl, below_onto hbel hb2⟩
theorem LeftOf_val (a : Option Addr) (n cap : Nat) (f : Nat → Int) (x y : Int) (i : Int) (v : Bool) (w : World) (h1 : leftN n f x y = i) (h2 : leftOk n f x y = v) (hi : Ints w a n f) (hT : TabW w) :
    Calls Tryz.prog 169 #[.slice a n cap, .int .i64 x, .int .i64 y] w (TwoEnd i v w) := by
  subst h1; subst h2; exact LeftOf_any a n cap f x y w hi hT
theorem WholeOf_any (a : Option Addr) (n cap : Nat) (f : Nat → Int) (w : World) (hi : Ints w a n f) (hT : TabW w) :
    Calls Tryz.prog 166 #[.slice a n cap] w (TwoEnd (wholeN n f) (wholeOk n f) w) := by
  have hmf : ∀ (fn : Fn) (first cap : Array Value) (w : World), (Instr.makeFunc fn first cap).run Tryz.prog w = .ok (.func fn first cap) w := fun _ _ _ _ => rfl
  by_cases hg : (worldB n f) = true
  · have hwb := hg
    have h7 := (worldB_7 hwb).2
    have h1n := (worldB_7 hwb).1
    skip
    have hf1 : wholeN n f = firstI (topI n f (wholeS n)) := by unfold wholeN ansN; rw [if_pos hg]
    have hf2 : wholeOk n f = (topI n f (wholeS n) != 0) := by unfold wholeOk ansOk; rw [hg, Bool.true_and]
    have HF1 := Lib.hid hf1; have HF2 := Lib.hid hf2; have HG := Lib.hid hg; have HT := Lib.hid hT; have HI := Lib.hid hi
    clear hf1 hf2 hg hwb  hT hi
    go_enter Tryz.func166, Tryz.ntmps166
    go_wp2_with fail
    refine (searchOf_any _ _ n w.heap.size f (worldB n f) _ w (with0 a n cap f w HI.out)).mono ?_
    rintro e w' ⟨hbel, ⟨hb, rfl, hr⟩ | ⟨hb, rfl⟩⟩
    · have hlt := World.block_lt_of_cell? w' _ (hr 0 (by omega))
      have HT1 := Lib.hid (HT.out.below hbel)
      clear hb
      go_wp2_with fail
      refine (whole_any _ _ _ f h7 _ hr hlt HT1.out).mono ?_
      rintro e w2 ⟨rfl, hb2⟩
      go_wp2_with fail
      go_ret2
      exact ⟨by rw [HF1.out, HF2.out]; rfl, below_onto hbel hb2⟩
    · rw [HG.out] at hb; cases hb
  · have hg' : (worldB n f) = false := by simpa using hg
    have hf1 : wholeN n f = -1 := by unfold wholeN ansN; rw [if_neg hg]
    have hf2 : wholeOk n f = false := by unfold wholeOk ansOk; rw [hg']; rfl
    have HF1 := Lib.hid hf1; have HF2 := Lib.hid hf2; have HG := Lib.hid hg'; have HI := Lib.hid hi; clear hf1 hf2 hg hg' hT hi
    go_enter Tryz.func166, Tryz.ntmps166
    go_wp2_with fail
    refine (searchOf_any _ _ n w.heap.size f (worldB n f) _ w (with0 a n cap f w HI.out)).mono ?_
    rintro e w' ⟨hbel, ⟨hb, rfl, hr⟩ | ⟨hb, rfl⟩⟩
    · rw [HG.out] at hb; cases hb
    · clear hb
      go_wp2_with fail
      refine (whole_no _).mono ?_
      rintro e w2 ⟨rfl, hb2⟩
      go_wp2_with fail
      go_ret2
      exact ⟨by rw [HF1.out, HF2.out]; rfl, below_onto hbel hb2⟩
theorem WholeOf_val (a : Option Addr) (n cap : Nat) (f : Nat → Int) (i : Int) (v : Bool) (w : World) (h1 : wholeN n f = i) (h2 : wholeOk n f = v) (hi : Ints w a n f) (hT : TabW w) :
    Calls Tryz.prog 166 #[.slice a n cap] w (TwoEnd i v w) := by
  subst h1; subst h2; exact WholeOf_any a n cap f w hi hT
theorem top_found {n : Nat} {f : Nat → Int} {s : Int} (h7 : n ≤ 7) {k : Nat} (hk : k < n) (h0 : noneG (topG f s) k = true) (h1 : topG f s k = true) : firstI (topI n f s) = k ∧ (topI n f s != 0) = true := firstI_found h7 hk h0 h1
theorem top_none {n : Nat} {f : Nat → Int} {s : Int} (h0 : noneG (topG f s) n = true) : firstI (topI n f s) = -1 ∧ (topI n f s != 0) = false := by
  have e : topI n f s = 0 := setOf_none h0
  rw [e]; exact ⟨rfl, rfl⟩
theorem part_self_at {n : Nat} {f : Nat → Int} {w : World} {a : Option Addr} (hi : Ints w a n f) {X : Int} {v : Bool} (h : good1 n f X = v) : partB n f X X = v := by rw [partB_self n f X hi.i64]; exact h
theorem good2_split (n : Nat) (f : Nat → Int) (x y : Int) : good2 n f x y = (good1 n f x && good1 n f y) := by
  rw [Bool.eq_iff_iff, Bool.and_eq_true, good2_iff, good1_iff, good1_iff]
  exact ⟨fun ⟨h1, h2, h3⟩ => ⟨⟨h1, h2⟩, h1, h3⟩, fun ⟨⟨h1, h2⟩, _, h3⟩ => ⟨h1, h2, h3⟩⟩
set_option maxRecDepth 100000 in
theorem l5Top_any (b o n cap : Nat) (f : Nat → Int) (s : Int) (hs : 0 ≤ s) (h7 : n ≤ 7) (w : World) (h64 : ∀ i, i < n → I64 (f i)) (hr : Row w b o n f) :
    Calls Tryz.prog 123 #[.slice (some ⟨b, o, none⟩) n cap, .int .i64 s] w (TwoDrew (firstI (topI n f s)) (topI n f s != 0) w) := by
  have HR := Lib.hid hr; have H64 := Lib.hid h64; clear hr h64
  go_enter Tryz.func123, Tryz.ntmps123
  go_wp2_with fail
  go_loopw [6] (fun i wr => ∃ k : Nat, k ≤ n ∧ i = .int .i64 k ∧ Hid (noneG (topG f s) k = true) ∧ Drew w wr) (fun i _ => n - (intOf i).toNat)
  case atStart => exact ⟨0, Nat.zero_le _, rfl, Lib.hid (noneG_zero _), Drew.refl _⟩
  case round =>
    obtain ⟨k, hk, rfl, hno, hd⟩ := hrel
    by_cases hlt : k < n
    · have hki : (k : Int) < (n : Int) := by omega
      have ck := row_drew HR.out hd k hlt
      have ho := or_eq_within (f k) s (H64.out k hlt)
      cases hb : hasB s k with
      | false =>
        have HS := Lib.hid (noneG_step hno.out (show topG f s k = false by unfold topG; rw [hb]; rfl))
        have HH := Lib.hid hb; clear hb ho
        go_wp2_with fail
        go_quiet ((go_at_call 87; exact quiet_left (l1Has_val _ _ false _ HH.out (by omega) hs)))
        go_wp2_with fail
        go_roundw
        case rel => exact ⟨k + 1, by omega, by go_num, HS, hd.more _⟩
        case measure => simp [intOf]; omega
      | true =>
        cases hw : withinB s (f k) with
        | true =>
          have HF := Lib.hid (top_found h7 hlt hno.out (show topG f s k = true by unfold topG; rw [hb, hw]; rfl))
          have HH := Lib.hid hb; rw [hw] at ho; clear hb hw
          go_wp2_with fail
          go_quiet ((go_at_call 87; exact quiet_left (l1Has_val _ _ true _ HH.out (by omega) hs)))
          go_wp2_with fail
          go_ret2
          exact ⟨by rw [HF.out.1, HF.out.2]; rfl, hd.more _⟩
        | false =>
          have HS := Lib.hid (noneG_step hno.out (show topG f s k = false by unfold topG; rw [hw]; simp))
          have HH := Lib.hid hb; rw [hw] at ho; clear hb hw
          go_wp2_with fail
          go_quiet ((go_at_call 87; exact quiet_left (l1Has_val _ _ true _ HH.out (by omega) hs)))
          go_wp2_with fail
          clear ho
          go_roundw
          case rel => exact ⟨k + 1, by omega, by go_num, HS, hd.more _⟩
          case measure => simp [intOf]; omega
    · have hkn : k = n := by omega
      subst hkn
      have HF := Lib.hid (top_none hno.out)
      go_wp2_with fail
      go_ret2
      exact ⟨by rw [HF.out.1, HF.out.2]; rfl, hd⟩
set_option maxRecDepth 100000 in
theorem specCommonOf_in (b o n cap : Nat) (f : Nat → Int) (X Y : Nat) (hw : worldB n f = true) (hX : X < n) (hY : Y < n) (w : World) (hi : Ints w (some ⟨b, o, none⟩) n f) (hr : Row w b o n f) :
    Calls Tryz.prog 81 #[.slice (some ⟨b, o, none⟩) n cap, .int .i64 X, .int .i64 Y] w (TwoDrew (commonN n f X Y) (commonOk n f X Y) w) := by
  have h7 := (worldB_7 hw).2
  have hP := world_of hi hw
  have hg : good2 n f X Y = true := (good2_iff n f X Y).2 ⟨hw, ⟨by omega, by omega⟩, by omega, by omega⟩
  have HPX := Lib.hid (part_self_at hi (X := X) ((good1_iff n f X).2 ⟨hw, by omega, by omega⟩))
  have HPY := Lib.hid (part_self_at hi (X := Y) ((good1_iff n f Y).2 ⟨hw, by omega, by omega⟩))
  have HF1 := Lib.hid (show commonN n f X Y = firstI (topI n f (commonS n f X Y)) by unfold commonN ansN; rw [if_pos hg, Int.toNat_natCast, Int.toNat_natCast])
  have HF2 := Lib.hid (show commonOk n f X Y = (topI n f (commonS n f X Y) != 0) by unfold commonOk ansOk; rw [hg, Int.toNat_natCast, Int.toNat_natCast, Bool.true_and])
  have hs0 : 0 ≤ commonS n f X Y := (setOf_rng _ n (by omega)).1
  have HP := Lib.hid hP; have HN := Lib.hid hi; have HR := Lib.hid hr; have H64 := Lib.hid hi.i64; clear hw hP hg hi hr
  rw [HF1.out, HF2.out]
  have hand := common_and (b := Y) HP.out hX
  rw [hand] at hs0 ⊢
  clear hand
  go_enter Tryz.func81, Tryz.ntmps81
  go_wp2_with fail
  refine (specPartOk_val _ _ _ f X X true _ HPX.out HN.out).mono ?_
  rintro e w1 ⟨rfl, hd⟩
  go_wp2_with fail
  refine (specPartOk_val _ _ _ f Y Y true _ HPY.out (HN.out.drew hd)).mono ?_
  rintro e w2 ⟨rfl, hd2⟩
  replace hd := hd.onto hd2
  clear hd2
  have hXi : (X : Int) < (n : Int) := by omega
  have hYi : (Y : Int) < (n : Int) := by omega
  have hrr := row_drew HR.out hd
  have cX := hrr X hX
  have cY := hrr Y hY
  have HRR := Lib.hid hrr
  clear hrr
  go_wp2_with fail
  go_quiet ((go_at_call 123; exact quiet_drew (l5Top_any b o n _ f _ hs0 h7 _ H64.out (HRR.out.drewN _))))
  go_wp2_with fail
  go_ret2
  exact ⟨rfl, hd.more _⟩
theorem specCommonOf_any (a : Option Addr) (n cap : Nat) (f : Nat → Int) (x y : Int) (w : World) (hi : Ints w a n f) :
    Calls Tryz.prog 81 #[.slice a n cap, .int .i64 x, .int .i64 y] w (TwoDrew (commonN n f x y) (commonOk n f x y) w) := by
  by_cases hg : good2 n f x y = true
  · obtain ⟨hwb, ⟨hx0, hx1⟩, hy0, hy1⟩ := (good2_iff n f x y).1 hg
    obtain ⟨X, rfl⟩ := Int.eq_ofNat_of_zero_le hx0
    obtain ⟨Y, rfl⟩ := Int.eq_ofNat_of_zero_le hy0
    obtain ⟨b, o, rfl, hlt, hr⟩ := hi.row (worldB_7 hwb).1
    exact specCommonOf_in b o n cap f X Y hwb (by omega) (by omega) w hi hr
  · have hg' : good2 n f x y = false := by simpa using hg
    have HF1 := Lib.hid (show commonN n f x y = -1 by unfold commonN ansN; rw [if_neg hg])
    have HF2 := Lib.hid (show commonOk n f x y = false by unfold commonOk ansOk; rw [hg']; rfl)
    have hsp := hg'
    rw [good2_split] at hsp
    cases h1 : good1 n f x with
    | false =>
      have HPX := Lib.hid (part_self_at hi h1)
      have HN := Lib.hid hi; clear hi hg hg' hsp h1
      go_enter Tryz.func81, Tryz.ntmps81
      go_wp2_with fail
      refine (specPartOk_val _ _ _ f x x false _ HPX.out HN.out).mono ?_
      rintro e w1 ⟨rfl, hd⟩
      go_wp2_with fail
      go_ret2
      exact ⟨by rw [HF1.out, HF2.out]; rfl, hd⟩
    | true =>
      rw [h1, Bool.true_and] at hsp
      have HPX := Lib.hid (part_self_at hi h1)
      have HPY := Lib.hid (part_self_at hi hsp)
      have HN := Lib.hid hi; clear hi hg hg' hsp h1
      go_enter Tryz.func81, Tryz.ntmps81
      go_wp2_with fail
      refine (specPartOk_val _ _ _ f x x true _ HPX.out HN.out).mono ?_
      rintro e w1 ⟨rfl, hd⟩
      go_wp2_with fail
      refine (specPartOk_val _ _ _ f y y false _ HPY.out (HN.out.drew hd)).mono ?_
      rintro e w2 ⟨rfl, hd2⟩
      replace hd := hd.onto hd2
      clear hd2
      go_wp2_with fail
      go_ret2
      exact ⟨by rw [HF1.out, HF2.out]; rfl, hd⟩
theorem specCommonOf_val (a : Option Addr) (n cap : Nat) (f : Nat → Int) (x y : Int) (i : Int) (v : Bool) (w : World) (h1 : commonN n f x y = i) (h2 : commonOk n f x y = v) (hi : Ints w a n f) :
    Calls Tryz.prog 81 #[.slice a n cap, .int .i64 x, .int .i64 y] w (TwoDrew i v w) := by
  subst h1; subst h2; exact specCommonOf_any a n cap f x y w hi
set_option maxRecDepth 100000 in
theorem specLeftOf_in (b o n cap : Nat) (f : Nat → Int) (X Y : Nat) (hw : worldB n f = true) (hX : X < n) (hY : Y < n) (w : World) (hi : Ints w (some ⟨b, o, none⟩) n f) (hr : Row w b o n f) :
    Calls Tryz.prog 82 #[.slice (some ⟨b, o, none⟩) n cap, .int .i64 X, .int .i64 Y] w (TwoDrew (leftN n f X Y) (leftOk n f X Y) w) := by
  have h7 := (worldB_7 hw).2
  have hP := world_of hi hw
  have hg : good2 n f X Y = true := (good2_iff n f X Y).2 ⟨hw, ⟨by omega, by omega⟩, by omega, by omega⟩
  have HPX := Lib.hid (part_self_at hi (X := X) ((good1_iff n f X).2 ⟨hw, by omega, by omega⟩))
  have HPY := Lib.hid (part_self_at hi (X := Y) ((good1_iff n f Y).2 ⟨hw, by omega, by omega⟩))
  have HF1 := Lib.hid (show leftN n f X Y = firstI (topI n f (leftS n f X Y)) by unfold leftN ansN; rw [if_pos hg, Int.toNat_natCast, Int.toNat_natCast])
  have HF2 := Lib.hid (show leftOk n f X Y = (topI n f (leftS n f X Y) != 0) by unfold leftOk ansOk; rw [hg, Int.toNat_natCast, Int.toNat_natCast, Bool.true_and])
  have hs0 : 0 ≤ leftS n f X Y := (setOf_rng _ n (by omega)).1
  have HP := Lib.hid hP; have HN := Lib.hid hi; have HR := Lib.hid hr; have H64 := Lib.hid hi.i64; clear hw hP hg hi hr
  rw [HF1.out, HF2.out]
  go_enter Tryz.func82, Tryz.ntmps82
  go_wp2_with fail
  refine (specPartOk_val _ _ _ f X X true _ HPX.out HN.out).mono ?_
  rintro e w1 ⟨rfl, hd⟩
  go_wp2_with fail
  refine (specPartOk_val _ _ _ f Y Y true _ HPY.out (HN.out.drew hd)).mono ?_
  rintro e w2 ⟨rfl, hd2⟩
  replace hd := hd.onto hd2
  clear hd2
  have hXi : (X : Int) < (n : Int) := by omega
  have hYi : (Y : Int) < (n : Int) := by omega
  go_wp2_with fail
  go_loopw [8, 9] (fun v i wr => ∃ k : Nat, k ≤ n ∧ i = .int .i64 k ∧ v = .int .i64 (setOf (fun c => hasB (f X) c && !(andI (f c) (f Y) != 0)) k) ∧ Drew w wr) (fun _ i _ => n - (intOf i).toNat)
  case atStart => exact ⟨0, Nat.zero_le _, rfl, rfl, hd⟩
  case round =>
    clear hd
    obtain ⟨k, hk, rfl, rfl, hd⟩ := hrel
    by_cases hlt : k < n
    · have hki : (k : Int) < (n : Int) := by omega
      have ⟨hp1, hp2⟩ := pow_bounds k (by omega)
      have hrr := row_drew HR.out hd
      have cX := hrr X hX
      have cY := hrr Y hY
      have ck := hrr k hlt
      have hnn := (HP.out.rng X hX).1
      clear hrr
      cases hh : hasB (f X) k with
      | false =>
        have HS := Lib.hid (setOf_no (fun c => hasB (f X) c && !(andI (f c) (f Y) != 0)) k (by simp only [hh]; rfl))
        have HH := Lib.hid hh; clear hh
        go_wp2_with fail
        go_quiet ((go_at_call 87; exact quiet_left (l1Has_val _ _ false _ HH.out (by omega) hnn)))
        go_wp2_with fail
        go_roundw
        case rel => exact ⟨k + 1, by omega, by go_num, by rw [HS.out], hd.more _⟩
        case measure => simp [intOf]; omega
      | true =>
        cases hz : (andI (f k) (f Y) != 0) with
        | false =>
          have HS := Lib.hid (setOf_yes (fun c => hasB (f X) c && !(andI (f c) (f Y) != 0)) k (by simp only [hh, hz]; rfl))
          have hz2 : (bits .and .i64 (f k) (f Y) == 0) = true := (show (andI (f k) (f Y) == 0) = true by rw [bne] at hz; simpa using hz)
          have HH := Lib.hid hh; clear hh hz
          go_wp2_with fail
          go_quiet ((go_at_call 87; exact quiet_left (l1Has_val _ _ true _ HH.out (by omega) hnn)))
          go_wp2_with fail
          clear hz2
          go_roundw
          case rel => exact ⟨k + 1, by omega, by go_num, by rw [HS.out], hd.more _⟩
          case measure => simp [intOf]; omega
        | true =>
          have HS := Lib.hid (setOf_no (fun c => hasB (f X) c && !(andI (f c) (f Y) != 0)) k (by simp only [hh, hz]; rfl))
          have hz2 : (bits .and .i64 (f k) (f Y) == 0) = false := (show (andI (f k) (f Y) == 0) = false by rw [bne] at hz; simpa using hz)
          have HH := Lib.hid hh; clear hh hz
          go_wp2_with fail
          go_quiet ((go_at_call 87; exact quiet_left (l1Has_val _ _ true _ HH.out (by omega) hnn)))
          go_wp2_with fail
          clear hz2
          go_roundw
          case rel => exact ⟨k + 1, by omega, by go_num, by rw [HS.out], hd.more _⟩
          case measure => simp [intOf]; omega
    · have hkn : k = n := by omega
      subst hkn
      go_wp2_with fail
      refine (l5Top_any b o k _ f _ hs0 h7 _ H64.out (row_drew HR.out hd)).mono ?_
      rintro e w3 ⟨rfl, hd3⟩
      replace hd := hd.onto hd3
      clear hd3
      go_wp2_with fail
      go_ret2
      exact ⟨rfl, hd⟩
theorem specLeftOf_any (a : Option Addr) (n cap : Nat) (f : Nat → Int) (x y : Int) (w : World) (hi : Ints w a n f) :
    Calls Tryz.prog 82 #[.slice a n cap, .int .i64 x, .int .i64 y] w (TwoDrew (leftN n f x y) (leftOk n f x y) w) := by
  by_cases hg : good2 n f x y = true
  · obtain ⟨hwb, ⟨hx0, hx1⟩, hy0, hy1⟩ := (good2_iff n f x y).1 hg
    obtain ⟨X, rfl⟩ := Int.eq_ofNat_of_zero_le hx0
    obtain ⟨Y, rfl⟩ := Int.eq_ofNat_of_zero_le hy0
    obtain ⟨b, o, rfl, hlt, hr⟩ := hi.row (worldB_7 hwb).1
    exact specLeftOf_in b o n cap f X Y hwb (by omega) (by omega) w hi hr
  · have hg' : good2 n f x y = false := by simpa using hg
    have HF1 := Lib.hid (show leftN n f x y = -1 by unfold leftN ansN; rw [if_neg hg])
    have HF2 := Lib.hid (show leftOk n f x y = false by unfold leftOk ansOk; rw [hg']; rfl)
    have hsp := hg'
    rw [good2_split] at hsp
    cases h1 : good1 n f x with
    | false =>
      have HPX := Lib.hid (part_self_at hi h1)
      have HN := Lib.hid hi; clear hi hg hg' hsp h1
      go_enter Tryz.func82, Tryz.ntmps82
      go_wp2_with fail
      refine (specPartOk_val _ _ _ f x x false _ HPX.out HN.out).mono ?_
      rintro e w1 ⟨rfl, hd⟩
      go_wp2_with fail
      go_ret2
      exact ⟨by rw [HF1.out, HF2.out]; rfl, hd⟩
    | true =>
      rw [h1, Bool.true_and] at hsp
      have HPX := Lib.hid (part_self_at hi h1)
      have HPY := Lib.hid (part_self_at hi hsp)
      have HN := Lib.hid hi; clear hi hg hg' hsp h1
      go_enter Tryz.func82, Tryz.ntmps82
      go_wp2_with fail
      refine (specPartOk_val _ _ _ f x x true _ HPX.out HN.out).mono ?_
      rintro e w1 ⟨rfl, hd⟩
      go_wp2_with fail
      refine (specPartOk_val _ _ _ f y y false _ HPY.out (HN.out.drew hd)).mono ?_
      rintro e w2 ⟨rfl, hd2⟩
      replace hd := hd.onto hd2
      clear hd2
      go_wp2_with fail
      go_ret2
      exact ⟨by rw [HF1.out, HF2.out]; rfl, hd⟩
theorem specLeftOf_val (a : Option Addr) (n cap : Nat) (f : Nat → Int) (x y : Int) (i : Int) (v : Bool) (w : World) (h1 : leftN n f x y = i) (h2 : leftOk n f x y = v) (hi : Ints w a n f) :
    Calls Tryz.prog 82 #[.slice a n cap, .int .i64 x, .int .i64 y] w (TwoDrew i v w) := by
  subst h1; subst h2; exact specLeftOf_any a n cap f x y w hi
set_option maxRecDepth 100000 in
theorem specWholeOf_any (a : Option Addr) (n cap : Nat) (f : Nat → Int) (w : World) (hi : Ints w a n f) :
    Calls Tryz.prog 77 #[.slice a n cap] w (TwoDrew (wholeN n f) (wholeOk n f) w) := by
  cases hg : worldB n f with
  | true =>
    obtain ⟨h1, h7⟩ := worldB_7 hg
    obtain ⟨b, o, rfl, hlt, hr⟩ := hi.row h1
    have hlow := whole_low n h7
    have HF1 := Lib.hid (show wholeN n f = firstI (topI n f (2 ^ n - 1)) by unfold wholeN ansN; rw [if_pos hg, hlow])
    have HF2 := Lib.hid (show wholeOk n f = (topI n f (2 ^ n - 1) != 0) by unfold wholeOk ansOk; rw [hg, hlow, Bool.true_and])
    have ⟨hp1, hp2⟩ := pow_bounds n h7
    have hs0 : (0 : Int) ≤ 2 ^ n - 1 := by omega
    have HW := Lib.hid hg; have HN := Lib.hid hi; have HR := Lib.hid hr; have H64 := Lib.hid hi.i64
    clear hg hi hr hlow
    rw [HF1.out, HF2.out]
    go_enter Tryz.func77, Tryz.ntmps77
    go_wp2_with fail
    refine (specWorldOk_val _ _ _ f true _ HW.out HN.out).mono ?_
    rintro e w1 ⟨rfl, hd⟩
    go_wp2_with fail
    refine (l5Top_any b o n _ f _ hs0 h7 _ H64.out (row_drew HR.out hd)).mono ?_
    rintro e w2 ⟨rfl, hd2⟩
    replace hd := hd.onto hd2
    clear hd2
    go_wp2_with fail
    go_ret2
    exact ⟨rfl, hd⟩
  | false =>
    have HF1 := Lib.hid (show wholeN n f = -1 by unfold wholeN ansN; rw [if_neg (by rw [hg]; decide)])
    have HF2 := Lib.hid (show wholeOk n f = false by unfold wholeOk ansOk; rw [hg]; rfl)
    have HW := Lib.hid hg; have HN := Lib.hid hi; clear hi hg
    go_enter Tryz.func77, Tryz.ntmps77
    go_wp2_with fail
    refine (specWorldOk_val _ _ _ f false _ HW.out HN.out).mono ?_
    rintro e w1 ⟨rfl, hd⟩
    go_wp2_with fail
    go_ret2
    exact ⟨by rw [HF1.out, HF2.out]; rfl, hd⟩
theorem specWholeOf_val (a : Option Addr) (n cap : Nat) (f : Nat → Int) (i : Int) (v : Bool) (w : World) (h1 : wholeN n f = i) (h2 : wholeOk n f = v) (hi : Ints w a n f) :
    Calls Tryz.prog 77 #[.slice a n cap] w (TwoDrew i v w) := by
  subst h1; subst h2; exact specWholeOf_any a n cap f w hi
end Go.Proofs.YthaickihoagnmaaGreatDoor
namespace Go.Proofs.YthaickihoagnmaaGreatDoor
open Go.RowKit Go.Maps
def wdF (xs : List Int) : Nat → Int := wfF xs.length (fun i => xs.getD i 0)
theorem wd_P {xs : List Int} (h : famL xs = true) : WorldP xs.length (wdF xs) := wf_P (famL_P h)
theorem wd_world {xs : List Int} (h : famL xs = true) : worldB xs.length (wdF xs) = true := wf_world (famL_P h)
def pA (xs : List Int) (l : List UInt8) : Int := plI xs (rdI (cut1 (cut2 l)))
def pB (xs : List Int) (l : List UInt8) : Int := plI xs (rdI (cut2 (cut2 l)))
def twoS (p q : Int) : Int := bits .or .i64 (2 ^ p.toNat) (2 ^ q.toNat)
def allA (xs : List Int) : List UInt8 := setsW xs (2 ^ xs.length - 1)
def companyA (xs : List Int) : List UInt8 := ynW (companyB xs.length (wdF xs))
def weakA (xs : List Int) : List UInt8 := ynW (weakB xs.length (wdF xs))
def strongA (xs : List Int) : List UInt8 := ynW (strongB xs.length (wdF xs))
def summedA (xs : List Int) : List UInt8 := ynW (summedB xs.length (wdF xs))
def classicalA (xs : List Int) : List UInt8 := ynW (classB xs.length (wdF xs))
def atomsA (xs : List Int) : List UInt8 := setsW xs (atomsB xs.length (wdF xs))
def wholeA (xs : List Int) : List UInt8 := oneW xs (wholeN xs.length (wdF xs)) (wholeOk xs.length (wdF xs))
def sumA (xs : List Int) (p q : Int) : List UInt8 := setsW xs (sumsB xs.length (wdF xs) (twoS p q))
def commonA (xs : List Int) (p q : Int) : List UInt8 := oneW xs (commonN xs.length (wdF xs) p q) (commonOk xs.length (wdF xs) p q)
def leftA (xs : List Int) (p q : Int) : List UInt8 := oneW xs (leftN xs.length (wdF xs) p q) (leftOk xs.length (wdF xs) p q)
def twoW (xs : List Int) (wd : List UInt8) (p q : Int) : List UInt8 :=
  if wd = sumW then sumA xs p q else if wd = commonW then commonA xs p q else if wd = leftW then leftA xs p q else whatW
def ansW (xs : List Int) (l : List UInt8) : List UInt8 :=
  if l = allW then allA xs else if l = companyW then companyA xs else if l = weakW then weakA xs else if l = strongW then strongA xs
  else if l = summedW then summedA xs else if l = classicalW then classicalA xs else if l = atomsW then atomsA xs else if l = wholeW then wholeA xs
  else if pA xs l < 0 ∨ pB xs l < 0 then whatW else twoW xs (cut1 l) (pA xs l) (pB xs l)
def isQ (l : List UInt8) : Prop := l = allW ∨ l = companyW ∨ l = weakW ∨ l = strongW ∨ l = summedW ∨ l = classicalW ∨ l = atomsW ∨ l = wholeW
theorem ans_two {xs : List Int} {l : List UInt8} (h : ¬ isQ l) : ansW xs l = if pA xs l < 0 ∨ pB xs l < 0 then whatW else twoW xs (cut1 l) (pA xs l) (pB xs l) := by
  unfold isQ at h
  simp only [not_or] at h
  obtain ⟨h1, h2, h3, h4, h5, h6, h7, h8⟩ := h
  unfold ansW
  rw [if_neg h1, if_neg h2, if_neg h3, if_neg h4, if_neg h5, if_neg h6, if_neg h7, if_neg h8]
theorem whole_at {xs : List Int} (h : famL xs = true) (ho : wholeOk xs.length (wdF xs) = true) : ∃ C : Nat, C < xs.length ∧ wholeN xs.length (wdF xs) = C := by
  unfold wholeOk at ho
  obtain ⟨_, C, hC, e, _⟩ := ans_on (fun _ => wd_P h) ho
  exact ⟨C, hC, e⟩
theorem common_at {xs : List Int} (h : famL xs = true) {p q : Int} (ho : commonOk xs.length (wdF xs) p q = true) : ∃ C : Nat, C < xs.length ∧ commonN xs.length (wdF xs) p q = C := by
  unfold commonOk at ho
  obtain ⟨_, C, hC, e, _⟩ := ans_on (fun _ => wd_P h) ho
  exact ⟨C, hC, e⟩
theorem left_at {xs : List Int} (h : famL xs = true) {p q : Int} (ho : leftOk xs.length (wdF xs) p q = true) : ∃ C : Nat, C < xs.length ∧ leftN xs.length (wdF xs) p q = C := by
  unfold leftOk at ho
  obtain ⟨_, C, hC, e, _⟩ := ans_on (fun _ => wd_P h) ho
  exact ⟨C, hC, e⟩
theorem join_len (ls : List (List UInt8)) (h : ∀ l ∈ ls, l.length ≤ 4) : (joinL ls).length ≤ ls.length * 5 := by
  induction ls with
  | nil => exact Nat.le_refl _
  | cons x ls ih =>
    have hx := h x List.mem_cons_self
    cases ls with
    | nil => show x.length ≤ _; simp; omega
    | cons y ls =>
      have := ih (fun l hl => h l (List.mem_cons_of_mem _ hl))
      show (x ++ 44 :: joinL (y :: ls)).length ≤ _
      rw [List.length_append, List.length_cons, List.length_cons]
      omega
end Go.Proofs.YthaickihoagnmaaGreatDoor
namespace Go.Proofs.YthaickihoagnmaaGreatDoor
open Go.RowKit Go.Shelf Go.Maps
attribute [local go_sem] Oper.semAt_some
attribute [local go_sem] Oper.semAt_some
attribute [local go_sem] Oper.semAt_some
end Go.Proofs.YthaickihoagnmaaGreatDoor
namespace Go.Proofs.YthaickihoagnmaaGreatDoor
open Go.Shelf
def sjRen : Go.Shelf.Ren := ⟨fun | 156 => 184 | 165 => 205 | 166 => 59 | 169 => 61 | 240 => 118 | 241 => 229 | 276 => 147 | 277 => 242 | n => n, fun | 0 => 0 | 3 => 3 | 4 => 4 | 5 => 5 | 9 => 9 | 20 => 20 | 31 => 48 | 37 => 22 | 70 => 84 | 72 => 86 | 75 => 88 | 76 => 89 | 80 => 92 | 127 => 134 | 164 => 151 | n => n, fun n => n⟩
theorem sj156 : Go.Proofs.Lays.n156 Tryz.prog sjRen := {
  mixed := by kernel_rfl
  f156 := Tryz.func184.trans (congrArg some (by kernel_rfl))
  f165 := Tryz.func205.trans (congrArg some (by kernel_rfl))
  f166 := Tryz.func59.trans (congrArg some (by kernel_rfl))
  f169 := Tryz.func61.trans (congrArg some (by kernel_rfl))
  f240 := Tryz.func118.trans (congrArg some (by kernel_rfl))
  f241 := Tryz.func229.trans (congrArg some (by kernel_rfl))
  f276 := Tryz.func147.trans (congrArg some (by kernel_rfl))
  f277 := Tryz.func242.trans (congrArg some (by kernel_rfl))
  t0 := Tryz.underlying0
  a0 := Tryz.isAgg0
  z0 := Tryz.sizeOf0
  v0 := Tryz.zeroValue0
  t3 := Tryz.underlying3
  a3 := Tryz.isAgg3
  z3 := Tryz.sizeOf3
  v3 := Tryz.zeroValue3
  t4 := Tryz.underlying4
  a4 := Tryz.isAgg4
  z4 := Tryz.sizeOf4
  v4 := Tryz.zeroValue4
  t9 := Tryz.underlying9
  a9 := Tryz.isAgg9
  z9 := Tryz.sizeOf9
  v9 := Tryz.zeroValue9
  t20 := Tryz.underlying20
  a20 := Tryz.isAgg20
  z20 := Tryz.sizeOf20
  v20 := Tryz.zeroValue20
  t31 := Tryz.underlying48
  a31 := Tryz.isAgg48
  z31 := Tryz.sizeOf48
  v31 := Tryz.zeroValue48
  t37 := Tryz.underlying22
  a37 := Tryz.isAgg22
  z37 := Tryz.sizeOf22
  v37 := Tryz.zeroValue22
  t70 := Tryz.underlying84
  a70 := Tryz.isAgg84
  z70 := Tryz.sizeOf84
  v70 := Tryz.zeroValue84
  t72 := Tryz.underlying86
  a72 := Tryz.isAgg86
  z72 := Tryz.sizeOf86
  v72 := Tryz.zeroValue86
  t75 := Tryz.underlying88
  a75 := Tryz.isAgg88
  z75 := Tryz.sizeOf88
  v75 := Tryz.zeroValue88
  t76 := Tryz.underlying89
  a76 := Tryz.isAgg89
  z76 := Tryz.sizeOf89
  v76 := Tryz.zeroValue89
  t127 := Tryz.underlying134
  a127 := Tryz.isAgg134
  z127 := Tryz.sizeOf134
  v127 := Tryz.zeroValue134
  t164 := Tryz.underlying151
  a164 := Tryz.isAgg151
  z164 := Tryz.sizeOf151
  v164 := Tryz.zeroValue151 }
theorem sjExtra : Builder.Extra Tryz.prog sjRen := {
  sizeBuilder := by kernel_rfl
  liesBuilder := by kernel_rfl
  t5 := Tryz.underlying5
  a5 := Tryz.isAgg5
  z5 := Tryz.sizeOf5
  v5 := Tryz.zeroValue5
  infoByte := by kernel_rfl
  cellsByte := by kernel_rfl
  sizeByte := by kernel_rfl
  neB5 := by decide }
open Go.RowKit
theorem join_L (ls : List (List UInt8)) : Lib.join ls [44] = joinL ls := by
  cases ls with
  | nil => rfl
  | cons x r =>
    rw [Lib.join_cons]
    induction r generalizing x with
    | nil => simp [Lib.joinTail, joinL]
    | cons y r ih =>
      show _ = x ++ 44 :: joinL (y :: r)
      rw [← ih]
      simp [Lib.joinTail]
theorem OwnS.kept {w w' : World} {B : Nat} {v : Value} {ts : List ByteArray} (h : OwnS w B v ts) (hb : Below w.heap.size w w') : OwnS w' B v ts :=
  ownsRow_kept h (fun g hg => hb.block g (World.ownsRow.lt h g hg).2)
theorem Join_any (v : Value) (B : Nat) (ls : List (List UInt8)) (w : World) (h : OwnS w B v (ls.map bs)) (hl : (joinL ls).length ≤ 140737488355328) (hN : ls.length ≤ 140737488355328) :
    Calls Tryz.prog 184 #[v, .string { data := #[44] }] w fun e w' => e = .returned (.string (bs (joinL ls))) ∧ Below w.heap.size w w' := by
  have hmm : (ls.map bs).map (·.data.toList) = ls := by
    rw [List.map_map]
    conv => rhs; rw [← List.map_id ls]
    exact List.map_congr_left (fun l _ => bs_data l)
  rw [← join_L] at hl ⊢
  have h' := h
  obtain ⟨h3, h4⟩ := h
  rw [Nat.mul_one] at h3
  rcases h4 with ⟨rfl, h4⟩ | ⟨g, cap, cur, rfl, hB, hg, hc, hm, hs, ht⟩
  · have hx : ls = [] := by
      rw [List.length_map, List.length_map] at h3
      rw [List.length_map] at h4
      exact List.eq_nil_of_length_eq_zero (by omega)
    subst hx
    exact (Any.strings_Join_none sj156 sjExtra none 0 _ w).mono fun e w' ⟨he, hw⟩ => ⟨he, hw ▸ Below.refl _ _⟩
  · have key := Any.strings_Join sj156 sjExtra g 0 cap (ls.map bs) { data := #[44] } w (fun j x hx => ?_) (World.ownsRow.lt h' g rfl).2 (by rw [List.length_map]; exact hN) (by rw [List.length_map] at hc ⊢; omega) (by rw [hmm]; exact hl)
    · rw [hmm] at key
      exact key
    · have hj : j < (ls.map bs).length := (List.getElem?_eq_some_iff.1 hx).1
      have := World.ownsRow.cellAt h' j (by omega)
      rw [Nat.zero_add, this, List.getElem?_map, hx]
      rfl
end Go.Proofs.YthaickihoagnmaaGreatDoor
namespace Go.Proofs.YthaickihoagnmaaGreatDoor
open Go.RowKit Go.Maps
theorem StrongOk_at (a : Option Addr) (n cap : Nat) (f : Nat → Int) (v : Bool) (w : World) (hv : strongB n f = v) (hi : Ints w a n f) :
    Calls Tryz.prog 161 #[.slice a n cap] w fun e w' => e = .returned (.bool v) ∧ Below w.heap.size w w' := by subst hv; exact StrongOk_any a n cap f w hi
theorem specStrongOk_at (a : Option Addr) (n cap : Nat) (f : Nat → Int) (v : Bool) (w : World) (hv : strongB n f = v) (hi : Ints w a n f) :
    Calls Tryz.prog 73 #[.slice a n cap] w fun e w' => e = .returned (.bool v) ∧ Drew w w' := by subst hv; exact specStrongOk_any a n cap f w hi
theorem SummedOk_at (a : Option Addr) (n cap : Nat) (f : Nat → Int) (v : Bool) (w : World) (hv : summedB n f = v) (hi : Ints w a n f) :
    Calls Tryz.prog 162 #[.slice a n cap] w fun e w' => e = .returned (.bool v) ∧ Below w.heap.size w w' := by subst hv; exact SummedOk_any a n cap f w hi
theorem specSummedOk_at (a : Option Addr) (n cap : Nat) (f : Nat → Int) (v : Bool) (w : World) (hv : summedB n f = v) (hi : Ints w a n f) :
    Calls Tryz.prog 74 #[.slice a n cap] w fun e w' => e = .returned (.bool v) ∧ Drew w w' := by subst hv; exact specSummedOk_any a n cap f w hi
set_option maxRecDepth 100000 in
theorem ClassicalOk_any (a : Option Addr) (n cap : Nat) (f : Nat → Int) (w : World) (hi : Ints w a n f) :
    Calls Tryz.prog 163 #[.slice a n cap] w fun e w' => e = .returned (.bool (classB n f)) ∧ Below w.heap.size w w' := by
  have HI := Lib.hid hi; clear hi
  cases hs : strongB n f with
  | true =>
    have HF := Lib.hid (show classB n f = summedB n f by unfold classB; rw [hs]; rfl)
    cases hm : summedB n f with
    | true =>
      have HS := Lib.hid hs; have HM := Lib.hid hm; clear hs hm
      go_enter Tryz.func163, Tryz.ntmps163
      go_wp2_with fail
      refine (StrongOk_at _ _ _ f true _ HS.out HI.out).mono ?_
      rintro e w1 ⟨rfl, hb1⟩
      go_wp2_with fail
      refine (SummedOk_at _ _ _ f true _ HM.out (HI.out.next hb1)).mono ?_
      rintro e w2 ⟨rfl, hb2⟩
      go_wp2_with fail
      go_ret
      exact ⟨retb (by rw [HF.out, HM.out]), below_onto hb1 hb2⟩
    | false =>
      have HS := Lib.hid hs; have HM := Lib.hid hm; clear hs hm
      go_enter Tryz.func163, Tryz.ntmps163
      go_wp2_with fail
      refine (StrongOk_at _ _ _ f true _ HS.out HI.out).mono ?_
      rintro e w1 ⟨rfl, hb1⟩
      go_wp2_with fail
      refine (SummedOk_at _ _ _ f false _ HM.out (HI.out.next hb1)).mono ?_
      rintro e w2 ⟨rfl, hb2⟩
      go_wp2_with fail
      go_ret
      exact ⟨retb (by rw [HF.out, HM.out]), below_onto hb1 hb2⟩
  | false =>
    have HF := Lib.hid (show classB n f = false by unfold classB; rw [hs]; rfl)
    have HS := Lib.hid hs; clear hs
    go_enter Tryz.func163, Tryz.ntmps163
    go_wp2_with fail
    refine (StrongOk_at _ _ _ f false _ HS.out HI.out).mono ?_
    rintro e w1 ⟨rfl, hb1⟩
    go_wp2_with fail
    go_ret
    exact ⟨retb HF.out.symm, hb1⟩
set_option maxRecDepth 100000 in
theorem specClassicalOk_any (a : Option Addr) (n cap : Nat) (f : Nat → Int) (w : World) (hi : Ints w a n f) :
    Calls Tryz.prog 75 #[.slice a n cap] w fun e w' => e = .returned (.bool (classB n f)) ∧ Drew w w' := by
  have HI := Lib.hid hi; clear hi
  cases hs : strongB n f with
  | true =>
    have HF := Lib.hid (show classB n f = summedB n f by unfold classB; rw [hs]; rfl)
    cases hm : summedB n f with
    | true =>
      have HS := Lib.hid hs; have HM := Lib.hid hm; clear hs hm
      go_enter Tryz.func75, Tryz.ntmps75
      go_wp2_with fail
      refine (specStrongOk_at _ _ _ f true _ HS.out HI.out).mono ?_
      rintro e w1 ⟨rfl, hb1⟩
      go_wp2_with fail
      refine (specSummedOk_at _ _ _ f true _ HM.out (HI.out.drew hb1)).mono ?_
      rintro e w2 ⟨rfl, hb2⟩
      go_wp2_with fail
      go_ret
      exact ⟨retb (by rw [HF.out, HM.out]), hb1.onto hb2⟩
    | false =>
      have HS := Lib.hid hs; have HM := Lib.hid hm; clear hs hm
      go_enter Tryz.func75, Tryz.ntmps75
      go_wp2_with fail
      refine (specStrongOk_at _ _ _ f true _ HS.out HI.out).mono ?_
      rintro e w1 ⟨rfl, hb1⟩
      go_wp2_with fail
      refine (specSummedOk_at _ _ _ f false _ HM.out (HI.out.drew hb1)).mono ?_
      rintro e w2 ⟨rfl, hb2⟩
      go_wp2_with fail
      go_ret
      exact ⟨retb (by rw [HF.out, HM.out]), hb1.onto hb2⟩
  | false =>
    have HF := Lib.hid (show classB n f = false by unfold classB; rw [hs]; rfl)
    have HS := Lib.hid hs; clear hs
    go_enter Tryz.func75, Tryz.ntmps75
    go_wp2_with fail
    refine (specStrongOk_at _ _ _ f false _ HS.out HI.out).mono ?_
    rintro e w1 ⟨rfl, hb1⟩
    go_wp2_with fail
    go_ret
    exact ⟨retb HF.out.symm, hb1⟩
end Go.Proofs.YthaickihoagnmaaGreatDoor

