import Derived.Test.YtibjdmmcnhlgnaaDrawM
import Derived.Test.YtibjdmmcnhlgnaaSameX
import Derived.Test.YtibjdmmcnhlgnaaPlW
namespace Go.Proofs.Ytibjdmmcnhlgnaa
set_option linter.unusedVariables false
set_option linter.unusedSimpArgs false
open Go.RowKit Go.Maps

theorem below_same (w : World) : Below w.heap.size w w := Below.refl _ _
theorem ShipOk_b (a : Option Addr) (n cap : Nat) (f : Nat → Int) (v : Bool) (hv : shipB n f = v) (hc : n ≤ cap) (w : World) (hi : Ints w a n f) :
    Calls Try.prog 18 #[.slice a n cap] w fun e w' => e = .returned (.bool v) ∧ Below w.heap.size w w' :=
  (ShipOk_val a n cap f v hv hc w hi).mono fun _ _ ⟨h1, h2⟩ => ⟨h1, by subst h2; exact Below.refl _ _⟩
theorem specShipOk_b (a : Option Addr) (n cap : Nat) (f : Nat → Int) (v : Bool) (hv : shipB n f = v) (w : World) (hi : Ints w a n f) :
    Calls Try.prog 19 #[.slice a n cap] w fun e w' => e = .returned (.bool v) ∧ Below w.heap.size w w' :=
  (specShipOk_val a n cap f v hv w hi).mono fun _ _ ⟨h1, h2⟩ => ⟨h1, h2.below⟩
theorem CommonIn_b (a b : Option Addr) (n c m c2 : Nat) (f g : Nat → Int) (v : Int) (hv : cmI n f m g = v) (hc : n ≤ c) (hc2 : m ≤ c2) (w : World) (hi : Ints w a n f) (hj : Ints w b m g) :
    Calls Try.prog 22 #[.slice a n c, .slice b m c2] w fun e w' => e = .returned (.int .i64 v) ∧ Below w.heap.size w w' :=
  (CommonIn_any a b n c m c2 f g hc hc2 w hi hj).mono fun _ _ ⟨h1, h2⟩ => ⟨by rw [h1, hv], by subst h2; exact Below.refl _ _⟩
theorem specCommonIn_b (a b : Option Addr) (n c m c2 : Nat) (f g : Nat → Int) (v : Int) (hv : cmI n f m g = v) (w : World) (hi : Ints w a n f) (hj : Ints w b m g) :
    Calls Try.prog 23 #[.slice a n c, .slice b m c2] w fun e w' => e = .returned (.int .i64 v) ∧ Below w.heap.size w w' :=
  (specCommonIn_any a b n c m c2 f g w hi hj).mono fun _ _ ⟨h1, h2⟩ => ⟨by rw [h1, hv], h2.below⟩
theorem MostlyOk_b (a b : Option Addr) (n c m c2 : Nat) (f g : Nat → Int) (but : Int) (v : Bool) (hv : moB n f m g but = v) (hc : n ≤ c) (hc2 : m ≤ c2) (w : World) (hi : Ints w a n f) (hj : Ints w b m g) :
    Calls Try.prog 25 #[.slice a n c, .slice b m c2, .int .i64 but] w fun e w' => e = .returned (.bool v) ∧ Below w.heap.size w w' :=
  (MostlyOk_val a b n c m c2 f g but v hv hc hc2 w hi hj).mono fun _ _ ⟨h1, h2⟩ => ⟨h1, by subst h2; exact Below.refl _ _⟩
theorem specMostlyOk_b (a b : Option Addr) (n c m c2 : Nat) (f g : Nat → Int) (but : Int) (v : Bool) (hv : moB n f m g but = v) (w : World) (hi : Ints w a n f) (hj : Ints w b m g) :
    Calls Try.prog 26 #[.slice a n c, .slice b m c2, .int .i64 but] w fun e w' => e = .returned (.bool v) ∧ Below w.heap.size w w' :=
  (specMostlyOk_any a b n c m c2 f g but w hi hj).mono fun _ _ ⟨h1, h2⟩ => ⟨by rw [h1, hv], h2.below⟩
theorem GivesC.row {F : Nat → Int} {n : Nat} {b : Bool} {w w' : World} {e : Ending} (h : GivesC (rowL F n) b w e w') (hn : 1 ≤ n) :
    ∃ g cap, e = .returned (.tuple #[.slice (some ⟨g, 0, none⟩) n cap, .bool b]) ∧ n ≤ cap ∧ w.heap.size ≤ g ∧ g < w'.heap.size ∧ Row w' g 0 n F ∧ Below w.heap.size w w' := by
  obtain ⟨v, rfl, h1, h2⟩ := h
  obtain ⟨g, cap, rfl, h3, h4, hc, _, h5, _⟩ := h1.shape (by rw [rowL_len]; exact hn)
  rw [rowL_len] at hc ⊢
  exact ⟨g, cap, rfl, hc, h3, h4, row_of_list h5, h2⟩
theorem GivesC.none {b : Bool} {w w' : World} {e : Ending} (h : GivesC [] b w e w') : ∃ (a : Option Addr) (cap : Nat), e = .returned (.tuple #[.slice a 0 cap, .bool b]) ∧ Below w.heap.size w w' := by
  obtain ⟨v, rfl, h1, h2⟩ := h
  obtain ⟨a, cap, rfl⟩ := h1.slice
  exact ⟨a, cap, rfl, h2⟩
theorem BytesIn.more {w w' : World} {a : Option Addr} {n cap : Nat} (h : BytesIn w a n cap) (hb : Below w.heap.size w w') : BytesIn w' a n cap := by
  obtain ⟨h1, h2, h3⟩ := h
  refine ⟨h1, h2, ?_⟩
  rcases h3 with h3 | ⟨b, o, g, e, hl, hby⟩
  · exact .inl h3
  · exact .inr ⟨b, o, g, e, Nat.lt_of_lt_of_le hl hb.size, fun i hi => ⟨(hb.cell (p := ⟨b, o + i, none⟩) hl).trans (hby i hi).1, (hby i hi).2⟩⟩

/-- a ship without its last plank -/
theorem ship_less {n : Nat} {f : Nat → Int} (h : shipB (n + 1) f = true) (h1 : 1 ≤ n) : shipB n f = true := by
  obtain ⟨_, h6, hk⟩ := shipB_iff.1 h
  rw [shipK_succ, Bool.and_eq_true] at hk
  exact shipB_iff.2 ⟨h1, by omega, hk.1⟩
theorem mo_sym {n m : Nat} {f g : Nat → Int} {b : Int} : moB n f m g b = moB m g n f b := by
  rw [Bool.eq_iff_iff, moB_iff, moB_iff]
  constructor
  · rintro ⟨h1, h2, h3, h4⟩
    exact ⟨h2, h1, h3.symm, by rw [cnt_sym h2 h1]; omega⟩
  · rintro ⟨h1, h2, h3, h4⟩
    exact ⟨h2, h1, h3.symm, by rw [cnt_sym h2 h1]; omega⟩
theorem mo_self {n : Nat} {f : Nat → Int} {b : Int} (h : shipB n f = true) (hb : 0 ≤ b) : moB n f n f b = true := moB_iff.2 ⟨h, h, rfl, by rw [cnt_self]; omega⟩
theorem mo_sum {n m p : Nat} {f g h : Nat → Int} {b c : Int} (h1 : moB n f m g b = true) (h2 : moB m g p h c = true) : moB n f p h (b + c) = true := by
  obtain ⟨hf, hg, e1, l1⟩ := moB_iff.1 h1
  obtain ⟨_, hh, e2, l2⟩ := moB_iff.1 h2
  refine moB_iff.2 ⟨hf, hh, e1.trans e2, ?_⟩
  have := cnt_three hf hg hh
  omega
theorem mo_more {n m : Nat} {f g : Nat → Int} {b c : Int} (h1 : moB n f m g b = true) (h : b ≤ c) : moB n f m g c = true := by
  obtain ⟨hf, hg, e1, l1⟩ := moB_iff.1 h1
  exact moB_iff.2 ⟨hf, hg, e1, by omega⟩
/-- one change -/
theorem mo_set {n : Nat} {f : Nat → Int} {p : Nat} {q : Int} (h : shipB n f = true) (hp : p < n) (hq : pkB q = true) (hi : inF q n f = false) : moB n f n (setF f p q) 1 = true ∧ moB n f n (setF f p q) 0 = false := by
  have hs := ship_set h hp hq hi
  have hc := cnt_set h hp hi
  refine ⟨moB_iff.2 ⟨h, hs, rfl, by omega⟩, ?_⟩
  cases e : moB n f n (setF f p q) 0 with
  | false => rfl
  | true => have := (moB_iff.1 e).2.2.2; omega
/-- the ships of a story, mostly the same as the one before, and as the first one -/
theorem mo_step {n : Nat} {f P Q : Nat → Int} {k : Nat} (h : shipB n f = true) (hg : goB n f P Q k = true) : moB n (nowF n f P Q k) n (nowF n f P Q (k + 1)) 1 = true := by
  obtain ⟨h1, h2, h3, h4⟩ := okC_iff.1 hg
  rw [now_yes hg]
  exact (mo_set (now_ship h k) (by omega) h3 h4).1
theorem mo_story {n : Nat} {f P Q : Nat → Int} (h : shipB n f = true) : ∀ k, moB n f n (nowF n f P Q k) ((dnL n f P Q k).length : Nat) = true
  | 0 => mo_self h (by show (0 : Int) ≤ (((dnL n f P Q 0).length : Nat) : Int); omega)
  | k + 1 => by
    have ih := mo_story h (P := P) (Q := Q) k
    cases hg : goB n f P Q k with
    | true =>
      have := mo_sum ih (mo_step h hg)
      rw [dn_yes hg, List.length_append]
      exact this
    | false => rw [now_no hg, dn_no hg]; exact ih
theorem lit_0 : shipB 1 (fun i => ([0] : List Int).getD i 0) = true := by kernel_rfl
theorem lit_99 : shipB 1 (fun i => ([99] : List Int).getD i 0) = true := by kernel_rfl
theorem lit_11 : shipB 2 (fun i => ([1, 1] : List Int).getD i 0) = false := by kernel_rfl
theorem lit_a : moB 2 (fun i => ([1, 2] : List Int).getD i 0) 2 (fun i => ([3, 2] : List Int).getD i 0) 1 = true := by kernel_rfl
theorem lit_b : moB 2 (fun i => ([3, 2] : List Int).getD i 0) 2 (fun i => ([3, 4] : List Int).getD i 0) 1 = true := by kernel_rfl
theorem lit_c : moB 2 (fun i => ([1, 2] : List Int).getD i 0) 2 (fun i => ([3, 4] : List Int).getD i 0) 1 = false := by kernel_rfl
end Go.Proofs.Ytibjdmmcnhlgnaa
