import Derived.Test.YtidcfcjmjgcfkaaDoorWorldC
namespace Go.Proofs.YtidcfcjmjgcfkaaDoor
open Go.RowKit

def insB (n m : Nat) (g : Nat → Int) : Bool := decide (∀ i, i < m → 0 ≤ g i ∧ g i < n)

def WithEnd (n : Nat) (f : Nat → Int) (m : Nat) (g : Nat → Int) (w : World) (e : Ending) (w' : World) : Prop :=
  Below w.heap.size w w' ∧ (((worldB n f && insB n m g) = true ∧ e = .returned (.tuple #[.slice (some ⟨w.heap.size, 0, none⟩) n n, .bool true]) ∧ w.heap.size < w'.heap.size ∧ Row w' w.heap.size 0 n f)
    ∨ ((worldB n f && insB n m g) = false ∧ e = .returned (.tuple #[.slice none 0 0, .bool false])))

set_option maxHeartbeats 800000 in
theorem worldWith_any (a : Option Addr) (n cap : Nat) (f : Nat → Int) (nb no m mc : Nat) (g : Nat → Int) (hm : m ≤ 1000) (w : World) (hi : Ints w a n f) (hg : Row w nb no m g) (hnb : nb < w.heap.size) :
    Calls Tryd.prog 26 #[.slice a n cap, .slice (some ⟨nb, no, none⟩) m mc] w (WithEnd n f m g w) := by
  have hn := hi.1.1
  go_enter Tryd.func26, Tryd.ntmps26
  go_wp2_with fail
  refine (worldOf_end a n cap f w hi).mono ?_
  rintro e w' ⟨hbel, ⟨hb, rfl, hs, hr⟩ | ⟨hb, rfl⟩⟩
  · have HB := Lib.hid hb; clear hb
    replace hg := hg.below hbel hnb
    go_wp2_with fail
    go_loop [19] (fun i => ∃ k : Nat, k ≤ m ∧ i = .int .i64 k ∧ Hid (∀ i, i < k → 0 ≤ g i ∧ g i < n)) (fun i => m - (intOf i).toNat)
    case atStart => exact ⟨0, Nat.zero_le _, rfl, fun a ha => absurd ha (Nat.not_lt_zero _)⟩
    case round =>
      obtain ⟨k, hk, rfl, hall⟩ := hrel
      by_cases hlt : k < m
      · have hc := hg k hlt
        by_cases hin : 0 ≤ g k ∧ g k < n
        · obtain ⟨hin0, hin1⟩ := hin
          have hd1 : decide (g k < 0) = false := by simp; omega
          have hd2 : decide ((n : Int) ≤ g k) = false := by simp; omega
          go_wp2_with fail
          go_round
          case rel => exact ⟨k + 1, by omega, by go_num, fun a ha => by
            by_cases hak : a = k
            · subst hak; exact ⟨hin0, hin1⟩
            · exact hall a (by omega)⟩
          case measure => simp [intOf]; omega
        · have hfin : (worldB n f && insB n m g) = false := by
            rw [show insB n m g = false from decide_eq_false (fun h => hin (h k hlt))]; simp
          have HF := Lib.hid hfin; clear hfin
          by_cases h0 : g k < 0
          · have hd1 : decide (g k < 0) = true := by simp; omega
            go_wp2_with fail
            go_ret2
            exact ⟨hbel, .inr ⟨HF.out, rfl⟩⟩
          · have hd1 : decide (g k < 0) = false := by simp; omega
            have hd2 : decide ((n : Int) ≤ g k) = true := by simp; omega
            go_wp2_with fail
            go_ret2
            exact ⟨hbel, .inr ⟨HF.out, rfl⟩⟩
      · have hfin : (worldB n f && insB n m g) = true := by
          rw [HB.out, show insB n m g = true from decide_eq_true (fun a ha => hall a (by omega))]; rfl
        have HF := Lib.hid hfin; clear hfin
        go_wp2_with fail
        go_ret2
        exact ⟨hbel, .inl ⟨HF.out, rfl, hs, hr⟩⟩
  · have hfin : (worldB n f && insB n m g) = false := by rw [hb]; rfl
    have HF := Lib.hid hfin; clear hfin hb
    go_wp2_with fail
    go_ret2
    exact ⟨hbel, .inr ⟨HF.out, rfl⟩⟩

/-- one number in new memory, two numbers -/
def one (a : Int) : Nat → Int := fun _ => a
def two (a b : Int) : Nat → Int := fun i => if i = 0 then a else b

theorem insB_one (n : Nat) (a : Int) : insB n 1 (one a) = (decide (0 ≤ a) && decide (a < n)) := by
  unfold insB one
  rw [Bool.eq_iff_iff]; simp only [decide_eq_true_eq, Bool.and_eq_true]
  exact ⟨fun h => h 0 (by omega), fun h i _ => h⟩

theorem insB_two (n : Nat) (a b : Int) : insB n 2 (two a b) = ((decide (0 ≤ a) && decide (a < n)) && (decide (0 ≤ b) && decide (b < n))) := by
  unfold insB two
  rw [Bool.eq_iff_iff]; simp only [decide_eq_true_eq, Bool.and_eq_true]
  constructor
  · intro h
    exact ⟨by simpa using h 0 (by omega), by simpa using h 1 (by omega)⟩
  · rintro ⟨h1, h2⟩ i hi
    split <;> assumption

theorem row_one (w : World) (x : Int) (t : TypeId) : Row (w.alloc (.cells #[.int .i64 x] t)) w.heap.size 0 1 (one x) :=
  row_of_is (World.rowIs_alloc w #[.int .i64 x] t (fun i => .int .i64 (one x i)) (by
    intro i hi
    match i, hi with
    | 0, _ => rfl)) (fun _ _ => rfl)

theorem row_two (w : World) (x y : Int) (t : TypeId) : Row (w.alloc (.cells #[.int .i64 x, .int .i64 y] t)) w.heap.size 0 2 (two x y) :=
  row_of_is (World.rowIs_alloc w #[.int .i64 x, .int .i64 y] t (fun i => .int .i64 (two x y i)) (by
    intro i hi
    match i, hi with
    | 0, _ => rfl
    | 1, _ => rfl)) (fun _ _ => rfl)

def good1 (n : Nat) (f : Nat → Int) (x : Int) : Bool := worldB n f && insB n 1 (one x)
def good2 (n : Nat) (f : Nat → Int) (x y : Int) : Bool := worldB n f && insB n 2 (two x y)

theorem good1_iff (n : Nat) (f : Nat → Int) (x : Int) : good1 n f x = true ↔ worldB n f = true ∧ 0 ≤ x ∧ x < n := by
  unfold good1; rw [insB_one]; simp only [Bool.and_eq_true, decide_eq_true_eq]
theorem good2_iff (n : Nat) (f : Nat → Int) (x y : Int) : good2 n f x y = true ↔ worldB n f = true ∧ (0 ≤ x ∧ x < n) ∧ 0 ≤ y ∧ y < n := by
  unfold good2; rw [insB_two]; simp only [Bool.and_eq_true, decide_eq_true_eq]

def partB (n : Nat) (f : Nat → Int) (x y : Int) : Bool := good2 n f x y && hasB (f y.toNat) x.toNat
def properB (n : Nat) (f : Nat → Int) (x y : Int) : Bool := partB n f x y && decide (x ≠ y)
def overB (n : Nat) (f : Nat → Int) (x y : Int) : Bool := good2 n f x y && (andI (f x.toNat) (f y.toNat) != 0)

theorem worldB_7 {n : Nat} {f : Nat → Int} (h : worldB n f = true) : 1 ≤ n ∧ n ≤ 7 := by
  unfold worldB at h; simp only [Bool.and_eq_true, decide_eq_true_eq] at h; exact h.1

theorem below_alloc_onto {w w' : World} {o : Obj} (h : Below (w.alloc o).heap.size (w.alloc o) w') : Below w.heap.size w w' :=
  ((Below.refl _ _).alloc (Nat.le_refl _) o).trans (h.mono (by show _ ≤ (w.heap.push _).size; rw [Array.size_push]; omega))

/-- worldWith, behind a slice of two numbers that the call lays -/
theorem with2 (a : Option Addr) (n cap : Nat) (f : Nat → Int) (x y : Int) (w : World) (hi : Ints w a n f) (t : TypeId) :
    Calls Tryd.prog 26 #[.slice a n cap, .slice (some ⟨w.heap.size, 0, none⟩) 2 2] (w.alloc (.cells #[.int .i64 x, .int .i64 y] t)) fun e w' =>
      Below w.heap.size w w' ∧ ((good2 n f x y = true ∧ e = .returned (.tuple #[.slice (some ⟨w.heap.size + 1, 0, none⟩) n n, .bool true]) ∧ Row w' (w.heap.size + 1) 0 n f) ∨ (good2 n f x y = false ∧ e = .returned (.tuple #[.slice none 0 0, .bool false]))) := by
  have hal : Below w.heap.size w (w.alloc (.cells #[.int .i64 x, .int .i64 y] t)) := (Below.refl _ _).alloc (Nat.le_refl _) _
  have hsz : (w.alloc (.cells #[.int .i64 x, .int .i64 y] t)).heap.size = w.heap.size + 1 := by show (w.heap.push _).size = _; rw [Array.size_push]
  refine (worldWith_any a n cap f _ _ _ _ (two x y) (by omega) _ (hi.below hal (Nat.le_refl _)) (row_two w x y t) (by rw [hsz]; omega)).mono ?_
  rintro e w' ⟨hb, h⟩
  refine ⟨below_alloc_onto hb, ?_⟩
  rcases h with ⟨h1, h2, _, h3⟩ | ⟨h1, h2⟩
  · rw [hsz] at h2 h3; exact .inl ⟨h1, h2, h3⟩
  · exact .inr ⟨h1, h2⟩

theorem with1 (a : Option Addr) (n cap : Nat) (f : Nat → Int) (x : Int) (w : World) (hi : Ints w a n f) (t : TypeId) :
    Calls Tryd.prog 26 #[.slice a n cap, .slice (some ⟨w.heap.size, 0, none⟩) 1 1] (w.alloc (.cells #[.int .i64 x] t)) fun e w' =>
      Below w.heap.size w w' ∧ ((good1 n f x = true ∧ e = .returned (.tuple #[.slice (some ⟨w.heap.size + 1, 0, none⟩) n n, .bool true]) ∧ Row w' (w.heap.size + 1) 0 n f) ∨ (good1 n f x = false ∧ e = .returned (.tuple #[.slice none 0 0, .bool false]))) := by
  have hal : Below w.heap.size w (w.alloc (.cells #[.int .i64 x] t)) := (Below.refl _ _).alloc (Nat.le_refl _) _
  have hsz : (w.alloc (.cells #[.int .i64 x] t)).heap.size = w.heap.size + 1 := by show (w.heap.push _).size = _; rw [Array.size_push]
  refine (worldWith_any a n cap f _ _ _ _ (one x) (by omega) _ (hi.below hal (Nat.le_refl _)) (row_one w x t) (by rw [hsz]; omega)).mono ?_
  rintro e w' ⟨hb, h⟩
  refine ⟨below_alloc_onto hb, ?_⟩
  rcases h with ⟨h1, h2, _, h3⟩ | ⟨h1, h2⟩
  · rw [hsz] at h2 h3; exact .inl ⟨h1, h2, h3⟩
  · exact .inr ⟨h1, h2⟩

set_option maxHeartbeats 800000 in
theorem PartOk_any (a : Option Addr) (n cap : Nat) (f : Nat → Int) (x y : Int) (w : World) (hi : Ints w a n f) :
    Calls Tryd.prog 16 #[.slice a n cap, .int .i64 x, .int .i64 y] w fun e w' => e = .returned (.bool (partB n f x y)) ∧ Below w.heap.size w w' := by
  by_cases hg : good2 n f x y = true
  · have hg' := (good2_iff n f x y).1 hg
    obtain ⟨hwb, ⟨hx0, hx1⟩, hy0, hy1⟩ := hg'
    have h7 := (worldB_7 hwb).2
    have hfin : partB n f x y = hasB (f y.toNat) x.toNat := by unfold partB; rw [hg]; rfl
    obtain ⟨X, rfl⟩ := Int.eq_ofNat_of_zero_le hx0
    obtain ⟨Y, rfl⟩ := Int.eq_ofNat_of_zero_le hy0
    have HF := Lib.hid hfin; have HG := Lib.hid hg; clear hfin hg hwb hx0 hy0
    go_enter Tryd.func16, Tryd.ntmps16
    go_wp2_with fail
    refine (with2 a n cap f X Y w hi _).mono ?_
    rintro e w' ⟨hbel, ⟨hb, rfl, hr⟩ | ⟨hb, rfl⟩⟩
    · have hc := hr Y (by omega)
      clear hb
      go_wp2_with fail
      refine (part_any _ _ _ _ _ _ _ (by omega) (by omega) _ hc).mono ?_
      rintro e w' ⟨rfl, rfl⟩
      go_wp2_with fail
      go_ret
      exact ⟨retb HF.out.symm, hbel⟩
    · rw [HG.out] at hb; cases hb
  · have hg' : good2 n f x y = false := by simpa using hg
    have hfin : partB n f x y = false := by unfold partB; rw [hg']; rfl
    have HF := Lib.hid hfin; have HG := Lib.hid hg'; clear hfin hg hg'
    go_enter Tryd.func16, Tryd.ntmps16
    go_wp2_with fail
    refine (with2 a n cap f x y w hi _).mono ?_
    rintro e w' ⟨hbel, ⟨hb, rfl, hr⟩ | ⟨hb, rfl⟩⟩
    · rw [HG.out] at hb; cases hb
    · clear hb
      go_wp2_with fail
      go_ret
      exact ⟨retb HF.out.symm, hbel⟩

set_option maxHeartbeats 800000 in
theorem ProperOk_any (a : Option Addr) (n cap : Nat) (f : Nat → Int) (x y : Int) (w : World) (hi : Ints w a n f) :
    Calls Tryd.prog 11 #[.slice a n cap, .int .i64 x, .int .i64 y] w fun e w' => e = .returned (.bool (properB n f x y)) ∧ Below w.heap.size w w' := by
  by_cases hg : good2 n f x y = true
  · have hg' := (good2_iff n f x y).1 hg
    obtain ⟨hwb, ⟨hx0, hx1⟩, hy0, hy1⟩ := hg'
    have h7 := (worldB_7 hwb).2
    obtain ⟨X, rfl⟩ := Int.eq_ofNat_of_zero_le hx0
    obtain ⟨Y, rfl⟩ := Int.eq_ofNat_of_zero_le hy0
    have hfin : properB n f X Y = neHas (f Y) X Y := by
      unfold properB partB neHas; rw [hg, Int.toNat_natCast, Int.toNat_natCast, Bool.true_and, Bool.and_comm]
      congr 1; apply decide_eq_decide.2; omega
    have HF := Lib.hid hfin; have HG := Lib.hid hg; clear hfin hg hwb hx0 hy0
    go_enter Tryd.func11, Tryd.ntmps11
    go_wp2_with fail
    refine (with2 a n cap f X Y w hi _).mono ?_
    rintro e w' ⟨hbel, ⟨hb, rfl, hr⟩ | ⟨hb, rfl⟩⟩
    · have hc := hr Y (by omega)
      clear hb
      go_wp2_with fail
      refine (proper_any _ _ _ _ _ _ _ (by omega) (by omega) _ hc).mono ?_
      rintro e w' ⟨rfl, rfl⟩
      go_wp2_with fail
      go_ret
      exact ⟨retb HF.out.symm, hbel⟩
    · rw [HG.out] at hb; cases hb
  · have hg' : good2 n f x y = false := by simpa using hg
    have hfin : properB n f x y = false := by unfold properB partB; rw [hg']; rfl
    have HF := Lib.hid hfin; have HG := Lib.hid hg'; clear hfin hg hg'
    go_enter Tryd.func11, Tryd.ntmps11
    go_wp2_with fail
    refine (with2 a n cap f x y w hi _).mono ?_
    rintro e w' ⟨hbel, ⟨hb, rfl, hr⟩ | ⟨hb, rfl⟩⟩
    · rw [HG.out] at hb; cases hb
    · clear hb
      go_wp2_with fail
      go_ret
      exact ⟨retb HF.out.symm, hbel⟩

set_option maxHeartbeats 800000 in
theorem OverlapOk_any (a : Option Addr) (n cap : Nat) (f : Nat → Int) (x y : Int) (w : World) (hi : Ints w a n f) :
    Calls Tryd.prog 17 #[.slice a n cap, .int .i64 x, .int .i64 y] w fun e w' => e = .returned (.bool (overB n f x y)) ∧ Below w.heap.size w w' := by
  by_cases hg : good2 n f x y = true
  · have hg' := (good2_iff n f x y).1 hg
    obtain ⟨hwb, ⟨hx0, hx1⟩, hy0, hy1⟩ := hg'
    obtain ⟨X, rfl⟩ := Int.eq_ofNat_of_zero_le hx0
    obtain ⟨Y, rfl⟩ := Int.eq_ofNat_of_zero_le hy0
    have hfin : overB n f X Y = (andI (f X) (f Y) != 0) := by
      unfold overB; rw [hg, Int.toNat_natCast, Int.toNat_natCast, Bool.true_and]
    have HF := Lib.hid hfin; have HG := Lib.hid hg; clear hfin hg hwb hx0 hy0
    go_enter Tryd.func17, Tryd.ntmps17
    go_wp2_with fail
    refine (with2 a n cap f X Y w hi _).mono ?_
    rintro e w' ⟨hbel, ⟨hb, rfl, hr⟩ | ⟨hb, rfl⟩⟩
    · have hc := hr Y (by omega)
      have hcx := hr X (by omega)
      clear hb
      go_wp2_with fail
      refine (overlap_any _ _ _ _ _ _ _ _ (by omega) (by omega) _ hcx hc).mono ?_
      rintro e w'' ⟨rfl, nq, rfl⟩
      go_wp2_with fail
      go_ret
      exact ⟨retb HF.out.symm, below_drewN hbel _⟩
    · rw [HG.out] at hb; cases hb
  · have hg' : good2 n f x y = false := by simpa using hg
    have hfin : overB n f x y = false := by unfold overB; rw [hg']; rfl
    have HF := Lib.hid hfin; have HG := Lib.hid hg'; clear hfin hg hg'
    go_enter Tryd.func17, Tryd.ntmps17
    go_wp2_with fail
    refine (with2 a n cap f x y w hi _).mono ?_
    rintro e w' ⟨hbel, ⟨hb, rfl, hr⟩ | ⟨hb, rfl⟩⟩
    · rw [HG.out] at hb; cases hb
    · clear hb
      go_wp2_with fail
      go_ret
      exact ⟨retb HF.out.symm, hbel⟩
end Go.Proofs.YtidcfcjmjgcfkaaDoor
