import Derived.Test.YtidcfcjmjgcfkaaDoorWorldA
import Derived.Deep.OwnRows
namespace Go.Proofs.YtidcfcjmjgcfkaaDoor
open Go.RowKit

theorem Tryd.infoThings : (Tryd.prog.info? 45).map (fun i => (i.zero, i.size, i.bytes)) = some (some (.int .i64 0), 1, 8) := by kernel_rfl

def okB (n : Nat) (f : Nat → Int) : Bool := numB n f && selfB n f && orderB n f && popB n f

theorem Row.below {w w' : World} {B b o n : Nat} {f : Nat → Int} (h : Row w b o n f) (hb : Below B w w') (hlt : b < B) : Row w' b o n f :=
  fun i hi => (hb.cell (p := ⟨b, o + i, none⟩) hlt).trans (h i hi)

theorem row_of_is {w : World} {b t n : Nat} {g : Nat → Value} {f : Nat → Int} (h : w.rowIs b t n g) (hg : ∀ i, i < n → g i = .int .i64 (f i)) : Row w b 0 n f :=
  fun i hi => by rw [Nat.zero_add, h.cell hi, hg i hi]

def fill (f : Nat → Int) (k i : Nat) : Value := .int .i64 (if i < k then f i else 0)

theorem fill_step {w : World} {b t n : Nat} {f : Nat → Int} {k : Nat} (h : w.rowIs b t n (fill f k)) : (w.setCell ⟨b, k, none⟩ (.int .i64 (f k))).rowIs b t n (fill f (k + 1)) := by
  refine (h.set k (.int .i64 (f k))).congr fun i _ => ?_
  unfold fill
  by_cases hik : i = k
  · subst hik; rw [if_pos rfl, if_pos (Nat.lt_succ_self _)]
  · by_cases hlt : i < k
    · rw [if_neg hik, if_pos hlt, if_pos (by omega)]
    · rw [if_neg hik, if_neg hlt, if_neg (by omega)]

def WorldOfPost (n : Nat) (f : Nat → Int) (w : World) (e : Ending) (w' : World) : Prop :=
  e = .returned (.tuple #[if okB n f then .slice (some ⟨w.heap.size, 0, none⟩) n n else .slice none 0 0, .bool (okB n f)]) ∧ Below w.heap.size w w' ∧ w.heap.size < w'.heap.size ∧ Row w' w.heap.size 0 n f

set_option maxHeartbeats 800000 in
theorem worldOf_any (bk off n cap : Nat) (f : Nat → Int) (h1 : 1 ≤ n) (hn : n ≤ 7) (w : World) (hr : Row w bk off n f) (hbk : bk < w.heap.size) :
    Calls Tryd.prog 25 #[.slice (some ⟨bk, off, none⟩) n cap] w (WorldOfPost n f w) := by
  have hmk := run_make_row' (P := Tryd.prog) 41 45 (.int .i64 0) 8 Tryd.underlying41 Tryd.infoThings rfl .i64 .i64 n (by omega) (by omega)
  have hmade := World.rowIs_made w (.int .i64 0) n 45
  have hbel : Below w.heap.size w (w.alloc (.cells (madeCells #[.int .i64 0] n) 45)) := (Below.refl _ _).alloc (Nat.le_refl _) _
  have hd1 : decide ((n : Int) < 1) = false := by simp; omega
  have hd2 : decide ((7 : Int) < (n : Int)) = false := by simp; omega
  go_enter Tryd.func25, Tryd.ntmps25
  go_wp2_with fail
  go_loopw [20] (fun i wr => ∃ k : Nat, k ≤ n ∧ i = .int .i64 k ∧ wr.rowIs w.heap.size 45 n (fill f k) ∧ Below w.heap.size w wr) (fun i _ => n - (intOf i).toNat)
  case atStart => exact ⟨0, Nat.zero_le _, rfl, hmade, hbel⟩
  case round =>
    obtain ⟨k, hk, rfl, hrow, hb⟩ := hrel
    have hr' := hr.below hb hbk
    by_cases hlt : k < n
    · have hc := hr' k hlt
      have hold := hrow.cell hlt
      have hfr := hrow.frozen k
      go_wp2_with fail
      go_roundw
      case rel => exact ⟨k + 1, by omega, by go_num, fill_step hrow, hb.setCell (Nat.le_refl _) _⟩
      case measure => simp [intOf]; omega
    · have hown : Row wr w.heap.size 0 n f := row_of_is hrow (fun i hi => by unfold fill; rw [if_pos (by omega)])
      have hsz : w.heap.size < wr.heap.size := hrow.lt
      by_cases c0 : numB n f = true
      · by_cases c1 : selfB n f = true
        · by_cases c2 : orderB n f = true
          · by_cases c3 : popB n f = true
            · have hfin : okB n f = true := by simp [okB, c0, c1, c2, c3]
              have HF := Lib.hid hfin; clear hfin
              go_wp2_with fail
              refine (numbersOk_any _ _ _ _ f hn _ hown).mono ?_
              rintro e w' ⟨rfl, rfl⟩
              go_wp2_with fail
              refine (itselfOk_any _ _ _ _ f hn _ hown).mono ?_
              rintro e w' ⟨rfl, rfl⟩
              go_wp2_with fail
              refine (orderOk_any _ _ _ _ f hn _ hown).mono ?_
              rintro e w' ⟨rfl, rfl⟩
              go_wp2_with fail
              refine (pop_any _ _ _ _ f hn _ hown).mono ?_
              rintro e w' ⟨rfl, rfl⟩
              go_wp2_with fail
              go_ret2
              exact ⟨by first | rfl | (rw [HF.out]; rfl), hb, hsz, hown⟩
            · have d3 : popB n f = false := by simpa using c3
              have hfin : okB n f = false := by simp [okB, d3]
              clear c3
              have HF := Lib.hid hfin; clear hfin
              go_wp2_with fail
              refine (numbersOk_any _ _ _ _ f hn _ hown).mono ?_
              rintro e w' ⟨rfl, rfl⟩
              go_wp2_with fail
              refine (itselfOk_any _ _ _ _ f hn _ hown).mono ?_
              rintro e w' ⟨rfl, rfl⟩
              go_wp2_with fail
              refine (orderOk_any _ _ _ _ f hn _ hown).mono ?_
              rintro e w' ⟨rfl, rfl⟩
              go_wp2_with fail
              refine (pop_any _ _ _ _ f hn _ hown).mono ?_
              rintro e w' ⟨rfl, rfl⟩
              go_wp2_with fail
              go_ret2
              exact ⟨by first | rfl | (rw [HF.out]; rfl), hb, hsz, hown⟩
          · have d2 : orderB n f = false := by simpa using c2
            have hfin : okB n f = false := by simp [okB, d2]
            clear c2
            have HF := Lib.hid hfin; clear hfin
            go_wp2_with fail
            refine (numbersOk_any _ _ _ _ f hn _ hown).mono ?_
            rintro e w' ⟨rfl, rfl⟩
            go_wp2_with fail
            refine (itselfOk_any _ _ _ _ f hn _ hown).mono ?_
            rintro e w' ⟨rfl, rfl⟩
            go_wp2_with fail
            refine (orderOk_any _ _ _ _ f hn _ hown).mono ?_
            rintro e w' ⟨rfl, rfl⟩
            go_wp2_with fail
            go_ret2
            exact ⟨by first | rfl | (rw [HF.out]; rfl), hb, hsz, hown⟩
        · have d1 : selfB n f = false := by simpa using c1
          have hfin : okB n f = false := by simp [okB, d1]
          clear c1
          have HF := Lib.hid hfin; clear hfin
          go_wp2_with fail
          refine (numbersOk_any _ _ _ _ f hn _ hown).mono ?_
          rintro e w' ⟨rfl, rfl⟩
          go_wp2_with fail
          refine (itselfOk_any _ _ _ _ f hn _ hown).mono ?_
          rintro e w' ⟨rfl, rfl⟩
          go_wp2_with fail
          go_ret2
          exact ⟨by first | rfl | (rw [HF.out]; rfl), hb, hsz, hown⟩
      · have d0 : numB n f = false := by simpa using c0
        have hfin : okB n f = false := by simp [okB, d0]
        clear c0
        have HF := Lib.hid hfin; clear hfin
        go_wp2_with fail
        refine (numbersOk_any _ _ _ _ f hn _ hown).mono ?_
        rintro e w' ⟨rfl, rfl⟩
        go_wp2_with fail
        go_ret2
        exact ⟨by first | rfl | (rw [HF.out]; rfl), hb, hsz, hown⟩

set_option maxHeartbeats 800000 in
theorem worldOf_no (a : Option Addr) (n cap : Nat) (h : n < 1 ∨ 7 < n) (hmax : n ≤ 9223372036854775807) (w : World) :
    Calls Tryd.prog 25 #[.slice a n cap] w fun e w' => e = .returned (.tuple #[.slice none 0 0, .bool false]) ∧ w = w' := by
  rcases h with h | h
  · have hd1 : decide ((n : Int) < 1) = true := by simp; omega
    go_enter Tryd.func25, Tryd.ntmps25
    go_wp2_with fail
    go_ret2
    exact ⟨rfl, rfl⟩
  · have hd1 : decide ((n : Int) < 1) = false := by simp; omega
    have hd2 : decide ((7 : Int) < (n : Int)) = true := by simp; omega
    go_enter Tryd.func25, Tryd.ntmps25
    go_wp2_with fail
    go_ret2
    exact ⟨rfl, rfl⟩

/-- a slice of numbers: nil or empty, or in a row -/
def Ints (w : World) (a : Option Addr) (n : Nat) (f : Nat → Int) : Prop :=
  (n ≤ 9223372036854775807 ∧ ∀ i, i < n → I64 (f i)) ∧ (n = 0 ∨ ∃ b o, a = some ⟨b, o, none⟩ ∧ b < w.heap.size ∧ Row w b o n f)

def worldB (n : Nat) (f : Nat → Int) : Bool := decide (1 ≤ n) && decide (n ≤ 7) && okB n f

theorem Ints.below {w w' : World} {B n : Nat} {a : Option Addr} {f : Nat → Int} (h : Ints w a n f) (hb : Below B w w') (hB : w.heap.size ≤ B) : Ints w' a n f := by
  obtain ⟨hm, h | ⟨b, o, rfl, hlt, hr⟩⟩ := h
  · exact ⟨hm, .inl h⟩
  · exact ⟨hm, .inr ⟨b, o, rfl, Nat.lt_of_lt_of_le hlt hb.size, hr.below hb (Nat.lt_of_lt_of_le hlt hB)⟩⟩

/-- behind worldOf: a world of its own, or none -/
def WorldOfEnd (n : Nat) (f : Nat → Int) (w : World) (e : Ending) (w' : World) : Prop :=
  Below w.heap.size w w' ∧ ((worldB n f = true ∧ e = .returned (.tuple #[.slice (some ⟨w.heap.size, 0, none⟩) n n, .bool true]) ∧ w.heap.size < w'.heap.size ∧ Row w' w.heap.size 0 n f)
    ∨ (worldB n f = false ∧ e = .returned (.tuple #[.slice none 0 0, .bool false])))

theorem worldOf_end (a : Option Addr) (n cap : Nat) (f : Nat → Int) (w : World) (hi : Ints w a n f) :
    Calls Tryd.prog 25 #[.slice a n cap] w (WorldOfEnd n f w) := by
  obtain ⟨⟨hm, _⟩, hi⟩ := hi
  by_cases h : n < 1 ∨ 7 < n
  · refine (worldOf_no a n cap h hm w).mono ?_
    rintro e w' ⟨rfl, rfl⟩
    refine ⟨Below.refl _ _, .inr ⟨?_, rfl⟩⟩
    unfold worldB
    rcases h with h | h
    · rw [decide_eq_false (show ¬ 1 ≤ n by omega)]; rfl
    · rw [decide_eq_false (show ¬ n ≤ 7 by omega)]; simp
  · have h1 : 1 ≤ n := by omega
    have h7 : n ≤ 7 := by omega
    rcases hi with hi | ⟨b, o, rfl, hlt, hr⟩
    · omega
    · have hw : worldB n f = okB n f := by unfold worldB; rw [decide_eq_true h1, decide_eq_true h7]; rfl
      refine (worldOf_any b o n cap f h1 h7 w hr hlt).mono ?_
      rintro e w' ⟨he, hb, hs, hrow⟩
      refine ⟨hb, ?_⟩
      rw [hw]
      cases hok : okB n f with
      | true => rw [hok] at he; exact .inl ⟨rfl, he, hs, hrow⟩
      | false => rw [hok] at he; exact .inr ⟨rfl, he⟩

set_option maxHeartbeats 800000 in
theorem WorldOk_any (a : Option Addr) (n cap : Nat) (f : Nat → Int) (w : World) (hi : Ints w a n f) :
    Calls Tryd.prog 9 #[.slice a n cap] w fun e w' => e = .returned (.bool (worldB n f)) ∧ Below w.heap.size w w' := by
  cases hb : worldB n f with
  | true =>
    have HB := Lib.hid hb; clear hb
    go_enter Tryd.func9, Tryd.ntmps9
    go_wp2_with fail
    refine (worldOf_end a n cap f w hi).mono ?_
    rintro e w' ⟨hbel, ⟨hb, rfl, hs, hr⟩ | ⟨hb, rfl⟩⟩
    · clear hb hr
      go_wp2_with fail
      go_ret
      exact ⟨rfl, hbel⟩
    · rw [HB.out] at hb; cases hb
  | false =>
    have HB := Lib.hid hb; clear hb
    go_enter Tryd.func9, Tryd.ntmps9
    go_wp2_with fail
    refine (worldOf_end a n cap f w hi).mono ?_
    rintro e w' ⟨hbel, ⟨hb, rfl, hs, hr⟩ | ⟨hb, rfl⟩⟩
    · rw [HB.out] at hb; cases hb
    · clear hb
      go_wp2_with fail
      go_ret
      exact ⟨rfl, hbel⟩
end Go.Proofs.YtidcfcjmjgcfkaaDoor
