import Derived.Test.YtidcfcjmjgcfkaaDoorSpecPart
import Derived.Shelf.Abstract
namespace Go.Proofs.YtidcfcjmjgcfkaaDoor
open Go.RowKit

/-- the set of the numbers below k that are asked for -/
def setOf (g : Nat → Bool) : Nat → Int
  | 0 => 0
  | k + 1 => if g k then orI (setOf g k) (2 ^ k) else setOf g k

theorem setOf_yes (g : Nat → Bool) (k : Nat) (h : g k = true) : setOf g (k + 1) = bits .or .i64 (setOf g k) (2 ^ k) := by
  rw [setOf, if_pos h]; rfl
theorem setOf_no (g : Nat → Bool) (k : Nat) (h : g k = false) : setOf g (k + 1) = setOf g k := by
  rw [setOf, if_neg (by rw [h]; decide)]

theorem hasB_pow (k i : Nat) : hasB (2 ^ k) i = decide (k = i) := by
  have h1 : ((2 ^ k : Nat) : Int) = 2 ^ k := by simp
  rw [← h1, hasB_nat, Nat.testBit_two_pow]

theorem setOf_I64 (g : Nat → Bool) (k : Nat) : I64 (setOf g k) := by
  induction k with
  | zero => exact I64_zero
  | succ k ih => rw [setOf]; split; exact orI_I64 _ _; exact ih

theorem setOf_bit (g : Nat → Bool) (k i : Nat) (hi : i < 64) : hasB (setOf g k) i = (decide (i < k) && g i) := by
  induction k with
  | zero => rw [setOf, hasB_zero]; simp
  | succ k ih =>
    rw [setOf]
    by_cases hg : g k = true
    · rw [if_pos hg, or_bit _ _ _ hi, ih, hasB_pow]
      by_cases h : k = i
      · subst h; rw [hg]; simp
      · rw [decide_eq_false h, Bool.or_false]
        by_cases h2 : i < k
        · rw [decide_eq_true h2, decide_eq_true (by omega)]
        · rw [decide_eq_false h2, decide_eq_false (by omega)]
    · rw [if_neg hg, ih]
      by_cases h : k = i
      · subst h; simp [hg]
      · by_cases h2 : i < k
        · rw [decide_eq_true h2, decide_eq_true (by omega)]
        · rw [decide_eq_false h2, decide_eq_false (by omega)]

theorem setOf_rng (g : Nat → Bool) (k : Nat) (hk : k ≤ 63) : 0 ≤ setOf g k ∧ setOf g k < 2 ^ k :=
  lt_of_bits _ k hk (setOf_I64 g k) (fun i hi hki => by rw [setOf_bit g k i hi, decide_eq_false (by omega)]; rfl)

theorem setOf_congr {g h : Nat → Bool} (k : Nat) (e : ∀ i, i < k → g i = h i) : setOf g k = setOf h k := by
  induction k with
  | zero => rfl
  | succ k ih => rw [setOf, setOf, ih (fun i hi => e i (by omega)), e k (by omega)]

set_option maxHeartbeats 800000 in
theorem those_any (K : Nat) (a : Option Addr) (n cap : Nat) (p1 p2 : Value) (g : Nat → Bool) (hn : n ≤ 7) (w : World)
    (hE : ∀ (args : Array Value) (w : World), Sem.run Tryd.prog (callFunc K args) w = .ok (.enter K args) w)
    (hF : Hid (∀ (wr : World) (b : Nat), b < n → Drew w wr → Calls Tryd.prog K #[.int .i64 b, p1, p2] wr fun e w' => e = .returned (.bool (g b)) ∧ Drew wr w')) :
    Calls Tryd.prog 55 #[.slice a n cap, .func (.func K) #[] #[p1, p2]] w fun e w' => e = .returned (.int .i64 (setOf g n)) ∧ Drew w w' := by
  go_enter Tryd.func55, Tryd.ntmps55
  go_wp2_with fail
  go_loopw [5, 9] (fun v i wr => ∃ k : Nat, k ≤ n ∧ i = .int .i64 k ∧ v = .int .i64 (setOf g k) ∧ Drew w wr) (fun _ i _ => n - (intOf i).toNat)
  case atStart => exact ⟨0, Nat.zero_le _, rfl, rfl, Drew.refl w⟩
  case round =>
    obtain ⟨k, hk, rfl, rfl, hd⟩ := hrel
    by_cases hlt : k < n
    · have hk7 : k < 7 := by omega
      have hp := pow_bounds k (by omega)
      obtain ⟨hp1, hp2⟩ := hp
      cases hg : g k with
      | true =>
        have HS := Lib.hid (setOf_yes g k hg); have HG := Lib.hid hg; clear hg
        go_wp2_with fail
        refine (hF.out wr k hlt hd).mono ?_
        rintro e w' ⟨rfl, hd'⟩
        rw [HG.out]
        go_wp2_with fail
        go_roundw
        case rel => exact ⟨k + 1, by omega, by go_num, by rw [HS.out], by obtain ⟨m, rfl⟩ := hd'; exact hd.more m⟩
        case measure => simp [intOf]; omega
      | false =>
        have HS := Lib.hid (setOf_no g k hg); have HG := Lib.hid hg; clear hg
        go_wp2_with fail
        refine (hF.out wr k hlt hd).mono ?_
        rintro e w' ⟨rfl, hd'⟩
        rw [HG.out]
        go_wp2_with fail
        go_roundw
        case rel => exact ⟨k + 1, by omega, by go_num, by rw [HS.out], by obtain ⟨m, rfl⟩ := hd'; exact hd.more m⟩
        case measure => simp [intOf]; omega
    · have hkn : k = n := by omega
      subst hkn
      go_wp2_with fail
      go_ret
      exact ⟨rfl, hd⟩

set_option maxHeartbeats 800000 in
theorem meetingC_any (bk off n cap p q : Nat) (x b : Nat) (f : Nat → Int) (hx : x < n) (hb : b < n) (w : World) (hr : Row w bk off n f)
    (hp : w.cell? ⟨p, 0, none⟩ = some (.slice (some ⟨bk, off, none⟩) n cap)) (hq : w.cell? ⟨q, 0, none⟩ = some (.int .i64 x)) :
    Calls Tryd.prog 56 #[.int .i64 b, .pointer (some ⟨p, 0, none⟩), .pointer (some ⟨q, 0, none⟩)] w fun e w' => e = .returned (.bool (andI (f x) (f b) != 0)) ∧ Drew w w' := by
  have hc := hr b hb
  have hcx := hr x hx
  go_enter Tryd.func56, Tryd.ntmps56
  go_wp2_with fail
  refine (overlap_any _ _ _ _ _ _ _ _ hx hb _ hcx hc).mono ?_
  rintro e w' ⟨rfl, m, rfl⟩
  go_wp2_with fail
  go_ret
  exact ⟨rfl, _, rfl⟩

theorem two_cells (w : World) (v1 v2 : Value) (t1 t2 : TypeId) :
    ((w.alloc (.cells #[v1] t1)).alloc (.cells #[v2] t2)).cell? ⟨w.heap.size, 0, none⟩ = some v1 ∧ ((w.alloc (.cells #[v1] t1)).alloc (.cells #[v2] t2)).cell? ⟨w.heap.size + 1, 0, none⟩ = some v2 ∧
    Below w.heap.size w ((w.alloc (.cells #[v1] t1)).alloc (.cells #[v2] t2)) := by
  have hsz : (w.alloc (.cells #[v1] t1)).heap.size = w.heap.size + 1 := by show (w.heap.push _).size = _; rw [Array.size_push]
  have hb1 : Below w.heap.size w (w.alloc (.cells #[v1] t1)) := (Below.refl _ _).alloc (Nat.le_refl _) _
  refine ⟨?_, ?_, hb1.alloc (by rw [hsz]; omega) _⟩
  · have := World.rowIs_alloc w #[v1] t1 (fun _ => v1) (by intro i hi; match i, hi with | 0, _ => rfl)
    exact (this.alloc _).cell (Nat.zero_lt_one)
  · have := World.rowIs_alloc (w.alloc (.cells #[v1] t1)) #[v2] t2 (fun _ => v2) (by intro i hi; match i, hi with | 0, _ => rfl)
    rw [hsz] at this
    exact this.cell (Nat.zero_lt_one)

def wholesI (n : Nat) (f : Nat → Int) (x : Nat) : Int := setOf (fun b => hasB (f b) x) n
def meetI (n : Nat) (f : Nat → Int) (x : Nat) : Int := setOf (fun b => andI (f x) (f b) != 0) n

set_option maxHeartbeats 800000 in
theorem meeting_any (bk n cap : Nat) (x : Nat) (f : Nat → Int) (hn : n ≤ 7) (hx : x < n) (w : World) (hr : Row w bk 0 n f) (hlt : bk < w.heap.size) :
    Calls Tryd.prog 46 #[.slice (some ⟨bk, 0, none⟩) n cap, .int .i64 x] w fun e w' => e = .returned (.int .i64 (meetI n f x)) ∧ Below w.heap.size w w' := by
  obtain ⟨hc1, hc2, hbel⟩ := two_cells w (.slice (some ⟨bk, 0, none⟩) n cap) (.int .i64 x) 41 3
  replace hr := hr.below hbel hlt
  have hE : ∀ (args : Array Value) (w : World), Sem.run Tryd.prog (callFunc 56 args) w = .ok (.enter 56 args) w := enters_of Tryd.func56 (by kernel_rfl) rfl
  have H1 := Lib.hid hc1; have H2 := Lib.hid hc2; have HE := Lib.hid hE; clear hc1 hc2 hE
  go_enter Tryd.func46, Tryd.ntmps46
  go_wp2_with fail
  refine (those_any _ _ _ _ _ _ (fun b => andI (f x) (f b) != 0) hn _ HE.out ?_).mono ?_
  · rintro wr b hb ⟨m, rfl⟩
    exact meetingC_any bk 0 n cap _ _ x b f hx hb _ (hr.drewN m) (by rw [World.cell?_drewN]; exact H1.out) (by rw [World.cell?_drewN]; exact H2.out)
  · rintro e w' ⟨rfl, m, rfl⟩
    go_wp2_with fail
    go_ret
    exact ⟨rfl, below_drewN hbel m⟩

def wholesB (n : Nat) (f : Nat → Int) (x : Int) : Int := if good1 n f x then wholesI n f x.toNat else -1
def meetB (n : Nat) (f : Nat → Int) (x : Int) : Int := if good1 n f x then meetI n f x.toNat else -1

theorem below_to {w w1 w2 : World} (h : Below w.heap.size w w1) (k : Below w1.heap.size w1 w2) : Below w.heap.size w w2 := h.trans (k.mono h.size)

end Go.Proofs.YtidcfcjmjgcfkaaDoor
