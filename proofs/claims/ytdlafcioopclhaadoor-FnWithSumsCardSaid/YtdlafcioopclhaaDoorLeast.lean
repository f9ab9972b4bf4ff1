import Derived.Test.YtdlafcioopclhaaDoorSums
import Derived.Test.YtdlafcioopclhaaDoorRestA
import Derived.Deep.RegionHeld3
import Derived.Test.YtdlafcioopclhaaDoorBaseB
namespace Go.Proofs.YtdlafcioopclhaaDoor
open Go.RowKit

set_option maxHeartbeats 800000 in
/-- those, where what is asked may make memory -/
theorem thoseB_any (K : Nat) (a : Option Addr) (n cap : Nat) (p1 p2 : Value) (g : Nat → Bool) (hn : n ≤ 7) (w : World)
    (hE : ∀ (args : Array Value) (w : World), Sem.run Tryd.prog (callFunc K args) w = .ok (.enter K args) w)
    (hF : Hid (∀ (wr : World) (b : Nat), b < n → Below w.heap.size w wr → Calls Tryd.prog K #[.int .i64 b, p1, p2] wr fun e w' => e = .returned (.bool (g b)) ∧ Below wr.heap.size wr w')) :
    Calls Tryd.prog 31 #[.slice a n cap, .func (.func K) #[] #[p1, p2]] w fun e w' => e = .returned (.int .i64 (setOf g n)) ∧ Below w.heap.size w w' := by
  go_enter Tryd.func31, Tryd.ntmps31
  go_wp2_with fail
  go_loopw [5, 9] (fun v i wr => ∃ k : Nat, k ≤ n ∧ i = .int .i64 k ∧ v = .int .i64 (setOf g k) ∧ Below w.heap.size w wr) (fun _ i _ => n - (intOf i).toNat)
  case atStart => exact ⟨0, Nat.zero_le _, rfl, rfl, Below.refl _ w⟩
  case round =>
    obtain ⟨k, hk, rfl, rfl, hd⟩ := hrel
    by_cases hlt : k < n
    · have hk7 : k < 7 := by omega
      have hp := pow_bounds k (by omega)
      obtain ⟨hp1, hp2⟩ := hp
      cases hg : g k with
      | true =>
        have HS := Lib.hid (setOf_yes g k hg); have HG := Lib.hid hg; clear hg
        go_wp2_with fail
        refine (hF.out wr k hlt hd).mono ?_
        rintro e w' ⟨rfl, hd'⟩
        rw [HG.out]
        go_wp2_with fail
        go_roundw
        case rel => exact ⟨k + 1, by omega, by go_num, by rw [HS.out], below_onto hd hd'⟩
        case measure => simp [intOf]; omega
      | false =>
        have HS := Lib.hid (setOf_no g k hg); have HG := Lib.hid hg; clear hg
        go_wp2_with fail
        refine (hF.out wr k hlt hd).mono ?_
        rintro e w' ⟨rfl, hd'⟩
        rw [HG.out]
        go_wp2_with fail
        go_roundw
        case rel => exact ⟨k + 1, by omega, by go_num, by rw [HS.out], below_onto hd hd'⟩
        case measure => simp [intOf]; omega
    · have hkn : k = n := by omega
      subst hkn
      go_wp2_with fail
      go_ret
      exact ⟨rfl, hd⟩

theorem below_onto' {w w1 w2 : World} (h : Below w.heap.size w w1) (k : Below w1.heap.size w1 w2) : Below w.heap.size w w2 := below_onto h k

set_option maxHeartbeats 1600000 in
theorem leastC_any (bk n cap p q : Nat) (b : Nat) (f : Nat → Int) (s : Int) (hn : n ≤ 7) (hb : b < n) (w : World) (hr : Row w bk 0 n f) (hlt : bk < w.heap.size) (hpl : p < w.heap.size) (hql : q < w.heap.size)
    (hp : w.cell? ⟨p, 0, none⟩ = some (.int .i64 s)) (hq : w.cell? ⟨q, 0, none⟩ = some (.slice (some ⟨bk, 0, none⟩) n cap)) :
    Calls Tryd.prog 32 #[.int .i64 b, .pointer (some ⟨p, 0, none⟩), .pointer (some ⟨q, 0, none⟩)] w fun e w' => e = .returned (.bool (leastG n f s b)) ∧ Below w.heap.size w w' := by
  have hb63 : b ≤ 63 := by omega
  have HR := Lib.hid hr; clear hr
  cases hg : hasB s b with
  | false =>
    have HF := Lib.hid (show leastG n f s b = false by unfold leastG; rw [hg]; rfl)
    have HG := Lib.hid hg; clear hg
    go_enter Tryd.func32, Tryd.ntmps32
    go_wp2_with fail
    go_quiet ((go_at_call 33; exact quiet_left (has_val _ _ false _ HG.out hb63)))
    go_wp2_with fail
    go_ret
    exact ⟨retb HF.out.symm, below_drewN (Below.refl _ _) _⟩
  | true =>
    have HF := Lib.hid (show leastG n f s b = withinB s (wholesI n f b) by unfold leastG; rw [hg]; rfl)
    have HG := Lib.hid hg; clear hg
    have HC := Lib.hid (show ∀ (W : World), Below w.heap.size w W → W.cell? ⟨p, 0, none⟩ = some (.int .i64 s) ∧ W.cell? ⟨q, 0, none⟩ = some (.slice (some ⟨bk, 0, none⟩) n cap) from
      fun W h => ⟨(h.cell (p := ⟨p, 0, none⟩) hpl).trans hp, (h.cell (p := ⟨q, 0, none⟩) hql).trans hq⟩)
    have HB := Lib.hid (Below.refl w.heap.size w)
    go_enter Tryd.func32, Tryd.ntmps32
    go_wp2_with fail
    go_region_held3 (fun w' => w'.cell? ⟨p, 0, none⟩ = some (.int .i64 s) ∧ w'.cell? ⟨q, 0, none⟩ = some (.slice (some ⟨bk, 0, none⟩) n cap)) (first | exact HC.out _ HB.out | go_keep)
      (first
        | (go_at_call 33; refine (has_val _ _ true _ HG.out hb63).mono ?_; rintro e w2 ⟨rfl, rfl⟩)
        | (go_at_call 29; refine (within_any _ _ _).mono ?_; rintro e w2 ⟨rfl, rfl⟩)
        | (go_at_call 34; refine (wholes_any bk n cap b f hn hb _ (by first | exact HR.out | exact HR.out.drewN _) (by first | exact hlt | (show bk < (World.drewN _ _).heap.size; exact hlt))).mono ?_; rintro e w2 ⟨rfl, h2⟩; replace HB := Lib.hid (by first | exact h2 | exact (below_drewN (Below.refl _ _) _).trans h2 : Below w.heap.size w w2); clear h2))
    all_goals
      go_wp2_with fail
      go_ret
      exact ⟨retb HF.out.symm, by first | exact HB.out | exact below_drewN HB.out _⟩

theorem least_nat (n : Nat) (f : Nat → Int) (s : Int) (hn : n ≤ 7) : ∃ X : Nat, leastI n f s = X ∧ X < 128 := by
  have h := setOf_rng (leastG n f s) n (by omega)
  have hp := (pow_bounds n hn).2
  obtain ⟨X, e⟩ := Int.eq_ofNat_of_zero_le h.1
  exact ⟨X, e, by omega⟩

def TwoEnd (i : Int) (v : Bool) (w : World) (e : Ending) (w' : World) : Prop := e = .returned (.tuple #[.int .i64 i, .bool v]) ∧ Below w.heap.size w w'
def TwoDrew (i : Int) (v : Bool) (w : World) (e : Ending) (w' : World) : Prop := e = .returned (.tuple #[.int .i64 i, .bool v]) ∧ Drew w w'

set_option maxHeartbeats 1600000 in
theorem least_any (bk n cap : Nat) (f : Nat → Int) (s : Int) (hn : n ≤ 7) (w : World) (hr : Row w bk 0 n f) (hlt : bk < w.heap.size) (hT : TabW w) :
    Calls Tryd.prog 19 #[.slice (some ⟨bk, 0, none⟩) n cap, .int .i64 s] w (TwoEnd (firstI (leastI n f s)) (leastI n f s != 0) w) := by
  obtain ⟨hc1, hc2, hbel⟩ := two_cells w (.slice (some ⟨bk, 0, none⟩) n cap) (.int .i64 s) 43 44
  have hlt1 : w.heap.size < ((w.alloc (.cells #[.slice (some ⟨bk, 0, none⟩) n cap] 43)).alloc (.cells #[.int .i64 s] 44)).heap.size := World.block_lt_of_cell? _ _ hc1
  have hlt2 : w.heap.size + 1 < ((w.alloc (.cells #[.slice (some ⟨bk, 0, none⟩) n cap] 43)).alloc (.cells #[.int .i64 s] 44)).heap.size := World.block_lt_of_cell? _ _ hc2
  replace hr := hr.below hbel hlt
  obtain ⟨X, hX, hX7⟩ := least_nat n f s hn
  have HX := Lib.hid hX; clear hX
  have HT := Lib.hid (hT.below hbel); clear hT
  have hE : ∀ (args : Array Value) (w : World), Sem.run Tryd.prog (callFunc 32 args) w = .ok (.enter 32 args) w := enters_of Tryd.func32 (by kernel_rfl) rfl
  have H1 := Lib.hid hc1; have H2 := Lib.hid hc2; have HE := Lib.hid hE; clear hc1 hc2 hE
  rw [HX.out]
  go_enter Tryd.func19, Tryd.ntmps19
  go_wp2_with fail
  refine (thoseB_any _ _ _ _ _ _ (leastG n f s) hn _ HE.out ?_).mono ?_
  · rintro wr b hb hd
    exact leastC_any bk n cap _ _ b f s hn hb _ (hr.below hd (by omega)) (Nat.lt_of_lt_of_le (by omega) hd.size) (Nat.lt_of_lt_of_le hlt2 hd.size) (Nat.lt_of_lt_of_le hlt1 hd.size)
      ((hd.cell (p := ⟨w.heap.size + 1, 0, none⟩) hlt2).trans H2.out) ((hd.cell (p := ⟨w.heap.size, 0, none⟩) hlt1).trans H1.out)
  · rintro e w' ⟨rfl, hd⟩
    rw [show setOf (leastG n f s) n = X from HX.out]
    replace HT := Lib.hid (HT.out.below hd)
    go_wp2_with fail
    refine (first_any X hX7 _ HT.out).mono ?_
    rintro e w3 ⟨rfl, rfl⟩
    go_wp2_with fail
    go_ret2
    exact ⟨rfl, below_onto hbel hd⟩

def leastOk (n : Nat) (f : Nat → Int) (s : Int) : Bool := setB n f s && (leastI n f (boundsI n f s) != 0)
def leastN (n : Nat) (f : Nat → Int) (s : Int) : Int := if setB n f s then firstI (leastI n f (boundsI n f s)) else -1

set_option maxHeartbeats 1600000 in
theorem LeastBound_any (a : Option Addr) (n cap : Nat) (f : Nat → Int) (s : Int) (hs64 : I64 s) (w : World) (hi : Ints w a n f) (hT : TabW w) :
    Calls Tryd.prog 10 #[.slice a n cap, .int .i64 s] w (TwoEnd (leastN n f s) (leastOk n f s) w) := by
  have HN := Lib.hid hi; have HT := Lib.hid hT; clear hi hT
  cases hs : setB n f s with
  | true =>
    have HF1 := Lib.hid (show leastN n f s = firstI (leastI n f (boundsI n f s)) by unfold leastN; rw [if_pos hs])
    have HF2 := Lib.hid (show leastOk n f s = (leastI n f (boundsI n f s) != 0) by unfold leastOk; rw [hs]; rfl)
    have h7 := (worldB_7 (setB_iff.1 hs).1).2
    have HS := Lib.hid hs; clear hs
    go_enter Tryd.func10, Tryd.ntmps10
    go_wp2_with fail
    refine (worldWithSet_any a n cap f s hs64 w HN.out).mono ?_
    rintro e w' ⟨hbel, ⟨hb, rfl, hlt, hr⟩ | ⟨hb, rfl⟩⟩
    · clear hb
      have HR := Lib.hid hr; clear hr
      go_wp2_with fail
      refine (bounds_any _ _ _ f s h7 _ HR.out hlt).mono ?_
      rintro e w'' ⟨rfl, hb2⟩
      replace HR := Lib.hid (HR.out.below hb2 hlt)
      replace HT := Lib.hid ((HT.out.below hbel).below hb2)
      go_wp2_with fail
      refine (least_any _ _ _ f (boundsI n f s) h7 _ HR.out (Nat.lt_of_lt_of_le hlt hb2.size) HT.out).mono ?_
      rintro e w3 ⟨rfl, hb3⟩
      go_wp2_with fail
      go_ret2
      exact ⟨by rw [HF1.out, HF2.out]; rfl, below_onto (below_onto hbel hb2) hb3⟩
    · rw [HS.out] at hb; cases hb
  | false =>
    have HF1 := Lib.hid (show leastN n f s = -1 by unfold leastN; rw [if_neg (by rw [hs]; decide)])
    have HF2 := Lib.hid (show leastOk n f s = false by unfold leastOk; rw [hs]; rfl)
    have HS := Lib.hid hs; clear hs
    go_enter Tryd.func10, Tryd.ntmps10
    go_wp2_with fail
    refine (worldWithSet_any a n cap f s hs64 w HN.out).mono ?_
    rintro e w' ⟨hbel, ⟨hb, rfl, hlt, hr⟩ | ⟨hb, rfl⟩⟩
    · rw [HS.out] at hb; cases hb
    · clear hb
      go_wp2_with fail
      go_ret2
      exact ⟨by rw [HF1.out, HF2.out]; rfl, hbel⟩

theorem LeastBound_val (a : Option Addr) (n cap : Nat) (f : Nat → Int) (s : Int) (i : Int) (v : Bool) (hs64 : I64 s) (w : World) (h1 : leastN n f s = i) (h2 : leastOk n f s = v) (hi : Ints w a n f) (hT : TabW w) :
    Calls Tryd.prog 10 #[.slice a n cap, .int .i64 s] w (TwoEnd i v w) := by
  subst h1; subst h2; exact LeastBound_any a n cap f s hs64 w hi hT
end Go.Proofs.YtdlafcioopclhaaDoor

namespace Go.Proofs.YtdlafcioopclhaaDoor
open Go.RowKit

theorem least_bit {n : Nat} {f : Nat → Int} {x : Int} {a : Nat} (ha : a < n) (hn : n ≤ 7) : hasB (leastI n f x) a = leastG n f x a := by
  unfold leastI; rw [setOf_bit _ _ _ (by omega), decide_eq_true ha, Bool.true_and]

/-- none of the first k is it -/
def noneB (n : Nat) (f : Nat → Int) (x : Int) (k : Nat) : Bool := decide (∀ a, a < k → leastG n f x a = false)
theorem none_zero (n : Nat) (f : Nat → Int) (x : Int) : noneB n f x 0 = true := decide_eq_true (fun _ h => absurd h (Nat.not_lt_zero _))
theorem none_step {n : Nat} {f : Nat → Int} {x : Int} {k : Nat} (h : noneB n f x k = true) (hg : leastG n f x k = false) : noneB n f x (k + 1) = true := by
  unfold noneB at h ⊢; rw [decide_eq_true_eq] at h ⊢
  intro a ha
  by_cases e : a = k
  · subst e; exact hg
  · exact h a (by omega)

theorem leastI_found {n : Nat} {f : Nat → Int} {x : Int} (h7 : n ≤ 7) {k : Nat} (hk : k < n) (h0 : noneB n f x k = true) (h1 : leastG n f x k = true) : firstI (leastI n f x) = k ∧ (leastI n f x != 0) = true := by
  obtain ⟨R, hR, hR7⟩ := least_nat n f x h7
  have hbit : ∀ i, i < n → R.testBit i = leastG n f x i := fun i hi => by rw [← hasB_nat, ← hR, least_bit hi h7]
  unfold noneB at h0; rw [decide_eq_true_eq] at h0
  have hlow : ∀ i, i < k → R.testBit i = false := fun i hi => by rw [hbit i (by omega)]; exact h0 i hi
  have hk2 : R.testBit k = true := by rw [hbit k hk, h1]
  obtain ⟨h3, _⟩ := ctz_at hR7 hk2 hlow
  have h4 : R ≠ 0 := by intro e; subst e; simp at hk2
  rw [hR]
  constructor
  · unfold firstI; rw [if_neg (by omega), Int.toNat_natCast, h3]
  · rw [bne_iff_ne]; omega

theorem leastI_none {n : Nat} {f : Nat → Int} {x : Int} (h0 : noneB n f x n = true) : leastI n f x = 0 := by
  unfold noneB at h0; rw [decide_eq_true_eq] at h0
  refine ext64 _ _ (setOf_I64 _ _) I64_zero (fun i hi => ?_)
  unfold leastI; rw [hasB_zero, setOf_bit _ _ _ hi]
  by_cases hin : i < n
  · rw [h0 i hin]; simp
  · rw [decide_eq_false hin]; rfl

theorem least_found {n : Nat} {f : Nat → Int} {s : Int} (hs : setB n f s = true) {k : Nat} (hk : k < n) (h0 : noneB n f (boundsI n f s) k = true) (h1 : leastG n f (boundsI n f s) k = true) : leastN n f s = k ∧ leastOk n f s = true := by
  have h7 := (worldB_7 (setB_iff.1 hs).1).2
  obtain ⟨e1, e2⟩ := leastI_found h7 hk h0 h1
  exact ⟨by unfold leastN; rw [if_pos hs, e1], by unfold leastOk; rw [hs, e2]; rfl⟩
theorem least_none {n : Nat} {f : Nat → Int} {s : Int} (hs : setB n f s = true) (h0 : noneB n f (boundsI n f s) n = true) : leastN n f s = -1 ∧ leastOk n f s = false := by
  have e := leastI_none h0
  exact ⟨by unfold leastN; rw [if_pos hs, e]; rfl, by unfold leastOk; rw [hs, e]; rfl⟩

theorem leastG_zero (n : Nat) (f : Nat → Int) (a : Nat) : leastG n f 0 a = false := by unfold leastG; rw [hasB_zero]; rfl

end Go.Proofs.YtdlafcioopclhaaDoor
