import Derived.Test.YthaickihoagnmaaGreatDoorQC9
import Derived.Deep.RegionHeld3
import Derived.Shelf.Strings.Builder1
import Derived.StillTailTactics
import Derived.RangeFuncNested
import Derived.RangeFuncBound
import Derived.RangeFuncCalls
import Derived.RangeFuncLeaves
import Derived.Shelf.Abstract
import Derived.Shelf.RegionOpen
import Derived.WalkKit
import Derived.OwnWalkIn
import Derived.TacticsInMore
import Derived.LoopNIn
import Derived.LoopIn
import Derived.Maps.OwnIn
import Derived.Shelf.Strings.OnBuilder
set_option linter.unusedVariables false
set_option linter.unusedSimpArgs false
set_option maxHeartbeats 12800000
namespace Go.Proofs.YthaickihoagnmaaGreatDoor
open Go.RowKit
def TwoEnd (i : Int) (v : Bool) (w : World) (e : Ending) (w' : World) : Prop := e = .returned (.tuple #[.int .i64 i, .bool v]) ∧ Below w.heap.size w w'
def TwoDrew (i : Int) (v : Bool) (w : World) (e : Ending) (w' : World) : Prop := e = .returned (.tuple #[.int .i64 i, .bool v]) ∧ Drew w w'
def noneG (g : Nat → Bool) (k : Nat) : Bool := decide (∀ a, a < k → g a = false)
theorem noneG_zero (g : Nat → Bool) : noneG g 0 = true := decide_eq_true (fun _ h => absurd h (Nat.not_lt_zero _))
theorem noneG_step {g : Nat → Bool} {k : Nat} (h : noneG g k = true) (hg : g k = false) : noneG g (k + 1) = true := by
  unfold noneG at h ⊢; rw [decide_eq_true_eq] at h ⊢
  intro a ha
  by_cases e : a = k
  · subst e; exact hg
  · exact h a (by omega)
theorem setOf_nat (g : Nat → Bool) (n : Nat) (hn : n ≤ 7) : ∃ X : Nat, setOf g n = X ∧ X < 128 := by
  have h := setOf_rng g n (by omega)
  have hp := (pow_bounds n hn).2
  obtain ⟨X, e⟩ := Int.eq_ofNat_of_zero_le h.1
  exact ⟨X, e, by omega⟩
theorem firstI_found {g : Nat → Bool} {n k : Nat} (h7 : n ≤ 7) (hk : k < n) (h0 : noneG g k = true) (h1 : g k = true) : firstI (setOf g n) = k ∧ (setOf g n != 0) = true := by
  obtain ⟨R, hR, hR7⟩ := setOf_nat g n h7
  have hbit : ∀ i, i < n → R.testBit i = g i := fun i hi => by rw [← hasB_nat, ← hR, setOf_bit _ _ _ (by omega), decide_eq_true hi, Bool.true_and]
  unfold noneG at h0; rw [decide_eq_true_eq] at h0
  have hlow : ∀ i, i < k → R.testBit i = false := fun i hi => by rw [hbit i (by omega)]; exact h0 i hi
  have hk2 : R.testBit k = true := by rw [hbit k hk, h1]
  obtain ⟨h3, _⟩ := ctz_at hR7 hk2 hlow
  have h4 : R ≠ 0 := by intro e; subst e; simp at hk2
  rw [hR]
  constructor
  · unfold firstI; rw [if_neg (by omega), Int.toNat_natCast, h3]
  · rw [bne_iff_ne]; omega
theorem setOf_none {g : Nat → Bool} {n : Nat} (h0 : noneG g n = true) : setOf g n = 0 := by
  unfold noneG at h0; rw [decide_eq_true_eq] at h0
  refine ext64 _ _ (setOf_I64 _ _) I64_zero (fun i hi => ?_)
  rw [hasB_zero, setOf_bit _ _ _ hi]
  by_cases hin : i < n
  · rw [h0 i hin]; simp
  · rw [decide_eq_false hin]; rfl
theorem setOf_some {g : Nat → Bool} {n : Nat} (_ : n ≤ 7) (h : (setOf g n != 0) = true) : ∃ a, a < n ∧ g a = true := by
  obtain ⟨i, hi, hb⟩ := (nonzero_iff _ (setOf_I64 g n)).1 h
  rw [setOf_bit _ _ _ hi, Bool.and_eq_true, decide_eq_true_eq] at hb
  exact ⟨i, hb.1, hb.2⟩
def topG (f : Nat → Int) (s : Int) (a : Nat) : Bool := hasB s a && withinB s (f a)
def topI (n : Nat) (f : Nat → Int) (s : Int) : Int := setOf (topG f s) n
def ansN (g : Bool) (n : Nat) (f : Nat → Int) (s : Int) : Int := if g then firstI (topI n f s) else -1
def ansOk (g : Bool) (n : Nat) (f : Nat → Int) (s : Int) : Bool := g && (topI n f s != 0)
theorem topG_iff {f : Nat → Int} {s : Int} {a : Nat} : topG f s a = true ↔ hasB s a = true ∧ ∀ i, i < 64 → hasB s i = true → hasB (f a) i = true := by
  unfold topG; rw [Bool.and_eq_true, within_iff]
theorem topG_uniq {n : Nat} {f : Nat → Int} (hP : WorldP n f) {s : Int} {a b : Nat} (ha : a < n) (hb : b < n) (h1 : topG f s a = true) (h2 : topG f s b = true) : a = b := by
  have h7 := hP.hi
  rw [topG_iff] at h1 h2
  exact anti_eq hP ha hb (h1.2 b (by omega) h2.1) (h2.2 a (by omega) h1.1)
theorem ans_at {n : Nat} {f : Nat → Int} (hP : WorldP n f) {s : Int} {k : Nat} (hk : k < n) (h1 : topG f s k = true) : ansN true n f s = k ∧ ansOk true n f s = true := by
  have hno : noneG (topG f s) k = true := decide_eq_true (fun a ha => by
    cases e : topG f s a with
    | false => rfl
    | true => have := topG_uniq hP (by omega) hk e h1; omega)
  obtain ⟨e1, e2⟩ := firstI_found hP.hi hk hno h1
  exact ⟨by unfold ansN topI; rw [if_pos rfl, e1], by unfold ansOk topI; rw [e2]; rfl⟩
theorem ans_on {g : Bool} {n : Nat} {f : Nat → Int} {s : Int} (hP : g = true → WorldP n f) (h : ansOk g n f s = true) : g = true ∧ ∃ C : Nat, C < n ∧ ansN g n f s = C ∧ topG f s C = true := by
  have hg : g = true := by unfold ansOk at h; cases g with | true => rfl | false => cases h
  subst hg
  have hP := hP rfl
  have h2 : (setOf (topG f s) n != 0) = true := by unfold ansOk topI at h; simpa using h
  obtain ⟨a, ha, hh⟩ := setOf_some hP.hi h2
  exact ⟨rfl, a, ha, (ans_at hP ha hh).1, hh⟩
def commonS (n : Nat) (f : Nat → Int) (a b : Nat) : Int := setOf (fun c => hasB (f a) c && hasB (f b) c) n
def leftS (n : Nat) (f : Nat → Int) (a b : Nat) : Int := setOf (fun c => hasB (f a) c && !(andI (f c) (f b) != 0)) n
def wholeS (n : Nat) : Int := setOf (fun _ => true) n
theorem common_and {n : Nat} {f : Nat → Int} (hP : WorldP n f) {a b : Nat} (ha : a < n) : commonS n f a b = bits .and .i64 (f a) (f b) := by
  refine ext64 _ _ (setOf_I64 _ _) (andI_I64 _ _) (fun i hi => ?_)
  show _ = hasB (andI _ _) i
  unfold commonS; rw [setOf_bit _ _ _ hi, and_bit _ _ _ hi]
  by_cases hin : i < n
  · rw [decide_eq_true hin, Bool.true_and]
  · rw [decide_eq_false hin, Bool.false_and]
    cases e : hasB (f a) i with
    | false => rfl
    | true => exact absurd (hasB_lt (hP.rng a ha) e) hin
theorem whole_low (n : Nat) (hn : n ≤ 7) : wholeS n = 2 ^ n - 1 := by
  have hp := pow_bounds n hn
  refine ext64 _ _ (setOf_I64 _ _) (by unfold I64; omega) (fun i hi => ?_)
  unfold wholeS; rw [setOf_bit _ _ _ hi, hasB_low, Bool.and_true]
theorem common_bit {n : Nat} {f : Nat → Int} {a b c : Nat} (hc : c < n) (hn : n ≤ 7) : hasB (commonS n f a b) c = (hasB (f a) c && hasB (f b) c) := by
  unfold commonS; rw [setOf_bit _ _ _ (by omega), decide_eq_true hc, Bool.true_and]
theorem set_lt {g : Nat → Bool} {n i : Nat} (hn : n ≤ 7) (h : hasB (setOf g n) i = true) : i < n ∧ g i = true := by
  have hi : i < n := hasB_lt (setOf_rng g n (by omega)) h
  rw [setOf_bit _ _ _ (by omega), Bool.and_eq_true, decide_eq_true_eq] at h
  exact h
theorem common_self {n : Nat} {f : Nat → Int} (hP : WorldP n f) {a b : Nat} (ha : a < n) (_ : b < n) (h : hasB (f b) a = true) : topG f (commonS n f a b) a = true := by
  have h7 := hP.hi
  rw [topG_iff]
  refine ⟨by rw [common_bit ha h7, hP.self a ha, h]; rfl, fun i hi hh => ?_⟩
  obtain ⟨_, h3⟩ := set_lt h7 hh
  rw [Bool.and_eq_true] at h3; exact h3.1
theorem those0_any (K : Nat) (a : Option Addr) (n cap : Nat) (g : Nat → Bool) (hn : n ≤ 7) (w : World)
    (hE : ∀ (args : Array Value) (w : World), Sem.run Tryz.prog (callFunc K args) w = .ok (.enter K args) w)
    (hF : Hid (∀ (wr : World) (b : Nat), b < n → Drew w wr → Calls Tryz.prog K #[.int .i64 b] wr fun e w' => e = .returned (.bool (g b)) ∧ Drew wr w')) :
    Calls Tryz.prog 215 #[.slice a n cap, .func (.func K) #[] #[]] w fun e w' => e = .returned (.int .i64 (setOf g n)) ∧ Drew w w' := by
  go_enter Tryz.func215, Tryz.ntmps215
  go_wp2_with fail
  go_loopw [5, 9] (fun v i wr => ∃ k : Nat, k ≤ n ∧ i = .int .i64 k ∧ v = .int .i64 (setOf g k) ∧ Drew w wr) (fun _ i _ => n - (intOf i).toNat)
  case atStart => exact ⟨0, Nat.zero_le _, rfl, rfl, Drew.refl w⟩
  case round =>
    obtain ⟨k, hk, rfl, rfl, hd⟩ := hrel
    by_cases hlt : k < n
    · have hk7 : k < 7 := by omega
      have hp := pow_bounds k (by omega)
      obtain ⟨hp1, hp2⟩ := hp
      cases hg : g k with
      | true =>
        have HS := Lib.hid (setOf_yes g k hg); have HG := Lib.hid hg; clear hg
        go_wp2_with fail
        refine (hF.out wr k hlt hd).mono ?_
        rintro e w' ⟨rfl, hd'⟩
        rw [HG.out]
        go_wp2_with fail
        go_roundw
        case rel => exact ⟨k + 1, by omega, by go_num, by rw [HS.out], by obtain ⟨m, rfl⟩ := hd'; exact hd.more m⟩
        case measure => simp [intOf]; omega
      | false =>
        have HS := Lib.hid (setOf_no g k hg); have HG := Lib.hid hg; clear hg
        go_wp2_with fail
        refine (hF.out wr k hlt hd).mono ?_
        rintro e w' ⟨rfl, hd'⟩
        rw [HG.out]
        go_wp2_with fail
        go_roundw
        case rel => exact ⟨k + 1, by omega, by go_num, by rw [HS.out], by obtain ⟨m, rfl⟩ := hd'; exact hd.more m⟩
        case measure => simp [intOf]; omega
    · have hkn : k = n := by omega
      subst hkn
      go_wp2_with fail
      go_ret
      exact ⟨rfl, hd⟩
theorem those3_any (K : Nat) (a : Option Addr) (n cap : Nat) (p1 p2 p3 : Value) (g : Nat → Bool) (hn : n ≤ 7) (w : World)
    (hE : ∀ (args : Array Value) (w : World), Sem.run Tryz.prog (callFunc K args) w = .ok (.enter K args) w)
    (hF : Hid (∀ (wr : World) (b : Nat), b < n → Drew w wr → Calls Tryz.prog K #[.int .i64 b, p1, p2, p3] wr fun e w' => e = .returned (.bool (g b)) ∧ Drew wr w')) :
    Calls Tryz.prog 215 #[.slice a n cap, .func (.func K) #[] #[p1, p2, p3]] w fun e w' => e = .returned (.int .i64 (setOf g n)) ∧ Drew w w' := by
  go_enter Tryz.func215, Tryz.ntmps215
  go_wp2_with fail
  go_loopw [5, 9] (fun v i wr => ∃ k : Nat, k ≤ n ∧ i = .int .i64 k ∧ v = .int .i64 (setOf g k) ∧ Drew w wr) (fun _ i _ => n - (intOf i).toNat)
  case atStart => exact ⟨0, Nat.zero_le _, rfl, rfl, Drew.refl w⟩
  case round =>
    obtain ⟨k, hk, rfl, rfl, hd⟩ := hrel
    by_cases hlt : k < n
    · have hk7 : k < 7 := by omega
      have hp := pow_bounds k (by omega)
      obtain ⟨hp1, hp2⟩ := hp
      cases hg : g k with
      | true =>
        have HS := Lib.hid (setOf_yes g k hg); have HG := Lib.hid hg; clear hg
        go_wp2_with fail
        refine (hF.out wr k hlt hd).mono ?_
        rintro e w' ⟨rfl, hd'⟩
        rw [HG.out]
        go_wp2_with fail
        go_roundw
        case rel => exact ⟨k + 1, by omega, by go_num, by rw [HS.out], by obtain ⟨m, rfl⟩ := hd'; exact hd.more m⟩
        case measure => simp [intOf]; omega
      | false =>
        have HS := Lib.hid (setOf_no g k hg); have HG := Lib.hid hg; clear hg
        go_wp2_with fail
        refine (hF.out wr k hlt hd).mono ?_
        rintro e w' ⟨rfl, hd'⟩
        rw [HG.out]
        go_wp2_with fail
        go_roundw
        case rel => exact ⟨k + 1, by omega, by go_num, by rw [HS.out], by obtain ⟨m, rfl⟩ := hd'; exact hd.more m⟩
        case measure => simp [intOf]; omega
    · have hkn : k = n := by omega
      subst hkn
      go_wp2_with fail
      go_ret
      exact ⟨rfl, hd⟩
theorem overlap_val (bk off len cap : Nat) (a b : Nat) (x y : Int) (v : Bool) (ha : a < len) (hb : b < len) (w : World) (hv : (andI x y != 0) = v) (hca : w.cell? ⟨bk, off + a, none⟩ = some (.int .i64 x)) (hcb : w.cell? ⟨bk, off + b, none⟩ = some (.int .i64 y)) :
    Calls Tryz.prog 225 #[.slice (some ⟨bk, off, none⟩) len cap, .int .i64 a, .int .i64 b] w fun e w' => e = .returned (.bool v) ∧ Drew w w' := by
  subst hv; exact overlap_any bk off len cap a b x y ha hb w hca hcb
theorem three_cells (w : World) (v1 v2 v3 : Value) (t1 t2 t3 : TypeId) :
    (((w.alloc (.cells #[v1] t1)).alloc (.cells #[v2] t2)).alloc (.cells #[v3] t3)).cell? ⟨w.heap.size, 0, none⟩ = some v1 ∧ (((w.alloc (.cells #[v1] t1)).alloc (.cells #[v2] t2)).alloc (.cells #[v3] t3)).cell? ⟨w.heap.size + 1, 0, none⟩ = some v2 ∧
    (((w.alloc (.cells #[v1] t1)).alloc (.cells #[v2] t2)).alloc (.cells #[v3] t3)).cell? ⟨w.heap.size + 1 + 1, 0, none⟩ = some v3 ∧ Below w.heap.size w (((w.alloc (.cells #[v1] t1)).alloc (.cells #[v2] t2)).alloc (.cells #[v3] t3)) := by
  obtain ⟨h1, h2, hb⟩ := two_cells w v1 v2 t1 t2
  obtain ⟨h3, hb3, hs3⟩ := cell_new ((w.alloc (.cells #[v1] t1)).alloc (.cells #[v2] t2)) v3 t3
  have hsz : ((w.alloc (.cells #[v1] t1)).alloc (.cells #[v2] t2)).heap.size = w.heap.size + 1 + 1 := by
    show ((w.heap.push _).push _).size = _; rw [Array.size_push, Array.size_push]
  rw [hsz] at h3
  exact ⟨(hb3.cell (p := ⟨w.heap.size, 0, none⟩) (by show w.heap.size < _; omega)).trans h1, (hb3.cell (p := ⟨w.heap.size + 1, 0, none⟩) (by show w.heap.size + 1 < _; omega)).trans h2, h3, below_onto hb hb3⟩
theorem greatestC_any (bk n cap p q : Nat) (b : Nat) (f : Nat → Int) (s : Int) (hn : n ≤ 7) (hb : b < n) (w : World) (hr : Row w bk 0 n f)
    (hp : w.cell? ⟨p, 0, none⟩ = some (.int .i64 s)) (hq : w.cell? ⟨q, 0, none⟩ = some (.slice (some ⟨bk, 0, none⟩) n cap)) :
    Calls Tryz.prog 237 #[.int .i64 b, .pointer (some ⟨p, 0, none⟩), .pointer (some ⟨q, 0, none⟩)] w fun e w' => e = .returned (.bool (topG f s b)) ∧ Drew w w' := by
  have hc := hr b hb
  rw [Nat.zero_add] at hc
  have hbi : (b : Int) < (n : Int) := by omega
  have hb63 : b ≤ 63 := by omega
  clear hr
  cases hg : hasB s b with
  | false =>
    have HF := Lib.hid (show topG f s b = false by unfold topG; rw [hg]; rfl)
    have HG := Lib.hid hg; clear hg
    go_enter Tryz.func237, Tryz.ntmps237
    go_wp2_with fail
    go_quiet ((go_at_call 177; exact quiet_left (has_val _ _ false _ HG.out hb63)))
    go_wp2_with fail
    go_ret
    exact ⟨retb HF.out.symm, _, rfl⟩
  | true =>
    cases hw : withinB s (f b) with
    | true =>
      have HF := Lib.hid (show topG f s b = true by unfold topG; rw [hg, hw]; rfl)
      have HG := Lib.hid hg; have HW := Lib.hid hw; clear hg hw
      go_enter Tryz.func237, Tryz.ntmps237
      go_wp2_with fail
      go_quiet (first | (go_at_call 177; exact quiet_left (has_val _ _ true _ HG.out hb63)) | (go_at_call 174; exact quiet_left (within_val _ _ true _ HW.out)))
      go_wp2_with fail
      go_ret
      exact ⟨retb HF.out.symm, _, rfl⟩
    | false =>
      have HF := Lib.hid (show topG f s b = false by unfold topG; rw [hg, hw]; rfl)
      have HG := Lib.hid hg; have HW := Lib.hid hw; clear hg hw
      go_enter Tryz.func237, Tryz.ntmps237
      go_wp2_with fail
      go_quiet (first | (go_at_call 177; exact quiet_left (has_val _ _ true _ HG.out hb63)) | (go_at_call 174; exact quiet_left (within_val _ _ false _ HW.out)))
      go_wp2_with fail
      go_ret
      exact ⟨retb HF.out.symm, _, rfl⟩
/-- of those that are asked for the one of which all are parts -/
theorem greatest_any (bk n cap : Nat) (f : Nat → Int) (asked : Value) (g : Nat → Bool) (hn : n ≤ 7) (w : World) (hr : Row w bk 0 n f) (hlt : bk < w.heap.size) (hT : TabW w)
    (hA : Hid (∀ wr : World, Below w.heap.size w wr → Calls Tryz.prog 215 #[.slice (some ⟨bk, 0, none⟩) n cap, asked] wr fun e w' => e = .returned (.int .i64 (setOf g n)) ∧ Drew wr w')) :
    Calls Tryz.prog 218 #[.slice (some ⟨bk, 0, none⟩) n cap, asked] w (TwoEnd (firstI (topI n f (setOf g n))) (topI n f (setOf g n) != 0) w) := by
  have hmf : ∀ (fn : Fn) (first cap : Array Value) (w : World), (Instr.makeFunc fn first cap).run Tryz.prog w = .ok (.func fn first cap) w := fun _ _ _ _ => rfl
  obtain ⟨S, hS⟩ : ∃ S, setOf g n = S := ⟨_, rfl⟩
  rw [hS] at hA ⊢
  clear hS
  obtain ⟨X, hX, hX7⟩ := setOf_nat (topG f S) n hn
  have HX := Lib.hid hX; clear hX
  obtain ⟨c1, b1, s1⟩ := cell_new w (.slice (some ⟨bk, 0, none⟩) n cap) 136
  have HE := Lib.hid (enters_of (P := Tryz.prog) Tryz.func237 (by kernel_rfl) rfl)
  have HR := Lib.hid hr; have HT := Lib.hid hT; have HB1 := Lib.hid b1; have HS1 := Lib.hid s1; clear hr hT b1 s1
  rw [show topI n f S = X from HX.out]
  go_enter Tryz.func218, Tryz.ntmps218
  go_wp2_with fail
  refine (hA.out _ HB1.out).mono ?_
  rintro e w2 ⟨rfl, hd2⟩
  have hb2 := hd2.below
  have hs2 : w.heap.size + 1 ≤ w2.heap.size := by have := hb2.size; rw [HS1.out] at this; exact this
  have hq2 := (hb2.cell (p := ⟨w.heap.size, 0, none⟩) (by rw [HS1.out]; show w.heap.size < w.heap.size + 1; omega)).trans c1
  have hB2 := below_onto HB1.out hb2
  obtain ⟨c3, b3, s3⟩ := cell_new w2 (.int .i64 S) 153
  have hq3 := (b3.cell (p := ⟨w.heap.size, 0, none⟩) (by show w.heap.size < w2.heap.size; omega)).trans hq2
  have HB3 := Lib.hid (below_onto hB2 b3)
  have HC3 := Lib.hid c3; have HQ3 := Lib.hid hq3; have HQ2 := Lib.hid hq2
  clear hb2 hB2 b3 c1 c3 hq2 hd2
  go_wp2_with fail
  refine (those_any _ _ _ _ _ _ (topG f S) hn _ HE.out ?_).mono ?_
  · rintro wr b hb ⟨m, rfl⟩
    exact greatestC_any bk n cap _ _ b f S hn hb _ ((HR.out.below HB3.out hlt).drewN m) (by rw [World.cell?_drewN]; exact HC3.out) (by rw [World.cell?_drewN]; exact HQ3.out)
  · rintro e w4 ⟨rfl, hd4⟩
    rw [show setOf (topG f S) n = X from HX.out]
    have HB4 := Lib.hid (below_onto HB3.out hd4.below)
    have HT4 := Lib.hid (HT.out.below HB4.out)
    clear hd4
    go_wp2_with fail
    refine (first_any X hX7 _ HT4.out).mono ?_
    rintro e w5 ⟨rfl, rfl⟩
    go_wp2_with fail
    go_ret2
    exact ⟨rfl, HB4.out⟩
theorem nothing_any (v : Value) (w : World) : Calls Tryz.prog 217 #[v] w fun e w' => e = .returned (.tuple #[.int .i64 (-1), .bool false]) ∧ w = w' := by
  go_enter Tryz.func217, Tryz.ntmps217
  go_wp2_with fail
  go_ret2
  exact ⟨rfl, rfl⟩
def SearchEnd (n : Nat) (f : Nat → Int) (G : Bool) (bk : Nat) (w : World) (e : Ending) (w' : World) : Prop :=
  Below w.heap.size w w' ∧ ((G = true ∧ e = .returned (.tuple #[.slice (some ⟨bk, 0, none⟩) n n, .func (.func 218) #[.slice (some ⟨bk, 0, none⟩) n n] #[]]) ∧ Row w' bk 0 n f)
    ∨ (G = false ∧ e = .returned (.tuple #[.slice none 0 0, .func (.func 217) #[] #[]])))
theorem searchOf_any (va vn : Value) (n bk : Nat) (f : Nat → Int) (G : Bool) (w w0 : World)
    (h : Calls Tryz.prog 212 #[va, vn] w fun e w' => Below w0.heap.size w0 w' ∧ ((G = true ∧ e = .returned (.tuple #[.slice (some ⟨bk, 0, none⟩) n n, .bool true]) ∧ Row w' bk 0 n f) ∨ (G = false ∧ e = .returned (.tuple #[.slice none 0 0, .bool false])))) :
    Calls Tryz.prog 190 #[va, vn] w (SearchEnd n f G bk w0) := by
  have hmf : ∀ (fn : Fn) (first cap : Array Value) (w : World), (Instr.makeFunc fn first cap).run Tryz.prog w = .ok (.func fn first cap) w := fun _ _ _ _ => rfl
  have H := Lib.hid h; clear h
  go_enter Tryz.func190, Tryz.ntmps190
  go_wp2_with fail
  refine H.out.mono ?_
  rintro e w' ⟨hbel, ⟨hb, rfl, hr⟩ | ⟨hb, rfl⟩⟩
  · have HB := Lib.hid hb; clear hb
    go_wp2_with fail
    go_ret2
    exact ⟨hbel, .inl ⟨HB.out, rfl, hr⟩⟩
  · have HB := Lib.hid hb; clear hb
    go_wp2_with fail
    go_ret2
    exact ⟨hbel, .inr ⟨HB.out, rfl⟩⟩
/-- worldWith without numbers -/
theorem with0 (a : Option Addr) (n cap : Nat) (f : Nat → Int) (w : World) (hi : Ints w a n f) :
    Calls Tryz.prog 212 #[.slice a n cap, .slice none 0 0] w fun e w' => Below w.heap.size w w' ∧ ((worldB n f = true ∧ e = .returned (.tuple #[.slice (some ⟨w.heap.size, 0, none⟩) n n, .bool true]) ∧ Row w' w.heap.size 0 n f) ∨ (worldB n f = false ∧ e = .returned (.tuple #[.slice none 0 0, .bool false]))) := by
  have HI := Lib.hid hi; clear hi
  go_enter Tryz.func212, Tryz.ntmps212
  go_wp2_with fail
  refine (worldOf_end a n cap f w HI.out).mono ?_
  rintro e w' ⟨hbel, ⟨hb, rfl, hs, hr⟩ | ⟨hb, rfl⟩⟩
  · have HB := Lib.hid hb; clear hb
    go_wp2_with fail
    go_loop [19] (fun i => i = .int .i64 0) (fun _ => 0)
    case atStart => rfl
    case round =>
      subst hrel
      go_wp2_with fail
      go_ret2
      exact ⟨hbel, .inl ⟨HB.out, rfl, hr⟩⟩
  · have HB := Lib.hid hb; clear hb
    go_wp2_with fail
    go_ret2
    exact ⟨hbel, .inr ⟨HB.out, rfl⟩⟩
theorem commonC_any (bk n cap p q r : Nat) (a b c : Nat) (f : Nat → Int) (hn : n ≤ 7) (ha : a < n) (hb : b < n) (hc : c < n) (w : World) (hr : Row w bk 0 n f)
    (hp : w.cell? ⟨p, 0, none⟩ = some (.slice (some ⟨bk, 0, none⟩) n cap)) (hq : w.cell? ⟨q, 0, none⟩ = some (.int .i64 a)) (hr2 : w.cell? ⟨r, 0, none⟩ = some (.int .i64 b)) :
    Calls Tryz.prog 223 #[.int .i64 c, .pointer (some ⟨p, 0, none⟩), .pointer (some ⟨q, 0, none⟩), .pointer (some ⟨r, 0, none⟩)] w fun e w' => e = .returned (.bool (hasB (f a) c && hasB (f b) c)) ∧ Drew w w' := by
  have HA := Lib.hid (hr a ha); have HB := Lib.hid (hr b hb); clear hr
  cases h1 : hasB (f a) c with
  | false =>
    have H1 := Lib.hid h1; clear h1
    go_enter Tryz.func223, Tryz.ntmps223
    go_wp2_with fail
    refine (part_val bk 0 n cap c a (f a) false ha (by omega) _ H1.out HA.out).mono ?_
    rintro e w' ⟨rfl, rfl⟩
    go_wp2_with fail
    go_ret
    exact ⟨rfl, Drew.refl _⟩
  | true =>
    have H1 := Lib.hid h1; clear h1
    go_enter Tryz.func223, Tryz.ntmps223
    go_wp2_with fail
    refine (part_val bk 0 n cap c a (f a) true ha (by omega) _ H1.out HA.out).mono ?_
    rintro e w' ⟨rfl, rfl⟩
    go_wp2_with fail
    refine (part_val bk 0 n cap c b (f b) _ hb (by omega) _ rfl HB.out).mono ?_
    rintro e w' ⟨rfl, rfl⟩
    go_wp2_with fail
    go_ret
    exact ⟨by rw [Bool.true_and]; rfl, Drew.refl _⟩
theorem leftC_any (bk n cap p q r : Nat) (a b c : Nat) (f : Nat → Int) (hn : n ≤ 7) (ha : a < n) (hb : b < n) (hc : c < n) (w : World) (hr : Row w bk 0 n f)
    (hp : w.cell? ⟨p, 0, none⟩ = some (.slice (some ⟨bk, 0, none⟩) n cap)) (hq : w.cell? ⟨q, 0, none⟩ = some (.int .i64 a)) (hr2 : w.cell? ⟨r, 0, none⟩ = some (.int .i64 b)) :
    Calls Tryz.prog 224 #[.int .i64 c, .pointer (some ⟨p, 0, none⟩), .pointer (some ⟨q, 0, none⟩), .pointer (some ⟨r, 0, none⟩)] w fun e w' => e = .returned (.bool (hasB (f a) c && !(andI (f c) (f b) != 0))) ∧ Drew w w' := by
  have hnot : ∀ (x : Bool) (w : World), (Op.unary .not (.bool x)).run Tryz.prog w = .ok (.bool (!x)) w := fun _ _ => rfl
  have HA := Lib.hid (hr a ha); have HB := Lib.hid (hr b hb); have HC := Lib.hid (hr c hc); clear hr
  cases h1 : hasB (f a) c with
  | false =>
    have H1 := Lib.hid h1; clear h1
    go_enter Tryz.func224, Tryz.ntmps224
    go_wp2_with fail
    refine (part_val bk 0 n cap c a (f a) false ha (by omega) _ H1.out HA.out).mono ?_
    rintro e w' ⟨rfl, rfl⟩
    go_wp2_with fail
    go_ret
    exact ⟨rfl, Drew.refl _⟩
  | true =>
    have H1 := Lib.hid h1; clear h1
    go_enter Tryz.func224, Tryz.ntmps224
    go_wp2_with fail
    refine (part_val bk 0 n cap c a (f a) true ha (by omega) _ H1.out HA.out).mono ?_
    rintro e w' ⟨rfl, rfl⟩
    go_wp2_with fail
    refine (overlap_val bk 0 n cap c b (f c) (f b) _ hc hb _ rfl HC.out HB.out).mono ?_
    rintro e w' ⟨rfl, hd⟩
    go_wp2_with fail
    go_ret
    exact ⟨by rw [Bool.true_and]; rfl, hd⟩
theorem wholeC_any (c : Nat) (w : World) : Calls Tryz.prog 219 #[.int .i64 c] w fun e w' => e = .returned (.bool true) ∧ Drew w w' := by
  go_enter Tryz.func219, Tryz.ntmps219
  go_wp2_with fail
  go_ret
  exact ⟨rfl, Drew.refl _⟩
theorem common_any (bk n cap : Nat) (a b : Nat) (f : Nat → Int) (hn : n ≤ 7) (ha : a < n) (hb : b < n) (w : World) (hr : Row w bk 0 n f) (hlt : bk < w.heap.size) (hT : TabW w) :
    Calls Tryz.prog 194 #[.slice (some ⟨bk, 0, none⟩) n cap, .int .i64 a, .int .i64 b, .func (.func 218) #[.slice (some ⟨bk, 0, none⟩) n cap] #[]] w (TwoEnd (firstI (topI n f (commonS n f a b))) (topI n f (commonS n f a b) != 0) w) := by
  have hmf : ∀ (fn : Fn) (first cap : Array Value) (w : World), (Instr.makeFunc fn first cap).run Tryz.prog w = .ok (.func fn first cap) w := fun _ _ _ _ => rfl
  have hEg : ∀ (args : Array Value) (w : World), Sem.run Tryz.prog (callFunc 218 args) w = .ok (.enter 218 args) w := enters_of Tryz.func218 (by kernel_rfl) rfl
  have HE := Lib.hid (enters_of (P := Tryz.prog) Tryz.func223 (by kernel_rfl) rfl)
  obtain ⟨h1, h2, h3, hbel⟩ := three_cells w (.slice (some ⟨bk, 0, none⟩) n cap) (.int .i64 a) (.int .i64 b) 136 3 3
  have HR := Lib.hid (hr.below hbel hlt); have HT := Lib.hid (hT.below hbel); have HB := Lib.hid hbel
  have HL := Lib.hid (Nat.lt_of_lt_of_le hlt hbel.size)
  have H1 := Lib.hid h1; have H2 := Lib.hid h2; have H3 := Lib.hid h3; clear h1 h2 h3
  clear hr hT hbel
  go_enter Tryz.func194, Tryz.ntmps194
  go_wp2_with fail
  refine (greatest_any bk n cap f _ (fun c => hasB (f a) c && hasB (f b) c) hn _ HR.out HL.out HT.out ?_).mono ?_
  · intro wr hwr
    refine those3_any _ _ _ _ _ _ _ (fun c => hasB (f a) c && hasB (f b) c) hn _ HE.out ?_
    rintro wr2 c hc ⟨m, rfl⟩
    have hrr := (HR.out.below hwr HL.out).drewN m
    exact commonC_any bk n cap _ _ _ a b c f hn ha hb hc _ (hrr) (by rw [World.cell?_drewN]; exact (hwr.cell (p := ⟨w.heap.size, 0, none⟩) (World.block_lt_of_cell? _ _ H1.out)).trans H1.out) (by rw [World.cell?_drewN]; exact (hwr.cell (p := ⟨w.heap.size + 1, 0, none⟩) (World.block_lt_of_cell? _ _ H2.out)).trans H2.out) (by rw [World.cell?_drewN]; exact (hwr.cell (p := ⟨w.heap.size + 1 + 1, 0, none⟩) (World.block_lt_of_cell? _ _ H3.out)).trans H3.out)
  · rintro e w2 ⟨rfl, hb2⟩
    go_wp2_with fail
    go_ret2
    exact ⟨rfl, below_onto HB.out hb2⟩
theorem common_no (x y : Int) (w : World) :
    Calls Tryz.prog 194 #[.slice none 0 0, .int .i64 x, .int .i64 y, .func (.func 217) #[] #[]] w (TwoEnd (-1) false w) := by
  have hmf : ∀ (fn : Fn) (first cap : Array Value) (w : World), (Instr.makeFunc fn first cap).run Tryz.prog w = .ok (.func fn first cap) w := fun _ _ _ _ => rfl
  have hEg : ∀ (args : Array Value) (w : World), Sem.run Tryz.prog (callFunc 217 args) w = .ok (.enter 217 args) w := enters_of Tryz.func217 (by kernel_rfl) rfl
  obtain ⟨h1, h2, h3, hbel⟩ := three_cells w (.slice none 0 0) (.int .i64 x) (.int .i64 y) 136 3 3
  have HB := Lib.hid hbel
  clear h1 h2 h3 hbel
  go_enter Tryz.func194, Tryz.ntmps194
  go_wp2_with fail
  refine (nothing_any _ _).mono ?_
  rintro e w2 ⟨rfl, rfl⟩
  go_wp2_with fail
  go_ret2
  exact ⟨rfl, HB.out⟩
theorem left_any (bk n cap : Nat) (a b : Nat) (f : Nat → Int) (hn : n ≤ 7) (ha : a < n) (hb : b < n) (w : World) (hr : Row w bk 0 n f) (hlt : bk < w.heap.size) (hT : TabW w) :
    Calls Tryz.prog 195 #[.slice (some ⟨bk, 0, none⟩) n cap, .int .i64 a, .int .i64 b, .func (.func 218) #[.slice (some ⟨bk, 0, none⟩) n cap] #[]] w (TwoEnd (firstI (topI n f (leftS n f a b))) (topI n f (leftS n f a b) != 0) w) := by
  have hmf : ∀ (fn : Fn) (first cap : Array Value) (w : World), (Instr.makeFunc fn first cap).run Tryz.prog w = .ok (.func fn first cap) w := fun _ _ _ _ => rfl
  have hEg : ∀ (args : Array Value) (w : World), Sem.run Tryz.prog (callFunc 218 args) w = .ok (.enter 218 args) w := enters_of Tryz.func218 (by kernel_rfl) rfl
  have HE := Lib.hid (enters_of (P := Tryz.prog) Tryz.func224 (by kernel_rfl) rfl)
  obtain ⟨h1, h2, h3, hbel⟩ := three_cells w (.slice (some ⟨bk, 0, none⟩) n cap) (.int .i64 a) (.int .i64 b) 136 3 3
  have HR := Lib.hid (hr.below hbel hlt); have HT := Lib.hid (hT.below hbel); have HB := Lib.hid hbel
  have HL := Lib.hid (Nat.lt_of_lt_of_le hlt hbel.size)
  have H1 := Lib.hid h1; have H2 := Lib.hid h2; have H3 := Lib.hid h3; clear h1 h2 h3
  clear hr hT hbel
  go_enter Tryz.func195, Tryz.ntmps195
  go_wp2_with fail
  refine (greatest_any bk n cap f _ (fun c => hasB (f a) c && !(andI (f c) (f b) != 0)) hn _ HR.out HL.out HT.out ?_).mono ?_
  · intro wr hwr
    refine those3_any _ _ _ _ _ _ _ (fun c => hasB (f a) c && !(andI (f c) (f b) != 0)) hn _ HE.out ?_
    rintro wr2 c hc ⟨m, rfl⟩
    have hrr := (HR.out.below hwr HL.out).drewN m
    exact leftC_any bk n cap _ _ _ a b c f hn ha hb hc _ (hrr) (by rw [World.cell?_drewN]; exact (hwr.cell (p := ⟨w.heap.size, 0, none⟩) (World.block_lt_of_cell? _ _ H1.out)).trans H1.out) (by rw [World.cell?_drewN]; exact (hwr.cell (p := ⟨w.heap.size + 1, 0, none⟩) (World.block_lt_of_cell? _ _ H2.out)).trans H2.out) (by rw [World.cell?_drewN]; exact (hwr.cell (p := ⟨w.heap.size + 1 + 1, 0, none⟩) (World.block_lt_of_cell? _ _ H3.out)).trans H3.out)
  · rintro e w2 ⟨rfl, hb2⟩
    go_wp2_with fail
    go_ret2
    exact ⟨rfl, below_onto HB.out hb2⟩
theorem left_no (x y : Int) (w : World) :
    Calls Tryz.prog 195 #[.slice none 0 0, .int .i64 x, .int .i64 y, .func (.func 217) #[] #[]] w (TwoEnd (-1) false w) := by
  have hmf : ∀ (fn : Fn) (first cap : Array Value) (w : World), (Instr.makeFunc fn first cap).run Tryz.prog w = .ok (.func fn first cap) w := fun _ _ _ _ => rfl
  have hEg : ∀ (args : Array Value) (w : World), Sem.run Tryz.prog (callFunc 217 args) w = .ok (.enter 217 args) w := enters_of Tryz.func217 (by kernel_rfl) rfl
  obtain ⟨h1, h2, h3, hbel⟩ := three_cells w (.slice none 0 0) (.int .i64 x) (.int .i64 y) 136 3 3
  have HB := Lib.hid hbel
  clear h1 h2 h3 hbel
  go_enter Tryz.func195, Tryz.ntmps195
  go_wp2_with fail
  refine (nothing_any _ _).mono ?_
  rintro e w2 ⟨rfl, rfl⟩
  go_wp2_with fail
  go_ret2
  exact ⟨rfl, HB.out⟩
theorem whole_any (bk n cap : Nat) (f : Nat → Int) (hn : n ≤ 7)  (w : World) (hr : Row w bk 0 n f) (hlt : bk < w.heap.size) (hT : TabW w) :
    Calls Tryz.prog 191 #[.slice (some ⟨bk, 0, none⟩) n cap, .func (.func 218) #[.slice (some ⟨bk, 0, none⟩) n cap] #[]] w (TwoEnd (firstI (topI n f (wholeS n))) (topI n f (wholeS n) != 0) w) := by
  have hmf : ∀ (fn : Fn) (first cap : Array Value) (w : World), (Instr.makeFunc fn first cap).run Tryz.prog w = .ok (.func fn first cap) w := fun _ _ _ _ => rfl
  have hEg : ∀ (args : Array Value) (w : World), Sem.run Tryz.prog (callFunc 218 args) w = .ok (.enter 218 args) w := enters_of Tryz.func218 (by kernel_rfl) rfl
  have HE := Lib.hid (enters_of (P := Tryz.prog) Tryz.func219 (by kernel_rfl) rfl)
  have hbel := Below.refl w.heap.size w
  have HR := Lib.hid (hr.below hbel hlt); have HT := Lib.hid (hT.below hbel); have HB := Lib.hid hbel
  have HL := Lib.hid (Nat.lt_of_lt_of_le hlt hbel.size)
  skip
  clear hr hT hbel
  go_enter Tryz.func191, Tryz.ntmps191
  go_wp2_with fail
  refine (greatest_any bk n cap f _ (fun _ => true) hn _ HR.out HL.out HT.out ?_).mono ?_
  · intro wr hwr
    refine those0_any _ _ _ _ (fun _ => true) hn _ HE.out ?_
    rintro wr2 c hc ⟨m, rfl⟩
    have hrr := (HR.out.below hwr HL.out).drewN m
    exact wholeC_any c _
  · rintro e w2 ⟨rfl, hb2⟩
    go_wp2_with fail
    go_ret2
    exact ⟨rfl, below_onto HB.out hb2⟩
theorem whole_no (w : World) :
    Calls Tryz.prog 191 #[.slice none 0 0, .func (.func 217) #[] #[]] w (TwoEnd (-1) false w) := by
  have hmf : ∀ (fn : Fn) (first cap : Array Value) (w : World), (Instr.makeFunc fn first cap).run Tryz.prog w = .ok (.func fn first cap) w := fun _ _ _ _ => rfl
  have hEg : ∀ (args : Array Value) (w : World), Sem.run Tryz.prog (callFunc 217 args) w = .ok (.enter 217 args) w := enters_of Tryz.func217 (by kernel_rfl) rfl
  have hbel := Below.refl w.heap.size w
  have HB := Lib.hid hbel
  clear  hbel
  go_enter Tryz.func191, Tryz.ntmps191
  go_wp2_with fail
  refine (nothing_any _ _).mono ?_
  rintro e w2 ⟨rfl, rfl⟩
  go_wp2_with fail
  go_ret2
  exact ⟨rfl, HB.out⟩
def commonN (n : Nat) (f : Nat → Int) (x y : Int) : Int := ansN (good2 n f x y) n f (commonS n f x.toNat y.toNat)
def commonOk (n : Nat) (f : Nat → Int) (x y : Int) : Bool := ansOk (good2 n f x y) n f (commonS n f x.toNat y.toNat)
def leftN (n : Nat) (f : Nat → Int) (x y : Int) : Int := ansN (good2 n f x y) n f (leftS n f x.toNat y.toNat)
def leftOk (n : Nat) (f : Nat → Int) (x y : Int) : Bool := ansOk (good2 n f x y) n f (leftS n f x.toNat y.toNat)
def wholeN (n : Nat) (f : Nat → Int) : Int := ansN (worldB n f) n f (wholeS n)
def wholeOk (n : Nat) (f : Nat → Int) : Bool := ansOk (worldB n f) n f (wholeS n)
theorem CommonOf_any (a : Option Addr) (n cap : Nat) (f : Nat → Int) (x y : Int) (w : World) (hi : Ints w a n f) (hT : TabW w) :
    Calls Tryz.prog 168 #[.slice a n cap, .int .i64 x, .int .i64 y] w (TwoEnd (commonN n f x y) (commonOk n f x y) w) := by
  have hmf : ∀ (fn : Fn) (first cap : Array Value) (w : World), (Instr.makeFunc fn first cap).run Tryz.prog w = .ok (.func fn first cap) w := fun _ _ _ _ => rfl
  by_cases hg : (good2 n f x y) = true
  · obtain ⟨hwb, ⟨hx0, hx1⟩, hy0, hy1⟩ := (good2_iff n f x y).1 hg
    have h7 := (worldB_7 hwb).2
    have h1n := (worldB_7 hwb).1
    obtain ⟨X, rfl⟩ := Int.eq_ofNat_of_zero_le hx0
    obtain ⟨Y, rfl⟩ := Int.eq_ofNat_of_zero_le hy0
    have hX : X < n := by omega
    have hY : Y < n := by omega
    have hf1 : commonN n f X Y = firstI (topI n f (commonS n f X Y)) := by unfold commonN ansN; rw [if_pos hg, Int.toNat_natCast, Int.toNat_natCast]
    have hf2 : commonOk n f X Y = (topI n f (commonS n f X Y) != 0) := by unfold commonOk ansOk; rw [hg, Int.toNat_natCast, Int.toNat_natCast, Bool.true_and]
    have HF1 := Lib.hid hf1; have HF2 := Lib.hid hf2; have HG := Lib.hid hg; have HT := Lib.hid hT; have HI := Lib.hid hi
    clear hf1 hf2 hg hwb hx0 hx1 hy0 hy1 hT hi
    go_enter Tryz.func168, Tryz.ntmps168
    go_wp2_with fail
    refine (searchOf_any _ _ n (w.heap.size + 1) f (good2 n f X Y) _ w (with2 a n cap f X Y w HI.out _)).mono ?_
    rintro e w' ⟨hbel, ⟨hb, rfl, hr⟩ | ⟨hb, rfl⟩⟩
    · have hlt := World.block_lt_of_cell? w' _ (hr 0 (by omega))
      have HT1 := Lib.hid (HT.out.below hbel)
      clear hb
      go_wp2_with fail
      refine (common_any _ _ _ X Y f h7 hX hY _ hr hlt HT1.out).mono ?_
      rintro e w2 ⟨rfl, hb2⟩
      go_wp2_with fail
      go_ret2
      exact ⟨by rw [HF1.out, HF2.out]; rfl, below_onto hbel hb2⟩
    · rw [HG.out] at hb; cases hb
  · have hg' : (good2 n f x y) = false := by simpa using hg
    have hf1 : commonN n f x y = -1 := by unfold commonN ansN; rw [if_neg hg]
    have hf2 : commonOk n f x y = false := by unfold commonOk ansOk; rw [hg']; rfl
    have HF1 := Lib.hid hf1; have HF2 := Lib.hid hf2; have HG := Lib.hid hg'; have HI := Lib.hid hi; clear hf1 hf2 hg hg' hT hi
    go_enter Tryz.func168, Tryz.ntmps168
    go_wp2_with fail
    refine (searchOf_any _ _ n (w.heap.size + 1) f (good2 n f x y) _ w (with2 a n cap f x y w HI.out _)).mono ?_
    rintro e w' ⟨hbel, ⟨hb, rfl, hr⟩ | ⟨hb, rfl⟩⟩
    · rw [HG.out] at hb; cases hb
    · clear hb
      go_wp2_with fail
      refine (common_no x y _).mono ?_
      rintro e w2 ⟨rfl, hb2⟩
      go_wp2_with fail
      go_ret2
      exact ⟨by rw [HF1.out, HF2.out]; rfl, below_onto hbel hb2⟩
theorem CommonOf_val (a : Option Addr) (n cap : Nat) (f : Nat → Int) (x y : Int) (i : Int) (v : Bool) (w : World) (h1 : commonN n f x y = i) (h2 : commonOk n f x y = v) (hi : Ints w a n f) (hT : TabW w) :
    Calls Tryz.prog 168 #[.slice a n cap, .int .i64 x, .int .i64 y] w (TwoEnd i v w) := by
  subst h1; subst h2; exact CommonOf_any a n cap f x y w hi hT
theorem LeftOf_any (a : Option Addr) (n cap : Nat) (f : Nat → Int) (x y : Int) (w : World) (hi : Ints w a n f) (hT : TabW w) :
    Calls Tryz.prog 169 #[.slice a n cap, .int .i64 x, .int .i64 y] w (TwoEnd (leftN n f x y) (leftOk n f x y) w) := by
  have hmf : ∀ (fn : Fn) (first cap : Array Value) (w : World), (Instr.makeFunc fn first cap).run Tryz.prog w = .ok (.func fn first cap) w := fun _ _ _ _ => rfl
  by_cases hg : (good2 n f x y) = true
  · obtain ⟨hwb, ⟨hx0, hx1⟩, hy0, hy1⟩ := (good2_iff n f x y).1 hg
    have h7 := (worldB_7 hwb).2
    have h1n := (worldB_7 hwb).1
    obtain ⟨X, rfl⟩ := Int.eq_ofNat_of_zero_le hx0
    obtain ⟨Y, rfl⟩ := Int.eq_ofNat_of_zero_le hy0
    have hX : X < n := by omega
    have hY : Y < n := by omega
    have hf1 : leftN n f X Y = firstI (topI n f (leftS n f X Y)) := by unfold leftN ansN; rw [if_pos hg, Int.toNat_natCast, Int.toNat_natCast]
    have hf2 : leftOk n f X Y = (topI n f (leftS n f X Y) != 0) := by unfold leftOk ansOk; rw [hg, Int.toNat_natCast, Int.toNat_natCast, Bool.true_and]
    have HF1 := Lib.hid hf1; have HF2 := Lib.hid hf2; have HG := Lib.hid hg; have HT := Lib.hid hT; have HI := Lib.hid hi
    clear hf1 hf2 hg hwb hx0 hx1 hy0 hy1 hT hi
    go_enter Tryz.func169, Tryz.ntmps169
    go_wp2_with fail
    refine (searchOf_any _ _ n (w.heap.size + 1) f (good2 n f X Y) _ w (with2 a n cap f X Y w HI.out _)).mono ?_
    rintro e w' ⟨hbel, ⟨hb, rfl, hr⟩ | ⟨hb, rfl⟩⟩
    · have hlt := World.block_lt_of_cell? w' _ (hr 0 (by omega))
      have HT1 := Lib.hid (HT.out.below hbel)
      clear hb
      go_wp2_with fail
      refine (left_any _ _ _ X Y f h7 hX hY _ hr hlt HT1.out).mono ?_
      rintro e w2 ⟨rfl, hb2⟩
      go_wp2_with fail
      go_ret2
      exact ⟨by rw [HF1.out, HF2.out]; rfl, below_onto hbel hb2⟩
    · rw [HG.out] at hb; cases hb
  · have hg' : (good2 n f x y) = false := by simpa using hg
    have hf1 : leftN n f x y = -1 := by unfold leftN ansN; rw [if_neg hg]
    have hf2 : leftOk n f x y = false := by unfold leftOk ansOk; rw [hg']; rfl
    have HF1 := Lib.hid hf1; have HF2 := Lib.hid hf2; have HG := Lib.hid hg'; have HI := Lib.hid hi; clear hf1 hf2 hg hg' hT hi
    go_enter Tryz.func169, Tryz.ntmps169
    go_wp2_with fail
    refine (searchOf_any _ _ n (w.heap.size + 1) f (good2 n f x y) _ w (with2 a n cap f x y w HI.out _)).mono ?_
    rintro e w' ⟨hbel, ⟨hb, rfl, hr⟩ | ⟨hb, rfl⟩⟩
    · rw [HG.out] at hb; cases hb
    · clear hb
      go_wp2_with fail
      refine (left_no x y _).mono ?_
      rintro e w2 ⟨rfl, hb2⟩
      go_wp2_with fail
      go_ret2
      exact ⟨by rw [HF1.out, HF2.out]; rfl, below_onto hbel hb2⟩
theorem LeftOf_val (a : Option Addr) (n cap : Nat) (f : Nat → Int) (x y : Int) (i : Int) (v : Bool) (w : World) (h1 : leftN n f x y = i) (h2 : leftOk n f x y = v) (hi : Ints w a n f) (hT : TabW w) :
    Calls Tryz.prog 169 #[.slice a n cap, .int .i64 x, .int .i64 y] w (TwoEnd i v w) := by
  subst h1; subst h2; exact LeftOf_any a n cap f x y w hi hT
theorem WholeOf_any (a : Option Addr) (n cap : Nat) (f : Nat → Int) (w : World) (hi : Ints w a n f) (hT : TabW w) :
    Calls Tryz.prog 166 #[.slice a n cap] w (TwoEnd (wholeN n f) (wholeOk n f) w) := by
  have hmf : ∀ (fn : Fn) (first cap : Array Value) (w : World), (Instr.makeFunc fn first cap).run Tryz.prog w = .ok (.func fn first cap) w := fun _ _ _ _ => rfl
  by_cases hg : (worldB n f) = true
  · have hwb := hg
    have h7 := (worldB_7 hwb).2
    have h1n := (worldB_7 hwb).1
    skip
    have hf1 : wholeN n f = firstI (topI n f (wholeS n)) := by unfold wholeN ansN; rw [if_pos hg]
    have hf2 : wholeOk n f = (topI n f (wholeS n) != 0) := by unfold wholeOk ansOk; rw [hg, Bool.true_and]
    have HF1 := Lib.hid hf1; have HF2 := Lib.hid hf2; have HG := Lib.hid hg; have HT := Lib.hid hT; have HI := Lib.hid hi
    clear hf1 hf2 hg hwb  hT hi
    go_enter Tryz.func166, Tryz.ntmps166
    go_wp2_with fail
    refine (searchOf_any _ _ n w.heap.size f (worldB n f) _ w (with0 a n cap f w HI.out)).mono ?_
    rintro e w' ⟨hbel, ⟨hb, rfl, hr⟩ | ⟨hb, rfl⟩⟩
    · have hlt := World.block_lt_of_cell? w' _ (hr 0 (by omega))
      have HT1 := Lib.hid (HT.out.below hbel)
      clear hb
      go_wp2_with fail
      refine (whole_any _ _ _ f h7 _ hr hlt HT1.out).mono ?_
      rintro e w2 ⟨rfl, hb2⟩
      go_wp2_with fail
      go_ret2
      exact ⟨by rw [HF1.out, HF2.out]; rfl, below_onto hbel hb2⟩
    · rw [HG.out] at hb; cases hb
  · have hg' : (worldB n f) = false := by simpa using hg
    have hf1 : wholeN n f = -1 := by unfold wholeN ansN; rw [if_neg hg]
    have hf2 : wholeOk n f = false := by unfold wholeOk ansOk; rw [hg']; rfl
    have HF1 := Lib.hid hf1; have HF2 := Lib.hid hf2; have HG := Lib.hid hg'; have HI := Lib.hid hi; clear hf1 hf2 hg hg' hT hi
    go_enter Tryz.func166, Tryz.ntmps166
    go_wp2_with fail
    refine (searchOf_any _ _ n w.heap.size f (worldB n f) _ w (with0 a n cap f w HI.out)).mono ?_
    rintro e w' ⟨hbel, ⟨hb, rfl, hr⟩ | ⟨hb, rfl⟩⟩
    · rw [HG.out] at hb; cases hb
    · clear hb
      go_wp2_with fail
      refine (whole_no _).mono ?_
      rintro e w2 ⟨rfl, hb2⟩
      go_wp2_with fail
      go_ret2
      exact ⟨by rw [HF1.out, HF2.out]; rfl, below_onto hbel hb2⟩
theorem WholeOf_val (a : Option Addr) (n cap : Nat) (f : Nat → Int) (i : Int) (v : Bool) (w : World) (h1 : wholeN n f = i) (h2 : wholeOk n f = v) (hi : Ints w a n f) (hT : TabW w) :
    Calls Tryz.prog 166 #[.slice a n cap] w (TwoEnd i v w) := by
  subst h1; subst h2; exact WholeOf_any a n cap f w hi hT
theorem top_found {n : Nat} {f : Nat → Int} {s : Int} (h7 : n ≤ 7) {k : Nat} (hk : k < n) (h0 : noneG (topG f s) k = true) (h1 : topG f s k = true) : firstI (topI n f s) = k ∧ (topI n f s != 0) = true := firstI_found h7 hk h0 h1
theorem top_none {n : Nat} {f : Nat → Int} {s : Int} (h0 : noneG (topG f s) n = true) : firstI (topI n f s) = -1 ∧ (topI n f s != 0) = false := by
  have e : topI n f s = 0 := setOf_none h0
  rw [e]; exact ⟨rfl, rfl⟩
theorem part_self_at {n : Nat} {f : Nat → Int} {w : World} {a : Option Addr} (hi : Ints w a n f) {X : Int} {v : Bool} (h : good1 n f X = v) : partB n f X X = v := by rw [partB_self n f X hi.i64]; exact h
theorem good2_split (n : Nat) (f : Nat → Int) (x y : Int) : good2 n f x y = (good1 n f x && good1 n f y) := by
  rw [Bool.eq_iff_iff, Bool.and_eq_true, good2_iff, good1_iff, good1_iff]
  exact ⟨fun ⟨h1, h2, h3⟩ => ⟨⟨h1, h2⟩, h1, h3⟩, fun ⟨⟨h1, h2⟩, _, h3⟩ => ⟨h1, h2, h3⟩⟩
set_option maxRecDepth 100000 in
theorem l5Top_any (b o n cap : Nat) (f : Nat → Int) (s : Int) (hs : 0 ≤ s) (h7 : n ≤ 7) (w : World) (h64 : ∀ i, i < n → I64 (f i)) (hr : Row w b o n f) :
    Calls Tryz.prog 123 #[.slice (some ⟨b, o, none⟩) n cap, .int .i64 s] w (TwoDrew (firstI (topI n f s)) (topI n f s != 0) w) := by
  have HR := Lib.hid hr; have H64 := Lib.hid h64; clear hr h64
  go_enter Tryz.func123, Tryz.ntmps123
  go_wp2_with fail
  go_loopw [6] (fun i wr => ∃ k : Nat, k ≤ n ∧ i = .int .i64 k ∧ Hid (noneG (topG f s) k = true) ∧ Drew w wr) (fun i _ => n - (intOf i).toNat)
  case atStart => exact ⟨0, Nat.zero_le _, rfl, Lib.hid (noneG_zero _), Drew.refl _⟩
  case round =>
    obtain ⟨k, hk, rfl, hno, hd⟩ := hrel
    by_cases hlt : k < n
    · have hki : (k : Int) < (n : Int) := by omega
      have ck := row_drew HR.out hd k hlt
      have ho := or_eq_within (f k) s (H64.out k hlt)
      cases hb : hasB s k with
      | false =>
        have HS := Lib.hid (noneG_step hno.out (show topG f s k = false by unfold topG; rw [hb]; rfl))
        have HH := Lib.hid hb; clear hb ho
        go_wp2_with fail
        go_quiet ((go_at_call 87; exact quiet_left (l1Has_val _ _ false _ HH.out (by omega) hs)))
        go_wp2_with fail
        go_roundw
        case rel => exact ⟨k + 1, by omega, by go_num, HS, hd.more _⟩
        case measure => simp [intOf]; omega
      | true =>
        cases hw : withinB s (f k) with
        | true =>
          have HF := Lib.hid (top_found h7 hlt hno.out (show topG f s k = true by unfold topG; rw [hb, hw]; rfl))
          have HH := Lib.hid hb; rw [hw] at ho; clear hb hw
          go_wp2_with fail
          go_quiet ((go_at_call 87; exact quiet_left (l1Has_val _ _ true _ HH.out (by omega) hs)))
          go_wp2_with fail
          go_ret2
          exact ⟨by rw [HF.out.1, HF.out.2]; rfl, hd.more _⟩
        | false =>
          have HS := Lib.hid (noneG_step hno.out (show topG f s k = false by unfold topG; rw [hw]; simp))
          have HH := Lib.hid hb; rw [hw] at ho; clear hb hw
          go_wp2_with fail
          go_quiet ((go_at_call 87; exact quiet_left (l1Has_val _ _ true _ HH.out (by omega) hs)))
          go_wp2_with fail
          clear ho
          go_roundw
          case rel => exact ⟨k + 1, by omega, by go_num, HS, hd.more _⟩
          case measure => simp [intOf]; omega
    · have hkn : k = n := by omega
      subst hkn
      have HF := Lib.hid (top_none hno.out)
      go_wp2_with fail
      go_ret2
      exact ⟨by rw [HF.out.1, HF.out.2]; rfl, hd⟩
set_option maxRecDepth 100000 in
theorem specCommonOf_in (b o n cap : Nat) (f : Nat → Int) (X Y : Nat) (hw : worldB n f = true) (hX : X < n) (hY : Y < n) (w : World) (hi : Ints w (some ⟨b, o, none⟩) n f) (hr : Row w b o n f) :
    Calls Tryz.prog 81 #[.slice (some ⟨b, o, none⟩) n cap, .int .i64 X, .int .i64 Y] w (TwoDrew (commonN n f X Y) (commonOk n f X Y) w) := by
  have h7 := (worldB_7 hw).2
  have hP := world_of hi hw
  have hg : good2 n f X Y = true := (good2_iff n f X Y).2 ⟨hw, ⟨by omega, by omega⟩, by omega, by omega⟩
  have HPX := Lib.hid (part_self_at hi (X := X) ((good1_iff n f X).2 ⟨hw, by omega, by omega⟩))
  have HPY := Lib.hid (part_self_at hi (X := Y) ((good1_iff n f Y).2 ⟨hw, by omega, by omega⟩))
  have HF1 := Lib.hid (show commonN n f X Y = firstI (topI n f (commonS n f X Y)) by unfold commonN ansN; rw [if_pos hg, Int.toNat_natCast, Int.toNat_natCast])
  have HF2 := Lib.hid (show commonOk n f X Y = (topI n f (commonS n f X Y) != 0) by unfold commonOk ansOk; rw [hg, Int.toNat_natCast, Int.toNat_natCast, Bool.true_and])
  have hs0 : 0 ≤ commonS n f X Y := (setOf_rng _ n (by omega)).1
  have HP := Lib.hid hP; have HN := Lib.hid hi; have HR := Lib.hid hr; have H64 := Lib.hid hi.i64; clear hw hP hg hi hr
  rw [HF1.out, HF2.out]
  have hand := common_and (b := Y) HP.out hX
  rw [hand] at hs0 ⊢
  clear hand
  go_enter Tryz.func81, Tryz.ntmps81
  go_wp2_with fail
  refine (specPartOk_val _ _ _ f X X true _ HPX.out HN.out).mono ?_
  rintro e w1 ⟨rfl, hd⟩
  go_wp2_with fail
  refine (specPartOk_val _ _ _ f Y Y true _ HPY.out (HN.out.drew hd)).mono ?_
  rintro e w2 ⟨rfl, hd2⟩
  replace hd := hd.onto hd2
  clear hd2
  have hXi : (X : Int) < (n : Int) := by omega
  have hYi : (Y : Int) < (n : Int) := by omega
  have hrr := row_drew HR.out hd
  have cX := hrr X hX
  have cY := hrr Y hY
  have HRR := Lib.hid hrr
  clear hrr
  go_wp2_with fail
  go_quiet ((go_at_call 123; exact quiet_drew (l5Top_any b o n _ f _ hs0 h7 _ H64.out (HRR.out.drewN _))))
  go_wp2_with fail
  go_ret2
  exact ⟨rfl, hd.more _⟩
theorem specCommonOf_any (a : Option Addr) (n cap : Nat) (f : Nat → Int) (x y : Int) (w : World) (hi : Ints w a n f) :
    Calls Tryz.prog 81 #[.slice a n cap, .int .i64 x, .int .i64 y] w (TwoDrew (commonN n f x y) (commonOk n f x y) w) := by
  by_cases hg : good2 n f x y = true
  · obtain ⟨hwb, ⟨hx0, hx1⟩, hy0, hy1⟩ := (good2_iff n f x y).1 hg
    obtain ⟨X, rfl⟩ := Int.eq_ofNat_of_zero_le hx0
    obtain ⟨Y, rfl⟩ := Int.eq_ofNat_of_zero_le hy0
    obtain ⟨b, o, rfl, hlt, hr⟩ := hi.row (worldB_7 hwb).1
    exact specCommonOf_in b o n cap f X Y hwb (by omega) (by omega) w hi hr
  · have hg' : good2 n f x y = false := by simpa using hg
    have HF1 := Lib.hid (show commonN n f x y = -1 by unfold commonN ansN; rw [if_neg hg])
    have HF2 := Lib.hid (show commonOk n f x y = false by unfold commonOk ansOk; rw [hg']; rfl)
    have hsp := hg'
    rw [good2_split] at hsp
    cases h1 : good1 n f x with
    | false =>
      have HPX := Lib.hid (part_self_at hi h1)
      have HN := Lib.hid hi; clear hi hg hg' hsp h1
      go_enter Tryz.func81, Tryz.ntmps81
      go_wp2_with fail
      refine (specPartOk_val _ _ _ f x x false _ HPX.out HN.out).mono ?_
      rintro e w1 ⟨rfl, hd⟩
      go_wp2_with fail
      go_ret2
      exact ⟨by rw [HF1.out, HF2.out]; rfl, hd⟩
    | true =>
      rw [h1, Bool.true_and] at hsp
      have HPX := Lib.hid (part_self_at hi h1)
      have HPY := Lib.hid (part_self_at hi hsp)
      have HN := Lib.hid hi; clear hi hg hg' hsp h1
      go_enter Tryz.func81, Tryz.ntmps81
      go_wp2_with fail
      refine (specPartOk_val _ _ _ f x x true _ HPX.out HN.out).mono ?_
      rintro e w1 ⟨rfl, hd⟩
      go_wp2_with fail
      refine (specPartOk_val _ _ _ f y y false _ HPY.out (HN.out.drew hd)).mono ?_
      rintro e w2 ⟨rfl, hd2⟩
      replace hd := hd.onto hd2
      clear hd2
      go_wp2_with fail
      go_ret2
      exact ⟨by rw [HF1.out, HF2.out]; rfl, hd⟩
theorem specCommonOf_val (a : Option Addr) (n cap : Nat) (f : Nat → Int) (x y : Int) (i : Int) (v : Bool) (w : World) (h1 : commonN n f x y = i) (h2 : commonOk n f x y = v) (hi : Ints w a n f) :
    Calls Tryz.prog 81 #[.slice a n cap, .int .i64 x, .int .i64 y] w (TwoDrew i v w) := by
  subst h1; subst h2; exact specCommonOf_any a n cap f x y w hi
set_option maxRecDepth 100000 in
theorem specLeftOf_in (b o n cap : Nat) (f : Nat → Int) (X Y : Nat) (hw : worldB n f = true) (hX : X < n) (hY : Y < n) (w : World) (hi : Ints w (some ⟨b, o, none⟩) n f) (hr : Row w b o n f) :
    Calls Tryz.prog 82 #[.slice (some ⟨b, o, none⟩) n cap, .int .i64 X, .int .i64 Y] w (TwoDrew (leftN n f X Y) (leftOk n f X Y) w) := by
  have h7 := (worldB_7 hw).2
  have hP := world_of hi hw
  have hg : good2 n f X Y = true := (good2_iff n f X Y).2 ⟨hw, ⟨by omega, by omega⟩, by omega, by omega⟩
  have HPX := Lib.hid (part_self_at hi (X := X) ((good1_iff n f X).2 ⟨hw, by omega, by omega⟩))
  have HPY := Lib.hid (part_self_at hi (X := Y) ((good1_iff n f Y).2 ⟨hw, by omega, by omega⟩))
  have HF1 := Lib.hid (show leftN n f X Y = firstI (topI n f (leftS n f X Y)) by unfold leftN ansN; rw [if_pos hg, Int.toNat_natCast, Int.toNat_natCast])
  have HF2 := Lib.hid (show leftOk n f X Y = (topI n f (leftS n f X Y) != 0) by unfold leftOk ansOk; rw [hg, Int.toNat_natCast, Int.toNat_natCast, Bool.true_and])
  have hs0 : 0 ≤ leftS n f X Y := (setOf_rng _ n (by omega)).1
  have HP := Lib.hid hP; have HN := Lib.hid hi; have HR := Lib.hid hr; have H64 := Lib.hid hi.i64; clear hw hP hg hi hr
  rw [HF1.out, HF2.out]
  go_enter Tryz.func82, Tryz.ntmps82
  go_wp2_with fail
  refine (specPartOk_val _ _ _ f X X true _ HPX.out HN.out).mono ?_
  rintro e w1 ⟨rfl, hd⟩
  go_wp2_with fail
  refine (specPartOk_val _ _ _ f Y Y true _ HPY.out (HN.out.drew hd)).mono ?_
  rintro e w2 ⟨rfl, hd2⟩
  replace hd := hd.onto hd2
  clear hd2
  have hXi : (X : Int) < (n : Int) := by omega
  have hYi : (Y : Int) < (n : Int) := by omega
  go_wp2_with fail
  go_loopw [8, 9] (fun v i wr => ∃ k : Nat, k ≤ n ∧ i = .int .i64 k ∧ v = .int .i64 (setOf (fun c => hasB (f X) c && !(andI (f c) (f Y) != 0)) k) ∧ Drew w wr) (fun _ i _ => n - (intOf i).toNat)
  case atStart => exact ⟨0, Nat.zero_le _, rfl, rfl, hd⟩
  case round =>
    clear hd
    obtain ⟨k, hk, rfl, rfl, hd⟩ := hrel
    by_cases hlt : k < n
    · have hki : (k : Int) < (n : Int) := by omega
      have ⟨hp1, hp2⟩ := pow_bounds k (by omega)
      have hrr := row_drew HR.out hd
      have cX := hrr X hX
      have cY := hrr Y hY
      have ck := hrr k hlt
      have hnn := (HP.out.rng X hX).1
      clear hrr
      cases hh : hasB (f X) k with
      | false =>
        have HS := Lib.hid (setOf_no (fun c => hasB (f X) c && !(andI (f c) (f Y) != 0)) k (by simp only [hh]; rfl))
        have HH := Lib.hid hh; clear hh
        go_wp2_with fail
        go_quiet ((go_at_call 87; exact quiet_left (l1Has_val _ _ false _ HH.out (by omega) hnn)))
        go_wp2_with fail
        go_roundw
        case rel => exact ⟨k + 1, by omega, by go_num, by rw [HS.out], hd.more _⟩
        case measure => simp [intOf]; omega
      | true =>
        cases hz : (andI (f k) (f Y) != 0) with
        | false =>
          have HS := Lib.hid (setOf_yes (fun c => hasB (f X) c && !(andI (f c) (f Y) != 0)) k (by simp only [hh, hz]; rfl))
          have hz2 : (bits .and .i64 (f k) (f Y) == 0) = true := (show (andI (f k) (f Y) == 0) = true by rw [bne] at hz; simpa using hz)
          have HH := Lib.hid hh; clear hh hz
          go_wp2_with fail
          go_quiet ((go_at_call 87; exact quiet_left (l1Has_val _ _ true _ HH.out (by omega) hnn)))
          go_wp2_with fail
          clear hz2
          go_roundw
          case rel => exact ⟨k + 1, by omega, by go_num, by rw [HS.out], hd.more _⟩
          case measure => simp [intOf]; omega
        | true =>
          have HS := Lib.hid (setOf_no (fun c => hasB (f X) c && !(andI (f c) (f Y) != 0)) k (by simp only [hh, hz]; rfl))
          have hz2 : (bits .and .i64 (f k) (f Y) == 0) = false := (show (andI (f k) (f Y) == 0) = false by rw [bne] at hz; simpa using hz)
          have HH := Lib.hid hh; clear hh hz
          go_wp2_with fail
          go_quiet ((go_at_call 87; exact quiet_left (l1Has_val _ _ true _ HH.out (by omega) hnn)))
          go_wp2_with fail
          clear hz2
          go_roundw
          case rel => exact ⟨k + 1, by omega, by go_num, by rw [HS.out], hd.more _⟩
          case measure => simp [intOf]; omega
    · have hkn : k = n := by omega
      subst hkn
      go_wp2_with fail
      refine (l5Top_any b o k _ f _ hs0 h7 _ H64.out (row_drew HR.out hd)).mono ?_
      rintro e w3 ⟨rfl, hd3⟩
      replace hd := hd.onto hd3
      clear hd3
      go_wp2_with fail
      go_ret2
      exact ⟨rfl, hd⟩
theorem specLeftOf_any (a : Option Addr) (n cap : Nat) (f : Nat → Int) (x y : Int) (w : World) (hi : Ints w a n f) :
    Calls Tryz.prog 82 #[.slice a n cap, .int .i64 x, .int .i64 y] w (TwoDrew (leftN n f x y) (leftOk n f x y) w) := by
  by_cases hg : good2 n f x y = true
  · obtain ⟨hwb, ⟨hx0, hx1⟩, hy0, hy1⟩ := (good2_iff n f x y).1 hg
    obtain ⟨X, rfl⟩ := Int.eq_ofNat_of_zero_le hx0
    obtain ⟨Y, rfl⟩ := Int.eq_ofNat_of_zero_le hy0
    obtain ⟨b, o, rfl, hlt, hr⟩ := hi.row (worldB_7 hwb).1
    exact specLeftOf_in b o n cap f X Y hwb (by omega) (by omega) w hi hr
  · have hg' : good2 n f x y = false := by simpa using hg
    have HF1 := Lib.hid (show leftN n f x y = -1 by unfold leftN ansN; rw [if_neg hg])
    have HF2 := Lib.hid (show leftOk n f x y = false by unfold leftOk ansOk; rw [hg']; rfl)
    have hsp := hg'
    rw [good2_split] at hsp
    cases h1 : good1 n f x with
    | false =>
      have HPX := Lib.hid (part_self_at hi h1)
      have HN := Lib.hid hi; clear hi hg hg' hsp h1
      go_enter Tryz.func82, Tryz.ntmps82
      go_wp2_with fail
      refine (specPartOk_val _ _ _ f x x false _ HPX.out HN.out).mono ?_
      rintro e w1 ⟨rfl, hd⟩
      go_wp2_with fail
      go_ret2
      exact ⟨by rw [HF1.out, HF2.out]; rfl, hd⟩
    | true =>
      rw [h1, Bool.true_and] at hsp
      have HPX := Lib.hid (part_self_at hi h1)
      have HPY := Lib.hid (part_self_at hi hsp)
      have HN := Lib.hid hi; clear hi hg hg' hsp h1
      go_enter Tryz.func82, Tryz.ntmps82
      go_wp2_with fail
      refine (specPartOk_val _ _ _ f x x true _ HPX.out HN.out).mono ?_
      rintro e w1 ⟨rfl, hd⟩
      go_wp2_with fail
      refine (specPartOk_val _ _ _ f y y false _ HPY.out (HN.out.drew hd)).mono ?_
      rintro e w2 ⟨rfl, hd2⟩
      replace hd := hd.onto hd2
      clear hd2
      go_wp2_with fail
      go_ret2
      exact ⟨by rw [HF1.out, HF2.out]; rfl, hd⟩
theorem specLeftOf_val (a : Option Addr) (n cap : Nat) (f : Nat → Int) (x y : Int) (i : Int) (v : Bool) (w : World) (h1 : leftN n f x y = i) (h2 : leftOk n f x y = v) (hi : Ints w a n f) :
    Calls Tryz.prog 82 #[.slice a n cap, .int .i64 x, .int .i64 y] w (TwoDrew i v w) := by
  subst h1; subst h2; exact specLeftOf_any a n cap f x y w hi
set_option maxRecDepth 100000 in
theorem specWholeOf_any (a : Option Addr) (n cap : Nat) (f : Nat → Int) (w : World) (hi : Ints w a n f) :
    Calls Tryz.prog 77 #[.slice a n cap] w (TwoDrew (wholeN n f) (wholeOk n f) w) := by
  cases hg : worldB n f with
  | true =>
    obtain ⟨h1, h7⟩ := worldB_7 hg
    obtain ⟨b, o, rfl, hlt, hr⟩ := hi.row h1
    have hlow := whole_low n h7
    have HF1 := Lib.hid (show wholeN n f = firstI (topI n f (2 ^ n - 1)) by unfold wholeN ansN; rw [if_pos hg, hlow])
    have HF2 := Lib.hid (show wholeOk n f = (topI n f (2 ^ n - 1) != 0) by unfold wholeOk ansOk; rw [hg, hlow, Bool.true_and])
    have ⟨hp1, hp2⟩ := pow_bounds n h7
    have hs0 : (0 : Int) ≤ 2 ^ n - 1 := by omega
    have HW := Lib.hid hg; have HN := Lib.hid hi; have HR := Lib.hid hr; have H64 := Lib.hid hi.i64
    clear hg hi hr hlow
    rw [HF1.out, HF2.out]
    go_enter Tryz.func77, Tryz.ntmps77
    go_wp2_with fail
    refine (specWorldOk_val _ _ _ f true _ HW.out HN.out).mono ?_
    rintro e w1 ⟨rfl, hd⟩
    go_wp2_with fail
    refine (l5Top_any b o n _ f _ hs0 h7 _ H64.out (row_drew HR.out hd)).mono ?_
    rintro e w2 ⟨rfl, hd2⟩
    replace hd := hd.onto hd2
    clear hd2
    go_wp2_with fail
    go_ret2
    exact ⟨rfl, hd⟩
  | false =>
    have HF1 := Lib.hid (show wholeN n f = -1 by unfold wholeN ansN; rw [if_neg (by rw [hg]; decide)])
    have HF2 := Lib.hid (show wholeOk n f = false by unfold wholeOk ansOk; rw [hg]; rfl)
    have HW := Lib.hid hg; have HN := Lib.hid hi; clear hi hg
    go_enter Tryz.func77, Tryz.ntmps77
    go_wp2_with fail
    refine (specWorldOk_val _ _ _ f false _ HW.out HN.out).mono ?_
    rintro e w1 ⟨rfl, hd⟩
    go_wp2_with fail
    go_ret2
    exact ⟨by rw [HF1.out, HF2.out]; rfl, hd⟩
theorem specWholeOf_val (a : Option Addr) (n cap : Nat) (f : Nat → Int) (i : Int) (v : Bool) (w : World) (h1 : wholeN n f = i) (h2 : wholeOk n f = v) (hi : Ints w a n f) :
    Calls Tryz.prog 77 #[.slice a n cap] w (TwoDrew i v w) := by
  subst h1; subst h2; exact specWholeOf_any a n cap f w hi
end Go.Proofs.YthaickihoagnmaaGreatDoor
namespace Go.Proofs.YthaickihoagnmaaGreatDoor
open Go.RowKit Go.Maps
def wdF (xs : List Int) : Nat → Int := wfF xs.length (fun i => xs.getD i 0)
theorem wd_P {xs : List Int} (h : famL xs = true) : WorldP xs.length (wdF xs) := wf_P (famL_P h)
theorem wd_world {xs : List Int} (h : famL xs = true) : worldB xs.length (wdF xs) = true := wf_world (famL_P h)
def pA (xs : List Int) (l : List UInt8) : Int := plI xs (rdI (cut1 (cut2 l)))
def pB (xs : List Int) (l : List UInt8) : Int := plI xs (rdI (cut2 (cut2 l)))
def twoS (p q : Int) : Int := bits .or .i64 (2 ^ p.toNat) (2 ^ q.toNat)
def allA (xs : List Int) : List UInt8 := setsW xs (2 ^ xs.length - 1)
def companyA (xs : List Int) : List UInt8 := ynW (companyB xs.length (wdF xs))
def weakA (xs : List Int) : List UInt8 := ynW (weakB xs.length (wdF xs))
def strongA (xs : List Int) : List UInt8 := ynW (strongB xs.length (wdF xs))
def summedA (xs : List Int) : List UInt8 := ynW (summedB xs.length (wdF xs))
def classicalA (xs : List Int) : List UInt8 := ynW (classB xs.length (wdF xs))
def atomsA (xs : List Int) : List UInt8 := setsW xs (atomsB xs.length (wdF xs))
def wholeA (xs : List Int) : List UInt8 := oneW xs (wholeN xs.length (wdF xs)) (wholeOk xs.length (wdF xs))
def sumA (xs : List Int) (p q : Int) : List UInt8 := setsW xs (sumsB xs.length (wdF xs) (twoS p q))
def commonA (xs : List Int) (p q : Int) : List UInt8 := oneW xs (commonN xs.length (wdF xs) p q) (commonOk xs.length (wdF xs) p q)
def leftA (xs : List Int) (p q : Int) : List UInt8 := oneW xs (leftN xs.length (wdF xs) p q) (leftOk xs.length (wdF xs) p q)
def twoW (xs : List Int) (wd : List UInt8) (p q : Int) : List UInt8 :=
  if wd = sumW then sumA xs p q else if wd = commonW then commonA xs p q else if wd = leftW then leftA xs p q else whatW
def ansW (xs : List Int) (l : List UInt8) : List UInt8 :=
  if l = allW then allA xs else if l = companyW then companyA xs else if l = weakW then weakA xs else if l = strongW then strongA xs
  else if l = summedW then summedA xs else if l = classicalW then classicalA xs else if l = atomsW then atomsA xs else if l = wholeW then wholeA xs
  else if pA xs l < 0 ∨ pB xs l < 0 then whatW else twoW xs (cut1 l) (pA xs l) (pB xs l)
def isQ (l : List UInt8) : Prop := l = allW ∨ l = companyW ∨ l = weakW ∨ l = strongW ∨ l = summedW ∨ l = classicalW ∨ l = atomsW ∨ l = wholeW
theorem ans_two {xs : List Int} {l : List UInt8} (h : ¬ isQ l) : ansW xs l = if pA xs l < 0 ∨ pB xs l < 0 then whatW else twoW xs (cut1 l) (pA xs l) (pB xs l) := by
  unfold isQ at h
  simp only [not_or] at h
  obtain ⟨h1, h2, h3, h4, h5, h6, h7, h8⟩ := h
  unfold ansW
  rw [if_neg h1, if_neg h2, if_neg h3, if_neg h4, if_neg h5, if_neg h6, if_neg h7, if_neg h8]
theorem yn_ne (b : Bool) : ynW b ≠ [] := by cases b <;> decide
theorem sets_ne {xs : List Int} (h : famL xs = true) (s : Int) : setsW xs s ≠ [] := by
  unfold setsW
  split
  · decide
  · rename_i hn
    exact join_ne hn (fun l hl => (atS_ne h s (Nat.le_refl _) l hl).1)
theorem setf_ne {xs : List Int} (h : famL xs = true) {k : Nat} (hk : k < xs.length) : setL (xs.getD k 0) ≠ [] := by
  have hm : xs.getD k 0 ∈ xs := by
    rw [List.getD_eq_getElem?_getD, List.getElem?_eq_getElem hk]
    exact List.getElem_mem _
  have hr := famL_rng h _ hm
  obtain ⟨y, hy⟩ : ∃ y, xs.getD k 0 = y := ⟨_, rfl⟩
  rw [hy] at hr ⊢
  exact setL_ne (okX_iff.2 ⟨hr.1, hr.2⟩)
theorem one_ne {xs : List Int} (h : famL xs = true) {p : Int} {ok : Bool} (hp : ok = true → ∃ C : Nat, C < xs.length ∧ p = C) : oneW xs p ok ≠ [] := by
  unfold oneW
  cases ok with
  | false => rw [if_neg (by decide)]; decide
  | true =>
    obtain ⟨C, hC, rfl⟩ := hp rfl
    rw [if_pos rfl, Int.toNat_natCast]
    exact setf_ne h hC
theorem whole_at {xs : List Int} (h : famL xs = true) (ho : wholeOk xs.length (wdF xs) = true) : ∃ C : Nat, C < xs.length ∧ wholeN xs.length (wdF xs) = C := by
  unfold wholeOk at ho
  obtain ⟨_, C, hC, e, _⟩ := ans_on (fun _ => wd_P h) ho
  exact ⟨C, hC, e⟩
theorem common_at {xs : List Int} (h : famL xs = true) {p q : Int} (ho : commonOk xs.length (wdF xs) p q = true) : ∃ C : Nat, C < xs.length ∧ commonN xs.length (wdF xs) p q = C := by
  unfold commonOk at ho
  obtain ⟨_, C, hC, e, _⟩ := ans_on (fun _ => wd_P h) ho
  exact ⟨C, hC, e⟩
theorem left_at {xs : List Int} (h : famL xs = true) {p q : Int} (ho : leftOk xs.length (wdF xs) p q = true) : ∃ C : Nat, C < xs.length ∧ leftN xs.length (wdF xs) p q = C := by
  unfold leftOk at ho
  obtain ⟨_, C, hC, e, _⟩ := ans_on (fun _ => wd_P h) ho
  exact ⟨C, hC, e⟩
theorem ans_ne {xs : List Int} (h : famL xs = true) (l : List UInt8) : ansW xs l ≠ [] := by
  have ite_ne : ∀ {p : Prop} [Decidable p] {a b : List UInt8}, a ≠ [] → b ≠ [] → (if p then a else b) ≠ [] := fun {p} _ {a b} ha hb => by split <;> assumption
  unfold ansW twoW
  refine ite_ne (sets_ne h _) (ite_ne (yn_ne _) (ite_ne (yn_ne _) (ite_ne (yn_ne _) (ite_ne (yn_ne _) (ite_ne (yn_ne _) (ite_ne (sets_ne h _) (ite_ne (one_ne h (whole_at h)) (ite_ne (by decide) (ite_ne (sets_ne h _) (ite_ne (one_ne h (common_at h)) (ite_ne (one_ne h (left_at h)) (by decide))))))))))))
theorem join_len (ls : List (List UInt8)) (h : ∀ l ∈ ls, l.length ≤ 4) : (joinL ls).length ≤ ls.length * 5 := by
  induction ls with
  | nil => exact Nat.le_refl _
  | cons x ls ih =>
    have hx := h x List.mem_cons_self
    cases ls with
    | nil => show x.length ≤ _; simp; omega
    | cons y ls =>
      have := ih (fun l hl => h l (List.mem_cons_of_mem _ hl))
      show (x ++ 44 :: joinL (y :: ls)).length ≤ _
      rw [List.length_append, List.length_cons, List.length_cons]
      omega
theorem li_ne {xs : List Int} {L : List (List Int)} {l : List UInt8} (h : deskB xs L = true) : liT ansW xs L l ≠ [] := by
  cases hd : rdDB l with
  | true =>
    obtain ⟨_, _, e⟩ := li_deed (A := ansW) h hd
    rw [e]
    split <;> decide
  | false =>
    obtain ⟨_, _, e⟩ := li_ask (A := ansW) h hd
    rw [e]
    exact ans_ne (deskB_iff.1 h).1 l
theorem say_ne (xs : List Int) (L : List (List Int)) (h : deskB xs L = true) (ls : List (List UInt8)) : ∀ t ∈ (sayD ansW xs L ls).2.2, t ≠ [] := by
  induction ls generalizing xs L with
  | nil => intro t ht; cases ht
  | cons l ls ih =>
    intro t ht
    rw [sayD] at ht
    rcases List.mem_cons.1 ht with e | ht
    · rw [e]; exact li_ne h
    · exact ih _ _ (li_desk h) t ht
def ownL (y : Int) : List UInt8 := commonW ++ 32 :: (setL y ++ 32 :: setL y)
theorem own_all : (List.range 15).all (fun i => !rdDB (ownL ((i : Int) + 1)) && (cut1 (ownL ((i : Int) + 1)) == commonW && (rdI (cut1 (cut2 (ownL ((i : Int) + 1)))) == (i : Int) + 1 && (rdI (cut2 (cut2 (ownL ((i : Int) + 1)))) == (i : Int) + 1 && (ownL ((i : Int) + 1)).contains 32)))) = true := by decide +kernel
theorem isQ_space {l : List UInt8} (h : l.contains 32 = true) : ¬ isQ l := by
  rintro (rfl | rfl | rfl | rfl | rfl | rfl | rfl | rfl) <;> revert h <;> decide
theorem own_line {xs : List Int} (h : famL xs = true) : rdDB (ownL (xs.getD 0 0)) = false ∧ ansW xs (ownL (xs.getD 0 0)) = setL (xs.getD 0 0) := by
  have h0 : 0 < xs.length := (famL_len h).1
  have hm : xs.getD 0 0 ∈ xs := by
    rw [List.getD_eq_getElem?_getD, List.getElem?_eq_getElem h0]
    exact List.getElem_mem _
  have hr := famL_rng h _ hm
  obtain ⟨y, hy⟩ : ∃ y, xs.getD 0 0 = y := ⟨_, rfl⟩
  rw [hy] at hr ⊢
  obtain ⟨i, hi⟩ : ∃ i : Nat, y = (i : Int) + 1 := ⟨(y - 1).toNat, by omega⟩
  subst hi
  have ha := List.all_eq_true.1 own_all i (List.mem_range.2 (by omega))
  simp only [Bool.and_eq_true, Bool.not_eq_true', beq_iff_eq] at ha
  obtain ⟨a1, a2, a3, a4, a5⟩ := ha
  refine ⟨a1, ?_⟩
  have hp : plI xs ((i : Int) + 1) = 0 := plI_at h0 (fun j hj => absurd hj (Nat.not_lt_zero _)) hy
  rw [ans_two (isQ_space a5)]
  unfold pA pB
  rw [a3, a4, hp, if_neg (by omega), a2]
  unfold twoW
  rw [if_neg (by decide), if_pos rfl]
  unfold commonA
  have hP := wd_P h
  have hg : good2 xs.length (wdF xs) 0 0 = true := (good2_iff _ _ _ _).2 ⟨wd_world h, ⟨by omega, by omega⟩, by omega, by omega⟩
  obtain ⟨e1, e2⟩ := ans_at hP h0 (common_self hP h0 h0 (hP.self 0 h0))
  have f1 : commonN xs.length (wdF xs) 0 0 = 0 := by
    unfold commonN
    rw [hg]
    exact e1
  have f2 : commonOk xs.length (wdF xs) 0 0 = true := by
    unfold commonOk
    rw [hg]
    exact e2
  rw [f1, f2]
  unfold oneW
  rw [if_pos rfl]
  show setL (xs.getD 0 0) = _
  rw [hy]
end Go.Proofs.YthaickihoagnmaaGreatDoor
namespace Go.Proofs.YthaickihoagnmaaGreatDoor
open Go.RowKit Go.Shelf Go.Maps
attribute [local go_sem] Oper.semAt_some
attribute [local go_sem] Oper.semAt_some
attribute [local go_sem] Oper.semAt_some
end Go.Proofs.YthaickihoagnmaaGreatDoor
namespace Go.Proofs.YthaickihoagnmaaGreatDoor
open Go.Shelf
def sjRen : Go.Shelf.Ren := ⟨fun | 156 => 184 | 165 => 205 | 166 => 59 | 169 => 61 | 240 => 118 | 241 => 229 | 276 => 147 | 277 => 242 | n => n, fun | 0 => 0 | 3 => 3 | 4 => 4 | 5 => 5 | 9 => 9 | 20 => 20 | 31 => 48 | 37 => 22 | 70 => 84 | 72 => 86 | 75 => 88 | 76 => 89 | 80 => 92 | 127 => 134 | 164 => 151 | n => n, fun n => n⟩
theorem sj156 : Go.Proofs.Lays.n156 Tryz.prog sjRen := {
  mixed := by kernel_rfl
  f156 := Tryz.func184.trans (congrArg some (by kernel_rfl))
  f165 := Tryz.func205.trans (congrArg some (by kernel_rfl))
  f166 := Tryz.func59.trans (congrArg some (by kernel_rfl))
  f169 := Tryz.func61.trans (congrArg some (by kernel_rfl))
  f240 := Tryz.func118.trans (congrArg some (by kernel_rfl))
  f241 := Tryz.func229.trans (congrArg some (by kernel_rfl))
  f276 := Tryz.func147.trans (congrArg some (by kernel_rfl))
  f277 := Tryz.func242.trans (congrArg some (by kernel_rfl))
  t0 := Tryz.underlying0
  a0 := Tryz.isAgg0
  z0 := Tryz.sizeOf0
  v0 := Tryz.zeroValue0
  t3 := Tryz.underlying3
  a3 := Tryz.isAgg3
  z3 := Tryz.sizeOf3
  v3 := Tryz.zeroValue3
  t4 := Tryz.underlying4
  a4 := Tryz.isAgg4
  z4 := Tryz.sizeOf4
  v4 := Tryz.zeroValue4
  t9 := Tryz.underlying9
  a9 := Tryz.isAgg9
  z9 := Tryz.sizeOf9
  v9 := Tryz.zeroValue9
  t20 := Tryz.underlying20
  a20 := Tryz.isAgg20
  z20 := Tryz.sizeOf20
  v20 := Tryz.zeroValue20
  t31 := Tryz.underlying48
  a31 := Tryz.isAgg48
  z31 := Tryz.sizeOf48
  v31 := Tryz.zeroValue48
  t37 := Tryz.underlying22
  a37 := Tryz.isAgg22
  z37 := Tryz.sizeOf22
  v37 := Tryz.zeroValue22
  t70 := Tryz.underlying84
  a70 := Tryz.isAgg84
  z70 := Tryz.sizeOf84
  v70 := Tryz.zeroValue84
  t72 := Tryz.underlying86
  a72 := Tryz.isAgg86
  z72 := Tryz.sizeOf86
  v72 := Tryz.zeroValue86
  t75 := Tryz.underlying88
  a75 := Tryz.isAgg88
  z75 := Tryz.sizeOf88
  v75 := Tryz.zeroValue88
  t76 := Tryz.underlying89
  a76 := Tryz.isAgg89
  z76 := Tryz.sizeOf89
  v76 := Tryz.zeroValue89
  t127 := Tryz.underlying134
  a127 := Tryz.isAgg134
  z127 := Tryz.sizeOf134
  v127 := Tryz.zeroValue134
  t164 := Tryz.underlying151
  a164 := Tryz.isAgg151
  z164 := Tryz.sizeOf151
  v164 := Tryz.zeroValue151 }
theorem sjExtra : Builder.Extra Tryz.prog sjRen := {
  sizeBuilder := by kernel_rfl
  liesBuilder := by kernel_rfl
  t5 := Tryz.underlying5
  a5 := Tryz.isAgg5
  z5 := Tryz.sizeOf5
  v5 := Tryz.zeroValue5
  infoByte := by kernel_rfl
  cellsByte := by kernel_rfl
  sizeByte := by kernel_rfl
  neB5 := by decide }
open Go.RowKit
theorem join_L (ls : List (List UInt8)) : Lib.join ls [44] = joinL ls := by
  cases ls with
  | nil => rfl
  | cons x r =>
    rw [Lib.join_cons]
    induction r generalizing x with
    | nil => simp [Lib.joinTail, joinL]
    | cons y r ih =>
      show _ = x ++ 44 :: joinL (y :: r)
      rw [← ih]
      simp [Lib.joinTail]
theorem OwnS.kept {w w' : World} {B : Nat} {v : Value} {ts : List ByteArray} (h : OwnS w B v ts) (hb : Below w.heap.size w w') : OwnS w' B v ts :=
  ownsRow_kept h (fun g hg => hb.block g (World.ownsRow.lt h g hg).2)
theorem Join_any (v : Value) (B : Nat) (ls : List (List UInt8)) (w : World) (h : OwnS w B v (ls.map bs)) (hl : (joinL ls).length ≤ 140737488355328) (hN : ls.length ≤ 140737488355328) :
    Calls Tryz.prog 184 #[v, .string { data := #[44] }] w fun e w' => e = .returned (.string (bs (joinL ls))) ∧ Below w.heap.size w w' := by
  have hmm : (ls.map bs).map (·.data.toList) = ls := by
    rw [List.map_map]
    conv => rhs; rw [← List.map_id ls]
    exact List.map_congr_left (fun l _ => bs_data l)
  rw [← join_L] at hl ⊢
  have h' := h
  obtain ⟨h3, h4⟩ := h
  rw [Nat.mul_one] at h3
  rcases h4 with ⟨rfl, h4⟩ | ⟨g, cap, cur, rfl, hB, hg, hc, hm, hs, ht⟩
  · have hx : ls = [] := by
      rw [List.length_map, List.length_map] at h3
      rw [List.length_map] at h4
      exact List.eq_nil_of_length_eq_zero (by omega)
    subst hx
    exact (Any.strings_Join_none sj156 sjExtra none 0 _ w).mono fun e w' ⟨he, hw⟩ => ⟨he, hw ▸ Below.refl _ _⟩
  · have key := Any.strings_Join sj156 sjExtra g 0 cap (ls.map bs) { data := #[44] } w (fun j x hx => ?_) (World.ownsRow.lt h' g rfl).2 (by rw [List.length_map]; exact hN) (by rw [List.length_map] at hc ⊢; omega) (by rw [hmm]; exact hl)
    · rw [hmm] at key
      exact key
    · have hj : j < (ls.map bs).length := (List.getElem?_eq_some_iff.1 hx).1
      have := World.ownsRow.cellAt h' j (by omega)
      rw [Nat.zero_add, this, List.getElem?_map, hx]
      rfl
end Go.Proofs.YthaickihoagnmaaGreatDoor
namespace Go.Proofs.YthaickihoagnmaaGreatDoor
open Go.RowKit Go.Maps
theorem StrongOk_at (a : Option Addr) (n cap : Nat) (f : Nat → Int) (v : Bool) (w : World) (hv : strongB n f = v) (hi : Ints w a n f) :
    Calls Tryz.prog 161 #[.slice a n cap] w fun e w' => e = .returned (.bool v) ∧ Below w.heap.size w w' := by subst hv; exact StrongOk_any a n cap f w hi
theorem specStrongOk_at (a : Option Addr) (n cap : Nat) (f : Nat → Int) (v : Bool) (w : World) (hv : strongB n f = v) (hi : Ints w a n f) :
    Calls Tryz.prog 73 #[.slice a n cap] w fun e w' => e = .returned (.bool v) ∧ Drew w w' := by subst hv; exact specStrongOk_any a n cap f w hi
theorem SummedOk_at (a : Option Addr) (n cap : Nat) (f : Nat → Int) (v : Bool) (w : World) (hv : summedB n f = v) (hi : Ints w a n f) :
    Calls Tryz.prog 162 #[.slice a n cap] w fun e w' => e = .returned (.bool v) ∧ Below w.heap.size w w' := by subst hv; exact SummedOk_any a n cap f w hi
theorem specSummedOk_at (a : Option Addr) (n cap : Nat) (f : Nat → Int) (v : Bool) (w : World) (hv : summedB n f = v) (hi : Ints w a n f) :
    Calls Tryz.prog 74 #[.slice a n cap] w fun e w' => e = .returned (.bool v) ∧ Drew w w' := by subst hv; exact specSummedOk_any a n cap f w hi
set_option maxRecDepth 100000 in
theorem ClassicalOk_any (a : Option Addr) (n cap : Nat) (f : Nat → Int) (w : World) (hi : Ints w a n f) :
    Calls Tryz.prog 163 #[.slice a n cap] w fun e w' => e = .returned (.bool (classB n f)) ∧ Below w.heap.size w w' := by
  have HI := Lib.hid hi; clear hi
  cases hs : strongB n f with
  | true =>
    have HF := Lib.hid (show classB n f = summedB n f by unfold classB; rw [hs]; rfl)
    cases hm : summedB n f with
    | true =>
      have HS := Lib.hid hs; have HM := Lib.hid hm; clear hs hm
      go_enter Tryz.func163, Tryz.ntmps163
      go_wp2_with fail
      refine (StrongOk_at _ _ _ f true _ HS.out HI.out).mono ?_
      rintro e w1 ⟨rfl, hb1⟩
      go_wp2_with fail
      refine (SummedOk_at _ _ _ f true _ HM.out (HI.out.next hb1)).mono ?_
      rintro e w2 ⟨rfl, hb2⟩
      go_wp2_with fail
      go_ret
      exact ⟨retb (by rw [HF.out, HM.out]), below_onto hb1 hb2⟩
    | false =>
      have HS := Lib.hid hs; have HM := Lib.hid hm; clear hs hm
      go_enter Tryz.func163, Tryz.ntmps163
      go_wp2_with fail
      refine (StrongOk_at _ _ _ f true _ HS.out HI.out).mono ?_
      rintro e w1 ⟨rfl, hb1⟩
      go_wp2_with fail
      refine (SummedOk_at _ _ _ f false _ HM.out (HI.out.next hb1)).mono ?_
      rintro e w2 ⟨rfl, hb2⟩
      go_wp2_with fail
      go_ret
      exact ⟨retb (by rw [HF.out, HM.out]), below_onto hb1 hb2⟩
  | false =>
    have HF := Lib.hid (show classB n f = false by unfold classB; rw [hs]; rfl)
    have HS := Lib.hid hs; clear hs
    go_enter Tryz.func163, Tryz.ntmps163
    go_wp2_with fail
    refine (StrongOk_at _ _ _ f false _ HS.out HI.out).mono ?_
    rintro e w1 ⟨rfl, hb1⟩
    go_wp2_with fail
    go_ret
    exact ⟨retb HF.out.symm, hb1⟩
set_option maxRecDepth 100000 in
theorem specClassicalOk_any (a : Option Addr) (n cap : Nat) (f : Nat → Int) (w : World) (hi : Ints w a n f) :
    Calls Tryz.prog 75 #[.slice a n cap] w fun e w' => e = .returned (.bool (classB n f)) ∧ Drew w w' := by
  have HI := Lib.hid hi; clear hi
  cases hs : strongB n f with
  | true =>
    have HF := Lib.hid (show classB n f = summedB n f by unfold classB; rw [hs]; rfl)
    cases hm : summedB n f with
    | true =>
      have HS := Lib.hid hs; have HM := Lib.hid hm; clear hs hm
      go_enter Tryz.func75, Tryz.ntmps75
      go_wp2_with fail
      refine (specStrongOk_at _ _ _ f true _ HS.out HI.out).mono ?_
      rintro e w1 ⟨rfl, hb1⟩
      go_wp2_with fail
      refine (specSummedOk_at _ _ _ f true _ HM.out (HI.out.drew hb1)).mono ?_
      rintro e w2 ⟨rfl, hb2⟩
      go_wp2_with fail
      go_ret
      exact ⟨retb (by rw [HF.out, HM.out]), hb1.onto hb2⟩
    | false =>
      have HS := Lib.hid hs; have HM := Lib.hid hm; clear hs hm
      go_enter Tryz.func75, Tryz.ntmps75
      go_wp2_with fail
      refine (specStrongOk_at _ _ _ f true _ HS.out HI.out).mono ?_
      rintro e w1 ⟨rfl, hb1⟩
      go_wp2_with fail
      refine (specSummedOk_at _ _ _ f false _ HM.out (HI.out.drew hb1)).mono ?_
      rintro e w2 ⟨rfl, hb2⟩
      go_wp2_with fail
      go_ret
      exact ⟨retb (by rw [HF.out, HM.out]), hb1.onto hb2⟩
  | false =>
    have HF := Lib.hid (show classB n f = false by unfold classB; rw [hs]; rfl)
    have HS := Lib.hid hs; clear hs
    go_enter Tryz.func75, Tryz.ntmps75
    go_wp2_with fail
    refine (specStrongOk_at _ _ _ f false _ HS.out HI.out).mono ?_
    rintro e w1 ⟨rfl, hb1⟩
    go_wp2_with fail
    go_ret
    exact ⟨retb HF.out.symm, hb1⟩
def Txt (l : List UInt8) (w : World) (e : Ending) (w' : World) : Prop := e = .returned (.string (bs l)) ∧ Below w.heap.size w w'
def WdEnd (xs : List Int) (w : World) (e : Ending) (w' : World) : Prop := ∃ g cap, e = .returned (.slice (some ⟨g, 0, none⟩) xs.length cap) ∧ Ints w' (some ⟨g, 0, none⟩) xs.length (wdF xs) ∧ Below w.heap.size w w'
theorem wd_gives {xs : List Int} (hf : famL xs = true) {w w' : World} {e : Ending} (h : Gives 3 (wfL xs.length (fun j => xs.getD j 0)) w e w') : WdEnd xs w e w' := by
  have hl := famL_len hf
  have hw : wfL xs.length (fun j => xs.getD j 0) = rowL (wdF xs) xs.length := by unfold wfL; rw [if_pos (show famOkB xs.length (fun j => xs.getD j 0) = true from hf)]; rfl
  rw [hw] at h
  obtain ⟨g, cap, rfl, _, h2, h3, h4⟩ := h.row hl.1
  exact ⟨g, cap, rfl, ints_row h3 h2 (by omega) (fun i _ => wf_I64 _ _ _), h4⟩
theorem yn_if (ok : Bool) : (if ok then ({ data := #[121, 101, 115] } : ByteArray) else { data := #[110, 111] }) = bs (ynW ok) := by cases ok <;> rfl
set_option maxRecDepth 100000 in
theorem world_any (d : Value) (xs : List Int) (L : List (List Int)) (hf : famL xs = true) (w : World) (h : DeskR w d xs L) :
    Calls Tryz.prog 159 #[d] w (WdEnd xs w) := by
  have hdd := h
  obtain ⟨a, c, b, c2, rfl, _⟩ := h.parts
  have q1 := alloc_below w (.cells #[.slice a xs.length c, .slice b L.length c2] 31)
  have HV := Lib.hid (VarD.new hdd)
  have HB := Lib.hid q1
  have HF := Lib.hid hf
  obtain ⟨w1, hw1⟩ : ∃ w1, w.alloc (.cells #[.slice a xs.length c, .slice b L.length c2] 31) = w1 := ⟨_, rfl⟩
  rw [hw1] at HV HB
  have hd0 := HV.out.blk.cell.1; have hd1 := HV.out.blk.cell.2
  clear h hdd q1 hf
  go_enter Tryz.func159, Tryz.ntmps159
  go_wp2_with fail
  clear hw1
  refine (WorldFrom_any a xs.length c (fun j => xs.getD j 0) _ HV.out.d.now).mono ?_
  intro e w2 hg
  obtain ⟨g, cap, rfl, hi, hb⟩ := wd_gives HF.out hg
  have HI := Lib.hid hi; have HB2 := Lib.hid (below_onto HB.out hb)
  clear hg hi hb hd0 hd1
  go_wp2_with fail
  go_ret
  exact ⟨g, cap, rfl, HI.out, HB2.out⟩
set_option maxRecDepth 100000 in
theorem companyM_any (d : Value) (xs : List Int) (L : List (List Int)) (hf : famL xs = true) (w : World) (h : DeskR w d xs L) :
    Calls Tryz.prog 134 #[d] w (Txt (companyA xs) w) := by
  have hdd := h
  obtain ⟨a, c, b, c2, rfl, _⟩ := h.parts
  have q1 := alloc_below w (.cells #[.slice a xs.length c, .slice b L.length c2] 31)
  have HV := Lib.hid (VarD.new hdd)
  have HB := Lib.hid q1
  have HF := Lib.hid hf
  obtain ⟨w1, hw1⟩ : ∃ w1, w.alloc (.cells #[.slice a xs.length c, .slice b L.length c2] 31) = w1 := ⟨_, rfl⟩
  rw [hw1] at HV HB
  have hd0 := HV.out.blk.cell.1; have hd1 := HV.out.blk.cell.2
  clear h hdd q1 hf
  obtain ⟨ok, hok⟩ : ∃ ok, companyB xs.length (wdF xs) = ok := ⟨_, rfl⟩
  have HOK := Lib.hid hok
  have HE := Lib.hid (show (if ok then ({ data := #[121, 101, 115] } : ByteArray) else { data := #[110, 111] }) = bs (companyA xs) from by unfold companyA; rw [hok]; exact yn_if ok)
  clear hok
  go_enter Tryz.func134, Tryz.ntmps134
  go_wp2_with fail
  clear hw1
  refine (world_any _ xs L HF.out _ HV.out.d).mono ?_
  rintro e w2 ⟨g, cap, rfl, hi, hb⟩
  have HI := Lib.hid hi
  replace HB := Lib.hid (below_onto HB.out hb)
  clear hi hb hd0 hd1
  go_wp2_with fail
  refine (CompanyOk_any _ _ _ _ _ HI.out).mono ?_
  rintro e w3 ⟨rfl, hb⟩
  rw [HOK.out]
  replace HB := Lib.hid (below_onto HB.out hb)
  clear hb
  go_wp2_with fail
  refine (either_any ok _ _ _).mono ?_
  rintro e w4 ⟨rfl, rfl⟩
  rw [HE.out]
  go_wp2_with fail
  go_ret
  exact ⟨rfl, HB.out⟩
set_option maxRecDepth 100000 in
theorem weakM_any (d : Value) (xs : List Int) (L : List (List Int)) (hf : famL xs = true) (w : World) (h : DeskR w d xs L) :
    Calls Tryz.prog 135 #[d] w (Txt (weakA xs) w) := by
  have hdd := h
  obtain ⟨a, c, b, c2, rfl, _⟩ := h.parts
  have q1 := alloc_below w (.cells #[.slice a xs.length c, .slice b L.length c2] 31)
  have HV := Lib.hid (VarD.new hdd)
  have HB := Lib.hid q1
  have HF := Lib.hid hf
  obtain ⟨w1, hw1⟩ : ∃ w1, w.alloc (.cells #[.slice a xs.length c, .slice b L.length c2] 31) = w1 := ⟨_, rfl⟩
  rw [hw1] at HV HB
  have hd0 := HV.out.blk.cell.1; have hd1 := HV.out.blk.cell.2
  clear h hdd q1 hf
  obtain ⟨ok, hok⟩ : ∃ ok, weakB xs.length (wdF xs) = ok := ⟨_, rfl⟩
  have HOK := Lib.hid hok
  have HE := Lib.hid (show (if ok then ({ data := #[121, 101, 115] } : ByteArray) else { data := #[110, 111] }) = bs (weakA xs) from by unfold weakA; rw [hok]; exact yn_if ok)
  clear hok
  go_enter Tryz.func135, Tryz.ntmps135
  go_wp2_with fail
  clear hw1
  refine (world_any _ xs L HF.out _ HV.out.d).mono ?_
  rintro e w2 ⟨g, cap, rfl, hi, hb⟩
  have HI := Lib.hid hi
  replace HB := Lib.hid (below_onto HB.out hb)
  clear hi hb hd0 hd1
  go_wp2_with fail
  refine (WeakOk_any _ _ _ _ _ HI.out).mono ?_
  rintro e w3 ⟨rfl, hb⟩
  rw [HOK.out]
  replace HB := Lib.hid (below_onto HB.out hb)
  clear hb
  go_wp2_with fail
  refine (either_any ok _ _ _).mono ?_
  rintro e w4 ⟨rfl, rfl⟩
  rw [HE.out]
  go_wp2_with fail
  go_ret
  exact ⟨rfl, HB.out⟩
set_option maxRecDepth 100000 in
theorem strongM_any (d : Value) (xs : List Int) (L : List (List Int)) (hf : famL xs = true) (w : World) (h : DeskR w d xs L) :
    Calls Tryz.prog 136 #[d] w (Txt (strongA xs) w) := by
  have hdd := h
  obtain ⟨a, c, b, c2, rfl, _⟩ := h.parts
  have q1 := alloc_below w (.cells #[.slice a xs.length c, .slice b L.length c2] 31)
  have HV := Lib.hid (VarD.new hdd)
  have HB := Lib.hid q1
  have HF := Lib.hid hf
  obtain ⟨w1, hw1⟩ : ∃ w1, w.alloc (.cells #[.slice a xs.length c, .slice b L.length c2] 31) = w1 := ⟨_, rfl⟩
  rw [hw1] at HV HB
  have hd0 := HV.out.blk.cell.1; have hd1 := HV.out.blk.cell.2
  clear h hdd q1 hf
  obtain ⟨ok, hok⟩ : ∃ ok, strongB xs.length (wdF xs) = ok := ⟨_, rfl⟩
  have HOK := Lib.hid hok
  have HE := Lib.hid (show (if ok then ({ data := #[121, 101, 115] } : ByteArray) else { data := #[110, 111] }) = bs (strongA xs) from by unfold strongA; rw [hok]; exact yn_if ok)
  clear hok
  go_enter Tryz.func136, Tryz.ntmps136
  go_wp2_with fail
  clear hw1
  refine (world_any _ xs L HF.out _ HV.out.d).mono ?_
  rintro e w2 ⟨g, cap, rfl, hi, hb⟩
  have HI := Lib.hid hi
  replace HB := Lib.hid (below_onto HB.out hb)
  clear hi hb hd0 hd1
  go_wp2_with fail
  refine (StrongOk_any _ _ _ _ _ HI.out).mono ?_
  rintro e w3 ⟨rfl, hb⟩
  rw [HOK.out]
  replace HB := Lib.hid (below_onto HB.out hb)
  clear hb
  go_wp2_with fail
  refine (either_any ok _ _ _).mono ?_
  rintro e w4 ⟨rfl, rfl⟩
  rw [HE.out]
  go_wp2_with fail
  go_ret
  exact ⟨rfl, HB.out⟩
set_option maxRecDepth 100000 in
theorem summedM_any (d : Value) (xs : List Int) (L : List (List Int)) (hf : famL xs = true) (w : World) (h : DeskR w d xs L) :
    Calls Tryz.prog 137 #[d] w (Txt (summedA xs) w) := by
  have hdd := h
  obtain ⟨a, c, b, c2, rfl, _⟩ := h.parts
  have q1 := alloc_below w (.cells #[.slice a xs.length c, .slice b L.length c2] 31)
  have HV := Lib.hid (VarD.new hdd)
  have HB := Lib.hid q1
  have HF := Lib.hid hf
  obtain ⟨w1, hw1⟩ : ∃ w1, w.alloc (.cells #[.slice a xs.length c, .slice b L.length c2] 31) = w1 := ⟨_, rfl⟩
  rw [hw1] at HV HB
  have hd0 := HV.out.blk.cell.1; have hd1 := HV.out.blk.cell.2
  clear h hdd q1 hf
  obtain ⟨ok, hok⟩ : ∃ ok, summedB xs.length (wdF xs) = ok := ⟨_, rfl⟩
  have HOK := Lib.hid hok
  have HE := Lib.hid (show (if ok then ({ data := #[121, 101, 115] } : ByteArray) else { data := #[110, 111] }) = bs (summedA xs) from by unfold summedA; rw [hok]; exact yn_if ok)
  clear hok
  go_enter Tryz.func137, Tryz.ntmps137
  go_wp2_with fail
  clear hw1
  refine (world_any _ xs L HF.out _ HV.out.d).mono ?_
  rintro e w2 ⟨g, cap, rfl, hi, hb⟩
  have HI := Lib.hid hi
  replace HB := Lib.hid (below_onto HB.out hb)
  clear hi hb hd0 hd1
  go_wp2_with fail
  refine (SummedOk_any _ _ _ _ _ HI.out).mono ?_
  rintro e w3 ⟨rfl, hb⟩
  rw [HOK.out]
  replace HB := Lib.hid (below_onto HB.out hb)
  clear hb
  go_wp2_with fail
  refine (either_any ok _ _ _).mono ?_
  rintro e w4 ⟨rfl, rfl⟩
  rw [HE.out]
  go_wp2_with fail
  go_ret
  exact ⟨rfl, HB.out⟩
set_option maxRecDepth 100000 in
theorem classicalM_any (d : Value) (xs : List Int) (L : List (List Int)) (hf : famL xs = true) (w : World) (h : DeskR w d xs L) :
    Calls Tryz.prog 138 #[d] w (Txt (classicalA xs) w) := by
  have hdd := h
  obtain ⟨a, c, b, c2, rfl, _⟩ := h.parts
  have q1 := alloc_below w (.cells #[.slice a xs.length c, .slice b L.length c2] 31)
  have HV := Lib.hid (VarD.new hdd)
  have HB := Lib.hid q1
  have HF := Lib.hid hf
  obtain ⟨w1, hw1⟩ : ∃ w1, w.alloc (.cells #[.slice a xs.length c, .slice b L.length c2] 31) = w1 := ⟨_, rfl⟩
  rw [hw1] at HV HB
  have hd0 := HV.out.blk.cell.1; have hd1 := HV.out.blk.cell.2
  clear h hdd q1 hf
  obtain ⟨ok, hok⟩ : ∃ ok, classB xs.length (wdF xs) = ok := ⟨_, rfl⟩
  have HOK := Lib.hid hok
  have HE := Lib.hid (show (if ok then ({ data := #[121, 101, 115] } : ByteArray) else { data := #[110, 111] }) = bs (classicalA xs) from by unfold classicalA; rw [hok]; exact yn_if ok)
  clear hok
  go_enter Tryz.func138, Tryz.ntmps138
  go_wp2_with fail
  clear hw1
  refine (world_any _ xs L HF.out _ HV.out.d).mono ?_
  rintro e w2 ⟨g, cap, rfl, hi, hb⟩
  have HI := Lib.hid hi
  replace HB := Lib.hid (below_onto HB.out hb)
  clear hi hb hd0 hd1
  go_wp2_with fail
  refine (ClassicalOk_any _ _ _ _ _ HI.out).mono ?_
  rintro e w3 ⟨rfl, hb⟩
  rw [HOK.out]
  replace HB := Lib.hid (below_onto HB.out hb)
  clear hb
  go_wp2_with fail
  refine (either_any ok _ _ _).mono ?_
  rintro e w4 ⟨rfl, rfl⟩
  rw [HE.out]
  go_wp2_with fail
  go_ret
  exact ⟨rfl, HB.out⟩
set_option maxRecDepth 100000 in
theorem index_any (a : Option Addr) (c : Nat) (xs : List Int) (x : Int) (w : World) (hi : Ints w a xs.length (fun j => xs.getD j 0)) :
    Calls Tryz.prog 144 #[.slice a xs.length c, .int .i64 x] w fun e w' => e = .returned (.int .i64 (plI xs x)) ∧ w = w' := by
  have HI := Lib.hid hi
  have hn := hi.1.1
  obtain ⟨n, hnn⟩ : ∃ n, xs.length = n := ⟨_, rfl⟩
  have HN := Lib.hid hnn
  rw [hnn] at hn HI ⊢
  clear hi hnn
  go_enter Tryz.func144, Tryz.ntmps144
  go_wp2_with fail
  go_loopw [5, 8] (fun _ i wr => ∃ k : Nat, k ≤ n ∧ i = .int .i64 k ∧ Hid (∀ j, j < k → xs.getD j 0 ≠ x) ∧ w = wr) (fun _ i _ => n - (intOf i).toNat)
  case atStart => exact ⟨0, Nat.zero_le _, rfl, Lib.hid (fun j hj => absurd hj (Nat.not_lt_zero _)), rfl⟩
  case round =>
    obtain ⟨k, hk, rfl, hall, rfl⟩ := hrel
    by_cases hlt : k < n
    · have hki : (k : Int) < (n : Int) := by omega
      have hk0 : (0 : Int) ≤ (k : Int) := by omega
      obtain ⟨b, o, rfl, hbl, hrow⟩ := HI.out.row (by omega)
      have hc : w.cell? ⟨b, o + k, none⟩ = some (.int .i64 (xs.getD k 0)) := hrow k hlt
      clear hrow hbl
      have HZ := Lib.hid (fun e => plI_at (xs := xs) (x := x) (show k < xs.length by rw [HN.out]; exact hlt) hall.out e)
      obtain ⟨z, hz⟩ : ∃ z, xs.getD k 0 = z := ⟨_, rfl⟩
      have HZZ := Lib.hid hz
      rw [hz] at HZ hc
      cases hv : (x == z) with
      | true =>
        have HE := Lib.hid (HZ.out (by simpa using hv : x = z).symm)
        clear hz
        go_wp2_with fail
        go_ret
        exact ⟨reti HE.out.symm, rfl⟩
      | false =>
        have hne : z ≠ x := by intro e; rw [e] at hv; simp at hv
        have HNE := Lib.hid hne
        clear hz hne
        go_wp2_with fail
        go_roundw
        case rel => exact ⟨k + 1, by omega, by go_num, Lib.hid (fun j hj => by
          by_cases e : j = k
          · subst e; rw [HZZ.out]; exact HNE.out
          · exact hall.out j (by omega)), by first | rfl | trivial⟩
        case measure => simp [intOf]; omega
    · have hki : ¬ (k : Int) < (n : Int) := by omega
      have hkn : k = n := by omega
      have HE := Lib.hid (plI_none (xs := xs) (x := x) (fun j hj => hall.out j (by rw [HN.out] at hj; omega)))
      clear hkn hk
      go_wp2_with fail
      go_ret
      exact ⟨reti HE.out.symm, rfl⟩
set_option maxRecDepth 100000 in
theorem place_any (d : Value) (xs : List Int) (L : List (List Int)) (t : ByteArray) (hf : famL xs = true) (w : World) (h : DeskR w d xs L) :
    Calls Tryz.prog 114 #[d, .string t] w fun e w' => e = .returned (.int .i64 (plI xs (rdI t.data.toList))) ∧ Below w.heap.size w w' := by
  have hdd := h
  obtain ⟨a, c, b, c2, rfl, _⟩ := h.parts
  have q1 := alloc_below w (.cells #[.slice a xs.length c, .slice b L.length c2] 31)
  have HV := Lib.hid (VarD.new hdd)
  have HB := Lib.hid q1
  have HF := Lib.hid hf
  obtain ⟨w1, hw1⟩ : ∃ w1, w.alloc (.cells #[.slice a xs.length c, .slice b L.length c2] 31) = w1 := ⟨_, rfl⟩
  rw [hw1] at HV HB
  have hd0 := HV.out.blk.cell.1; have hd1 := HV.out.blk.cell.2
  clear h hdd q1 hf
  obtain ⟨x, hx⟩ : ∃ x, rdI t.data.toList = x := ⟨_, rfl⟩
  rw [hx]
  have HX := Lib.hid hx
  clear hx
  go_enter Tryz.func114, Tryz.ntmps114
  go_wp2_with fail
  clear hw1
  refine (ReadSet_any t _).mono ?_
  rintro e w2 ⟨rfl, hb⟩
  replace HV := Lib.hid (HV.out.kept hb); replace HB := Lib.hid (below_onto HB.out hb)
  clear hb hd0 hd1
  have hd0 := HV.out.blk.cell.1; have hd1 := HV.out.blk.cell.2
  rw [HX.out]
  go_wp2_with fail
  refine (index_any a c xs x _ HV.out.d.now).mono ?_
  rintro e w3 ⟨rfl, rfl⟩
  go_wp2_with fail
  go_ret
  exact ⟨rfl, HB.out⟩
set_option maxRecDepth 100000 in
theorem text_any (d : Value) (xs : List Int) (L : List (List Int)) (p : Int) (ok : Bool) (hp : ok = true → ∃ C : Nat, C < xs.length ∧ p = C) (hf : famL xs = true) (w : World) (h : DeskR w d xs L) :
    Calls Tryz.prog 165 #[d, .int .i64 p, .bool ok] w (Txt (oneW xs p ok) w) := by
  have hdd := h
  obtain ⟨a, c, b, c2, rfl, _⟩ := h.parts
  have q1 := alloc_below w (.cells #[.slice a xs.length c, .slice b L.length c2] 31)
  have HV := Lib.hid (VarD.new hdd)
  have HB := Lib.hid q1
  have HF := Lib.hid hf
  obtain ⟨w1, hw1⟩ : ∃ w1, w.alloc (.cells #[.slice a xs.length c, .slice b L.length c2] 31) = w1 := ⟨_, rfl⟩
  rw [hw1] at HV HB
  have hd0 := HV.out.blk.cell.1; have hd1 := HV.out.blk.cell.2
  clear h hdd q1 hf
  cases ok with
  | false =>
    have HE := Lib.hid (show ({ data := #[110, 111, 110, 101] } : ByteArray) = bs (oneW xs p false) from rfl)
    go_enter Tryz.func165, Tryz.ntmps165
    go_wp2_with fail
    go_ret
    exact ⟨rets HE.out, HB.out⟩
  | true =>
    obtain ⟨C, hC, rfl⟩ := hp rfl
    have hC0 : (0 : Int) ≤ (C : Int) := by omega
    have hC1 : (C : Int) < (xs.length : Int) := by omega
    have HE := Lib.hid (show setT (xs.getD C 0) = bs (oneW xs (C : Int) true) from by unfold oneW setT; rw [if_pos rfl, Int.toNat_natCast])
    obtain ⟨g, o, rfl, hbl, hrow⟩ := HV.out.d.now.row (by omega)
    have hc : w1.cell? ⟨g, o + C, none⟩ = some (.int .i64 (xs.getD C 0)) := hrow C hC
    obtain ⟨z, hz⟩ : ∃ z, xs.getD C 0 = z := ⟨_, rfl⟩
    rw [hz] at hc HE
    clear hrow hbl hz hp
    go_enter Tryz.func165, Tryz.ntmps165
    go_wp2_with fail
    clear hw1
    refine (SetText_any z _).mono ?_
    rintro e w2 ⟨rfl, hb⟩
    rw [HE.out]
    replace HB := Lib.hid (below_onto HB.out hb)
    clear hb
    go_wp2_with fail
    go_ret
    exact ⟨rfl, HB.out⟩
set_option maxRecDepth 100000 in
theorem texts_any (d : Value) (xs : List Int) (L : List (List Int)) (s : Int) (hf : famL xs = true) (w : World) (h : DeskR w d xs L) :
    Calls Tryz.prog 157 #[d, .int .i64 s] w (Txt (setsW xs s) w) := by
  obtain ⟨i0, hii, hz0, hz1, hz2⟩ := info_str
  have hdd := h
  obtain ⟨a, c, b, c2, rfl, _⟩ := h.parts
  have q1 := alloc_below w (.cells #[.slice a xs.length c, .slice b L.length c2] 31)
  have HV := Lib.hid (VarD.new hdd)
  have HB := Lib.hid q1
  have HF := Lib.hid hf
  obtain ⟨w1, hw1⟩ : ∃ w1, w.alloc (.cells #[.slice a xs.length c, .slice b L.length c2] 31) = w1 := ⟨_, rfl⟩
  rw [hw1] at HV HB
  have hd0 := HV.out.blk.cell.1; have hd1 := HV.out.blk.cell.2
  clear h hdd q1 hf
  have hl := famL_len HF.out
  obtain ⟨n, hnn⟩ : ∃ n, xs.length = n := ⟨_, rfl⟩
  have HN := Lib.hid hnn
  have HI := Lib.hid (show Ints w1 a n (fun j => xs.getD j 0) from hnn ▸ HV.out.d.now)
  rw [hnn] at hd0 hl
  have HST : Hid (OwnS w1 w1.heap.size (.slice none 0 0) ((atS xs s 0).map bs)) := Lib.hid (World.ownsRow_nil _ _ _ _)
  have hfl := atS_ne HF.out s (Nat.le_refl xs.length)
  clear hnn
  go_enter Tryz.func157, Tryz.ntmps157
  go_wp2_with fail
  clear hw1
  go_loopw [5, 6, 7, 11] (fun v _ _ i wr => ∃ (k : Nat) (vo : Value), k ≤ n ∧ i = .int .i64 k ∧ Hid (vo = v) ∧ Hid (OwnS wr w1.heap.size vo ((atS xs s k).map bs)) ∧ Hid (Below w1.heap.size w1 wr)) (fun _ _ _ i _ => n - (intOf i).toNat)
  case atStart => exact ⟨0, _, Nat.zero_le _, rfl, Lib.hid rfl, HST, Lib.hid (Below.refl _ _)⟩
  case round =>
    clear HST
    obtain ⟨k, vo, hk, rfl, HVO, HO, HB1⟩ := hrel
    have hvo := HVO.out
    subst hvo
    clear HVO
    by_cases hlt : k < n
    · have hki : (k : Int) < (n : Int) := by omega
      have hk0 : (0 : Int) ≤ (k : Int) := by omega
      have hk6 : k ≤ 63 := by omega
      obtain ⟨g, o, rfl, hbl, hrow⟩ := HI.out.row (by omega)
      have hc : wr.cell? ⟨g, o + k, none⟩ = some (.int .i64 (xs.getD k 0)) := (hrow.below HB1.out hbl) k hlt
      obtain ⟨z, hz⟩ : ∃ z, xs.getD k 0 = z := ⟨_, rfl⟩
      have HZ := Lib.hid hz
      rw [hz] at hc
      clear hrow hbl hz
      cases hg : hasB s k with
      | true =>
        have HG := Lib.hid hg
        have HY := Lib.hid (show atS xs s (k + 1) = atS xs s k ++ [setL z] from by rw [atS, hg, HZ.out]; rfl)
        clear hg
        go_wp2_with fail
        refine (hasInt_any _ _ true hk6 _ HG.out).mono ?_
        rintro e w' ⟨rfl, rfl⟩
        go_wp2_with fail
        refine (SetText_any z _).mono ?_
        rintro e w5 ⟨rfl, hb5⟩
        replace HO := Lib.hid (HO.out.kept hb5); replace HB1 := Lib.hid (below_onto HB1.out hb5)
        have hal := atS_len xs s k
        obtain ⟨ts, hts⟩ : ∃ ts, atS xs s k = ts := ⟨_, rfl⟩
        rw [hts] at HO HY hal
        obtain ⟨t, ht⟩ : ∃ t, setT z = t := ⟨_, rfl⟩
        have HT := Lib.hid (show bs (setL z) = t from ht)
        rw [ht]
        have HO2 := Lib.hid (show w5.ownsRow w1.heap.size 9 1 vo ts.length (ts.map (fun x => Value.string (bs x))) by
          have h := HO.out
          unfold OwnS at h
          rw [List.length_map, List.map_map] at h
          exact h)
        have k1 := Lib.hid (fun (jj : Nat) (u : Value) (h : [Value.string t][jj]? = some u) => cell_one_new w5 (.string t) 9 jj u h)
        have k2 : Hid (∀ u ∈ [Value.string t], u.oneCell' = true) := Lib.hid (by intro u hu; simp only [List.mem_singleton] at hu; subst hu; rfl)
        have k3 : Hid (ts.length + 1 ≤ maxLen) := Lib.hid (by unfold maxLen; omega)
        have k4 : Hid ((ts.length + 1) * 16 ≤ 140737488355328) := Lib.hid (by omega)
        have k5 : Hid (w1.heap.size ≤ (w5.alloc (.cells #[.string t] 9)).heap.size) := Lib.hid (by rw [alloc_size]; have := HB1.out.size; omega)
        clear hb5 ht hts HO hal
        go_wp2_with (at_builtin; refine wpList_append_own _ rfl (.tmp 19) (.tmp 22) 48 rfl w1.heap.size 9 i0 (.string { data := #[] }) 1 16 Tryz.underlying48 hii hz0 hz1 hz2 rfl (by decide) _ _ _ rfl (HO2.out.alloc _) ⟨w5.heap.size, 0, none⟩ 1 1 [.string t] rfl rfl k1.out k2.out k3.out k4.out k5.out ?_)
        intro v6 w6 hown6 hgrow6 _
        have hb6 : Below w1.heap.size w5 w6 := ((Below.refl w1.heap.size w5).alloc HB1.out.size _).grown hgrow6 k5.out (fun g hg => (World.ownsRow.lt HO2.out g hg).1)
        have HN : Hid (OwnS w6 w1.heap.size v6 ((atS xs s (k + 1)).map bs)) := Lib.hid (by
          rw [HY.out]
          unfold OwnS
          rw [List.map_append, List.map_append, List.length_append, List.length_map, List.map_map]
          show w6.ownsRow w1.heap.size _ 1 v6 (ts.length + 1) (_ ++ [Value.string (bs (setL z))])
          rw [HT.out]
          exact hown6)
        replace HB1 := Lib.hid (HB1.out.trans hb6)
        clear hown6 hgrow6 hb6 k1 k2 k3 k4 k5 HO2
        go_wp2_with fail
        go_roundw
        case rel => exact ⟨k + 1, v6, by omega, by go_num, Lib.hid rfl, HN, HB1⟩
        case measure => simp [intOf]; omega
      | false =>
        have HG := Lib.hid hg
        have HY := Lib.hid (show atS xs s (k + 1) = atS xs s k from by rw [atS, hg]; rfl)
        clear hg
        go_wp2_with fail
        refine (hasInt_any _ _ false hk6 _ HG.out).mono ?_
        rintro e w' ⟨rfl, rfl⟩
        go_wp2_with fail
        go_roundw
        case rel => exact ⟨k + 1, vo, by omega, by go_num, Lib.hid rfl, Lib.hid (by rw [HY.out]; exact HO.out), HB1⟩
        case measure => simp [intOf]; omega
    · have hki : ¬ (k : Int) < (n : Int) := by omega
      have hkn : k = n := by omega
      rw [hkn] at HO
      have hal := atS_len xs s n
      have hjl := join_len (atS xs s n) (fun l hl => (hfl l (by rw [HN.out]; exact hl)).2)
      have hse : setsW xs s = if atS xs s n = [] then noneW else joinL (atS xs s n) := by unfold setsW; rw [HN.out]
      obtain ⟨ts, hts⟩ : ∃ ts, atS xs s n = ts := ⟨_, rfl⟩
      rw [hts] at HO hal hjl hse
      obtain ⟨p, cp, hvp⟩ := HO.out.slice
      rw [List.length_map] at hvp
      subst hvp
      obtain ⟨m, hm⟩ : ∃ m, ts.length = m := ⟨_, rfl⟩
      have HJ := Lib.hid (show ∀ W, Below wr.heap.size wr W → Calls Tryz.prog 184 #[.slice p m cp, .string { data := #[44] }] W fun e w' => e = .returned (.string (bs (joinL ts))) ∧ Below W.heap.size W w' from fun W hW => by
        rw [← hm]
        exact Join_any _ _ ts W (HO.out.kept hW) (by omega) (by omega))
      have HE := Lib.hid (show (if decide (0 < m) then bs (joinL ts) else { data := #[110, 111, 110, 101] }) = bs (setsW xs s) from by
        rw [hse]
        by_cases he : ts = []
        · rw [if_pos he, if_neg (by rw [← hm, he]; simp)]; rfl
        · have : 0 < m := by rw [← hm]; exact List.length_pos_iff.2 he
          rw [if_neg he, if_pos (by simpa using this)])
      obtain ⟨ok, hok⟩ : ∃ ok, decide (0 < m) = ok := ⟨_, rfl⟩
      have hok2 : decide ((0 : Int) < (m : Int)) = ok := by rw [← hok]; congr 1; apply propext; omega
      rw [hok] at HE
      obtain ⟨jt, hjt⟩ : ∃ jt, bs (joinL ts) = jt := ⟨_, rfl⟩
      rw [hjt] at HE HJ
      rw [hm]
      clear hkn hk hal hjl hse hts hm hjt HO hfl
      go_wp2_with fail
      refine (HJ.out _ (Below.refl _ _)).mono ?_
      rintro e w5 ⟨rfl, hb5⟩
      have HB5 := Lib.hid (below_onto HB.out (HB1.out.trans (hb5.mono HB1.out.size)))
      clear hb5
      go_wp2_with fail
      refine (either_any ok _ _ _).mono ?_
      rintro e w6 ⟨rfl, rfl⟩
      rw [HE.out]
      go_wp2_with fail
      go_ret
      exact ⟨rfl, HB5.out⟩
end Go.Proofs.YthaickihoagnmaaGreatDoor
