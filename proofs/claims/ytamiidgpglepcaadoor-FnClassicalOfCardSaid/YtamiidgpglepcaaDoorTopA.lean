import Derived.Test.YtamiidgpglepcaaDoorLeast
import Derived.Test.YtamiidgpglepcaaDoorTopM
namespace Go.Proofs.YtamiidgpglepcaaDoor
open Go.RowKit

set_option maxHeartbeats 800000 in
theorem those0_any (K : Nat) (a : Option Addr) (n cap : Nat) (g : Nat → Bool) (hn : n ≤ 7) (w : World)
    (hE : ∀ (args : Array Value) (w : World), Sem.run Tryd.prog (callFunc K args) w = .ok (.enter K args) w)
    (hF : Hid (∀ (wr : World) (b : Nat), b < n → Drew w wr → Calls Tryd.prog K #[.int .i64 b] wr fun e w' => e = .returned (.bool (g b)) ∧ Drew wr w')) :
    Calls Tryd.prog 47 #[.slice a n cap, .func (.func K) #[] #[]] w fun e w' => e = .returned (.int .i64 (setOf g n)) ∧ Drew w w' := by
  go_enter Tryd.func47, Tryd.ntmps47
  go_wp2_with fail
  go_loopw [5, 9] (fun v i wr => ∃ k : Nat, k ≤ n ∧ i = .int .i64 k ∧ v = .int .i64 (setOf g k) ∧ Drew w wr) (fun _ i _ => n - (intOf i).toNat)
  case atStart => exact ⟨0, Nat.zero_le _, rfl, rfl, Drew.refl w⟩
  case round =>
    obtain ⟨k, hk, rfl, rfl, hd⟩ := hrel
    by_cases hlt : k < n
    · have hk7 : k < 7 := by omega
      have hp := pow_bounds k (by omega)
      obtain ⟨hp1, hp2⟩ := hp
      cases hg : g k with
      | true =>
        have HS := Lib.hid (setOf_yes g k hg); have HG := Lib.hid hg; clear hg
        go_wp2_with fail
        refine (hF.out wr k hlt hd).mono ?_
        rintro e w' ⟨rfl, hd'⟩
        rw [HG.out]
        go_wp2_with fail
        go_roundw
        case rel => exact ⟨k + 1, by omega, by go_num, by rw [HS.out], by obtain ⟨m, rfl⟩ := hd'; exact hd.more m⟩
        case measure => simp [intOf]; omega
      | false =>
        have HS := Lib.hid (setOf_no g k hg); have HG := Lib.hid hg; clear hg
        go_wp2_with fail
        refine (hF.out wr k hlt hd).mono ?_
        rintro e w' ⟨rfl, hd'⟩
        rw [HG.out]
        go_wp2_with fail
        go_roundw
        case rel => exact ⟨k + 1, by omega, by go_num, by rw [HS.out], by obtain ⟨m, rfl⟩ := hd'; exact hd.more m⟩
        case measure => simp [intOf]; omega
    · have hkn : k = n := by omega
      subst hkn
      go_wp2_with fail
      go_ret
      exact ⟨rfl, hd⟩

set_option maxHeartbeats 800000 in
theorem those3_any (K : Nat) (a : Option Addr) (n cap : Nat) (p1 p2 p3 : Value) (g : Nat → Bool) (hn : n ≤ 7) (w : World)
    (hE : ∀ (args : Array Value) (w : World), Sem.run Tryd.prog (callFunc K args) w = .ok (.enter K args) w)
    (hF : Hid (∀ (wr : World) (b : Nat), b < n → Drew w wr → Calls Tryd.prog K #[.int .i64 b, p1, p2, p3] wr fun e w' => e = .returned (.bool (g b)) ∧ Drew wr w')) :
    Calls Tryd.prog 47 #[.slice a n cap, .func (.func K) #[] #[p1, p2, p3]] w fun e w' => e = .returned (.int .i64 (setOf g n)) ∧ Drew w w' := by
  go_enter Tryd.func47, Tryd.ntmps47
  go_wp2_with fail
  go_loopw [5, 9] (fun v i wr => ∃ k : Nat, k ≤ n ∧ i = .int .i64 k ∧ v = .int .i64 (setOf g k) ∧ Drew w wr) (fun _ i _ => n - (intOf i).toNat)
  case atStart => exact ⟨0, Nat.zero_le _, rfl, rfl, Drew.refl w⟩
  case round =>
    obtain ⟨k, hk, rfl, rfl, hd⟩ := hrel
    by_cases hlt : k < n
    · have hk7 : k < 7 := by omega
      have hp := pow_bounds k (by omega)
      obtain ⟨hp1, hp2⟩ := hp
      cases hg : g k with
      | true =>
        have HS := Lib.hid (setOf_yes g k hg); have HG := Lib.hid hg; clear hg
        go_wp2_with fail
        refine (hF.out wr k hlt hd).mono ?_
        rintro e w' ⟨rfl, hd'⟩
        rw [HG.out]
        go_wp2_with fail
        go_roundw
        case rel => exact ⟨k + 1, by omega, by go_num, by rw [HS.out], by obtain ⟨m, rfl⟩ := hd'; exact hd.more m⟩
        case measure => simp [intOf]; omega
      | false =>
        have HS := Lib.hid (setOf_no g k hg); have HG := Lib.hid hg; clear hg
        go_wp2_with fail
        refine (hF.out wr k hlt hd).mono ?_
        rintro e w' ⟨rfl, hd'⟩
        rw [HG.out]
        go_wp2_with fail
        go_roundw
        case rel => exact ⟨k + 1, by omega, by go_num, by rw [HS.out], by obtain ⟨m, rfl⟩ := hd'; exact hd.more m⟩
        case measure => simp [intOf]; omega
    · have hkn : k = n := by omega
      subst hkn
      go_wp2_with fail
      go_ret
      exact ⟨rfl, hd⟩


theorem overlap_val (bk off len cap : Nat) (a b : Nat) (x y : Int) (v : Bool) (ha : a < len) (hb : b < len) (w : World) (hv : (andI x y != 0) = v) (hca : w.cell? ⟨bk, off + a, none⟩ = some (.int .i64 x)) (hcb : w.cell? ⟨bk, off + b, none⟩ = some (.int .i64 y)) :
    Calls Tryd.prog 113 #[.slice (some ⟨bk, off, none⟩) len cap, .int .i64 a, .int .i64 b] w fun e w' => e = .returned (.bool v) ∧ Drew w w' := by
  subst hv; exact overlap_any bk off len cap a b x y ha hb w hca hcb

/-- three cells in new memory -/
theorem three_cells (w : World) (v1 v2 v3 : Value) (t1 t2 t3 : TypeId) :
    (((w.alloc (.cells #[v1] t1)).alloc (.cells #[v2] t2)).alloc (.cells #[v3] t3)).cell? ⟨w.heap.size, 0, none⟩ = some v1 ∧ (((w.alloc (.cells #[v1] t1)).alloc (.cells #[v2] t2)).alloc (.cells #[v3] t3)).cell? ⟨w.heap.size + 1, 0, none⟩ = some v2 ∧
    (((w.alloc (.cells #[v1] t1)).alloc (.cells #[v2] t2)).alloc (.cells #[v3] t3)).cell? ⟨w.heap.size + 1 + 1, 0, none⟩ = some v3 ∧ Below w.heap.size w (((w.alloc (.cells #[v1] t1)).alloc (.cells #[v2] t2)).alloc (.cells #[v3] t3)) := by
  obtain ⟨h1, h2, hb⟩ := two_cells w v1 v2 t1 t2
  obtain ⟨h3, hb3, hs3⟩ := cell_new ((w.alloc (.cells #[v1] t1)).alloc (.cells #[v2] t2)) v3 t3
  have hsz : ((w.alloc (.cells #[v1] t1)).alloc (.cells #[v2] t2)).heap.size = w.heap.size + 1 + 1 := by
    show ((w.heap.push _).push _).size = _; rw [Array.size_push, Array.size_push]
  rw [hsz] at h3
  exact ⟨(hb3.cell (p := ⟨w.heap.size, 0, none⟩) (by show w.heap.size < _; omega)).trans h1, (hb3.cell (p := ⟨w.heap.size + 1, 0, none⟩) (by show w.heap.size + 1 < _; omega)).trans h2, h3, below_onto hb hb3⟩

set_option maxHeartbeats 800000 in
theorem greatestC_any (bk n cap p q : Nat) (b : Nat) (f : Nat → Int) (s : Int) (hn : n ≤ 7) (hb : b < n) (w : World) (hr : Row w bk 0 n f)
    (hp : w.cell? ⟨p, 0, none⟩ = some (.int .i64 s)) (hq : w.cell? ⟨q, 0, none⟩ = some (.slice (some ⟨bk, 0, none⟩) n cap)) :
    Calls Tryd.prog 71 #[.int .i64 b, .pointer (some ⟨p, 0, none⟩), .pointer (some ⟨q, 0, none⟩)] w fun e w' => e = .returned (.bool (topG f s b)) ∧ Drew w w' := by
  have hc := hr b hb
  rw [Nat.zero_add] at hc
  have hbi : (b : Int) < (n : Int) := by omega
  have hb63 : b ≤ 63 := by omega
  clear hr
  cases hg : hasB s b with
  | false =>
    have HF := Lib.hid (show topG f s b = false by unfold topG; rw [hg]; rfl)
    have HG := Lib.hid hg; clear hg
    go_enter Tryd.func71, Tryd.ntmps71
    go_wp2_with fail
    go_quiet ((go_at_call 72; exact quiet_left (has_val _ _ false _ HG.out hb63)))
    go_wp2_with fail
    go_ret
    exact ⟨retb HF.out.symm, _, rfl⟩
  | true =>
    cases hw : withinB s (f b) with
    | true =>
      have HF := Lib.hid (show topG f s b = true by unfold topG; rw [hg, hw]; rfl)
      have HG := Lib.hid hg; have HW := Lib.hid hw; clear hg hw
      go_enter Tryd.func71, Tryd.ntmps71
      go_wp2_with fail
      go_quiet (first | (go_at_call 72; exact quiet_left (has_val _ _ true _ HG.out hb63)) | (go_at_call 73; exact quiet_left (within_val _ _ true _ HW.out)))
      go_wp2_with fail
      go_ret
      exact ⟨retb HF.out.symm, _, rfl⟩
    | false =>
      have HF := Lib.hid (show topG f s b = false by unfold topG; rw [hg, hw]; rfl)
      have HG := Lib.hid hg; have HW := Lib.hid hw; clear hg hw
      go_enter Tryd.func71, Tryd.ntmps71
      go_wp2_with fail
      go_quiet (first | (go_at_call 72; exact quiet_left (has_val _ _ true _ HG.out hb63)) | (go_at_call 73; exact quiet_left (within_val _ _ false _ HW.out)))
      go_wp2_with fail
      go_ret
      exact ⟨retb HF.out.symm, _, rfl⟩

set_option maxHeartbeats 1600000 in
/-- of those that are asked for the one of which all are parts -/
theorem greatest_any (bk n cap : Nat) (f : Nat → Int) (asked : Value) (g : Nat → Bool) (hn : n ≤ 7) (w : World) (hr : Row w bk 0 n f) (hlt : bk < w.heap.size) (hT : TabW w)
    (hA : Hid (∀ wr : World, Below w.heap.size w wr → Calls Tryd.prog 47 #[.slice (some ⟨bk, 0, none⟩) n cap, asked] wr fun e w' => e = .returned (.int .i64 (setOf g n)) ∧ Drew wr w')) :
    Calls Tryd.prog 50 #[.slice (some ⟨bk, 0, none⟩) n cap, asked] w (TwoEnd (firstI (topI n f (setOf g n))) (topI n f (setOf g n) != 0) w) := by
  have hmf : ∀ (fn : Fn) (first cap : Array Value) (w : World), (Instr.makeFunc fn first cap).run Tryd.prog w = .ok (.func fn first cap) w := fun _ _ _ _ => rfl
  obtain ⟨S, hS⟩ : ∃ S, setOf g n = S := ⟨_, rfl⟩
  rw [hS] at hA ⊢
  clear hS
  obtain ⟨X, hX, hX7⟩ := setOf_nat (topG f S) n hn
  have HX := Lib.hid hX; clear hX
  obtain ⟨c1, b1, s1⟩ := cell_new w (.slice (some ⟨bk, 0, none⟩) n cap) 50
  have HE := Lib.hid (enters_of (P := Tryd.prog) Tryd.func71 (by kernel_rfl) rfl)
  have HR := Lib.hid hr; have HT := Lib.hid hT; have HB1 := Lib.hid b1; have HS1 := Lib.hid s1; clear hr hT b1 s1
  rw [show topI n f S = X from HX.out]
  go_enter Tryd.func50, Tryd.ntmps50
  go_wp2_with fail
  refine (hA.out _ HB1.out).mono ?_
  rintro e w2 ⟨rfl, hd2⟩
  have hb2 := hd2.below
  have hs2 : w.heap.size + 1 ≤ w2.heap.size := by have := hb2.size; rw [HS1.out] at this; exact this
  have hq2 := (hb2.cell (p := ⟨w.heap.size, 0, none⟩) (by rw [HS1.out]; show w.heap.size < w.heap.size + 1; omega)).trans c1
  have hB2 := below_onto HB1.out hb2
  obtain ⟨c3, b3, s3⟩ := cell_new w2 (.int .i64 S) 47
  have hq3 := (b3.cell (p := ⟨w.heap.size, 0, none⟩) (by show w.heap.size < w2.heap.size; omega)).trans hq2
  have HB3 := Lib.hid (below_onto hB2 b3)
  have HC3 := Lib.hid c3; have HQ3 := Lib.hid hq3; have HQ2 := Lib.hid hq2
  clear hb2 hB2 b3 c1 c3 hq2 hd2
  go_wp2_with fail
  refine (those_any _ _ _ _ _ _ (topG f S) hn _ HE.out ?_).mono ?_
  · rintro wr b hb ⟨m, rfl⟩
    exact greatestC_any bk n cap _ _ b f S hn hb _ ((HR.out.below HB3.out hlt).drewN m) (by rw [World.cell?_drewN]; exact HC3.out) (by rw [World.cell?_drewN]; exact HQ3.out)
  · rintro e w4 ⟨rfl, hd4⟩
    rw [show setOf (topG f S) n = X from HX.out]
    have HB4 := Lib.hid (below_onto HB3.out hd4.below)
    have HT4 := Lib.hid (HT.out.below HB4.out)
    clear hd4
    go_wp2_with fail
    refine (first_any X hX7 _ HT4.out).mono ?_
    rintro e w5 ⟨rfl, rfl⟩
    go_wp2_with fail
    go_ret2
    exact ⟨rfl, HB4.out⟩

theorem nothing_any (v : Value) (w : World) : Calls Tryd.prog 49 #[v] w fun e w' => e = .returned (.tuple #[.int .i64 (-1), .bool false]) ∧ w = w' := by
  go_enter Tryd.func49, Tryd.ntmps49
  go_wp2_with fail
  go_ret2
  exact ⟨rfl, rfl⟩

/-- what searchOf hands back: a world and its search, or none and one that asks of nothing -/
def SearchEnd (n : Nat) (f : Nat → Int) (G : Bool) (bk : Nat) (w : World) (e : Ending) (w' : World) : Prop :=
  Below w.heap.size w w' ∧ ((G = true ∧ e = .returned (.tuple #[.slice (some ⟨bk, 0, none⟩) n n, .func (.func 50) #[.slice (some ⟨bk, 0, none⟩) n n] #[]]) ∧ Row w' bk 0 n f)
    ∨ (G = false ∧ e = .returned (.tuple #[.slice none 0 0, .func (.func 49) #[] #[]])))

set_option maxHeartbeats 800000 in
theorem searchOf_any (va vn : Value) (n bk : Nat) (f : Nat → Int) (G : Bool) (w w0 : World)
    (h : Calls Tryd.prog 44 #[va, vn] w fun e w' => Below w0.heap.size w0 w' ∧ ((G = true ∧ e = .returned (.tuple #[.slice (some ⟨bk, 0, none⟩) n n, .bool true]) ∧ Row w' bk 0 n f) ∨ (G = false ∧ e = .returned (.tuple #[.slice none 0 0, .bool false])))) :
    Calls Tryd.prog 30 #[va, vn] w (SearchEnd n f G bk w0) := by
  have hmf : ∀ (fn : Fn) (first cap : Array Value) (w : World), (Instr.makeFunc fn first cap).run Tryd.prog w = .ok (.func fn first cap) w := fun _ _ _ _ => rfl
  have H := Lib.hid h; clear h
  go_enter Tryd.func30, Tryd.ntmps30
  go_wp2_with fail
  refine H.out.mono ?_
  rintro e w' ⟨hbel, ⟨hb, rfl, hr⟩ | ⟨hb, rfl⟩⟩
  · have HB := Lib.hid hb; clear hb
    go_wp2_with fail
    go_ret2
    exact ⟨hbel, .inl ⟨HB.out, rfl, hr⟩⟩
  · have HB := Lib.hid hb; clear hb
    go_wp2_with fail
    go_ret2
    exact ⟨hbel, .inr ⟨HB.out, rfl⟩⟩

set_option maxHeartbeats 800000 in
/-- worldWith without numbers -/
theorem with0 (a : Option Addr) (n cap : Nat) (f : Nat → Int) (w : World) (hi : Ints w a n f) :
    Calls Tryd.prog 44 #[.slice a n cap, .slice none 0 0] w fun e w' => Below w.heap.size w w' ∧ ((worldB n f = true ∧ e = .returned (.tuple #[.slice (some ⟨w.heap.size, 0, none⟩) n n, .bool true]) ∧ Row w' w.heap.size 0 n f) ∨ (worldB n f = false ∧ e = .returned (.tuple #[.slice none 0 0, .bool false]))) := by
  have HI := Lib.hid hi; clear hi
  go_enter Tryd.func44, Tryd.ntmps44
  go_wp2_with fail
  refine (worldOf_end a n cap f w HI.out).mono ?_
  rintro e w' ⟨hbel, ⟨hb, rfl, hs, hr⟩ | ⟨hb, rfl⟩⟩
  · have HB := Lib.hid hb; clear hb
    go_wp2_with fail
    go_loop [19] (fun i => i = .int .i64 0) (fun _ => 0)
    case atStart => rfl
    case round =>
      subst hrel
      go_wp2_with fail
      go_ret2
      exact ⟨hbel, .inl ⟨HB.out, rfl, hr⟩⟩
  · have HB := Lib.hid hb; clear hb
    go_wp2_with fail
    go_ret2
    exact ⟨hbel, .inr ⟨HB.out, rfl⟩⟩

theorem wholeC_any (c : Nat) (w : World) : Calls Tryd.prog 51 #[.int .i64 c] w fun e w' => e = .returned (.bool true) ∧ Drew w w' := by
  go_enter Tryd.func51, Tryd.ntmps51
  go_wp2_with fail
  go_ret
  exact ⟨rfl, Drew.refl _⟩

set_option maxHeartbeats 1600000 in
theorem whole_any (bk n cap : Nat) (f : Nat → Int) (hn : n ≤ 7)  (w : World) (hr : Row w bk 0 n f) (hlt : bk < w.heap.size) (hT : TabW w) :
    Calls Tryd.prog 31 #[.slice (some ⟨bk, 0, none⟩) n cap, .func (.func 50) #[.slice (some ⟨bk, 0, none⟩) n cap] #[]] w (TwoEnd (firstI (topI n f (wholeS n))) (topI n f (wholeS n) != 0) w) := by
  have hmf : ∀ (fn : Fn) (first cap : Array Value) (w : World), (Instr.makeFunc fn first cap).run Tryd.prog w = .ok (.func fn first cap) w := fun _ _ _ _ => rfl
  have hEg : ∀ (args : Array Value) (w : World), Sem.run Tryd.prog (callFunc 50 args) w = .ok (.enter 50 args) w := enters_of Tryd.func50 (by kernel_rfl) rfl
  have HE := Lib.hid (enters_of (P := Tryd.prog) Tryd.func51 (by kernel_rfl) rfl)
  have hbel := Below.refl w.heap.size w
  have HR := Lib.hid (hr.below hbel hlt); have HT := Lib.hid (hT.below hbel); have HB := Lib.hid hbel
  have HL := Lib.hid (Nat.lt_of_lt_of_le hlt hbel.size)
  skip
  clear hr hT hbel
  go_enter Tryd.func31, Tryd.ntmps31
  go_wp2_with fail
  refine (greatest_any bk n cap f _ (fun _ => true) hn _ HR.out HL.out HT.out ?_).mono ?_
  · intro wr hwr
    refine those0_any _ _ _ _ (fun _ => true) hn _ HE.out ?_
    rintro wr2 c hc ⟨m, rfl⟩
    have hrr := (HR.out.below hwr HL.out).drewN m
    exact wholeC_any c _
  · rintro e w2 ⟨rfl, hb2⟩
    go_wp2_with fail
    go_ret2
    exact ⟨rfl, below_onto HB.out hb2⟩

set_option maxHeartbeats 800000 in
theorem whole_no (w : World) :
    Calls Tryd.prog 31 #[.slice none 0 0, .func (.func 49) #[] #[]] w (TwoEnd (-1) false w) := by
  have hmf : ∀ (fn : Fn) (first cap : Array Value) (w : World), (Instr.makeFunc fn first cap).run Tryd.prog w = .ok (.func fn first cap) w := fun _ _ _ _ => rfl
  have hEg : ∀ (args : Array Value) (w : World), Sem.run Tryd.prog (callFunc 49 args) w = .ok (.enter 49 args) w := enters_of Tryd.func49 (by kernel_rfl) rfl
  have hbel := Below.refl w.heap.size w
  have HB := Lib.hid hbel
  clear  hbel
  go_enter Tryd.func31, Tryd.ntmps31
  go_wp2_with fail
  refine (nothing_any _ _).mono ?_
  rintro e w2 ⟨rfl, rfl⟩
  go_wp2_with fail
  go_ret2
  exact ⟨rfl, HB.out⟩

def commonN (n : Nat) (f : Nat → Int) (x y : Int) : Int := ansN (good2 n f x y) n f (commonS n f x.toNat y.toNat)
def commonOk (n : Nat) (f : Nat → Int) (x y : Int) : Bool := ansOk (good2 n f x y) n f (commonS n f x.toNat y.toNat)
def leftN (n : Nat) (f : Nat → Int) (x y : Int) : Int := ansN (good2 n f x y) n f (leftS n f x.toNat y.toNat)
def leftOk (n : Nat) (f : Nat → Int) (x y : Int) : Bool := ansOk (good2 n f x y) n f (leftS n f x.toNat y.toNat)
def againstN (n : Nat) (f : Nat → Int) (x : Int) : Int := ansN (good1 n f x) n f (againstS n f x.toNat)
def againstOk (n : Nat) (f : Nat → Int) (x : Int) : Bool := ansOk (good1 n f x) n f (againstS n f x.toNat)
def wholeN (n : Nat) (f : Nat → Int) : Int := ansN (worldB n f) n f (wholeS n)
def wholeOk (n : Nat) (f : Nat → Int) : Bool := ansOk (worldB n f) n f (wholeS n)

set_option maxHeartbeats 1600000 in
theorem WholeOf_any (a : Option Addr) (n cap : Nat) (f : Nat → Int) (w : World) (hi : Ints w a n f) (hT : TabW w) :
    Calls Tryd.prog 13 #[.slice a n cap] w (TwoEnd (wholeN n f) (wholeOk n f) w) := by
  have hmf : ∀ (fn : Fn) (first cap : Array Value) (w : World), (Instr.makeFunc fn first cap).run Tryd.prog w = .ok (.func fn first cap) w := fun _ _ _ _ => rfl
  by_cases hg : (worldB n f) = true
  · have hwb := hg
    have h7 := (worldB_7 hwb).2
    have h1n := (worldB_7 hwb).1
    skip
    have hf1 : wholeN n f = firstI (topI n f (wholeS n)) := by unfold wholeN ansN; rw [if_pos hg]
    have hf2 : wholeOk n f = (topI n f (wholeS n) != 0) := by unfold wholeOk ansOk; rw [hg, Bool.true_and]
    have HF1 := Lib.hid hf1; have HF2 := Lib.hid hf2; have HG := Lib.hid hg; have HT := Lib.hid hT; have HI := Lib.hid hi
    clear hf1 hf2 hg hwb  hT hi
    go_enter Tryd.func13, Tryd.ntmps13
    go_wp2_with fail
    refine (searchOf_any _ _ n w.heap.size f (worldB n f) _ w (with0 a n cap f w HI.out)).mono ?_
    rintro e w' ⟨hbel, ⟨hb, rfl, hr⟩ | ⟨hb, rfl⟩⟩
    · have hlt := World.block_lt_of_cell? w' _ (hr 0 (by omega))
      have HT1 := Lib.hid (HT.out.below hbel)
      clear hb
      go_wp2_with fail
      refine (whole_any _ _ _ f h7 _ hr hlt HT1.out).mono ?_
      rintro e w2 ⟨rfl, hb2⟩
      go_wp2_with fail
      go_ret2
      exact ⟨by rw [HF1.out, HF2.out]; rfl, below_onto hbel hb2⟩
    · rw [HG.out] at hb; cases hb
  · have hg' : (worldB n f) = false := by simpa using hg
    have hf1 : wholeN n f = -1 := by unfold wholeN ansN; rw [if_neg hg]
    have hf2 : wholeOk n f = false := by unfold wholeOk ansOk; rw [hg']; rfl
    have HF1 := Lib.hid hf1; have HF2 := Lib.hid hf2; have HG := Lib.hid hg'; have HI := Lib.hid hi; clear hf1 hf2 hg hg' hT hi
    go_enter Tryd.func13, Tryd.ntmps13
    go_wp2_with fail
    refine (searchOf_any _ _ n w.heap.size f (worldB n f) _ w (with0 a n cap f w HI.out)).mono ?_
    rintro e w' ⟨hbel, ⟨hb, rfl, hr⟩ | ⟨hb, rfl⟩⟩
    · rw [HG.out] at hb; cases hb
    · clear hb
      go_wp2_with fail
      refine (whole_no _).mono ?_
      rintro e w2 ⟨rfl, hb2⟩
      go_wp2_with fail
      go_ret2
      exact ⟨by rw [HF1.out, HF2.out]; rfl, below_onto hbel hb2⟩

theorem WholeOf_val (a : Option Addr) (n cap : Nat) (f : Nat → Int) (i : Int) (v : Bool) (w : World) (h1 : wholeN n f = i) (h2 : wholeOk n f = v) (hi : Ints w a n f) (hT : TabW w) :
    Calls Tryd.prog 13 #[.slice a n cap] w (TwoEnd i v w) := by
  subst h1; subst h2; exact WholeOf_any a n cap f w hi hT
end Go.Proofs.YtamiidgpglepcaaDoor
