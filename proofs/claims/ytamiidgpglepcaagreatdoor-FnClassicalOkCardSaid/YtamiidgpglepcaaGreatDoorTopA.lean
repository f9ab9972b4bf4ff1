import Derived.Test.YtamiidgpglepcaaGreatDoorLeast
import Derived.Test.YtamiidgpglepcaaGreatDoorTopM
namespace Go.Proofs.YtamiidgpglepcaaGreatDoor
open Go.RowKit

set_option maxHeartbeats 800000 in
theorem those0_any (K : Nat) (a : Option Addr) (n cap : Nat) (g : Nat → Bool) (hn : n ≤ 7) (w : World)
    (hE : ∀ (args : Array Value) (w : World), Sem.run Tryz.prog (callFunc K args) w = .ok (.enter K args) w)
    (hF : Hid (∀ (wr : World) (b : Nat), b < n → Drew w wr → Calls Tryz.prog K #[.int .i64 b] wr fun e w' => e = .returned (.bool (g b)) ∧ Drew wr w')) :
    Calls Tryz.prog 37 #[.slice a n cap, .func (.func K) #[] #[]] w fun e w' => e = .returned (.int .i64 (setOf g n)) ∧ Drew w w' := by
  go_enter Tryz.func37, Tryz.ntmps37
  go_wp2_with fail
  go_loopw [5, 9] (fun v i wr => ∃ k : Nat, k ≤ n ∧ i = .int .i64 k ∧ v = .int .i64 (setOf g k) ∧ Drew w wr) (fun _ i _ => n - (intOf i).toNat)
  case atStart => exact ⟨0, Nat.zero_le _, rfl, rfl, Drew.refl w⟩
  case round =>
    obtain ⟨k, hk, rfl, rfl, hd⟩ := hrel
    by_cases hlt : k < n
    · have hk7 : k < 7 := by omega
      have hp := pow_bounds k (by omega)
      obtain ⟨hp1, hp2⟩ := hp
      cases hg : g k with
      | true =>
        have HS := Lib.hid (setOf_yes g k hg); have HG := Lib.hid hg; clear hg
        go_wp2_with fail
        refine (hF.out wr k hlt hd).mono ?_
        rintro e w' ⟨rfl, hd'⟩
        rw [HG.out]
        go_wp2_with fail
        go_roundw
        case rel => exact ⟨k + 1, by omega, by go_num, by rw [HS.out], by obtain ⟨m, rfl⟩ := hd'; exact hd.more m⟩
        case measure => simp [intOf]; omega
      | false =>
        have HS := Lib.hid (setOf_no g k hg); have HG := Lib.hid hg; clear hg
        go_wp2_with fail
        refine (hF.out wr k hlt hd).mono ?_
        rintro e w' ⟨rfl, hd'⟩
        rw [HG.out]
        go_wp2_with fail
        go_roundw
        case rel => exact ⟨k + 1, by omega, by go_num, by rw [HS.out], by obtain ⟨m, rfl⟩ := hd'; exact hd.more m⟩
        case measure => simp [intOf]; omega
    · have hkn : k = n := by omega
      subst hkn
      go_wp2_with fail
      go_ret
      exact ⟨rfl, hd⟩

set_option maxHeartbeats 800000 in
theorem those3_any (K : Nat) (a : Option Addr) (n cap : Nat) (p1 p2 p3 : Value) (g : Nat → Bool) (hn : n ≤ 7) (w : World)
    (hE : ∀ (args : Array Value) (w : World), Sem.run Tryz.prog (callFunc K args) w = .ok (.enter K args) w)
    (hF : Hid (∀ (wr : World) (b : Nat), b < n → Drew w wr → Calls Tryz.prog K #[.int .i64 b, p1, p2, p3] wr fun e w' => e = .returned (.bool (g b)) ∧ Drew wr w')) :
    Calls Tryz.prog 37 #[.slice a n cap, .func (.func K) #[] #[p1, p2, p3]] w fun e w' => e = .returned (.int .i64 (setOf g n)) ∧ Drew w w' := by
  go_enter Tryz.func37, Tryz.ntmps37
  go_wp2_with fail
  go_loopw [5, 9] (fun v i wr => ∃ k : Nat, k ≤ n ∧ i = .int .i64 k ∧ v = .int .i64 (setOf g k) ∧ Drew w wr) (fun _ i _ => n - (intOf i).toNat)
  case atStart => exact ⟨0, Nat.zero_le _, rfl, rfl, Drew.refl w⟩
  case round =>
    obtain ⟨k, hk, rfl, rfl, hd⟩ := hrel
    by_cases hlt : k < n
    · have hk7 : k < 7 := by omega
      have hp := pow_bounds k (by omega)
      obtain ⟨hp1, hp2⟩ := hp
      cases hg : g k with
      | true =>
        have HS := Lib.hid (setOf_yes g k hg); have HG := Lib.hid hg; clear hg
        go_wp2_with fail
        refine (hF.out wr k hlt hd).mono ?_
        rintro e w' ⟨rfl, hd'⟩
        rw [HG.out]
        go_wp2_with fail
        go_roundw
        case rel => exact ⟨k + 1, by omega, by go_num, by rw [HS.out], by obtain ⟨m, rfl⟩ := hd'; exact hd.more m⟩
        case measure => simp [intOf]; omega
      | false =>
        have HS := Lib.hid (setOf_no g k hg); have HG := Lib.hid hg; clear hg
        go_wp2_with fail
        refine (hF.out wr k hlt hd).mono ?_
        rintro e w' ⟨rfl, hd'⟩
        rw [HG.out]
        go_wp2_with fail
        go_roundw
        case rel => exact ⟨k + 1, by omega, by go_num, by rw [HS.out], by obtain ⟨m, rfl⟩ := hd'; exact hd.more m⟩
        case measure => simp [intOf]; omega
    · have hkn : k = n := by omega
      subst hkn
      go_wp2_with fail
      go_ret
      exact ⟨rfl, hd⟩


theorem overlap_val (bk off len cap : Nat) (a b : Nat) (x y : Int) (v : Bool) (ha : a < len) (hb : b < len) (w : World) (hv : (andI x y != 0) = v) (hca : w.cell? ⟨bk, off + a, none⟩ = some (.int .i64 x)) (hcb : w.cell? ⟨bk, off + b, none⟩ = some (.int .i64 y)) :
    Calls Tryz.prog 94 #[.slice (some ⟨bk, off, none⟩) len cap, .int .i64 a, .int .i64 b] w fun e w' => e = .returned (.bool v) ∧ Drew w w' := by
  subst hv; exact overlap_any bk off len cap a b x y ha hb w hca hcb

/-- three cells in new memory -/
theorem three_cells (w : World) (v1 v2 v3 : Value) (t1 t2 t3 : TypeId) :
    (((w.alloc (.cells #[v1] t1)).alloc (.cells #[v2] t2)).alloc (.cells #[v3] t3)).cell? ⟨w.heap.size, 0, none⟩ = some v1 ∧ (((w.alloc (.cells #[v1] t1)).alloc (.cells #[v2] t2)).alloc (.cells #[v3] t3)).cell? ⟨w.heap.size + 1, 0, none⟩ = some v2 ∧
    (((w.alloc (.cells #[v1] t1)).alloc (.cells #[v2] t2)).alloc (.cells #[v3] t3)).cell? ⟨w.heap.size + 1 + 1, 0, none⟩ = some v3 ∧ Below w.heap.size w (((w.alloc (.cells #[v1] t1)).alloc (.cells #[v2] t2)).alloc (.cells #[v3] t3)) := by
  obtain ⟨h1, h2, hb⟩ := two_cells w v1 v2 t1 t2
  obtain ⟨h3, hb3, hs3⟩ := cell_new ((w.alloc (.cells #[v1] t1)).alloc (.cells #[v2] t2)) v3 t3
  have hsz : ((w.alloc (.cells #[v1] t1)).alloc (.cells #[v2] t2)).heap.size = w.heap.size + 1 + 1 := by
    show ((w.heap.push _).push _).size = _; rw [Array.size_push, Array.size_push]
  rw [hsz] at h3
  exact ⟨(hb3.cell (p := ⟨w.heap.size, 0, none⟩) (by show w.heap.size < _; omega)).trans h1, (hb3.cell (p := ⟨w.heap.size + 1, 0, none⟩) (by show w.heap.size + 1 < _; omega)).trans h2, h3, below_onto hb hb3⟩

set_option maxHeartbeats 800000 in
/-- worldWith without numbers -/
theorem with0 (a : Option Addr) (n cap : Nat) (f : Nat → Int) (w : World) (hi : Ints w a n f) :
    Calls Tryz.prog 34 #[.slice a n cap, .slice none 0 0] w fun e w' => Below w.heap.size w w' ∧ ((worldB n f = true ∧ e = .returned (.tuple #[.slice (some ⟨w.heap.size, 0, none⟩) n n, .bool true]) ∧ Row w' w.heap.size 0 n f) ∨ (worldB n f = false ∧ e = .returned (.tuple #[.slice none 0 0, .bool false]))) := by
  have HI := Lib.hid hi; clear hi
  go_enter Tryz.func34, Tryz.ntmps34
  go_wp2_with fail
  refine (worldOf_end a n cap f w HI.out).mono ?_
  rintro e w' ⟨hbel, ⟨hb, rfl, hs, hr⟩ | ⟨hb, rfl⟩⟩
  · have HB := Lib.hid hb; clear hb
    go_wp2_with fail
    go_loop [19] (fun i => i = .int .i64 0) (fun _ => 0)
    case atStart => rfl
    case round =>
      subst hrel
      go_wp2_with fail
      go_ret2
      exact ⟨hbel, .inl ⟨HB.out, rfl, hr⟩⟩
  · have HB := Lib.hid hb; clear hb
    go_wp2_with fail
    go_ret2
    exact ⟨hbel, .inr ⟨HB.out, rfl⟩⟩

def commonN (n : Nat) (f : Nat → Int) (x y : Int) : Int := ansN (good2 n f x y) n f (commonS n f x.toNat y.toNat)
def commonOk (n : Nat) (f : Nat → Int) (x y : Int) : Bool := ansOk (good2 n f x y) n f (commonS n f x.toNat y.toNat)
def leftN (n : Nat) (f : Nat → Int) (x y : Int) : Int := ansN (good2 n f x y) n f (leftS n f x.toNat y.toNat)
def leftOk (n : Nat) (f : Nat → Int) (x y : Int) : Bool := ansOk (good2 n f x y) n f (leftS n f x.toNat y.toNat)
def againstN (n : Nat) (f : Nat → Int) (x : Int) : Int := ansN (good1 n f x) n f (againstS n f x.toNat)
def againstOk (n : Nat) (f : Nat → Int) (x : Int) : Bool := ansOk (good1 n f x) n f (againstS n f x.toNat)
def wholeN (n : Nat) (f : Nat → Int) : Int := ansN (worldB n f) n f (wholeS n)
def wholeOk (n : Nat) (f : Nat → Int) : Bool := ansOk (worldB n f) n f (wholeS n)

end Go.Proofs.YtamiidgpglepcaaGreatDoor
