import Derived.Test.YtidcfcjmjgcfkaaDoorRows
import Derived.Test.YtidcfcjmjgcfkaaDoorMath
import Derived.WalkSpells
import Derived.WalkLawsBesides
import Derived.Deep.QuietTactic
import Derived.BigQuiet
import Derived.Lib.Hide
namespace Go.Proofs.YtidcfcjmjgcfkaaDoor
open Go.RowKit

theorem retb {a b : Bool} (h : a = b) : Ending.returned (.bool a) = .returned (.bool b) := by rw [h]
theorem reti {k : IntKind} {a b : Int} (h : a = b) : Ending.returned (.int k a) = .returned (.int k b) := by rw [h]

set_option maxHeartbeats 400000 in
theorem has_any (x : Int) (a : Nat) (ha : a ≤ 63) (w : World) :
    Calls Tryd.prog 48 #[.int .i64 x, .int .i64 a] w fun e w' => e = .returned (.bool (hasB x a)) ∧ w = w' := by
  go_enter Tryd.func48, Tryd.ntmps48
  go_wp2
  go_ret
  exact ⟨retb (has_eq x a), rfl⟩

set_option maxHeartbeats 400000 in
theorem within_any (x y : Int) (w : World) :
    Calls Tryd.prog 53 #[.int .i64 x, .int .i64 y] w fun e w' => e = .returned (.bool (withinB x y)) ∧ w = w' := by
  go_enter Tryd.func53, Tryd.ntmps53
  go_wp2
  go_ret
  exact ⟨rfl, rfl⟩

set_option maxHeartbeats 400000 in
theorem l1In_any (x l h : Int) (w : World) :
    Calls Tryd.prog 41 #[.int .i64 x, .int .i64 l, .int .i64 h] w fun e w' => e = .returned (.bool (inB l x h)) ∧ w = w' := by
  by_cases hl : l ≤ x
  · have hb : inB l x h = decide (x ≤ h) := by simp [inB, hl]
    have H := Lib.hid hb; clear hb
    go_enter Tryd.func41, Tryd.ntmps41
    go_wp2
    go_ret
    exact ⟨retb H.out.symm, rfl⟩
  · have hb : inB l x h = false := by simp [inB, hl]
    have H := Lib.hid hb; clear hb
    go_enter Tryd.func41, Tryd.ntmps41
    go_wp2
    go_ret
    exact ⟨retb H.out.symm, rfl⟩

theorem emod_tmod (x : Int) (h : 0 ≤ x) : (x.tmod 2 == 1) = (x % 2 == 1) := by
  rw [Int.tmod_eq_emod_of_nonneg h]

set_option maxHeartbeats 400000 in
theorem l1Has_any (x : Int) (a : Nat) (ha : a ≤ 63) (hx : 0 ≤ x) (w : World) :
    Calls Tryd.prog 24 #[.int .i64 x, .int .i64 a] w fun e w' => e = .returned (.bool (hasB x a)) ∧ w = w' := by
  have hq : 0 ≤ x / 2 ^ a := Int.ediv_nonneg hx (Int.le_of_lt (Int.pow_pos (by decide)))
  go_enter Tryd.func24, Tryd.ntmps24
  go_wp2
  go_ret
  exact ⟨rfl, rfl⟩

set_option maxHeartbeats 400000 in
theorem part_any (bk off len cap : Nat) (a b : Nat) (x : Int) (hb : b < len) (ha : a ≤ 63) (w : World) (hc : w.cell? ⟨bk, off + b, none⟩ = some (.int .i64 x)) :
    Calls Tryd.prog 32 #[.slice (some ⟨bk, off, none⟩) len cap, .int .i64 a, .int .i64 b] w fun e w' => e = .returned (.bool (hasB x a)) ∧ w = w' := by
  go_enter Tryd.func32, Tryd.ntmps32
  go_wp2_with (go_at_call 48; refine (has_any _ _ ha _).mono ?_; rintro e w' ⟨rfl, rfl⟩)
  go_ret
  exact ⟨rfl, rfl⟩

set_option maxHeartbeats 400000 in
theorem all_any (v : Option Addr) (len cap : Nat) (hl : len ≤ 7) (w : World) :
    Calls Tryd.prog 54 #[.slice v len cap] w fun e w' => e = .returned (.int .i64 (2 ^ len - 1)) ∧ w = w' := by
  have hp : (1 : Int) ≤ 2 ^ len ∧ (2 : Int) ^ len ≤ 128 := by
    match len, hl with
    | 0, _ | 1, _ | 2, _ | 3, _ | 4, _ | 5, _ | 6, _ | 7, _ => decide
  obtain ⟨hp1, hp2⟩ := hp
  go_enter Tryd.func54, Tryd.ntmps54
  go_wp2
  go_ret
  exact ⟨rfl, rfl⟩

set_option maxHeartbeats 400000 in
theorem overlap_any (bk off len cap : Nat) (a b : Nat) (x y : Int) (ha : a < len) (hb : b < len) (w : World) (hca : w.cell? ⟨bk, off + a, none⟩ = some (.int .i64 x)) (hcb : w.cell? ⟨bk, off + b, none⟩ = some (.int .i64 y)) :
    Calls Tryd.prog 33 #[.slice (some ⟨bk, off, none⟩) len cap, .int .i64 a, .int .i64 b] w fun e w' => e = .returned (.bool (andI x y != 0)) ∧ ∃ n, w' = w.drewN n := by
  have ha' : (a : Int) < (len : Int) := by omega
  have hb' : (b : Int) < (len : Int) := by omega
  go_enter Tryd.func33, Tryd.ntmps33
  go_wp2
  go_quiet (fail)
  go_wp2
  go_ret
  exact ⟨rfl, _, rfl⟩

def neHas (x : Int) (a b : Nat) : Bool := decide (a ≠ b) && hasB x a

set_option maxHeartbeats 400000 in
theorem proper_any (bk off len cap : Nat) (a b : Nat) (x : Int) (hb : b < len) (ha : a ≤ 63) (w : World) (hc : w.cell? ⟨bk, off + b, none⟩ = some (.int .i64 x)) :
    Calls Tryd.prog 29 #[.slice (some ⟨bk, off, none⟩) len cap, .int .i64 a, .int .i64 b] w fun e w' => e = .returned (.bool (neHas x a b)) ∧ w = w' := by
  by_cases hab : a = b
  · subst hab
    go_enter Tryd.func29, Tryd.ntmps29
    go_wp2
    go_ret
    exact ⟨retb (by simp [neHas]), rfl⟩
  · have hne : ((a : Int) != (b : Int)) = true := by rw [bne_iff_ne]; omega
    go_enter Tryd.func29, Tryd.ntmps29
    go_wp2_with (go_at_call 32; refine (part_any _ _ _ _ _ _ _ hb ha _ hc).mono ?_; rintro e w' ⟨rfl, rfl⟩)
    go_ret
    exact ⟨retb (by simp [neHas, hab]), rfl⟩
end Go.Proofs.YtidcfcjmjgcfkaaDoor
