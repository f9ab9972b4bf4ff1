import Derived.Test.YtidcfcjmjgcfkaaDoorEach
import Derived.Deep.RegionHeld3
import Derived.Maps.OwnSet
namespace Go.Proofs.YtidcfcjmjgcfkaaDoor
open Go.RowKit

/-- all parts of a that are apart from b -/
def restsI (n : Nat) (f : Nat → Int) (a b : Nat) : Int := bits .andNot .i64 (f a) (meetI n f b)

set_option maxHeartbeats 1600000 in
theorem rests_any (bk n cap : Nat) (a b : Nat) (f : Nat → Int) (hn : n ≤ 7) (ha : a < n) (hb : b < n) (w : World) (hr : Row w bk 0 n f) (hlt : bk < w.heap.size) :
    Calls Tryd.prog 27 #[.slice (some ⟨bk, 0, none⟩) n cap, .int .i64 a, .int .i64 b] w fun e w' => e = .returned (.int .i64 (restsI n f a b)) ∧ Below w.heap.size w w' := by
  have ca : w.cell? ⟨bk, a, none⟩ = some (.int .i64 (f a)) := by have := hr a ha; rwa [Nat.zero_add] at this
  have hai : (a : Int) < (n : Int) := by omega
  have ha0 : (0 : Int) ≤ (a : Int) := by omega
  have HR := Lib.hid hr; clear hr
  have HC := Lib.hid (show ∀ (W : World), Below w.heap.size w W → W.cell? ⟨bk, a, none⟩ = some (.int .i64 (f a)) from fun W h => (h.cell (p := ⟨bk, a, none⟩) hlt).trans ca)
  have HB := Lib.hid (Below.refl w.heap.size w)
  go_enter Tryd.func27, Tryd.ntmps27
  go_wp2_with fail
  go_region_held3 (fun w' => w'.cell? ⟨bk, a, none⟩ = some (.int .i64 (f a))) (first | exact HC.out _ HB.out | go_keep)
    (first | (go_at_call 46; refine (meeting_any bk n cap b f hn hb _ (by first | exact HR.out | exact HR.out.drewN _) (by first | exact hlt | (show bk < (World.drewN _ _).heap.size; exact hlt))).mono ?_; rintro e w2 ⟨rfl, h2⟩; replace HB := Lib.hid (by first | exact h2 | exact (below_drewN (Below.refl _ _) _).trans h2 : Below w.heap.size w w2); clear h2))
  all_goals
    go_wp2_with fail
    go_ret
    exact ⟨rfl, by first | exact HB.out | exact below_drewN HB.out _⟩

theorem rests_val (bk n cap : Nat) (a b : Nat) (f : Nat → Int) (v : Int) (hn : n ≤ 7) (ha : a < n) (hb : b < n) (w : World) (hv : restsI n f a b = v) (hr : Row w bk 0 n f) (hlt : bk < w.heap.size) :
    Calls Tryd.prog 27 #[.slice (some ⟨bk, 0, none⟩) n cap, .int .i64 a, .int .i64 b] w fun e w' => e = .returned (.int .i64 v) ∧ Below w.heap.size w w' := by
  subst hv; exact rests_any bk n cap a b f hn ha hb w hr hlt

theorem proper_val (bk off len cap : Nat) (a b : Nat) (x : Int) (v : Bool) (hb : b < len) (ha : a ≤ 63) (w : World) (hv : neHas x a b = v) (hc : w.cell? ⟨bk, off + b, none⟩ = some (.int .i64 x)) :
    Calls Tryd.prog 29 #[.slice (some ⟨bk, off, none⟩) len cap, .int .i64 a, .int .i64 b] w fun e w' => e = .returned (.bool v) ∧ w = w' := by
  subst hv; exact proper_any bk off len cap a b x hb ha w hc

theorem part_val (bk off len cap : Nat) (a b : Nat) (x : Int) (v : Bool) (hb : b < len) (ha : a ≤ 63) (w : World) (hv : hasB x a = v) (hc : w.cell? ⟨bk, off + b, none⟩ = some (.int .i64 x)) :
    Calls Tryd.prog 32 #[.slice (some ⟨bk, off, none⟩) len cap, .int .i64 a, .int .i64 b] w fun e w' => e = .returned (.bool v) ∧ w = w' := by
  subst hv; exact part_any bk off len cap a b x hb ha w hc

def weakG (n : Nat) (f : Nat → Int) (whole part : Nat) : Bool := !neHas (f whole) part whole || restsI n f whole part != 0
def strongG (n : Nat) (f : Nat → Int) (a b : Nat) : Bool := hasB (f b) a || restsI n f a b != 0

/-- what is asked of two things of a world -/
def AskEnd (v : Bool) (w : World) (e : Ending) (w' : World) : Prop := e = .returned (.bool v) ∧ Below w.heap.size w w'

set_option maxHeartbeats 1600000 in
theorem weak_any (bk n cap : Nat) (a b : Nat) (f : Nat → Int) (hn : n ≤ 7) (ha : a < n) (hb : b < n) (w : World) (hr : Row w bk 0 n f) (hlt : bk < w.heap.size) :
    Calls Tryd.prog 50 #[.slice (some ⟨bk, 0, none⟩) n cap, .int .i64 a, .int .i64 b] w (AskEnd (weakG n f a b) w) := by
  have hc := hr a ha
  have hnot : ∀ (x : Bool) (w : World), (Op.unary .not (.bool x)).run Tryd.prog w = .ok (.bool (!x)) w := fun _ _ => rfl
  have HR := Lib.hid hr; have HC := Lib.hid hc; clear hr hc
  cases hp : neHas (f a) b a with
  | false =>
    have HF := Lib.hid (show weakG n f a b = true by unfold weakG; rw [hp]; rfl)
    have HP := Lib.hid hp; clear hp
    go_enter Tryd.func50, Tryd.ntmps50
    go_wp2_with fail
    refine (proper_val bk 0 n cap b a (f a) false ha (by omega) _ HP.out HC.out).mono ?_
    rintro e w' ⟨rfl, rfl⟩
    go_wp2_with fail
    go_ret
    exact ⟨retb HF.out.symm, Below.refl _ _⟩
  | true =>
    have HF := Lib.hid (show weakG n f a b = (restsI n f a b != 0) by unfold weakG; rw [hp]; rfl)
    have HP := Lib.hid hp; clear hp
    go_enter Tryd.func50, Tryd.ntmps50
    go_wp2_with fail
    refine (proper_val bk 0 n cap b a (f a) true ha (by omega) _ HP.out HC.out).mono ?_
    rintro e w' ⟨rfl, rfl⟩
    go_wp2_with fail
    refine (rests_any bk n cap a b f hn ha hb _ HR.out hlt).mono ?_
    rintro e w' ⟨rfl, hb2⟩
    go_wp2_with fail
    go_ret
    exact ⟨retb HF.out.symm, hb2⟩

set_option maxHeartbeats 1600000 in
theorem strong_any (bk n cap : Nat) (a b : Nat) (f : Nat → Int) (hn : n ≤ 7) (ha : a < n) (hb : b < n) (w : World) (hr : Row w bk 0 n f) (hlt : bk < w.heap.size) :
    Calls Tryd.prog 51 #[.slice (some ⟨bk, 0, none⟩) n cap, .int .i64 a, .int .i64 b] w (AskEnd (strongG n f a b) w) := by
  have hc := hr b hb
  have HR := Lib.hid hr; have HC := Lib.hid hc; clear hr hc
  cases hp : hasB (f b) a with
  | true =>
    have HF := Lib.hid (show strongG n f a b = true by unfold strongG; rw [hp]; rfl)
    have HP := Lib.hid hp; clear hp
    go_enter Tryd.func51, Tryd.ntmps51
    go_wp2_with fail
    refine (part_val bk 0 n cap a b (f b) true hb (by omega) _ HP.out HC.out).mono ?_
    rintro e w' ⟨rfl, rfl⟩
    go_wp2_with fail
    go_ret
    exact ⟨retb HF.out.symm, Below.refl _ _⟩
  | false =>
    have HF := Lib.hid (show strongG n f a b = (restsI n f a b != 0) by unfold strongG; rw [hp]; rfl)
    have HP := Lib.hid hp; clear hp
    go_enter Tryd.func51, Tryd.ntmps51
    go_wp2_with fail
    refine (part_val bk 0 n cap a b (f b) false hb (by omega) _ HP.out HC.out).mono ?_
    rintro e w' ⟨rfl, rfl⟩
    go_wp2_with fail
    refine (rests_any bk n cap a b f hn ha hb _ HR.out hlt).mono ?_
    rintro e w' ⟨rfl, hb2⟩
    go_wp2_with fail
    go_ret
    exact ⟨retb HF.out.symm, hb2⟩

set_option maxHeartbeats 1600000 in
theorem asked_any (K p q : Nat) (a b : Nat) (v1 : Value) (v : Bool) (w : World)
    (hE : ∀ (args : Array Value) (w : World), Sem.run Tryd.prog (callFunc K args) w = .ok (.enter K args) w)
    (hK : Calls Tryd.prog K #[v1, .int .i64 a, .int .i64 b] w (AskEnd v w))
    (hp : w.cell? ⟨p, 0, none⟩ = some (.func (.func K) #[] #[])) (hq : w.cell? ⟨q, 0, none⟩ = some v1) :
    Calls Tryd.prog 40 #[.int .i64 a, .int .i64 b, .pointer (some ⟨p, 0, none⟩), .pointer (some ⟨q, 0, none⟩)] w (AskEnd v w) := by
  have HK := Lib.hid hK; clear hK
  go_enter Tryd.func40, Tryd.ntmps40
  go_wp2_with fail
  refine HK.out.mono ?_
  rintro e w' ⟨rfl, hb2⟩
  go_wp2_with fail
  go_ret
  exact ⟨rfl, hb2⟩
end Go.Proofs.YtidcfcjmjgcfkaaDoor
