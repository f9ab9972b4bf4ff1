import Derived.Test.YtncgcopdpoaagaaLaw8M
namespace Go.Proofs.Ytncgcopdpoaagaa
open Go.RowKit

theorem GroundOk_val (a : Option Addr) (n cap : Nat) (f : Nat → Int) (v : Bool) (w : World) (hv : grdB n f = v) (hi : Ints w a n f) :
    Calls Try.prog 18 #[.slice a n cap] w fun e w' => e = .returned (.bool v) ∧ Below w.heap.size w w' := by
  subst hv; exact GroundOk_any a n cap f w hi
theorem ThingOk_val (a : Option Addr) (n cap : Nat) (f : Nat → Int) (x : Int) (v : Bool) (hx : I64 x) (w : World) (hv : thingB n f x = v) (hi : Ints w a n f) :
    Calls Try.prog 22 #[.slice a n cap, .int .i64 x] w fun e w' => e = .returned (.bool v) ∧ Below w.heap.size w w' := by
  subst hv; exact ThingOk_any a n cap f x hx w hi
theorem TouchOk_val (a : Option Addr) (n cap : Nat) (f : Nat → Int) (x y : Int) (v : Bool) (hx : I64 x) (hy : I64 y) (w : World) (hv : toB n f x y = v) (hi : Ints w a n f) :
    Calls Try.prog 25 #[.slice a n cap, .int .i64 x, .int .i64 y] w fun e w' => e = .returned (.bool v) ∧ Below w.heap.size w w' := by
  subst hv; exact TouchOk_any a n cap f x y hx hy w hi
theorem specTouchOk_val (a : Option Addr) (n cap : Nat) (f : Nat → Int) (x y : Int) (v : Bool) (hx : I64 x) (hy : I64 y) (w : World) (hv : toB n f x y = v) (hi : Ints w a n f) :
    Calls Try.prog 26 #[.slice a n cap, .int .i64 x, .int .i64 y] w fun e w' => e = .returned (.bool v) ∧ Drew w w' := by
  subst hv; exact specTouchOk_any a n cap f x y hx hy w hi
theorem OutsideTouch_val (a : Option Addr) (n cap : Nat) (f : Nat → Int) (x y : Int) (v : Bool) (hx : I64 x) (hy : I64 y) (w : World) (hv : otB n f x y = v) (hi : Ints w a n f) :
    Calls Try.prog 28 #[.slice a n cap, .int .i64 x, .int .i64 y] w fun e w' => e = .returned (.bool v) ∧ Below w.heap.size w w' := by
  subst hv; exact OutsideTouch_any a n cap f x y hx hy w hi
theorem specOutsideTouch_val (a : Option Addr) (n cap : Nat) (f : Nat → Int) (x y : Int) (v : Bool) (hx : I64 x) (hy : I64 y) (w : World) (hv : otB n f x y = v) (hi : Ints w a n f) :
    Calls Try.prog 29 #[.slice a n cap, .int .i64 x, .int .i64 y] w fun e w' => e = .returned (.bool v) ∧ Drew w w' := by
  subst hv; exact specOutsideTouch_any a n cap f x y hx hy w hi
theorem InsideOk_val (a : Option Addr) (n cap : Nat) (f : Nat → Int) (x y : Int) (v : Bool) (hx : I64 x) (hy : I64 y) (w : World) (hv : idB n f x y = v) (hi : Ints w a n f) :
    Calls Try.prog 32 #[.slice a n cap, .int .i64 x, .int .i64 y] w fun e w' => e = .returned (.bool v) ∧ Below w.heap.size w w' := by
  subst hv; exact InsideOk_any a n cap f x y hx hy w hi
theorem specInsideOk_val (a : Option Addr) (n cap : Nat) (f : Nat → Int) (x y : Int) (v : Bool) (hx : I64 x) (hy : I64 y) (w : World) (hv : idB n f x y = v) (hi : Ints w a n f) :
    Calls Try.prog 33 #[.slice a n cap, .int .i64 x, .int .i64 y] w fun e w' => e = .returned (.bool v) ∧ Drew w w' := by
  subst hv; exact specInsideOk_any a n cap f x y hx hy w hi
theorem BorderOf_val (a : Option Addr) (n cap : Nat) (f : Nat → Int) (x : Int) (v : Int) (hx : I64 x) (w : World) (hv : boV n f x = v) (hi : Ints w a n f) :
    Calls Try.prog 35 #[.slice a n cap, .int .i64 x] w fun e w' => e = .returned (.int .i64 v) ∧ Below w.heap.size w w' := by
  subst hv; exact BorderOf_any a n cap f x hx w hi
theorem specBorderOf_val (a : Option Addr) (n cap : Nat) (f : Nat → Int) (x : Int) (v : Int) (hx : I64 x) (w : World) (hv : boV n f x = v) (hi : Ints w a n f) :
    Calls Try.prog 36 #[.slice a n cap, .int .i64 x] w fun e w' => e = .returned (.int .i64 v) ∧ Drew w w' := by
  subst hv; exact specBorderOf_any a n cap f x hx w hi
theorem GrownOf_val (a : Option Addr) (n cap : Nat) (f : Nat → Int) (x : Int) (v : Int) (hx : I64 x) (w : World) (hv : gwV n f x = v) (hi : Ints w a n f) :
    Calls Try.prog 38 #[.slice a n cap, .int .i64 x] w fun e w' => e = .returned (.int .i64 v) ∧ Below w.heap.size w w' := by
  subst hv; exact GrownOf_any a n cap f x hx w hi
theorem specGrownOf_val (a : Option Addr) (n cap : Nat) (f : Nat → Int) (x : Int) (v : Int) (hx : I64 x) (w : World) (hv : gwV n f x = v) (hi : Ints w a n f) :
    Calls Try.prog 39 #[.slice a n cap, .int .i64 x] w fun e w' => e = .returned (.int .i64 v) ∧ Drew w w' := by
  subst hv; exact specGrownOf_any a n cap f x hx w hi
theorem to_no {n : Nat} {f : Nat → Int} {x y : Int} (h : (thingB n f x && thingB n f y) = false) : toB n f x y = false := by
  unfold toB; rw [thing2_eq, h]; rfl
theorem ot_no {n : Nat} {f : Nat → Int} {x y : Int} (h : (thingB n f x && thingB n f y) = false) : otB n f x y = false := by
  unfold otB toB; rw [thing2_eq, h]; rfl
theorem id_no {n : Nat} {f : Nat → Int} {x y : Int} (h : (thingB n f x && thingB n f y) = false) : idB n f x y = false := by
  unfold idB; rw [thing2_eq, h]; rfl
end Go.Proofs.Ytncgcopdpoaagaa
