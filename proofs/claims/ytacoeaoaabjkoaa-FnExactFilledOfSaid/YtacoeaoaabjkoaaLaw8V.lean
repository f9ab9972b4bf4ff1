import Derived.Test.YtacoeaoaabjkoaaLaw8M
namespace Go.Proofs.Ytacoeaoaabjkoaa
open Go.RowKit

theorem ThingOk_val (a : Option Addr) (n cap : Nat) (f : Nat → Int) (x : Int) (v : Bool) (hx : I64 x) (w : World) (hv : thingB n f x = v) (hi : Ints w a n f) :
    Calls Try.prog 23 #[.slice a n cap, .int .i64 x] w fun e w' => e = .returned (.bool v) ∧ Below w.heap.size w w' := by
  subst hv; exact ThingOk_any a n cap f x hx w hi
theorem TouchOk_val (a : Option Addr) (n cap : Nat) (f : Nat → Int) (x y : Int) (v : Bool) (hx : I64 x) (hy : I64 y) (w : World) (hv : toB n f x y = v) (hi : Ints w a n f) :
    Calls Try.prog 18 #[.slice a n cap, .int .i64 x, .int .i64 y] w fun e w' => e = .returned (.bool v) ∧ Below w.heap.size w w' := by
  subst hv; exact TouchOk_any a n cap f x y hx hy w hi
theorem OutsideTouch_val (a : Option Addr) (n cap : Nat) (f : Nat → Int) (x y : Int) (v : Bool) (hx : I64 x) (hy : I64 y) (w : World) (hv : otB n f x y = v) (hi : Ints w a n f) :
    Calls Try.prog 28 #[.slice a n cap, .int .i64 x, .int .i64 y] w fun e w' => e = .returned (.bool v) ∧ Below w.heap.size w w' := by
  subst hv; exact OutsideTouch_any a n cap f x y hx hy w hi
theorem to_no {n : Nat} {f : Nat → Int} {x y : Int} (h : (thingB n f x && thingB n f y) = false) : toB n f x y = false := by
  unfold toB; rw [thing2_eq, h]; rfl
theorem ot_no {n : Nat} {f : Nat → Int} {x y : Int} (h : (thingB n f x && thingB n f y) = false) : otB n f x y = false := by
  unfold otB toB; rw [thing2_eq, h]; rfl
theorem id_no {n : Nat} {f : Nat → Int} {x y : Int} (h : (thingB n f x && thingB n f y) = false) : idB n f x y = false := by
  unfold idB; rw [thing2_eq, h]; rfl
end Go.Proofs.Ytacoeaoaabjkoaa
