import Derived.Test.YtidcfcjmjgcfkaaAtomsC
namespace Go.Proofs.Ytidcfcjmjgcfkaa
open Go.RowKit

theorem aw_new (w : World) (s : Value) (t : TypeId) : AW (w.alloc (.cells #[s, .int .u32 0, .int .i32 0, .int .u32 0, .int .i64 0] t)) w.heap.size s 0 0 0 := by
  have hrow := World.rowIs_alloc w #[s, .int .u32 0, .int .i32 0, .int .u32 0, .int .i64 0] t (fun i => if i = 0 then s else if i = 1 then .int .u32 0 else if i = 2 then .int .i32 0 else if i = 3 then .int .u32 0 else .int .i64 0) (by
    intro i hi
    match i, hi with
    | 0, _ => rfl
    | 1, _ => rfl
    | 2, _ => rfl
    | 3, _ => rfl
    | 4, _ => rfl)
  refine ⟨by show _ < (w.heap.push _).size; rw [Array.size_push]; omega, ?_, ?_, ?_, ?_, hrow.frozen 1, hrow.frozen 2, hrow.frozen 4⟩
  · exact hrow.cell (i := 0) (by show 0 < 5; omega)
  · exact hrow.cell (i := 1) (by show 1 < 5; omega)
  · exact hrow.cell (i := 2) (by show 2 < 5; omega)
  · exact hrow.cell (i := 4) (by show 4 < 5; omega)

def AWEnd (n : Nat) (f : Nat → Int) (good : Bool) (w : World) (e : Ending) (w' : World) : Prop :=
  Below w.heap.size w w' ∧ ((good = true ∧ ∃ b g, e = .returned (.tuple #[.pointer (some ⟨b, 0, none⟩), .bool true]) ∧ AtomW w' b g n n f ∧ w.heap.size ≤ b)
    ∨ (good = false ∧ e = .returned (.tuple #[.pointer none, .bool false])))

set_option maxHeartbeats 1600000 in
theorem atomWorldOf_any (a : Option Addr) (n cap : Nat) (f : Nat → Int) (nv : Option Addr) (m mc : Nat) (g : Nat → Int) (w : World)
    (hW : Calls Try.prog 46 #[.slice a n cap, .slice nv m mc] w (WithEnd n f m g w)) :
    Calls Try.prog 31 #[.slice a n cap, .slice nv m mc] w (AWEnd n f (worldB n f && insB n m g) w) := by
  have HW := Lib.hid hW; clear hW
  have hnot : ∀ (x : Bool) (w : World), (Op.unary .not (.bool x)).run Try.prog w = .ok (.bool (!x)) w := fun _ _ => rfl
  go_enter Try.func31, Try.ntmps31
  go_wp2_with fail
  refine HW.out.mono ?_
  rintro e w' ⟨hbel, ⟨hb, rfl, hs, hr⟩ | ⟨hb, rfl⟩⟩
  · have HB := Lib.hid hb; have HR := Lib.hid hr; have HBel := Lib.hid hbel; clear hb hr
    have hsz : w.heap.size ≤ w'.heap.size := hbel.size
    have hnew := Lib.hid (aw_new w' (.slice (some ⟨w.heap.size, 0, none⟩) n n) 56)
    clear hbel
    go_wp2_with fail
    go_ret2
    refine ⟨HBel.out.alloc hsz _, .inl ⟨HB.out, w'.heap.size, w.heap.size, rfl, ⟨⟨0, 0, hnew.out, .inl rfl⟩, HR.out.below ((Below.refl w'.heap.size w').alloc (Nat.le_refl _) _) hs, ?_, by omega⟩, hsz⟩⟩
    show _ < (w'.heap.push _).size; rw [Array.size_push]; omega
  · have HB := Lib.hid hb; clear hb
    go_wp2_with fail
    go_ret2
    exact ⟨hbel, .inr ⟨HB.out, rfl⟩⟩
theorem atomWorld0 (a : Option Addr) (n cap : Nat) (f : Nat → Int) (w : World) (hi : Ints w a n f) :
    Calls Try.prog 31 #[.slice a n cap, .slice none 0 0] w (AWEnd n f (worldB n f) w) := by
  have := atomWorldOf_any a n cap f none 0 0 (one 0) w (worldWith_nil a n cap f w hi)
  rw [show insB n 0 (one 0) = true from decide_eq_true (fun i hi => absurd hi (Nat.not_lt_zero _)), Bool.and_true] at this
  exact this

theorem AWEnd.onto {n : Nat} {f : Nat → Int} {g : Bool} {w w1 : World} (hb : Below w.heap.size w w1) {e : Ending} {w' : World} (h : AWEnd n f g w1 e w') : AWEnd n f g w e w' := by
  obtain ⟨h1, h2⟩ := h
  refine ⟨below_onto hb h1, ?_⟩
  rcases h2 with ⟨h2, b, gg, h3, h4, h5⟩ | h2
  · exact .inl ⟨h2, b, gg, h3, h4, Nat.le_trans hb.size h5⟩
  · exact .inr h2

theorem atomWorld1 (a : Option Addr) (n cap : Nat) (f : Nat → Int) (x : Int) (w : World) (hi : Ints w a n f) (t : TypeId) :
    Calls Try.prog 31 #[.slice a n cap, .slice (some ⟨w.heap.size, 0, none⟩) 1 1] (w.alloc (.cells #[.int .i64 x] t)) (AWEnd n f (good1 n f x) w) := by
  have hal : Below w.heap.size w (w.alloc (.cells #[.int .i64 x] t)) := (Below.refl _ _).alloc (Nat.le_refl _) _
  have hsz : (w.alloc (.cells #[.int .i64 x] t)).heap.size = w.heap.size + 1 := by show (w.heap.push _).size = _; rw [Array.size_push]
  exact (atomWorldOf_any a n cap f _ _ _ (one x) _ (worldWith_any a n cap f _ _ _ _ (one x) (by omega) _ (hi.below hal (Nat.le_refl _)) (row_one w x t) (by rw [hsz]; omega))).mono fun _ _ h => h.onto hal

def atomsB (n : Nat) (f : Nat → Int) : Int := if worldB n f then atomsI n f else -1
def ainB (n : Nat) (f : Nat → Int) (x : Int) : Int := if good1 n f x then ainI n f x.toNat else -1
def toldB (n : Nat) (f : Nat → Int) : Bool := worldB n f && eachB n (fun a c => ainI n f a != ainI n f c)
def madeB (n : Nat) (f : Nat → Int) : Bool := worldB n f && eachB n (madeC n f)

theorem only_onto {b : Nat} {w a c : World} (h : Below w.heap.size w a) (k : Only b a c) (hb : w.heap.size ≤ b) : Below w.heap.size w c := h.trans (k.below hb h.size)

end Go.Proofs.Ytidcfcjmjgcfkaa
