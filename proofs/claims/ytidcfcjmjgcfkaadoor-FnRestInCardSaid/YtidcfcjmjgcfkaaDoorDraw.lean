import Derived.Test.YtidcfcjmjgcfkaaDoorRead
import Derived.Test.YtidcfcjmjgcfkaaDoorExactA
import Derived.Laws.OwnMore
namespace Go.Proofs.YtidcfcjmjgcfkaaDoor
open Go.RowKit

/-- a truth is drawn -/
def PickedB (rb P : Nat) (w : World) (e : Ending) (w' : World) : Prop :=
  ∃ v : Bool, e = .returned (.bool v) ∧ Only rb w w' ∧ Rdr w' rb (P + 1)

set_option maxHeartbeats 800000 in
theorem odd_any (rb P : Nat) (n : Int) (hn : 1 ≤ n) (hn2 : n ≤ 100) (hP : P ≤ 1000000) (w : World) (h : Rdr w rb P) :
    Calls Tryd.prog 36 #[.pointer (some ⟨rb, 0, none⟩), .int .i64 n] w (PickedB rb P w) := by
  have hd : decide (0 < n) = true := by simp; omega
  have H := Lib.hid h; clear h
  go_enter Tryd.func36, Tryd.ntmps36
  go_wp2_with fail
  refine (pick_any rb P n hP w H.out).mono ?_
  rintro e w' ⟨x, rfl, hx, ho, hr⟩
  go_wp2_with fail
  go_ret
  exact ⟨_, rfl, ho, hr⟩

/-- bytes that came in -/
def BytesIn (w : World) (a : Option Addr) (n cap : Nat) : Prop :=
  n ≤ cap ∧ cap ≤ 9223372036854775807 ∧ (n = 0 ∨ ∃ b o g, a = some ⟨b, o, none⟩ ∧ b < w.heap.size ∧ Bytes w b o n g)

theorem reader_made (w : World) (a : Option Addr) (n cap : Nat) (hn : n ≤ 2000) (h : n = 0 ∨ ∃ b o g, a = some ⟨b, o, none⟩ ∧ b < w.heap.size ∧ Bytes w b o n g) (t : TypeId) :
    Rdr (w.alloc (.cells #[.slice a n cap, .int .i64 0] t)) w.heap.size 0 := by
  have hrow := World.rowIs_alloc w #[.slice a n cap, .int .i64 0] t (fun i => if i = 0 then .slice a n cap else .int .i64 0) (by
    intro i hi
    match i, hi with
    | 0, _ => rfl
    | 1, _ => rfl)
  have hb : Below w.heap.size w (w.alloc (.cells #[.slice a n cap, .int .i64 0] t)) := (Below.refl _ _).alloc (Nat.le_refl _) _
  have hsz : (w.alloc (.cells #[.slice a n cap, .int .i64 0] t)).heap.size = w.heap.size + 1 := by show (w.heap.push _).size = _; rw [Array.size_push]
  have h0 := hrow.cell (i := 0) (by show 0 < 2; omega)
  have h1 := hrow.cell (i := 1) (by show 1 < 2; omega)
  rcases h with h | ⟨b, o, g, ha, hlt, hby⟩
  · exact ⟨by omega, hrow.frozen 1, a, n, cap, fun _ => 0, 0, hn, Nat.le_refl _, h0, h1, .inl h⟩
  · exact ⟨by omega, hrow.frozen 1, a, n, cap, g, 0, hn, Nat.le_refl _, h0, h1, .inr ⟨b, o, ha, hlt, fun i hi => ⟨(hb.cell (p := ⟨b, o + i, none⟩) hlt).trans (hby i hi).1, (hby i hi).2⟩⟩⟩

/-- a reader is made -/
def Opened (w : World) (e : Ending) (w' : World) : Prop := e = .returned (.pointer (some ⟨w.heap.size, 0, none⟩)) ∧ Below w.heap.size w w' ∧ Rdr w' w.heap.size 0

set_option maxHeartbeats 800000 in
theorem open_any (a : Option Addr) (n cap : Nat) (w : World) (h : BytesIn w a n cap) :
    Calls Tryd.prog 21 #[.slice a n cap] w (Opened w) := by
  obtain ⟨hnc, hc, hb⟩ := h
  by_cases hn : n ≤ 2000
  · have hm := Lib.hid (reader_made w a n cap hn hb 53)
    have HB := Lib.hid hb; clear hb
    have hd : decide ((2000 : Int) < (n : Int)) = false := by simp; omega
    go_enter Tryd.func21, Tryd.ntmps21
    go_wp2_with fail
    go_ret

    exact ⟨rfl, (Below.refl _ _).alloc (Nat.le_refl _) _, hm.out⟩
  · have hb2 : (2000 : Nat) = 0 ∨ ∃ b o g, a = some ⟨b, o, none⟩ ∧ b < w.heap.size ∧ Bytes w b o 2000 g := by
      rcases hb with hb | ⟨b, o, g, ha, hlt, hby⟩
      · omega
      · exact .inr ⟨b, o, g, ha, hlt, fun i hi => hby i (by omega)⟩
    have hm := Lib.hid (reader_made w a 2000 cap (Nat.le_refl _) hb2 53)
    have HB := Lib.hid hb; clear hb hb2
    have hd : decide ((2000 : Int) < (n : Int)) = true := by simp; omega
    go_enter Tryd.func21, Tryd.ntmps21
    go_wp2_with fail
    go_ret

    exact ⟨rfl, (Below.refl _ _).alloc (Nat.le_refl _) _, hm.out⟩
end Go.Proofs.YtidcfcjmjgcfkaaDoor
