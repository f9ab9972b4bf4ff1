import Derived.Test.YtidcfcjmjgcfkaaDoorWorldC
namespace Go.Proofs.YtidcfcjmjgcfkaaDoor
open Go.RowKit

theorem Tryd.infoInt : (Tryd.prog.info? 3).map (fun i => (i.zero, i.size, i.bytes)) = some (some (.int .i64 0), 1, 8) := by kernel_rfl

/-- a slice of its own, in new memory -/
def Fresh (w w' : World) (e : Ending) (n : Nat) (f : Nat → Int) : Prop :=
  Below w.heap.size w w' ∧ e = .returned (.slice (some ⟨w.heap.size, 0, none⟩) n n) ∧ w.heap.size < w'.heap.size ∧ Row w' w.heap.size 0 n f

set_option maxHeartbeats 800000 in
theorem toIntS_row (bk off n cap : Nat) (f : Nat → Int) (hn : n ≤ 1048576) (w : World) (hr : Row w bk off n f) (hbk : bk < w.heap.size) :
    Calls Tryd.prog 18 #[.slice (some ⟨bk, off, none⟩) n cap] w fun e w' => Fresh w w' e n f := by
  have hmk := run_make_row' (P := Tryd.prog) 23 3 (.int .i64 0) 8 Tryd.underlying23 Tryd.infoInt rfl .i64 .i64 n (by omega) (by omega)
  have hmade := World.rowIs_made w (.int .i64 0) n 3
  have hbel : Below w.heap.size w (w.alloc (.cells (madeCells #[.int .i64 0] n) 3)) := (Below.refl _ _).alloc (Nat.le_refl _) _
  go_enter Tryd.func18, Tryd.ntmps18
  go_wp2_with fail
  go_loopw [4] (fun i wr => ∃ k : Nat, k ≤ n ∧ i = .int .i64 k ∧ wr.rowIs w.heap.size 3 n (fill f k) ∧ Below w.heap.size w wr) (fun i _ => n - (intOf i).toNat)
  case atStart => exact ⟨0, Nat.zero_le _, rfl, hmade, hbel⟩
  case round =>
    obtain ⟨k, hk, rfl, hrow, hb⟩ := hrel
    have hr' := hr.below hb hbk
    by_cases hlt : k < n
    · have hc := hr' k hlt
      have hold := hrow.cell hlt
      have hfr := hrow.frozen k
      go_wp2_with fail
      go_roundw
      case rel => exact ⟨k + 1, by omega, by go_num, fill_step hrow, hb.setCell (Nat.le_refl _) _⟩
      case measure => simp [intOf]; omega
    · have hown : Row wr w.heap.size 0 n f := row_of_is hrow (fun i hi => by unfold fill; rw [if_pos (by omega)])
      have hsz : w.heap.size < wr.heap.size := hrow.lt
      go_wp2_with fail
      go_ret
      exact ⟨hb, rfl, hsz, hown⟩

set_option maxHeartbeats 800000 in
theorem toIntS_nil (a : Option Addr) (cap : Nat) (f : Nat → Int) (w : World) :
    Calls Tryd.prog 18 #[.slice a 0 cap] w fun e w' => Fresh w w' e 0 f := by
  have hmk := run_make_row' (P := Tryd.prog) 23 3 (.int .i64 0) 8 Tryd.underlying23 Tryd.infoInt rfl .i64 .i64 0 (by omega) (by omega)
  simp only [Int.natCast_zero] at hmk
  have hbel : Below w.heap.size w (w.alloc (.cells (madeCells #[.int .i64 0] 0) 3)) := (Below.refl _ _).alloc (Nat.le_refl _) _
  go_enter Tryd.func18, Tryd.ntmps18
  go_wp2_with fail
  go_loopw [4] (fun i wr => i = .int .i64 0 ∧ Below w.heap.size w wr ∧ w.heap.size < wr.heap.size) (fun i _ => 0)
  case atStart => exact ⟨rfl, hbel, by show _ < (w.heap.push _).size; rw [Array.size_push]; omega⟩
  case round =>
    obtain ⟨rfl, hb, hsz⟩ := hrel
    go_wp2_with fail
    go_ret
    exact ⟨hb, rfl, hsz, fun i hi => absurd hi (Nat.not_lt_zero _)⟩

theorem toIntS_any (a : Option Addr) (n cap : Nat) (f : Nat → Int) (hn : n ≤ 1048576) (w : World) (hi : Ints w a n f) :
    Calls Tryd.prog 18 #[.slice a n cap] w fun e w' => Fresh w w' e n f := by
  obtain ⟨_, rfl | ⟨b, o, rfl, hlt, hr⟩⟩ := hi
  · exact toIntS_nil a cap f w
  · exact toIntS_row b o n cap f hn w hr hlt

theorem Fresh.ints {w w' : World} {e : Ending} {n : Nat} {f : Nat → Int} (h : Fresh w w' e n f) (h64 : n ≤ 9223372036854775807 ∧ ∀ i, i < n → I64 (f i)) : Ints w' (some ⟨w.heap.size, 0, none⟩) n f :=
  ⟨h64, .inr ⟨_, _, rfl, h.2.2.1, h.2.2.2⟩⟩

set_option maxHeartbeats 800000 in
theorem eqIntS_row (b1 o1 c1 b2 o2 c2 n : Nat) (f : Nat → Int) (hn : n ≤ 1048576) (w : World) (h1 : Row w b1 o1 n f) (h2 : Row w b2 o2 n f) :
    Calls Tryd.prog 19 #[.slice (some ⟨b1, o1, none⟩) n c1, .slice (some ⟨b2, o2, none⟩) n c2] w fun e w' => e = .returned (.bool true) ∧ Drew w w' := by
  have hne : ((n : Int) != (n : Int)) = false := by simp
  go_enter Tryd.func19, Tryd.ntmps19
  go_wp2_with fail
  go_loopw [5] (fun i wr => ∃ k : Nat, k ≤ n ∧ i = .int .i64 k ∧ Row wr b1 o1 n f ∧ Row wr b2 o2 n f ∧ Drew w wr) (fun i _ => n - (intOf i).toNat)
  case atStart => exact ⟨0, Nat.zero_le _, rfl, h1, h2, Drew.refl w⟩
  case round =>
    obtain ⟨k, hk, rfl, h1, h2, hd⟩ := hrel
    by_cases hlt : k < n
    · have hc1 := h1 k hlt
      have hc2 := h2 k hlt
      have hki : (k : Int) < (n : Int) := by omega
      have hne : (f k != f k) = false := by simp
      go_wp2_with fail
      go_quiet (fail)
      go_wp2_with fail
      go_roundw
      case rel => exact ⟨k + 1, by omega, by go_num, h1.drewN _, h2.drewN _, hd.more _⟩
      case measure => simp [intOf]; omega
    · go_wp2_with fail
      go_ret
      exact ⟨rfl, hd⟩
end Go.Proofs.YtidcfcjmjgcfkaaDoor
