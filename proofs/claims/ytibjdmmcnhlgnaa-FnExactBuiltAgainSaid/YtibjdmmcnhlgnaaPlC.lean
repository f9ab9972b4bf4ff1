import Derived.Test.YtibjdmmcnhlgnaaPlB
import Derived.Test.YtibjdmmcnhlgnaaPlR
import Derived.Test.YtibjdmmcnhlgnaaBaseB
namespace Go.Proofs.Ytibjdmmcnhlgnaa
set_option linter.unusedVariables false
set_option linter.unusedSimpArgs false
open Go.RowKit Go.Maps

/-- n pairs lie in a row from a cell on -/
def RowP (w : World) (b o n : Nat) (P Q : Nat → Int) : Prop := ∀ i, i < n → w.cell? ⟨b, o + i * 2, none⟩ = some (.int .i64 (P i)) ∧ w.cell? ⟨b, o + i * 2 + 1, none⟩ = some (.int .i64 (Q i))
theorem RowP.below {w w' : World} {b o n B : Nat} {P Q : Nat → Int} (h : RowP w b o n P Q) (hb : Below B w w') (hB : b < B) : RowP w' b o n P Q := fun i hi =>
  ⟨(hb.cell (p := ⟨b, o + i * 2, none⟩) hB).trans (h i hi).1, (hb.cell (p := ⟨b, o + i * 2 + 1, none⟩) hB).trans (h i hi).2⟩
theorem RowP.same {w w' : World} {b o n : Nat} {P Q : Nat → Int} (h : RowP w b o n P Q) (hb : w'.heap[b]? = w.heap[b]?) : RowP w' b o n P Q := fun i hi =>
  ⟨(World.cell?_of_block hb).trans (h i hi).1, (World.cell?_of_block hb).trans (h i hi).2⟩
/-- a slice of pairs: nil or empty, or in a row -/
def Prs (w : World) (a : Option Addr) (n : Nat) (P Q : Nat → Int) : Prop :=
  (n ≤ 9223372036854775807 ∧ ∀ i, i < n → I64 (P i) ∧ I64 (Q i)) ∧ (n = 0 ∨ ∃ b o, a = some ⟨b, o, none⟩ ∧ b < w.heap.size ∧ RowP w b o n P Q)
theorem Prs.below {w w' : World} {B n : Nat} {a : Option Addr} {P Q : Nat → Int} (h : Prs w a n P Q) (hb : Below B w w') (hB : w.heap.size ≤ B) : Prs w' a n P Q := by
  obtain ⟨hm, h | ⟨b, o, rfl, hlt, hr⟩⟩ := h
  · exact ⟨hm, .inl h⟩
  · exact ⟨hm, .inr ⟨b, o, rfl, Nat.lt_of_lt_of_le hlt hb.size, hr.below hb (Nat.lt_of_lt_of_le hlt hB)⟩⟩
theorem Prs.next {w w' : World} {n : Nat} {a : Option Addr} {P Q : Nat → Int} (h : Prs w a n P Q) (hb : Below w.heap.size w w') : Prs w' a n P Q := h.below hb (Nat.le_refl _)
theorem Prs.row {w : World} {n : Nat} {a : Option Addr} {P Q : Nat → Int} (h : Prs w a n P Q) (h1 : 1 ≤ n) : ∃ b o, a = some ⟨b, o, none⟩ ∧ b < w.heap.size ∧ RowP w b o n P Q := by
  obtain ⟨_, h | h⟩ := h
  · omega
  · exact h

theorem changing_any (a : Option Addr) (n cap : Nat) (w : World) :
    Calls Try.prog 71 #[.slice a n cap] w fun e w' => e = .returned (.func (.func 76) #[] #[.pointer (some ⟨w.heap.size, 0, none⟩)]) ∧
      w' = w.alloc (.cells #[.slice a n cap] 23) := by
  have hmf : ∀ (fn : Fn) (first cap : Array Value) (w : World), (Instr.makeFunc fn first cap).run Try.prog w = .ok (.func fn first cap) w := fun _ _ _ _ => rfl
  go_enter Try.func71, Try.ntmps71
  go_wp2_with fail
  go_ret
  exact ⟨rfl, rfl⟩

theorem changesDone_any (a b : Option Addr) (n cap m c2 : Nat) (w : World) :
    Calls Try.prog 65 #[.slice a n cap, .slice b m c2] w fun e w' => e = .returned (.func (.func 70) #[] #[.pointer (some ⟨w.heap.size, 0, none⟩), .pointer (some ⟨w.heap.size + 1, 0, none⟩)]) ∧
      w' = (w.alloc (.cells #[.slice a n cap] 23)).alloc (.cells #[.slice b m c2] 42) := by
  have hmf : ∀ (fn : Fn) (first cap : Array Value) (w : World), (Instr.makeFunc fn first cap).run Try.prog w = .ok (.func fn first cap) w := fun _ _ _ _ => rfl
  go_enter Try.func65, Try.ntmps65
  go_wp2_with fail
  go_ret
  exact ⟨rfl, rfl⟩

/-- the ship before, in its variable -/
structure Bfr (w : World) (Bb : Nat) (g o n c : Nat) (f : Nat → Int) : Prop where
  cell : Boxed w Bb 23 (.slice (some ⟨g, o, none⟩) n c)
  row : Row w g o n f
  lt : g < w.heap.size
  cap : n ≤ c

/-- behind a change: none, and nothing is written; or a new ship, which is the ship before from now on -/
def CgEnd (n : Nat) (f : Nat → Int) (p q : Int) (Bb : Nat) (w : World) (e : Ending) (w' : World) : Prop :=
  (okC n f p q = false ∧ e = .returned (.tuple #[.slice none 0 0, .int .i64 0, .bool false]) ∧ Below w.heap.size w w') ∨
  (okC n f p q = true ∧ ∃ g2 c2, e = .returned (.tuple #[.slice (some ⟨g2, 0, none⟩) n c2, .int .i64 (f p.toNat), .bool true]) ∧ w.heap.size ≤ g2 ∧
    OwnX w' w.heap.size 3 (.slice (some ⟨g2, 0, none⟩) n c2) (rowL (setF f p.toNat q) n) ∧ Bfr w' Bb g2 0 n c2 (setF f p.toNat q) ∧ Only Bb w w')

set_option maxRecDepth 100000 in
set_option maxHeartbeats 3200000 in
theorem changingC_any (Bb g o n c : Nat) (f : Nat → Int) (p q : Int) (hs : shipB n f = true) (w : World) (hb : Bfr w Bb g o n c f) :
    Calls Try.prog 76 #[.agg #[.int .i64 p, .int .i64 q], .pointer (some ⟨Bb, 0, none⟩)] w (CgEnd n f p q Bb w) := by
  have hn := shipB_iff.1 hs
  have hbel := alloc_below w (.cells #[.int .i64 p, .int .i64 q] 36)
  have hBl := hb.cell.lt
  have hcell := (hbel.cell (p := ⟨Bb, 0, none⟩) hBl).trans hb.cell.cell
  have HBX := Lib.hid (hb.cell.alloc (.cells #[.int .i64 p, .int .i64 q] 36))
  have HR := Lib.hid (hb.row.below hbel hb.lt)
  have HI := Lib.hid (show Ints (w.alloc (.cells #[.int .i64 p, .int .i64 q] 36)) (some ⟨g, o, none⟩) n f from ⟨⟨by omega, fun i hi => by have := ship_pk hs hi; unfold I64; omega⟩, .inr ⟨g, o, rfl, by rw [alloc_size]; have := hb.lt; omega, hb.row.below hbel hb.lt⟩⟩)
  have HK := Lib.hid (Blk2.new w 36 (.int .i64 p) (.int .i64 q))
  have HSZ := Lib.hid (show (w.alloc (.cells #[.int .i64 p, .int .i64 q] 36)).heap.size = w.heap.size + 1 from alloc_size _ _)
  have HCAP := Lib.hid hb.cap; have HGL := Lib.hid hb.lt; have HBL := Lib.hid hBl; have HS := Lib.hid hs; have HN := Lib.hid hn
  obtain ⟨hq0, hq1⟩ := HK.out.cell
  obtain ⟨w1, hw1⟩ : ∃ w1, w.alloc (.cells #[.int .i64 p, .int .i64 q] 36) = w1 := ⟨_, rfl⟩
  rw [hw1] at hcell hbel hq0 hq1
  have HB := Lib.hid hbel
  clear hb hs hn hbel
  go_enter Try.func76, Try.ntmps76
  go_wp2_with fail
  rw [hw1] at HR HI HK HSZ HBX
  clear hw1
  refine (ChangedOf_any (some ⟨g, o, none⟩) n c f p q HCAP.out _ HI.out).mono ?_
  rintro e w2 ⟨v, rfl, hown, hb2⟩
  cases hk : okC n f p q with
  | false =>
    have hch := chL_keep HS.out hk
    rw [hch.1] at hown
    rw [hch.2]
    have HK2 := Lib.hid hk
    have HB2 := Lib.hid (below_onto HB.out hb2)
    clear hch hown hcell hq0 hq1 hk hb2
    go_wp2_with fail
    go_ret3
    exact .inl ⟨HK2.out, by first | rfl | trivial, HB2.out⟩
  | true =>
    have hch := chL_done HS.out hk
    rw [hch.1] at hown
    rw [hch.2]
    obtain ⟨h0, hpn, hpk, hin⟩ := okC_iff.1 hk
    have HK2 := Lib.hid hk
    obtain ⟨k, rfl⟩ := Int.eq_ofNat_of_zero_le h0
    rw [Int.toNat_natCast] at hown
    have hkn : k < n := by omega
    obtain ⟨g2, c2, hv, hBg, hgl2, hc2, hM, hrow, hfz⟩ := hown.shape (by rw [rowL_len]; omega)
    rw [rowL_len] at hv hc2
    subst hv
    have HB2 := Lib.hid (below_onto HB.out hb2)
    have HOWN := Lib.hid (hown.base (B' := w.heap.size) (by have := HSZ.out; omega))
    have HROW := Lib.hid (row_of_list hrow)
    have HBX2 := Lib.hid (show Boxed w2 Bb 23 (.slice (some ⟨g, o, none⟩) n c) from (hb2.block Bb HBX.out.lt).trans HBX.out)
    have HS2 := Lib.hid (show w1.heap.size ≤ g2 ∧ g2 < w2.heap.size ∧ n ≤ c2 from ⟨hBg, hgl2, hc2⟩)
    replace HK := Lib.hid (HK.out.kept hb2 (by have := HSZ.out; omega))
    obtain ⟨hk0, hk1⟩ := HK.out.cell
    have hc3 := HBX2.out.cell
    have hf3 := HBX2.out.frozen
    have hrk := (HR.out.below hb2 (by have := HSZ.out; have := HGL.out; omega)) k hkn
    have hkz : (0 : Int) ≤ (k : Int) := by omega
    have hkz2 : (k : Int) < (n : Int) := by omega
    clear hown hrow hfz hb2 hch hk hcell hq0 hq1 hBg hgl2 hc2 hM hpk hin h0 hpn
    obtain ⟨u, hu⟩ : ∃ u, f k = u := ⟨_, rfl⟩
    rw [hu] at hrk
    have HU := Lib.hid hu; clear hu
    go_wp2_with fail
    go_ret3
    unfold CgEnd
    rw [Int.toNat_natCast]
    have hne : Bb ≠ g2 := by have := HS2.out; have := HSZ.out; have := HBL.out; omega
    have hO : Only Bb w (w2.setCell ⟨Bb, 0, none⟩ (.slice (some ⟨g2, 0, none⟩) n c2)) := (Only.of_below HB2.out).setCell 0 _
    refine .inr ⟨HK2.out, g2, c2, ?_, by have := HS2.out; have := HSZ.out; omega, ?_, ⟨HBX2.out.set _, ?_, ?_, HS2.out.2.2⟩, hO⟩
    · rw [HU.out]; rfl
    · exact HOWN.out.other (fun gg hg _ hl => Below.heap_setCell _ _ _ gg (by simp [Value.ownBlock] at hg; show gg ≠ Bb; omega))
    · intro i hi
      rw [World.cell?_setCell_other _ _ _ _ (by simp; try omega)]
      exact HROW.out i hi
    · rw [show (w2.setCell ⟨Bb, 0, none⟩ (.slice (some ⟨g2, 0, none⟩) n c2)).heap.size = w2.heap.size by simp [World.setCell]]
      exact HS2.out.2.1
end Go.Proofs.Ytibjdmmcnhlgnaa
