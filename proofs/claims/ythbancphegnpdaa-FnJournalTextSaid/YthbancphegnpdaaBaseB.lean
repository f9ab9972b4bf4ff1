import Derived.Test.YthbancphegnpdaaBaseA
import Derived.OpenShut
namespace Go.Proofs.Ythbancphegnpdaa
open Go.RowKit

theorem Try.infoInt : (Try.prog.info? 3).map (fun i => (i.zero, i.size, i.bytes)) = some (some (.int .i64 0), 1, 8) := by kernel_rfl

/-- a slice of its own, in new memory -/
def Fresh (w w' : World) (e : Ending) (n : Nat) (f : Nat → Int) : Prop :=
  Below w.heap.size w w' ∧ e = .returned (.slice (some ⟨w.heap.size, 0, none⟩) n n) ∧ w.heap.size < w'.heap.size ∧ Row w' w.heap.size 0 n f

theorem Fresh.ints {w w' : World} {e : Ending} {n : Nat} {f : Nat → Int} (h : Fresh w w' e n f) (h64 : n ≤ 9223372036854775807 ∧ ∀ i, i < n → I64 (f i)) : Ints w' (some ⟨w.heap.size, 0, none⟩) n f :=
  ⟨h64, .inr ⟨_, _, rfl, h.2.2.1, h.2.2.2⟩⟩

end Go.Proofs.Ythbancphegnpdaa

namespace Go.Proofs.Ythbancphegnpdaa
open Go.RowKit

def TrueEnd (w : World) (e : Ending) (w' : World) : Prop := e = .returned (.bool true) ∧ Below w.heap.size w w'

theorem below_onto {w a b : World} (h : Below w.heap.size w a) (k : Below a.heap.size a b) : Below w.heap.size w b := h.trans (k.mono h.size)

theorem Ints.drew {w w' : World} {n : Nat} {a : Option Addr} {f : Nat → Int} (h : Ints w a n f) (hd : Drew w w') : Ints w' a n f := h.below hd.below (Nat.le_refl _)
theorem Ints.next {w w' : World} {n : Nat} {a : Option Addr} {f : Nat → Int} (h : Ints w a n f) (hb : Below w.heap.size w w') : Ints w' a n f := h.below hb (Nat.le_refl _)

/-- what came in, as the shell of a proof says it -/
theorem ints_of {w : World} {a : Option Addr} {len cap : Nat} {zs : List Int} (h : (a = none ∧ len = 0 ∧ cap = 0 ∧ zs = []) ∨
    ∃ x, a = some x ∧ len ≤ cap ∧ cap ≤ maxLen ∧ zs.length = cap ∧ (∀ i, i < zs.length → w.cell? (x.add i) = some (.int .i64 (zs.getD i 0))) ∧ ∀ n ∈ zs, (Lit.int .i64 n).wf = true) :
    Ints w a len (fun i => zs.getD i 0) := by
  rcases h with ⟨rfl, rfl, rfl, rfl⟩ | ⟨x, rfl, hl, hm, hz, hc, hwf⟩
  · exact ⟨⟨by omega, fun i hi => absurd hi (Nat.not_lt_zero _)⟩, .inl rfl⟩
  · unfold maxLen at hm
    refine ⟨⟨by omega, fun i hi => ?_⟩, ?_⟩
    · have hm : zs.getD i 0 ∈ zs := by
        rw [List.getD_eq_getElem?_getD, List.getElem?_eq_getElem (by omega : i < zs.length)]
        exact List.getElem_mem _
      have := hwf _ hm
      unfold I64
      simp [Lit.wf, IntKind.min, IntKind.max, IntKind.bits, IntKind.signed] at this
      exact this
    · by_cases h0 : len = 0
      · exact .inl h0
      · right
        obtain ⟨b, o, rfl, hcell⟩ := ints_at hc (by omega)
        have h1 := hcell 0 (by omega)
        exact ⟨b, o, rfl, World.block_lt_of_cell? w _ h1, fun i hi => hcell i (by omega)⟩

end Go.Proofs.Ythbancphegnpdaa

namespace Go.Proofs.Ythbancphegnpdaa
open Go.RowKit

/-- it holds of each two things -/
def eachB (n : Nat) (g : Nat → Nat → Bool) : Bool := decide (∀ a, a < n → ∀ c, c < n → a ≠ c → g a c = true)

def EachEnd (n : Nat) (g : Nat → Nat → Bool) (J : World → Prop) (e : Ending) (w' : World) : Prop := e = .returned (.bool (eachB n g)) ∧ J w'

end Go.Proofs.Ythbancphegnpdaa

namespace Go.Proofs.Ythbancphegnpdaa
open Go.RowKit

end Go.Proofs.Ythbancphegnpdaa

namespace Go.Proofs.Ythbancphegnpdaa
open Go.RowKit

/-- behind a step the world is as it was, but for the block rb, and for new blocks -/
structure Only (rb : Nat) (w w' : World) : Prop where
  os : w'.os = w.os
  tape : w'.tape = w.tape
  output : w'.output = w.output
  size : w.heap.size ≤ w'.heap.size
  block : ∀ k, k < w.heap.size → k ≠ rb → w'.heap[k]? = w.heap[k]?

theorem Only.refl (rb : Nat) (w : World) : Only rb w w := ⟨rfl, rfl, rfl, Nat.le_refl _, fun _ _ _ => rfl⟩
theorem Only.trans {rb : Nat} {a b c : World} (h : Only rb a b) (k : Only rb b c) : Only rb a c :=
  ⟨k.os.trans h.os, k.tape.trans h.tape, k.output.trans h.output, Nat.le_trans h.size k.size, fun i hi hn => (k.block i (Nat.lt_of_lt_of_le hi h.size) hn).trans (h.block i hi hn)⟩
theorem Only.of_below {rb : Nat} {w w' : World} (h : Below w.heap.size w w') : Only rb w w' := ⟨h.os, h.tape, h.output, h.size, fun k hk _ => h.block k hk⟩
theorem Only.below {rb : Nat} {w w' : World} (h : Only rb w w') {B : Nat} (hB : B ≤ rb) (hs : B ≤ w.heap.size) : Below B w w' := ⟨h.os, h.tape, h.output, h.size, fun k hk => h.block k (by omega) (by omega)⟩
theorem Only.setCell {rb : Nat} {w w' : World} (h : Only rb w w') (i : Nat) (v : Value) : Only rb w (w'.setCell ⟨rb, i, none⟩ v) :=
  ⟨h.os, h.tape, h.output, by simp [World.setCell]; exact h.size, fun k hk hn => (Below.heap_setCell w' ⟨rb, i, none⟩ v k hn).trans (h.block k hk hn)⟩
theorem Only.drewN {rb : Nat} {w w' : World} (h : Only rb w w') (n : Nat) : Only rb w (w'.drewN n) :=
  ⟨h.os, h.tape, h.output, h.size, h.block⟩

theorem Row.only {w w' : World} {rb b o n : Nat} {f : Nat → Int} (h : Row w b o n f) (hb : Only rb w w') (hlt : b < w.heap.size) (hne : b ≠ rb) : Row w' b o n f :=
  fun i hi => (World.cell?_of_block (w := w) (hb.block b hlt hne)).trans (h i hi)

/-- n bytes lie in a row -/
def Bytes (w : World) (b o n : Nat) (g : Nat → Int) : Prop := ∀ i, i < n → w.cell? ⟨b, o + i, none⟩ = some (.int .u8 (g i)) ∧ 0 ≤ g i ∧ g i ≤ 255

/-- a reader in the block rb: its bytes, and that it has read at most P of them -/
def Rdr (w : World) (rb P : Nat) : Prop :=
  rb < w.heap.size ∧ w.frozen? ⟨rb, 1, none⟩ = false ∧ ∃ (a : Option Addr) (len cap : Nat) (g : Nat → Int) (p : Nat), len ≤ 2000 ∧ p ≤ P ∧
    w.cell? ⟨rb, 0, none⟩ = some (.slice a len cap) ∧ w.cell? ⟨rb, 1, none⟩ = some (.int .i64 p) ∧
    (len = 0 ∨ ∃ b o, a = some ⟨b, o, none⟩ ∧ b < rb ∧ Bytes w b o len g)

theorem Rdr.mono {w : World} {rb P Q : Nat} (h : Rdr w rb P) (hPQ : P ≤ Q) : Rdr w rb Q := by
  obtain ⟨h1, h2, a, len, cap, g, p, h3, h4, h5⟩ := h
  exact ⟨h1, h2, a, len, cap, g, p, h3, Nat.le_trans h4 hPQ, h5⟩

/-- whatever leaves the reader's block, and the blocks before it, alone, leaves the reader -/
theorem Rdr.belowB {w w' : World} {rb P B : Nat} (h : Rdr w rb P) (hb : Below B w w') (hB : rb < B) : Rdr w' rb P := by
  obtain ⟨h1, h2, a, len, cap, g, p, h3, h4, h5, h6, h7⟩ := h
  refine ⟨Nat.lt_of_lt_of_le h1 hb.size, (hb.frozen (p := ⟨rb, 1, none⟩) hB).trans h2, a, len, cap, g, p, h3, h4, (hb.cell (p := ⟨rb, 0, none⟩) hB).trans h5, (hb.cell (p := ⟨rb, 1, none⟩) hB).trans h6, ?_⟩
  rcases h7 with h7 | ⟨b, o, ha, hlt, hby⟩
  · exact .inl h7
  · exact .inr ⟨b, o, ha, hlt, fun i hi => ⟨(hb.cell (p := ⟨b, o + i, none⟩) (Nat.lt_trans hlt hB)).trans (hby i hi).1, (hby i hi).2⟩⟩

theorem Rdr.below {w w' : World} {rb P : Nat} (h : Rdr w rb P) (hb : Below w.heap.size w w') : Rdr w' rb P := h.belowB hb h.1

theorem Only.below_then {rb : Nat} {w w1 w2 : World} (h : Only rb w w1) (k : Below w.heap.size w1 w2) : Only rb w w2 :=
  ⟨k.os.trans h.os, k.tape.trans h.tape, k.output.trans h.output, Nat.le_trans h.size k.size, fun i hi hn => (k.block i hi).trans (h.block i hi hn)⟩

/-- what a draw gives: a number below n, 0 where there is none; the reader has read one byte more -/
def Picked (rb P : Nat) (n : Int) (w : World) (e : Ending) (w' : World) : Prop :=
  ∃ x : Nat, e = .returned (.int .i64 x) ∧ (x : Int) < max n 1 ∧ Only rb w w' ∧ Rdr w' rb (P + 1)

/-- the reader has read one byte more -/
theorem Rdr.step {w : World} {rb P : Nat} {a : Option Addr} {len cap p : Nat} {g : Nat → Int} (hlt : rb < w.heap.size) (hfr : w.frozen? ⟨rb, 1, none⟩ = false) (hlen : len ≤ 2000) (hp : p ≤ P)
    (hc0 : w.cell? ⟨rb, 0, none⟩ = some (.slice a len cap)) (hc1 : w.cell? ⟨rb, 1, none⟩ = some (.int .i64 p)) (hby : len = 0 ∨ ∃ b o, a = some ⟨b, o, none⟩ ∧ b < rb ∧ Bytes w b o len g) :
    ∃ w1, w1 = w.setCell ⟨rb, 1, none⟩ (.int .i64 ((p : Int) + 1)) ∧ w1.cell? ⟨rb, 0, none⟩ = some (.slice a len cap) ∧ w1.cell? ⟨rb, 1, none⟩ = some (.int .i64 ((p : Int) + 1)) ∧
      (len = 0 ∨ ∃ b o, a = some ⟨b, o, none⟩ ∧ b < rb ∧ Bytes w1 b o len g) ∧ Only rb w w1 ∧ Rdr w1 rb (P + 1) := by
  refine ⟨_, rfl, ?_⟩
  have honly := (Only.refl rb w).setCell 1 (.int .i64 ((p : Int) + 1))
  have h0 : (w.setCell ⟨rb, 1, none⟩ (.int .i64 ((p : Int) + 1))).cell? ⟨rb, 0, none⟩ = some (.slice a len cap) := by
    rw [World.cell?_setCell_other _ _ _ _ (by simp)]; exact hc0
  have h1 : (w.setCell ⟨rb, 1, none⟩ (.int .i64 ((p : Int) + 1))).cell? ⟨rb, 1, none⟩ = some (.int .i64 ((p : Int) + 1)) := by
    go_simp
  have hb2 : len = 0 ∨ ∃ b o, a = some ⟨b, o, none⟩ ∧ b < rb ∧ Bytes (w.setCell ⟨rb, 1, none⟩ (.int .i64 ((p : Int) + 1))) b o len g := by
    rcases hby with h | ⟨b, o, ha, hb, hby⟩
    · exact .inl h
    · exact .inr ⟨b, o, ha, hb, fun i hi => ⟨(World.cell?_of_block (w := w) (honly.block b (Nat.lt_trans hb hlt) (Nat.ne_of_lt hb))).trans (hby i hi).1, (hby i hi).2⟩⟩
  have hfr2 : (w.setCell ⟨rb, 1, none⟩ (.int .i64 ((p : Int) + 1))).frozen? ⟨rb, 1, none⟩ = false := by
    rw [← hfr]; go_simp
  refine ⟨h0, h1, hb2, honly, Nat.lt_of_lt_of_le hlt honly.size, hfr2, a, len, cap, g, p + 1, hlen, by omega, h0, ?_, hb2⟩
  rw [h1]; rfl

theorem mod_lt (x : Nat) (n : Int) (hn : 1 ≤ n) : ((x : Int) % n).toNat < n ∧ ((((x : Int) % n).toNat : Nat) : Int) = (x : Int) % n := by
  have h1 := Int.emod_nonneg (x : Int) (by omega : n ≠ 0)
  have h2 := Int.emod_lt_of_pos (x : Int) (by omega : 0 < n)
  omega

set_option maxHeartbeats 1600000 in
theorem pick_less (rb P : Nat) (n : Int) (hn : n < 1) (hP : P ≤ 1000000) (w : World) (h : Rdr w rb P) :
    Calls Try.prog 41 #[.pointer (some ⟨rb, 0, none⟩), .int .i64 n] w (Picked rb P n w) := by
  obtain ⟨hlt, hfr, a, len, cap, g, p, hlen, hp, hc0, hc1, hby⟩ := h
  obtain ⟨w1, hw1, e0, e1, eb, ho, hrd⟩ := Rdr.step hlt hfr hlen hp hc0 hc1 hby
  have hd1 : decide (n < 1) = true := by simp; omega
  have HB := Lib.hid hby; clear hby
  have HW := Lib.hid hw1; clear hw1
  go_enter Try.func41, Try.ntmps41
  go_wp2_with fail
  go_ret
  rw [← HW.out]
  exact ⟨0, rfl, by omega, ho, hrd⟩

set_option maxHeartbeats 1600000 in
theorem pick_empty (rb P : Nat) (n : Int) (hn : 1 ≤ n) (hP : P ≤ 1000000) (w : World) (hlt : rb < w.heap.size) (hfr : w.frozen? ⟨rb, 1, none⟩ = false) (a : Option Addr) (cap p : Nat) (hp : p ≤ P)
    (hc0 : w.cell? ⟨rb, 0, none⟩ = some (.slice a 0 cap)) (hc1 : w.cell? ⟨rb, 1, none⟩ = some (.int .i64 p)) :
    Calls Try.prog 41 #[.pointer (some ⟨rb, 0, none⟩), .int .i64 n] w (Picked rb P n w) := by
  obtain ⟨w1, hw1, e0, e1, eb, ho, hrd⟩ := Rdr.step (g := fun _ => 0) hlt hfr (Nat.zero_le _) hp hc0 hc1 (.inl rfl)
  have hd1 : decide (n < 1) = false := by simp; omega
  have HW := Lib.hid hw1; clear hw1
  go_enter Try.func41, Try.ntmps41
  go_wp2_with fail
  go_ret
  rw [← HW.out]
  exact ⟨0, rfl, by omega, ho, hrd⟩

set_option maxHeartbeats 1600000 in
theorem pick_in (rb P : Nat) (n : Int) (hn : 1 ≤ n) (hP : P ≤ 1000000) (w : World) (hlt : rb < w.heap.size) (hfr : w.frozen? ⟨rb, 1, none⟩ = false) (b o len cap p : Nat) (g : Nat → Int) (hp : p ≤ P) (hlen : len ≤ 2000) (hpl : p < len)
    (hc0 : w.cell? ⟨rb, 0, none⟩ = some (.slice (some ⟨b, o, none⟩) len cap)) (hc1 : w.cell? ⟨rb, 1, none⟩ = some (.int .i64 p)) (hb : b < rb) (hby : Bytes w b o len g) :
    Calls Try.prog 41 #[.pointer (some ⟨rb, 0, none⟩), .int .i64 n] w (Picked rb P n w) := by
  obtain ⟨w1, hw1, e0, e1, eb, ho, hrd⟩ := Rdr.step hlt hfr hlen hp hc0 hc1 (.inr ⟨b, o, rfl, hb, hby⟩)
  have hg := (World.cell?_of_block (w := w) (ho.block b (Nat.lt_trans hb hlt) (Nat.ne_of_lt hb))).trans (hby p hpl).1
  obtain ⟨_, hg0, hg1⟩ := hby p hpl
  obtain ⟨G, hG⟩ := Int.eq_ofNat_of_zero_le hg0
  rw [hG] at hg hg0 hg1
  clear hG hg0
  have hd1 : decide (n < 1) = false := by simp; omega
  have hl0 : ((len : Int) == 0) = false := by rw [beq_eq_false_iff_ne]; omega
  rw [hw1] at hg
  have HW := Lib.hid hw1; clear hw1 e0 e1 eb
  go_enter Try.func41, Try.ntmps41
  go_wp2_with fail
  go_ret
  rw [← HW.out]
  obtain ⟨m1, m2⟩ := mod_lt G n hn
  exact ⟨((G : Int) % n).toNat, by rw [m2]; rfl, by omega, ho, hrd⟩

theorem xor_nat (X : Nat) (h : X ≤ 1000000000) : ∃ Y : Nat, bits .xor .i64 (X : Int) ((X : Int) / 64) = (Y : Int) := by
  refine ⟨X ^^^ (X / 64), ?_⟩
  have e : ((X : Int) / 64) = ((X / 64 : Nat) : Int) := by omega
  rw [e]
  show IntKind.i64.wrap ((BitVec.ofInt 64 (X : Int) ^^^ BitVec.ofInt 64 ((X / 64 : Nat) : Int)).toNat : Int) = _
  rw [BitVec.toNat_xor, BitVec.toNat_ofInt, BitVec.toNat_ofInt]
  have e1 : (((X : Int)) % ((2 ^ 64 : Nat) : Int)).toNat = X := by omega
  have e2 : ((((X / 64 : Nat) : Int)) % ((2 ^ 64 : Nat) : Int)).toNat = X / 64 := by omega
  rw [e1, e2]
  have hlt : X ^^^ (X / 64) < 2 ^ 30 := Nat.xor_lt_two_pow (by omega) (by omega)
  exact wrap_in _ (by unfold I64; omega)

set_option maxHeartbeats 4000000 in
theorem pick_past (rb P : Nat) (n : Int) (hn : 1 ≤ n) (hP : P ≤ 1000000) (w : World) (hlt : rb < w.heap.size) (hfr : w.frozen? ⟨rb, 1, none⟩ = false) (b o len cap p : Nat) (g : Nat → Int) (hp : p ≤ P) (hlen : len ≤ 2000) (hl1 : 1 ≤ len) (hpl : len ≤ p)
    (hc0 : w.cell? ⟨rb, 0, none⟩ = some (.slice (some ⟨b, o, none⟩) len cap)) (hc1 : w.cell? ⟨rb, 1, none⟩ = some (.int .i64 p)) (hb : b < rb) (hby : Bytes w b o len g) :
    Calls Try.prog 41 #[.pointer (some ⟨rb, 0, none⟩), .int .i64 n] w (Picked rb P n w) := by
  obtain ⟨w1, hw1, e0, e1, eb, ho, hrd⟩ := Rdr.step hlt hfr hlen hp hc0 hc1 (.inr ⟨b, o, rfl, hb, hby⟩)
  have k1 : p % len < len := Nat.mod_lt _ (by omega)
  have k2 : (p * 7 + 3) % len < len := Nat.mod_lt _ (by omega)
  have hg := (World.cell?_of_block (w := w) (ho.block b (Nat.lt_trans hb hlt) (Nat.ne_of_lt hb))).trans (hby _ k1).1
  have hh := (World.cell?_of_block (w := w) (ho.block b (Nat.lt_trans hb hlt) (Nat.ne_of_lt hb))).trans (hby _ k2).1
  obtain ⟨_, hg0, hg1⟩ := hby _ k1
  obtain ⟨_, hh0, hh1⟩ := hby _ k2
  obtain ⟨G, hG⟩ := Int.eq_ofNat_of_zero_le hg0
  obtain ⟨H, hH⟩ := Int.eq_ofNat_of_zero_le hh0
  rw [hG] at hg hg0 hg1
  rw [hH] at hh hh0 hh1
  clear hG hg0 hH hh0
  have hd1 : decide (n < 1) = false := by simp; omega
  have hl0 : ((len : Int) == 0) = false := by rw [beq_eq_false_iff_ne]; omega
  have p0 : 0 ≤ (p : Int) / (len : Int) := Int.ediv_nonneg (by omega) (by omega)
  have p1 : (p : Int) / (len : Int) ≤ 1000000 := by
    have := Int.ediv_le_self (a := (p : Int)) (len : Int) (by omega)
    omega
  have q0 : 0 ≤ ((p : Int) * 7 + 3) % (len : Int) := Int.emod_nonneg _ (by omega)
  have q1 : ((p : Int) * 7 + 3) % (len : Int) < (len : Int) := Int.emod_lt_of_pos _ (by omega)
  have q2 : (((p : Int) * 7 + 3) % (len : Int)).toNat = (p * 7 + 3) % len := by
    have : ((p : Int) * 7 + 3) % (len : Int) = (((p * 7 + 3) % len : Nat) : Int) := by simp
    rw [this, Int.toNat_natCast]
  have HW := Lib.hid hw1; clear hw1 eb
  go_enter Try.func41, Try.ntmps41
  go_wp2_with fail
  rw [← HW.out]
  go_quiet (fail)
  obtain ⟨X, hX, hX2⟩ : ∃ X : Nat, (G : Int) * 131 + (H : Int) * 1117 + (p : Int) * 29 + (p : Int) / (len : Int) * 53 = (X : Int) ∧ X ≤ 1000000000 := by
    refine ⟨((G : Int) * 131 + (H : Int) * 1117 + (p : Int) * 29 + (p : Int) / (len : Int) * 53).toNat, ?_, ?_⟩ <;> omega
  rw [hX]
  clear hX
  obtain ⟨Y, hY⟩ := xor_nat X hX2
  have hY0 : 0 ≤ bits .xor .i64 (X : Int) ((X : Int) / 64) := by rw [hY]; omega
  have HY := Lib.hid hY; clear hY
  go_wp2_with fail
  go_ret
  obtain ⟨m1, m2⟩ := mod_lt Y n hn
  exact ⟨((Y : Int) % n).toNat, by rw [m2, ← HY.out]; rfl, by omega, ho.drewN _, hrd.below (below_drewN (Below.refl _ _) _)⟩

theorem pick_any (rb P : Nat) (n : Int) (hP : P ≤ 1000000) (w : World) (h : Rdr w rb P) :
    Calls Try.prog 41 #[.pointer (some ⟨rb, 0, none⟩), .int .i64 n] w (Picked rb P n w) := by
  by_cases hn : n < 1
  · exact pick_less rb P n hn hP w h
  · obtain ⟨hlt, hfr, a, len, cap, g, p, hlen, hp, hc0, hc1, hby⟩ := h
    rcases hby with rfl | ⟨b, o, rfl, hb, hby⟩
    · exact pick_empty rb P n (by omega) hP w hlt hfr a cap p hp hc0 hc1
    · by_cases hpl : p < len
      · exact pick_in rb P n (by omega) hP w hlt hfr b o len cap p g hp hlen hpl hc0 hc1 hb hby
      · by_cases h0 : len = 0
        · subst h0; exact pick_empty rb P n (by omega) hP w hlt hfr _ cap p hp hc0 hc1
        · exact pick_past rb P n (by omega) hP w hlt hfr b o len cap p g hp hlen (by omega) (by omega) hc0 hc1 hb hby
end Go.Proofs.Ythbancphegnpdaa
