import Derived.Test.YthaickihoagnmaaGreatDoorBaseA
import Derived.OpenShut
namespace Go.Proofs.YthaickihoagnmaaGreatDoor
open Go.RowKit

theorem Tryz.infoInt : (Tryz.prog.info? 3).map (fun i => (i.zero, i.size, i.bytes)) = some (some (.int .i64 0), 1, 8) := by kernel_rfl

/-- a slice of its own, in new memory -/
def Fresh (w w' : World) (e : Ending) (n : Nat) (f : Nat → Int) : Prop :=
  Below w.heap.size w w' ∧ e = .returned (.slice (some ⟨w.heap.size, 0, none⟩) n n) ∧ w.heap.size < w'.heap.size ∧ Row w' w.heap.size 0 n f

set_option maxHeartbeats 800000 in
theorem toIntS_row (bk off n cap : Nat) (f : Nat → Int) (hn : n ≤ 1048576) (w : World) (hr : Row w bk off n f) (hbk : bk < w.heap.size) :
    Calls Tryz.prog 90 #[.slice (some ⟨bk, off, none⟩) n cap] w fun e w' => Fresh w w' e n f := by
  have hmk := run_make_row' (P := Tryz.prog) 28 3 (.int .i64 0) 8 Tryz.underlying28 Tryz.infoInt rfl .i64 .i64 n (by omega) (by omega)
  have hmade := World.rowIs_made w (.int .i64 0) n 3
  have hbel : Below w.heap.size w (w.alloc (.cells (madeCells #[.int .i64 0] n) 3)) := (Below.refl _ _).alloc (Nat.le_refl _) _
  go_enter Tryz.func90, Tryz.ntmps90
  go_wp2_with fail
  go_loopw [4] (fun i wr => ∃ k : Nat, k ≤ n ∧ i = .int .i64 k ∧ wr.rowIs w.heap.size 3 n (fill f k) ∧ Below w.heap.size w wr) (fun i _ => n - (intOf i).toNat)
  case atStart => exact ⟨0, Nat.zero_le _, rfl, hmade, hbel⟩
  case round =>
    obtain ⟨k, hk, rfl, hrow, hb⟩ := hrel
    have hr' := hr.below hb hbk
    by_cases hlt : k < n
    · have hc := hr' k hlt
      have hold := hrow.cell hlt
      have hfr := hrow.frozen k
      go_wp2_with fail
      go_roundw
      case rel => exact ⟨k + 1, by omega, by go_num, fill_step hrow, hb.setCell (Nat.le_refl _) _⟩
      case measure => simp [intOf]; omega
    · have hown : Row wr w.heap.size 0 n f := row_of_is hrow (fun i hi => by unfold fill; rw [if_pos (by omega)])
      have hsz : w.heap.size < wr.heap.size := hrow.lt
      go_wp2_with fail
      go_ret
      exact ⟨hb, rfl, hsz, hown⟩

set_option maxHeartbeats 800000 in
theorem toIntS_nil (a : Option Addr) (cap : Nat) (f : Nat → Int) (w : World) :
    Calls Tryz.prog 90 #[.slice a 0 cap] w fun e w' => Fresh w w' e 0 f := by
  have hmk := run_make_row' (P := Tryz.prog) 28 3 (.int .i64 0) 8 Tryz.underlying28 Tryz.infoInt rfl .i64 .i64 0 (by omega) (by omega)
  simp only [Int.natCast_zero] at hmk
  have hbel : Below w.heap.size w (w.alloc (.cells (madeCells #[.int .i64 0] 0) 3)) := (Below.refl _ _).alloc (Nat.le_refl _) _
  go_enter Tryz.func90, Tryz.ntmps90
  go_wp2_with fail
  go_loopw [4] (fun i wr => i = .int .i64 0 ∧ Below w.heap.size w wr ∧ w.heap.size < wr.heap.size) (fun i _ => 0)
  case atStart => exact ⟨rfl, hbel, by show _ < (w.heap.push _).size; rw [Array.size_push]; omega⟩
  case round =>
    obtain ⟨rfl, hb, hsz⟩ := hrel
    go_wp2_with fail
    go_ret
    exact ⟨hb, rfl, hsz, fun i hi => absurd hi (Nat.not_lt_zero _)⟩

theorem toIntS_any (a : Option Addr) (n cap : Nat) (f : Nat → Int) (hn : n ≤ 1048576) (w : World) (hi : Ints w a n f) :
    Calls Tryz.prog 90 #[.slice a n cap] w fun e w' => Fresh w w' e n f := by
  obtain ⟨_, rfl | ⟨b, o, rfl, hlt, hr⟩⟩ := hi
  · exact toIntS_nil a cap f w
  · exact toIntS_row b o n cap f hn w hr hlt

theorem Fresh.ints {w w' : World} {e : Ending} {n : Nat} {f : Nat → Int} (h : Fresh w w' e n f) (h64 : n ≤ 9223372036854775807 ∧ ∀ i, i < n → I64 (f i)) : Ints w' (some ⟨w.heap.size, 0, none⟩) n f :=
  ⟨h64, .inr ⟨_, _, rfl, h.2.2.1, h.2.2.2⟩⟩

set_option maxHeartbeats 800000 in
theorem eqIntS_row (b1 o1 c1 b2 o2 c2 n : Nat) (f : Nat → Int) (hn : n ≤ 1048576) (w : World) (h1 : Row w b1 o1 n f) (h2 : Row w b2 o2 n f) :
    Calls Tryz.prog 92 #[.slice (some ⟨b1, o1, none⟩) n c1, .slice (some ⟨b2, o2, none⟩) n c2] w fun e w' => e = .returned (.bool true) ∧ Drew w w' := by
  have hne : ((n : Int) != (n : Int)) = false := by simp
  go_enter Tryz.func92, Tryz.ntmps92
  go_wp2_with fail
  go_loopw [5] (fun i wr => ∃ k : Nat, k ≤ n ∧ i = .int .i64 k ∧ Row wr b1 o1 n f ∧ Row wr b2 o2 n f ∧ Drew w wr) (fun i _ => n - (intOf i).toNat)
  case atStart => exact ⟨0, Nat.zero_le _, rfl, h1, h2, Drew.refl w⟩
  case round =>
    obtain ⟨k, hk, rfl, h1, h2, hd⟩ := hrel
    by_cases hlt : k < n
    · have hc1 := h1 k hlt
      have hc2 := h2 k hlt
      have hki : (k : Int) < (n : Int) := by omega
      have hne : (f k != f k) = false := by simp
      go_wp2_with fail
      go_quiet (fail)
      go_wp2_with fail
      go_roundw
      case rel => exact ⟨k + 1, by omega, by go_num, h1.drewN _, h2.drewN _, hd.more _⟩
      case measure => simp [intOf]; omega
    · go_wp2_with fail
      go_ret
      exact ⟨rfl, hd⟩
end Go.Proofs.YthaickihoagnmaaGreatDoor

namespace Go.Proofs.YthaickihoagnmaaGreatDoor
open Go.RowKit

set_option maxHeartbeats 800000 in
theorem eqIntS_nil (a1 a2 : Option Addr) (c1 c2 : Nat) (w : World) :
    Calls Tryz.prog 92 #[.slice a1 0 c1, .slice a2 0 c2] w fun e w' => e = .returned (.bool true) ∧ Drew w w' := by
  go_enter Tryz.func92, Tryz.ntmps92
  go_wp2_with fail
  go_loopw [5] (fun i wr => i = .int .i64 0 ∧ Drew w wr) (fun i _ => 0)
  case atStart => exact ⟨rfl, Drew.refl w⟩
  case round =>
    obtain ⟨rfl, hd⟩ := hrel
    go_wp2_with fail
    go_ret
    exact ⟨rfl, hd⟩

theorem eqIntS_any (a1 a2 : Option Addr) (c1 c2 n : Nat) (f : Nat → Int) (hn2 : n ≤ 1048576) (w : World) (h1 : Ints w a1 n f) (h2 : Ints w a2 n f) :
    Calls Tryz.prog 92 #[.slice a1 n c1, .slice a2 n c2] w fun e w' => e = .returned (.bool true) ∧ Drew w w' := by
  obtain ⟨_, rfl | ⟨b1, o1, rfl, hl1, hr1⟩⟩ := h1
  · exact eqIntS_nil a1 a2 c1 c2 w
  obtain ⟨_, rfl | ⟨b2, o2, rfl, hl2, hr2⟩⟩ := h2
  · exact eqIntS_nil _ a2 c1 c2 w
  exact eqIntS_row b1 o1 c1 b2 o2 c2 n f hn2 w hr1 hr2

def TrueEnd (w : World) (e : Ending) (w' : World) : Prop := e = .returned (.bool true) ∧ Below w.heap.size w w'

theorem below_onto {w a b : World} (h : Below w.heap.size w a) (k : Below a.heap.size a b) : Below w.heap.size w b := h.trans (k.mono h.size)

theorem Ints.drew {w w' : World} {n : Nat} {a : Option Addr} {f : Nat → Int} (h : Ints w a n f) (hd : Drew w w') : Ints w' a n f := h.below hd.below (Nat.le_refl _)
theorem Ints.next {w w' : World} {n : Nat} {a : Option Addr} {f : Nat → Int} (h : Ints w a n f) (hb : Below w.heap.size w w') : Ints w' a n f := h.below hb (Nat.le_refl _)

/-- what came in, as the shell of a proof says it -/
theorem ints_of {w : World} {a : Option Addr} {len cap : Nat} {zs : List Int} (h : (a = none ∧ len = 0 ∧ cap = 0 ∧ zs = []) ∨
    ∃ x, a = some x ∧ len ≤ cap ∧ cap ≤ maxLen ∧ zs.length = cap ∧ (∀ i, i < zs.length → w.cell? (x.add i) = some (.int .i64 (zs.getD i 0))) ∧ ∀ n ∈ zs, (Lit.int .i64 n).wf = true) :
    Ints w a len (fun i => zs.getD i 0) := by
  rcases h with ⟨rfl, rfl, rfl, rfl⟩ | ⟨x, rfl, hl, hm, hz, hc, hwf⟩
  · exact ⟨⟨by omega, fun i hi => absurd hi (Nat.not_lt_zero _)⟩, .inl rfl⟩
  · unfold maxLen at hm
    refine ⟨⟨by omega, fun i hi => ?_⟩, ?_⟩
    · have hm : zs.getD i 0 ∈ zs := by
        rw [List.getD_eq_getElem?_getD, List.getElem?_eq_getElem (by omega : i < zs.length)]
        exact List.getElem_mem _
      have := hwf _ hm
      unfold I64
      simp [Lit.wf, IntKind.min, IntKind.max, IntKind.bits, IntKind.signed] at this
      exact this
    · by_cases h0 : len = 0
      · exact .inl h0
      · right
        obtain ⟨b, o, rfl, hcell⟩ := ints_at hc (by omega)
        have h1 := hcell 0 (by omega)
        exact ⟨b, o, rfl, World.block_lt_of_cell? w _ h1, fun i hi => hcell i (by omega)⟩

end Go.Proofs.YthaickihoagnmaaGreatDoor

namespace Go.Proofs.YthaickihoagnmaaGreatDoor
open Go.RowKit

/-- it holds of each two things -/
def eachB (n : Nat) (g : Nat → Nat → Bool) : Bool := decide (∀ a, a < n → ∀ c, c < n → a ≠ c → g a c = true)

def EachEnd (n : Nat) (g : Nat → Nat → Bool) (J : World → Prop) (e : Ending) (w' : World) : Prop := e = .returned (.bool (eachB n g)) ∧ J w'

set_option maxHeartbeats 1600000 in
theorem each_any (K : Nat) (a : Option Addr) (n cap : Nat) (p1 : Value) (g : Nat → Nat → Bool) (J : World → Prop) (hn : n ≤ 7) (w : World) (hJ : J w)
    (hE : ∀ (args : Array Value) (w : World), Sem.run Tryz.prog (callFunc K args) w = .ok (.enter K args) w)
    (hF : Hid (∀ (wr : World) (a c : Nat), a < n → c < n → J wr → Calls Tryz.prog K #[.int .i64 a, .int .i64 c, p1] wr fun e w' => e = .returned (.bool (g a c)) ∧ J w')) :
    Calls Tryz.prog 208 #[.slice a n cap, .func (.func K) #[] #[p1]] w (fun e w' => EachEnd n g J e w') := by
  have HJ := Lib.hid hJ; clear hJ
  go_enter Tryz.func208, Tryz.ntmps208
  go_wp2_with fail
  go_loopw [9] (fun i wr => ∃ k : Nat, k ≤ n ∧ i = .int .i64 k ∧ Hid (∀ a, a < k → ∀ c, c < n → a ≠ c → g a c = true) ∧ Hid (J wr)) (fun i _ => n - (intOf i).toNat)
  case atStart => exact ⟨0, Nat.zero_le _, rfl, fun a ha => absurd ha (Nat.not_lt_zero _), HJ⟩
  case round =>
    clear HJ
    obtain ⟨k, hk, rfl, hall, hJ⟩ := hrel
    by_cases hlt : k < n
    · go_wp2_with fail
      go_loopw [14] (fun i wr => ∃ j : Nat, j ≤ n ∧ i = .int .i64 j ∧ Hid (∀ c, c < j → k ≠ c → g k c = true) ∧ Hid (J wr)) (fun i _ => n - (intOf i).toNat)
      case atStart => exact ⟨0, Nat.zero_le _, rfl, fun a ha => absurd ha (Nat.not_lt_zero _), hJ⟩
      case round =>
        clear hJ
        obtain ⟨j, hj, rfl, hin, hJ⟩ := hrel
        by_cases hjn : j < n
        · by_cases hkj : k = j
          · subst hkj
            have hne : ((k : Int) != (k : Int)) = false := by simp
            go_wp2_with fail
            go_roundw
            case rel => exact ⟨k + 1, by omega, by go_num, fun c hc hkc => hin c (by omega) hkc, hJ⟩
            case measure => simp [intOf]; omega
          · have hne : ((k : Int) != (j : Int)) = true := by rw [bne_iff_ne]; omega
            cases hg : g k j with
            | true =>
              have HG := Lib.hid hg; clear hg
              go_wp2_with fail
              refine (hF.out _ k j hlt hjn hJ.out).mono ?_
              rintro e w' ⟨rfl, hJ2⟩
              have HJ2 := Lib.hid hJ2; clear hJ2
              rw [HG.out]
              go_wp2_with fail
              go_roundw
              case rel => exact ⟨j + 1, by omega, by go_num, fun c hc hkc => by
                by_cases hcj : c = j
                · subst hcj; exact HG.out
                · exact hin c (by omega) hkc, HJ2⟩
              case measure => simp [intOf]; omega
            | false =>
              have hfin : eachB n g = false := decide_eq_false (fun h => by have := h k hlt j hjn hkj; rw [hg] at this; cases this)
              have HG := Lib.hid hg; have HF := Lib.hid hfin; clear hg hfin
              go_wp2_with fail
              refine (hF.out _ k j hlt hjn hJ.out).mono ?_
              rintro e w' ⟨rfl, hJ2⟩
              have HJ2 := Lib.hid hJ2; clear hJ2
              rw [HG.out]
              go_wp2_with fail
              go_ret
              exact ⟨retb HF.out.symm, HJ2.out⟩
        · go_wp2_with fail
          go_roundw
          case rel => exact ⟨k + 1, by omega, by go_num, fun a ha c hc hac => by
            by_cases hak : a = k
            · subst hak; exact hin c (by omega) hac
            · exact hall a (by omega) c hc hac, hJ⟩
          case measure => simp [intOf]; omega
    · have hfin : eachB n g = true := decide_eq_true (fun a ha c hc hac => hall a (by omega) c hc hac)
      have HF := Lib.hid hfin; clear hfin
      go_wp2_with fail
      go_ret
      exact ⟨retb HF.out.symm, hJ.out⟩
end Go.Proofs.YthaickihoagnmaaGreatDoor

namespace Go.Proofs.YthaickihoagnmaaGreatDoor
open Go.RowKit

set_option maxHeartbeats 1600000 in
theorem each2_any (K : Nat) (a : Option Addr) (n cap : Nat) (p1 p2 : Value) (g : Nat → Nat → Bool) (J : World → Prop) (hn : n ≤ 7) (w : World) (hJ : J w)
    (hE : ∀ (args : Array Value) (w : World), Sem.run Tryz.prog (callFunc K args) w = .ok (.enter K args) w)
    (hF : Hid (∀ (wr : World) (a c : Nat), a < n → c < n → J wr → Calls Tryz.prog K #[.int .i64 a, .int .i64 c, p1, p2] wr fun e w' => e = .returned (.bool (g a c)) ∧ J w')) :
    Calls Tryz.prog 208 #[.slice a n cap, .func (.func K) #[] #[p1, p2]] w (fun e w' => EachEnd n g J e w') := by
  have HJ := Lib.hid hJ; clear hJ
  go_enter Tryz.func208, Tryz.ntmps208
  go_wp2_with fail
  go_loopw [9] (fun i wr => ∃ k : Nat, k ≤ n ∧ i = .int .i64 k ∧ Hid (∀ a, a < k → ∀ c, c < n → a ≠ c → g a c = true) ∧ Hid (J wr)) (fun i _ => n - (intOf i).toNat)
  case atStart => exact ⟨0, Nat.zero_le _, rfl, fun a ha => absurd ha (Nat.not_lt_zero _), HJ⟩
  case round =>
    clear HJ
    obtain ⟨k, hk, rfl, hall, hJ⟩ := hrel
    by_cases hlt : k < n
    · go_wp2_with fail
      go_loopw [14] (fun i wr => ∃ j : Nat, j ≤ n ∧ i = .int .i64 j ∧ Hid (∀ c, c < j → k ≠ c → g k c = true) ∧ Hid (J wr)) (fun i _ => n - (intOf i).toNat)
      case atStart => exact ⟨0, Nat.zero_le _, rfl, fun a ha => absurd ha (Nat.not_lt_zero _), hJ⟩
      case round =>
        clear hJ
        obtain ⟨j, hj, rfl, hin, hJ⟩ := hrel
        by_cases hjn : j < n
        · by_cases hkj : k = j
          · subst hkj
            have hne : ((k : Int) != (k : Int)) = false := by simp
            go_wp2_with fail
            go_roundw
            case rel => exact ⟨k + 1, by omega, by go_num, fun c hc hkc => hin c (by omega) hkc, hJ⟩
            case measure => simp [intOf]; omega
          · have hne : ((k : Int) != (j : Int)) = true := by rw [bne_iff_ne]; omega
            cases hg : g k j with
            | true =>
              have HG := Lib.hid hg; clear hg
              go_wp2_with fail
              refine (hF.out _ k j hlt hjn hJ.out).mono ?_
              rintro e w' ⟨rfl, hJ2⟩
              have HJ2 := Lib.hid hJ2; clear hJ2
              rw [HG.out]
              go_wp2_with fail
              go_roundw
              case rel => exact ⟨j + 1, by omega, by go_num, fun c hc hkc => by
                by_cases hcj : c = j
                · subst hcj; exact HG.out
                · exact hin c (by omega) hkc, HJ2⟩
              case measure => simp [intOf]; omega
            | false =>
              have hfin : eachB n g = false := decide_eq_false (fun h => by have := h k hlt j hjn hkj; rw [hg] at this; cases this)
              have HG := Lib.hid hg; have HF := Lib.hid hfin; clear hg hfin
              go_wp2_with fail
              refine (hF.out _ k j hlt hjn hJ.out).mono ?_
              rintro e w' ⟨rfl, hJ2⟩
              have HJ2 := Lib.hid hJ2; clear hJ2
              rw [HG.out]
              go_wp2_with fail
              go_ret
              exact ⟨retb HF.out.symm, HJ2.out⟩
        · go_wp2_with fail
          go_roundw
          case rel => exact ⟨k + 1, by omega, by go_num, fun a ha c hc hac => by
            by_cases hak : a = k
            · subst hak; exact hin c (by omega) hac
            · exact hall a (by omega) c hc hac, hJ⟩
          case measure => simp [intOf]; omega
    · have hfin : eachB n g = true := decide_eq_true (fun a ha c hc hac => hall a (by omega) c hc hac)
      have HF := Lib.hid hfin; clear hfin
      go_wp2_with fail
      go_ret
      exact ⟨retb HF.out.symm, hJ.out⟩
end Go.Proofs.YthaickihoagnmaaGreatDoor

namespace Go.Proofs.YthaickihoagnmaaGreatDoor
open Go.RowKit

/-- behind a step the world is as it was, but for the block rb, and for new blocks -/
structure Only (rb : Nat) (w w' : World) : Prop where
  os : w'.os = w.os
  tape : w'.tape = w.tape
  output : w'.output = w.output
  size : w.heap.size ≤ w'.heap.size
  block : ∀ k, k < w.heap.size → k ≠ rb → w'.heap[k]? = w.heap[k]?

theorem Only.refl (rb : Nat) (w : World) : Only rb w w := ⟨rfl, rfl, rfl, Nat.le_refl _, fun _ _ _ => rfl⟩
theorem Only.trans {rb : Nat} {a b c : World} (h : Only rb a b) (k : Only rb b c) : Only rb a c :=
  ⟨k.os.trans h.os, k.tape.trans h.tape, k.output.trans h.output, Nat.le_trans h.size k.size, fun i hi hn => (k.block i (Nat.lt_of_lt_of_le hi h.size) hn).trans (h.block i hi hn)⟩
theorem Only.of_below {rb : Nat} {w w' : World} (h : Below w.heap.size w w') : Only rb w w' := ⟨h.os, h.tape, h.output, h.size, fun k hk _ => h.block k hk⟩
theorem Only.below {rb : Nat} {w w' : World} (h : Only rb w w') {B : Nat} (hB : B ≤ rb) (hs : B ≤ w.heap.size) : Below B w w' := ⟨h.os, h.tape, h.output, h.size, fun k hk => h.block k (by omega) (by omega)⟩
theorem Only.setCell {rb : Nat} {w w' : World} (h : Only rb w w') (i : Nat) (v : Value) : Only rb w (w'.setCell ⟨rb, i, none⟩ v) :=
  ⟨h.os, h.tape, h.output, by simp [World.setCell]; exact h.size, fun k hk hn => (Below.heap_setCell w' ⟨rb, i, none⟩ v k hn).trans (h.block k hk hn)⟩
theorem Only.drewN {rb : Nat} {w w' : World} (h : Only rb w w') (n : Nat) : Only rb w (w'.drewN n) :=
  ⟨h.os, h.tape, h.output, h.size, h.block⟩

theorem Row.only {w w' : World} {rb b o n : Nat} {f : Nat → Int} (h : Row w b o n f) (hb : Only rb w w') (hlt : b < w.heap.size) (hne : b ≠ rb) : Row w' b o n f :=
  fun i hi => (World.cell?_of_block (w := w) (hb.block b hlt hne)).trans (h i hi)

/-- n bytes lie in a row -/
def Bytes (w : World) (b o n : Nat) (g : Nat → Int) : Prop := ∀ i, i < n → w.cell? ⟨b, o + i, none⟩ = some (.int .u8 (g i)) ∧ 0 ≤ g i ∧ g i ≤ 255

/-- a reader in the block rb: its bytes, and that it has read at most P of them -/
def Rdr (w : World) (rb P : Nat) : Prop :=
  rb < w.heap.size ∧ w.frozen? ⟨rb, 1, none⟩ = false ∧ ∃ (a : Option Addr) (len cap : Nat) (g : Nat → Int) (p : Nat), len ≤ 2000 ∧ p ≤ P ∧
    w.cell? ⟨rb, 0, none⟩ = some (.slice a len cap) ∧ w.cell? ⟨rb, 1, none⟩ = some (.int .i64 p) ∧
    (len = 0 ∨ ∃ b o, a = some ⟨b, o, none⟩ ∧ b < rb ∧ Bytes w b o len g)

theorem Rdr.mono {w : World} {rb P Q : Nat} (h : Rdr w rb P) (hPQ : P ≤ Q) : Rdr w rb Q := by
  obtain ⟨h1, h2, a, len, cap, g, p, h3, h4, h5⟩ := h
  exact ⟨h1, h2, a, len, cap, g, p, h3, Nat.le_trans h4 hPQ, h5⟩

/-- whatever leaves the reader's block, and the blocks before it, alone, leaves the reader -/
theorem Rdr.belowB {w w' : World} {rb P B : Nat} (h : Rdr w rb P) (hb : Below B w w') (hB : rb < B) : Rdr w' rb P := by
  obtain ⟨h1, h2, a, len, cap, g, p, h3, h4, h5, h6, h7⟩ := h
  refine ⟨Nat.lt_of_lt_of_le h1 hb.size, (hb.frozen (p := ⟨rb, 1, none⟩) hB).trans h2, a, len, cap, g, p, h3, h4, (hb.cell (p := ⟨rb, 0, none⟩) hB).trans h5, (hb.cell (p := ⟨rb, 1, none⟩) hB).trans h6, ?_⟩
  rcases h7 with h7 | ⟨b, o, ha, hlt, hby⟩
  · exact .inl h7
  · exact .inr ⟨b, o, ha, hlt, fun i hi => ⟨(hb.cell (p := ⟨b, o + i, none⟩) (Nat.lt_trans hlt hB)).trans (hby i hi).1, (hby i hi).2⟩⟩

theorem Rdr.below {w w' : World} {rb P : Nat} (h : Rdr w rb P) (hb : Below w.heap.size w w') : Rdr w' rb P := h.belowB hb h.1

theorem Only.below_then {rb : Nat} {w w1 w2 : World} (h : Only rb w w1) (k : Below w.heap.size w1 w2) : Only rb w w2 :=
  ⟨k.os.trans h.os, k.tape.trans h.tape, k.output.trans h.output, Nat.le_trans h.size k.size, fun i hi hn => (k.block i hi).trans (h.block i hi hn)⟩

/-- what a draw gives: a number below n, 0 where there is none; the reader has read one byte more -/
def Picked (rb P : Nat) (n : Int) (w : World) (e : Ending) (w' : World) : Prop :=
  ∃ x : Nat, e = .returned (.int .i64 x) ∧ (x : Int) < max n 1 ∧ Only rb w w' ∧ Rdr w' rb (P + 1)

/-- the reader has read one byte more -/
theorem Rdr.step {w : World} {rb P : Nat} {a : Option Addr} {len cap p : Nat} {g : Nat → Int} (hlt : rb < w.heap.size) (hfr : w.frozen? ⟨rb, 1, none⟩ = false) (hlen : len ≤ 2000) (hp : p ≤ P)
    (hc0 : w.cell? ⟨rb, 0, none⟩ = some (.slice a len cap)) (hc1 : w.cell? ⟨rb, 1, none⟩ = some (.int .i64 p)) (hby : len = 0 ∨ ∃ b o, a = some ⟨b, o, none⟩ ∧ b < rb ∧ Bytes w b o len g) :
    ∃ w1, w1 = w.setCell ⟨rb, 1, none⟩ (.int .i64 ((p : Int) + 1)) ∧ w1.cell? ⟨rb, 0, none⟩ = some (.slice a len cap) ∧ w1.cell? ⟨rb, 1, none⟩ = some (.int .i64 ((p : Int) + 1)) ∧
      (len = 0 ∨ ∃ b o, a = some ⟨b, o, none⟩ ∧ b < rb ∧ Bytes w1 b o len g) ∧ Only rb w w1 ∧ Rdr w1 rb (P + 1) := by
  refine ⟨_, rfl, ?_⟩
  have honly := (Only.refl rb w).setCell 1 (.int .i64 ((p : Int) + 1))
  have h0 : (w.setCell ⟨rb, 1, none⟩ (.int .i64 ((p : Int) + 1))).cell? ⟨rb, 0, none⟩ = some (.slice a len cap) := by
    rw [World.cell?_setCell_other _ _ _ _ (by simp)]; exact hc0
  have h1 : (w.setCell ⟨rb, 1, none⟩ (.int .i64 ((p : Int) + 1))).cell? ⟨rb, 1, none⟩ = some (.int .i64 ((p : Int) + 1)) := by
    go_simp
  have hb2 : len = 0 ∨ ∃ b o, a = some ⟨b, o, none⟩ ∧ b < rb ∧ Bytes (w.setCell ⟨rb, 1, none⟩ (.int .i64 ((p : Int) + 1))) b o len g := by
    rcases hby with h | ⟨b, o, ha, hb, hby⟩
    · exact .inl h
    · exact .inr ⟨b, o, ha, hb, fun i hi => ⟨(World.cell?_of_block (w := w) (honly.block b (Nat.lt_trans hb hlt) (Nat.ne_of_lt hb))).trans (hby i hi).1, (hby i hi).2⟩⟩
  have hfr2 : (w.setCell ⟨rb, 1, none⟩ (.int .i64 ((p : Int) + 1))).frozen? ⟨rb, 1, none⟩ = false := by
    rw [← hfr]; go_simp
  refine ⟨h0, h1, hb2, honly, Nat.lt_of_lt_of_le hlt honly.size, hfr2, a, len, cap, g, p + 1, hlen, by omega, h0, ?_, hb2⟩
  rw [h1]; rfl

theorem mod_lt (x : Nat) (n : Int) (hn : 1 ≤ n) : ((x : Int) % n).toNat < n ∧ ((((x : Int) % n).toNat : Nat) : Int) = (x : Int) % n := by
  have h1 := Int.emod_nonneg (x : Int) (by omega : n ≠ 0)
  have h2 := Int.emod_lt_of_pos (x : Int) (by omega : 0 < n)
  omega

set_option maxHeartbeats 1600000 in
theorem pick_less (rb P : Nat) (n : Int) (hn : n < 1) (hP : P ≤ 1000000) (w : World) (h : Rdr w rb P) :
    Calls Tryz.prog 42 #[.pointer (some ⟨rb, 0, none⟩), .int .i64 n] w (Picked rb P n w) := by
  obtain ⟨hlt, hfr, a, len, cap, g, p, hlen, hp, hc0, hc1, hby⟩ := h
  obtain ⟨w1, hw1, e0, e1, eb, ho, hrd⟩ := Rdr.step hlt hfr hlen hp hc0 hc1 hby
  have hd1 : decide (n < 1) = true := by simp; omega
  have HB := Lib.hid hby; clear hby
  have HW := Lib.hid hw1; clear hw1
  go_enter Tryz.func42, Tryz.ntmps42
  go_wp2_with fail
  go_ret
  rw [← HW.out]
  exact ⟨0, rfl, by omega, ho, hrd⟩

set_option maxHeartbeats 1600000 in
theorem pick_empty (rb P : Nat) (n : Int) (hn : 1 ≤ n) (hP : P ≤ 1000000) (w : World) (hlt : rb < w.heap.size) (hfr : w.frozen? ⟨rb, 1, none⟩ = false) (a : Option Addr) (cap p : Nat) (hp : p ≤ P)
    (hc0 : w.cell? ⟨rb, 0, none⟩ = some (.slice a 0 cap)) (hc1 : w.cell? ⟨rb, 1, none⟩ = some (.int .i64 p)) :
    Calls Tryz.prog 42 #[.pointer (some ⟨rb, 0, none⟩), .int .i64 n] w (Picked rb P n w) := by
  obtain ⟨w1, hw1, e0, e1, eb, ho, hrd⟩ := Rdr.step (g := fun _ => 0) hlt hfr (Nat.zero_le _) hp hc0 hc1 (.inl rfl)
  have hd1 : decide (n < 1) = false := by simp; omega
  have HW := Lib.hid hw1; clear hw1
  go_enter Tryz.func42, Tryz.ntmps42
  go_wp2_with fail
  go_ret
  rw [← HW.out]
  exact ⟨0, rfl, by omega, ho, hrd⟩

set_option maxHeartbeats 1600000 in
theorem pick_in (rb P : Nat) (n : Int) (hn : 1 ≤ n) (hP : P ≤ 1000000) (w : World) (hlt : rb < w.heap.size) (hfr : w.frozen? ⟨rb, 1, none⟩ = false) (b o len cap p : Nat) (g : Nat → Int) (hp : p ≤ P) (hlen : len ≤ 2000) (hpl : p < len)
    (hc0 : w.cell? ⟨rb, 0, none⟩ = some (.slice (some ⟨b, o, none⟩) len cap)) (hc1 : w.cell? ⟨rb, 1, none⟩ = some (.int .i64 p)) (hb : b < rb) (hby : Bytes w b o len g) :
    Calls Tryz.prog 42 #[.pointer (some ⟨rb, 0, none⟩), .int .i64 n] w (Picked rb P n w) := by
  obtain ⟨w1, hw1, e0, e1, eb, ho, hrd⟩ := Rdr.step hlt hfr hlen hp hc0 hc1 (.inr ⟨b, o, rfl, hb, hby⟩)
  have hg := (World.cell?_of_block (w := w) (ho.block b (Nat.lt_trans hb hlt) (Nat.ne_of_lt hb))).trans (hby p hpl).1
  obtain ⟨_, hg0, hg1⟩ := hby p hpl
  obtain ⟨G, hG⟩ := Int.eq_ofNat_of_zero_le hg0
  rw [hG] at hg hg0 hg1
  clear hG hg0
  have hd1 : decide (n < 1) = false := by simp; omega
  have hl0 : ((len : Int) == 0) = false := by rw [beq_eq_false_iff_ne]; omega
  rw [hw1] at hg
  have HW := Lib.hid hw1; clear hw1 e0 e1 eb
  go_enter Tryz.func42, Tryz.ntmps42
  go_wp2_with fail
  go_ret
  rw [← HW.out]
  obtain ⟨m1, m2⟩ := mod_lt G n hn
  exact ⟨((G : Int) % n).toNat, by rw [m2]; rfl, by omega, ho, hrd⟩

theorem xor_nat (X : Nat) (h : X ≤ 1000000000) : ∃ Y : Nat, bits .xor .i64 (X : Int) ((X : Int) / 64) = (Y : Int) := by
  refine ⟨X ^^^ (X / 64), ?_⟩
  have e : ((X : Int) / 64) = ((X / 64 : Nat) : Int) := by omega
  rw [e]
  show IntKind.i64.wrap ((BitVec.ofInt 64 (X : Int) ^^^ BitVec.ofInt 64 ((X / 64 : Nat) : Int)).toNat : Int) = _
  rw [BitVec.toNat_xor, BitVec.toNat_ofInt, BitVec.toNat_ofInt]
  have e1 : (((X : Int)) % ((2 ^ 64 : Nat) : Int)).toNat = X := by omega
  have e2 : ((((X / 64 : Nat) : Int)) % ((2 ^ 64 : Nat) : Int)).toNat = X / 64 := by omega
  rw [e1, e2]
  have hlt : X ^^^ (X / 64) < 2 ^ 30 := Nat.xor_lt_two_pow (by omega) (by omega)
  exact wrap_in _ (by unfold I64; omega)

set_option maxHeartbeats 4000000 in
theorem pick_past (rb P : Nat) (n : Int) (hn : 1 ≤ n) (hP : P ≤ 1000000) (w : World) (hlt : rb < w.heap.size) (hfr : w.frozen? ⟨rb, 1, none⟩ = false) (b o len cap p : Nat) (g : Nat → Int) (hp : p ≤ P) (hlen : len ≤ 2000) (hl1 : 1 ≤ len) (hpl : len ≤ p)
    (hc0 : w.cell? ⟨rb, 0, none⟩ = some (.slice (some ⟨b, o, none⟩) len cap)) (hc1 : w.cell? ⟨rb, 1, none⟩ = some (.int .i64 p)) (hb : b < rb) (hby : Bytes w b o len g) :
    Calls Tryz.prog 42 #[.pointer (some ⟨rb, 0, none⟩), .int .i64 n] w (Picked rb P n w) := by
  obtain ⟨w1, hw1, e0, e1, eb, ho, hrd⟩ := Rdr.step hlt hfr hlen hp hc0 hc1 (.inr ⟨b, o, rfl, hb, hby⟩)
  have k1 : p % len < len := Nat.mod_lt _ (by omega)
  have k2 : (p * 7 + 3) % len < len := Nat.mod_lt _ (by omega)
  have hg := (World.cell?_of_block (w := w) (ho.block b (Nat.lt_trans hb hlt) (Nat.ne_of_lt hb))).trans (hby _ k1).1
  have hh := (World.cell?_of_block (w := w) (ho.block b (Nat.lt_trans hb hlt) (Nat.ne_of_lt hb))).trans (hby _ k2).1
  obtain ⟨_, hg0, hg1⟩ := hby _ k1
  obtain ⟨_, hh0, hh1⟩ := hby _ k2
  obtain ⟨G, hG⟩ := Int.eq_ofNat_of_zero_le hg0
  obtain ⟨H, hH⟩ := Int.eq_ofNat_of_zero_le hh0
  rw [hG] at hg hg0 hg1
  rw [hH] at hh hh0 hh1
  clear hG hg0 hH hh0
  have hd1 : decide (n < 1) = false := by simp; omega
  have hl0 : ((len : Int) == 0) = false := by rw [beq_eq_false_iff_ne]; omega
  have p0 : 0 ≤ (p : Int) / (len : Int) := Int.ediv_nonneg (by omega) (by omega)
  have p1 : (p : Int) / (len : Int) ≤ 1000000 := by
    have := Int.ediv_le_self (a := (p : Int)) (len : Int) (by omega)
    omega
  have q0 : 0 ≤ ((p : Int) * 7 + 3) % (len : Int) := Int.emod_nonneg _ (by omega)
  have q1 : ((p : Int) * 7 + 3) % (len : Int) < (len : Int) := Int.emod_lt_of_pos _ (by omega)
  have q2 : (((p : Int) * 7 + 3) % (len : Int)).toNat = (p * 7 + 3) % len := by
    have : ((p : Int) * 7 + 3) % (len : Int) = (((p * 7 + 3) % len : Nat) : Int) := by simp
    rw [this, Int.toNat_natCast]
  have HW := Lib.hid hw1; clear hw1 eb
  go_enter Tryz.func42, Tryz.ntmps42
  go_wp2_with fail
  rw [← HW.out]
  go_quiet (fail)
  obtain ⟨X, hX, hX2⟩ : ∃ X : Nat, (G : Int) * 131 + (H : Int) * 1117 + (p : Int) * 29 + (p : Int) / (len : Int) * 53 = (X : Int) ∧ X ≤ 1000000000 := by
    refine ⟨((G : Int) * 131 + (H : Int) * 1117 + (p : Int) * 29 + (p : Int) / (len : Int) * 53).toNat, ?_, ?_⟩ <;> omega
  rw [hX]
  clear hX
  obtain ⟨Y, hY⟩ := xor_nat X hX2
  have hY0 : 0 ≤ bits .xor .i64 (X : Int) ((X : Int) / 64) := by rw [hY]; omega
  have HY := Lib.hid hY; clear hY
  go_wp2_with fail
  go_ret
  obtain ⟨m1, m2⟩ := mod_lt Y n hn
  exact ⟨((Y : Int) % n).toNat, by rw [m2, ← HY.out]; rfl, by omega, ho.drewN _, hrd.below (below_drewN (Below.refl _ _) _)⟩

theorem pick_any (rb P : Nat) (n : Int) (hP : P ≤ 1000000) (w : World) (h : Rdr w rb P) :
    Calls Tryz.prog 42 #[.pointer (some ⟨rb, 0, none⟩), .int .i64 n] w (Picked rb P n w) := by
  by_cases hn : n < 1
  · exact pick_less rb P n hn hP w h
  · obtain ⟨hlt, hfr, a, len, cap, g, p, hlen, hp, hc0, hc1, hby⟩ := h
    rcases hby with rfl | ⟨b, o, rfl, hb, hby⟩
    · exact pick_empty rb P n (by omega) hP w hlt hfr a cap p hp hc0 hc1
    · by_cases hpl : p < len
      · exact pick_in rb P n (by omega) hP w hlt hfr b o len cap p g hp hlen hpl hc0 hc1 hb hby
      · by_cases h0 : len = 0
        · subst h0; exact pick_empty rb P n (by omega) hP w hlt hfr _ cap p hp hc0 hc1
        · exact pick_past rb P n (by omega) hP w hlt hfr b o len cap p g hp hlen (by omega) (by omega) hc0 hc1 hb hby
end Go.Proofs.YthaickihoagnmaaGreatDoor
