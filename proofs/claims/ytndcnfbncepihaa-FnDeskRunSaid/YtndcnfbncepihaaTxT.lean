import Derived.Test.YtndcnfbncepihaaTxOne
import Derived.Test.YtndcnfbncepihaaLawC
import Derived.Deep.RegionHeld3
namespace Go.Proofs.Ytndcnfbncepihaa
set_option linter.unusedVariables false
set_option linter.unusedSimpArgs false
open Go.RowKit Go.Maps

/-- n pairs lie in a row from a cell on -/
def RowQ (w : World) (b o n : Nat) (P Q : Nat → Int) : Prop := ∀ i, i < n → w.cell? ⟨b, o + i * 2, none⟩ = some (.int .i64 (P i)) ∧ w.cell? ⟨b, o + i * 2 + 1, none⟩ = some (.int .i64 (Q i))
theorem RowQ.below {w w' : World} {b o n B : Nat} {P Q : Nat → Int} (h : RowQ w b o n P Q) (hb : Below B w w') (hB : b < B) : RowQ w' b o n P Q := fun i hi =>
  ⟨(hb.cell (p := ⟨b, o + i * 2, none⟩) hB).trans (h i hi).1, (hb.cell (p := ⟨b, o + i * 2 + 1, none⟩) hB).trans (h i hi).2⟩
theorem RowQ.same {w w' : World} {b o n : Nat} {P Q : Nat → Int} (h : RowQ w b o n P Q) (hb : w'.heap[b]? = w.heap[b]?) : RowQ w' b o n P Q := fun i hi =>
  ⟨(World.cell?_of_block hb).trans (h i hi).1, (World.cell?_of_block hb).trans (h i hi).2⟩
/-- a slice of pairs: nil or empty, or in a row -/
def Prq (w : World) (a : Option Addr) (n : Nat) (P Q : Nat → Int) : Prop :=
  (n ≤ 9223372036854775807 ∧ ∀ i, i < n → I64 (P i) ∧ I64 (Q i)) ∧ (n = 0 ∨ ∃ b o, a = some ⟨b, o, none⟩ ∧ b < w.heap.size ∧ RowQ w b o n P Q)
theorem Prq.below {w w' : World} {B n : Nat} {a : Option Addr} {P Q : Nat → Int} (h : Prq w a n P Q) (hb : Below B w w') (hB : w.heap.size ≤ B) : Prq w' a n P Q := by
  obtain ⟨hm, h | ⟨b, o, rfl, hlt, hr⟩⟩ := h
  · exact ⟨hm, .inl h⟩
  · exact ⟨hm, .inr ⟨b, o, rfl, Nat.lt_of_lt_of_le hlt hb.size, hr.below hb (Nat.lt_of_lt_of_le hlt hB)⟩⟩
theorem Prq.next {w w' : World} {n : Nat} {a : Option Addr} {P Q : Nat → Int} (h : Prq w a n P Q) (hb : Below w.heap.size w w') : Prq w' a n P Q := h.below hb (Nat.le_refl _)
theorem Prq.row {w : World} {n : Nat} {a : Option Addr} {P Q : Nat → Int} (h : Prq w a n P Q) (h1 : 1 ≤ n) : ∃ b o, a = some ⟨b, o, none⟩ ∧ b < w.heap.size ∧ RowQ w b o n P Q := by
  obtain ⟨_, h | h⟩ := h
  · omega
  · exact h

theorem results_deed1 {fn : Func} {p : Tmp} (h : fn.results = #[.cell p 38]) (tmps : Array Value) (w : World) (B : Nat) {x y : Value} (hB : Blk2 w B 38 x y) (hp : tmps.getD p undef = .pointer (some ⟨B, 0, none⟩))
    (hi : (Try.prog.info? 38).map (·.size) = some 2) : (results fn tmps).run Try.prog w = .ok (.agg #[x, y]) w :=
  results_cell_row h tmps w B 38 #[x, y] (0, 0) _ hp hB Try.underlying38 rfl hi

theorem toDeed_any (p q : Int) (w : World) :
    Calls Try.prog 38 #[.agg #[.int .i64 p, .int .i64 q]] w fun e w' => e = .returned (.agg #[.int .i64 p, .int .i64 q]) ∧ Below w.heap.size w w' := by
  have q1 := alloc_below w (.cells #[.int .i64 p, .int .i64 q] 54)
  have q2 := alloc_below (w.alloc (.cells #[.int .i64 p, .int .i64 q] 54)) (.cells #[.int .i64 p, .int .i64 q] 38)
  have q3 := alloc_below ((w.alloc (.cells #[.int .i64 p, .int .i64 q] 54)).alloc (.cells #[.int .i64 p, .int .i64 q] 38)) (.cells #[.int .i64 p, .int .i64 q] 38)
  have b2 := Blk2.new (w.alloc (.cells #[.int .i64 p, .int .i64 q] 54)) 38 (.int .i64 p) (.int .i64 q)
  rw [alloc_size] at b2
  have HQ := Lib.hid (below_onto q1 (below_onto q2 q3))
  have HB := Lib.hid (b2.kept q3 (by rw [alloc_size, alloc_size]; omega))
  clear q1 q2 q3 b2
  go_enter Try.func38, Try.ntmps38
  go_wp2_with fail
  refine bodyPost_ret (results_deed1 rfl _ _ (w.heap.size + 1) HB.out rfl (by kernel_rfl)) rfl ?_
  exact ⟨rfl, HQ.out⟩

/-- a block of n pairs -/
def prQ (P Q : Nat → Int) (j : Nat) : Int := if j % 2 = 0 then P (j / 2) else Q (j / 2)
theorem prQ_0 (P Q : Nat → Int) (i : Nat) : prQ P Q (i * 2) = P i := by unfold prQ; rw [if_pos (by omega)]; congr 1; omega
theorem prQ_1 (P Q : Nat → Int) (i : Nat) : prQ P Q (i * 2 + 1) = Q i := by unfold prQ; rw [if_neg (by omega)]; congr 1; omega
theorem Rw.pairq {w : World} {g n cap : Nat} {t : TypeId} {P Q : Nat → Int} (h : Rw w g t cap (n * 2) (prQ P Q)) : RowQ w g 0 n P Q := fun i hi =>
  ⟨by rw [Nat.zero_add, h.cell (i * 2) (by omega), prQ_0], by rw [Nat.zero_add, h.cell (i * 2 + 1) (by omega), prQ_1]⟩
theorem Rw.ltq {w : World} {g : Nat} {t : TypeId} {cap n : Nat} {h : Nat → Int} (hr : Rw w g t cap n h) : g < w.heap.size := by
  obtain ⟨cur, h1, _⟩ := hr
  exact (Array.getElem?_eq_some_iff.1 h1).1
theorem Rw.atq {w w' : World} {g : Nat} {t : TypeId} {cap n : Nat} {h : Nat → Int} (hr : Rw w g t cap n h) (hb : w'.heap[g]? = w.heap[g]?) : Rw w' g t cap n h := by
  obtain ⟨cur, h1, h2, h3⟩ := hr
  exact ⟨cur, hb.trans h1, h2, h3⟩
theorem Try.infoDeedZ : (Try.prog.info? 38).map (fun i => (i.zero, i.size, i.bytes)) = some (some (.agg #[.int .i64 0, .int .i64 0]), 2, 16) := by kernel_rfl
theorem made_pairq (n : Nat) (j : Nat) (hj : j < n * 2) : (madeCells #[.int .i64 0, .int .i64 0] (n * 2))[j]? = some (.int .i64 0) := by
  unfold madeCells
  rw [Array.getElem?_map, Array.getElem?_range]
  rw [if_pos hj]
  have : j % 2 = 0 ∨ j % 2 = 1 := by omega
  rcases this with e | e
  · show some ((#[Value.int .i64 0, .int .i64 0] : Array Value)[j % 2]!) = _
    rw [e]; rfl
  · show some ((#[Value.int .i64 0, .int .i64 0] : Array Value)[j % 2]!) = _
    rw [e]; rfl
theorem run_made_pairq (n : Nat) (hn : n ≤ 1048576) (w : World) : (Instr.makeSlice 43 (.int .i64 (n : Int)) (.int .i64 (n : Int))).run Try.prog w =
    .ok (.slice (some ⟨w.heap.size, 0, none⟩) n n) (w.alloc (.cells (madeCells #[.int .i64 0, .int .i64 0] (n * 2)) 38)) := by
  obtain ⟨i, hi, hzz⟩ := Option.map_eq_some_iff.1 Try.infoDeedZ
  simp only [Prod.mk.injEq] at hzz
  obtain ⟨hz, hs, hb⟩ := hzz
  have hr := run_make (P := Try.prog) w 43 38 i _ Try.underlying43 hi hz .i64 .i64 n n (by omega) (Int.le_refl _) (by rw [hb]; omega) (by omega)
  rw [hs, Int.toNat_natCast] at hr
  exact hr

/-- a copy of pairs is made -/
def CopiedQ (n : Nat) (P Q : Nat → Int) (w : World) (e : Ending) (w' : World) : Prop :=
  e = .returned (.slice (some ⟨w.heap.size, 0, none⟩) n n) ∧ Below w.heap.size w w' ∧ Rw w' w.heap.size 38 (n * 2) (n * 2) (prQ P Q)
theorem CopiedQ.prs {n : Nat} {P Q : Nat → Int} {w w' : World} (h : Rw w' w.heap.size 38 (n * 2) (n * 2) (prQ P Q)) (h64 : n ≤ 9223372036854775807 ∧ ∀ i, i < n → I64 (P i) ∧ I64 (Q i)) : Prq w' (some ⟨w.heap.size, 0, none⟩) n P Q :=
  ⟨h64, .inr ⟨w.heap.size, 0, rfl, h.ltq, h.pairq⟩⟩

set_option maxRecDepth 100000 in
set_option maxHeartbeats 3200000 in
theorem toDeedS_any (a : Option Addr) (n cap : Nat) (P Q : Nat → Int) (hn : n ≤ 1048576) (w : World) (hp : Prq w a n P Q) :
    Calls Try.prog 40 #[.slice a n cap] w (CopiedQ n P Q w) := by
  have HP := Lib.hid hp; clear hp
  have hmk := run_made_pairq n hn
  have hmade : Rw (w.alloc (.cells (madeCells #[.int .i64 0, .int .i64 0] (n * 2)) 38)) w.heap.size 38 (n * 2) (n * 2) (fun j => if j < 0 * 2 then prQ P Q j else 0) :=
    ⟨_, heap_alloc_new w _, size_madeCells _ _, fun i hi => by
      show _ = some (Value.int .i64 (if i < 0 * 2 then prQ P Q i else 0))
      rw [if_neg (by omega)]; exact made_pairq n i hi⟩
  have hbel : Below w.heap.size w (w.alloc (.cells (madeCells #[.int .i64 0, .int .i64 0] (n * 2)) 38)) := alloc_below w _
  go_enter Try.func40, Try.ntmps40
  go_wp2_with fail
  go_loopw [4] (fun i wr => ∃ k : Nat, k ≤ n ∧ i = .int .i64 k ∧ Hid (Rw wr w.heap.size 38 (n * 2) (n * 2) (fun j => if j < k * 2 then prQ P Q j else 0)) ∧ Hid (Below w.heap.size w wr)) (fun i _ => n - (intOf i).toNat)
  case atStart => exact ⟨0, Nat.zero_le _, rfl, Lib.hid hmade, Lib.hid hbel⟩
  case round =>
    obtain ⟨k, hk, rfl, HR, HB⟩ := hrel
    clear hmade hbel
    by_cases hlt : k < n
    · have hki : (k : Int) < (n : Int) := by omega
      have hk0 : (0 : Int) ≤ (k : Int) := by omega
      obtain ⟨bk, off, rfl, hbk, hr⟩ := HP.out.row (by omega)
      obtain ⟨hc0, hc1⟩ := (hr.below HB.out hbk) k hlt
      clear hr hbk
      go_wp2_with fail
      refine (toDeed_any (P k) (Q k) _).mono ?_
      rintro e w5 ⟨rfl, hb5⟩
      have HR5 := Lib.hid (HR.out.atq (hb5.block _ HR.out.ltq))
      have HB5 := Lib.hid (below_onto HB.out hb5)
      have hd0 := HR5.out.cell (k * 2) (by omega)
      have hd1 := HR5.out.cell (k * 2 + 1) (by omega)
      have hf0 := HR5.out.frozen (k * 2)
      have hf1 := HR5.out.frozen (k * 2 + 1)
      rw [if_neg (by omega)] at hd0 hd1
      clear hc0 hc1 hb5 HR HB
      go_wp2_with fail
      refine ⟨⟨k + 1, by omega, by go_num, Lib.hid (((HR5.out.set (k * 2) (P k)).set (k * 2 + 1) (Q k)).less (Nat.le_refl _) (fun j hj => ?_)), Lib.hid ((HB5.out.setCell (p := ⟨w.heap.size, k * 2, none⟩) (Nat.le_refl _) _).setCell (p := ⟨w.heap.size, k * 2 + 1, none⟩) (Nat.le_refl _) _)⟩, by simp [intOf]; omega⟩
      show (if j = k * 2 + 1 then Q k else if j = k * 2 then P k else if j < k * 2 then prQ P Q j else 0) = if j < (k + 1) * 2 then prQ P Q j else 0
      by_cases e1 : j = k * 2 + 1
      · rw [if_pos e1, if_pos (by omega), e1, prQ_1]
      · rw [if_neg e1]
        by_cases e2 : j = k * 2
        · rw [if_pos e2, if_pos (by omega), e2, prQ_0]
        · rw [if_neg e2]
          by_cases e3 : j < k * 2
          · rw [if_pos e3, if_pos (by omega)]
          · rw [if_neg e3, if_neg (by omega)]
    · have hki : ¬ (k : Int) < (n : Int) := by omega
      have hkn : k = n := by omega
      subst hkn
      go_wp2_with fail
      go_ret
      exact ⟨rfl, HB.out, HR.out.less (Nat.le_refl _) (fun i hi => by rw [if_pos hi])⟩

theorem szDeedS_any (a : Option Addr) (n cap : Nat) (left : Int) (hl : 0 ≤ left ∧ left ≤ 1048576) (hn : n ≤ 9223372036854775807) (w : World) :
    Calls Try.prog 39 #[.slice a n cap, .int .i64 left] w fun e w' => e = .returned (.int .i64 (if left < n then -1 else left - n)) ∧ w = w' := by
  have hw : IntKind.i64.wrap (left - n) = left - n := wrap_in _ (by unfold I64; omega)
  by_cases h : left < n
  · have hd : decide (left - (n : Int) < 0) = true := by simp; omega
    rw [if_pos h]
    go_enter Try.func39, Try.ntmps39
    go_wp2_with fail
    go_ret
    exact ⟨rfl, rfl⟩
  · have hd : decide (left - (n : Int) < 0) = false := by simp; omega
    rw [if_neg h]
    go_enter Try.func39, Try.ntmps39
    go_wp2_with fail
    go_ret
    exact ⟨rfl, rfl⟩

theorem eqDeed_same (p q : Int) (w : World) :
    Calls Try.prog 71 #[.agg #[.int .i64 p, .int .i64 q], .agg #[.int .i64 p, .int .i64 q]] w fun e w' => e = .returned (.bool true) ∧ Below w.heap.size w w' := by
  have h1 : (p != p) = false := by simp
  have h2 : (q != q) = false := by simp
  have HB := Lib.hid (below_onto (alloc_below w (.cells #[.int .i64 p, .int .i64 q] 38)) (alloc_below (w.alloc (.cells #[.int .i64 p, .int .i64 q] 38)) (.cells #[.int .i64 p, .int .i64 q] 38)))
  go_enter Try.func71, Try.ntmps71
  go_wp2_with fail
  go_ret
  exact ⟨rfl, HB.out⟩

set_option maxRecDepth 100000 in
set_option maxHeartbeats 3200000 in
theorem eqDeedS_any (a1 a2 : Option Addr) (n c1 c2 : Nat) (P Q : Nat → Int) (hn : n ≤ 1048576) (w : World) (h1 : Prq w a1 n P Q) (h2 : Prq w a2 n P Q) :
    Calls Try.prog 41 #[.slice a1 n c1, .slice a2 n c2] w fun e w' => e = .returned (.bool true) ∧ Below w.heap.size w w' := by
  have hne : ((n : Int) != (n : Int)) = false := by simp
  have H1 := Lib.hid h1; have H2 := Lib.hid h2; clear h1 h2
  go_enter Try.func41, Try.ntmps41
  go_wp2_with fail
  clear hne
  go_loopw [5] (fun i wr => ∃ k : Nat, k ≤ n ∧ i = .int .i64 k ∧ Hid (Below w.heap.size w wr)) (fun i _ => n - (intOf i).toNat)
  case atStart => exact ⟨0, Nat.zero_le _, rfl, Lib.hid (Below.refl _ _)⟩
  case round =>
    obtain ⟨k, hk, rfl, HB⟩ := hrel
    by_cases hlt : k < n
    · have hki : (k : Int) < (n : Int) := by omega
      have hk0 : (0 : Int) ≤ (k : Int) := by omega
      obtain ⟨b1, o1, rfl, hl1, hr1⟩ := H1.out.row (by omega)
      obtain ⟨b2, o2, rfl, hl2, hr2⟩ := H2.out.row (by omega)
      have HKS := Lib.hid (show ∀ W, Below w.heap.size w W → (W.cell? ⟨b1, o1 + k * 2, none⟩ = some (.int .i64 (P k)) ∧ W.cell? ⟨b1, o1 + k * 2 + 1, none⟩ = some (.int .i64 (Q k))) ∧ W.cell? ⟨b2, o2 + k * 2, none⟩ = some (.int .i64 (P k)) ∧ W.cell? ⟨b2, o2 + k * 2 + 1, none⟩ = some (.int .i64 (Q k)) from
        fun W hW => ⟨(hr1.below hW hl1) k hlt, (hr2.below hW hl2) k hlt⟩)
      clear hr1 hr2 hl1 hl2
      go_wp2_with fail
      go_region_held3 (fun w' => (w'.cell? ⟨b1, o1 + k * 2, none⟩ = some (.int .i64 (P k)) ∧ w'.cell? ⟨b1, o1 + k * 2 + 1, none⟩ = some (.int .i64 (Q k))) ∧ w'.cell? ⟨b2, o2 + k * 2, none⟩ = some (.int .i64 (P k)) ∧ w'.cell? ⟨b2, o2 + k * 2 + 1, none⟩ = some (.int .i64 (Q k))) (first | exact HKS.out _ HB.out | exact HKS.out _ HB.out.drew | go_keep)
        (first | (go_at_call 71; refine (eqDeed_same (P k) (Q k) _).mono ?_; rintro e w5 ⟨rfl, hb5⟩; replace HB := Lib.hid (by first | exact below_onto HB.out hb5 | exact below_onto (below_drewN HB.out _) hb5 : Below w.heap.size w w5); clear hb5))
      all_goals
        go_wp2_with fail
        go_roundw
        case rel => exact ⟨k + 1, by omega, by go_num, Lib.hid (by first | exact HB.out | exact below_drewN HB.out _)⟩
        case measure => simp [intOf]; omega
    · have hki : ¬ (k : Int) < (n : Int) := by omega
      have hkn : k = n := by omega
      subst hkn
      go_wp2_with fail
      go_ret
      exact ⟨rfl, HB.out⟩
set_option maxRecDepth 100000 in
set_option maxHeartbeats 1600000 in
theorem markDeeds_any (g cap n c s : Nat) (t : TypeId) (F : Nat → Int) (hs : s + n * 2 ≤ 4398046511104) (w : World) (hr : Rw w g t cap (n * 2) F) :
    Calls Try.prog 42 #[.slice (some ⟨g, 0, none⟩) n c, .int .i64 s] w fun e w' => e = .returned (.int .i64 ((s : Int) + n * 2)) ∧ Only g w w' := by
  have HR := Lib.hid hr; clear hr
  go_enter Try.func42, Try.ntmps42
  go_wp2_with fail
  go_loopw [1, 5] (fun v i wr => ∃ k : Nat, k ≤ n ∧ i = .int .i64 k ∧ v = .int .i64 ((s : Int) + k * 2) ∧ (∃ F, Hid (Rw wr g t cap (n * 2) F)) ∧ Hid (Only g w wr)) (fun _ i _ => n - (intOf i).toNat)
  case atStart => exact ⟨0, Nat.zero_le _, rfl, by simp, ⟨_, HR⟩, Lib.hid (Only.refl _ _)⟩
  case round =>
    clear HR
    obtain ⟨k, hk, rfl, rfl, ⟨F, HR⟩, HO⟩ := hrel
    by_cases hlt : k < n
    · have hki : (k : Int) < (n : Int) := by omega
      have hk0 : (0 : Int) ≤ (k : Int) := by omega
      have hc0 := HR.out.cell (k * 2) (by omega)
      have hc1 := HR.out.cell (k * 2 + 1) (by omega)
      have hf0 := HR.out.frozen (k * 2)
      have hf1 := HR.out.frozen (k * 2 + 1)
      have HR2 := Lib.hid ((HR.out.set (k * 2) ((s : Int) + k * 2)).set (k * 2 + 1) ((s : Int) + k * 2 + 1))
      have HO2 := Lib.hid ((HO.out.setCell (k * 2) (.int .i64 ((s : Int) + k * 2))).setCell (k * 2 + 1) (.int .i64 ((s : Int) + k * 2 + 1)))
      have hw1 : IntKind.i64.wrap ((s : Int) + k * 2 + 1) = (s : Int) + k * 2 + 1 := wrap_in _ (by unfold I64; omega)
      have hw2 : IntKind.i64.wrap ((s : Int) + k * 2 + 1 + 1) = (s : Int) + k * 2 + 1 + 1 := wrap_in _ (by unfold I64; omega)
      clear HR HO
      go_wp2_with fail
      go_roundw
      case rel => exact ⟨k + 1, by omega, by go_num, by go_num, ⟨_, HR2⟩, HO2⟩
      case measure => simp [intOf]; omega
    · have hki : ¬ (k : Int) < (n : Int) := by omega
      have hkn : k = n := by omega
      subst hkn
      go_wp2_with fail
      go_ret
      exact ⟨rfl, HO.out⟩

/-! ### as lists -/
def fstF (ds : List (Int × Int)) (i : Nat) : Int := (ds.getD i (0, 0)).1
def sndF (ds : List (Int × Int)) (i : Nat) : Int := (ds.getD i (0, 0)).2
theorem fst_at {ds : List (Int × Int)} {i : Nat} (hi : i < ds.length) : fstF ds i = ds[i].1 := by unfold fstF; rw [List.getD_eq_getElem?_getD, List.getElem?_eq_getElem hi]; rfl
theorem snd_at {ds : List (Int × Int)} {i : Nat} (hi : i < ds.length) : sndF ds i = ds[i].2 := by unfold sndF; rw [List.getD_eq_getElem?_getD, List.getElem?_eq_getElem hi]; rfl
theorem Dds.prq {w : World} {a : Option Addr} {ds : List (Int × Int)} (h : Dds w a ds) : Prq w a ds.length (fstF ds) (sndF ds) := by
  obtain ⟨⟨h1, h2⟩, h3⟩ := h
  refine ⟨⟨h1, fun i hi => by rw [fst_at hi, snd_at hi]; exact h2 _ (List.getElem_mem hi)⟩, ?_⟩
  rcases h3 with h3 | ⟨b, o, e, hl, hr⟩
  · exact .inl h3
  · exact .inr ⟨b, o, e, hl, fun i hi => by rw [fst_at hi, snd_at hi]; exact hr i hi⟩
theorem Prq.dds {w : World} {a : Option Addr} {ds : List (Int × Int)} (h : Prq w a ds.length (fstF ds) (sndF ds)) : Dds w a ds := by
  obtain ⟨⟨h1, h2⟩, h3⟩ := h
  refine ⟨⟨h1, fun d hd => ?_⟩, ?_⟩
  · obtain ⟨i, hi, rfl⟩ := List.getElem_of_mem hd
    have := h2 i hi
    rw [fst_at hi, snd_at hi] at this
    exact this
  · rcases h3 with h3 | ⟨b, o, e, hl, hr⟩
    · exact .inl h3
    · exact .inr ⟨b, o, e, hl, fun i hi => by have := hr i hi; rw [fst_at hi, snd_at hi] at this; exact this⟩
theorem Prq.list {w : World} {a : Option Addr} {n : Nat} {P Q : Nat → Int} (h : Prq w a n P Q) : ∃ ds : List (Int × Int), ds.length = n ∧ Dds w a ds := by
  refine ⟨(List.range n).map (fun i => (P i, Q i)), by simp, ?_⟩
  have hl : ((List.range n).map (fun i => (P i, Q i))).length = n := by simp
  have e : ∀ i (hi : i < ((List.range n).map (fun i => (P i, Q i))).length), ((List.range n).map (fun i => (P i, Q i)))[i] = (P i, Q i) := fun i hi => by simp
  obtain ⟨⟨h1, h2⟩, h3⟩ := h
  refine ⟨⟨by rw [hl]; exact h1, fun d hd => ?_⟩, ?_⟩
  · obtain ⟨i, hi, rfl⟩ := List.getElem_of_mem hd
    rw [e i hi]
    exact h2 i (by rw [hl] at hi; exact hi)
  · rcases h3 with h3 | ⟨b, o, ea, hb, hr⟩
    · exact .inl (by rw [hl]; exact h3)
    · refine .inr ⟨b, o, ea, hb, fun i hi => ?_⟩
      rw [e i hi]
      exact hr i (by rw [hl] at hi; exact hi)
end Go.Proofs.Ytndcnfbncepihaa
