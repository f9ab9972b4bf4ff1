import Derived.Test.YtacoeaoaabjkoaaGrdB
import Derived.Test.YtacoeaoaabjkoaaPcM
import Derived.RangeFuncNested
import Derived.RangeFuncBound
import Derived.RangeFuncCalls
import Derived.RangeFuncLeaves
import Derived.Shelf.Abstract
import Derived.Shelf.RegionOpen
import Derived.WalkKit
import Derived.OwnWalkIn
import Derived.TacticsInMore
import Derived.LoopNIn
import Derived.LoopIn
namespace Go.Proofs.Ytacoeaoaabjkoaa
open Go.RowKit Go.Maps

/-- a block of seven numbers -/
def Arr7 (w : World) (B : Nat) (t : TypeId) (g : Nat → Int) : Prop :=
  w.heap[B]? = some (.cells #[.int .i64 (g 0), .int .i64 (g 1), .int .i64 (g 2), .int .i64 (g 3), .int .i64 (g 4), .int .i64 (g 5), .int .i64 (g 6)] t (0, 0))
theorem lt7 {i : Nat} (h : i < 7) : i = 0 ∨ i = 1 ∨ i = 2 ∨ i = 3 ∨ i = 4 ∨ i = 5 ∨ i = 6 := by omega
theorem Arr7.cell {w : World} {B : Nat} {t : TypeId} {g : Nat → Int} (h : Arr7 w B t g) (i : Nat) (hi : i < 7) : w.cell? ⟨B, i, none⟩ = some (.int .i64 (g i)) := by
  rcases lt7 hi with rfl | rfl | rfl | rfl | rfl | rfl | rfl <;> exact cell_of_row w B _ _ t _ h
theorem Arr7.frozen {w : World} {B : Nat} {t : TypeId} {g : Nat → Int} (h : Arr7 w B t g) (j : Nat) : w.frozen? ⟨B, j, none⟩ = false := by
  simp [World.frozen?, show w.heap[B]? = _ from h]
theorem Arr7.congr {w : World} {B : Nat} {t : TypeId} {g g' : Nat → Int} (h : Arr7 w B t g) (e : ∀ i, i < 7 → g i = g' i) : Arr7 w B t g' := by
  unfold Arr7 at h ⊢
  rw [← e 0 (by omega), ← e 1 (by omega), ← e 2 (by omega), ← e 3 (by omega), ← e 4 (by omega), ← e 5 (by omega), ← e 6 (by omega)]
  exact h
theorem Arr7.set {w : World} {B : Nat} {t : TypeId} {g : Nat → Int} (h : Arr7 w B t g) (i : Nat) (hi : i < 7) (v : Int) : Arr7 (w.setCell ⟨B, i, none⟩ (.int .i64 v)) B t (fun j => if j = i then v else g j) := by
  rcases lt7 hi with rfl | rfl | rfl | rfl | rfl | rfl | rfl <;> exact heap_setCell_same w B _ _ t _ h
theorem Arr7.other {w : World} {B : Nat} {t : TypeId} {g : Nat → Int} (h : Arr7 w B t g) {b : Nat} (hb : B ≠ b) (j : Nat) (u : Value) : Arr7 (w.setCell ⟨b, j, none⟩ u) B t g :=
  (heap_setCell_other w ⟨b, j, none⟩ B u hb).trans h
theorem Arr7.lt {w : World} {B : Nat} {t : TypeId} {g : Nat → Int} (h : Arr7 w B t g) : B < w.heap.size := by
  rcases Nat.lt_or_ge B w.heap.size with h1 | h1
  · exact h1
  · unfold Arr7 at h; rw [Array.getElem?_eq_none h1] at h; cases h
theorem Arr7.kept {w w' : World} {B C : Nat} {t : TypeId} {g : Nat → Int} (h : Arr7 w B t g) (hb : Below C w w') (hlt : B < C) : Arr7 w' B t g := (hb.block B hlt).trans h
theorem Arr7.new (w : World) (t : TypeId) (g : Nat → Int) : Arr7 (w.alloc (.cells #[.int .i64 (g 0), .int .i64 (g 1), .int .i64 (g 2), .int .i64 (g 3), .int .i64 (g 4), .int .i64 (g 5), .int .i64 (g 6)] t)) w.heap.size t g := heap_alloc_new w _


/-- a whole array is stored into a variable's block -/
theorem run_store7 (w : World) (B : Nat) (t ty : TypeId) {g g' : Nat → Int} (hA : Arr7 w B t g) (hi : (Try.prog.info? ty).map (·.size) = some 7) :
    ∃ w', (storeVar ty ⟨B, 0, none⟩ (.agg #[.int .i64 (g' 0), .int .i64 (g' 1), .int .i64 (g' 2), .int .i64 (g' 3), .int .i64 (g' 4), .int .i64 (g' 5), .int .i64 (g' 6)])).run Try.prog w = .ok () w' ∧ Arr7 w' B t g' ∧ Only B w w' ∧ KeepsOthers w w' := by
  refine ⟨_, run_storeVar_row w B t ty _ _ hA hi rfl (by simp [Value.oneCell']), setRow_heap w B _ _ t _ hA, ⟨rfl, rfl, rfl, by simp, fun k _ hk => setRow_other w B k _ hk⟩, by simp, fun k o hk ho => ?_⟩
  refine (setRow_other w B k _ ?_).trans hk
  intro e
  subst e
  rw [show w.heap[k]? = _ from hA] at hk
  cases hk
  cases ho
theorem wpList_store7 {ops : Array Oper} {rest : List Oper} {o : Oper} {a : Act} {w : World} {Q : Exit → Act → World → Prop} (hgd : o.guard = none) (ty : TypeId) (x y : Operand) (ho : o.op = .store ty x y)
    (B : Nat) (t : TypeId) {g : Nat → Int} (hA : Arr7 w B t g) (g' : Nat → Int) (hi : (Try.prog.info? ty).map (·.size) = some 7)
    (hx : a.eval x = .pointer (some ⟨B, 0, none⟩)) (hy : a.eval y = .agg #[.int .i64 (g' 0), .int .i64 (g' 1), .int .i64 (g' 2), .int .i64 (g' 3), .int .i64 (g' 4), .int .i64 (g' 5), .int .i64 (g' 6)])
    (h : ∀ w', Arr7 w' B t g' → Only B w w' → KeepsOthers w w' → wpList Try.prog ops Q rest (a.put o.dst undef) w') : wpList Try.prog ops Q (o :: rest) a w := by
  obtain ⟨w', h1, h2, h3, h4⟩ := run_store7 w B t ty (g' := g') hA hi
  refine wpList_plain hgd fun K hK => ?_
  unfold Oper.wp execOp
  simp only [ho, hx, hy, Instr.storeAt, Instr.sureAddr, Sem.run_bind, Sem.run_pure, Result.andThen_ok, h1]
  exact hK _ _ (h w' h2 h3 h4)
theorem wpListIn_store7 {F : Fence} {N : Nat} {ops : Array Oper} {rest : List Oper} {o : Oper} {a : Act} {w : World} {Q : Exit → Act → World → Prop} (hgd : o.guard = none) (ty : TypeId) (x y : Operand) (ho : o.op = .store ty x y)
    (B : Nat) (t : TypeId) {g : Nat → Int} (hA : Arr7 w B t g) (g' : Nat → Int) (hi : (Try.prog.info? ty).map (·.size) = some 7)
    (hx : a.eval x = .pointer (some ⟨B, 0, none⟩)) (hy : a.eval y = .agg #[.int .i64 (g' 0), .int .i64 (g' 1), .int .i64 (g' 2), .int .i64 (g' 3), .int .i64 (g' 4), .int .i64 (g' 5), .int .i64 (g' 6)])
    (h : ∀ w', Arr7 w' B t g' → Only B w w' → KeepsOthers w w' → wpListIn F N Try.prog ops Q rest (a.put o.dst undef) w') : wpListIn F N Try.prog ops Q (o :: rest) a w := by
  obtain ⟨w', h1, h2, h3, h4⟩ := run_store7 w B t ty (g' := g') hA hi
  refine wpListIn_plain hgd fun K hK => ?_
  unfold Oper.wpIn
  refine ⟨by simp [Oper.about, ho], ?_⟩
  rw [Oper.semAt_plain F _ _ (by rw [ho]; intro c hc'; cases hc')]
  unfold execOp
  simp only [ho, hx, hy, Instr.storeAt, Instr.sureAddr, Sem.run_bind, Sem.run_pure, Result.andThen_ok, h1]
  exact hK _ _ (h w' h2 h3 h4)

set_option maxRecDepth 100000 in
set_option maxHeartbeats 1600000 in
theorem root_any (B : Nat) (t : TypeId) (u : Nat → Nat) (hu : UpP u) (i : Nat) (hi : i < 7) (w : World) (hA : Arr7 w B t (fun j => (u j : Int))) :
    Calls Try.prog 68 #[.pointer (some ⟨B, 0, none⟩), .int .i64 i] w fun e w' => e = .returned (.int .i64 (rtU u i)) ∧ w = w' := by
  have HU := Lib.hid hu; have HA := Lib.hid hA; clear hu hA
  go_enter Try.func68, Try.ntmps68
  go_wp2_with fail
  go_loopw [1] (fun v wr => ∃ k : Nat, k < 7 ∧ v = .int .i64 k ∧ Hid (rtU u k = rtU u i) ∧ w = wr) (fun v _ => (intOf v).toNat)
  case atStart => exact ⟨i, hi, rfl, Lib.hid rfl, rfl⟩
  case round =>
    obtain ⟨k, hk, rfl, hR, rfl⟩ := hrel
    have hc := HA.out.cell k hk
    have hk0 : (0 : Int) ≤ (k : Int) := by omega
    have hk7 : (k : Int) < 7 := by omega
    by_cases e : u k = k
    · have HF := Lib.hid (show ((rtU u i : Nat) : Int) = (k : Int) by rw [← hR.out, rt_of e])
      have he : ((u k : Int) == (k : Int)) = true := by rw [beq_iff_eq, e]
      clear e
      go_wp2_with fail
      go_ret
      exact ⟨reti HF.out.symm, rfl⟩
    · have hne : ((u k : Int) == (k : Int)) = false := by rw [beq_eq_false_iff_ne]; omega
      have hlt : u k < k := by have := HU.out k hk; omega
      have HS := Lib.hid ((rt_lt hlt).symm.trans hR.out)
      have HL := Lib.hid hlt
      clear e hlt
      go_wp2_with fail
      go_roundw
      case rel => exact ⟨u k, by have := HL.out; omega, rfl, HS, by first | rfl | trivial⟩
      case measure => have := HL.out; simp [intOf]; omega

set_option maxRecDepth 100000 in
set_option maxHeartbeats 1600000 in
theorem unite_any (B : Nat) (t : TypeId) (u : Nat → Nat) (hu : UpP u) (p q : Nat) (hp : p < 7) (hq : q < 7) (w : World) (hA : Arr7 w B t (fun j => (u j : Int))) :
    Calls Try.prog 80 #[.pointer (some ⟨B, 0, none⟩), .int .i64 p, .int .i64 q] w fun e w' => e = .returned (.tuple #[]) ∧
      w' = w.setCell ⟨B, max (rtU u p) (rtU u q), none⟩ (.int .i64 (min (rtU u p) (rtU u q) : Nat)) := by
  have hP7 : rtU u p < 7 := by have := rt_le u p; omega
  have hQ7 : rtU u q < 7 := by have := rt_le u q; omega
  have HP := Lib.hid (root_any B t u hu p hp w hA); have HQ := Lib.hid (root_any B t u hu q hq w hA)
  obtain ⟨P, hP⟩ : ∃ P, rtU u p = P := ⟨_, rfl⟩
  obtain ⟨Q, hQ⟩ : ∃ Q, rtU u q = Q := ⟨_, rfl⟩
  rw [hP] at HP hP7 ⊢
  rw [hQ] at HQ hQ7 ⊢
  have hcp := hA.cell P hP7
  have hcq := hA.cell Q hQ7
  have hfp := hA.frozen P
  have hfq := hA.frozen Q
  clear hA hu hP hQ
  have hp0 : (0 : Int) ≤ (P : Int) := by omega
  have hq0 : (0 : Int) ≤ (Q : Int) := by omega
  have hp77 : (P : Int) < 7 := by omega
  have hq77 : (Q : Int) < 7 := by omega
  rcases Nat.lt_trichotomy P Q with h | h | h
  · have h1 : (P : Int) < (Q : Int) := by omega
    have h2 : ¬ (Q : Int) < (P : Int) := by omega
    rw [Nat.max_eq_right (by omega), Nat.min_eq_left (by omega)]
    go_enter Try.func80, Try.ntmps80
    go_wp2_with fail
    refine HP.out.mono ?_
    rintro e w' ⟨rfl, rfl⟩
    go_wp2_with fail
    refine HQ.out.mono ?_
    rintro e w' ⟨rfl, rfl⟩
    go_wp2_with fail
    go_end0
    exact ⟨rfl, rfl⟩
  · subst h
    have h1 : ¬ (P : Int) < (P : Int) := by omega
    rw [Nat.max_eq_right (by omega), Nat.min_eq_left (by omega)]
    go_enter Try.func80, Try.ntmps80
    go_wp2_with fail
    refine HP.out.mono ?_
    rintro e w' ⟨rfl, rfl⟩
    go_wp2_with fail
    refine HQ.out.mono ?_
    rintro e w' ⟨rfl, rfl⟩
    go_wp2_with fail
    go_end0
    exact ⟨rfl, rfl⟩
  · have h1 : (Q : Int) < (P : Int) := by omega
    have h2 : ¬ (P : Int) < (Q : Int) := by omega
    rw [Nat.max_eq_left (by omega), Nat.min_eq_right (by omega)]
    go_enter Try.func80, Try.ntmps80
    go_wp2_with fail
    refine HP.out.mono ?_
    rintro e w' ⟨rfl, rfl⟩
    go_wp2_with fail
    refine HQ.out.mono ?_
    rintro e w' ⟨rfl, rfl⟩
    go_wp2_with fail
    go_end0
    exact ⟨rfl, rfl⟩

theorem results_arr {fn : Func} {p : Tmp} {t : TypeId} (h : fn.results = #[.cell p t]) (tmps : Array Value) (w : World) (B : Nat) {g : Nat → Int} (hB : Arr7 w B t g) (hp : tmps.getD p undef = .pointer (some ⟨B, 0, none⟩)) {m : Nat} {e : TypeId} (hd : Try.prog.underlying t = some (.array m e))
    (hi : (Try.prog.info? t).map (·.size) = some 7) :
    (results fn tmps).run Try.prog w = .ok (.agg #[.int .i64 (g 0), .int .i64 (g 1), .int .i64 (g 2), .int .i64 (g 3), .int .i64 (g 4), .int .i64 (g 5), .int .i64 (g 6)]) w :=
  results_cell_row h tmps w B t _ _ _ hp hB hd rfl hi

set_option maxRecDepth 100000 in
set_option maxHeartbeats 1600000 in
theorem parentsApart_any (w : World) :
    Calls Try.prog 79 #[] w fun e w' => e = .returned (.agg #[.int .i64 0, .int .i64 1, .int .i64 2, .int .i64 3, .int .i64 4, .int .i64 5, .int .i64 6]) ∧ Below w.heap.size w w' := by
  obtain ⟨R, hR⟩ : ∃ R, R = w.heap.size := ⟨_, rfl⟩
  have hA1 := (Arr7.new w 66 (fun _ => 0)).kept (alloc_below _ (.cells #[.int .i64 0, .int .i64 0, .int .i64 0, .int .i64 0, .int .i64 0, .int .i64 0, .int .i64 0] 66)) (by rw [alloc_size]; omega)
  have hA2 := Arr7.new (w.alloc (.cells #[.int .i64 0, .int .i64 0, .int .i64 0, .int .i64 0, .int .i64 0, .int .i64 0, .int .i64 0] 66)) 66 (fun _ => 0)
  rw [alloc_size, ← hR] at hA2
  rw [← hR] at hA1
  go_enter Try.func79, Try.ntmps79
  go_wp2_with fail
  obtain ⟨w2, hw2⟩ : ∃ w2, (w.alloc (.cells #[.int .i64 0, .int .i64 0, .int .i64 0, .int .i64 0, .int .i64 0, .int .i64 0, .int .i64 0] 66)).alloc (.cells #[.int .i64 0, .int .i64 0, .int .i64 0, .int .i64 0, .int .i64 0, .int .i64 0, .int .i64 0] 66) = w2 := ⟨_, rfl⟩
  have hB0 : Below R w w2 := by rw [← hw2, hR]; exact ((Below.refl _ w).alloc (Nat.le_refl _) _).alloc (by rw [alloc_size]; omega) _
  rw [hw2] at hA1 hA2 ⊢
  have HRZ := Lib.hid hR
  rw [← hR]
  clear hw2 hR
  go_loopw [2, 3] (fun _ i wr => ∃ k : Nat, k ≤ 7 ∧ i = .int .i64 k ∧ Arr7 wr R 66 (fun _ => 0) ∧ Arr7 wr (R + 1) 66 (fun j => if j < k then (j : Int) else 0) ∧ Below R w wr) (fun _ i _ => 7 - (intOf i).toNat)
  case atStart => exact ⟨0, by omega, rfl, hA1, hA2.congr (fun i _ => by simp), hB0⟩
  case round =>
    clear hA1 hA2 hB0
    obtain ⟨k, hk, rfl, hA1, hA2, hB⟩ := hrel
    by_cases hlt : k < 7
    · have hki : (k : Int) < 7 := by omega
      have hk0 : (0 : Int) ≤ (k : Int) := by omega
      have hc := hA2.cell k hlt
      have hf := hA2.frozen k
      have H1 := Lib.hid (hA1.other (show R ≠ R + 1 by omega) k (.int .i64 k)); have H2 := Lib.hid ((hA2.set k hlt k).congr (g' := fun j => if j < k + 1 then (j : Int) else 0) (fun i _ => by
        by_cases e : i = k
        · subst e; simp
        · by_cases e2 : i < k
          · simp [e, e2, show i < k + 1 by omega]
          · simp [e, e2, show ¬ i < k + 1 by omega]))
      have HB := Lib.hid (hB.setCell (p := ⟨R + 1, k, none⟩) (by show R ≤ R + 1; omega) (.int .i64 k))
      clear hA1 hA2 hB
      go_wp2_with fail
      go_roundw
      case rel => exact ⟨k + 1, by omega, by go_num, H1.out, H2.out, HB.out⟩
      case measure => simp [intOf]; omega
    · have hki : ¬ (k : Int) < 7 := by omega
      have hkn : k = 7 := by omega
      subst hkn
      have c0 := hA2.cell 0 (by omega)
      have c1 := hA2.cell 1 (by omega)
      have c2 := hA2.cell 2 (by omega)
      have c3 := hA2.cell 3 (by omega)
      have c4 := hA2.cell 4 (by omega)
      have c5 := hA2.cell 5 (by omega)
      have c6 := hA2.cell 6 (by omega)
      have H1 := Lib.hid hA1; have HB := Lib.hid hB
      clear hA1 hA2 hB
      simp only [show (0 : Nat) < 7 from by omega, show (1 : Nat) < 7 from by omega, show (2 : Nat) < 7 from by omega, show (3 : Nat) < 7 from by omega, show (4 : Nat) < 7 from by omega, show (5 : Nat) < 7 from by omega, show (6 : Nat) < 7 from by omega, if_true] at c0 c1 c2 c3 c4 c5 c6
      go_wp2_with (refine wpList_store7 rfl 66 (.tmp 0) (.tmp 10) rfl R 66 H1.out (fun j => (j : Int)) (by kernel_rfl) rfl rfl ?_)
      intro w9 hA9 ho9 _
      replace HB := Lib.hid (HB.out.trans (ho9.below (Nat.le_refl _) (Nat.le_of_lt H1.out.lt)))
      go_wp2_with fail
      refine bodyPost_ret (results_arr rfl _ _ R hA9 rfl Try.underlying66 (by kernel_rfl)) rfl ?_
      exact ⟨rfl, by rw [← HRZ.out]; exact HB.out⟩
end Go.Proofs.Ytacoeaoaabjkoaa
