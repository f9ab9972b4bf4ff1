import Derived.Test.YthbancphegnpdaaTxN
namespace Go.Proofs.Ythbancphegnpdaa
set_option linter.unusedVariables false
set_option linter.unusedSimpArgs false
open Go.RowKit Go.Shelf Go.Maps
attribute [local go_sem] Oper.semAt_some

/-! ### a newline at the end -/
theorem lastSl (a : List UInt8) (b : UInt8) (s : ByteArray) (h : s = bs (a ++ [b])) (w : World) :
    (Instr.slice 9 (.string s) (some (.int .i64 ((s.size : Int) - 1))) none none).run Try.prog w = .ok (.string (bs [b])) w ∧
    (Instr.slice 9 (.string s) none (some (.int .i64 ((s.size : Int) - 1))) none).run Try.prog w = .ok (.string (bs a)) w := by
  have hs : s.size = a.length + 1 := by rw [h, bs_size, List.length_append]; rfl
  have e : (s.size : Int) - 1 = ((a.length : Nat) : Int) := by omega
  have hd : s.data.toList = a ++ [b] := by rw [h]; rfl
  rw [e]
  refine ⟨?_, ?_⟩
  · rw [endSl s a.length (by omega)]
    rw [show s.extract a.length s.size = bs [b] from list_inj (by rw [Lib.extract_to_end, bs_data, hd, List.drop_left])]
  · rw [headSl s a.length (by omega)]
    rw [show s.extract 0 a.length = bs a from list_inj (by rw [Lib.extract_data, bs_data, hd, List.drop_zero, Nat.sub_zero, List.take_left])]
theorem eqNl (b : UInt8) : ((bs [b]).toList == ({ data := #[10] } : ByteArray).toList) = (b == 10) := by
  rw [eqT]
  by_cases h : b = 10
  · subst h; rfl
  · have h1 : (b == 10) = false := by simpa using h
    rw [h1]
    refine decide_eq_false (fun e => h ?_)
    have e : [b] = [10] := e
    simpa using e

set_option maxRecDepth 100000 in
set_option maxHeartbeats 1600000 in
theorem HasSuffix_nl (a : List UInt8) (b : UInt8) (s : ByteArray) (h : s = bs (a ++ [b])) (hs : s.size ≤ 1099511627776) (v : Bool) (hv : (b == 10) = v) (w : World) :
    Calls Try.prog 76 #[.string s, .string { data := #[10] }] w fun e w' => e = .returned (.bool v) ∧ w = w' := by
  have hs1 := fun w => (lastSl a b s h w).1
  have hn : 1 ≤ s.size := by rw [h, bs_size, List.length_append]; simp
  have hd : decide (1 ≤ s.size) = true := decide_eq_true hn
  have hd1 : decide ((1 : Int) ≤ (s.size : Int)) = true := decide_eq_true (by omega)
  have hq := eqNl b
  rw [hv] at hq
  obtain ⟨t, ht⟩ : ∃ t, bs [b] = t := ⟨_, rfl⟩
  rw [ht] at hs1 hq
  have hq2 : (t.toList == [10]) = v := by rw [← hq, show ({ data := #[10] } : ByteArray).toList = [10] from bs_list [10]]
  clear ht h hv
  cases v
  all_goals
    go_enter Try.func76, Try.ntmps76
    go_wp2_with fail
    go_ret
    exact ⟨rfl, rfl⟩
def csE (a : List UInt8) (b : UInt8) (s : ByteArray) : ByteArray := if b == 10 then bs a else s
set_option maxRecDepth 100000 in
set_option maxHeartbeats 1600000 in
theorem liteCutSuffix_nl (a : List UInt8) (b : UInt8) (s : ByteArray) (h : s = bs (a ++ [b])) (hs : s.size ≤ 1099511627776) (v : Bool) (hv : (b == 10) = v) (w : World) :
    Calls Try.prog 68 #[.string s, .string { data := #[10] }] w fun e w' => e = .returned (.tuple #[.string (csE a b s), .bool v]) ∧ w = w' := by
  have hs2 := fun w => (lastSl a b s h w).2
  have HH := Lib.hid h; have HV := Lib.hid hv
  have HC : Hid (csE a b s = if v then bs a else s) := Lib.hid (by unfold csE; rw [hv])
  have hn : 1 ≤ s.size := by rw [h, bs_size, List.length_append]; simp
  clear h hv
  cases v with
  | true =>
    have HC2 : Hid (csE a b s = bs a) := Lib.hid HC.out
    obtain ⟨t, ht⟩ : ∃ t, bs a = t := ⟨_, rfl⟩
    rw [ht] at hs2 HC2
    clear ht HC
    go_enter Try.func68, Try.ntmps68
    go_wp2_with fail
    refine (HasSuffix_nl a b s HH.out hs true HV.out _).mono ?_
    rintro e w' ⟨rfl, rfl⟩
    go_wp2_with fail
    go_ret2
    exact ⟨by rw [HC2.out] <;> rfl, rfl⟩
  | false =>
    have HC2 : Hid (csE a b s = s) := Lib.hid HC.out
    clear HC hs2
    go_enter Try.func68, Try.ntmps68
    go_wp2_with fail
    refine (HasSuffix_nl a b s HH.out hs false HV.out _).mono ?_
    rintro e w' ⟨rfl, rfl⟩
    go_wp2_with fail
    go_ret2
    exact ⟨by rw [HC2.out] <;> rfl, rfl⟩
theorem CutSuffix_nl (a : List UInt8) (b : UInt8) (s : ByteArray) (h : s = bs (a ++ [b])) (hs : s.size ≤ 1099511627776) (v : Bool) (hv : (b == 10) = v) (w : World) :
    Calls Try.prog 61 #[.string s, .string { data := #[10] }] w fun e w' => e = .returned (.tuple #[.string (csE a b s), .bool v]) ∧ w = w' := by
  have HH := Lib.hid h; have HV := Lib.hid hv
  clear h hv
  obtain ⟨t, ht⟩ : ∃ t, csE a b s = t := ⟨_, rfl⟩
  have HT := Lib.hid ht
  rw [ht]
  clear ht
  go_enter Try.func61, Try.ntmps61
  go_wp2_with fail
  refine (liteCutSuffix_nl a b s HH.out hs v HV.out _).mono ?_
  rintro e w' ⟨rfl, rfl⟩
  rw [HT.out]
  go_wp2_with fail
  go_ret2
  exact ⟨rfl, rfl⟩

/-! ### the journal, line by line -/
structure RjV (l : List UInt8) (R0 : Nat) (w : World) (p : Nat) (v : Value) (ds : List (Int × Int)) (W : World) : Prop where
  box : Boxed W R0 36 v
  own : OwnD W R0 v ds
  apart : v.ownBlock ≠ some (R0 + 2)
  cnt : Boxed W (R0 + 1) 3 (.int .i64 (p : Int))
  rj : RjS l ds p
  bel : Below R0 w W
  size : R0 + 3 ≤ W.heap.size
def RjI (l : List UInt8) (R0 : Nat) (w : World) (pre : List ByteArray) (W : World) : Prop := ∃ v ds, RjV l R0 w (totB pre) v ds W
def RjX (l : List UInt8) (R0 : Nat) (w : World) (id : Nat) (pre : List ByteArray) (W : World) : Prop := id = 0 ∧ ∃ v ds p, RjV l R0 w p v ds W ∧ IsRj l ds
theorem RjV.moved {l : List UInt8} {R0 p B : Nat} {w W W' : World} {v : Value} {ds : List (Int × Int)} (h : RjV l R0 w p v ds W) (hB : R0 + 3 ≤ B) (hR : R0 ≤ w.heap.size) (hm : Mvd (fun k => k = R0 + 2) B W W') : RjV l R0 w p v ds W' := by
  have hs := hm.size
  have h3 := h.size
  have hb := h.bel
  refine ⟨(hm.block _ h.box.lt (by omega) (fun hh => by omega)).trans h.box, ?_, h.apart, (hm.block _ h.cnt.lt (by omega) (fun hh => by omega)).trans h.cnt, h.rj, ?_, by omega⟩
  · have ho := h.own
    have hlt := World.ownsRow.lt ho
    obtain ⟨h5, h6⟩ := ho
    refine ⟨h5, ?_⟩
    rcases h6 with h6 | ⟨g, cap, cur, hv, hBg, hg, hr⟩
    · exact .inl h6
    · refine .inr ⟨g, cap, cur, hv, hBg, ?_, hr⟩
      rw [hm.block g (Array.getElem?_eq_some_iff.1 hg).1 (fun e => h.apart (by rw [hv, e]; rfl)) (fun _ o ho => by rw [hg] at ho; cases ho; rfl)]
      exact hg
  · exact ⟨hm.os.trans hb.os, hm.tape.trans hb.tape, hm.output.trans hb.output, Nat.le_trans hb.size hm.size, fun k hk => (hm.block k (by omega) (by omega) (fun hh => by omega)).trans (hb.block k hk)⟩
theorem RjI.abide {l : List UInt8} {R0 B : Nat} {w : World} (hB : R0 + 3 ≤ B) (hR : R0 ≤ w.heap.size) : AbideB (R0 + 2) B (RjI l R0 w) := by
  rintro s W W' ⟨v, ds, h⟩ hm
  exact ⟨v, ds, h.moved hB hR hm⟩
theorem RjX.abide {l : List UInt8} {R0 B id : Nat} {w : World} (hB : R0 + 3 ≤ B) (hR : R0 ≤ w.heap.size) : AbideB (R0 + 2) B (RjX l R0 w id) := by
  rintro s W W' ⟨h0, v, ds, p, h, hr⟩ hm
  exact ⟨h0, v, ds, p, h.moved hB hR hm, hr⟩
theorem RjV.kept {l : List UInt8} {R0 p : Nat} {w W W' : World} {v : Value} {ds : List (Int × Int)} (h : RjV l R0 w p v ds W) (hR : R0 ≤ w.heap.size) (hb : Below W.heap.size W W') : RjV l R0 w p v ds W' :=
  h.moved (B := R0 + 3) (Nat.le_refl _) hR ⟨hb.os, hb.tape, hb.output, hb.size, fun k hk _ _ => hb.block k hk⟩
theorem keepsFrom_of {B : Nat} {W X : World} (hb : Below W.heap.size W X) : KeepsFrom B W X := ⟨hb.size, fun k o _ hk _ => (hb.block k (Array.getElem?_eq_some_iff.1 hk).1).trans hk⟩
/-- a deed more -/
theorem RjV.more {l : List UInt8} {R0 p q : Nat} {w W w1 : World} {v v' : Value} {ds : List (Int × Int)} {d : Int × Int} {tmp : Obj} (h : RjV l R0 w p v ds W) (hR : R0 ≤ w.heap.size)
    (hown' : OwnD w1 R0 v' (ds ++ [d])) (hgrow : (W.alloc tmp).grownBy w1 v.ownBlock) (hat : v'.ownBlock = v.ownBlock ∨ v'.ownBlock = some (W.heap.size + 1)) (hrj : RjS l (ds ++ [d]) q) :
    Boxed w1 R0 36 v ∧ Boxed (w1.setCell ⟨R0, 0, none⟩ v') (R0 + 1) 3 (.int .i64 (p : Int)) ∧
    RjV l R0 w q v' (ds ++ [d]) ((w1.setCell ⟨R0, 0, none⟩ v').setCell ⟨R0 + 1, 0, none⟩ (.int .i64 (q : Int))) ∧ KeepsFrom (R0 + 3) W ((w1.setCell ⟨R0, 0, none⟩ v').setCell ⟨R0 + 1, 0, none⟩ (.int .i64 (q : Int))) ∧
    ((w1.setCell ⟨R0, 0, none⟩ v').setCell ⟨R0 + 1, 0, none⟩ (.int .i64 (q : Int))).heap[R0 + 2]? = W.heap[R0 + 2]? := by
  have hWR : R0 ≤ W.heap.size := by have := h.size; omega
  obtain ⟨hv1, hv2, hr2, hk2, hb2⟩ := h.box.appended (by decide) h.own hWR (Nat.le_refl _) hown' hgrow
  have hs : ∀ (X : World) a u, (X.setCell a u).heap.size = X.heap.size := fun X a u => by simp [World.setCell]
  have hs1 : W.heap.size + 1 ≤ w1.heap.size := by have := hgrow.size; rw [alloc_size] at this; exact this
  have h3 := h.size
  have hcg : some (R0 + 1) ≠ v.ownBlock := h.cnt.not_row (by decide) h.own
  have hc1 : Boxed (w1.setCell ⟨R0, 0, none⟩ v') (R0 + 1) 3 (.int .i64 (p : Int)) := by
    refine ((Below.heap_setCell _ _ _ (R0 + 1) (by show R0 + 1 ≠ R0; omega)).trans ((hgrow.block _ (by rw [alloc_size]; omega) (fun e => hcg (by rw [e]))).trans (Below.heap_alloc _ _ _ (by omega)))).trans h.cnt
  have hap' : v'.ownBlock ≠ some (R0 + 2) := by
    rcases hat with e | e
    · rw [e]; exact h.apart
    · rw [e]; intro e2; have : W.heap.size + 1 = R0 + 2 := by simpa using e2
      omega
  refine ⟨hv1, hc1, ⟨?_, ?_, hap', hc1.set _, hrj, ?_, ?_⟩, (hk2.trans (KeepsOthers.setCell _ _ _)).from _, ?_⟩
  · exact (Below.heap_setCell _ _ _ R0 (by show R0 ≠ R0 + 1; omega)).trans hv2
  · exact World.ownsRow.kept hr2 (grownBy_setCell' _ (R0 + 1) _) (.inr (hc1.not_row (by decide) hr2).symm)
  · exact (h.bel.trans hb2).setCell (p := ⟨R0 + 1, 0, none⟩) (by show R0 ≤ R0 + 1; omega) _
  · rw [hs, hs]; omega
  · rw [Below.heap_setCell _ _ _ (R0 + 2) (by show R0 + 2 ≠ R0 + 1; omega), Below.heap_setCell _ _ _ (R0 + 2) (by show R0 + 2 ≠ R0; omega)]
    exact (hgrow.block _ (by rw [alloc_size]; omega) (fun e => h.apart (by rw [e]))).trans (Below.heap_alloc _ _ _ (by omega))
end Go.Proofs.Ythbancphegnpdaa
