import Derived.Test.YthbancphegnpdaaTxL
import Derived.Test.YthbancphegnpdaaTxR
import Derived.StillTailTactics
import Derived.RangeFuncNested
import Derived.RangeFuncBound
import Derived.RangeFuncCalls
import Derived.RangeFuncLeaves
import Derived.Shelf.Abstract
import Derived.Shelf.RegionOpen
import Derived.WalkKit
import Derived.OwnWalkIn
import Derived.TacticsInMore
import Derived.LoopNIn
import Derived.LoopIn
namespace Go.Proofs.Ythbancphegnpdaa
set_option linter.unusedVariables false
set_option linter.unusedSimpArgs false
open Go.RowKit Go.Shelf Go.Maps
attribute [local go_sem] Oper.semAt_some

/-! ### lines -/
theorem ib_split {l : List UInt8} {c : UInt8} {i : Nat} (h : Lib.indexByte l c = i) : ∃ a s, l = a ++ c :: s ∧ c ∉ a ∧ a.length = i := by
  induction l generalizing i with
  | nil => exact absurd h (by show ¬ (-1 : Int) = _; omega)
  | cons b l ih =>
    unfold Lib.indexByte at h
    by_cases hb : (b == c) = true
    · rw [if_pos hb] at h
      have : i = 0 := by omega
      subst this
      exact ⟨[], l, by rw [beq_iff_eq.1 hb]; rfl, by simp, rfl⟩
    · rw [if_neg hb] at h
      by_cases h2 : (Lib.indexByte l c == -1) = true
      · rw [if_pos h2] at h; omega
      · rw [if_neg h2] at h
        have h3 : Lib.indexByte l c ≠ -1 := by simpa using h2
        have h4 := Lib.indexByte_ge l c
        obtain ⟨j, hj⟩ : ∃ j : Nat, Lib.indexByte l c = j := ⟨(Lib.indexByte l c).toNat, by omega⟩
        obtain ⟨a, s, e1, e2, e3⟩ := ih hj
        refine ⟨b :: a, s, by rw [e1]; rfl, ?_, by rw [List.length_cons, e3]; omega⟩
        intro hm
        rcases List.mem_cons.1 hm with hm | hm
        · exact hb (by rw [hm]; simp)
        · exact e2 hm
theorem ib_none {l : List UInt8} {c : UInt8} (h : Lib.indexByte l c < 0) : c ∉ l := by
  intro hm
  have := ib_yes (List.contains_iff_mem.2 hm)
  omega
def totB (pre : List ByteArray) : Nat := (pre.map (fun x => x.size)).sum
theorem totB_snoc (pre : List ByteArray) (x : ByteArray) : totB (pre ++ [x]) = totB pre + x.size := by unfold totB; simp
/-- the line with which a text begins -/
def FirstL (r : List UInt8) (x : ByteArray) : Prop := (∃ a s, r = a ++ 10 :: s ∧ (10 : UInt8) ∉ a ∧ x = bs (a ++ [10])) ∨ ((10 : UInt8) ∉ r ∧ r ≠ [] ∧ x = bs r)
def LnSp (l : List UInt8) (ys : List ByteArray) : Prop := ∀ pre x, ys = pre ++ [x] → FirstL (l.drop (totB pre)) x
def LnS (l : List UInt8) (xs : List ByteArray) : Prop := l.drop (totB xs) = []
theorem LnSp.mk {l : List UInt8} {pre : List ByteArray} {x : ByteArray} (h : FirstL (l.drop (totB pre)) x) : LnSp l (pre ++ [x]) := by
  intro p y e
  have := List.append_inj' e rfl
  obtain ⟨rfl, h2⟩ := this
  cases h2
  exact h
theorem LnSp.at {l : List UInt8} {pre : List ByteArray} {x : ByteArray} (h : LnSp l (pre ++ [x])) : FirstL (l.drop (totB pre)) x := h pre x rfl

theorem Lines_any (s : ByteArray) (w : World) :
    Calls Try.prog 60 #[.string s] w fun e w' => e = .returned (.func (.func 67) #[] #[.pointer (some ⟨w.heap.size, 0, none⟩)]) ∧
      w' = w.alloc (.cells #[.string s] 9) := by
  have hmf : ∀ (fn : Fn) (first cap : Array Value) (w : World), (Instr.makeFunc fn first cap).run Try.prog w = .ok (.func fn first cap) w := fun _ _ _ _ => rfl
  go_enter Try.func60, Try.ntmps60
  go_wp2_with fail
  go_ret
  exact ⟨rfl, rfl⟩

theorem headSl (s : ByteArray) (p : Nat) (hp : p ≤ s.size) (w : World) : (Instr.slice 9 (.string s) none (some (.int .i64 (p : Int))) none).run Try.prog w = .ok (.string (s.extract 0 p)) w := by
  rw [run_slice_string_h (P := Try.prog) (ht := Try.underlying9) (kh := .i64) (h := (p : Int)) (h0 := by omega) (h2 := by omega)]
  rfl
theorem mvd_store {Bp B : Nat} {w w' : World} (hb : Below w.heap.size w w') (v : Value) : Mvd (fun k => k = Bp) B w (w'.setCell ⟨Bp, 0, none⟩ v) :=
  ⟨hb.os, hb.tape, hb.output, by rw [show (w'.setCell ⟨Bp, 0, none⟩ v).heap.size = w'.heap.size by simp [World.setCell]]; exact hb.size, fun k hk hn _ => (Below.heap_setCell _ _ _ k (by exact hn)).trans (hb.block k hk)⟩

/-- the iterator between two rounds -/
structure LnR (l : List UInt8) (Bp : Nat) (J : List ByteArray → World → Prop) (pre : List ByteArray) (cur : ByteArray) (wr : World) : Prop where
  j : J pre wr
  box : Boxed wr Bp 9 (.string cur)
  cur : cur = bs (l.drop (totB pre))
  len : pre.length ≤ totB pre ∧ totB pre ≤ l.length
def curSize (Bp : Nat) (w : World) : Nat := match w.cell? ⟨Bp, 0, none⟩ with | some (.string c) => c.size | _ => 0
theorem curSize_box {Bp : Nat} {w : World} {c : ByteArray} (h : Boxed w Bp 9 (.string c)) : curSize Bp w = c.size := by unfold curSize; rw [h.cell]
theorem FirstL.size {r : List UInt8} {x : ByteArray} (h : FirstL r x) : 1 ≤ x.size ∧ x.size ≤ r.length := by
  rcases h with ⟨a, s, rfl, _, rfl⟩ | ⟨_, h, rfl⟩
  · rw [bs_size]; simp
  · rw [bs_size]
    cases r with
    | nil => exact absurd rfl h
    | cons b r => simp
theorem drop_tot {l : List UInt8} {pre : List ByteArray} {x : ByteArray} : l.drop (totB (pre ++ [x])) = (l.drop (totB pre)).drop x.size := by rw [totB_snoc, List.drop_drop]

set_option maxRecDepth 100000 in
set_option maxHeartbeats 4000000 in
theorem linesC_in (N l0 Bp : Nat) (s : ByteArray) (hs : s.size ≤ 1099511627776) (J Jx : List ByteArray → World → Prop) (W : World)
    (hA : ∀ B, W.heap.size ≤ B → AbideB Bp B J)
    (hY : ∀ pre x W1, J pre W1 → pre.length < s.size → LnSp s.data.toList (pre ++ [x]) → YieldAt Fence.wide (N - 1) Try.prog l0 #[.string x] W1 fun e W' =>
      (e = .returned (.bool true) ∧ J (pre ++ [x]) W' ∧ W1.heap.size ≤ W'.heap.size ∧ W'.heap[Bp]? = W1.heap[Bp]?) ∨ (e = .returned (.bool false) ∧ Jx (pre ++ [x]) W'))
    (hp : Boxed W Bp 9 (.string s)) (h0 : J [] W) :
    CallsIn Fence.wide N Try.prog 67 #[.func (.yield l0) #[] #[], .pointer (some ⟨Bp, 0, none⟩)] W fun e W' => (∃ v, e = .returned v) ∧
      ((∃ xs, LnS s.data.toList xs ∧ J xs W') ∨ (∃ pre, LnSp s.data.toList pre ∧ Jx pre W')) := by
  have HY := Lib.hid hY
  have HJA := Lib.hid hA
  have HST := Lib.hid (show LnR s.data.toList Bp J [] s W from ⟨h0, hp, by show s = bs (s.data.toList.drop 0); rfl, Nat.le_refl _, Nat.zero_le _⟩)
  clear hY hA hp h0
  refine callsIn_of_wp Try.func67 rfl trivial ?_ rfl
  simp only [Try.ntmps67, List.size_toArray, List.length_cons, List.length_nil, Nat.reduceAdd, Nat.reduceSub, Array.replicate_succ, Array.replicate_zero, List.push_toArray, List.append_toArray, List.nil_append, List.cons_append]
  gi_wp2_with fail
  gi_loopw [3, 4] (fun _ _ wr => ∃ (pre : List ByteArray) (cur : ByteArray), Hid (LnR s.data.toList Bp J pre cur wr)) (fun _ _ wr => curSize Bp wr)
  case atStart => exact ⟨[], s, HST⟩
  case round =>
    clear HST
    obtain ⟨pre, cur, HR⟩ := hrel
    have hcell := HR.out.box.cell
    have HM := Lib.hid (curSize_box HR.out.box)
    have HSZ := Lib.hid (show cur.size ≤ 1099511627776 by
      rw [HR.out.cur, bs_size, List.length_drop]
      have := Lib.size_eq s
      omega)
    by_cases h0 : cur.size = 0
    · have hd : decide (0 < cur.size) = false := decide_eq_false (by omega)
      have HE := Lib.hid (show LnS s.data.toList pre by
        unfold LnS
        have h1 := HR.out.cur
        have : (bs (s.data.toList.drop (totB pre))).size = 0 := by rw [← h1]; exact h0
        rw [bs_size] at this
        exact List.eq_nil_of_length_eq_zero this)
      clear h0
      gi_wp2_with fail
      go_end0
      exact ⟨⟨_, rfl⟩, .inl ⟨pre, HE.out, HR.out.j⟩⟩
    · have hd : decide (0 < cur.size) = true := decide_eq_true (by omega)
      have hlen : pre.length < s.size := by
        have h1 := HR.out.len
        have h2 : cur.size = s.data.toList.length - totB pre := by rw [HR.out.cur, bs_size, List.length_drop]
        have := Lib.size_eq s
        omega
      have HLN := Lib.hid hlen
      clear hlen
      by_cases hz : Lib.indexByte cur.data.toList 10 < 0
      · have hdz : decide ((0 : Int) ≤ Lib.indexByte cur.data.toList 10) = false := decide_eq_false (by omega)
        have HF := Lib.hid (show FirstL (s.data.toList.drop (totB pre)) cur from by
          right
          have h1 := HR.out.cur
          have h2 : cur.data.toList = s.data.toList.drop (totB pre) := by rw [h1]; rfl
          refine ⟨by rw [← h2]; exact ib_none hz, fun e => ?_, h1⟩
          rw [← h2] at e
          have := Lib.size_eq cur
          rw [e] at this
          exact h0 this)
        have HNZ := Lib.hid h0
        clear hz h0
        have hf0 := HR.out.box.frozen
        gi_wp2_with fail
        refine ⟨trivial, (fun h => by cases h), (callsIn_wide.2 (IndexByte_any cur 10 _)).mono ?_⟩
        rintro e w' ⟨rfl, rfl⟩
        rw [show ((10 : Int).toNat.toUInt8) = (10 : UInt8) from rfl]
        obtain ⟨z, hz⟩ : ∃ z, Lib.indexByte cur.data.toList 10 = z := ⟨_, rfl⟩
        rw [hz] at hdz ⊢
        clear hz
        obtain ⟨fn, tmps, assign, body, hy, hR⟩ := HY.out pre cur (wr.setCell ⟨Bp, 0, none⟩ (.string { data := #[] })) (HJA.out _ (Nat.le_refl _) pre wr _ HR.out.j (mvd_store (Below.refl _ _) _)) HLN.out (LnSp.mk HF.out)
        gi_wp2_with fail
        refine ⟨(fun h => by cases h), hR.mono ?_⟩
        rintro e W3 (⟨rfl, hJ3, hs3, hk3⟩ | ⟨rfl, hJx3⟩)
        · have hbox3 : Boxed W3 Bp 9 (.string { data := #[] }) := hk3.trans (HR.out.box.set (.string { data := #[] }))
          have HR3 := Lib.hid (show LnR s.data.toList Bp J (pre ++ [cur]) { data := #[] } W3 from ⟨hJ3, hbox3, by rw [drop_tot]; exact list_inj (by rw [bs_data]; have h1 := HR.out.cur; have h2 : cur.data.toList = s.data.toList.drop (totB pre) := (by rw [h1]; rfl); rw [← h2, Lib.size_eq, List.drop_length]), by
            have h1 := HF.out.size; have h2 := HR.out.len
            rw [List.length_drop] at h1
            rw [totB_snoc, List.length_append, List.length_singleton]; omega⟩)
          have HM3 := Lib.hid (curSize_box hbox3)
          have HLT := Lib.hid (show curSize Bp W3 < curSize Bp wr by rw [HM3.out, HM.out]; have h1 := HNZ.out; show 0 < cur.size; omega)
          clear hJ3 hs3 hk3 hbox3 hy hR
          gi_wp2_with fail
          go_roundw
          case rel => exact ⟨_, _, HR3⟩
          case measure => exact HLT.out
        · have HJX := Lib.hid hJx3
          clear hy hR hJx3
          gi_wp2_with fail
          refine bodyPost_ret (results_none rfl _ _ _) rfl ?_
          exact ⟨⟨_, rfl⟩, .inr ⟨_, LnSp.mk HF.out, HJX.out⟩⟩
      · obtain ⟨i, hi⟩ : ∃ i : Nat, Lib.indexByte cur.data.toList 10 = i := ⟨(Lib.indexByte cur.data.toList 10).toNat, by omega⟩
        have hir := ib_rng cur.data.toList 10
        rw [← Lib.size_eq, hi] at hir
        have hdz : decide ((0 : Int) ≤ (i : Int)) = true := decide_eq_true (by omega)
        have HI := Lib.hid hi
        have hi1 : i + 1 ≤ cur.size := by omega
        have HF := Lib.hid (show FirstL (s.data.toList.drop (totB pre)) (cur.extract 0 (i + 1)) from by
          left
          have h1 := HR.out.cur
          have h2 : cur.data.toList = s.data.toList.drop (totB pre) := by rw [h1]; rfl
          obtain ⟨a, r, e1, e2, e3⟩ := ib_split hi
          refine ⟨a, r, by rw [← h2]; exact e1, e2, list_inj ?_⟩
          rw [Lib.extract_data, bs_data, List.drop_zero, e1, Nat.sub_zero]
          rw [show i + 1 = (a ++ [10]).length by rw [List.length_append, e3]; rfl]
          rw [show a ++ 10 :: r = (a ++ [10]) ++ r by simp, List.take_left])
        have HX := Lib.hid (show (cur.extract 0 (i + 1)).size = i + 1 by rw [ByteArray.size_extract]; omega)
        have HC2 := Lib.hid (show cur.extract (i + 1) cur.size = bs ((s.data.toList.drop (totB pre)).drop (i + 1)) from by
          have h1 := HR.out.cur
          have h2 : cur.data.toList = s.data.toList.drop (totB pre) := by rw [h1]; rfl
          exact list_inj (by rw [Lib.extract_to_end, bs_data, h2]))
        have hs1 := fun w => headSl cur (i + 1) hi1 w
        have hs2 := fun w => endSl cur (i + 1) hi1 w
        have ec : ((i + 1 : Nat) : Int) = (i : Int) + 1 := by omega
        rw [ec] at hs1 hs2
        obtain ⟨x, hx⟩ : ∃ x, cur.extract 0 (i + 1) = x := ⟨_, rfl⟩
        obtain ⟨y, hy⟩ : ∃ y, cur.extract (i + 1) cur.size = y := ⟨_, rfl⟩
        rw [hx] at hs1 HF HX
        rw [hy] at hs2 HC2
        have HI1 := Lib.hid hi1
        clear hz h0 hi hir ec hx hy hi1
        have hii0 : (0 : Int) ≤ (i : Int) := by omega
        have hii1 : (i : Int) ≤ 1099511627776 := by
          have h1 := HI1.out; have h2 := HSZ.out
          omega
        have hf0 := HR.out.box.frozen
        gi_wp2_with fail
        refine ⟨trivial, (fun h => by cases h), (callsIn_wide.2 (IndexByte_any cur 10 _)).mono ?_⟩
        rintro e w' ⟨rfl, rfl⟩
        rw [show ((10 : Int).toNat.toUInt8) = (10 : UInt8) from rfl, HI.out]
        gi_wp2_with fail
        have hwr : IntKind.i64.wrap ((i : Int) + 1) = (i : Int) + 1 := wrap_in _ (by unfold I64; omega)
        have hBX := HR.out.box
        obtain ⟨wx, hwx⟩ : ∃ wx, wr.drew = wx := ⟨_, rfl⟩
        have hbx : Below wr.heap.size wr wx := by rw [← hwx]; exact below_drewN (Below.refl _ _) 1
        have hBX2 : Boxed wx Bp 9 (.string cur) := (hbx.block _ hBX.lt).trans hBX
        have HWX := Lib.hid hwx
        have HBX2 := Lib.hid hBX2
        have HBXX := Lib.hid hbx
        clear hwx hBX hbx hBX2
        refine wpIn_wide.2 ?_
        go_still_tail 9, (by kernel_rfl)
        change wpList _ _ _ _ _ wr.drew
        rw [HWX.out]
        clear hwr hcell hf0
        have hcell := HBX2.out.cell
        have hf0 := HBX2.out.frozen
        obtain ⟨fn, tmps, assign, body, hy, hR⟩ := HY.out pre x (wx.setCell ⟨Bp, 0, none⟩ (.string y)) (HJA.out _ (Nat.le_refl _) pre wr _ HR.out.j (mvd_store HBXX.out _)) HLN.out (LnSp.mk HF.out)
        go_wp2_with fail
        gi_wp2_with fail
        refine ⟨(fun h => by cases h), hR.mono ?_⟩
        rintro e W3 (⟨rfl, hJ3, hs3, hk3⟩ | ⟨rfl, hJx3⟩)
        · have hbox3 : Boxed W3 Bp 9 (.string y) := hk3.trans (HBX2.out.set (.string y))
          have HR3 := Lib.hid (show LnR s.data.toList Bp J (pre ++ [x]) y W3 from ⟨hJ3, hbox3, by rw [drop_tot, HX.out]; exact HC2.out, by
            have h1 := HF.out.size; have h2 := HR.out.len
            rw [List.length_drop] at h1
            rw [totB_snoc, List.length_append, List.length_singleton]; omega⟩)
          have HM3 := Lib.hid (curSize_box hbox3)
          have HLT := Lib.hid (show curSize Bp W3 < curSize Bp wr by rw [HM3.out, HM.out]; have h1 : y.size = (s.data.toList.drop (totB pre)).length - (i + 1) := (by rw [HC2.out, bs_size, List.length_drop]); have h2 : (s.data.toList.drop (totB pre)).length = cur.size := (by rw [HR.out.cur, bs_size]); have h3 := HI1.out; omega)
          clear hJ3 hs3 hk3 hbox3 hy hR
          gi_wp2_with fail
          go_roundw
          case rel => exact ⟨_, _, HR3⟩
          case measure => exact HLT.out
        · have HJX := Lib.hid hJx3
          clear hy hR hJx3
          gi_wp2_with fail
          refine bodyPost_ret (results_none rfl _ _ _) rfl ?_
          exact ⟨⟨_, rfl⟩, .inr ⟨_, LnSp.mk HF.out, HJX.out⟩⟩

theorem lines_stops (N Bp : Nat) (s : ByteArray) (hs : s.size ≤ 1099511627776) (w : World) (hp : Boxed w Bp 9 (.string s)) :
    SeqB Fence.wide N Try.prog 67 #[.pointer (some ⟨Bp, 0, none⟩)] (fun x : ByteArray => #[Value.string x]) Bp (LnS s.data.toList) (LnSp s.data.toList) s.size w := fun l J Jx W hW hJ _ hY h0 =>
  linesC_in N l Bp s hs J Jx W hJ hY ((hW.block _ hp.lt).trans hp) h0
end Go.Proofs.Ythbancphegnpdaa
