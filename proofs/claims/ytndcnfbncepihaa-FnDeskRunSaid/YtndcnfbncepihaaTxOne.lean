import Derived.Test.YtndcnfbncepihaaTxM
import Derived.Test.YtndcnfbncepihaaDraws
import Derived.Maps.AppendAt
import Derived.Maps.Own
import Derived.Maps.OwnOps
import Derived.Laws.IdiomStrings
import Derived.Lib.Bytealg
import Derived.Lib.Walk
import Derived.Lib.Strings
import Derived.BigCall
import Derived.Test.YtndcnfbncepihaaTxD
import Derived.Test.YtndcnfbncepihaaOwnX
import Derived.Laws.StructEq
import Derived.Lib.IndexBytes
import Derived.Lib.Slices
import Derived.Laws.Strings3
import Derived.Deep.QuietTactic
import Derived.BigQuiet
import Derived.Laws.ResultCell
import Derived.Laws.Rows
import Derived.Laws.DeepStrings4
namespace Go.Proofs.Ytndcnfbncepihaa
set_option linter.unusedVariables false
set_option linter.unusedSimpArgs false
open Go.RowKit Go.Maps

/-- a byte, and a row of one's own that holds these bytes -/
def bytV (b : UInt8) : Value := .int .u8 (b.toNat : Int)
def OwnB (w : World) (B : Nat) (v : Value) (l : List UInt8) : Prop := w.ownsRow B 5 1 v l.length (l.map bytV)
theorem Try.infoByte : (Try.prog.info? 5).map (fun i => (i.zero, i.size, i.bytes)) = some (some (.int .u8 0), 1, 1) := by kernel_rfl
theorem info_bytes : ∃ i, Try.prog.info? 5 = some i ∧ i.zero = some (.int .u8 0) ∧ i.size = 1 ∧ i.bytes = 1 := by
  obtain ⟨i, hi, hzz⟩ := Option.map_eq_some_iff.1 Try.infoByte
  simp only [Prod.mk.injEq] at hzz
  exact ⟨i, hi, hzz.1, hzz.2.1, hzz.2.2⟩
theorem OwnB.snoc {w : World} {B : Nat} {v : Value} {l : List UInt8} {b : UInt8} (h : w.ownsRow B 5 1 v (l.length + 1) (l.map bytV ++ [bytV b])) : OwnB w B v (l ++ [b]) := by
  unfold OwnB; rw [List.length_append, List.map_append]; exact h
theorem OwnB.cells {w : World} {B : Nat} {v : Value} {l : List UInt8} (h : OwnB w B v l) (h1 : l ≠ []) : ∃ g c, v = .slice (some ⟨g, 0, none⟩) l.length c ∧ ∀ j (hj : j < l.length), w.cell? ((⟨g, 0, none⟩ : Addr).add j) = some (.int .u8 (l[j].toNat : Int)) := by
  have h' : w.ownsRow B 5 1 v l.length (l.map bytV) := h
  obtain ⟨h3, h4⟩ := h
  rcases h4 with ⟨_, h4⟩ | ⟨g, cap, cur, hv, hB, hg, hc, hm, hs, ht⟩
  · exact absurd (List.eq_nil_of_length_eq_zero h4) h1
  · subst hv
    refine ⟨g, cap, rfl, fun j hj => ?_⟩
    rw [Addr.add_lit, Nat.zero_add, h'.cellAt j (by omega), List.getElem?_map, List.getElem?_eq_getElem hj]
    rfl

theorem rets {a b : ByteArray} (h : a = b) : Ending.returned (.string a) = .returned (.string b) := by rw [h]

/-- the letters of the first k points -/
def txtK (x k : Nat) : List UInt8 := ((List.range k).filter (fun p => x / 2 ^ p % 2 == 1)).map (fun p => (97 + p).toUInt8)
theorem txtK_4 (x : Nat) : txtK x 4 = txtL x := rfl
theorem has_div (x p : Nat) : hasB (x : Int) p = (x / 2 ^ p % 2 == 1) := by
  rw [hasB_nat, Nat.testBit_eq_decide_div_mod_eq]
  cases h : (x / 2 ^ p % 2 == 1) with
  | true => simpa using h
  | false => simpa using h
theorem txtK_yes {x k : Nat} (h : hasB (x : Int) k = true) : txtK x (k + 1) = txtK x k ++ [(97 + k).toUInt8] := by
  rw [has_div] at h
  unfold txtK
  rw [List.range_succ, List.filter_append, List.map_append]
  simp [h]
theorem txtK_no {x k : Nat} (h : hasB (x : Int) k = false) : txtK x (k + 1) = txtK x k := by
  rw [has_div] at h
  unfold txtK
  rw [List.range_succ, List.filter_append, List.map_append]
  simp [h]
theorem txtK_len (x k : Nat) : (txtK x k).length ≤ k := by
  unfold txtK
  rw [List.length_map]
  have := List.length_filter_le (fun p => x / 2 ^ p % 2 == 1) (List.range k)
  rw [List.length_range] at this
  exact this
theorem letter_at {k : Nat} (hk : k < 4) : bytV (97 + k).toUInt8 = .int .u8 ((97 + k : Nat) : Int) := by
  have : k = 0 ∨ k = 1 ∨ k = 2 ∨ k = 3 := by omega
  rcases this with rfl | rfl | rfl | rfl <;> rfl
theorem idxL (k : Nat) (hk : k < 4) (w : World) : (Instr.index 9 (.string { data := #[97, 98, 99, 100] }) (.int .i64 (k : Int))).run Try.prog w = .ok (.int .u8 ((97 + k : Nat) : Int)) w := by
  have : k = 0 ∨ k = 1 ∨ k = 2 ∨ k = 3 := by omega
  rcases this with rfl | rfl | rfl | rfl
  · show (Instr.index 9 (.string { data := #[97, 98, 99, 100] }) (.int .i64 0)).run Try.prog w = .ok (.int .u8 97) w
    kernel_rfl
  · show (Instr.index 9 (.string { data := #[97, 98, 99, 100] }) (.int .i64 1)).run Try.prog w = .ok (.int .u8 98) w
    kernel_rfl
  · show (Instr.index 9 (.string { data := #[97, 98, 99, 100] }) (.int .i64 2)).run Try.prog w = .ok (.int .u8 99) w
    kernel_rfl
  · show (Instr.index 9 (.string { data := #[97, 98, 99, 100] }) (.int .i64 3)).run Try.prog w = .ok (.int .u8 100) w
    kernel_rfl

set_option maxRecDepth 100000 in
set_option maxHeartbeats 1600000 in
theorem SetText_in (x : Nat) (hx : okX (x : Int) = true) (w : World) :
    Calls Try.prog 79 #[.int .i64 (x : Int)] w fun e w' => e = .returned (.string (setT (x : Int))) ∧ Below w.heap.size w w' := by
  obtain ⟨i0, hii, hz0, hz1, hz2⟩ := info_bytes
  have HX := Lib.hid hx; clear hx
  have HST : Hid (OwnB w w.heap.size (.slice none 0 0) (txtK x 0)) := Lib.hid (World.ownsRow_nil _ _ _ _)
  go_enter Try.func79, Try.ntmps79
  go_wp2_with fail
  refine (pointsOk_val _ true HX.out _).mono ?_
  rintro e w' ⟨rfl, rfl⟩
  go_wp2_with fail
  go_loopw [3, 4, 8] (fun v _ i wr => ∃ (k : Nat) (vo : Value), k ≤ 4 ∧ i = .int .i64 k ∧ vo = v ∧ Hid (OwnB wr w.heap.size vo (txtK x k)) ∧ Hid (Below w.heap.size w wr)) (fun _ _ i _ => 4 - (intOf i).toNat)
  case atStart => exact ⟨0, _, Nat.zero_le _, rfl, rfl, HST, Lib.hid (Below.refl _ _)⟩
  case round =>
    clear HST
    obtain ⟨k, vo, hk, rfl, rfl, HO, HB⟩ := hrel
    by_cases hlt : k < 4
    · have hki : (k : Int) < 4 := by omega
      have hk6 : k ≤ 63 := by omega
      cases hg : hasB (x : Int) k with
      | true =>
        have HG := Lib.hid hg; clear hg
        have hix := fun w => idxL k hlt w
        obtain ⟨l, hl⟩ : ∃ l, txtK x k = l := ⟨_, rfl⟩
        have hlen : l.length ≤ 4 := by have := txtK_len x k; rw [hl] at this; omega
        have HL := Lib.hid hl
        rw [hl] at HO
        clear hl
        go_wp2_with fail
        refine (hasInt_any _ _ true hk6 _ HG.out).mono ?_
        rintro e w' ⟨rfl, rfl⟩
        have k1 := Lib.hid (fun (jj : Nat) (u : Value) (h : [Value.int .u8 ((97 + k : Nat) : Int)][jj]? = some u) => cell_one_new wr (.int .u8 ((97 + k : Nat) : Int)) 5 jj u h)
        have k2 : Hid (∀ u ∈ [Value.int .u8 ((97 + k : Nat) : Int)], u.oneCell' = true) := Lib.hid (by intro u hu; simp only [List.mem_singleton] at hu; subst hu; rfl)
        have k3 : Hid (l.length + 1 ≤ maxLen) := Lib.hid (by unfold maxLen; omega)
        have k4 : Hid ((l.length + 1) * 1 ≤ 140737488355328) := Lib.hid (by omega)
        have k5 : Hid (w.heap.size ≤ (wr.alloc (.cells #[.int .u8 ((97 + k : Nat) : Int)] 5)).heap.size) := Lib.hid (by rw [alloc_size]; have := HB.out.size; omega)
        have HO2 : Hid (wr.ownsRow w.heap.size 5 1 vo l.length (l.map bytV)) := Lib.hid HO.out
        go_wp2_with (at_builtin; refine wpList_append_own _ rfl (.tmp 14) (.tmp 17) 22 rfl w.heap.size 5 i0 (.int .u8 0) 1 1 Try.underlying22 hii hz0 hz1 hz2 rfl (by decide) _ _ _ rfl (HO2.out.alloc _) ⟨wr.heap.size, 0, none⟩ 1 1 [.int .u8 ((97 + k : Nat) : Int)] rfl rfl k1.out k2.out k3.out k4.out k5.out ?_)
        intro v5 w5 hown5 hgrow5 _
        have hb5 : Below w.heap.size wr w5 := ((Below.refl w.heap.size wr).alloc HB.out.size _).grown hgrow5 k5.out (fun q hq => (World.ownsRow.lt HO.out q hq).1)
        have hown6 : OwnB w5 w.heap.size v5 (txtK x (k + 1)) := by
          rw [txtK_yes HG.out, HL.out]
          refine OwnB.snoc ?_
          rw [letter_at hlt]; exact hown5
        have HB5 := Lib.hid (HB.out.trans hb5)
        have HO5 := Lib.hid hown6
        clear hown5 hgrow5 hb5 hown6 k1 k2 k3 k4 k5 HO HO2 hix
        go_wp2_with fail
        go_roundw
        case rel => exact ⟨k + 1, _, by omega, by go_num, rfl, HO5, HB5⟩
        case measure => simp [intOf]; omega
      | false =>
        have HG := Lib.hid hg; clear hg
        go_wp2_with fail
        refine (hasInt_any _ _ false hk6 _ HG.out).mono ?_
        rintro e w' ⟨rfl, rfl⟩
        have HO5 : Hid (OwnB wr w.heap.size vo (txtK x (k + 1))) := Lib.hid (by rw [txtK_no HG.out]; exact HO.out)
        go_wp2_with fail
        go_roundw
        case rel => exact ⟨k + 1, _, by omega, by go_num, rfl, HO5, HB⟩
        case measure => simp [intOf]; omega
    · have hki : ¬ (k : Int) < 4 := by omega
      have hkn : k = 4 := by omega
      rw [hkn] at HO
      clear hkn hk
      have hxr := okX_iff.1 HX.out
      have hne : txtK x 4 ≠ [] := txtK_4 x ▸ txt_nonempty (by omega) (by omega)
      obtain ⟨g, c, rfl, hcell⟩ := HO.out.cells hne
      have hcv := fun w1 (hc : ∀ j (hj : j < (txtK x 4).length), w1.cell? ((⟨g, 0, none⟩ : Addr).add j) = some (.int .u8 ((txtK x 4)[j].toNat : Int))) => run_convert_bytes_back (P := Try.prog) w1 22 9 5 ⟨g, 0, none⟩ c (txtK x 4) Try.underlying22 Try.underlying5 Try.underlying9 hc
      have hcw := hcv wr hcell
      have hset : setT (x : Int) = ⟨(txtK x 4).toArray⟩ := by
        unfold setT
        rw [setL_yes HX.out, Int.toNat_natCast]; rfl
      have HS := Lib.hid hset
      clear hcv hcell hxr hne hset
      go_wp2_with fail
      go_ret
      exact ⟨rets HS.out.symm, HB.out⟩

set_option maxRecDepth 100000 in
set_option maxHeartbeats 800000 in
theorem SetText_any (x : Int) (w : World) :
    Calls Try.prog 79 #[.int .i64 x] w fun e w' => e = .returned (.string (setT x)) ∧ Below w.heap.size w w' := by
  cases hx : okX x with
  | true =>
    obtain ⟨k, rfl⟩ := Int.eq_ofNat_of_zero_le (by have := okX_iff.1 hx; omega : 0 ≤ x)
    exact SetText_in k hx w
  | false =>
    have HX := Lib.hid hx
    have HE : Hid (setT x = { data := #[] }) := Lib.hid (by unfold setT; rw [setL_no hx]; rfl)
    clear hx
    go_enter Try.func79, Try.ntmps79
    go_wp2_with fail
    refine (pointsOk_val _ false HX.out _).mono ?_
    rintro e w' ⟨rfl, rfl⟩
    go_wp2_with fail
    go_ret
    exact ⟨rets HE.out.symm, Below.refl _ _⟩
end Go.Proofs.Ytndcnfbncepihaa

namespace Go.Proofs.Ytndcnfbncepihaa
set_option linter.unusedVariables false
set_option linter.unusedSimpArgs false
open Go.RowKit Go.Maps

/-! ### the model's text of a set -/
theorem cutL (k : Nat) (hk : k < 4) (w : World) : (Instr.slice 9 (.string { data := #[97, 98, 99, 100] }) (some (.int .i64 (k : Int))) (some (.int .i64 ((k : Int) + 1))) none).run Try.prog w = .ok (.string (bs [(97 + k).toUInt8])) w := by
  have : k = 0 ∨ k = 1 ∨ k = 2 ∨ k = 3 := by omega
  rcases this with rfl | rfl | rfl | rfl
  · show (Instr.slice 9 (.string { data := #[97, 98, 99, 100] }) (some (.int .i64 0)) (some (.int .i64 1)) none).run Try.prog w = .ok (.string (bs [(97 + 0).toUInt8])) w
    kernel_rfl
  · show (Instr.slice 9 (.string { data := #[97, 98, 99, 100] }) (some (.int .i64 1)) (some (.int .i64 2)) none).run Try.prog w = .ok (.string (bs [(97 + 1).toUInt8])) w
    kernel_rfl
  · show (Instr.slice 9 (.string { data := #[97, 98, 99, 100] }) (some (.int .i64 2)) (some (.int .i64 3)) none).run Try.prog w = .ok (.string (bs [(97 + 2).toUInt8])) w
    kernel_rfl
  · show (Instr.slice 9 (.string { data := #[97, 98, 99, 100] }) (some (.int .i64 3)) (some (.int .i64 4)) none).run Try.prog w = .ok (.string (bs [(97 + 3).toUInt8])) w
    kernel_rfl

theorem ib_no {l : List UInt8} {c : UInt8} (h : l.contains c = false) : Lib.indexByte l c = -1 := by
  induction l with
  | nil => rfl
  | cons b l ih =>
    rw [List.contains_cons, Bool.or_eq_false_iff] at h
    unfold Lib.indexByte
    rw [BEq.comm, h.1, ih h.2]; rfl
theorem ib_yes {l : List UInt8} {c : UInt8} (h : l.contains c = true) : 0 ≤ Lib.indexByte l c := by
  induction l with
  | nil => cases h
  | cons b l ih =>
    rw [List.contains_cons, Bool.or_eq_true] at h
    unfold Lib.indexByte
    cases hb : (b == c) with
    | true => simp
    | false =>
      rw [BEq.comm, hb] at h
      have := ih (by simpa using h)
      have h2 : (Lib.indexByte l c == -1) = false := by simp; omega
      rw [h2]
      simp
      omega
theorem ib_val {l : List UInt8} {c : UInt8} {v : Bool} (h : l.contains c = v) : decide (0 ≤ Lib.indexByte l c) = v := by
  cases v with
  | true => exact decide_eq_true (ib_yes h)
  | false => exact decide_eq_false (by rw [ib_no h]; decide)

end Go.Proofs.Ytndcnfbncepihaa

namespace Go.Proofs.Ytndcnfbncepihaa
set_option linter.unusedVariables false
set_option linter.unusedSimpArgs false
open Go.RowKit Go.Maps

/-- a text has the letter of a point -/
def letG (l : List UInt8) (p : Nat) : Bool := l.contains (97 + p).toUInt8
theorem letG_all : ∀ a b c d : Bool, setOf (fun p => if p = 0 then a else if p = 1 then b else if p = 2 then c else d) 4 = (((((if a then 1 else 0) + (if b then 2 else 0)) + ((if c then 4 else 0) + (if d then 8 else 0)) : Nat)) : Int) := by decide +kernel
theorem letG_set (l : List UInt8) : setOf (letG l) 4 = (letN l : Int) := by
  have h := letG_all (l.contains 97) (l.contains 98) (l.contains 99) (l.contains 100)
  unfold letN
  rw [← h]
  apply setOf_congr
  intro i hi
  have : i = 0 ∨ i = 1 ∨ i = 2 ∨ i = 3 := by omega
  rcases this with rfl | rfl | rfl | rfl <;> rfl

theorem eqT {s t : ByteArray} : (s.toList == t.toList) = decide (s.data.toList = t.data.toList) := by
  rw [toList_data', toList_data']
  by_cases h : s.data.toList = t.data.toList
  · rw [decide_eq_true h]; simpa using h
  · rw [decide_eq_false h]; simpa using h

end Go.Proofs.Ytndcnfbncepihaa

namespace Go.Proofs.Ytndcnfbncepihaa
set_option linter.unusedVariables false
set_option linter.unusedSimpArgs false
open Go.RowKit Go.Maps

/-- the words of deeds, in a block -/
def wordsO : Obj := .cells #[.string { data := #[112, 117, 116] }, .string { data := #[116, 97, 107, 101] }, .string { data := #[112, 111, 105, 110, 116, 115] }, .string { data := #[115, 117, 109, 115] }, .string { data := #[98, 97, 99, 107] }] 9
theorem deedWords_any (w : World) :
    Calls Try.prog 78 #[] w fun e w' => e = .returned (.slice (some ⟨w.heap.size, 0, none⟩) 5 5) ∧ w' = w.alloc wordsO := by
  go_enter Try.func78, Try.ntmps78
  go_wp2_with fail
  go_ret
  exact ⟨rfl, rfl⟩
/-- the words lie at B -/
def WordsAt (w : World) (B : Nat) : Prop := ∀ k, k < 5 → w.cell? ⟨B, k, none⟩ = some (.string (bs (wordL k)))
theorem words_new (w : World) : WordsAt (w.alloc wordsO) w.heap.size := by
  intro k hk
  have h : (w.alloc wordsO).heap[w.heap.size]? = some wordsO := heap_alloc_new w _
  have : k = 0 ∨ k = 1 ∨ k = 2 ∨ k = 3 ∨ k = 4 := by omega
  unfold World.cell?
  rw [h]
  rcases this with rfl | rfl | rfl | rfl | rfl <;> rfl
theorem word_size {k : Nat} (hk : k < 5) : (bs (wordL k)).size ≤ 6 := by
  have : k = 0 ∨ k = 1 ∨ k = 2 ∨ k = 3 ∨ k = 4 := by omega
  rcases this with rfl | rfl | rfl | rfl | rfl <;> decide

set_option maxRecDepth 100000 in
set_option maxHeartbeats 1600000 in
theorem DeedText_in (k : Nat) (hk : k < 5) (x : Int) (w : World) :
    Calls Try.prog 54 #[.agg #[.int .i64 (k : Int), .int .i64 x]] w fun e w' => e = .returned (.string (deedT (k : Int) x)) ∧ Below w.heap.size w w' := by
  have hbel := alloc_below w (.cells #[.int .i64 (k : Int), .int .i64 x] 38)
  have hblk := Blk2.new w 38 (.int .i64 (k : Int)) (.int .i64 x)
  obtain ⟨w1, hw1⟩ : ∃ w1, w.alloc (.cells #[.int .i64 (k : Int), .int .i64 x] 38) = w1 := ⟨_, rfl⟩
  have hsz : w1.heap.size = w.heap.size + 1 := by rw [← hw1]; exact alloc_size _ _
  have hbel2 : Below w.heap.size w (w1.alloc wordsO) := by
    have := alloc_below w1 wordsO
    rw [hw1] at hbel
    exact below_onto hbel this
  have hblk2 : Blk2 (w1.alloc wordsO) w.heap.size 38 (.int .i64 (k : Int)) (.int .i64 x) := by
    rw [hw1] at hblk
    exact hblk.kept (alloc_below w1 wordsO) (by omega)
  have hwd := words_new w1 k hk
  obtain ⟨w2, hw2⟩ : ∃ w2, w1.alloc wordsO = w2 := ⟨_, rfl⟩
  obtain ⟨Bw, hBw⟩ : ∃ Bw, w1.heap.size = Bw := ⟨_, rfl⟩
  have HW1 := Lib.hid hw1; have HW2 := Lib.hid hw2; have HBW := Lib.hid hBw
  rw [hw2] at hbel2 hblk2 hwd
  rw [hBw] at hwd
  obtain ⟨wd, hwdd⟩ : ∃ wd, bs (wordL k) = wd := ⟨_, rfl⟩
  have hws : wd.size ≤ 6 := by rw [← hwdd]; exact word_size hk
  rw [hwdd] at hwd
  have HWD := Lib.hid hwdd
  obtain ⟨hq0, hq1⟩ := hblk2.cell
  have HB := Lib.hid hbel2
  have HBL := Lib.hid hblk2
  have hk0 : (0 : Int) ≤ (k : Int) := by omega
  have hk5 : (k : Int) < 5 := by omega
  have hd1 : decide ((k : Int) < 0) = false := decide_eq_false (by omega)
  have hd2 : decide ((5 : Int) ≤ (k : Int)) = false := decide_eq_false (by omega)
  clear hbel hblk hsz hw1 hw2 hBw hwdd hbel2 hblk2
  by_cases hnm : k ≤ 1
  · obtain ⟨b0, hb0⟩ : ∃ b, ((k : Int) == 0) = b := ⟨_, rfl⟩
    have hor : ((k : Int) == 0) = true ∨ (((k : Int) == 0) = false ∧ ((k : Int) == 1) = true) := by
      have : k = 0 ∨ k = 1 := by omega
      rcases this with rfl | rfl
      · exact .inl rfl
      · exact .inr ⟨rfl, rfl⟩
    cases hx : okX x with
    | true =>
      have HX := Lib.hid hx
      have HE : Hid (wd ++ { data := #[32] } ++ setT x = deedT (k : Int) x) := Lib.hid (by
        have hd : dOk (k : Int) x = true := dOk_iff.2 (.inl ⟨by omega, by omega, okX_iff.1 hx⟩)
        unfold deedT deedL setT
        rw [if_pos hd, if_pos (by omega), ← HWD.out, Int.toNat_natCast]
        rw [show ({ data := #[32] } : ByteArray) = bs [32] from rfl, bs_app, bs_app, List.append_assoc]; rfl)
      have hss : (setT x).size ≤ 4 := setL_len x
      obtain ⟨st, hst⟩ : ∃ st, setT x = st := ⟨_, rfl⟩
      rw [hst] at hss
      rw [hst] at HE
      have HST := Lib.hid hst
      clear hx hst hnm hb0
      rcases hor with hb | ⟨hb, hb1⟩
      all_goals
        go_enter Try.func54, Try.ntmps54
        go_wp2_with fail
        rw [HW1.out]
        refine (deedWords_any _).mono ?_
        rintro e w3 ⟨rfl, rfl⟩
        rw [HW2.out, HBW.out]
        go_wp2_with fail
        go_quiet (fail)
        go_wp2_with fail
        refine (pointsOk_val _ true HX.out _).mono ?_
        rintro e w4 ⟨rfl, rfl⟩
        go_wp2_with fail
        refine (SetText_any _ _).mono ?_
        rintro e w5 ⟨rfl, hb5⟩
        rw [HST.out]
        have HB5 := Lib.hid (below_onto (below_drewN HB.out _) hb5)
        clear hb5
        go_wp2_with fail
        go_ret
        exact ⟨rets HE.out, HB5.out⟩
    | false =>
      have HX := Lib.hid hx
      have HE : Hid (({ data := #[] } : ByteArray) = deedT (k : Int) x) := Lib.hid (by
        have hd : dOk (k : Int) x = false := by
          cases h : dOk (k : Int) x with
          | false => rfl
          | true =>
            have h1 := okX_no.1 hx
            have h2 := dOk_iff.1 h
            omega
        unfold deedT
        rw [deedL_no hd]; rfl)
      clear hx hnm hb0
      rcases hor with hb | ⟨hb, hb1⟩
      all_goals
        go_enter Try.func54, Try.ntmps54
        go_wp2_with fail
        rw [HW1.out]
        refine (deedWords_any _).mono ?_
        rintro e w3 ⟨rfl, rfl⟩
        rw [HW2.out, HBW.out]
        go_wp2_with fail
        go_quiet (fail)
        go_wp2_with fail
        refine (pointsOk_val _ false HX.out _).mono ?_
        rintro e w4 ⟨rfl, rfl⟩
        go_wp2_with fail
        go_ret
        exact ⟨rets HE.out, below_drewN HB.out _⟩
  · have hb0 : ((k : Int) == 0) = false := by simp; omega
    have hb1 : ((k : Int) == 1) = false := by simp; omega
    by_cases hx : x = 0
    · have hbx : (x == 0) = true := by simpa using hx
      have HE : Hid (wd = deedT (k : Int) x) := Lib.hid (by
        have hd : dOk (k : Int) x = true := dOk_iff.2 (.inr ⟨by omega, by omega, hx⟩)
        unfold deedT deedL
        rw [if_pos hd, if_neg (by omega), ← HWD.out, Int.toNat_natCast])
      clear hx hnm
      go_enter Try.func54, Try.ntmps54
      go_wp2_with fail
      rw [HW1.out]
      refine (deedWords_any _).mono ?_
      rintro e w3 ⟨rfl, rfl⟩
      rw [HW2.out, HBW.out]
      go_wp2_with fail
      go_quiet (fail)
      go_wp2_with fail
      go_ret
      exact ⟨rets HE.out, below_drewN HB.out _⟩
    · have hbx : (x == 0) = false := by simpa using hx
      have HE : Hid (({ data := #[] } : ByteArray) = deedT (k : Int) x) := Lib.hid (by
        have hd : dOk (k : Int) x = false := by
          cases h : dOk (k : Int) x with
          | false => rfl
          | true => have h2 := dOk_iff.1 h; omega
        unfold deedT
        rw [deedL_no hd]; rfl)
      clear hx hnm
      go_enter Try.func54, Try.ntmps54
      go_wp2_with fail
      rw [HW1.out]
      refine (deedWords_any _).mono ?_
      rintro e w3 ⟨rfl, rfl⟩
      rw [HW2.out, HBW.out]
      go_wp2_with fail
      go_quiet (fail)
      go_wp2_with fail
      go_ret
      exact ⟨rets HE.out, below_drewN HB.out _⟩

set_option maxRecDepth 100000 in
set_option maxHeartbeats 1600000 in
theorem DeedText_any (k x : Int) (w : World) :
    Calls Try.prog 54 #[.agg #[.int .i64 k, .int .i64 x]] w fun e w' => e = .returned (.string (deedT k x)) ∧ Below w.heap.size w w' := by
  by_cases hk : 0 ≤ k ∧ k < 5
  · obtain ⟨n, rfl⟩ := Int.eq_ofNat_of_zero_le hk.1
    exact DeedText_in n (by omega) x w
  · have HE : Hid (({ data := #[] } : ByteArray) = deedT k x) := Lib.hid (by
      have hd : dOk k x = false := by
        cases h : dOk k x with
        | false => rfl
        | true => have h2 := dOk_iff.1 h; omega
      unfold deedT
      rw [deedL_no hd]; rfl)
    have hbel := alloc_below w (.cells #[.int .i64 k, .int .i64 x] 38)
    have hblk := Blk2.new w 38 (.int .i64 k) (.int .i64 x)
    obtain ⟨w1, hw1⟩ : ∃ w1, w.alloc (.cells #[.int .i64 k, .int .i64 x] 38) = w1 := ⟨_, rfl⟩
    have hsz : w1.heap.size = w.heap.size + 1 := by rw [← hw1]; exact alloc_size _ _
    rw [hw1] at hbel hblk
    have hbel2 := below_onto hbel (alloc_below w1 wordsO)
    have hblk2 := hblk.kept (alloc_below w1 wordsO) (show w.heap.size < w1.heap.size by omega)
    obtain ⟨w2, hw2⟩ : ∃ w2, w1.alloc wordsO = w2 := ⟨_, rfl⟩
    have HW1 := Lib.hid hw1; have HW2 := Lib.hid hw2
    rw [hw2] at hbel2 hblk2
    obtain ⟨hq0, hq1⟩ := hblk2.cell
    have HB := Lib.hid hbel2
    clear hbel hblk hsz hw1 hw2 hbel2 hblk2
    by_cases h0 : k < 0
    · have hd1 : decide (k < 0) = true := decide_eq_true h0
      clear h0 hk
      go_enter Try.func54, Try.ntmps54
      go_wp2_with fail
      rw [HW1.out]
      refine (deedWords_any _).mono ?_
      rintro e w3 ⟨rfl, rfl⟩
      rw [HW2.out]
      go_wp2_with fail
      go_ret
      exact ⟨rets HE.out, HB.out⟩
    · have hd1 : decide (k < 0) = false := decide_eq_false h0
      have hd2 : decide ((5 : Int) ≤ k) = true := decide_eq_true (by omega)
      clear h0 hk
      go_enter Try.func54, Try.ntmps54
      go_wp2_with fail
      rw [HW1.out]
      refine (deedWords_any _).mono ?_
      rintro e w3 ⟨rfl, rfl⟩
      rw [HW2.out]
      go_wp2_with fail
      go_ret
      exact ⟨rets HE.out, HB.out⟩
end Go.Proofs.Ytndcnfbncepihaa

namespace Go.Proofs.Ytndcnfbncepihaa
set_option linter.unusedVariables false
set_option linter.unusedSimpArgs false
open Go.RowKit Go.Maps

theorem eqDeedV (p q p' q' : Int) (w : World) : (binOp .eql 38 (.agg #[.int .i64 p, .int .i64 q]) (.agg #[.int .i64 p', .int .i64 q'])).run Try.prog w = .ok (.bool (p == p' && q == q')) w := by
  have u3 := Try.underlying3
  have hS : Try.prog.underlying 38 = some (.struct (Try.prog.fieldsOf 38)) := by kernel_rfl
  have hp : Try.prog.stoodInHeld 38 = false := by kernel_rfl
  rw [run_eql_struct, show (10000 : Nat) = 9999 + 1 from rfl, run_equalIn_agg w 9999 38 _ _ hS hp]
  simp only [Program.fieldsOf, Try.underlying38]
  go_simp
  by_cases h1 : p = p' <;> by_cases h2 : q = q' <;> simp [h1, h2]
theorem eqDeedV_val (p q p' q' : Int) (v : Bool) (hv : (p == p' && q == q') = v) (w : World) : (binOp .eql 38 (.agg #[.int .i64 p, .int .i64 q]) (.agg #[.int .i64 p', .int .i64 q'])).run Try.prog w = .ok (.bool v) w := by
  subst hv; exact eqDeedV p q p' q' w

theorem setT_emp {x : Int} (h : okX x = true) : (setT x).toList.isEmpty = false := by
  rw [toList_data']
  unfold setT
  rw [bs_data]
  cases hl : setL x with
  | nil => exact absurd hl (setL_ne h)
  | cons a l => rfl
theorem setT_emp' {x : Int} (h : okX x = false) : (setT x).toList.isEmpty = true := by
  rw [toList_data']
  unfold setT
  rw [bs_data, setL_no h]; rfl

end Go.Proofs.Ytndcnfbncepihaa

namespace Go.Proofs.Ytndcnfbncepihaa
set_option linter.unusedVariables false
set_option linter.unusedSimpArgs false
open Go.RowKit Go.Maps

theorem ib_rng (l : List UInt8) (c : UInt8) : -1 ≤ Lib.indexByte l c ∧ Lib.indexByte l c < l.length := by
  refine ⟨Lib.indexByte_ge l c, ?_⟩
  induction l with
  | nil => show (-1 : Int) < 0; omega
  | cons b l ih =>
    unfold Lib.indexByte
    rw [List.length_cons]
    split
    · omega
    · split <;> omega

theorem cutB1 {s : ByteArray} {i : Nat} (h : Lib.indexByte s.data.toList 32 = i) : s.extract 0 i = bs (cut1 s.data.toList) ∧ s.extract (i + 1) s.size = bs (cut2 s.data.toList) := by
  have h0 : ¬ Lib.indexByte s.data.toList 32 < 0 := by omega
  refine ⟨list_inj ?_, list_inj ?_⟩
  · rw [Lib.extract_data, bs_data]
    unfold cut1
    rw [if_neg h0, h, Int.toNat_natCast, List.drop_zero, Nat.sub_zero]
  · rw [Lib.extract_to_end, bs_data]
    unfold cut2
    rw [if_neg h0, h, Int.toNat_natCast]

/-- what Cut answers at a space -/
def CutEnd (s : ByteArray) (w : World) (e : Ending) (w' : World) : Prop := ∃ b, e = .returned (.tuple #[.string (bs (cut1 s.data.toList)), .string (bs (cut2 s.data.toList)), .bool b]) ∧ Drew w w'
theorem idxW_at {l : List UInt8} {k : Nat} (hk : k < 5) (h : l = wordL k) : idxW l = k := by
  subst h
  have : k = 0 ∨ k = 1 ∨ k = 2 ∨ k = 3 ∨ k = 4 := by omega
  rcases this with rfl | rfl | rfl | rfl | rfl <;> decide
theorem idxW_none {l : List UInt8} (h : ∀ k, k < 5 → l ≠ wordL k) : idxW l = -1 := by
  unfold idxW
  rw [if_neg (h 0 (by omega)), if_neg (h 1 (by omega)), if_neg (h 2 (by omega)), if_neg (h 3 (by omega)), if_neg (h 4 (by omega))]

end Go.Proofs.Ytndcnfbncepihaa

namespace Go.Proofs.Ytndcnfbncepihaa
set_option linter.unusedVariables false
set_option linter.unusedSimpArgs false
open Go.RowKit Go.Maps

/-- what ReadDeed answers -/
def rdK (l : List UInt8) : Int := match rdD l with | some d => d.1 | none => 0
def rdY (l : List UInt8) : Int := match rdD l with | some d => d.2 | none => 0
def rdDB (l : List UInt8) : Bool := (rdD l).isSome
theorem rdD_is {l : List UInt8} {k x : Int} (h : rdD l = some (k, x)) : rdK l = k ∧ rdY l = x ∧ rdDB l = true := by unfold rdK rdY rdDB; rw [h]; exact ⟨rfl, rfl, rfl⟩
theorem rdD_no {l : List UInt8} (h : rdD l = none) : rdK l = 0 ∧ rdY l = 0 ∧ rdDB l = false := by unfold rdK rdY rdDB; rw [h]; exact ⟨rfl, rfl, rfl⟩
theorem rdDB_some {l : List UInt8} (h : rdDB l = true) : rdD l = some (rdK l, rdY l) := by
  unfold rdDB at h
  cases hr : rdD l with
  | none => rw [hr] at h; cases h
  | some d => obtain ⟨k, x⟩ := d; obtain ⟨a, b, _⟩ := rdD_is hr; rw [a, b]
theorem rdDB_none {l : List UInt8} (h : rdDB l = false) : rdD l = none := by
  unfold rdDB at h
  cases hr : rdD l with
  | none => rfl
  | some d => rw [hr] at h; cases h
def RdEnd (l : List UInt8) (w : World) (e : Ending) (w' : World) : Prop := e = .returned (.tuple #[.agg #[.int .i64 (rdK l), .int .i64 (rdY l)], .bool (rdDB l)]) ∧ Below w.heap.size w w'

theorem results_deed {fn : Func} {p u : Tmp} (h : fn.results = #[.cell p 38, .tmp u]) (tmps : Array Value) (w : World) (B : Nat) {x y z : Value} (hB : Blk2 w B 38 x y) (hp : tmps.getD p undef = .pointer (some ⟨B, 0, none⟩)) (hu : tmps.getD u undef = z)
    (hi : (Try.prog.info? 38).map (·.size) = some 2) :
    (results fn tmps).run Try.prog w = .ok (.tuple #[.agg #[x, y], z]) w := by
  rw [results_cell_tmp h, hp, hu]
  simp [asAddr, run_loadVar_row w B _ _ _ _ _ hB Try.underlying38 rfl hi, Result.andThen]

theorem WordsAt.kept {w w' : World} {B : Nat} (h : WordsAt w B) (hb : Below w.heap.size w w') (hl : B < w.heap.size) : WordsAt w' B := fun k hk => (hb.cell (p := ⟨B, k, none⟩) hl).trans (h k hk)

end Go.Proofs.Ytndcnfbncepihaa

namespace Go.Proofs.Ytndcnfbncepihaa
set_option linter.unusedVariables false
set_option linter.unusedSimpArgs false
open Go.RowKit Go.Maps

/-! ### rows of texts, rows of deeds -/
def OwnS (w : World) (B : Nat) (v : Value) (ts : List ByteArray) : Prop := w.ownsRow B 9 1 v ts.length (ts.map Value.string)
theorem OwnS.snoc {w : World} {B : Nat} {v : Value} {ts : List ByteArray} {t : ByteArray} (h : w.ownsRow B 9 1 v (ts.length + 1) (ts.map Value.string ++ [.string t])) : OwnS w B v (ts ++ [t]) := by
  unfold OwnS; rw [List.length_append, List.map_append]; exact h
theorem OwnS.made (w : World) (B : Nat) (hB : B ≤ w.heap.size) : OwnS (w.alloc (.cells #[] 9)) B (.slice (some ⟨w.heap.size, 0, none⟩) 0 0) [] :=
  World.ownsRow_made w #[] 0 hB (Nat.zero_le _) rfl
theorem OwnS.slice {w : World} {B : Nat} {v : Value} {ts : List ByteArray} (h : OwnS w B v ts) : ∃ a c, v = .slice a ts.length c := by
  rcases h.2 with ⟨h1, h2⟩ | ⟨g, cap, cur, hv, _⟩
  · exact ⟨none, 0, by rw [h2]; exact h1⟩
  · exact ⟨_, cap, hv⟩
theorem OwnS.at {w : World} {B : Nat} {v : Value} {ts : List ByteArray} (h : OwnS w B v ts) {i : Nat} (hi : i < ts.length) : ∃ g c, v = .slice (some ⟨g, 0, none⟩) ts.length c ∧ B ≤ g ∧ g < w.heap.size ∧ w.cell? ⟨g, i, none⟩ = some (.string ts[i]) := by
  have hlt := World.ownsRow.lt h
  have h' : w.ownsRow B 9 1 v ts.length (ts.map Value.string) := h
  rcases h.2 with ⟨_, h2⟩ | ⟨g, cap, cur, hv, hB, _⟩
  · omega
  · subst hv
    refine ⟨g, cap, rfl, hB, (hlt g rfl).2, ?_⟩
    rw [h'.cellAt i (by omega), List.getElem?_map, List.getElem?_eq_getElem hi]; rfl
theorem Try.infoStr : (Try.prog.info? 9).map (fun i => (i.zero, i.size, i.bytes)) = some (some (.string { data := #[] }), 1, 16) := by kernel_rfl
theorem info_str : ∃ i, Try.prog.info? 9 = some i ∧ i.zero = some (.string { data := #[] }) ∧ i.size = 1 ∧ i.bytes = 16 := by
  obtain ⟨i, hi, hzz⟩ := Option.map_eq_some_iff.1 Try.infoStr
  simp only [Prod.mk.injEq] at hzz
  exact ⟨i, hi, hzz.1, hzz.2.1, hzz.2.2⟩

theorem idxS (s : ByteArray) (k : Nat) (hk : k < s.size) (w : World) : (Instr.index 9 (.string s) (.int .i64 (k : Int))).run Try.prog w = .ok (.int .u8 ((s.data.toList.getD k 0).toNat : Int)) w := by
  rw [run_index_string (P := Try.prog) w 9 _ _ _ Try.underlying9, dif_pos ⟨by omega, by omega⟩]
  have : s[(k : Int).toNat]'(by omega) = s.data.toList.getD k 0 := by
    rw [List.getD_eq_getElem?_getD, List.getElem?_eq_getElem (by rw [← Lib.size_eq]; exact hk)]
    rfl
  rw [this]
theorem cutSl (s : ByteArray) (p k : Nat) (hp : p ≤ k) (hk : k ≤ s.size) (w : World) : (Instr.slice 9 (.string s) (some (.int .i64 (p : Int))) (some (.int .i64 (k : Int))) none).run Try.prog w = .ok (.string (s.extract p k)) w := by
  rw [run_slice_string_if (P := Try.prog) w 9 s _ _ _ _ Try.underlying9, if_pos ⟨by omega, by omega⟩, if_pos ⟨by omega, by omega⟩]
  rfl
theorem endSl (s : ByteArray) (p : Nat) (hp : p ≤ s.size) (w : World) : (Instr.slice 9 (.string s) (some (.int .i64 (p : Int))) none none).run Try.prog w = .ok (.string (s.extract p s.size)) w := by
  rw [run_slice_string_l (P := Try.prog) (ht := Try.underlying9) (kl := .i64) (l := (p : Int)) (h0 := by omega) (h1 := by omega)]
  rfl

/-! ### a text, cut at a byte -/
/-- the parts that are told behind k bytes, and where the next one begins -/
def spK (l : List UInt8) (c : UInt8) : Nat → List (List UInt8) × Nat
  | 0 => ([], 0)
  | k + 1 => if l.getD k 0 == c then ((spK l c k).1 ++ [(l.drop (spK l c k).2).take (k - (spK l c k).2)], k + 1) else spK l c k
def spL (l : List UInt8) (c : UInt8) : List (List UInt8) := (spK l c l.length).1 ++ [l.drop (spK l c l.length).2]
theorem spK_le (l : List UInt8) (c : UInt8) (k : Nat) : (spK l c k).2 ≤ k ∧ (spK l c k).1.length ≤ k := by
  induction k with
  | zero => exact ⟨Nat.le_refl _, Nat.le_refl _⟩
  | succ k ih =>
    rw [spK]
    split
    · exact ⟨Nat.le_refl _, by rw [List.length_append]; simp; omega⟩
    · omega
theorem spK_yes {l : List UInt8} {c : UInt8} {k : Nat} (h : (l.getD k 0 == c) = true) : spK l c (k + 1) = ((spK l c k).1 ++ [(l.drop (spK l c k).2).take (k - (spK l c k).2)], k + 1) := by rw [spK, if_pos h]
theorem spK_no {l : List UInt8} {c : UInt8} {k : Nat} (h : (l.getD k 0 == c) = false) : spK l c (k + 1) = spK l c k := by rw [spK, if_neg (by rw [h]; decide)]
theorem byteB {a b : UInt8} {v : Bool} (h : (a == b) = v) : ((a.toNat : Int) == (b.toNat : Int)) = v := by
  subst h
  by_cases e : a = b
  · subst e; simp
  · have h1 : (a == b) = false := by simpa using e
    rw [h1]
    have : ¬ a.toNat = b.toNat := fun h => e (UInt8.toNat_inj.1 h)
    simp; omega

def CutGives (s : ByteArray) (c : UInt8) (w : World) (e : Ending) (w' : World) : Prop := ∃ v, e = .returned v ∧ OwnS w' w.heap.size v ((spL s.data.toList c).map bs) ∧ Below w.heap.size w w'
def CutR (s : ByteArray) (c : UInt8) (w : World) (k : Nat) (p : Int) (vo v : Value) (wr : World) : Prop :=
  p = ((spK s.data.toList c k).2 : Int) ∧ vo = v ∧ OwnS wr w.heap.size vo ((spK s.data.toList c k).1.map bs) ∧ Below w.heap.size w wr

end Go.Proofs.Ytndcnfbncepihaa

namespace Go.Proofs.Ytndcnfbncepihaa
set_option linter.unusedVariables false
set_option linter.unusedSimpArgs false
open Go.RowKit Go.Maps

/-- the cells of deeds -/
def cellsD (ds : List (Int × Int)) : List Value := ds.flatMap (fun d => [Value.int .i64 d.1, Value.int .i64 d.2])
theorem cellsD_len (ds : List (Int × Int)) : (cellsD ds).length = ds.length * 2 := by
  induction ds with
  | nil => rfl
  | cons d ds ih =>
    show ([Value.int .i64 d.1, Value.int .i64 d.2] ++ cellsD ds).length = _
    rw [List.length_append, ih, List.length_cons]; simp; omega
theorem cellsD_app (a b : List (Int × Int)) : cellsD (a ++ b) = cellsD a ++ cellsD b := by unfold cellsD; rw [List.flatMap_append]
theorem cellsD_at {ds : List (Int × Int)} {i : Nat} (hi : i < ds.length) : (cellsD ds)[i * 2]? = some (.int .i64 ds[i].1) ∧ (cellsD ds)[i * 2 + 1]? = some (.int .i64 ds[i].2) := by
  induction ds generalizing i with
  | nil => cases hi
  | cons d ds ih =>
    show ([Value.int .i64 d.1, Value.int .i64 d.2] ++ cellsD ds)[i * 2]? = _ ∧ ([Value.int .i64 d.1, Value.int .i64 d.2] ++ cellsD ds)[i * 2 + 1]? = _
    cases i with
    | zero => exact ⟨rfl, rfl⟩
    | succ i =>
      have := ih (i := i) (by simp at hi; omega)
      rw [List.getElem?_append_right (by simp; omega), List.getElem?_append_right (by simp; omega)]
      have e1 : (i + 1) * 2 - [Value.int .i64 d.1, Value.int .i64 d.2].length = i * 2 := by simp; omega
      have e2 : (i + 1) * 2 + 1 - [Value.int .i64 d.1, Value.int .i64 d.2].length = i * 2 + 1 := by simp; omega
      rw [e1, e2]
      exact this
/-- deeds of one's own -/
def OwnD (w : World) (B : Nat) (v : Value) (ds : List (Int × Int)) : Prop := w.ownsRow B 38 2 v ds.length (cellsD ds)
theorem OwnD.nil (w : World) (B : Nat) : OwnD w B (.slice none 0 0) [] := World.ownsRow_nil _ _ _ _
theorem OwnD.snoc {w : World} {B : Nat} {v : Value} {ds : List (Int × Int)} {d : Int × Int} (h : w.ownsRow B 38 2 v (ds.length + 1) (cellsD ds ++ [.int .i64 d.1, .int .i64 d.2])) : OwnD w B v (ds ++ [d]) := by
  unfold OwnD; rw [List.length_append, cellsD_app]; exact h
theorem OwnD.slice {w : World} {B : Nat} {v : Value} {ds : List (Int × Int)} (h : OwnD w B v ds) : ∃ a c, v = .slice a ds.length c := by
  rcases h.2 with ⟨h1, h2⟩ | ⟨g, cap, cur, hv, _⟩
  · exact ⟨none, 0, by rw [h2]; exact h1⟩
  · exact ⟨_, cap, hv⟩
theorem OwnD.made (w : World) (B : Nat) (hB : B ≤ w.heap.size) : OwnD (w.alloc (.cells #[] 38)) B (.slice (some ⟨w.heap.size, 0, none⟩) 0 0) [] :=
  World.ownsRow_made w #[] 0 hB (Nat.zero_le _) rfl
/-- deeds in a row -/
def DRow (w : World) (b o : Nat) (ds : List (Int × Int)) : Prop := ∀ i (hi : i < ds.length), w.cell? ⟨b, o + i * 2, none⟩ = some (.int .i64 ds[i].1) ∧ w.cell? ⟨b, o + i * 2 + 1, none⟩ = some (.int .i64 ds[i].2)
theorem DRow.kept {w w' : World} {b o : Nat} {ds : List (Int × Int)} (h : DRow w b o ds) (hb : Below w.heap.size w w') (hl : b < w.heap.size) : DRow w' b o ds := fun i hi =>
  ⟨(hb.cell (p := ⟨b, o + i * 2, none⟩) hl).trans (h i hi).1, (hb.cell (p := ⟨b, o + i * 2 + 1, none⟩) hl).trans (h i hi).2⟩
theorem OwnD.row {w : World} {B : Nat} {v : Value} {ds : List (Int × Int)} (h : OwnD w B v ds) (h1 : 1 ≤ ds.length) : ∃ g c, v = .slice (some ⟨g, 0, none⟩) ds.length c ∧ B ≤ g ∧ g < w.heap.size ∧ ds.length ≤ c ∧ DRow w g 0 ds := by
  have hlt := World.ownsRow.lt h
  have h' : w.ownsRow B 38 2 v ds.length (cellsD ds) := h
  rcases h.2 with ⟨_, h2⟩ | ⟨g, cap, cur, hv, hB, _, hc, _⟩
  · omega
  · subst hv
    refine ⟨g, cap, rfl, hB, (hlt g rfl).2, hc, fun i hi => ?_⟩
    rw [Nat.zero_add, h'.cellAt _ (by omega), h'.cellAt _ (by omega)]
    exact cellsD_at hi
/-- a slice of deeds that can be read -/
def Dds (w : World) (a : Option Addr) (ds : List (Int × Int)) : Prop :=
  (ds.length ≤ 9223372036854775807 ∧ ∀ d ∈ ds, I64 d.1 ∧ I64 d.2) ∧ (ds.length = 0 ∨ ∃ b o, a = some ⟨b, o, none⟩ ∧ b < w.heap.size ∧ DRow w b o ds)
theorem Dds.kept {w w' : World} {a : Option Addr} {ds : List (Int × Int)} (h : Dds w a ds) (hb : Below w.heap.size w w') : Dds w' a ds := by
  obtain ⟨h1, h2⟩ := h
  refine ⟨h1, ?_⟩
  rcases h2 with h2 | ⟨b, o, e, hl, hr⟩
  · exact .inl h2
  · exact .inr ⟨b, o, e, Nat.lt_of_lt_of_le hl hb.size, hr.kept hb hl⟩
theorem Dds.row {w : World} {a : Option Addr} {ds : List (Int × Int)} (h : Dds w a ds) (h1 : 1 ≤ ds.length) : ∃ b o, a = some ⟨b, o, none⟩ ∧ b < w.heap.size ∧ DRow w b o ds := by
  obtain ⟨_, h | h⟩ := h
  · omega
  · exact h
theorem Try.infoDeed : (Try.prog.info? 38).map (fun i => (i.zero, i.size, i.bytes)) = some (some (.agg #[.int .i64 0, .int .i64 0]), 2, 16) := by kernel_rfl
theorem info_deed : ∃ i, Try.prog.info? 38 = some i ∧ i.zero = some (.agg #[.int .i64 0, .int .i64 0]) ∧ i.size = 2 ∧ i.bytes = 16 := by
  obtain ⟨i, hi, hzz⟩ := Option.map_eq_some_iff.1 Try.infoDeed
  simp only [Prod.mk.injEq] at hzz
  exact ⟨i, hi, hzz.1, hzz.2.1, hzz.2.2⟩

/-! ### what the model's ReadDeed looks at -/
def cand3 : List (Int × Int) := [(2, 0), (3, 0), (4, 0)]
def cand5 (y : Int) : List (Int × Int) := [(2, 0), (3, 0), (4, 0), (0, y), (1, y)]
theorem parts_all : deeds.all (fun d => if d.1 ≤ 1 then (spL (deedL d.1 d.2) 32).length == 2 && rdI ((spL (deedL d.1 d.2) 32).getD 1 []) == d.2 else (spL (deedL d.1 d.2) 32).length == 1) = true := by decide +kernel
theorem cand_in {l : List UInt8} {k x : Int} (h : rdD l = some (k, x)) :
    ((spL l 32).length = 2 → (k, x) ∈ cand5 (rdI ((spL l 32).getD 1 []))) ∧ ((spL l 32).length ≠ 2 → (k, x) ∈ cand3) := by
  obtain ⟨h1, h2⟩ := rdD_some h
  have h3 := List.all_eq_true.1 parts_all (k, x) (deeds_mem.2 h1)
  rw [h2] at h3
  have h4 := dOk_iff.1 h1
  by_cases hk : k ≤ 1
  · rw [if_pos hk, Bool.and_eq_true, beq_iff_eq, beq_iff_eq] at h3
    refine ⟨fun _ => ?_, fun hn => absurd h3.1 hn⟩
    rw [h3.2]
    have : k = 0 ∨ k = 1 := by omega
    rcases this with rfl | rfl <;> simp [cand5]
  · rw [if_neg hk, beq_iff_eq] at h3
    have : (k = 2 ∨ k = 3 ∨ k = 4) ∧ x = 0 := by omega
    obtain ⟨hk2, rfl⟩ := this
    refine ⟨fun hn => by omega, fun _ => ?_⟩
    rcases hk2 with rfl | rfl | rfl <;> simp [cand3]
theorem cand_hit {l : List UInt8} {k x : Int} (hl : l ≠ []) (h : deedL k x = l) : rdD l = some (k, x) := by
  have : dOk k x = true := by
    cases hd : dOk k x with
    | true => rfl
    | false => rw [deedL_no hd] at h; exact absurd h.symm hl
  rw [← h]; exact rdD_of this
theorem cand_miss {l : List UInt8} {cs : List (Int × Int)} (hin : ∀ k x, rdD l = some (k, x) → (k, x) ∈ cs) (h : ∀ d ∈ cs, deedL d.1 d.2 ≠ l) : rdD l = none := by
  cases hr : rdD l with
  | none => rfl
  | some d =>
    obtain ⟨k, x⟩ := d
    exact absurd (rdD_some hr).2 (h _ (hin k x hr))

end Go.Proofs.Ytndcnfbncepihaa
