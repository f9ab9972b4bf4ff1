import Derived.Lib.Bytealg
import Derived.Test.YtndcnfbncepihaaPtO
import Derived.Laws.Concat
import Derived.Lib.Hide
namespace Go.Proofs.Ytndcnfbncepihaa
set_option linter.unusedVariables false
set_option linter.unusedSimpArgs false

/-- the text of these bytes -/
def bs (l : List UInt8) : ByteArray := ⟨l.toArray⟩
theorem bs_list (l : List UInt8) : (bs l).toList = l := by unfold bs; exact ByteArray.toList_mk l
theorem bs_data (l : List UInt8) : (bs l).data.toList = l := rfl
theorem bs_size (l : List UInt8) : (bs l).size = l.length := rfl
theorem bs_of (s : ByteArray) : bs s.data.toList = s := rfl
theorem bs_app (a b : List UInt8) : bs a ++ bs b = bs (a ++ b) := ByteArray.mk_append_mk a b
theorem bs_inj {a b : List UInt8} (h : bs a = bs b) : a = b := by rw [← bs_data a, h, bs_data]
theorem list_inj {a b : ByteArray} (h : a.data.toList = b.data.toList) : a = b := by rw [← bs_of a, ← bs_of b, h]
theorem toList_data' (s : ByteArray) : s.toList = s.data.toList := ByteArray.toList_eq s

/-- the letters of the points of a set -/
def txtL (x : Nat) : List UInt8 := ((List.range 4).filter (fun p => x / 2 ^ p % 2 == 1)).map (fun p => (97 + p).toUInt8)
/-- the set whose points have these letters -/
def letN (l : List UInt8) : Nat := ((if l.contains 97 then 1 else 0) + (if l.contains 98 then 2 else 0)) + ((if l.contains 99 then 4 else 0) + (if l.contains 100 then 8 else 0))
theorem txt_let : (List.range 16).all (fun x => letN (txtL x) == x) = true := by decide +kernel
theorem let_txt {x : Nat} (h : x < 16) : letN (txtL x) = x := by
  have := List.all_eq_true.1 txt_let x (List.mem_range.2 h)
  exact beq_iff_eq.1 this
theorem letN_lt (l : List UInt8) : letN l < 16 := by
  unfold letN
  split <;> split <;> split <;> split <;> omega
theorem txt_inj {x y : Nat} (hx : x < 16) (hy : y < 16) (h : txtL x = txtL y) : x = y := by rw [← let_txt hx, h, let_txt hy]
theorem txt_ne : (List.range 16).all (fun x => x == 0 || !(txtL x).isEmpty) = true := by decide +kernel
theorem txt_nonempty {x : Nat} (h1 : 1 ≤ x) (h : x < 16) : txtL x ≠ [] := by
  have := List.all_eq_true.1 txt_ne x (List.mem_range.2 h)
  intro e
  rw [e] at this
  simp at this
  omega
theorem txt_len : (List.range 16).all (fun x => decide ((txtL x).length ≤ 4)) = true := by decide +kernel

/-- the text of a set, and none for what is no set -/
def setL (x : Int) : List UInt8 := if okX x then txtL x.toNat else []
def setT (x : Int) : ByteArray := bs (setL x)
theorem setL_no {x : Int} (h : okX x = false) : setL x = [] := by unfold setL; rw [if_neg (by rw [h]; decide)]
theorem setL_yes {x : Int} (h : okX x = true) : setL x = txtL x.toNat := by unfold setL; rw [if_pos h]
theorem setL_len (x : Int) : (setL x).length ≤ 4 := by
  cases h : okX x with
  | false => rw [setL_no h]; simp
  | true =>
    rw [setL_yes h]
    have := okX_iff.1 h
    have := List.all_eq_true.1 txt_len x.toNat (List.mem_range.2 (by omega))
    exact of_decide_eq_true this
theorem setL_ne {x : Int} (h : okX x = true) : setL x ≠ [] := by
  rw [setL_yes h]
  have := okX_iff.1 h
  exact txt_nonempty (by omega) (by omega)
theorem setL_iff {x : Int} : setL x = [] ↔ okX x = false := by
  cases h : okX x with
  | false => exact ⟨fun _ => rfl, fun _ => setL_no h⟩
  | true => exact ⟨fun e => absurd e (setL_ne h), fun e => by cases e⟩
theorem setL_inj {x y : Int} (hx : okX x = true) (h : setL x = setL y) : x = y := by
  have hy : okX y = true := by
    cases hy : okX y with
    | true => rfl
    | false => rw [setL_no hy] at h; exact absurd h (setL_ne hx)
  rw [setL_yes hx, setL_yes hy] at h
  have h1 := okX_iff.1 hx; have h2 := okX_iff.1 hy
  have := txt_inj (by omega) (by omega) h
  omega

/-- the set whose text this is; 0 if there is none -/
def rdN (l : List UInt8) : Nat := if txtL (letN l) = l then letN l else 0
theorem rdN_lt (l : List UInt8) : rdN l < 16 := by
  unfold rdN
  split
  · exact letN_lt l
  · omega
theorem rdN_text {l : List UInt8} (h : rdN l ≠ 0) : txtL (rdN l) = l := by
  unfold rdN at h ⊢
  split
  · assumption
  · rename_i hn; rw [if_neg hn] at h; exact absurd rfl h
theorem rdN_of {x : Nat} (h : x < 16) : rdN (txtL x) = x := by
  unfold rdN
  rw [let_txt h, if_pos rfl]
theorem rdN_let {l : List UInt8} (h1 : letN l ≠ 0) (h : txtL (letN l) = l) : rdN l = letN l := by unfold rdN; rw [if_pos h]
theorem rdN_no {l : List UInt8} (h : txtL (letN l) ≠ l) : rdN l = 0 := by unfold rdN; rw [if_neg h]
theorem rdN_zero {l : List UInt8} (h : letN l = 0) : rdN l = 0 := by
  unfold rdN
  split
  · exact h
  · rfl
theorem rdN_iff {l : List UInt8} {x : Nat} (h1 : 1 ≤ x) (h : x < 16) : txtL x = l ↔ rdN l = x := by
  constructor
  · intro e; rw [← e, rdN_of h]
  · intro e; rw [← e]; exact rdN_text (by omega)
/-- what ReadSet answers -/
def rdI (l : List UInt8) : Int := if rdN l = 0 then -1 else (rdN l : Int)
def rdB (l : List UInt8) : Bool := rdN l != 0
theorem rd_no {l : List UInt8} (h : rdN l = 0) : rdI l = -1 ∧ rdB l = false := by unfold rdI rdB; rw [h]; exact ⟨rfl, rfl⟩
theorem rd_yes {l : List UInt8} (h : rdN l ≠ 0) : rdI l = (rdN l : Int) ∧ rdB l = true := by
  unfold rdI rdB
  rw [if_neg h]
  exact ⟨rfl, by simpa using h⟩
theorem rd_set {x : Int} (h : okX x = true) : rdI (setL x) = x ∧ rdB (setL x) = true := by
  have h1 := okX_iff.1 h
  rw [setL_yes h]
  have e := rdN_of (x := x.toNat) (by omega)
  obtain ⟨a, b⟩ := rd_yes (l := txtL x.toNat) (by rw [e]; omega)
  rw [a, b, e]
  exact ⟨by omega, rfl⟩
theorem rd_ok {l : List UInt8} (h : rdB l = true) : okX (rdI l) = true ∧ setL (rdI l) = l := by
  have h0 : rdN l ≠ 0 := by unfold rdB at h; simpa using h
  have hl := rdN_lt l
  have e : okX (rdI l) = true := by rw [(rd_yes h0).1, okX_iff]; omega
  refine ⟨e, ?_⟩
  rw [setL_yes e, (rd_yes h0).1, Int.toNat_natCast]
  exact rdN_text h0
theorem rd_bad {l : List UInt8} (h : rdB l = false) : rdI l = -1 := by
  unfold rdB at h
  have : rdN l = 0 := by simpa using h
  exact (rd_no this).1
theorem rdI_rng (l : List UInt8) : rdI l = -1 ∨ (1 ≤ rdI l ∧ rdI l ≤ 15) := by
  cases h : rdB l with
  | false => exact .inl (rd_bad h)
  | true => exact .inr (okX_iff.1 (rd_ok h).1)
end Go.Proofs.Ytndcnfbncepihaa
