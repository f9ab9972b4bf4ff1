import Derived.Test.YthaickihoagnmaaGreatDoorBaseA
import Derived.Lib.Bytealg
import Derived.Laws.Concat
import Derived.Lib.Hide
namespace Go.Proofs.YthaickihoagnmaaGreatDoor
set_option linter.unusedVariables false
set_option linter.unusedSimpArgs false
open Go.RowKit Go.Maps

/-- a set of one point or more -/
def okX (x : Int) : Bool := decide (1 ≤ x ∧ x ≤ 15)
theorem okX_iff {x : Int} : okX x = true ↔ 1 ≤ x ∧ x ≤ 15 := by unfold okX; rw [decide_eq_true_eq]
theorem okX_no {x : Int} : okX x = false ↔ ¬ (1 ≤ x ∧ x ≤ 15) := by unfold okX; rw [decide_eq_false_iff_not]
theorem pointsOk_val (x : Int) (v : Bool) (hv : okX x = v) (w : World) :
    Calls Tryz.prog 57 #[.int .i64 x] w fun e w' => e = .returned (.bool v) ∧ w = w' := by
  cases v with
  | true =>
    have h := okX_iff.1 hv
    have h1 : decide (1 ≤ x) = true := decide_eq_true h.1
    have h2 : decide (x < 16) = true := decide_eq_true (by omega)
    clear hv
    go_enter Tryz.func57, Tryz.ntmps57
    go_wp2_with fail
    go_ret
    exact ⟨rfl, rfl⟩
  | false =>
    have h := okX_no.1 hv
    by_cases h1 : 1 ≤ x
    · have h2 : decide (x < 16) = false := decide_eq_false (by omega)
      clear hv h
      have h1 : decide (1 ≤ x) = true := decide_eq_true h1
      go_enter Tryz.func57, Tryz.ntmps57
      go_wp2_with fail
      go_ret
      exact ⟨rfl, rfl⟩
    · have h3 : decide (1 ≤ x) = false := decide_eq_false h1
      clear hv h
      go_enter Tryz.func57, Tryz.ntmps57
      go_wp2_with fail
      go_ret
      exact ⟨rfl, rfl⟩
set_option maxHeartbeats 400000 in
theorem hasInt_any (x : Int) (a : Nat) (v : Bool) (ha : a ≤ 63) (w : World) (hv : hasB x a = v) :
    Calls Tryz.prog 117 #[.int .i64 x, .int .i64 a] w fun e w' => e = .returned (.bool v) ∧ w = w' := by
  subst hv
  go_enter Tryz.func117, Tryz.ntmps117
  go_wp2
  go_ret
  exact ⟨retb (has_eq x a), rfl⟩
end Go.Proofs.YthaickihoagnmaaGreatDoor

namespace Go.Proofs.YthaickihoagnmaaGreatDoor
set_option linter.unusedVariables false
set_option linter.unusedSimpArgs false

/-- the text of these bytes -/
def bs (l : List UInt8) : ByteArray := ⟨l.toArray⟩
theorem bs_list (l : List UInt8) : (bs l).toList = l := by unfold bs; exact ByteArray.toList_mk l
theorem bs_data (l : List UInt8) : (bs l).data.toList = l := rfl
theorem bs_size (l : List UInt8) : (bs l).size = l.length := rfl
theorem bs_of (s : ByteArray) : bs s.data.toList = s := rfl
theorem bs_app (a b : List UInt8) : bs a ++ bs b = bs (a ++ b) := ByteArray.mk_append_mk a b
theorem bs_inj {a b : List UInt8} (h : bs a = bs b) : a = b := by rw [← bs_data a, h, bs_data]
theorem list_inj {a b : ByteArray} (h : a.data.toList = b.data.toList) : a = b := by rw [← bs_of a, ← bs_of b, h]
theorem toList_data' (s : ByteArray) : s.toList = s.data.toList := ByteArray.toList_eq s

/-- the letters of the points of a set -/
def txtL (x : Nat) : List UInt8 := ((List.range 4).filter (fun p => x / 2 ^ p % 2 == 1)).map (fun p => (97 + p).toUInt8)
/-- the set whose points have these letters -/
def letN (l : List UInt8) : Nat := ((if l.contains 97 then 1 else 0) + (if l.contains 98 then 2 else 0)) + ((if l.contains 99 then 4 else 0) + (if l.contains 100 then 8 else 0))
theorem txt_let : (List.range 16).all (fun x => letN (txtL x) == x) = true := by decide +kernel
theorem let_txt {x : Nat} (h : x < 16) : letN (txtL x) = x := by
  have := List.all_eq_true.1 txt_let x (List.mem_range.2 h)
  exact beq_iff_eq.1 this
theorem letN_lt (l : List UInt8) : letN l < 16 := by
  unfold letN
  split <;> split <;> split <;> split <;> omega
theorem txt_inj {x y : Nat} (hx : x < 16) (hy : y < 16) (h : txtL x = txtL y) : x = y := by rw [← let_txt hx, h, let_txt hy]
theorem txt_ne : (List.range 16).all (fun x => x == 0 || !(txtL x).isEmpty) = true := by decide +kernel
theorem txt_nonempty {x : Nat} (h1 : 1 ≤ x) (h : x < 16) : txtL x ≠ [] := by
  have := List.all_eq_true.1 txt_ne x (List.mem_range.2 h)
  intro e
  rw [e] at this
  simp at this
  omega
theorem txt_len : (List.range 16).all (fun x => decide ((txtL x).length ≤ 4)) = true := by decide +kernel

/-- the text of a set, and none for what is no set -/
def setL (x : Int) : List UInt8 := if okX x then txtL x.toNat else []
def setT (x : Int) : ByteArray := bs (setL x)
theorem setL_no {x : Int} (h : okX x = false) : setL x = [] := by unfold setL; rw [if_neg (by rw [h]; decide)]
theorem setL_yes {x : Int} (h : okX x = true) : setL x = txtL x.toNat := by unfold setL; rw [if_pos h]
theorem setL_len (x : Int) : (setL x).length ≤ 4 := by
  cases h : okX x with
  | false => rw [setL_no h]; simp
  | true =>
    rw [setL_yes h]
    have := okX_iff.1 h
    have := List.all_eq_true.1 txt_len x.toNat (List.mem_range.2 (by omega))
    exact of_decide_eq_true this
theorem setL_ne {x : Int} (h : okX x = true) : setL x ≠ [] := by
  rw [setL_yes h]
  have := okX_iff.1 h
  exact txt_nonempty (by omega) (by omega)
theorem setL_iff {x : Int} : setL x = [] ↔ okX x = false := by
  cases h : okX x with
  | false => exact ⟨fun _ => rfl, fun _ => setL_no h⟩
  | true => exact ⟨fun e => absurd e (setL_ne h), fun e => by cases e⟩
theorem setL_inj {x y : Int} (hx : okX x = true) (h : setL x = setL y) : x = y := by
  have hy : okX y = true := by
    cases hy : okX y with
    | true => rfl
    | false => rw [setL_no hy] at h; exact absurd h (setL_ne hx)
  rw [setL_yes hx, setL_yes hy] at h
  have h1 := okX_iff.1 hx; have h2 := okX_iff.1 hy
  have := txt_inj (by omega) (by omega) h
  omega

/-- the set whose text this is; 0 if there is none -/
def rdN (l : List UInt8) : Nat := if txtL (letN l) = l then letN l else 0
theorem rdN_lt (l : List UInt8) : rdN l < 16 := by
  unfold rdN
  split
  · exact letN_lt l
  · omega
theorem rdN_text {l : List UInt8} (h : rdN l ≠ 0) : txtL (rdN l) = l := by
  unfold rdN at h ⊢
  split
  · assumption
  · rename_i hn; rw [if_neg hn] at h; exact absurd rfl h
theorem rdN_of {x : Nat} (h : x < 16) : rdN (txtL x) = x := by
  unfold rdN
  rw [let_txt h, if_pos rfl]
theorem rdN_let {l : List UInt8} (h1 : letN l ≠ 0) (h : txtL (letN l) = l) : rdN l = letN l := by unfold rdN; rw [if_pos h]
theorem rdN_no {l : List UInt8} (h : txtL (letN l) ≠ l) : rdN l = 0 := by unfold rdN; rw [if_neg h]
theorem rdN_zero {l : List UInt8} (h : letN l = 0) : rdN l = 0 := by
  unfold rdN
  split
  · exact h
  · rfl
theorem rdN_iff {l : List UInt8} {x : Nat} (h1 : 1 ≤ x) (h : x < 16) : txtL x = l ↔ rdN l = x := by
  constructor
  · intro e; rw [← e, rdN_of h]
  · intro e; rw [← e]; exact rdN_text (by omega)
/-- what ReadSet answers -/
def rdI (l : List UInt8) : Int := if rdN l = 0 then -1 else (rdN l : Int)
def rdB (l : List UInt8) : Bool := rdN l != 0
theorem rd_no {l : List UInt8} (h : rdN l = 0) : rdI l = -1 ∧ rdB l = false := by unfold rdI rdB; rw [h]; exact ⟨rfl, rfl⟩
theorem rd_yes {l : List UInt8} (h : rdN l ≠ 0) : rdI l = (rdN l : Int) ∧ rdB l = true := by
  unfold rdI rdB
  rw [if_neg h]
  exact ⟨rfl, by simpa using h⟩
theorem rd_set {x : Int} (h : okX x = true) : rdI (setL x) = x ∧ rdB (setL x) = true := by
  have h1 := okX_iff.1 h
  rw [setL_yes h]
  have e := rdN_of (x := x.toNat) (by omega)
  obtain ⟨a, b⟩ := rd_yes (l := txtL x.toNat) (by rw [e]; omega)
  rw [a, b, e]
  exact ⟨by omega, rfl⟩
theorem rd_ok {l : List UInt8} (h : rdB l = true) : okX (rdI l) = true ∧ setL (rdI l) = l := by
  have h0 : rdN l ≠ 0 := by unfold rdB at h; simpa using h
  have hl := rdN_lt l
  have e : okX (rdI l) = true := by rw [(rd_yes h0).1, okX_iff]; omega
  refine ⟨e, ?_⟩
  rw [setL_yes e, (rd_yes h0).1, Int.toNat_natCast]
  exact rdN_text h0
theorem rd_bad {l : List UInt8} (h : rdB l = false) : rdI l = -1 := by
  unfold rdB at h
  have : rdN l = 0 := by simpa using h
  exact (rd_no this).1
theorem rdI_rng (l : List UInt8) : rdI l = -1 ∨ (1 ≤ rdI l ∧ rdI l ≤ 15) := by
  cases h : rdB l with
  | false => exact .inl (rd_bad h)
  | true => exact .inr (okX_iff.1 (rd_ok h).1)
end Go.Proofs.YthaickihoagnmaaGreatDoor

namespace Go.Proofs.YthaickihoagnmaaGreatDoor
set_option linter.unusedVariables false
set_option linter.unusedSimpArgs false

/-- the word with which the text of a deed begins -/
def wordL : Nat → List UInt8
  | 0 => [112, 117, 116]
  | 1 => [116, 97, 107, 101]
  | 2 => [112, 111, 105, 110, 116, 115]
  | 3 => [115, 117, 109, 115]
  | 4 => [98, 97, 99, 107]
  | _ => []
/-- a deed that has a text -/
def dOk (k x : Int) : Bool := (decide (0 ≤ k ∧ k ≤ 1) && okX x) || (decide (2 ≤ k ∧ k ≤ 4) && decide (x = 0))
theorem dOk_iff {k x : Int} : dOk k x = true ↔ (0 ≤ k ∧ k ≤ 1 ∧ 1 ≤ x ∧ x ≤ 15) ∨ (2 ≤ k ∧ k ≤ 4 ∧ x = 0) := by
  unfold dOk okX
  simp only [Bool.or_eq_true, Bool.and_eq_true, decide_eq_true_eq]
  omega
/-- the text of a deed, and none for what is none -/
def deedL (k x : Int) : List UInt8 := if dOk k x then (if k ≤ 1 then wordL k.toNat ++ 32 :: setL x else wordL k.toNat) else []
def deedT (k x : Int) : ByteArray := bs (deedL k x)
theorem deedL_no {k x : Int} (h : dOk k x = false) : deedL k x = [] := by unfold deedL; rw [if_neg (by rw [h]; decide)]
/-- all deeds that have texts -/
def deeds : List (Int × Int) := (List.range 15).map (fun i : Nat => ((0 : Int), (i : Int) + 1)) ++ ((List.range 15).map (fun i : Nat => ((1 : Int), (i : Int) + 1)) ++ [(2, 0), (3, 0), (4, 0)])
theorem deeds_mem {k x : Int} : (k, x) ∈ deeds ↔ dOk k x = true := by
  rw [dOk_iff]
  unfold deeds
  simp only [List.mem_append, List.mem_map, List.mem_range, List.mem_cons, Prod.mk.injEq, List.not_mem_nil, or_false]
  constructor
  · rintro (⟨i, hi, rfl, rfl⟩ | ⟨i, hi, rfl, rfl⟩ | ⟨rfl, rfl⟩ | ⟨rfl, rfl⟩ | ⟨rfl, rfl⟩) <;> omega
  · rintro (⟨h1, h2, h3, h4⟩ | ⟨h1, h2, h3⟩)
    · have : k = 0 ∨ k = 1 := by omega
      rcases this with rfl | rfl
      · exact .inl ⟨(x - 1).toNat, by omega, rfl, by omega⟩
      · exact .inr (.inl ⟨(x - 1).toNat, by omega, rfl, by omega⟩)
    · have : k = 2 ∨ k = 3 ∨ k = 4 := by omega
      rcases this with rfl | rfl | rfl
      · exact .inr (.inr (.inl ⟨rfl, h3⟩))
      · exact .inr (.inr (.inr (.inl ⟨rfl, h3⟩)))
      · exact .inr (.inr (.inr (.inr ⟨rfl, h3⟩)))
/-- the deed whose text this is -/
def rdD (l : List UInt8) : Option (Int × Int) := deeds.find? (fun d => deedL d.1 d.2 == l)
theorem rdD_all : deeds.all (fun d => rdD (deedL d.1 d.2) == some d) = true := by decide +kernel
theorem rdD_of {k x : Int} (h : dOk k x = true) : rdD (deedL k x) = some (k, x) := by
  have := List.all_eq_true.1 rdD_all (k, x) (deeds_mem.2 h)
  exact beq_iff_eq.1 this
theorem rdD_some {l : List UInt8} {k x : Int} (h : rdD l = some (k, x)) : dOk k x = true ∧ deedL k x = l := by
  unfold rdD at h
  have h1 := List.mem_of_find?_eq_some h
  have h2 := List.find?_some h
  exact ⟨deeds_mem.1 h1, by simpa using h2⟩
theorem rdD_none {l : List UInt8} (h : rdD l = none) {k x : Int} (hd : dOk k x = true) : deedL k x ≠ l := by
  intro e
  rw [← e, rdD_of hd] at h
  cases h
theorem deed_inj {k x k' x' : Int} (h : dOk k x = true) (e : deedL k x = deedL k' x') : k = k' ∧ x = x' := by
  have h' : dOk k' x' = true := by
    cases hh : dOk k' x' with
    | true => rfl
    | false =>
      rw [deedL_no hh] at e
      have := rdD_of h
      rw [e] at this
      have h3 : rdD [] = none := by decide +kernel
      rw [h3] at this; cases this
  have h1 := rdD_of h
  rw [e, rdD_of h'] at h1
  cases h1
  exact ⟨rfl, rfl⟩
theorem deed_ne_all : deeds.all (fun d => !(deedL d.1 d.2).isEmpty && decide ((deedL d.1 d.2).length ≤ 9) && !(deedL d.1 d.2).contains 10) = true := by decide +kernel
theorem deed_facts {k x : Int} (h : dOk k x = true) : deedL k x ≠ [] ∧ (deedL k x).length ≤ 9 ∧ (10 : UInt8) ∉ deedL k x := by
  have := List.all_eq_true.1 deed_ne_all (k, x) (deeds_mem.2 h)
  simp only [Bool.and_eq_true, Bool.not_eq_true', decide_eq_true_eq] at this
  refine ⟨fun e => ?_, this.1.2, fun e => ?_⟩
  · have := this.1.1
    rw [e] at this; cases this
  · have h2 := this.2
    rw [List.contains_iff_mem.2 e] at h2; cases h2
theorem deed_len (k x : Int) : (deedL k x).length ≤ 9 := by
  cases h : dOk k x with
  | true => exact (deed_facts h).2.1
  | false => rw [deedL_no h]; simp
theorem deedL_iff {k x : Int} : deedL k x = [] ↔ dOk k x = false := by
  cases h : dOk k x with
  | true => exact ⟨fun e => absurd e (deed_facts h).1, fun e => by cases e⟩
  | false => exact ⟨fun _ => rfl, fun _ => deedL_no h⟩
theorem rdD_nil : rdD [] = none := by decide +kernel

/-- ahead of the first space, and behind it -/
def cut1 (l : List UInt8) : List UInt8 := if Lib.indexByte l 32 < 0 then l else l.take (Lib.indexByte l 32).toNat
def cut2 (l : List UInt8) : List UInt8 := if Lib.indexByte l 32 < 0 then [] else l.drop ((Lib.indexByte l 32).toNat + 1)
/-- the kind of a word -/
def idxW (l : List UInt8) : Int := if l = wordL 0 then 0 else if l = wordL 1 then 1 else if l = wordL 2 then 2 else if l = wordL 3 then 3 else if l = wordL 4 then 4 else -1
theorem idxW_rng (l : List UInt8) : -1 ≤ idxW l ∧ idxW l ≤ 4 := by
  unfold idxW
  repeat' split
  all_goals omega
/-- the set that a text of a deed may name -/
def rdX (l : List UInt8) : Int := if rdB l then rdI l else 0
theorem cut_all : deeds.all (fun d => idxW (cut1 (deedL d.1 d.2)) == d.1 && rdX (cut2 (deedL d.1 d.2)) == d.2) = true := by decide +kernel
theorem idxW_nil : idxW (cut1 []) = -1 := by decide +kernel
/-- how a text is read as a deed: by its parts -/
theorem rdD_parts (l : List UInt8) : (idxW (cut1 l) < 0 ∨ deedL (idxW (cut1 l)) (rdX (cut2 l)) ≠ l) ∧ rdD l = none ∨
    (0 ≤ idxW (cut1 l) ∧ deedL (idxW (cut1 l)) (rdX (cut2 l)) = l ∧ rdD l = some (idxW (cut1 l), rdX (cut2 l))) := by
  cases hr : rdD l with
  | none =>
    refine .inl ⟨?_, rfl⟩
    by_cases h : idxW (cut1 l) < 0
    · exact .inl h
    · right
      intro e
      cases hd : dOk (idxW (cut1 l)) (rdX (cut2 l)) with
      | true => exact rdD_none hr hd e
      | false =>
        rw [deedL_no hd] at e
        rw [← e, idxW_nil] at h
        omega
  | some d =>
    obtain ⟨k, x⟩ := d
    obtain ⟨h1, h2⟩ := rdD_some hr
    have := List.all_eq_true.1 cut_all (k, x) (deeds_mem.2 h1)
    simp only [Bool.and_eq_true, beq_iff_eq, h2] at this
    rw [this.1, this.2]
    have h3 := dOk_iff.1 h1
    exact .inr ⟨by omega, h2, rfl⟩

/-- a text of deeds; none if one of them has no text -/
def jtB (ds : List (Int × Int)) : Bool := ds.all (fun d => dOk d.1 d.2)
def jtR (ds : List (Int × Int)) : List UInt8 := (ds.map (fun d => deedL d.1 d.2 ++ [10])).flatten
def jtL (ds : List (Int × Int)) : List UInt8 := if jtB ds then jtR ds else []
theorem jtR_snoc (ds : List (Int × Int)) (d : Int × Int) : jtR (ds ++ [d]) = jtR ds ++ (deedL d.1 d.2 ++ [10]) := by unfold jtR; simp
theorem jtR_cons (ds : List (Int × Int)) (d : Int × Int) : jtR (d :: ds) = deedL d.1 d.2 ++ (10 :: jtR ds) := by unfold jtR; simp
theorem jtR_len (ds : List (Int × Int)) : (jtR ds).length ≤ ds.length * 10 := by
  induction ds with
  | nil => simp [jtR]
  | cons d ds ih =>
    rw [jtR_cons, List.length_append, List.length_cons, List.length_cons]
    have := deed_len d.1 d.2
    omega

/-- the deeds of the lines with which a text begins, and how many bytes they have; f: as many rounds at most -/
def rjF : Nat → List UInt8 → List (Int × Int) × Nat
  | 0, _ => ([], 0)
  | f + 1, l => if Lib.indexByte l 10 < 0 then ([], 0) else
      match rdD (l.take (Lib.indexByte l 10).toNat) with
      | none => ([], 0)
      | some d => (d :: (rjF f (l.drop ((Lib.indexByte l 10).toNat + 1))).1, (Lib.indexByte l 10).toNat + 1 + (rjF f (l.drop ((Lib.indexByte l 10).toNat + 1))).2)
end Go.Proofs.YthaickihoagnmaaGreatDoor

namespace Go.Proofs.YthaickihoagnmaaGreatDoor
set_option linter.unusedVariables false
set_option linter.unusedSimpArgs false

/-- the line of a deed -/
def lnL (d : Int × Int) : List UInt8 := deedL d.1 d.2 ++ [10]
theorem jtR_lines (ds : List (Int × Int)) : jtR ds = (ds.map lnL).flatten := rfl
theorem jtR_nil : jtR [] = [] := rfl
theorem jtR_app (a b : List (Int × Int)) : jtR (a ++ b) = jtR a ++ jtR b := by rw [jtR_lines, jtR_lines, jtR_lines, List.map_append, List.flatten_append]
theorem jtR_cons' (d : Int × Int) (ds : List (Int × Int)) : jtR (d :: ds) = lnL d ++ jtR ds := rfl
/-- a text begins with the line of a deed -/
def Begins (d : Int × Int) (l : List UInt8) : Prop := dOk d.1 d.2 = true ∧ lnL d <+: l
/-- a text ahead of a newline, in which there is none -/
theorem ahead_uniq {a b r s : List UInt8} (ha : (10 : UInt8) ∉ a) (hb : (10 : UInt8) ∉ b) (h : a ++ 10 :: r = b ++ 10 :: s) : a = b ∧ r = s := by
  induction a generalizing b with
  | nil =>
    cases b with
    | nil => simp at h; exact ⟨rfl, h⟩
    | cons x b => simp at h; exact absurd (by rw [h.1]; exact List.mem_cons_self) hb
  | cons x a ih =>
    cases b with
    | nil => simp at h; exact absurd (by rw [← h.1]; exact List.mem_cons_self) ha
    | cons y b =>
      simp only [List.cons_append, List.cons.injEq] at h
      obtain ⟨h1, h2⟩ := ih (fun hx => ha (List.mem_cons_of_mem _ hx)) (fun hx => hb (List.mem_cons_of_mem _ hx)) h.2
      exact ⟨by rw [h.1, h1], h2⟩
/-- behind what has no newline comes one: the line of a deed is what is ahead of it -/
theorem begins_at {d : Int × Int} {a r : List UInt8} (ha : (10 : UInt8) ∉ a) : Begins d (a ++ 10 :: r) ↔ dOk d.1 d.2 = true ∧ deedL d.1 d.2 = a := by
  unfold Begins
  constructor
  · rintro ⟨h, s, hs⟩
    refine ⟨h, ?_⟩
    unfold lnL at hs
    rw [List.append_assoc] at hs
    exact (ahead_uniq (deed_facts h).2.2 ha hs).1
  · rintro ⟨h, e⟩
    refine ⟨h, r, ?_⟩
    unfold lnL
    rw [e, List.append_assoc]; rfl
theorem begins_none {d : Int × Int} {l : List UInt8} (hl : (10 : UInt8) ∉ l) : ¬ Begins d l := by
  rintro ⟨_, s, hs⟩
  apply hl
  rw [← hs]
  unfold lnL
  simp
theorem begins_uniq {d e : Int × Int} {l : List UInt8} (h1 : Begins d l) (h2 : Begins e l) : d = e := by
  obtain ⟨a, r, ha⟩ := h1
  obtain ⟨b, s, hs⟩ := h2
  have h : deedL d.1 d.2 ++ 10 :: r = deedL e.1 e.2 ++ 10 :: s := by
    unfold lnL at ha hs
    rw [List.append_assoc] at ha hs
    exact ha.trans hs.symm
  obtain ⟨x, y⟩ := deed_inj a (ahead_uniq (deed_facts a).2.2 (deed_facts b).2.2 h).1
  exact Prod.ext x y
/-- these deeds are read, and no others -/
structure IsRj (l : List UInt8) (ds : List (Int × Int)) : Prop where
  ok : jtB ds = true
  pre : jtR ds <+: l
  no : ∀ d, ¬ Begins d (l.drop (jtR ds).length)
theorem jtB_cons {d : Int × Int} {ds : List (Int × Int)} : jtB (d :: ds) = true ↔ dOk d.1 d.2 = true ∧ jtB ds = true := by unfold jtB; rw [List.all_cons, Bool.and_eq_true]
theorem jtB_app {a b : List (Int × Int)} : jtB (a ++ b) = true ↔ jtB a = true ∧ jtB b = true := by unfold jtB; rw [List.all_append, Bool.and_eq_true]
theorem drop_pre {a b l : List UInt8} (h : a ++ b <+: l) : b <+: l.drop a.length := by
  obtain ⟨s, rfl⟩ := h
  rw [List.append_assoc, List.drop_left]
  exact ⟨s, rfl⟩
theorem pre_drop {a l : List UInt8} (h : a <+: l) : a ++ l.drop a.length = l := by
  obtain ⟨s, rfl⟩ := h
  rw [List.drop_left]
/-- of any text that begins so, as many deeds at least are read -/
theorem IsRj.most {l m : List UInt8} {ds es : List (Int × Int)} (h : IsRj l ds) (ok : jtB es = true) (pre : jtR es <+: l) : es <+: ds := by
  induction es generalizing l ds with
  | nil => exact List.nil_prefix
  | cons e es ih =>
    obtain ⟨h1, h2⟩ := jtB_cons.1 ok
    rw [jtR_cons'] at pre
    have hb : Begins e l := ⟨h1, (List.prefix_append _ _).trans pre⟩
    cases ds with
    | nil => exact absurd hb (h.no e)
    | cons d ds =>
      obtain ⟨k1, k2⟩ := jtB_cons.1 h.ok
      have hp := h.pre
      rw [jtR_cons'] at hp
      have hd : Begins d l := ⟨k1, (List.prefix_append _ _).trans hp⟩
      have ede := begins_uniq hb hd
      subst ede
      rw [List.cons_prefix_cons]
      refine ⟨rfl, ih (l := l.drop (lnL e).length) ⟨k2, drop_pre hp, fun x => ?_⟩ h2 (drop_pre pre)⟩
      have := h.no x
      rw [jtR_cons', List.length_append, ← List.drop_drop] at this
      exact this
theorem IsRj.uniq {l : List UInt8} {ds es : List (Int × Int)} (h : IsRj l ds) (k : IsRj l es) : ds = es := by
  have h1 := h.most (m := []) k.ok k.pre
  have h2 := k.most (m := []) h.ok h.pre
  exact h2.eq_of_length (Nat.le_antisymm h2.length_le h1.length_le)
/-- a text of deeds is read as these deeds -/
theorem IsRj.of (ds : List (Int × Int)) (h : jtB ds = true) : IsRj (jtR ds) ds :=
  ⟨h, List.prefix_refl _, fun d => by rw [List.drop_length]; exact begins_none (by simp)⟩
theorem IsRj.cut {l : List UInt8} {ds es : List (Int × Int)} {k : Nat} (h : IsRj l ds) (g : IsRj (l.take k) es) : es <+: ds :=
  h.most (m := []) g.ok (g.pre.trans (List.take_prefix _ _))
/-- the empty list of deeds so far; one deed more; no more -/
structure RjS (l : List UInt8) (ds : List (Int × Int)) (p : Nat) : Prop where
  ok : jtB ds = true
  pre : jtR ds <+: l
  len : (jtR ds).length = p
theorem RjS.none (l : List UInt8) : RjS l [] 0 := ⟨rfl, List.nil_prefix, rfl⟩
theorem RjS.more {l a r : List UInt8} {ds : List (Int × Int)} {p : Nat} {d : Int × Int} (h : RjS l ds p) (e : l.drop p = a ++ 10 :: r) (hd : rdD a = some d) : RjS l (ds ++ [d]) (p + a.length + 1) := by
  obtain ⟨k, x⟩ := d
  obtain ⟨h1, h2⟩ := rdD_some hd
  refine ⟨jtB_app.2 ⟨h.ok, by unfold jtB; simp [h1]⟩, ?_, ?_⟩
  · rw [jtR_app]
    refine ⟨r, ?_⟩
    rw [List.append_assoc]
    have : jtR [(k, x)] ++ r = l.drop p := by rw [e, jtR_cons', jtR_nil, lnL, h2]; simp
    rw [this, ← h.len]
    exact pre_drop h.pre
  · rw [jtR_app, List.length_append, h.len, jtR_cons', jtR_nil, lnL, h2]; simp; omega
theorem RjS.stop {l a r : List UInt8} {ds : List (Int × Int)} {p : Nat} (h : RjS l ds p) (e : l.drop p = a ++ 10 :: r) (ha : (10 : UInt8) ∉ a) (hd : rdD a = Option.none) : IsRj l ds :=
  ⟨h.ok, h.pre, fun d hb => by
    rw [h.len, e] at hb
    obtain ⟨h1, h2⟩ := (begins_at ha).1 hb
    exact rdD_none hd h1 h2⟩
theorem RjS.last {l : List UInt8} {ds : List (Int × Int)} {p : Nat} (h : RjS l ds p) (ha : (10 : UInt8) ∉ l.drop p) : IsRj l ds :=
  ⟨h.ok, h.pre, fun d hb => by rw [h.len] at hb; exact begins_none ha hb⟩
end Go.Proofs.YthaickihoagnmaaGreatDoor
