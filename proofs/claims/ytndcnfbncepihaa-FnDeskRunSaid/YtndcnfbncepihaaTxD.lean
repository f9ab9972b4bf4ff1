import Derived.Test.YtndcnfbncepihaaTxM
namespace Go.Proofs.Ytndcnfbncepihaa
set_option linter.unusedVariables false
set_option linter.unusedSimpArgs false

/-- the word with which the text of a deed begins -/
def wordL : Nat → List UInt8
  | 0 => [112, 117, 116]
  | 1 => [116, 97, 107, 101]
  | 2 => [112, 111, 105, 110, 116, 115]
  | 3 => [115, 117, 109, 115]
  | 4 => [98, 97, 99, 107]
  | _ => []
/-- a deed that has a text -/
def dOk (k x : Int) : Bool := (decide (0 ≤ k ∧ k ≤ 1) && okX x) || (decide (2 ≤ k ∧ k ≤ 4) && decide (x = 0))
theorem dOk_iff {k x : Int} : dOk k x = true ↔ (0 ≤ k ∧ k ≤ 1 ∧ 1 ≤ x ∧ x ≤ 15) ∨ (2 ≤ k ∧ k ≤ 4 ∧ x = 0) := by
  unfold dOk okX
  simp only [Bool.or_eq_true, Bool.and_eq_true, decide_eq_true_eq]
  omega
/-- the text of a deed, and none for what is none -/
def deedL (k x : Int) : List UInt8 := if dOk k x then (if k ≤ 1 then wordL k.toNat ++ 32 :: setL x else wordL k.toNat) else []
def deedT (k x : Int) : ByteArray := bs (deedL k x)
theorem deedL_no {k x : Int} (h : dOk k x = false) : deedL k x = [] := by unfold deedL; rw [if_neg (by rw [h]; decide)]
/-- all deeds that have texts -/
def deeds : List (Int × Int) := (List.range 15).map (fun i : Nat => ((0 : Int), (i : Int) + 1)) ++ ((List.range 15).map (fun i : Nat => ((1 : Int), (i : Int) + 1)) ++ [(2, 0), (3, 0), (4, 0)])
theorem deeds_mem {k x : Int} : (k, x) ∈ deeds ↔ dOk k x = true := by
  rw [dOk_iff]
  unfold deeds
  simp only [List.mem_append, List.mem_map, List.mem_range, List.mem_cons, Prod.mk.injEq, List.not_mem_nil, or_false]
  constructor
  · rintro (⟨i, hi, rfl, rfl⟩ | ⟨i, hi, rfl, rfl⟩ | ⟨rfl, rfl⟩ | ⟨rfl, rfl⟩ | ⟨rfl, rfl⟩) <;> omega
  · rintro (⟨h1, h2, h3, h4⟩ | ⟨h1, h2, h3⟩)
    · have : k = 0 ∨ k = 1 := by omega
      rcases this with rfl | rfl
      · exact .inl ⟨(x - 1).toNat, by omega, rfl, by omega⟩
      · exact .inr (.inl ⟨(x - 1).toNat, by omega, rfl, by omega⟩)
    · have : k = 2 ∨ k = 3 ∨ k = 4 := by omega
      rcases this with rfl | rfl | rfl
      · exact .inr (.inr (.inl ⟨rfl, h3⟩))
      · exact .inr (.inr (.inr (.inl ⟨rfl, h3⟩)))
      · exact .inr (.inr (.inr (.inr ⟨rfl, h3⟩)))
/-- the deed whose text this is -/
def rdD (l : List UInt8) : Option (Int × Int) := deeds.find? (fun d => deedL d.1 d.2 == l)
theorem rdD_all : deeds.all (fun d => rdD (deedL d.1 d.2) == some d) = true := by decide +kernel
theorem rdD_of {k x : Int} (h : dOk k x = true) : rdD (deedL k x) = some (k, x) := by
  have := List.all_eq_true.1 rdD_all (k, x) (deeds_mem.2 h)
  exact beq_iff_eq.1 this
theorem rdD_some {l : List UInt8} {k x : Int} (h : rdD l = some (k, x)) : dOk k x = true ∧ deedL k x = l := by
  unfold rdD at h
  have h1 := List.mem_of_find?_eq_some h
  have h2 := List.find?_some h
  exact ⟨deeds_mem.1 h1, by simpa using h2⟩
theorem rdD_none {l : List UInt8} (h : rdD l = none) {k x : Int} (hd : dOk k x = true) : deedL k x ≠ l := by
  intro e
  rw [← e, rdD_of hd] at h
  cases h
theorem deed_inj {k x k' x' : Int} (h : dOk k x = true) (e : deedL k x = deedL k' x') : k = k' ∧ x = x' := by
  have h' : dOk k' x' = true := by
    cases hh : dOk k' x' with
    | true => rfl
    | false =>
      rw [deedL_no hh] at e
      have := rdD_of h
      rw [e] at this
      have h3 : rdD [] = none := by decide +kernel
      rw [h3] at this; cases this
  have h1 := rdD_of h
  rw [e, rdD_of h'] at h1
  cases h1
  exact ⟨rfl, rfl⟩
theorem deed_ne_all : deeds.all (fun d => !(deedL d.1 d.2).isEmpty && decide ((deedL d.1 d.2).length ≤ 9) && !(deedL d.1 d.2).contains 10) = true := by decide +kernel
theorem deed_facts {k x : Int} (h : dOk k x = true) : deedL k x ≠ [] ∧ (deedL k x).length ≤ 9 ∧ (10 : UInt8) ∉ deedL k x := by
  have := List.all_eq_true.1 deed_ne_all (k, x) (deeds_mem.2 h)
  simp only [Bool.and_eq_true, Bool.not_eq_true', decide_eq_true_eq] at this
  refine ⟨fun e => ?_, this.1.2, fun e => ?_⟩
  · have := this.1.1
    rw [e] at this; cases this
  · have h2 := this.2
    rw [List.contains_iff_mem.2 e] at h2; cases h2
theorem deed_len (k x : Int) : (deedL k x).length ≤ 9 := by
  cases h : dOk k x with
  | true => exact (deed_facts h).2.1
  | false => rw [deedL_no h]; simp
theorem deedL_iff {k x : Int} : deedL k x = [] ↔ dOk k x = false := by
  cases h : dOk k x with
  | true => exact ⟨fun e => absurd e (deed_facts h).1, fun e => by cases e⟩
  | false => exact ⟨fun _ => rfl, fun _ => deedL_no h⟩
theorem rdD_nil : rdD [] = none := by decide +kernel

/-- ahead of the first space, and behind it -/
def cut1 (l : List UInt8) : List UInt8 := if Lib.indexByte l 32 < 0 then l else l.take (Lib.indexByte l 32).toNat
def cut2 (l : List UInt8) : List UInt8 := if Lib.indexByte l 32 < 0 then [] else l.drop ((Lib.indexByte l 32).toNat + 1)
/-- the kind of a word -/
def idxW (l : List UInt8) : Int := if l = wordL 0 then 0 else if l = wordL 1 then 1 else if l = wordL 2 then 2 else if l = wordL 3 then 3 else if l = wordL 4 then 4 else -1
theorem idxW_rng (l : List UInt8) : -1 ≤ idxW l ∧ idxW l ≤ 4 := by
  unfold idxW
  repeat' split
  all_goals omega
/-- the set that a text of a deed may name -/
def rdX (l : List UInt8) : Int := if rdB l then rdI l else 0
theorem cut_all : deeds.all (fun d => idxW (cut1 (deedL d.1 d.2)) == d.1 && rdX (cut2 (deedL d.1 d.2)) == d.2) = true := by decide +kernel
theorem idxW_nil : idxW (cut1 []) = -1 := by decide +kernel
/-- how a text is read as a deed: by its parts -/
theorem rdD_parts (l : List UInt8) : (idxW (cut1 l) < 0 ∨ deedL (idxW (cut1 l)) (rdX (cut2 l)) ≠ l) ∧ rdD l = none ∨
    (0 ≤ idxW (cut1 l) ∧ deedL (idxW (cut1 l)) (rdX (cut2 l)) = l ∧ rdD l = some (idxW (cut1 l), rdX (cut2 l))) := by
  cases hr : rdD l with
  | none =>
    refine .inl ⟨?_, rfl⟩
    by_cases h : idxW (cut1 l) < 0
    · exact .inl h
    · right
      intro e
      cases hd : dOk (idxW (cut1 l)) (rdX (cut2 l)) with
      | true => exact rdD_none hr hd e
      | false =>
        rw [deedL_no hd] at e
        rw [← e, idxW_nil] at h
        omega
  | some d =>
    obtain ⟨k, x⟩ := d
    obtain ⟨h1, h2⟩ := rdD_some hr
    have := List.all_eq_true.1 cut_all (k, x) (deeds_mem.2 h1)
    simp only [Bool.and_eq_true, beq_iff_eq, h2] at this
    rw [this.1, this.2]
    have h3 := dOk_iff.1 h1
    exact .inr ⟨by omega, h2, rfl⟩

/-- a text of deeds; none if one of them has no text -/
def jtB (ds : List (Int × Int)) : Bool := ds.all (fun d => dOk d.1 d.2)
def jtR (ds : List (Int × Int)) : List UInt8 := (ds.map (fun d => deedL d.1 d.2 ++ [10])).flatten
def jtL (ds : List (Int × Int)) : List UInt8 := if jtB ds then jtR ds else []
theorem jtR_snoc (ds : List (Int × Int)) (d : Int × Int) : jtR (ds ++ [d]) = jtR ds ++ (deedL d.1 d.2 ++ [10]) := by unfold jtR; simp
theorem jtR_cons (ds : List (Int × Int)) (d : Int × Int) : jtR (d :: ds) = deedL d.1 d.2 ++ (10 :: jtR ds) := by unfold jtR; simp
theorem jtR_len (ds : List (Int × Int)) : (jtR ds).length ≤ ds.length * 10 := by
  induction ds with
  | nil => simp [jtR]
  | cons d ds ih =>
    rw [jtR_cons, List.length_append, List.length_cons, List.length_cons]
    have := deed_len d.1 d.2
    omega

/-- the deeds of the lines with which a text begins, and how many bytes they have; f: as many rounds at most -/
def rjF : Nat → List UInt8 → List (Int × Int) × Nat
  | 0, _ => ([], 0)
  | f + 1, l => if Lib.indexByte l 10 < 0 then ([], 0) else
      match rdD (l.take (Lib.indexByte l 10).toNat) with
      | none => ([], 0)
      | some d => (d :: (rjF f (l.drop ((Lib.indexByte l 10).toNat + 1))).1, (Lib.indexByte l 10).toNat + 1 + (rjF f (l.drop ((Lib.indexByte l 10).toNat + 1))).2)
end Go.Proofs.Ytndcnfbncepihaa
