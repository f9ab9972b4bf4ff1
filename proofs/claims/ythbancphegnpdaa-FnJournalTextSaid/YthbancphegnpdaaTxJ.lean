import Derived.Test.YthbancphegnpdaaTxD
namespace Go.Proofs.Ythbancphegnpdaa
set_option linter.unusedVariables false
set_option linter.unusedSimpArgs false

/-- the line of a deed -/
def lnL (d : Int × Int) : List UInt8 := deedL d.1 d.2 ++ [10]
theorem jtR_lines (ds : List (Int × Int)) : jtR ds = (ds.map lnL).flatten := rfl
theorem jtR_nil : jtR [] = [] := rfl
theorem jtR_app (a b : List (Int × Int)) : jtR (a ++ b) = jtR a ++ jtR b := by rw [jtR_lines, jtR_lines, jtR_lines, List.map_append, List.flatten_append]
theorem jtR_cons' (d : Int × Int) (ds : List (Int × Int)) : jtR (d :: ds) = lnL d ++ jtR ds := rfl
/-- a text begins with the line of a deed -/
def Begins (d : Int × Int) (l : List UInt8) : Prop := dOk d.1 d.2 = true ∧ lnL d <+: l
/-- a text ahead of a newline, in which there is none -/
theorem ahead_uniq {a b r s : List UInt8} (ha : (10 : UInt8) ∉ a) (hb : (10 : UInt8) ∉ b) (h : a ++ 10 :: r = b ++ 10 :: s) : a = b ∧ r = s := by
  induction a generalizing b with
  | nil =>
    cases b with
    | nil => simp at h; exact ⟨rfl, h⟩
    | cons x b => simp at h; exact absurd (by rw [h.1]; exact List.mem_cons_self) hb
  | cons x a ih =>
    cases b with
    | nil => simp at h; exact absurd (by rw [← h.1]; exact List.mem_cons_self) ha
    | cons y b =>
      simp only [List.cons_append, List.cons.injEq] at h
      obtain ⟨h1, h2⟩ := ih (fun hx => ha (List.mem_cons_of_mem _ hx)) (fun hx => hb (List.mem_cons_of_mem _ hx)) h.2
      exact ⟨by rw [h.1, h1], h2⟩
/-- behind what has no newline comes one: the line of a deed is what is ahead of it -/
theorem begins_at {d : Int × Int} {a r : List UInt8} (ha : (10 : UInt8) ∉ a) : Begins d (a ++ 10 :: r) ↔ dOk d.1 d.2 = true ∧ deedL d.1 d.2 = a := by
  unfold Begins
  constructor
  · rintro ⟨h, s, hs⟩
    refine ⟨h, ?_⟩
    unfold lnL at hs
    rw [List.append_assoc] at hs
    exact (ahead_uniq (deed_facts h).2.2 ha hs).1
  · rintro ⟨h, e⟩
    refine ⟨h, r, ?_⟩
    unfold lnL
    rw [e, List.append_assoc]; rfl
theorem begins_none {d : Int × Int} {l : List UInt8} (hl : (10 : UInt8) ∉ l) : ¬ Begins d l := by
  rintro ⟨_, s, hs⟩
  apply hl
  rw [← hs]
  unfold lnL
  simp
theorem begins_uniq {d e : Int × Int} {l : List UInt8} (h1 : Begins d l) (h2 : Begins e l) : d = e := by
  obtain ⟨a, r, ha⟩ := h1
  obtain ⟨b, s, hs⟩ := h2
  have h : deedL d.1 d.2 ++ 10 :: r = deedL e.1 e.2 ++ 10 :: s := by
    unfold lnL at ha hs
    rw [List.append_assoc] at ha hs
    exact ha.trans hs.symm
  obtain ⟨x, y⟩ := deed_inj a (ahead_uniq (deed_facts a).2.2 (deed_facts b).2.2 h).1
  exact Prod.ext x y
/-- these deeds are read, and no others -/
structure IsRj (l : List UInt8) (ds : List (Int × Int)) : Prop where
  ok : jtB ds = true
  pre : jtR ds <+: l
  no : ∀ d, ¬ Begins d (l.drop (jtR ds).length)
theorem jtB_cons {d : Int × Int} {ds : List (Int × Int)} : jtB (d :: ds) = true ↔ dOk d.1 d.2 = true ∧ jtB ds = true := by unfold jtB; rw [List.all_cons, Bool.and_eq_true]
theorem jtB_app {a b : List (Int × Int)} : jtB (a ++ b) = true ↔ jtB a = true ∧ jtB b = true := by unfold jtB; rw [List.all_append, Bool.and_eq_true]
theorem drop_pre {a b l : List UInt8} (h : a ++ b <+: l) : b <+: l.drop a.length := by
  obtain ⟨s, rfl⟩ := h
  rw [List.append_assoc, List.drop_left]
  exact ⟨s, rfl⟩
theorem pre_drop {a l : List UInt8} (h : a <+: l) : a ++ l.drop a.length = l := by
  obtain ⟨s, rfl⟩ := h
  rw [List.drop_left]
/-- of any text that begins so, as many deeds at least are read -/
theorem IsRj.most {l m : List UInt8} {ds es : List (Int × Int)} (h : IsRj l ds) (ok : jtB es = true) (pre : jtR es <+: l) : es <+: ds := by
  induction es generalizing l ds with
  | nil => exact List.nil_prefix
  | cons e es ih =>
    obtain ⟨h1, h2⟩ := jtB_cons.1 ok
    rw [jtR_cons'] at pre
    have hb : Begins e l := ⟨h1, (List.prefix_append _ _).trans pre⟩
    cases ds with
    | nil => exact absurd hb (h.no e)
    | cons d ds =>
      obtain ⟨k1, k2⟩ := jtB_cons.1 h.ok
      have hp := h.pre
      rw [jtR_cons'] at hp
      have hd : Begins d l := ⟨k1, (List.prefix_append _ _).trans hp⟩
      have ede := begins_uniq hb hd
      subst ede
      rw [List.cons_prefix_cons]
      refine ⟨rfl, ih (l := l.drop (lnL e).length) ⟨k2, drop_pre hp, fun x => ?_⟩ h2 (drop_pre pre)⟩
      have := h.no x
      rw [jtR_cons', List.length_append, ← List.drop_drop] at this
      exact this
theorem IsRj.uniq {l : List UInt8} {ds es : List (Int × Int)} (h : IsRj l ds) (k : IsRj l es) : ds = es := by
  have h1 := h.most (m := []) k.ok k.pre
  have h2 := k.most (m := []) h.ok h.pre
  exact h2.eq_of_length (Nat.le_antisymm h2.length_le h1.length_le)
/-- a text of deeds is read as these deeds -/
theorem IsRj.of (ds : List (Int × Int)) (h : jtB ds = true) : IsRj (jtR ds) ds :=
  ⟨h, List.prefix_refl _, fun d => by rw [List.drop_length]; exact begins_none (by simp)⟩
theorem IsRj.cut {l : List UInt8} {ds es : List (Int × Int)} {k : Nat} (h : IsRj l ds) (g : IsRj (l.take k) es) : es <+: ds :=
  h.most (m := []) g.ok (g.pre.trans (List.take_prefix _ _))
/-- the empty list of deeds so far; one deed more; no more -/
structure RjS (l : List UInt8) (ds : List (Int × Int)) (p : Nat) : Prop where
  ok : jtB ds = true
  pre : jtR ds <+: l
  len : (jtR ds).length = p
theorem RjS.none (l : List UInt8) : RjS l [] 0 := ⟨rfl, List.nil_prefix, rfl⟩
theorem RjS.more {l a r : List UInt8} {ds : List (Int × Int)} {p : Nat} {d : Int × Int} (h : RjS l ds p) (e : l.drop p = a ++ 10 :: r) (hd : rdD a = some d) : RjS l (ds ++ [d]) (p + a.length + 1) := by
  obtain ⟨k, x⟩ := d
  obtain ⟨h1, h2⟩ := rdD_some hd
  refine ⟨jtB_app.2 ⟨h.ok, by unfold jtB; simp [h1]⟩, ?_, ?_⟩
  · rw [jtR_app]
    refine ⟨r, ?_⟩
    rw [List.append_assoc]
    have : jtR [(k, x)] ++ r = l.drop p := by rw [e, jtR_cons', jtR_nil, lnL, h2]; simp
    rw [this, ← h.len]
    exact pre_drop h.pre
  · rw [jtR_app, List.length_append, h.len, jtR_cons', jtR_nil, lnL, h2]; simp; omega
theorem RjS.stop {l a r : List UInt8} {ds : List (Int × Int)} {p : Nat} (h : RjS l ds p) (e : l.drop p = a ++ 10 :: r) (ha : (10 : UInt8) ∉ a) (hd : rdD a = Option.none) : IsRj l ds :=
  ⟨h.ok, h.pre, fun d hb => by
    rw [h.len, e] at hb
    obtain ⟨h1, h2⟩ := (begins_at ha).1 hb
    exact rdD_none hd h1 h2⟩
theorem RjS.last {l : List UInt8} {ds : List (Int × Int)} {p : Nat} (h : RjS l ds p) (ha : (10 : UInt8) ∉ l.drop p) : IsRj l ds :=
  ⟨h.ok, h.pre, fun d hb => by rw [h.len] at hb; exact begins_none ha hb⟩
end Go.Proofs.Ythbancphegnpdaa
