import Derived.Test.YthaickihoagnmaaGreatDoorDkSeven
namespace Go.Proofs.YthaickihoagnmaaGreatDoor
set_option linter.unusedVariables false
set_option linter.unusedSimpArgs false
open Go.RowKit Go.Maps

theorem DeskR.one {w : World} {a b : Option Addr} {c c2 : Nat} {xs : List Int} {L : List (List Int)} (h : DeskR w (.agg #[.slice a xs.length c, .slice b L.length c2]) xs L) : DeskR w (.agg #[.slice a xs.length c, .slice none 0 0]) xs [] := by
  obtain ⟨a', c', b', c2', e, h1, h2, h3, h4⟩ := h
  injection e with e
  have e1 := congrArg (fun q : Array Value => q.getD 0 undef) e
  injection e1 with e2 e3 e4
  subst e2; subst e4
  exact ⟨⟨_, _, none, 0, rfl, h1, Nat.le_refl _, h3, ⟨by simp, .inl rfl⟩⟩⟩
theorem deskB_one {xs : List Int} {L : List (List Int)} (h : deskB xs L = true) : deskB xs [] = true := deskB_iff.2 ⟨(deskB_iff.1 h).1, by simp, fun l hl => by cases hl⟩
theorem deskB_zero : deskB [] [] = false := by unfold deskB; rw [famL_nil]; rfl

end Go.Proofs.YthaickihoagnmaaGreatDoor

namespace Go.Proofs.YthaickihoagnmaaGreatDoor
set_option linter.unusedVariables false
set_option linter.unusedSimpArgs false
open Go.RowKit Go.Maps

/-- a desk that is handed back, to read -/
theorem okD.gives {ys : List Int} {M : List (List Int)} {w w' : World} {v1 v2 : Value} (hk : okD ys M) (h : GivesD ys M w w' v1 v2) :
    ∃ a c b c2, v1 = .slice a ys.length c ∧ v2 = .slice b M.length c2 ∧ DeskR w' (.agg #[.slice a ys.length c, .slice b M.length c2]) ys M ∧ Below w.heap.size w w' := by
  obtain ⟨h1, h2, ⟨a, c, rfl⟩, b, c2, rfl⟩ := h.read ⟨by have := hk.1.1; omega, hk.1.2⟩ (fun l hl => ⟨by have := (hk.2.2 l hl).1; omega, (hk.2.2 l hl).2⟩)
  exact ⟨a, c, b, c2, rfl, rfl, h1, h2⟩
/-- two desks that are small and the same -/
theorem okD9.same {ys : List Int} {M : List (List Int)} (hk : okD9 ys M) (d1 d2 : Value) (w : World) (h1 : DeskR w d1 ys M) (h2 : DeskR w d2 ys M) :
    Calls Tryz.prog 18 #[d1, d2] w fun e w' => e = .returned (.bool true) ∧ Below w.heap.size w w' :=
  sameDesk_any d1 d2 ys M (by have := hk.1.1; omega) (by have := hk.2.1; omega) (fun l hl => by have := (hk.2.2 l hl).1; omega) w h1 h2
/-- what lies in a variable: a desk -/
structure VarD (w : World) (A : Nat) (a b : Option Addr) (c c2 : Nat) (xs : List Int) (L : List (List Int)) : Prop where
  blk : Blk2 w A 31 (.slice a xs.length c) (.slice b L.length c2)
  d : DeskR w (.agg #[.slice a xs.length c, .slice b L.length c2]) xs L
theorem VarD.kept {w w' : World} {A : Nat} {a b : Option Addr} {c c2 : Nat} {xs : List Int} {L : List (List Int)} (h : VarD w A a b c c2 xs L) (hb : Below w.heap.size w w') : VarD w' A a b c c2 xs L := ⟨h.blk.kept hb h.blk.lt, h.d.kept hb⟩
theorem VarD.new {w : World} {a b : Option Addr} {c c2 : Nat} {xs : List Int} {L : List (List Int)} (h : DeskR w (.agg #[.slice a xs.length c, .slice b L.length c2]) xs L) : VarD (w.alloc (.cells #[.slice a xs.length c, .slice b L.length c2] 31)) w.heap.size a b c c2 xs L :=
  ⟨Blk2.new w _ _ _, h.kept (alloc_below w _)⟩
theorem DeskR.now {w : World} {a b : Option Addr} {c c2 : Nat} {xs : List Int} {L : List (List Int)} (h : DeskR w (.agg #[.slice a xs.length c, .slice b L.length c2]) xs L) : Ints w a xs.length (fun j => xs.getD j 0) := by
  obtain ⟨a', c', b', c2', e, h1, h2, h3, h4⟩ := h
  injection e with e
  have e1 := congrArg (fun q : Array Value => q.getD 0 undef) e
  injection e1 with e2 e3 e4
  subst e2
  exact h3

end Go.Proofs.YthaickihoagnmaaGreatDoor
