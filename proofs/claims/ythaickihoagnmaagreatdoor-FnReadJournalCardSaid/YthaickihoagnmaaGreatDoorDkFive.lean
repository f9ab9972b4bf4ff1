import Derived.Test.YthaickihoagnmaaGreatDoorDkFour
import Derived.Test.YthaickihoagnmaaGreatDoorDkOne
namespace Go.Proofs.YthaickihoagnmaaGreatDoor
set_option linter.unusedVariables false
set_option linter.unusedSimpArgs false
open Go.RowKit Go.Maps

theorem specDeskDo_any (d : Value) (xs : List Int) (L : List (List Int)) (k x : Int) (hx : I64 x) (w : World) (h : DeskR w d xs L) :
    Calls Tryz.prog 67 #[d, .agg #[.int .i64 k, .int .i64 x]] w (DoneP (dkB xs L k x) (dkX xs L k x) (dkL xs L k x) w) := by
  cases hdk : deskB xs L with
  | false =>
    obtain ⟨e1, e2, e3⟩ := dk_none (k := k) (x := x) hdk
    rw [e1, e2, e3]
    exact specDeskDo_no d xs L k x hx hdk w h
  | true =>
    by_cases hB : k = 4 ∧ x = 0 ∧ L ≠ []
    · obtain ⟨rfl, rfl, hne⟩ := hB
      rw [dkB_back hdk, (dk_back hdk hne).1, (dk_back hdk hne).2, decide_eq_true hne]
      exact specDeskDo_back d xs L hdk hne w h
    · obtain ⟨e1, e2, e3⟩ := dk_other hdk hB
      rw [e1, e2, e3]
      by_cases h4 : k = 4 ∧ x = 0
      · obtain ⟨rfl, rfl⟩ := h4
        have hL : L = [] := by
          by_cases hL : L = []
          · exact hL
          · exact absurd ⟨rfl, rfl, hL⟩ hB
        have hcb : chB xs 4 0 = false := chB_fam (by rw [show mdL xs 4 0 = [] from rfl]; exact famL_nil)
        exact specDeskDo_nil d xs L hdk hL hcb w h
      · cases hcb : chB xs k x with
        | true => have := specDeskDo_yes d xs L k x hx hdk h4 hcb w h; rw [hcb] at this; exact this
        | false => have := specDeskDo_keep d xs L k x hx hdk h4 hcb w h; rw [hcb] at this; exact this

/-! ### desks in variables -/
/-- small families -/
def okD (ys : List Int) (M : List (List Int)) : Prop := (ys.length ≤ 7 ∧ I64s ys) ∧ M.length ≤ 8 ∧ ∀ l ∈ M, l.length ≤ 7 ∧ I64s l
theorem okD_nil : okD [] [] := ⟨⟨by simp, fun y hy => by simp at hy⟩, by simp, fun l hl => by simp at hl⟩
theorem okD_desk {ys : List Int} {M : List (List Int)} (h : deskB ys M = true) : okD ys M := by
  obtain ⟨h1, h2, h3⟩ := deskB_iff.1 h
  exact ⟨⟨(famL_len h1).2, famL_I64 h1⟩, h2, fun l hl => ⟨(famL_len (h3 l hl)).2, famL_I64 (h3 l hl)⟩⟩
theorem okD_do (xs : List Int) (L : List (List Int)) (k x : Int) : okD (dkX xs L k x) (dkL xs L k x) := by
  cases hdk : deskB xs L with
  | true => exact okD_desk (dk_desk hdk)
  | false =>
    obtain ⟨_, e2, e3⟩ := dk_none (k := k) (x := x) hdk
    rw [e2, e3]; exact okD_nil
theorem okD_new (xs : List Int) : okD (if famL xs then xs else []) [] := by
  cases h : famL xs with
  | true => exact ⟨⟨(famL_len h).2, famL_I64 h⟩, by simp, fun l hl => by simp at hl⟩
  | false => exact okD_nil
theorem okD.tot {ys : List Int} {M : List (List Int)} (h : okD ys M) {rs : List Fr} (hr : rs.map Fr.xs = M) : totF rs ≤ 56 := by
  obtain ⟨_, h2, h3⟩ := h
  have key : ∀ N : List (List Int), (∀ l ∈ N, l.length ≤ 7) → (N.map List.length).sum ≤ 7 * N.length := by
    intro N
    induction N with
    | nil => intro _; simp
    | cons l N ih =>
      intro hN
      have := ih (fun l hl => hN l (List.mem_cons_of_mem _ hl))
      have := hN l (List.mem_cons_self)
      rw [List.map_cons, List.sum_cons, List.length_cons]; omega
  have := key M (fun l hl => (h3 l hl).1)
  unfold totF
  rw [hr]; omega
/-- a desk in a variable of its own; all lies in blocks from B to T -/
structure DeskV (W : World) (B T b : Nat) (v1 v2 : Value) (ys : List Int) (rs : List Fr) : Prop where
  blk : Blk2 W b 31 v1 v2
  g : DeskG W B v1 v2 ys rs
  ne : ¬ DkBl v1 v2 rs b
  lo : B ≤ b
  hi : b < T ∧ ∀ q, DkBl v1 v2 rs q → q < T
theorem deskV_of {w w5 : World} {v1 v2 : Value} {ys : List Int} {M : List (List Int)} (h : GivesD ys M w w5 v1 v2) :
    ∃ rs, DeskV (w5.alloc (.cells #[v1, v2] 31)) w.heap.size (w5.heap.size + 1) w5.heap.size v1 v2 ys rs ∧ rs.map Fr.xs = M := by
  obtain ⟨rs, hg, hrs, hb⟩ := h
  exact ⟨rs, ⟨Blk2.new _ _ _ _, hg.kept (alloc_below _ _), fun e => by have := (hg.ltB _ e).2; omega, hb.size, Nat.lt_succ_self _, fun q hq => by have := (hg.ltB q hq).2; omega⟩, hrs⟩
/-- the same, where the variable was made before -/
theorem deskV_set {w w5 : World} {B b : Nat} {v1 v2 x y : Value} {ys : List Int} {M : List (List Int)} (h : GivesD ys M w w5 v1 v2) (hblk : Blk2 w b 31 x y) (hB : B ≤ b) :
    ∃ rs, DeskV ((w5.setCell ⟨b, 0, none⟩ v1).setCell ⟨b, 1, none⟩ v2) B w5.heap.size b v1 v2 ys rs ∧ rs.map Fr.xs = M := by
  obtain ⟨rs, hg, hrs, hb⟩ := h
  have hbl := hblk.lt
  exact ⟨rs, ⟨((hblk.kept hb hbl).set0 v1).set1 v2, ((hg.put (p := ⟨b, 0, none⟩) hbl).put (p := ⟨b, 1, none⟩) hbl).base (by omega), fun e => by have := (hg.ltB _ e).1; omega, hB, Nat.lt_of_lt_of_le hbl hb.size, fun q hq => (hg.ltB q hq).2⟩, hrs⟩
theorem DeskV.kept {W W' : World} {B T b : Nat} {v1 v2 : Value} {ys : List Int} {rs : List Fr} (h : DeskV W B T b v1 v2 ys rs) (hb : Below W.heap.size W W') : DeskV W' B T b v1 v2 ys rs := ⟨h.blk.kept hb h.blk.lt, h.g.kept hb, h.ne, h.lo, h.hi⟩
theorem DeskV.upon {F : Nat → Prop} {W W' : World} {B T b : Nat} {v1 v2 : Value} {ys : List Int} {rs : List Fr} (h : DeskV W B T b v1 v2 ys rs) (hu : Upon F W W') (hF : ∀ q, B ≤ q → q < T → ¬ F q) : DeskV W' B T b v1 v2 ys rs :=
  ⟨(hu.block b h.blk.lt (hF b h.lo h.hi.1)).trans h.blk, h.g.upon hu (fun q hq => hF q (h.g.ltB q hq).1 (h.hi.2 q hq)), h.ne, h.lo, h.hi⟩
theorem DeskV.read {W : World} {B T b : Nat} {v1 v2 : Value} {ys : List Int} {M : List (List Int)} {rs : List Fr} (h : DeskV W B T b v1 v2 ys rs) (hM : rs.map Fr.xs = M) (hk : okD ys M) : DeskR W (.agg #[v1, v2]) ys M := by
  obtain ⟨⟨h1, h2⟩, h3, h4⟩ := hk
  rw [← hM]
  exact h.g.read ⟨by omega, h2⟩ (fun r hr => by have := h4 r.xs (by rw [← hM]; exact List.mem_map.2 ⟨r, hr, rfl⟩); exact ⟨by omega, this.2⟩)
/-- a desk in a variable is marked -/
theorem DeskV.mark {W W' : World} {B T b s m : Nat} {v1 v2 : Value} {ys : List Int} {rs : List Fr} {e : Ending} (h : DeskV W B T b v1 v2 ys rs) (hm : MarkD B v1 v2 ys rs s m W e W') : DeskV W' B T b v1 v2 (runL s ys.length) (mkF (s + ys.length) rs) := by
  obtain ⟨_, h2, h3⟩ := hm
  have hcv : ∀ q, DkBl v1 v2 (mkF (s + ys.length) rs) q → DkBl v1 v2 rs q := fun q hq => by
    rcases hq with hq | hq
    · exact .inl hq
    · exact .inr (FB_mk.1 hq)
  exact ⟨(h3.block b h.blk.lt h.ne).trans h.blk, h2, fun e => h.ne (hcv _ e), h.lo, h.hi.1, fun q hq => h.hi.2 q (hcv q hq)⟩
/-- what is marked lies in its own blocks -/
theorem DeskV.markU {W W' : World} {B T b s m : Nat} {v1 v2 : Value} {ys : List Int} {rs : List Fr} {e : Ending} (h : DeskV W B T b v1 v2 ys rs) (hm : MarkD B v1 v2 ys rs s m W e W') : Upon (fun q => B ≤ q ∧ q < T) W W' :=
  hm.2.2.mono (fun q _ hq => ⟨(h.g.ltB q hq).1, h.hi.2 q hq⟩)
end Go.Proofs.YthaickihoagnmaaGreatDoor

namespace Go.Proofs.YthaickihoagnmaaGreatDoor
set_option linter.unusedVariables false
set_option linter.unusedSimpArgs false
open Go.RowKit Go.Maps

theorem NewD.get {xs : List Int} {w w' : World} {e : Ending} (h : NewD xs w e w') : ∃ v1 v2, e = .returned (.tuple #[.agg #[v1, v2], .bool (famL xs)]) ∧ GivesD (if famL xs then xs else []) [] w w' v1 v2 := h
theorem OwnX.nou {F : Nat → Prop} {W W' : World} {B g c n : Nat} {xs : List Int} (h : OwnX W B 3 (.slice (some ⟨g, 0, none⟩) n c) xs) (hu : Upon F W W') (hn : ¬ F g) : OwnX W' B 3 (.slice (some ⟨g, 0, none⟩) n c) xs :=
  hu.ownX h (fun q hq => by injection hq with hq; have hq : g = q := hq; subst hq; exact hn)

end Go.Proofs.YthaickihoagnmaaGreatDoor
