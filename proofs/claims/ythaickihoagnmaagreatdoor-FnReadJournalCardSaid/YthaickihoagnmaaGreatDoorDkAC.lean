import Derived.Test.YthaickihoagnmaaGreatDoorDkFive
import Derived.Test.YthaickihoagnmaaGreatDoorTxThree
namespace Go.Proofs.YthaickihoagnmaaGreatDoor
set_option linter.unusedVariables false
set_option linter.unusedSimpArgs false
open Go.RowKit Go.Maps

theorem blk2_dr {w : World} {B : Nat} {t : TypeId} {x y : Value} (h : Blk2 w B t x y) : Blk2 w.drew B t x y := h
theorem alloc_lt (w : World) (o : Obj) : w.heap.size < (w.alloc o).heap.size := by rw [alloc_size]; exact Nat.lt_succ_self _
theorem blk2_new_al {w w' : World} {t : TypeId} {x y : Value} (h : Below (w.alloc (.cells #[x, y] t)).heap.size (w.alloc (.cells #[x, y] t)) w') : Blk2 w' w.heap.size t x y := (Blk2.new w t x y).kept h (alloc_lt w _)
theorem blk2_new_dr {w w' : World} {t : TypeId} {x y : Value} (h : Below (w.alloc (.cells #[x, y] t)).drew.heap.size (w.alloc (.cells #[x, y] t)).drew w') : Blk2 w' w.heap.size t x y := (blk2_dr (Blk2.new w t x y)).kept h (alloc_lt w _)
theorem DeskV.base {W : World} {B B' T b : Nat} {v1 v2 : Value} {ys : List Int} {rs : List Fr} (h : DeskV W B T b v1 v2 ys rs) (hB : B' ≤ B) : DeskV W B' T b v1 v2 ys rs := ⟨h.blk, h.g.base hB, h.ne, Nat.le_trans hB h.lo, h.hi⟩
theorem DeskV.readX {W : World} {B T b : Nat} {v1 v2 : Value} {ys : List Int} {M : List (List Int)} {rs : List Fr} (h : DeskV W B T b v1 v2 ys rs) (hM : rs.map Fr.xs = M) (h1 : ys.length ≤ 9223372036854775807 ∧ I64s ys) (h2 : ∀ l ∈ M, l.length ≤ 9223372036854775807 ∧ I64s l) : DeskR W (.agg #[v1, v2]) ys M := by
  rw [← hM]
  exact h.g.read h1 (fun r hr => h2 r.xs (by rw [← hM]; exact List.mem_map.2 ⟨r, hr, rfl⟩))
theorem tot_big {rs : List Fr} {M : List (List Int)} (hM : rs.map Fr.xs = M) (h1 : M.length ≤ 1048576) (h2 : ∀ l ∈ M, l.length ≤ 1048576) : totF rs ≤ 1099511627776 := by
  have key : ∀ N : List (List Int), (∀ l ∈ N, l.length ≤ 1048576) → (N.map List.length).sum ≤ 1048576 * N.length := by
    intro N
    induction N with
    | nil => intro _; simp
    | cons l N ih =>
      intro hN
      have := ih (fun l hl => hN l (List.mem_cons_of_mem _ hl))
      have := hN l (List.mem_cons_self)
      rw [List.map_cons, List.sum_cons, List.length_cons]; omega
  have := key M h2
  unfold totF
  rw [hM]
  omega
/-- what a statement leaves that asks for a desk and lays it into a variable -/
def CutV (w : World) (ys : List Int) (M : List (List Int)) (ok : Bool) (s1 s2 : Value) (wx : World) : Prop :=
  ∃ b T v1 v2 rs, s1 = .pointer (some ⟨b, 0, none⟩) ∧ s2 = .bool ok ∧ DeskV wx w.heap.size T b v1 v2 ys rs ∧ rs.map Fr.xs = M ∧ T ≤ wx.heap.size ∧ Below w.heap.size w wx
theorem cutV_last {w w8 w9 : World} {v1 v2 : Value} {ys : List Int} {M : List (List Int)} {ok : Bool} (h : GivesD ys M w8 w9 v1 v2) (hb : Below w.heap.size w w9) (hs : w.heap.size ≤ w8.heap.size) :
    CutV w ys M ok (.pointer (some ⟨w9.heap.size, 0, none⟩)) (.bool ok) (w9.alloc (.cells #[v1, v2] 31)) := by
  obtain ⟨rs, hv, hr⟩ := deskV_of h
  exact ⟨_, _, _, _, rs, rfl, rfl, hv.base hs, hr, by rw [alloc_size]; exact Nat.le_refl _, hb.alloc hb.size _⟩
theorem cutV_set {w w8 w9 : World} {b : Nat} {v1 v2 : Value} {ys : List Int} {M : List (List Int)} {ok : Bool} (h : GivesD ys M w8 w9 v1 v2) (hz : Blk2 w9 b 31 (.slice none 0 0) (.slice none 0 0)) (hl : b < w8.heap.size) (hb : Below w.heap.size w w9) (hwb : w.heap.size ≤ b) :
    CutV w ys M ok (.pointer (some ⟨b, 0, none⟩)) (.bool ok) ((w9.setCell ⟨b, 0, none⟩ v1).setCell ⟨b, 1, none⟩ v2) := by
  obtain ⟨rs, hg, hrs, hb2⟩ := h
  have hsz : ((w9.setCell ⟨b, 0, none⟩ v1).setCell ⟨b, 1, none⟩ v2).heap.size = w9.heap.size := by simp [World.setCell]
  exact ⟨b, w9.heap.size, _, _, rs, rfl, rfl, ⟨(hz.set0 v1).set1 v2, ((hg.put (p := ⟨b, 0, none⟩) hl).put (p := ⟨b, 1, none⟩) hl).base (by omega), fun e => by have := (hg.ltB _ e).1; omega, hwb, hz.lt, fun q hq => (hg.ltB q hq).2⟩, hrs, by rw [hsz]; exact Nat.le_refl _, (hb.setCell (p := ⟨b, 0, none⟩) hwb _).setCell (p := ⟨b, 1, none⟩) hwb _⟩

end Go.Proofs.YthaickihoagnmaaGreatDoor
