import Derived.Test.YtocjpolgghfbeaaDkG
namespace Go.Proofs.Ytocjpolgghfbeaa
set_option linter.unusedVariables false
set_option linter.unusedSimpArgs false
open Go.RowKit Go.Maps

theorem results_desk1 {fn : Func} {p : Tmp} (h : fn.results = #[.cell p 26]) (tmps : Array Value) (w : World) (B : Nat) {x y : Value} (hB : Blk2 w B 26 x y) (hp : tmps.getD p undef = .pointer (some ⟨B, 0, none⟩))
    (hi : (Try.prog.info? 26).map (·.size) = some 2) : (results fn tmps).run Try.prog w = .ok (.agg #[x, y]) w :=
  results_cell_row h tmps w B 26 #[x, y] (0, 0) _ hp hB Try.underlying26 rfl hi

/-- a copy of a desk -/
def CopyD (xs : List Int) (L : List (List Int)) (w : World) (e : Ending) (w' : World) : Prop := ∃ v1 v2, e = .returned (.agg #[v1, v2]) ∧ GivesD xs L w w' v1 v2
theorem set_blk {w : World} {p : Addr} {v : Value} {g : Nat} (h : g ≠ p.block) : (w.setCell p v).heap[g]? = w.heap[g]? := Below.heap_setCell w p v g h

theorem OwnX.put {w : World} {B : Nat} {t : TypeId} {v u : Value} {xs : List Int} {p : Addr} (h : OwnX w B t v xs) (hp : p.block < B) : OwnX (w.setCell p u) B t v xs :=
  h.other (fun g _ hBg _ => set_blk (by omega))
theorem Fams.put {w : World} {B : Nat} {v u : Value} {rs : List Fr} {p : Addr} (h : Fams w B v rs) (hp : p.block < B) : Fams (w.setCell p u) B v rs :=
  h.same (by rw [show (w.setCell p u).heap.size = w.heap.size by simp [World.setCell]]; exact Nat.le_refl _) (fun g hg => set_blk (by have := (h.ltB g hg).1; omega))
theorem DeskG.put {w : World} {B : Nat} {v1 v2 u : Value} {xs : List Int} {rs : List Fr} {p : Addr} (h : DeskG w B v1 v2 xs rs) (hp : p.block < B) : DeskG (w.setCell p u) B v1 v2 xs rs :=
  ⟨h.now.put hp, h.past.put hp, h.sep⟩

set_option maxRecDepth 100000 in
set_option maxHeartbeats 1600000 in
theorem toDesk_any (d : Value) (xs : List Int) (L : List (List Int)) (hx : xs.length ≤ 1048576) (hL : L.length ≤ 1048576) (hl : ∀ l ∈ L, l.length ≤ 1048576) (w : World) (h : DeskR w d xs L) :
    Calls Try.prog 31 #[d] w (CopyD xs L w) := by
  obtain ⟨a, c, b, c2, rfl, hi, hn⟩ := h.parts
  have q1 := alloc_below w (.cells #[.slice a xs.length c, .slice b L.length c2] 48)
  have q2 := alloc_below (w.alloc (.cells #[.slice a xs.length c, .slice b L.length c2] 48)) (.cells #[.slice none 0 0, .slice none 0 0] 26)
  have q3 := alloc_below ((w.alloc (.cells #[.slice a xs.length c, .slice b L.length c2] 48)).alloc (.cells #[.slice none 0 0, .slice none 0 0] 26)) (.cells #[.slice none 0 0, .slice none 0 0] 26)
  have b1 := (Blk2.new w 48 (.slice a xs.length c) (.slice b L.length c2)).kept q2 (by rw [alloc_size]; omega)
  have b1' := b1.kept q3 b1.lt
  have b2 := (Blk2.new (w.alloc (.cells #[.slice a xs.length c, .slice b L.length c2] 48)) 26 (.slice none 0 0) (.slice none 0 0))
  have b2' := b2.kept q3 b2.lt
  have b3 := (Blk2.new ((w.alloc (.cells #[.slice a xs.length c, .slice b L.length c2] 48)).alloc (.cells #[.slice none 0 0, .slice none 0 0] 26)) 26 (.slice none 0 0) (.slice none 0 0))
  rw [alloc_size] at b2'
  rw [alloc_size, alloc_size] at b3
  have HQ := Lib.hid (below_onto q1 (below_onto q2 q3))
  have HI := Lib.hid (hi.below HQ.out (Nat.le_refl _)); have HNN := Lib.hid hn
  have HB1 := Lib.hid b1'; have HB2 := Lib.hid b2'; have HB3 := Lib.hid b3
  have HLL := Lib.hid hl
  have HS3 := Lib.hid (show (((w.alloc (.cells #[.slice a xs.length c, .slice b L.length c2] 48)).alloc (.cells #[.slice none 0 0, .slice none 0 0] 26)).alloc (.cells #[.slice none 0 0, .slice none 0 0] 26)).heap.size = w.heap.size + 3 by rw [alloc_size, alloc_size, alloc_size])
  clear h hi hn q1 q2 q3 b1 b1' b2 b2' b3 hl
  go_enter Try.func31, Try.ntmps31
  go_wp2_with fail
  refine (toIntO_any a xs c hx _ HI.out).mono ?_
  rintro e w4 ⟨rfl, hown, hb⟩
  have hsz4 := hb.size
  rw [HS3.out] at hown hsz4 ⊢
  have HB1' := Lib.hid (HB1.out.kept hb (by rw [HS3.out]; omega)); have HB2' := Lib.hid (HB2.out.kept hb (by rw [HS3.out]; omega)); have HB3' := Lib.hid (HB3.out.kept hb (by rw [HS3.out]; omega))
  have HQ4 := Lib.hid (below_onto HQ.out hb)
  have HOW := Lib.hid hown
  have HZ4 := Lib.hid hsz4
  have HS4 := Lib.hid (show w.heap.size + 3 < w4.heap.size from by have := World.ownsRow.lt hown (w.heap.size + 3) rfl; omega)
  clear hb hown hsz4 HB1 HB2 HB3 HQ HI HS3
  have hc0 := HB3'.out.cell.1; have hf0 := HB3'.out.frozen 0
  have hd1 := ((HB1'.out.other (show w.heap.size ≠ w.heap.size + 1 + 1 by omega) 0 (.slice (some ⟨w.heap.size + 3, 0, none⟩) xs.length xs.length)).cell).2
  have HN5 := Lib.hid (HNN.out.kept (HQ4.out.setCell (p := ⟨w.heap.size + 1 + 1, 0, none⟩) (show w.heap.size ≤ w.heap.size + 1 + 1 by omega) (.slice (some ⟨w.heap.size + 3, 0, none⟩) xs.length xs.length)))
  go_wp2_with fail
  have HB1a := Lib.hid (HB1'.out.other (show w.heap.size ≠ w.heap.size + 1 + 1 by omega) 0 (.slice (some ⟨w.heap.size + 3, 0, none⟩) xs.length xs.length))
  have HB2a := Lib.hid (HB2'.out.other (show w.heap.size + 1 ≠ w.heap.size + 1 + 1 by omega) 0 (.slice (some ⟨w.heap.size + 3, 0, none⟩) xs.length xs.length))
  have HB3a := Lib.hid (HB3'.out.set0 (.slice (some ⟨w.heap.size + 3, 0, none⟩) xs.length xs.length))
  have HOWa := Lib.hid (HOW.out.put (u := .slice (some ⟨w.heap.size + 3, 0, none⟩) xs.length xs.length) (p := ⟨w.heap.size + 1 + 1, 0, none⟩) (show w.heap.size + 1 + 1 < w.heap.size + 3 by omega))
  have HQa := Lib.hid (HQ4.out.setCell (p := ⟨w.heap.size + 1 + 1, 0, none⟩) (show w.heap.size ≤ w.heap.size + 1 + 1 by omega) (.slice (some ⟨w.heap.size + 3, 0, none⟩) xs.length xs.length))
  have HZa := Lib.hid (show w.heap.size + 3 < (w4.setCell ⟨w.heap.size + 1 + 1, 0, none⟩ (.slice (some ⟨w.heap.size + 3, 0, none⟩) xs.length xs.length)).heap.size by rw [show (w4.setCell ⟨w.heap.size + 1 + 1, 0, none⟩ (.slice (some ⟨w.heap.size + 3, 0, none⟩) xs.length xs.length)).heap.size = w4.heap.size by simp [World.setCell]]; exact HS4.out)
  clear hc0 hf0 hd1 HB1' HB2' HB3' HQ4 HOW HZ4 HS4
  obtain ⟨W5, hW5⟩ : ∃ W5, w4.setCell ⟨w.heap.size + 1 + 1, 0, none⟩ (.slice (some ⟨w.heap.size + 3, 0, none⟩) xs.length xs.length) = W5 := ⟨_, rfl⟩
  rw [hW5] at HB1a HB2a HB3a HOWa HQa HZa HN5 ⊢
  clear hW5
  refine (toNest_any b L c2 hL HLL.out _ HN5.out).mono ?_
  rintro e w6 ⟨rs, rfl, hrs, hF, hb⟩
  have HDG := Lib.hid (show DeskG w6 (w.heap.size + 3) (.slice (some ⟨w.heap.size + 3, 0, none⟩) xs.length xs.length) (.slice (some ⟨W5.heap.size, 0, none⟩) L.length L.length) xs rs from
    ⟨HOWa.out.kept hb, hF.base (by have := HZa.out; omega), fun g hg hfb => by
      have h1 := (hF.ltB g hfb).1
      have h2 := HZa.out
      injection hg with hg
      have h3 : w.heap.size + 3 = g := hg
      omega⟩)
  have HRS := Lib.hid hrs
  have HQ6 := Lib.hid (HQa.out.trans (hb.mono HQa.out.size))
  have HB2b := Lib.hid (HB2a.out.kept hb HB2a.out.lt)
  have HB3b := Lib.hid (HB3a.out.kept hb HB3a.out.lt)
  clear hrs hF hb HB1a HB2a HB3a HOWa HQa HZa HN5
  obtain ⟨N2, hN2⟩ : ∃ N2, W5.heap.size = N2 := ⟨_, rfl⟩
  rw [hN2] at HDG ⊢
  clear hN2
  have HB3c := Lib.hid (HB3b.out.set1 (.slice (some ⟨N2, 0, none⟩) L.length L.length))
  have HB2c := Lib.hid (HB2b.out.other (show w.heap.size + 1 ≠ w.heap.size + 1 + 1 by omega) 1 (.slice (some ⟨N2, 0, none⟩) L.length L.length))
  have hc1 := HB3b.out.cell.2; have hf1 := HB3b.out.frozen 1
  have hd0 := HB3c.out.cell.1; have hd1 := HB3c.out.cell.2
  have hg0 := HB2c.out.cell.1; have hg1 := HB2c.out.cell.2; have hh0 := HB2c.out.frozen 0; have hh1 := HB2c.out.frozen 1
  go_wp2_with fail
  refine bodyPost_ret (results_desk1 rfl _ _ (w.heap.size + 1) ((HB2c.out.set0 (.slice (some ⟨w.heap.size + 3, 0, none⟩) xs.length xs.length)).set1 (.slice (some ⟨N2, 0, none⟩) L.length L.length)) rfl (by kernel_rfl)) rfl ?_
  exact ⟨_, _, rfl, rs, ((((HDG.out.put (p := ⟨w.heap.size + 1 + 1, 1, none⟩) (show w.heap.size + 1 + 1 < w.heap.size + 3 by omega)).put (p := ⟨w.heap.size + 1, 0, none⟩) (show w.heap.size + 1 < w.heap.size + 3 by omega)).put (p := ⟨w.heap.size + 1, 1, none⟩) (show w.heap.size + 1 < w.heap.size + 3 by omega)).base (by omega)), HRS.out,
    ((HQ6.out.setCell (p := ⟨w.heap.size + 1 + 1, 1, none⟩) (show w.heap.size ≤ w.heap.size + 1 + 1 by omega) _).setCell (p := ⟨w.heap.size + 1, 0, none⟩) (show w.heap.size ≤ w.heap.size + 1 by omega) _).setCell (p := ⟨w.heap.size + 1, 1, none⟩) (show w.heap.size ≤ w.heap.size + 1 by omega) _⟩
end Go.Proofs.Ytocjpolgghfbeaa
