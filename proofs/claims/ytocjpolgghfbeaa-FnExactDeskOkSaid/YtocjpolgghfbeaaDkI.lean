import Derived.Test.YtocjpolgghfbeaaDkH
namespace Go.Proofs.Ytocjpolgghfbeaa
set_option linter.unusedVariables false
set_option linter.unusedSimpArgs false
open Go.RowKit Go.Maps

set_option maxRecDepth 100000 in
set_option maxHeartbeats 1600000 in
theorem eqDesk_any (d1 d2 : Value) (xs : List Int) (L : List (List Int)) (hx : xs.length ≤ 1048576) (hL : L.length ≤ 1048576) (hl : ∀ l ∈ L, l.length ≤ 1048576) (w : World) (h1 : DeskR w d1 xs L) (h2 : DeskR w d2 xs L) :
    Calls Try.prog 32 #[d1, d2] w fun e w' => e = .returned (.bool true) ∧ Below w.heap.size w w' := by
  obtain ⟨a, c, b, c2, rfl, hi, hn⟩ := h1.parts
  obtain ⟨a', c', b', c2', rfl, hi', hn'⟩ := h2.parts
  have q1 := alloc_below w (.cells #[.slice a xs.length c, .slice b L.length c2] 26)
  have q2 := alloc_below (w.alloc (.cells #[.slice a xs.length c, .slice b L.length c2] 26)) (.cells #[.slice a' xs.length c', .slice b' L.length c2'] 26)
  have b1 := (Blk2.new w 26 (.slice a xs.length c) (.slice b L.length c2)).kept q2 (by rw [alloc_size]; omega)
  have b2 := (Blk2.new (w.alloc (.cells #[.slice a xs.length c, .slice b L.length c2] 26)) 26 (.slice a' xs.length c') (.slice b' L.length c2'))
  rw [alloc_size] at b2
  have HQ := Lib.hid (below_onto q1 q2)
  have HI := Lib.hid (hi.below HQ.out (Nat.le_refl _)); have HI' := Lib.hid (hi'.below HQ.out (Nat.le_refl _))
  have HN := Lib.hid (hn.kept HQ.out); have HN' := Lib.hid (hn'.kept HQ.out)
  have HB1 := Lib.hid b1; have HB2 := Lib.hid b2
  have HLL := Lib.hid hl
  clear h1 h2 hi hi' hn hn' q1 q2 b1 b2 hl
  go_enter Try.func32, Try.ntmps32
  go_wp2_with fail
  refine (eqIntS_any a a' c c' xs.length (fun j => xs.getD j 0) hx _ HI.out HI'.out).mono ?_
  rintro e w1 ⟨rfl, hd⟩
  have hb := hd.below
  have HB1a := Lib.hid (HB1.out.kept hb HB1.out.lt); have HB2a := Lib.hid (HB2.out.kept hb HB2.out.lt)
  have HNa := Lib.hid (HN.out.kept hb); have HNb := Lib.hid (HN'.out.kept hb)
  have HQa := Lib.hid (below_onto HQ.out hb)
  clear hb hd
  have hc1 := HB1a.out.cell.2; have hd1 := HB2a.out.cell.2
  go_wp2_with fail
  refine (eqNest_any b b' L c2 c2' hL HLL.out _ HNa.out HNb.out).mono ?_
  rintro e w2 ⟨rfl, hb⟩
  have HQb := Lib.hid (below_onto HQa.out hb)
  clear hb hc1 hd1
  go_wp2_with fail
  go_ret
  exact ⟨rfl, HQb.out⟩

/-- a desk's measure -/
def SzDEnd (xs : List Int) (L : List (List Int)) (w : World) (e : Ending) (w' : World) : Prop :=
  (∃ r : Int, e = .returned (.int .i64 r) ∧ (r = -1 ∨ ∃ m : Nat, r = m ∧ xs.length ≤ 1048576 ∧ L.length ≤ 1048576 ∧ ∀ l ∈ L, l.length ≤ 1048576)) ∧ Below w.heap.size w w'

set_option maxRecDepth 100000 in
set_option maxHeartbeats 1600000 in
theorem szDesk_any (d : Value) (xs : List Int) (L : List (List Int)) (w : World) (h : DeskR w d xs L) :
    Calls Try.prog 30 #[d, .int .i64 1048576] w (SzDEnd xs L w) := by
  obtain ⟨a, c, b, c2, rfl, hi, hn⟩ := h.parts
  have h63 := hi.1.1
  have hal := alloc_below w (.cells #[.slice a xs.length c, .slice b L.length c2] 48)
  have hblk := Blk2.new w 48 (.slice a xs.length c) (.slice b L.length c2)
  have HN := Lib.hid (hn.kept hal); have HAL := Lib.hid hal; have HBL := Lib.hid hblk
  clear h hi hn hal hblk
  by_cases hs : xs.length ≤ 1048576
  · go_enter Try.func30, Try.ntmps30
    go_wp2_with fail
    refine (szIntS_any a xs.length c h63 1048576 (Nat.le_refl _) _).mono ?_
    rintro e w1 ⟨rfl, rfl⟩
    rw [if_pos hs]
    obtain ⟨m, hm⟩ : ∃ m : Nat, 1048576 - xs.length = m := ⟨_, rfl⟩
    have hmk : m ≤ 1048576 := by omega
    have hge : decide ((m : Int) < 0) = false := decide_eq_false (by omega)
    rw [hm]
    clear hm
    have hc1 := HBL.out.cell.2
    go_wp2_with fail
    refine (szNest_any b L c2 m hmk _ HN.out).mono ?_
    rintro e w2 ⟨r, rfl, hr, hb⟩
    have HB := Lib.hid (below_onto HAL.out hb)
    clear hb hc1 hge
    rcases hr with rfl | ⟨p, rfl, hp, hLk, hlk⟩
    · go_wp2_with fail
      go_ret
      exact ⟨⟨_, rfl, .inl rfl⟩, HB.out⟩
    · have hge : decide ((p : Int) < 0) = false := decide_eq_false (by omega)
      have HLK := Lib.hid hlk
      clear hlk
      go_wp2_with fail
      go_ret
      exact ⟨⟨_, rfl, .inr ⟨p, rfl, hs, by omega, fun l hl => Nat.le_trans (HLK.out l hl) hmk⟩⟩, HB.out⟩
  · go_enter Try.func30, Try.ntmps30
    go_wp2_with fail
    refine (szIntS_any a xs.length c h63 1048576 (Nat.le_refl _) _).mono ?_
    rintro e w1 ⟨rfl, rfl⟩
    rw [if_neg hs]
    go_wp2_with fail
    go_ret
    exact ⟨⟨_, rfl, .inl rfl⟩, HAL.out⟩
end Go.Proofs.Ytocjpolgghfbeaa
