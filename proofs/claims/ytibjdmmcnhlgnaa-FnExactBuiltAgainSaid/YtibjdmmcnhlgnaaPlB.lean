import Derived.Test.YtibjdmmcnhlgnaaPlA
namespace Go.Proofs.Ytibjdmmcnhlgnaa
set_option linter.unusedVariables false
set_option linter.unusedSimpArgs false
open Go.RowKit Go.Maps

set_option maxRecDepth 100000 in
set_option maxHeartbeats 1600000 in
theorem cloneS_any (g o n cap : Nat) (f : Nat → Int) (h1 : 1 ≤ n) (hn : n ≤ 1000) (w : World) (hr : Row w g o n f) (hgl : g < w.heap.size) :
    Calls Try.prog 62 #[.slice (some ⟨g, o, none⟩) n cap] w (Gives 3 (rowL f n) w) := by
  obtain ⟨i0, hi, hz0, hz1, hz2⟩ := info_parts Try.infoInt
  have hmade : OwnX (w.alloc (.cells #[] 3)) w.heap.size 3 (.slice (some ⟨w.heap.size, 0, none⟩) 0 0) [] := OwnX.made w _ (Nat.le_refl _) _
  have HO : Hid ((w.alloc (.cells #[] 3)).ownsRow w.heap.size 3 1 (.slice (some ⟨w.heap.size, 0, none⟩) 0 0) 0 []) := Lib.hid hmade
  have k1 := Lib.hid (rowV_cells (hr.below (alloc_below w (.cells #[] 3)) hgl))
  have k2 := Lib.hid (rowV_one f n)
  have k3 : Hid (0 + n ≤ maxLen) := Lib.hid (by unfold maxLen; omega)
  have k4 : Hid ((0 + n) * 8 ≤ 140737488355328) := Lib.hid (by omega)
  have k5 : Hid (w.heap.size ≤ (w.alloc (.cells #[] 3)).heap.size) := Lib.hid (by rw [alloc_size]; omega)
  have k6 : Hid ((rowV f n).length = n * 1) := Lib.hid (by rw [rowV_len]; omega)
  have HAB := Lib.hid (alloc_below w (.cells #[] 3))
  have heq : ∀ W : World, (binOp .eql 23 (.slice (some ⟨g, o, none⟩) n cap) (.slice none 0 0)).run Try.prog W = .ok (.bool false) W := fun W => Lib.run_eql_slice_nil W 23 3 _ _ _ _ _ Try.underlying23
  clear hmade hr
  go_enter Try.func62, Try.ntmps62
  go_wp2_with (at_builtin; refine wpList_append_own _ rfl (.tmp 5) (.tmp 6) 23 rfl w.heap.size 3 i0 (.int .i64 0) 1 8 Try.underlying23 hi hz0 hz1 hz2 rfl (by decide) _ _ _ rfl HO.out ⟨g, o, none⟩ n cap (rowV f n) rfl k6.out k1.out k2.out k3.out k4.out k5.out ?_)
  intro v' w5 hown' hgrow _
  have hg5 : Below w.heap.size w w5 := HAB.out.trans ((Below.refl w.heap.size _).grown hgrow k5.out (fun q hq => (HO.out.lt q hq).1))
  have HO5 := Lib.hid (OwnX.rowV hown'); have HG5 := Lib.hid hg5
  clear hown' hgrow hg5
  go_wp2_with fail
  go_ret
  exact ⟨_, rfl, HO5.out, HG5.out⟩

/-- a list and a truth are handed back -/
def GivesC (xs : List Int) (b : Bool) (w : World) (e : Ending) (w' : World) : Prop := ∃ v, e = .returned (.tuple #[v, .bool b]) ∧ OwnX w' w.heap.size 3 v xs ∧ Below w.heap.size w w'

/-- the ship after a change -/
def chF (n : Nat) (f : Nat → Int) (p q : Int) : Nat → Int := if okC n f p q then setF f p.toNat q else f
def chL (n : Nat) (f : Nat → Int) (p q : Int) : List Int := if shipB n f then rowL (chF n f p q) n else []
def chB (n : Nat) (f : Nat → Int) (p q : Int) : Bool := shipB n f && okC n f p q
theorem chL_no {n : Nat} {f : Nat → Int} {p q : Int} (h : shipB n f = false) : chL n f p q = [] ∧ chB n f p q = false := by unfold chL chB; rw [h]; exact ⟨rfl, rfl⟩
theorem chL_keep {n : Nat} {f : Nat → Int} {p q : Int} (h : shipB n f = true) (h2 : okC n f p q = false) : chL n f p q = rowL f n ∧ chB n f p q = false := by unfold chL chB chF; rw [h, h2]; exact ⟨rfl, rfl⟩
theorem chL_done {n : Nat} {f : Nat → Int} {p q : Int} (h : shipB n f = true) (h2 : okC n f p q = true) : chL n f p q = rowL (setF f p.toNat q) n ∧ chB n f p q = true := by unfold chL chB chF; rw [h, h2]; exact ⟨rfl, rfl⟩
theorem okC_no {n : Nat} {f : Nat → Int} {p q : Int} (h : ¬ (0 ≤ p ∧ p < n ∧ pkB q = true ∧ inF q n f = false)) : okC n f p q = false := by
  cases e : okC n f p q with
  | true => exact absurd (okC_iff.1 e) h
  | false => rfl
theorem rowL_set {f : Nat → Int} {n k : Nat} {q : Int} : (fun i => if i = k then q else (rowL f n).getD i 0) = (fun i => if i = k then q else (rowL f n).getD i 0) := rfl
theorem Rw.rowL {w : World} {g : Nat} {t : TypeId} {cap n : Nat} {h f : Nat → Int} (hr : Rw w g t cap n h) (e : ∀ i, i < n → h i = f i) : Rw w g t cap n (fun i => (rowL f n).getD i 0) :=
  hr.less (Nat.le_refl _) (fun i hi => by rw [e i hi, rowL_getD _ _ _ hi])

set_option maxRecDepth 100000 in
set_option maxHeartbeats 3200000 in
theorem ChangedOf_no (a : Option Addr) (n cap : Nat) (f : Nat → Int) (p q : Int) (hc : n ≤ cap) (hs : shipB n f = false) (w : World) (hi : Ints w a n f) :
    Calls Try.prog 28 #[.slice a n cap, .agg #[.int .i64 p, .int .i64 q]] w (GivesC (chL n f p q) (chB n f p q) w) := by
  have HI := Lib.hid (hi.below (alloc_below w (.cells #[.int .i64 p, .int .i64 q] 36)) (Nat.le_refl _)); clear hi
  have HS := Lib.hid hs; have HC := Lib.hid (chL_no (p := p) (q := q) hs); clear hs
  have HB := Lib.hid (alloc_below w (.cells #[.int .i64 p, .int .i64 q] 36))
  rw [HC.out.1, HC.out.2]
  go_enter Try.func28, Try.ntmps28
  go_wp2_with fail
  refine (ShipOk_val _ _ _ _ false HS.out hc _ HI.out).mono ?_
  rintro e w' ⟨rfl, rfl⟩
  go_wp2_with fail
  go_ret2
  exact ⟨_, by first | rfl | trivial, OwnX.nil _ _ _, HB.out⟩

set_option maxRecDepth 100000 in
set_option maxHeartbeats 3200000 in
theorem ChangedOf_in (g o n cap : Nat) (f : Nat → Int) (p q : Int) (hc : n ≤ cap) (hs : shipB n f = true) (w : World) (hi : Ints w (some ⟨g, o, none⟩) n f) (hgl : g < w.heap.size) (hr : Row w g o n f) :
    Calls Try.prog 28 #[.slice (some ⟨g, o, none⟩) n cap, .agg #[.int .i64 p, .int .i64 q]] w (GivesC (chL n f p q) (chB n f p q) w) := by
  have HI := Lib.hid (hi.below (alloc_below w (.cells #[.int .i64 p, .int .i64 q] 36)) (Nat.le_refl _)); clear hi
  have HR := Lib.hid (hr.below (alloc_below w (.cells #[.int .i64 p, .int .i64 q] 36)) hgl); clear hr
  have HS := Lib.hid hs
  have HSI := Lib.hid (shipB_iff.1 hs)
  have HB := Lib.hid (alloc_below w (.cells #[.int .i64 p, .int .i64 q] 36))
  have HK := Lib.hid (Blk2.new w 36 (.int .i64 p) (.int .i64 q))
  have HGL := Lib.hid (show g < (w.alloc (.cells #[.int .i64 p, .int .i64 q] 36)).heap.size by rw [alloc_size]; omega)
  have HSZ := Lib.hid (show (w.alloc (.cells #[.int .i64 p, .int .i64 q] 36)).heap.size = w.heap.size + 1 from alloc_size _ _)
  obtain ⟨w1, hw1⟩ : ∃ w1, w.alloc (.cells #[.int .i64 p, .int .i64 q] 36) = w1 := ⟨_, rfl⟩
  obtain ⟨L, hL⟩ : ∃ L, chL n f p q = L := ⟨_, rfl⟩
  obtain ⟨b, hb⟩ : ∃ b, chB n f p q = b := ⟨_, rfl⟩
  rw [hL, hb]
  have HL := Lib.hid hL; have HBB := Lib.hid hb; clear hL hb hs
  go_enter Try.func28, Try.ntmps28
  go_wp2_with fail
  rw [hw1] at HI HR HB HK HGL HSZ
  clear hw1
  refine (ShipOk_val _ _ _ _ true HS.out hc _ HI.out).mono ?_
  rintro e w' ⟨rfl, rfl⟩
  go_wp2_with fail
  refine (cloneS_any g o n cap f HSI.out.1 (by have := HSI.out.2.1; omega) _ HR.out HGL.out).mono ?_
  rintro e w2 ⟨v, rfl, hown, hb2⟩
  obtain ⟨g2, c2, hv, hBg, hgl2, hc2, hM, hrw⟩ := hown.rw (by rw [rowL_len]; exact HSI.out.1)
  rw [rowL_len] at hv hc2 hrw
  subst hv
  have HRW := Lib.hid hrw; have HOWN := Lib.hid hown; have HB2 := Lib.hid (below_onto HB.out hb2); have HM := Lib.hid hM; have HC2 := Lib.hid hc2
  have HBG := Lib.hid (show w.heap.size ≤ g2 by have := HSZ.out; omega)
  replace HK := Lib.hid (HK.out.kept hb2 (by have := HSZ.out; omega))
  replace HI := Lib.hid (HI.out.next hb2)
  replace HOWN := Lib.hid (HOWN.out.base (B' := w.heap.size) (by have := HSZ.out; omega))
  obtain ⟨hq0, hq1⟩ := HK.out.cell
  clear hown hrw hM hc2 hBg hgl2 hb2 HB HR
  by_cases h0 : p < 0
  · have hd0 : decide (p < 0) = true := by simpa using h0
    have HE := Lib.hid (chL_keep HS.out (okC_no (n := n) (f := f) (p := p) (q := q) (fun h => by omega)))
    rw [HL.out, HBB.out] at HE
    clear h0
    go_wp2_with fail
    go_ret2
    rw [HE.out.2]
    exact ⟨_, by first | rfl | trivial, by rw [HE.out.1]; exact HOWN.out, HB2.out⟩
  have hd0 : decide (p < 0) = false := by simpa using h0
  obtain ⟨k, rfl⟩ := Int.eq_ofNat_of_zero_le (by omega : 0 ≤ p)
  by_cases h1 : n ≤ k
  · have hd1 : decide ((k : Int) ≥ (n : Int)) = true := by simp; omega
    have hd1' : decide ((n : Int) ≤ (k : Int)) = true := by simp; omega
    have HE := Lib.hid (chL_keep HS.out (okC_no (n := n) (f := f) (p := k) (q := q) (fun h => by omega)))
    rw [HL.out, HBB.out] at HE
    clear h0
    go_wp2_with fail
    go_ret2
    rw [HE.out.2]
    exact ⟨_, by first | rfl | trivial, by rw [HE.out.1]; exact HOWN.out, HB2.out⟩
  have hd1 : decide ((k : Int) ≥ (n : Int)) = false := by simp; omega
  have hd1' : decide ((n : Int) ≤ (k : Int)) = false := by simp; omega
  cases hp : pkB q with
  | false =>
    have HP := Lib.hid hp; clear hp
    have HE := Lib.hid (chL_keep HS.out (okC_no (n := n) (f := f) (p := k) (q := q) (fun h => by rw [HP.out] at h; cases h.2.2.1)))
    rw [HL.out, HBB.out] at HE
    go_wp2_with fail
    refine (plankOk_val _ false _ HP.out).mono ?_
    rintro e w' ⟨rfl, rfl⟩
    go_wp2_with fail
    go_ret2
    rw [HE.out.2]
    exact ⟨_, by first | rfl | trivial, by rw [HE.out.1]; exact HOWN.out, HB2.out⟩
  | true =>
    have HP := Lib.hid hp; clear hp
    cases hx : inF q n f with
    | true =>
      have HX := Lib.hid hx; clear hx
      have HE := Lib.hid (chL_keep HS.out (okC_no (n := n) (f := f) (p := k) (q := q) (fun h => by rw [HX.out] at h; cases h.2.2.2)))
      rw [HL.out, HBB.out] at HE
      go_wp2_with fail
      refine (plankOk_val _ true _ HP.out).mono ?_
      rintro e w' ⟨rfl, rfl⟩
      go_wp2_with fail
      refine (containsI_val _ n cap f q true _ HX.out HI.out).mono ?_
      rintro e w' ⟨rfl, rfl⟩
      go_wp2_with fail
      go_ret2
      rw [HE.out.2]
      exact ⟨_, by first | rfl | trivial, by rw [HE.out.1]; exact HOWN.out, HB2.out⟩
    | false =>
      have HX := Lib.hid hx; clear hx
      have HE := Lib.hid (chL_done (p := (k : Int)) HS.out (okC_iff.2 ⟨by omega, by omega, HP.out, HX.out⟩))
      rw [HL.out, HBB.out, Int.toNat_natCast] at HE
      have hk0 : (0 : Int) ≤ (k : Int) := by omega
      have hkn : (k : Int) < (n : Int) := by omega
      have hold := HRW.out.cell k (by omega)
      have hfz := HRW.out.frozen k
      obtain ⟨u, hu⟩ : ∃ u, (rowL f n).getD k 0 = u := ⟨_, rfl⟩
      rw [hu] at hold
      clear hu
      go_wp2_with fail
      refine (plankOk_val _ true _ HP.out).mono ?_
      rintro e w' ⟨rfl, rfl⟩
      go_wp2_with fail
      refine (containsI_val _ n cap f q false _ HX.out HI.out).mono ?_
      rintro e w' ⟨rfl, rfl⟩
      go_wp2_with fail
      go_ret2
      rw [HE.out.2]
      refine ⟨_, by first | rfl | trivial, ?_, HB2.out.setCell (p := ⟨g2, k, none⟩) HBG.out _⟩
      rw [HE.out.1]
      refine Rw.own (m := n) (Rw.rowL (HRW.out.set k q) (fun i hi => ?_)) (rowL_len _ _).symm HBG.out HC2.out HM.out
      show (if i = k then q else (rowL f n).getD i 0) = setF f k q i
      unfold setF
      rw [rowL_getD _ _ _ hi]

theorem ChangedOf_any (a : Option Addr) (n cap : Nat) (f : Nat → Int) (p q : Int) (hc : n ≤ cap) (w : World) (hi : Ints w a n f) :
    Calls Try.prog 28 #[.slice a n cap, .agg #[.int .i64 p, .int .i64 q]] w (GivesC (chL n f p q) (chB n f p q) w) := by
  cases hs : shipB n f with
  | false => exact ChangedOf_no a n cap f p q hc hs w hi
  | true =>
    obtain ⟨b, o, rfl, hlt, hr⟩ := hi.row (shipB_iff.1 hs).1
    exact ChangedOf_in b o n cap f p q hc hs w hi hlt hr
end Go.Proofs.Ytibjdmmcnhlgnaa
