import Derived.Test.YtndcnfbncepihaaDkSeven
namespace Go.Proofs.Ytndcnfbncepihaa
set_option linter.unusedVariables false
set_option linter.unusedSimpArgs false
open Go.RowKit Go.Maps

theorem DeskR.one {w : World} {a b : Option Addr} {c c2 : Nat} {xs : List Int} {L : List (List Int)} (h : DeskR w (.agg #[.slice a xs.length c, .slice b L.length c2]) xs L) : DeskR w (.agg #[.slice a xs.length c, .slice none 0 0]) xs [] := by
  obtain ⟨a', c', b', c2', e, h1, h2, h3, h4⟩ := h
  injection e with e
  have e1 := congrArg (fun q : Array Value => q.getD 0 undef) e
  injection e1 with e2 e3 e4
  subst e2; subst e4
  exact ⟨⟨_, _, none, 0, rfl, h1, Nat.le_refl _, h3, ⟨by simp, .inl rfl⟩⟩⟩
theorem deskB_one {xs : List Int} {L : List (List Int)} (h : deskB xs L = true) : deskB xs [] = true := deskB_iff.2 ⟨(deskB_iff.1 h).1, by simp, fun l hl => by cases hl⟩
theorem deskB_zero : deskB [] [] = false := by unfold deskB; rw [famL_nil]; rfl

set_option maxRecDepth 100000 in
set_option maxHeartbeats 1600000 in
theorem lawDeskOk (a : Option Addr) (n cap : Nat) (w : World) (h : BytesIn w a n cap) :
    Calls Try.prog 3 #[.slice a n cap] w (TrueEnd w) := by
  have hlen := h.len
  have H := Lib.hid h; clear h
  by_cases hn : 1048576 < n
  · go_enter Try.func3, Try.ntmps3
    go_wp2_with fail
    go_ret
    exact ⟨rfl, Below.refl _ _⟩
  · go_enter Try.func3, Try.ntmps3
    go_wp2_with fail
    refine (DrawDeskOk_any _ _ _ _ H.out).mono ?_
    rintro e w1 ⟨p1, e1, p2, e2, xs, L, rfl, hd, hk, hb1⟩
    have hal := alloc_below w1 (.cells #[.slice p1 xs.length e1, .slice p2 L.length e2] 26)
    have HBL := Lib.hid (Blk2.new w1 26 (.slice p1 xs.length e1) (.slice p2 L.length e2))
    have HD := Lib.hid (hd.kept hal)
    have HB := Lib.hid (below_onto hb1 hal)
    obtain ⟨w2, hw2⟩ : ∃ w2, w1.alloc (.cells #[.slice p1 xs.length e1, .slice p2 L.length e2] 26) = w2 := ⟨_, rfl⟩
    obtain ⟨A, hA⟩ : ∃ A, w1.heap.size = A := ⟨_, rfl⟩
    rw [hw2] at HD HB HBL
    rw [hA] at HBL
    have ha0 := HBL.out.cell.1; have ha1 := HBL.out.cell.2
    clear H hb1 hal hd hk
    go_wp2_with fail
    clear hw2 hA
    refine (DeskOk_any _ xs L _ HD.out).mono ?_
    rintro e w3 ⟨rfl, hb⟩
    replace HBL := Lib.hid (HBL.out.kept hb HBL.out.lt); replace HD := Lib.hid (HD.out.kept hb); replace HB := Lib.hid (below_onto HB.out hb)
    clear hb ha0 ha1
    have ha0 := HBL.out.cell.1; have ha1 := HBL.out.cell.2
    cases hok : deskB xs L with
    | false =>
      have HOK := Lib.hid hok; clear hok
      go_wp2_with fail
      refine (specDeskOk_any _ xs L _ HD.out).mono ?_
      rintro e w4 ⟨rfl, hb⟩
      rw [HOK.out]
      replace HBL := Lib.hid (HBL.out.kept hb HBL.out.lt); replace HD := Lib.hid (HD.out.kept hb); replace HB := Lib.hid (below_onto HB.out hb)
      clear hb ha0 ha1
      have ha0 := HBL.out.cell.1; have ha1 := HBL.out.cell.2
      go_wp2_with fail
      refine (DeskOk_any _ [] [] _ (deskR_nil _)).mono ?_
      rintro e w5 ⟨rfl, hb⟩
      rw [deskB_zero]
      replace HB := Lib.hid (below_onto HB.out hb); clear hb ha0 ha1
      go_wp2_with fail
      refine (alive_any _).mono ?_
      rintro e w6 ⟨rfl, hb⟩
      replace HB := Lib.hid (below_onto HB.out hb); clear hb
      go_wp2_with fail
      go_ret
      exact ⟨rfl, HB.out⟩
    | true =>
      have HOK := Lib.hid hok; clear hok
      go_wp2_with fail
      refine (specDeskOk_any _ xs L _ HD.out).mono ?_
      rintro e w4 ⟨rfl, hb⟩
      rw [HOK.out]
      replace HBL := Lib.hid (HBL.out.kept hb HBL.out.lt); replace HD := Lib.hid (HD.out.kept hb); replace HB := Lib.hid (below_onto HB.out hb)
      clear hb ha0 ha1
      have ha0 := HBL.out.cell.1; have ha1 := HBL.out.cell.2
      go_wp2_with fail
      refine (DeskOk_any _ xs [] _ HD.out.one).mono ?_
      rintro e w5 ⟨rfl, hb⟩
      rw [deskB_one HOK.out]
      replace HB := Lib.hid (below_onto HB.out hb); clear hb ha0 ha1
      go_wp2_with fail
      refine (DeskOk_any _ [] [] _ (deskR_nil _)).mono ?_
      rintro e w6 ⟨rfl, hb⟩
      rw [deskB_zero]
      replace HB := Lib.hid (below_onto HB.out hb); clear hb
      go_wp2_with fail
      refine (alive_any _).mono ?_
      rintro e w7 ⟨rfl, hb⟩
      replace HB := Lib.hid (below_onto HB.out hb); clear hb
      go_wp2_with fail
      go_ret
      exact ⟨rfl, HB.out⟩
end Go.Proofs.Ytndcnfbncepihaa

namespace Go.Proofs.Ytndcnfbncepihaa
set_option linter.unusedVariables false
set_option linter.unusedSimpArgs false
open Go.RowKit Go.Maps

/-- a desk that is handed back, to read -/
theorem okD.gives {ys : List Int} {M : List (List Int)} {w w' : World} {v1 v2 : Value} (hk : okD ys M) (h : GivesD ys M w w' v1 v2) :
    ∃ a c b c2, v1 = .slice a ys.length c ∧ v2 = .slice b M.length c2 ∧ DeskR w' (.agg #[.slice a ys.length c, .slice b M.length c2]) ys M ∧ Below w.heap.size w w' := by
  obtain ⟨h1, h2, ⟨a, c, rfl⟩, b, c2, rfl⟩ := h.read ⟨by have := hk.1.1; omega, hk.1.2⟩ (fun l hl => ⟨by have := (hk.2.2 l hl).1; omega, (hk.2.2 l hl).2⟩)
  exact ⟨a, c, b, c2, rfl, rfl, h1, h2⟩
/-- two desks that are small and the same -/
theorem okD9.same {ys : List Int} {M : List (List Int)} (hk : okD9 ys M) (d1 d2 : Value) (w : World) (h1 : DeskR w d1 ys M) (h2 : DeskR w d2 ys M) :
    Calls Try.prog 18 #[d1, d2] w fun e w' => e = .returned (.bool true) ∧ Below w.heap.size w w' :=
  sameDesk_any d1 d2 ys M (by have := hk.1.1; omega) (by have := hk.2.1; omega) (fun l hl => by have := (hk.2.2 l hl).1; omega) w h1 h2
/-- what lies in a variable: a desk -/
structure VarD (w : World) (A : Nat) (a b : Option Addr) (c c2 : Nat) (xs : List Int) (L : List (List Int)) : Prop where
  blk : Blk2 w A 26 (.slice a xs.length c) (.slice b L.length c2)
  d : DeskR w (.agg #[.slice a xs.length c, .slice b L.length c2]) xs L
theorem VarD.kept {w w' : World} {A : Nat} {a b : Option Addr} {c c2 : Nat} {xs : List Int} {L : List (List Int)} (h : VarD w A a b c c2 xs L) (hb : Below w.heap.size w w') : VarD w' A a b c c2 xs L := ⟨h.blk.kept hb h.blk.lt, h.d.kept hb⟩
theorem VarD.new {w : World} {a b : Option Addr} {c c2 : Nat} {xs : List Int} {L : List (List Int)} (h : DeskR w (.agg #[.slice a xs.length c, .slice b L.length c2]) xs L) : VarD (w.alloc (.cells #[.slice a xs.length c, .slice b L.length c2] 26)) w.heap.size a b c c2 xs L :=
  ⟨Blk2.new w _ _ _, h.kept (alloc_below w _)⟩
theorem DeskR.now {w : World} {a b : Option Addr} {c c2 : Nat} {xs : List Int} {L : List (List Int)} (h : DeskR w (.agg #[.slice a xs.length c, .slice b L.length c2]) xs L) : Ints w a xs.length (fun j => xs.getD j 0) := by
  obtain ⟨a', c', b', c2', e, h1, h2, h3, h4⟩ := h
  injection e with e
  have e1 := congrArg (fun q : Array Value => q.getD 0 undef) e
  injection e1 with e2 e3 e4
  subst e2
  exact h3

set_option maxRecDepth 100000 in
set_option maxHeartbeats 3200000 in
theorem lawDeskNew (a : Option Addr) (n cap : Nat) (w : World) (h : BytesIn w a n cap) :
    Calls Try.prog 4 #[.slice a n cap] w (TrueEnd w) := by
  have hlen := h.len
  have H := Lib.hid h; clear h
  by_cases hn : 1048576 < n
  · go_enter Try.func4, Try.ntmps4
    go_wp2_with fail
    go_ret
    exact ⟨rfl, Below.refl _ _⟩
  · go_enter Try.func4, Try.ntmps4
    go_wp2_with fail
    refine (DrawDeskNew_any _ _ _ _ H.out).mono ?_
    rintro e w1 ⟨p0, c0, xs, rfl, hx8, hi, hb1⟩
    have HI := Lib.hid hi; have HB := Lib.hid hb1; have HX := Lib.hid hx8
    clear H hi hb1
    obtain ⟨ys, hys⟩ : ∃ ys, (if famL xs then xs else []) = ys := ⟨_, rfl⟩
    have hok : okD ys ([] : List (List Int)) := by rw [← hys]; exact okD_new xs
    have HY := Lib.hid hys; have HOK := Lib.hid hok
    clear hys hok
    go_wp2_with fail
    refine (DeskNew_any p0 xs _ _ HI.out).mono ?_
    rintro e w2 ⟨v1, v2, rfl, hg⟩
    rw [HY.out] at hg
    obtain ⟨p1, e1, p2, e2, rfl, rfl, hd, hb⟩ := HOK.out.gives hg
    have hal := alloc_below w2 (.cells #[.slice p1 ys.length e1, .slice p2 0 e2] 26)
    have HV := Lib.hid (VarD.new hd)
    replace HI := Lib.hid (HI.out.below (below_onto hb hal) (Nat.le_refl _)); replace HB := Lib.hid (below_onto HB.out (below_onto hb hal))
    obtain ⟨w3, hw3⟩ : ∃ w3, w2.alloc (.cells #[.slice p1 ys.length e1, .slice p2 0 e2] 26) = w3 := ⟨_, rfl⟩
    obtain ⟨A, hA⟩ : ∃ A, w2.heap.size = A := ⟨_, rfl⟩
    have hV := HV.out
    simp only [List.length_nil] at hV
    rw [hw3] at HI HB hV
    rw [hA] at hV
    clear HV
    have HV := Lib.hid hV
    clear hg hd hb hal hV
    go_wp2_with fail
    clear hw3 hA
    refine (specDeskNewP_any p0 xs _ _ HI.out).mono ?_
    rintro e w4 ⟨v3, v4, rfl, hg⟩
    rw [HY.out] at hg
    obtain ⟨p3, e3, p4, e4, rfl, rfl, hd, hb⟩ := HOK.out.gives hg.gives
    have hal := alloc_below w4 (.cells #[.slice p3 ys.length e3, .slice p4 0 e4] 26)
    have HS := Lib.hid (VarD.new hd)
    replace HI := Lib.hid (HI.out.below (below_onto hb hal) (Nat.le_refl _)); replace HB := Lib.hid (below_onto HB.out (below_onto hb hal))
    replace HV := Lib.hid (HV.out.kept (below_onto hb hal))
    obtain ⟨w5, hw5⟩ : ∃ w5, w4.alloc (.cells #[.slice p3 ys.length e3, .slice p4 0 e4] 26) = w5 := ⟨_, rfl⟩
    obtain ⟨S, hS⟩ : ∃ S, w4.heap.size = S := ⟨_, rfl⟩
    have hV := HS.out
    simp only [List.length_nil] at hV
    rw [hw5] at HI HB HV hV
    rw [hS] at hV
    clear HS
    have HS := Lib.hid hV
    clear hg hd hb hal hV
    have ha0 := HV.out.blk.cell.1; have ha1 := HV.out.blk.cell.2; have hs0 := HS.out.blk.cell.1; have hs1 := HS.out.blk.cell.2
    simp only [List.length_nil] at ha1 hs1
    go_wp2_with fail
    clear hw5 hS
    refine (HOK.out.nine.same _ _ _ HV.out.d HS.out.d).mono ?_
    rintro e w6 ⟨rfl, hb⟩
    replace HI := Lib.hid (HI.out.below hb (Nat.le_refl _)); replace HB := Lib.hid (below_onto HB.out hb)
    replace HV := Lib.hid (HV.out.kept hb)
    clear hb ha0 ha1 hs0 hs1 HS
    have ha0 := HV.out.blk.cell.1; have ha1 := HV.out.blk.cell.2
    simp only [List.length_nil] at ha1
    cases hf : famL xs with
    | false =>
      have hyn : ys = [] := by rw [← HY.out, hf]; rfl
      subst hyn
      have HF := Lib.hid hf
      clear hf
      have hne : (false != false) = false := rfl
      go_wp2_with fail
      refine (noDesk_any _ _ HV.out.d).mono ?_
      rintro e w7 ⟨rfl, hb⟩
      replace HI := Lib.hid (HI.out.below hb (Nat.le_refl _)); replace HB := Lib.hid (below_onto HB.out hb)
      clear hb ha0 ha1
      go_wp2_with fail
      refine (FamilyOk_any _ _ _ _ _ HI.out).mono ?_
      rintro e w8 ⟨rfl, hb⟩
      rw [show famOkB xs.length (fun j => xs.getD j 0) = false from HF.out]
      replace HB := Lib.hid (below_onto HB.out hb)
      clear hb
      go_wp2_with fail
      refine (alive_any _).mono ?_
      rintro e w9 ⟨rfl, hb⟩
      replace HB := Lib.hid (below_onto HB.out hb); clear hb
      go_wp2_with fail
      go_ret
      exact ⟨rfl, HB.out⟩
    | true =>
      have hyn : ys = xs := by rw [← HY.out, hf]; rfl
      subst hyn
      have HF := Lib.hid (show deskB ys [] = true from deskB_iff.2 ⟨hf, by simp, fun l hl => by cases hl⟩)
      clear hf
      have hne : (true != true) = false := rfl
      go_wp2_with fail
      refine (DeskOk_any _ ys [] _ HV.out.d).mono ?_
      rintro e w7 ⟨rfl, hb⟩
      rw [HF.out]
      replace HI := Lib.hid (HI.out.below hb (Nat.le_refl _)); replace HB := Lib.hid (below_onto HB.out hb)
      replace HV := Lib.hid (HV.out.kept hb)
      clear hb ha0 ha1
      have ha0 := HV.out.blk.cell.1; have ha1 := HV.out.blk.cell.2
      simp only [List.length_nil] at ha1
      go_wp2_with fail
      refine (sameInts_drew _ _ _ _ ys.length _ (by have := HX.out; omega) _ HV.out.d.now HI.out).mono ?_
      rintro e w8 ⟨rfl, hd⟩
      have hb := hd.below
      replace HB := Lib.hid (below_onto HB.out hb)
      replace HV := Lib.hid (HV.out.kept hb)
      clear hb hd ha0 ha1
      have ha0 := HV.out.blk.cell.1; have ha1 := HV.out.blk.cell.2
      simp only [List.length_nil] at ha1
      go_wp2_with fail
      go_ret
      exact ⟨rfl, HB.out⟩
end Go.Proofs.Ytndcnfbncepihaa
