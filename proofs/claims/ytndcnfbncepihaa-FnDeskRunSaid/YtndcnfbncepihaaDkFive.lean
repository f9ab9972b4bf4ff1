import Derived.Test.YtndcnfbncepihaaDkFour
import Derived.Test.YtndcnfbncepihaaDkOne
namespace Go.Proofs.Ytndcnfbncepihaa
set_option linter.unusedVariables false
set_option linter.unusedSimpArgs false
open Go.RowKit Go.Maps

theorem specDeskDo_any (d : Value) (xs : List Int) (L : List (List Int)) (k x : Int) (hx : I64 x) (w : World) (h : DeskR w d xs L) :
    Calls Try.prog 24 #[d, .agg #[.int .i64 k, .int .i64 x]] w (DoneP (dkB xs L k x) (dkX xs L k x) (dkL xs L k x) w) := by
  cases hdk : deskB xs L with
  | false =>
    obtain ⟨e1, e2, e3⟩ := dk_none (k := k) (x := x) hdk
    rw [e1, e2, e3]
    exact specDeskDo_no d xs L k x hx hdk w h
  | true =>
    by_cases hB : k = 4 ∧ x = 0 ∧ L ≠ []
    · obtain ⟨rfl, rfl, hne⟩ := hB
      rw [dkB_back hdk, (dk_back hdk hne).1, (dk_back hdk hne).2, decide_eq_true hne]
      exact specDeskDo_back d xs L hdk hne w h
    · obtain ⟨e1, e2, e3⟩ := dk_other hdk hB
      rw [e1, e2, e3]
      by_cases h4 : k = 4 ∧ x = 0
      · obtain ⟨rfl, rfl⟩ := h4
        have hL : L = [] := by
          by_cases hL : L = []
          · exact hL
          · exact absurd ⟨rfl, rfl, hL⟩ hB
        have hcb : chB xs 4 0 = false := chB_fam (by rw [show mdL xs 4 0 = [] from rfl]; exact famL_nil)
        exact specDeskDo_nil d xs L hdk hL hcb w h
      · cases hcb : chB xs k x with
        | true => have := specDeskDo_yes d xs L k x hx hdk h4 hcb w h; rw [hcb] at this; exact this
        | false => have := specDeskDo_keep d xs L k x hx hdk h4 hcb w h; rw [hcb] at this; exact this

/-! ### desks in variables -/
/-- small families -/
def okD (ys : List Int) (M : List (List Int)) : Prop := (ys.length ≤ 7 ∧ I64s ys) ∧ M.length ≤ 8 ∧ ∀ l ∈ M, l.length ≤ 7 ∧ I64s l
theorem okD_nil : okD [] [] := ⟨⟨by simp, fun y hy => by simp at hy⟩, by simp, fun l hl => by simp at hl⟩
theorem okD_desk {ys : List Int} {M : List (List Int)} (h : deskB ys M = true) : okD ys M := by
  obtain ⟨h1, h2, h3⟩ := deskB_iff.1 h
  exact ⟨⟨(famL_len h1).2, famL_I64 h1⟩, h2, fun l hl => ⟨(famL_len (h3 l hl)).2, famL_I64 (h3 l hl)⟩⟩
theorem okD_do (xs : List Int) (L : List (List Int)) (k x : Int) : okD (dkX xs L k x) (dkL xs L k x) := by
  cases hdk : deskB xs L with
  | true => exact okD_desk (dk_desk hdk)
  | false =>
    obtain ⟨_, e2, e3⟩ := dk_none (k := k) (x := x) hdk
    rw [e2, e3]; exact okD_nil
theorem okD_new (xs : List Int) : okD (if famL xs then xs else []) [] := by
  cases h : famL xs with
  | true => exact ⟨⟨(famL_len h).2, famL_I64 h⟩, by simp, fun l hl => by simp at hl⟩
  | false => exact okD_nil
theorem okD.tot {ys : List Int} {M : List (List Int)} (h : okD ys M) {rs : List Fr} (hr : rs.map Fr.xs = M) : totF rs ≤ 56 := by
  obtain ⟨_, h2, h3⟩ := h
  have key : ∀ N : List (List Int), (∀ l ∈ N, l.length ≤ 7) → (N.map List.length).sum ≤ 7 * N.length := by
    intro N
    induction N with
    | nil => intro _; simp
    | cons l N ih =>
      intro hN
      have := ih (fun l hl => hN l (List.mem_cons_of_mem _ hl))
      have := hN l (List.mem_cons_self)
      rw [List.map_cons, List.sum_cons, List.length_cons]; omega
  have := key M (fun l hl => (h3 l hl).1)
  unfold totF
  rw [hr]; omega
/-- a desk in a variable of its own; all lies in blocks from B to T -/
structure DeskV (W : World) (B T b : Nat) (v1 v2 : Value) (ys : List Int) (rs : List Fr) : Prop where
  blk : Blk2 W b 26 v1 v2
  g : DeskG W B v1 v2 ys rs
  ne : ¬ DkBl v1 v2 rs b
  lo : B ≤ b
  hi : b < T ∧ ∀ q, DkBl v1 v2 rs q → q < T
theorem deskV_of {w w5 : World} {v1 v2 : Value} {ys : List Int} {M : List (List Int)} (h : GivesD ys M w w5 v1 v2) :
    ∃ rs, DeskV (w5.alloc (.cells #[v1, v2] 26)) w.heap.size (w5.heap.size + 1) w5.heap.size v1 v2 ys rs ∧ rs.map Fr.xs = M := by
  obtain ⟨rs, hg, hrs, hb⟩ := h
  exact ⟨rs, ⟨Blk2.new _ _ _ _, hg.kept (alloc_below _ _), fun e => by have := (hg.ltB _ e).2; omega, hb.size, Nat.lt_succ_self _, fun q hq => by have := (hg.ltB q hq).2; omega⟩, hrs⟩
/-- the same, where the variable was made before -/
theorem deskV_set {w w5 : World} {B b : Nat} {v1 v2 x y : Value} {ys : List Int} {M : List (List Int)} (h : GivesD ys M w w5 v1 v2) (hblk : Blk2 w b 26 x y) (hB : B ≤ b) :
    ∃ rs, DeskV ((w5.setCell ⟨b, 0, none⟩ v1).setCell ⟨b, 1, none⟩ v2) B w5.heap.size b v1 v2 ys rs ∧ rs.map Fr.xs = M := by
  obtain ⟨rs, hg, hrs, hb⟩ := h
  have hbl := hblk.lt
  exact ⟨rs, ⟨((hblk.kept hb hbl).set0 v1).set1 v2, ((hg.put (p := ⟨b, 0, none⟩) hbl).put (p := ⟨b, 1, none⟩) hbl).base (by omega), fun e => by have := (hg.ltB _ e).1; omega, hB, Nat.lt_of_lt_of_le hbl hb.size, fun q hq => (hg.ltB q hq).2⟩, hrs⟩
theorem DeskV.kept {W W' : World} {B T b : Nat} {v1 v2 : Value} {ys : List Int} {rs : List Fr} (h : DeskV W B T b v1 v2 ys rs) (hb : Below W.heap.size W W') : DeskV W' B T b v1 v2 ys rs := ⟨h.blk.kept hb h.blk.lt, h.g.kept hb, h.ne, h.lo, h.hi⟩
theorem DeskV.upon {F : Nat → Prop} {W W' : World} {B T b : Nat} {v1 v2 : Value} {ys : List Int} {rs : List Fr} (h : DeskV W B T b v1 v2 ys rs) (hu : Upon F W W') (hF : ∀ q, B ≤ q → q < T → ¬ F q) : DeskV W' B T b v1 v2 ys rs :=
  ⟨(hu.block b h.blk.lt (hF b h.lo h.hi.1)).trans h.blk, h.g.upon hu (fun q hq => hF q (h.g.ltB q hq).1 (h.hi.2 q hq)), h.ne, h.lo, h.hi⟩
theorem DeskV.read {W : World} {B T b : Nat} {v1 v2 : Value} {ys : List Int} {M : List (List Int)} {rs : List Fr} (h : DeskV W B T b v1 v2 ys rs) (hM : rs.map Fr.xs = M) (hk : okD ys M) : DeskR W (.agg #[v1, v2]) ys M := by
  obtain ⟨⟨h1, h2⟩, h3, h4⟩ := hk
  rw [← hM]
  exact h.g.read ⟨by omega, h2⟩ (fun r hr => by have := h4 r.xs (by rw [← hM]; exact List.mem_map.2 ⟨r, hr, rfl⟩); exact ⟨by omega, this.2⟩)
/-- a desk in a variable is marked -/
theorem DeskV.mark {W W' : World} {B T b s m : Nat} {v1 v2 : Value} {ys : List Int} {rs : List Fr} {e : Ending} (h : DeskV W B T b v1 v2 ys rs) (hm : MarkD B v1 v2 ys rs s m W e W') : DeskV W' B T b v1 v2 (runL s ys.length) (mkF (s + ys.length) rs) := by
  obtain ⟨_, h2, h3⟩ := hm
  have hcv : ∀ q, DkBl v1 v2 (mkF (s + ys.length) rs) q → DkBl v1 v2 rs q := fun q hq => by
    rcases hq with hq | hq
    · exact .inl hq
    · exact .inr (FB_mk.1 hq)
  exact ⟨(h3.block b h.blk.lt h.ne).trans h.blk, h2, fun e => h.ne (hcv _ e), h.lo, h.hi.1, fun q hq => h.hi.2 q (hcv q hq)⟩
/-- what is marked lies in its own blocks -/
theorem DeskV.markU {W W' : World} {B T b s m : Nat} {v1 v2 : Value} {ys : List Int} {rs : List Fr} {e : Ending} (h : DeskV W B T b v1 v2 ys rs) (hm : MarkD B v1 v2 ys rs s m W e W') : Upon (fun q => B ≤ q ∧ q < T) W W' :=
  hm.2.2.mono (fun q _ hq => ⟨(h.g.ltB q hq).1, h.hi.2 q hq⟩)
end Go.Proofs.Ytndcnfbncepihaa

namespace Go.Proofs.Ytndcnfbncepihaa
set_option linter.unusedVariables false
set_option linter.unusedSimpArgs false
open Go.RowKit Go.Maps

theorem NewD.get {xs : List Int} {w w' : World} {e : Ending} (h : NewD xs w e w') : ∃ v1 v2, e = .returned (.tuple #[.agg #[v1, v2], .bool (famL xs)]) ∧ GivesD (if famL xs then xs else []) [] w w' v1 v2 := h
theorem OwnX.nou {F : Nat → Prop} {W W' : World} {B g c n : Nat} {xs : List Int} (h : OwnX W B 3 (.slice (some ⟨g, 0, none⟩) n c) xs) (hu : Upon F W W') (hn : ¬ F g) : OwnX W' B 3 (.slice (some ⟨g, 0, none⟩) n c) xs :=
  hu.ownX h (fun q hq => by injection hq with hq; have hq : g = q := hq; subst hq; exact hn)

set_option maxRecDepth 100000 in
set_option maxHeartbeats 6400000 in
theorem exactDeskNew_in (a : Option Addr) (xs : List Int) (c : Nat) (hn : xs.length ≤ 1048576) (w : World) (hi : Ints w a xs.length (fun j => xs.getD j 0)) :
    Calls Try.prog 8 #[.slice a xs.length c] w (TrueEnd w) := by
  have HI := Lib.hid hi
  have HX := Lib.hid (ints_I64s hi)
  obtain ⟨ys, hys⟩ : ∃ ys, (if famL xs then xs else []) = ys := ⟨_, rfl⟩
  obtain ⟨M, hM⟩ : ∃ M : List (List Int), [] = M := ⟨_, rfl⟩
  have HYS := Lib.hid hys
  have HMS := Lib.hid hM
  have HOK := Lib.hid (show okD ys M by rw [← hys, ← hM]; exact okD_new xs)
  have HYL := Lib.hid (show ys.length ≤ 1048576 by have := HOK.out.1.1; omega)
  have HML := Lib.hid (show M.length ≤ 1048576 by have := HOK.out.2.1; omega)
  have HMM := Lib.hid (show ∀ l ∈ M, l.length ≤ 1048576 from fun l hl => by have := (HOK.out.2.2 l hl).1; omega)
  have hbig : decide ((1048576 : Int) < (xs.length : Int)) = false := decide_eq_false (by omega)
  obtain ⟨ok, hfb⟩ : ∃ ok, famL xs = ok := ⟨_, rfl⟩
  have HFB := Lib.hid hfb
  have hfne : (ok != ok) = false := by simp
  obtain ⟨n, hnn⟩ : ∃ n, xs.length = n := ⟨_, rfl⟩
  have HNN := Lib.hid hnn
  clear hi hys hfb hM hnn
  go_enter Try.func8, Try.ntmps8
  go_wp2_with fail
  refine (toIntO_any a xs c hn _ HI.out).mono ?_
  rintro e w1 ⟨rfl, ho1, hb1⟩
  have HI1 := Lib.hid (ints_own ho1 HX.out.1 HX.out.2)
  have HB1 := Lib.hid hb1
  clear ho1 hb1
  go_wp2_with fail
  refine (specDeskNew_any _ xs _ _ HI1.out).mono ?_
  rintro e w2 hnw
  obtain ⟨v1, v2, rfl, hg⟩ := hnw.get
  rw [HYS.out, HMS.out] at hg
  rw [HFB.out]
  obtain ⟨p1, e1, rfl⟩ := hg.one
  obtain ⟨p2, e2, rfl⟩ := hg.two
  obtain ⟨r0, hv0, hr0⟩ := deskV_of hg
  have HB2 := Lib.hid (below_onto HB1.out hg.below)
  have hal := alloc_below w2 (.cells #[.slice p1 ys.length e1, .slice p2 M.length e2] 26)
  have HB3 := Lib.hid (below_onto HB2.out hal)
  have HZ3 := Lib.hid (alloc_size w2 (.cells #[.slice p1 ys.length e1, .slice p2 M.length e2] 26))
  obtain ⟨w3, hw3⟩ : ∃ w3, w2.alloc (.cells #[.slice p1 ys.length e1, .slice p2 M.length e2] 26) = w3 := ⟨_, rfl⟩
  obtain ⟨b0, hb0⟩ : ∃ b0, w2.heap.size = b0 := ⟨_, rfl⟩
  obtain ⟨B0, hB0⟩ : ∃ B0, w1.heap.size = B0 := ⟨_, rfl⟩
  rw [hw3, hb0, hB0] at hv0
  rw [hw3] at HB3 HZ3
  rw [hb0] at HZ3
  have HV := Lib.hid hv0; have HR0 := Lib.hid hr0
  have HWB := Lib.hid (show w.heap.size ≤ B0 by rw [← hB0]; exact HB1.out.size)
  clear hg hv0 hr0 hal hnw hB0
  go_wp2_with fail
  clear hw3 hb0
  refine (toIntO_any a xs c hn _ (HI.out.below HB3.out (Nat.le_refl _))).mono ?_
  rintro e w4 ⟨rfl, ho4, hb4⟩
  have HXX := Lib.hid ho4
  have HV4 := Lib.hid (HV.out.kept hb4)
  have HB4 := Lib.hid (below_onto HB3.out hb4)
  have HI4 := Lib.hid (ints_own ho4 HX.out.1 HX.out.2)
  obtain ⟨X, hX⟩ : ∃ X, w3.heap.size = X := ⟨_, rfl⟩
  rw [hX] at HXX HI4 ⊢
  rw [hX] at HZ3
  have HX4 := Lib.hid (show X < w4.heap.size from (HXX.out.lt (g := X) rfl).2)
  clear ho4 hb4 HV hX
  go_wp2_with fail
  refine (DeskNew_any _ xs _ _ HI4.out).mono ?_
  rintro e w5 hnw
  obtain ⟨v1, v2, rfl, hg⟩ := hnw.get
  rw [HYS.out, HMS.out] at hg
  rw [HFB.out]
  obtain ⟨q1, f1, rfl⟩ := hg.one
  obtain ⟨q2, f2, rfl⟩ := hg.two
  obtain ⟨r1, hv1, hr1⟩ := deskV_of hg
  have hal := alloc_below w5 (.cells #[.slice q1 ys.length f1, .slice q2 M.length f2] 26)
  have HV5 := Lib.hid ((HV4.out.kept hg.below).kept hal)
  have HX5 := Lib.hid ((HXX.out.kept hg.below).kept hal)
  have HB5 := Lib.hid (below_onto (below_onto HB4.out hg.below) hal)
  obtain ⟨w6, hw6⟩ : ∃ w6, w5.alloc (.cells #[.slice q1 ys.length f1, .slice q2 M.length f2] 26) = w6 := ⟨_, rfl⟩
  obtain ⟨b1, hb1⟩ : ∃ b1, w5.heap.size = b1 := ⟨_, rfl⟩
  obtain ⟨B1, hB1⟩ : ∃ B1, w4.heap.size = B1 := ⟨_, rfl⟩
  rw [hw6, hb1, hB1] at hv1
  rw [hw6] at HV5 HX5 HB5
  rw [hB1] at HX4
  have HG := Lib.hid hv1; have HR1 := Lib.hid hr1
  have HT0 := Lib.hid (show b0 + 1 ≤ X by rw [HZ3.out]; exact Nat.le_refl _)
  clear hg hv1 hr1 hal hnw hB1 HXX HI1 HI4 HV4 HB1 HB2 HB3 HB4 HZ3
  have hc0 := HV5.out.blk.cell.1; have hc1 := HV5.out.blk.cell.2; have hd0 := HG.out.blk.cell.1; have hd1 := HG.out.blk.cell.2
  go_wp2_with fail
  clear hw6 hb1
  refine (eqDesk_any _ _ ys M HYL.out HML.out HMM.out _ (HG.out.read HR1.out HOK.out) (HV5.out.read HR0.out HOK.out)).mono ?_
  rintro e w7 ⟨rfl, hb⟩
  replace HV5 := Lib.hid (HV5.out.kept hb); replace HG := Lib.hid (HG.out.kept hb); replace HX5 := Lib.hid (HX5.out.kept hb); replace HB5 := Lib.hid (below_onto HB5.out hb)
  clear hb hc0 hc1 hd0 hd1
  go_wp2_with fail
  refine (toIntO_any a xs c hn _ (HI.out.below HB5.out (Nat.le_refl _))).mono ?_
  rintro e w8 ⟨rfl, ho8, hb⟩
  have HI8 := Lib.hid (ints_own ho8 HX.out.1 HX.out.2)
  replace HV5 := Lib.hid (HV5.out.kept hb); replace HG := Lib.hid (HG.out.kept hb); replace HX5 := Lib.hid (HX5.out.kept hb); replace HB5 := Lib.hid (below_onto HB5.out hb)
  have HI5 := Lib.hid (ints_own HX5.out HX.out.1 HX.out.2)
  clear hb ho8
  go_wp2_with fail
  refine (eqIntS_any _ _ _ _ xs.length (fun j => xs.getD j 0) (by omega) _ HI5.out HI8.out).mono ?_
  rintro e w9 ⟨rfl, hd⟩
  have hb := hd.below
  replace HV5 := Lib.hid (HV5.out.kept hb); replace HG := Lib.hid (HG.out.kept hb); replace HX5 := Lib.hid (HX5.out.kept hb); replace HB5 := Lib.hid (below_onto HB5.out hb)
  clear hb hd HI5 HI8
  obtain ⟨k1, hk1⟩ : ∃ k1, 1 + xs.length = k1 := ⟨_, rfl⟩
  have HK1 := Lib.hid hk1
  have hk1b : k1 ≤ 4398046511104 := by omega
  have hk1n : decide ((k1 : Int) < 0) = false := decide_eq_false (by omega)
  clear hk1
  go_wp2_with fail
  refine (markX_any _ X xs 1 k1 HK1.out hk1b _ HX5.out).mono ?_
  rintro e w10 ⟨rfl, ho, hu⟩
  replace HV5 := Lib.hid (HV5.out.upon hu (fun q h1 h2 h3 => by injection h3 with h3; have h3 : X = q := h3; have h4 := HT0.out; omega))
  replace HG := Lib.hid (HG.out.upon hu (fun q h1 h2 h3 => by injection h3 with h3; have h3 : X = q := h3; have h4 := HX4.out; omega))
  replace HB5 := Lib.hid (HB5.out.trans (hu.below (B := w.heap.size) (fun q h3 => by injection h3 with h3; have h3 : X = q := h3; have h4 := HT0.out; have h5 := HV5.out.lo; have h6 := HWB.out; omega) HB5.out.size))
  clear ho hu HX5
  have HSEP := Lib.hid (show b0 + 1 ≤ B1 by have h1 := HT0.out; have h2 := HX4.out; omega)
  have hc0 := HV5.out.blk.cell.1; have hc1 := HV5.out.blk.cell.2; have hd0 := HG.out.blk.cell.1; have hd1 := HG.out.blk.cell.2
  go_wp2_with fail
  refine (eqDesk_any _ _ ys M HYL.out HML.out HMM.out _ (HG.out.read HR1.out HOK.out) (HV5.out.read HR0.out HOK.out)).mono ?_
  rintro e w11 ⟨rfl, hb⟩
  replace HV5 := Lib.hid (HV5.out.kept hb); replace HG := Lib.hid (HG.out.kept hb); replace HB5 := Lib.hid (below_onto HB5.out hb)
  clear hb hc0 hc1 hd0 hd1
  have hd0 := HG.out.blk.cell.1; have hd1 := HG.out.blk.cell.2
  obtain ⟨m, hm⟩ : ∃ m, 1 + ys.length + totF r1 = m := ⟨_, rfl⟩
  have hmb : m ≤ 4398046511104 := by have h1 := HOK.out.tot HR1.out; have h2 := HOK.out.1.1; omega
  have hmn : decide ((m : Int) < 0) = false := decide_eq_false (by omega)
  have hmm : ((m : Int) != (m : Int)) = false := by simp
  have HM := Lib.hid hm
  have HTT := Lib.hid (show 1 + ys.length + ((r1.map Fr.xs).map List.length).sum = m from hm)
  clear hm
  go_wp2_with fail
  refine (markDesk_any _ _ B1 ys r1 1 m HM.out hmb _ HG.out.g).mono ?_
  rintro e w12 hmk
  have hmk1 := hmk.1
  subst hmk1
  have hu := HG.out.markU hmk
  replace HG := Lib.hid (HG.out.mark hmk)
  replace HV5 := Lib.hid (HV5.out.upon hu (fun q h1 h2 h3 => by have h4 := HSEP.out; omega))
  replace HB5 := Lib.hid (HB5.out.trans (hu.below (B := w.heap.size) (fun q h3 => by have h4 := HSEP.out; have h5 := HV5.out.lo; have h6 := HWB.out; have h7 := HV5.out.hi.1; omega) HB5.out.size))
  have HRD := Lib.hid (HG.out.g.marked HM.out hmb)
  clear hu hmk hd0 hd1
  have hd0 := HG.out.blk.cell.1; have hd1 := HG.out.blk.cell.2
  go_wp2_with fail
  refine (heldDesk_any _ ys.length ((r1.map Fr.xs).map List.length) 1 m HTT.out hmb _ HRD.out).mono ?_
  rintro e w13 ⟨rfl, hb⟩
  replace HV5 := Lib.hid (HV5.out.kept hb); replace HG := Lib.hid (HG.out.kept hb); replace HB5 := Lib.hid (below_onto HB5.out hb); replace HRD := Lib.hid (HRD.out.kept hb)
  clear hb hd0 hd1
  go_wp2_with fail
  refine (toIntO_any a xs c hn _ (HI.out.below HB5.out (Nat.le_refl _))).mono ?_
  rintro e w14 ⟨rfl, ho14, hb⟩
  have HI14 := Lib.hid (ints_own ho14 HX.out.1 HX.out.2)
  replace HV5 := Lib.hid (HV5.out.kept hb); replace HG := Lib.hid (HG.out.kept hb); replace HB5 := Lib.hid (below_onto HB5.out hb); replace HRD := Lib.hid (HRD.out.kept hb)
  clear hb ho14
  go_wp2_with fail
  refine (DeskNew_any _ xs _ _ HI14.out).mono ?_
  rintro e w15 hnw
  obtain ⟨v1, v2, rfl, hg⟩ := hnw.get
  rw [HYS.out, HMS.out] at hg
  rw [HFB.out]
  obtain ⟨s1, t1, rfl⟩ := hg.one
  obtain ⟨s2, t2, rfl⟩ := hg.two
  obtain ⟨r2, hv2, hr2⟩ := deskV_of hg
  have hal := alloc_below w15 (.cells #[.slice s1 ys.length t1, .slice s2 M.length t2] 26)
  have hb := below_onto hg.below hal
  replace HV5 := Lib.hid (HV5.out.kept hb); replace HG := Lib.hid (HG.out.kept hb); replace HB5 := Lib.hid (below_onto HB5.out hb); replace HRD := Lib.hid (HRD.out.kept hb)
  have HH := Lib.hid hv2; have HR2 := Lib.hid hr2
  obtain ⟨w16, hw16⟩ : ∃ w16, w15.alloc (.cells #[.slice s1 ys.length t1, .slice s2 M.length t2] 26) = w16 := ⟨_, rfl⟩
  rw [hw16] at HV5 HG HB5 HRD HH
  clear hg hv2 hr2 hal hb hnw HI14
  have hc0 := HV5.out.blk.cell.1; have hc1 := HV5.out.blk.cell.2; have hd0 := HH.out.blk.cell.1; have hd1 := HH.out.blk.cell.2
  go_wp2_with fail
  refine (eqDesk_any _ _ ys M HYL.out HML.out HMM.out _ (HH.out.read HR2.out HOK.out) (HV5.out.read HR0.out HOK.out)).mono ?_
  rintro e w17 ⟨rfl, hb⟩
  replace HG := Lib.hid (HG.out.kept hb); replace HB5 := Lib.hid (below_onto HB5.out hb); replace HRD := Lib.hid (HRD.out.kept hb)
  clear hb hc0 hc1 hd0 hd1
  have hd0 := HG.out.blk.cell.1; have hd1 := HG.out.blk.cell.2
  go_wp2_with fail
  refine (heldDesk_any _ ys.length ((r1.map Fr.xs).map List.length) 1 m HTT.out hmb _ HRD.out).mono ?_
  rintro e w18 ⟨rfl, hb⟩
  replace HB5 := Lib.hid (below_onto HB5.out hb)
  clear hb hd0 hd1
  go_wp2_with fail
  go_ret
  exact ⟨rfl, HB5.out⟩

set_option maxRecDepth 100000 in
theorem exactDeskNew_big (a : Option Addr) (n c : Nat) (hn : 1048576 < n) (hm : n ≤ 9223372036854775807) (w : World) :
    Calls Try.prog 8 #[.slice a n c] w (TrueEnd w) := by
  have hbig : decide ((1048576 : Int) < (n : Int)) = true := decide_eq_true (by omega)
  go_enter Try.func8, Try.ntmps8
  go_wp2_with fail
  go_ret
  exact ⟨rfl, Below.refl _ _⟩
theorem exactDeskNew (a : Option Addr) (n cap : Nat) (f : Nat → Int) (w : World) (hi : Ints w a n f) :
    Calls Try.prog 8 #[.slice a n cap] w (TrueEnd w) := by
  by_cases hn : n ≤ 1048576
  · have hi' : Ints w a (rowL f n).length (fun j => (rowL f n).getD j 0) := by
      rw [rowL_len]
      obtain ⟨⟨h1, h2⟩, h3⟩ := hi
      refine ⟨⟨h1, fun i hi => by show I64 ((rowL f n).getD i 0); rw [rowL_getD _ _ _ hi]; exact h2 i hi⟩, ?_⟩
      rcases h3 with h3 | ⟨b, o, e, hl, hr⟩
      · exact .inl h3
      · exact .inr ⟨b, o, e, hl, fun i hi => by
          have := hr i hi
          show w.cell? _ = some (Value.int .i64 ((rowL f n).getD i 0))
          rw [rowL_getD _ _ _ hi]; exact this⟩
    have := exactDeskNew_in a (rowL f n) cap (by rw [rowL_len]; exact hn) w hi'
    rw [rowL_len] at this
    exact this
  · exact exactDeskNew_big a n cap (by omega) hi.1.1 w
end Go.Proofs.Ytndcnfbncepihaa
