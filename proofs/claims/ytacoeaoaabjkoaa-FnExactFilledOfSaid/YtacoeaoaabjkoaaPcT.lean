import Derived.Test.YtacoeaoaabjkoaaPcS
namespace Go.Proofs.Ytacoeaoaabjkoaa
open Go.RowKit Go.Maps

/-- what is left in the model's loop, as a number -/
def LfP (n : Nat) (f : Nat → Int) (a : Int) (k : Nat) (y : Int) : Prop := (0 ≤ y ∧ y < 2 ^ n) ∧ ∀ i, i < 64 → (hasB y i = true ↔ lfB n f a k i)
theorem LfP.start {n : Nat} {f : Nat → Int} {a : Int} (hT : ThP n f a) : LfP n f a 0 a := ⟨⟨hT.lo, hT.hi⟩, fun i _ => (lf_zero i).symm⟩
theorem LfP.no {n : Nat} {f : Nat → Int} {a : Int} {k : Nat} {y : Int} (h : LfP n f a k y) (hl : ldB n f a k = false) : LfP n f a (k + 1) y :=
  ⟨h.1, fun i hi => by rw [h.2 i hi, lf_no hl]⟩
theorem LfP.lead {n : Nat} {f : Nat → Int} {a : Int} {k : Nat} {y : Int} (hT : ThP n f a) (h : LfP n f a k y) (hk : k < 64) : hasB y k = ldB n f a k := by
  rw [Bool.eq_iff_iff, h.2 k hk, lf_lead hT]
theorem LfP.yes {n : Nat} {f : Nat → Int} {a : Int} {k : Nat} {y : Int} (hT : ThP n f a) (h : LfP n f a k y) (hl : ldB n f a k = true) : I64 (y - pcI n f a k) ∧ LfP n f a (k + 1) (y - pcI n f a k) := by
  have h7 := hT.g.hi
  obtain ⟨hk1, hk2⟩ := (ld_iff hT).1 hl
  have hrng := pc_rng hT hk1
  have hp := pow_bounds n h7
  have hy := h.1
  obtain ⟨h3, h4⟩ := sub_bit (n := n) h7 h.1 ⟨by omega, hrng.2⟩ (fun i hi hb => (h.2 i hi).2 (by
    have hc := (pc_bit hT hk1 hi).1 hb
    refine ⟨hc.in hT, fun q hq _ hqi => hk2 q hq ?_⟩
    exact hc.trans hT (hqi.symm hT)))
  refine ⟨by unfold I64; omega, ⟨by omega, fun i hi => ?_⟩⟩
  rw [h4 i hi, Bool.and_eq_true, h.2 i hi, Bool.not_eq_true', Bool.eq_false_iff, lf_yes hl]
  constructor
  · rintro ⟨h5, h6⟩
    exact ⟨h5, fun hc => h6 ((pc_bit hT hk1 hi).2 hc)⟩
  · rintro ⟨h5, h6⟩
    exact ⟨h5, fun hc => h6 ((pc_bit hT hk1 hi).1 hc)⟩

set_option maxRecDepth 100000 in
set_option maxHeartbeats 3200000 in
theorem specPiecesOf_any (a : Option Addr) (n cap : Nat) (f : Nat → Int) (x : Int) (xs : List Int) (hxs : pcV n f x = xs) (hx : I64 x) (w : World) (hi : Ints w a n f) :
    Calls Try.prog 22 #[.slice a n cap, .int .i64 x] w (Gives 3 xs w) := by
  have hst : OwnX (w.alloc (.cells #[] 3)) w.heap.size 3 (.slice (some ⟨w.heap.size, 0, none⟩) 0 0) [] := OwnX.made w _ (Nat.le_refl _) _
  have hal := alloc_below w (.cells #[] 3)
  cases hg : thingB n f x with
  | true =>
    have HT := Lib.hid (th_of hi.i64 hx hg).1
    have h7 := HT.out.g.hi
    have HF := Lib.hid (show pcsL n f x = xs by rw [← hxs]; unfold pcV; rw [if_pos hg])
    have HI := Lib.hid hi; have HX := Lib.hid hx; have HG := Lib.hid hg; have HST := Lib.hid hst; have HAL := Lib.hid hal; clear hi hx hxs hg hst hal
    obtain ⟨i0, hii, hz0, hz1, hz2⟩ := info_parts Try.infoInt
    go_enter Try.func22, Try.ntmps22
    go_wp2_with fail
    refine (specThingOk_val a n cap f x true HX.out _ HG.out (HI.out.below HAL.out (Nat.le_refl _))).mono ?_
    rintro e w1 ⟨rfl, hd1⟩
    have hst := HST.out.kept hd1.below
    have hbel := HAL.out.trans (hd1.below.mono HAL.out.size)
    clear hd1
    go_wp2_with fail
    go_loopw [5, 6, 7, 8] (fun v l i _ wr => ∃ (k : Nat) (y : Int), k ≤ n ∧ i = .int .i64 k ∧ l = .int .i64 y ∧ Hid (LfP n f x k y) ∧ OwnX wr w.heap.size 3 v (pcsK n f x k) ∧ Below w.heap.size w wr) (fun _ _ i _ _ => n - (intOf i).toNat)
    case atStart => exact ⟨0, x, Nat.zero_le _, rfl, rfl, Lib.hid (LfP.start HT.out), hst, hbel⟩
    case round =>
      clear hst hbel
      obtain ⟨k, y, hk, rfl, rfl, hl, hown, hbel⟩ := hrel
      have HB2 := Lib.hid hbel; have HO1 := Lib.hid hown
      clear hbel hown
      by_cases hlt : k < n
      · have hki : (k : Int) < (n : Int) := by omega
        have hk6 : k ≤ 63 := by omega
        have HY0 := Lib.hid hl.out.1.1
        have hyl := hl.out.lead HT.out (by omega)
        cases hv : ldB n f x k with
        | true =>
          rw [hv] at hyl
          have HYL := Lib.hid hyl
          have hpk := ((ld_iff HT.out).1 hv).1
          obtain ⟨hw64, hl2⟩ := hl.out.yes HT.out hv
          have HSC := Lib.hid (pcsK_yes hv)
          have hwr : IntKind.i64.wrap (y - pcI n f x k) = y - pcI n f x k := wrap_in _ hw64
          have HPC := Lib.hid (specPiece_any a n cap f x k HT.out hpk wr (HI.out.below HB2.out (Nat.le_refl _)))
          obtain ⟨z, hz⟩ : ∃ z, pcI n f x k = z := ⟨_, rfl⟩
          rw [hz] at HPC hwr HSC hl2
          have HL2 := Lib.hid hl2
          clear hyl hv hw64 hl2 hpk hz
          obtain ⟨a9, c9, rfl⟩ := HO1.out.slice
          have HO : Hid (wr.ownsRow w.heap.size 3 1 (.slice a9 (pcsK n f x k).length c9) (pcsK n f x k).length ((pcsK n f x k).map (Value.int .i64))) := Lib.hid HO1.out
          have HL := Lib.hid (show (pcsK n f x k).length ≤ 1000 by have := pcsK_len (n := n) (f := f) (a := x) k; omega)
          have HSZ : Hid (w.heap.size ≤ wr.heap.size) := Lib.hid HB2.out.size
          have k1 := Lib.hid (fun (j : Nat) (u : Value) (h : [Value.int .i64 z][j]? = some u) => cell_one_new wr (.int .i64 z) 3 j u h)
          have k2 : Hid (∀ u ∈ [Value.int .i64 z], u.oneCell' = true) := Lib.hid (by intro u hu; simp at hu; subst hu; rfl)
          have k3 : Hid ((pcsK n f x k).length + 1 ≤ maxLen) := Lib.hid (by have := HL.out; unfold maxLen; omega)
          have k4 : Hid (((pcsK n f x k).length + 1) * 8 ≤ 140737488355328) := Lib.hid (by have := HL.out; omega)
          have k5 : Hid (w.heap.size ≤ (wr.alloc (.cells #[.int .i64 z] 3)).heap.size) := Lib.hid (by rw [alloc_size]; have := HSZ.out; omega)
          go_wp2_with fail
          refine (l1Has_val _ _ true _ HYL.out hk6 HY0.out).mono ?_
          rintro e w' ⟨rfl, rfl⟩
          go_wp2_with fail
          refine HPC.out.mono ?_
          rintro e w' ⟨rfl, rfl⟩
          go_wp2_with (at_builtin; refine wpList_append_own _ rfl (.tmp 29) (.tmp 31) 23 rfl w.heap.size 3 i0 (.int .i64 0) 1 8 Try.underlying23 hii hz0 hz1 hz2 rfl (by decide) _ _ _ rfl (HO.out.alloc _) ⟨wr.heap.size, 0, none⟩ 1 1 [.int .i64 z] rfl rfl k1.out k2.out k3.out k4.out k5.out ?_)
          intro v' w5 hown' hgrow _
          have hg5 : Below w.heap.size wr w5 := ((Below.refl w.heap.size wr).alloc HSZ.out _).grown hgrow (by have := HSZ.out; rw [alloc_size]; omega) (fun q hq => (HO.out.lt q hq).1)
          have ho5 := OwnX.snoc hown'
          rw [← HSC.out] at ho5
          obtain ⟨a5, c5, rfl⟩ := ho5.slice
          have HO5 := Lib.hid ho5; have HB5 := Lib.hid (HB2.out.trans hg5)
          clear hown' hgrow k1 k2 k3 k4 k5 ho5 hg5
          go_wp2_with fail
          go_roundw
          case rel => exact ⟨k + 1, y - z, by omega, by go_num, rfl, HL2, HO5.out, HB5.out⟩
          case measure => simp [intOf]; omega
        | false =>
          rw [hv] at hyl
          have HYL := Lib.hid hyl
          have HSC := Lib.hid (pcsK_no hv)
          have HL2 := Lib.hid (hl.out.no hv)
          clear hyl hv
          go_wp2_with fail
          refine (l1Has_val _ _ false _ HYL.out hk6 HY0.out).mono ?_
          rintro e w' ⟨rfl, rfl⟩
          go_wp2_with fail
          go_roundw
          case rel => exact ⟨k + 1, y, by omega, by go_num, rfl, HL2, by rw [HSC.out]; exact HO1.out, HB2.out⟩
          case measure => simp [intOf]; omega
      · have hki : ¬ (k : Int) < (n : Int) := by omega
        have hkn : k = n := by omega
        subst hkn
        have ho9 := HO1.out
        rw [show pcsK k f x k = xs from HF.out] at ho9
        obtain ⟨a9, c9, rfl⟩ := ho9.slice
        have HO9 := Lib.hid ho9
        clear ho9
        go_wp2_with fail
        go_ret
        exact ⟨_, rfl, HO9.out, HB2.out⟩
  | false =>
    have HF := Lib.hid (show [] = xs by rw [← hxs]; unfold pcV; rw [if_neg (by rw [hg]; decide)])
    have HI := Lib.hid hi; have HX := Lib.hid hx; have HG := Lib.hid hg; have HST := Lib.hid hst; have HAL := Lib.hid hal; clear hi hx hxs hg hst hal
    go_enter Try.func22, Try.ntmps22
    go_wp2_with fail
    refine (specThingOk_val a n cap f x false HX.out _ HG.out (HI.out.below HAL.out (Nat.le_refl _))).mono ?_
    rintro e w1 ⟨rfl, hd1⟩
    go_wp2_with fail
    go_ret
    exact ⟨_, rfl, by rw [← HF.out]; exact HST.out.kept hd1.below, HAL.out.trans (hd1.below.mono HAL.out.size)⟩

theorem rs_sub {n : Nat} {f : Nat → Int} {x : Int} (hT : ThP n f x) : (I64 (2 ^ n - 1 - x)) ∧ 2 ^ n - 1 - x = rsI n x := by
  have h7 := hT.g.hi
  have hp := pow_bounds n h7
  have h1 := hT.lo
  have h2 := hT.hi
  obtain ⟨h3, h4⟩ := sub_bit (n := n) (a := 2 ^ n - 1) (s := x) h7 ⟨by omega, by omega⟩ ⟨h1, h2⟩ (fun i hi hb => by rw [hasB_low, decide_eq_true (hT.lt hb)])
  have h64 : I64 (2 ^ n - 1 - x) := by unfold I64; omega
  refine ⟨h64, ext64 _ _ h64 (andNot_I64 _ _) (fun i hi => ?_)⟩
  rw [h4 i hi, rsI, andNot_bit _ _ _ hi]
theorem ev_rem (x : Int) (h : 0 ≤ x) : (x.tmod 2 == 0) = !hasB x 0 := by
  rw [Int.tmod_eq_emod_of_nonneg h]
  unfold hasB
  rw [Int.pow_zero, Int.ediv_one]
  have : x % 2 = 0 ∨ x % 2 = 1 := by omega
  rcases this with h | h <;> rw [h] <;> rfl
theorem pcV_pos {n : Nat} {f : Nat → Int} {a : Int} (h64 : ∀ i, i < n → I64 (f i)) (ha : I64 a) : ∀ x ∈ pcV n f a, 1 ≤ x ∧ x < 2 ^ n := by
  intro x hx
  unfold pcV at hx
  split at hx
  · rename_i h
    obtain ⟨hT, _⟩ := th_of h64 ha h
    obtain ⟨p, hp, hl, rfl⟩ := pcs_mem.1 hx
    exact pc_rng hT ((ld_iff hT).1 hl).1
  · cases hx

set_option maxRecDepth 100000 in
set_option maxHeartbeats 3200000 in
theorem specHolesOf_any (a : Option Addr) (n cap : Nat) (f : Nat → Int) (x : Int) (xs : List Int) (hxs : hoV n f x = xs) (hx : I64 x) (w : World) (hi : Ints w a n f) :
    Calls Try.prog 26 #[.slice a n cap, .int .i64 x] w (Gives 3 xs w) := by
  have hst : OwnX (w.alloc (.cells #[] 3)) w.heap.size 3 (.slice (some ⟨w.heap.size, 0, none⟩) 0 0) [] := OwnX.made w _ (Nat.le_refl _) _
  have hal := alloc_below w (.cells #[] 3)
  cases hg : thingB n f x with
  | true =>
    have hT := (th_of hi.i64 hx hg).1
    have h7 := hT.g.hi
    have ⟨hp1, hp2⟩ := low_bounds n hT.g.lo h7
    obtain ⟨hr64, hrs⟩ := rs_sub hT
    have hwr : IntKind.i64.wrap (2 ^ n - 1 - x) = rsI n x := by rw [wrap_in _ hr64, hrs]
    have HF := Lib.hid (show evL (pcV n f (rsI n x)) = xs by rw [← hxs]; unfold hoV; rw [if_pos hg])
    have HRI := Lib.hid (show I64 (rsI n x) from andNot_I64 _ _)
    have HI := Lib.hid hi; have HX := Lib.hid hx; have HG := Lib.hid hg; have HST := Lib.hid hst; have HAL := Lib.hid hal; clear hi hx hxs hg hst hal hT hr64 hrs
    obtain ⟨i0, hii, hz0, hz1, hz2⟩ := info_parts Try.infoInt
    obtain ⟨y, hy⟩ : ∃ y, rsI n x = y := ⟨_, rfl⟩
    rw [hy] at hwr HF HRI
    clear hy
    have HPO := Lib.hid (pcV_pos (n := n) (f := f) (a := y) HI.out.i64 HRI.out); have HP7 := Lib.hid (pcV_7 (n := n) (f := f) (a := y)); have HP64 := Lib.hid (pcV_64 (n := n) (f := f) (a := y) HI.out.i64 HRI.out)
    obtain ⟨ys, hys⟩ : ∃ ys, pcV n f y = ys := ⟨_, rfl⟩
    rw [hys] at HF HPO HP7 HP64
    have HYS := Lib.hid hys; clear hys
    go_enter Try.func26, Try.ntmps26
    go_wp2_with fail
    refine (specThingOk_val a n cap f x true HX.out _ HG.out (HI.out.below HAL.out (Nat.le_refl _))).mono ?_
    rintro e w1 ⟨rfl, hd1⟩
    have HST1 := Lib.hid (HST.out.kept hd1.below)
    have HB1 := Lib.hid (HAL.out.trans (hd1.below.mono HAL.out.size))
    have HSZ1 := Lib.hid (show w.heap.size < w1.heap.size by have := hd1.below.size; rw [alloc_size] at this; omega)
    clear hd1
    go_wp2_with fail
    refine (specPiecesOf_any a n cap f y ys HYS.out HRI.out w1 (HI.out.below HB1.out (Nat.le_refl _))).mono ?_
    rintro e w2 ⟨lv, rfl, hol, hb2⟩
    obtain ⟨al, cl, rfl⟩ := hol.slice
    have HOL := Lib.hid hol
    have hst := HST1.out.kept hb2
    have hbel := HB1.out.trans (hb2.mono HB1.out.size)
    clear hol hb2
    obtain ⟨m, hm⟩ : ∃ m, ys.length = m := ⟨_, rfl⟩
    have HM := Lib.hid hm
    have hm7 : m ≤ 7 := by have := HP7.out; omega
    rw [hm]
    clear hm
    go_wp2_with fail
    go_loopw [5, 7] (fun v i wr => ∃ k : Nat, k ≤ m ∧ i = .int .i64 k ∧ OwnX wr w.heap.size 3 v (evL (ys.take k)) ∧ Hid (OwnX wr w1.heap.size 3 (.slice al ys.length cl) ys ∧ ∀ q, v.ownBlock = some q → (Value.slice al ys.length cl).ownBlock ≠ some q) ∧ Below w.heap.size w wr) (fun _ i _ => m - (intOf i).toNat)
    case atStart =>
      exact ⟨0, Nat.zero_le _, rfl, hst, Lib.hid ⟨HOL.out, fun q hq e => by
        have h1 := (World.ownsRow.lt HOL.out q e).1
        have h2 : w.heap.size = q := Option.some.inj hq
        have := HSZ1.out
        omega⟩, hbel⟩
    case round =>
      clear hst hbel
      obtain ⟨k, hk, rfl, hown, hlv, hbel⟩ := hrel
      have HB2 := Lib.hid hbel; have HO1 := Lib.hid hown
      clear hbel hown
      by_cases hlt : k < m
      · have hki : (k : Int) < (m : Int) := by omega
        have hk0 : (0 : Int) ≤ (k : Int) := by omega
        have HKL := Lib.hid (show k < ys.length by rw [HM.out]; exact hlt)
        obtain ⟨g, c2, hv2, _, _, _, _, hrow, _⟩ := hlv.out.1.shape (by have := HKL.out; omega)
        injection hv2 with e1 e2 e3
        subst e1; subst e3
        clear e2
        have hc := hrow k HKL.out
        rw [Nat.zero_add] at hc
        have hzm := HPO.out _ (getD_mem HKL.out)
        have hrem := ev_rem _ (show 0 ≤ ys.getD k 0 by omega)
        have HYE := Lib.hid (fun h => ev_yes (xs := ys) (j := k) HKL.out h); have HNE := Lib.hid (fun h => ev_no (xs := ys) (j := k) HKL.out h)
        obtain ⟨z, hz⟩ : ∃ z, ys.getD k 0 = z := ⟨_, rfl⟩
        simp only [hz] at hc hzm hrem HYE HNE
        clear hrow hzm hz
        cases hv : hasB z 0 with
        | true =>
          rw [hv] at hrem
          have hrem2 : (z.tmod 2 == 0) = false := hrem
          have HSC := Lib.hid (HNE.out hv)
          clear hv hrem
          go_wp2_with fail
          go_roundw
          case rel => exact ⟨k + 1, by omega, by go_num, by rw [HSC.out]; exact HO1.out, hlv, HB2.out⟩
          case measure => simp [intOf]; omega
        | false =>
          rw [hv] at hrem
          have hrem2 : (z.tmod 2 == 0) = true := hrem
          have HSC := Lib.hid (HYE.out hv)
          clear hv hrem
          obtain ⟨a9, c9, rfl⟩ := HO1.out.slice
          have HO : Hid (wr.ownsRow w.heap.size 3 1 (.slice a9 (evL (ys.take k)).length c9) (evL (ys.take k)).length ((evL (ys.take k)).map (Value.int .i64))) := Lib.hid HO1.out
          have HL := Lib.hid (show (evL (ys.take k)).length ≤ 1000 by have := ev_len ys k; have := HP7.out; have := HM.out; omega)
          have HSZ : Hid (w.heap.size ≤ wr.heap.size) := Lib.hid HB2.out.size
          have k1 := Lib.hid (fun (j : Nat) (u : Value) (h : [Value.int .i64 z][j]? = some u) => cell_one_new wr (.int .i64 z) 3 j u h)
          have k2 : Hid (∀ u ∈ [Value.int .i64 z], u.oneCell' = true) := Lib.hid (by intro u hu; simp at hu; subst hu; rfl)
          have k3 : Hid ((evL (ys.take k)).length + 1 ≤ maxLen) := Lib.hid (by have := HL.out; unfold maxLen; omega)
          have k4 : Hid (((evL (ys.take k)).length + 1) * 8 ≤ 140737488355328) := Lib.hid (by have := HL.out; omega)
          have k5 : Hid (w.heap.size ≤ (wr.alloc (.cells #[.int .i64 z] 3)).heap.size) := Lib.hid (by rw [alloc_size]; have := HSZ.out; omega)
          go_wp2_with (at_builtin; refine wpList_append_own_at _ rfl (.tmp 34) (.tmp 39) 23 rfl w.heap.size 3 i0 (.int .i64 0) 1 8 Try.underlying23 hii hz0 hz1 hz2 rfl (by decide) _ _ _ rfl (HO.out.alloc _) ⟨wr.heap.size, 0, none⟩ 1 1 [.int .i64 z] rfl rfl k1.out k2.out k3.out k4.out k5.out ?_)
          intro v' w5 hown' hgrow _ hat
          have hg5 : Below w.heap.size wr w5 := ((Below.refl w.heap.size wr).alloc HSZ.out _).grown hgrow (by have := HSZ.out; rw [alloc_size]; omega) (fun q hq => (HO.out.lt q hq).1)
          have ho5 := OwnX.snoc hown'
          rw [← HSC.out] at ho5
          have hlv5 : OwnX w5 w1.heap.size 3 (.slice (some ⟨g, 0, none⟩) ys.length cl) ys := (hlv.out.1.kept (alloc_below wr (.cells #[.int .i64 z] 3))).other (fun q hq _ hql => hgrow.block q hql (fun e => hlv.out.2 q e.symm hq))
          have hnm : ∀ q, v'.ownBlock = some q → (Value.slice (some ⟨g, 0, none⟩) ys.length cl).ownBlock ≠ some q := fun q hq e => by
            rcases hat with hat | hat
            · exact hlv.out.2 q (hat.symm.trans hq) e
            · rw [hat] at hq
              have h3 := (World.ownsRow.lt hlv.out.1 q e).2
              cases hq
              omega
          obtain ⟨a5, c5, rfl⟩ := ho5.slice
          have HO5 := Lib.hid ho5; have HB5 := Lib.hid (HB2.out.trans hg5); have HLV5 := Lib.hid (And.intro hlv5 hnm)
          clear hown' hgrow k1 k2 k3 k4 k5 ho5 hg5 hlv5 hnm hat
          go_wp2_with fail
          go_roundw
          case rel => exact ⟨k + 1, by omega, by go_num, HO5.out, HLV5, HB5.out⟩
          case measure => simp [intOf]; omega
      · have hki : ¬ (k : Int) < (m : Int) := by omega
        have hkn : k = m := by omega
        subst hkn
        have ho9 := HO1.out
        rw [List.take_of_length_le (by rw [HM.out]; exact Nat.le_refl _), HF.out] at ho9
        obtain ⟨a9, c9, rfl⟩ := ho9.slice
        have HO9 := Lib.hid ho9
        clear ho9
        go_wp2_with fail
        go_ret
        exact ⟨_, rfl, HO9.out, HB2.out⟩
  | false =>
    have HF := Lib.hid (show [] = xs by rw [← hxs]; unfold hoV; rw [if_neg (by rw [hg]; decide)])
    have HI := Lib.hid hi; have HX := Lib.hid hx; have HG := Lib.hid hg; have HST := Lib.hid hst; have HAL := Lib.hid hal; clear hi hx hxs hg hst hal
    go_enter Try.func26, Try.ntmps26
    go_wp2_with fail
    refine (specThingOk_val a n cap f x false HX.out _ HG.out (HI.out.below HAL.out (Nat.le_refl _))).mono ?_
    rintro e w1 ⟨rfl, hd1⟩
    go_wp2_with fail
    go_ret
    exact ⟨_, rfl, by rw [← HF.out]; exact HST.out.kept hd1.below, HAL.out.trans (hd1.below.mono HAL.out.size)⟩

set_option maxRecDepth 100000 in
set_option maxHeartbeats 1600000 in
theorem specFilledOf_any (a : Option Addr) (n cap : Nat) (f : Nat → Int) (x : Int) (hx : I64 x) (w : World) (hi : Ints w a n f) :
    Calls Try.prog 31 #[.slice a n cap, .int .i64 x] w fun e w' => e = .returned (.int .i64 (fiV n f x)) ∧ Below w.heap.size w w' := by
  cases hg : thingB n f x with
  | true =>
    have HF := Lib.hid (show fiV n f x = fiL x (hoV n f x) by unfold fiV; rw [if_pos hg])
    have HI := Lib.hid hi; have HX := Lib.hid hx; have HG := Lib.hid hg; clear hi hx hg
    go_enter Try.func31, Try.ntmps31
    go_wp2_with fail
    refine (specThingOk_val a n cap f x true HX.out w HG.out HI.out).mono ?_
    rintro e w1 ⟨rfl, hd1⟩
    have hb1 := hd1.below
    clear hd1
    go_wp2_with fail
    refine (specHolesOf_any a n cap f x _ rfl HX.out w1 (HI.out.below hb1 (Nat.le_refl _))).mono ?_
    rintro e w2 ⟨v, rfl, ho, hb2⟩
    obtain ⟨xs, hxs⟩ : ∃ xs, hoV n f x = xs := ⟨_, rfl⟩
    have hl := hoV_7 (n := n) (f := f) (a := x)
    have h64 := hoV_64 (n := n) (f := f) (a := x) HI.out.i64
    rw [hxs] at ho hl h64 HF
    obtain ⟨a2, c2, rfl, hh⟩ := ho.has (by omega) h64
    have HH := Lib.hid hh.ints
    have HB := Lib.hid (below_onto hb1 hb2)
    clear ho hh h64 hxs hb1 hb2
    obtain ⟨m, hm⟩ : ∃ m, xs.length = m := ⟨_, rfl⟩
    rw [hm] at HH hl ⊢
    have HM := Lib.hid hm; clear hm
    go_wp2_with fail
    go_loopw [5, 7] (fun s i wr => ∃ k : Nat, k ≤ m ∧ i = .int .i64 k ∧ s = .int .i64 (fiL x (xs.take k)) ∧ w2 = wr) (fun _ i _ => m - (intOf i).toNat)
    case atStart => exact ⟨0, Nat.zero_le _, rfl, rfl, rfl⟩
    case round =>
      obtain ⟨k, hk, rfl, rfl, rfl⟩ := hrel
      by_cases hlt : k < m
      · have hki : (k : Int) < (m : Int) := by omega
        have hk0 : (0 : Int) ≤ (k : Int) := by omega
        obtain ⟨b, o, rfl, hbl, hrow⟩ := HH.out.row (by omega)
        have hc := hrow k hlt
        have HS := Lib.hid (show fiL x (xs.take (k + 1)) = bits .or .i64 (fiL x (xs.take k)) (xs.getD k 0) by rw [take_next (by rw [HM.out]; exact hlt), fiL_snoc])
        obtain ⟨z, hz⟩ : ∃ z, xs.getD k 0 = z := ⟨_, rfl⟩
        obtain ⟨y, hy⟩ : ∃ y, fiL x (xs.take k) = y := ⟨_, rfl⟩
        simp only [hz, hy] at hc HS ⊢
        clear hrow hbl hz hy
        go_wp2_with fail
        go_roundw
        case rel => exact ⟨k + 1, by omega, by go_num, by rw [HS.out], by first | rfl | trivial⟩
        case measure => simp [intOf]; omega
      · have hki : ¬ (k : Int) < (m : Int) := by omega
        have hkn : k = m := by omega
        subst hkn
        have HT := Lib.hid (show fiV n f x = fiL x (xs.take k) by rw [HF.out, List.take_of_length_le (by rw [HM.out]; exact Nat.le_refl _)])
        go_wp2_with fail
        go_ret
        exact ⟨reti HT.out.symm, HB.out⟩
  | false =>
    have HF := Lib.hid (show fiV n f x = -1 by unfold fiV; rw [if_neg (by rw [hg]; decide)])
    have HI := Lib.hid hi; have HX := Lib.hid hx; have HG := Lib.hid hg; clear hi hx hg
    go_enter Try.func31, Try.ntmps31
    go_wp2_with fail
    refine (specThingOk_val a n cap f x false HX.out w HG.out HI.out).mono ?_
    rintro e w1 ⟨rfl, hd1⟩
    go_wp2_with fail
    go_ret
    exact ⟨reti HF.out.symm, hd1.below⟩
end Go.Proofs.Ytacoeaoaabjkoaa
