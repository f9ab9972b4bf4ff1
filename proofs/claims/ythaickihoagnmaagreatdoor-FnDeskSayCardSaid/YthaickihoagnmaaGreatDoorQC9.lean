import Derived.Test.YthaickihoagnmaaGreatDoorQC8
import Derived.RangeFuncBox
import Derived.Deep.DeepFit
import Derived.Shelf.Spec.TrailingZeros
set_option linter.unusedVariables false
set_option linter.unusedSimpArgs false
set_option maxHeartbeats 12800000
namespace Go.Proofs.YthaickihoagnmaaGreatDoor
open Go.RowKit Go.Maps
theorem OwnI.lst {w' : World} {B rb m : Nat} {v : Value} (h : OwnI w' B v m) (hm : m ≤ 8) (hrb : rb < B) : ∃ a cap, v = .slice a m cap ∧ LstR w' rb a m := by
  obtain ⟨a, cap, rfl⟩ := h.slice
  refine ⟨a, cap, rfl, by omega, ?_⟩
  by_cases h0 : m = 0
  · exact .inl h0
  · obtain ⟨g, cp, f, hv, hBg, hgl, _, _, hrow, h64, _⟩ := h.shape (by omega)
    injection hv with hv1 hv2 hv3
    subst hv1
    exact .inr ⟨g, f, rfl, hgl, by omega, hrow, h64⟩
theorem blk2_dr3 {w : World} {B : Nat} {t : TypeId} {x y : Value} (h : Blk2 w B t x y) : Blk2 w.drew B t x y := h
theorem alloc_lt3 (w : World) (o : Obj) : w.heap.size < (w.alloc o).heap.size := by rw [alloc_size]; exact Nat.lt_succ_self _
theorem blk2_new_al3 {w w' : World} {t : TypeId} {x y : Value} (h : Below (w.alloc (.cells #[x, y] t)).heap.size (w.alloc (.cells #[x, y] t)) w') : Blk2 w' w.heap.size t x y := (Blk2.new w t x y).kept h (alloc_lt3 w _)
theorem blk2_new_dr3 {w w' : World} {t : TypeId} {x y : Value} (h : Below (w.alloc (.cells #[x, y] t)).drew.heap.size (w.alloc (.cells #[x, y] t)).drew w') : Blk2 w' w.heap.size t x y := (blk2_dr3 (Blk2.new w t x y)).kept h (alloc_lt3 w _)
theorem oneDesk_givesP {w w' : World} {v : Value} {xs : List Int} (h : OwnX w' w.heap.size 3 v xs) (hb : Below w.heap.size w w') : GivesP xs [] w w' v (.slice none 0 0) :=
  ⟨[], ⟨h, Fams.none _ _ _, fun g _ hf => by
    rcases hf with hf | ⟨r, hr, _⟩
    · simp [Value.ownBlock] at hf
    · cases hr⟩, rfl, hb, fun _ => FamsO.nil _ _⟩
def NewP (xs : List Int) (w : World) (e : Ending) (w' : World) : Prop :=
  ∃ v1 v2, e = .returned (.tuple #[.agg #[v1, v2], .bool (famL xs)]) ∧ GivesP (if famL xs then xs else []) [] w w' v1 v2
set_option maxRecDepth 100000 in
theorem specDeskNewP_any (a : Option Addr) (xs : List Int) (c : Nat) (w : World) (hi : Ints w a xs.length (fun j => xs.getD j 0)) :
    Calls Tryz.prog 108 #[.slice a xs.length c] w (NewP xs w) := by
  obtain ⟨i0, hii, hz0, hz1, hz2⟩ := info_parts Tryz.infoInt
  have hal := alloc_below w (.cells #[.slice none 0 0, .slice none 0 0] 31)
  have hblk := Blk2.new w 31 (.slice none 0 0) (.slice none 0 0)
  have HI := Lib.hid (hi.below hal (Nat.le_refl _))
  have HAL := Lib.hid hal; have HBL := Lib.hid hblk; have HLT := Lib.hid hblk.lt
  clear hi hal hblk
  cases hf : famL xs with
  | false =>
    have HF := Lib.hid hf; clear hf
    go_enter Tryz.func108, Tryz.ntmps108
    go_wp2_with fail
    refine (specFamilyOk_val a xs.length c (fun j => xs.getD j 0) false _ HF.out HI.out).mono ?_
    rintro e w1 ⟨rfl, hd⟩
    have hb := hd.below
    have HB := Lib.hid (below_onto HAL.out hb)
    have HB1 := Lib.hid (HBL.out.kept hb HLT.out)
    clear hb hd
    have hc0 := HB1.out.cell.1; have hc1 := HB1.out.cell.2; have hg0 := HB1.out.frozen 0; have hg1 := HB1.out.frozen 1
    go_wp2_with fail
    refine bodyPost_ret (results_desk rfl _ _ w.heap.size ((HB1.out.set0 (.slice none 0 0)).set1 (.slice none 0 0)) rfl rfl (by kernel_rfl)) rfl ?_
    unfold NewP
    rw [HF.out]
    exact ⟨_, _, rfl, noDesk_givesP ((HB.out.setCell (Nat.le_refl _) _).setCell (Nat.le_refl _) _)⟩
  | true =>
    have HF := Lib.hid hf
    have hlen := famL_len hf
    clear hf
    obtain ⟨b, o, rfl, hbl, hrow⟩ := HI.out.row hlen.1
    have HRW := Lib.hid hrow; have HLB := Lib.hid hbl
    clear hrow hbl
    go_enter Tryz.func108, Tryz.ntmps108
    go_wp2_with fail
    refine (specFamilyOk_val _ xs.length c (fun j => xs.getD j 0) true _ HF.out HI.out).mono ?_
    rintro e w1 ⟨rfl, hd⟩
    have hb := hd.below
    have HB := Lib.hid (below_onto HAL.out hb)
    have HB1 := Lib.hid (HBL.out.kept hb HLT.out)
    have hr1 := HRW.out.below hb HLB.out
    have hl1 : b < w1.heap.size := Nat.lt_of_lt_of_le HLB.out hb.size
    have hmade : OwnX (w1.alloc (.cells #[] 3)) w1.heap.size 3 (.slice (some ⟨w1.heap.size, 0, none⟩) 0 0) [] := OwnX.made w1 _ (Nat.le_refl _) _
    have HO : Hid ((w1.alloc (.cells #[] 3)).ownsRow w1.heap.size 3 1 (.slice (some ⟨w1.heap.size, 0, none⟩) 0 0) 0 []) := Lib.hid hmade
    have k1 := Lib.hid (rowV_cells (hr1.below (alloc_below w1 (.cells #[] 3)) hl1))
    have k2 := Lib.hid (rowV_one (fun j => xs.getD j 0) xs.length)
    have k3 : Hid (0 + xs.length ≤ maxLen) := Lib.hid (by unfold maxLen; omega)
    have k4 : Hid ((0 + xs.length) * 8 ≤ 140737488355328) := Lib.hid (by omega)
    have k5 : Hid (w1.heap.size ≤ (w1.alloc (.cells #[] 3)).heap.size) := Lib.hid (by rw [alloc_size]; omega)
    have k6 : Hid ((rowV (fun j => xs.getD j 0) xs.length).length = xs.length * 1) := Lib.hid (by rw [rowV_len]; omega)
    have HAB := Lib.hid (alloc_below w1 (.cells #[] 3))
    clear hb hd hr1 hl1 hmade
    go_wp2_with (at_builtin; refine wpList_append_own _ rfl (.tmp 8) (.tmp 9) 28 rfl w1.heap.size 3 i0 (.int .i64 0) 1 8 Tryz.underlying28 hii hz0 hz1 hz2 rfl (by decide) _ _ _ rfl HO.out ⟨b, o, none⟩ xs.length c (rowV (fun j => xs.getD j 0) xs.length) rfl k6.out k1.out k2.out k3.out k4.out k5.out ?_)
    intro v8 w8 hown8 hgrow8 _
    have hb : Below w1.heap.size w1 w8 := HAB.out.trans ((Below.refl w1.heap.size _).grown hgrow8 k5.out (fun q hq => (HO.out.lt q hq).1))
    have hown := OwnX.rowV hown8
    rw [famL_get2] at hown
    obtain ⟨va, vc, rfl⟩ := hown.slice
    have HB2 := Lib.hid (HB1.out.kept hb HB1.out.lt)
    have HBB := Lib.hid (HB.out.trans (hb.mono HB.out.size))
    have HOW := Lib.hid ((hown.other (w' := (w8.setCell ⟨w.heap.size, 0, none⟩ (.slice va xs.length vc)).setCell ⟨w.heap.size, 1, none⟩ (.slice none 0 0)) (fun g _ hBg _ => by
      have hne : g ≠ w.heap.size := by have := HB1.out.lt; omega
      exact (Below.heap_setCell _ ⟨w.heap.size, 1, none⟩ _ g hne).trans (Below.heap_setCell _ ⟨w.heap.size, 0, none⟩ _ g hne))).base HB.out.size)
    clear hown hb hown8 hgrow8 k1 k2 k3 k4 k5 k6 HO HAB
    have hc0 := HB2.out.cell.1; have hc1 := HB2.out.cell.2; have hg0 := HB2.out.frozen 0; have hg1 := HB2.out.frozen 1
    go_wp2_with fail
    refine bodyPost_ret (results_desk rfl _ _ w.heap.size ((HB2.out.set0 (.slice va xs.length vc)).set1 (.slice none 0 0)) rfl rfl (by kernel_rfl)) rfl ?_
    unfold NewP
    rw [HF.out]
    exact ⟨_, _, rfl, oneDesk_givesP HOW.out ((HBB.out.setCell (Nat.le_refl _) _).setCell (Nat.le_refl _) _)⟩
theorem dkL_len (xs : List Int) (L : List (List Int)) (k x : Int) : (dkL xs L k x).length ≤ L.length + 1 := by
  unfold dkL
  split
  · split
    · rw [List.length_dropLast]; omega
    · rw [List.length_drop, List.length_append, List.length_singleton]; omega
  · split
    · omega
    · simp
theorem FamsO.only {w w' : World} {B rb : Nat} {v : Value} {rs : List Fr} (h : FamsO w B v rs) (ho : Only rb w w') (hrb : rb < B) : FamsO w' B v rs :=
  h.same (fun g hg => ho.block g (h.fams.ltB g hg).2 (by have := (h.fams.ltB g hg).1; omega))
theorem DeskG.only {w w' : World} {B rb : Nat} {v1 v2 : Value} {xs : List Int} {rs : List Fr} (h : DeskG w B v1 v2 xs rs) (ho : Only rb w w') (hrb : rb < B) : DeskG w' B v1 v2 xs rs :=
  h.upon (Upon.of_only ho) (fun q hq e => by have := (h.ltB q hq).1; have e : q = rb := e; omega)
def okD9 (ys : List Int) (M : List (List Int)) : Prop := (ys.length ≤ 8 ∧ I64s ys) ∧ M.length ≤ 9 ∧ ∀ l ∈ M, l.length ≤ 8 ∧ I64s l
theorem okD.nine {ys : List Int} {M : List (List Int)} (h : okD ys M) : okD9 ys M := ⟨⟨by have := h.1.1; omega, h.1.2⟩, by have := h.2.1; omega, fun l hl => ⟨by have := (h.2.2 l hl).1; omega, (h.2.2 l hl).2⟩⟩
theorem okD9.read {W : World} {B : Nat} {v1 v2 : Value} {ys : List Int} {M : List (List Int)} {rs : List Fr} (hk : okD9 ys M) (h : DeskG W B v1 v2 ys rs) (hM : rs.map Fr.xs = M) : DeskR W (.agg #[v1, v2]) ys M := by
  obtain ⟨⟨h1, h2⟩, h3, h4⟩ := hk
  rw [← hM]
  exact h.read ⟨by omega, h2⟩ (fun r hr => by have := h4 r.xs (by rw [← hM]; exact List.mem_map.2 ⟨r, hr, rfl⟩); exact ⟨by omega, this.2⟩)
def DeskDrawn (rb P : Nat) (w : World) (e : Ending) (w' : World) : Prop :=
  ∃ v1 v2 xs rs, e = .returned (.agg #[v1, v2]) ∧ DeskG w' w.heap.size v1 v2 xs rs ∧ okD9 xs (rs.map Fr.xs) ∧ Only rb w w' ∧ Rdr w' rb (P + 1100)
def CutD (rb P j : Nat) (w : World) (s1 s2 : Value) (wx : World) : Prop :=
  ∃ b T v1 v2 xs rs ok, s1 = .pointer (some ⟨b, 0, none⟩) ∧ s2 = .bool ok ∧ DeskV wx w.heap.size T b v1 v2 xs rs ∧ FamsO wx w.heap.size v2 rs ∧ okD xs (rs.map Fr.xs) ∧ rs.length ≤ j ∧ T ≤ wx.heap.size ∧ Only rb w wx ∧ Rdr wx rb P
structure DrS (rb P : Nat) (w : World) (B A j : Nat) (v1 v2 : Value) (xs : List Int) (rs : List Fr) (wr : World) : Prop where
  blk : Blk2 wr A 31 v1 v2
  r : Blk2 wr w.heap.size 31 (.slice none 0 0) (.slice none 0 0)
  g : DeskG wr B v1 v2 xs rs
  own : FamsO wr B v2 rs
  ok : okD xs (rs.map Fr.xs)
  len : rs.length ≤ j
  ne : ¬ DkBl v1 v2 rs A
  lo : w.heap.size < B ∧ B ≤ A
  on : Only rb w wr
  rd : Rdr wr rb (P + 1001 + 10 * j)
theorem DrS.slices {rb P B A j : Nat} {w wr : World} {v1 v2 : Value} {xs : List Int} {rs : List Fr} (h : DrS rb P w B A j v1 v2 xs rs wr) : (∃ a c, v1 = .slice a xs.length c) ∧ ∃ a c, v2 = .slice a rs.length c := by
  refine ⟨h.g.now.slice, ?_⟩
  have := h.g.past.seq.slice
  rw [List.length_map] at this
  exact this
theorem DrS.lst {rb P B A j : Nat} {w wr : World} {v1 v2 : Value} {xs : List Int} {rs : List Fr} (h : DrS rb P w B A j v1 v2 xs rs wr) (hrb : rb < w.heap.size) : ∃ a c, v1 = .slice a xs.length c ∧ LstR wr rb a xs.length := by
  have hlo := h.lo
  have ho : OwnI wr B v1 xs.length := ⟨xs, rfl, h.ok.1.2, h.g.now⟩
  exact ho.lst (by have := h.ok.1.1; omega) (by omega)
theorem DrS.put {rb P B A j T b : Nat} {w wr wx : World} {v1 v2 v3 v4 : Value} {xs ys : List Int} {rs rs' : List Fr} (h : DrS rb P w B A j v1 v2 xs rs wr) (hrb : rb < w.heap.size) (hv : DeskV wx wr.heap.size T b v3 v4 ys rs') (ho : FamsO wx wr.heap.size v4 rs') (hk : okD ys (rs'.map Fr.xs)) (hl : rs'.length ≤ j + 1) (hon : Only rb wr wx) (hr : Rdr wx rb (P + 1001 + 10 * (j + 1))) :
    DrS rb P w B A (j + 1) v3 v4 ys rs' ((wx.setCell ⟨A, 0, none⟩ v3).setCell ⟨A, 1, none⟩ v4) := by
  have hlo := h.lo
  have hA := h.blk.lt
  have hz := hon.size
  have hBw : B ≤ wr.heap.size := by omega
  exact ⟨((h.blk.only hon (by omega)).set0 v3).set1 v4, ((h.r.only hon (by omega)).other (by omega) 0 v3).other (by omega) 1 v4, ((hv.g.put (p := ⟨A, 0, none⟩) hA).put (p := ⟨A, 1, none⟩) hA).base hBw, ((ho.put (p := ⟨A, 0, none⟩) hA).put (p := ⟨A, 1, none⟩) hA).base hBw, hk, hl,
    fun e => by have := (hv.g.ltB _ e).1; omega, h.lo, ((h.on.trans hon).fresh (g := A) (by omega) 0 v3).fresh (g := A) (by omega) 1 v4,
    hr.belowB (((Below.refl A wx).setCell (p := ⟨A, 0, none⟩) (Nat.le_refl _) v3).setCell (p := ⟨A, 1, none⟩) (Nat.le_refl _) v4) (by omega)⟩
theorem DrS.keep {rb P B A j : Nat} {w wr wx : World} {v1 v2 : Value} {xs : List Int} {rs : List Fr} (h : DrS rb P w B A j v1 v2 xs rs wr) (hrb : rb < w.heap.size) (hon : Only rb wr wx) (hr : Rdr wx rb (P + 1001 + 10 * (j + 1))) :
    DrS rb P w B A (j + 1) v1 v2 xs rs wx := by
  have hlo := h.lo
  exact ⟨h.blk.only hon (by omega), h.r.only hon (by omega), h.g.only hon (by omega), h.own.only hon (by omega), h.ok, by have := h.len; omega, h.ne, h.lo, h.on.trans hon, hr⟩
theorem only_dr {rb : Nat} {w w' : World} (h : Only rb w w') : Only rb w w'.drew := ⟨h.os, h.tape, h.output, h.size, h.block⟩
theorem rdr_dr {w : World} {rb P : Nat} (h : Rdr w rb P) : Rdr w.drew rb P := h
theorem lst_dr {w : World} {rb m : Nat} {a : Option Addr} (h : LstR w rb a m) : LstR w.drew rb a m := h
theorem lst_al {w : World} {rb m : Nat} {a : Option Addr} (h : LstR w rb a m) (o : Obj) : LstR (w.alloc o) rb a m := h.only ((Only.refl rb w).alloc o)
theorem blk2_new_only {w w' : World} {rb : Nat} {t : TypeId} {x y : Value} (h : Only rb (w.alloc (.cells #[x, y] t)).drew w') (hrb : rb < w.heap.size) : Blk2 w' w.heap.size t x y := (blk2_dr3 (Blk2.new w t x y)).only h (by omega)
theorem only_belowB {rb B : Nat} {w w1 w2 : World} (h : Only rb w w1) (k : Below B w1 w2) (hB : w.heap.size ≤ B) : Only rb w w2 :=
  ⟨k.os.trans h.os, k.tape.trans h.tape, k.output.trans h.output, Nat.le_trans h.size k.size, fun i hi hn => (k.block i (by omega)).trans (h.block i hi hn)⟩
theorem DrS.read {rb P P' B A j : Nat} {w wr wx : World} {v1 v2 : Value} {xs : List Int} {rs : List Fr} (h : DrS rb P w B A j v1 v2 xs rs wr) (hrb : rb < w.heap.size) (hon : Only rb wr wx) (hr : Rdr wx rb (P' + 1001 + 10 * j)) :
    DrS rb P' w B A j v1 v2 xs rs wx := by
  have hlo := h.lo
  exact ⟨h.blk.only hon (by omega), h.r.only hon (by omega), h.g.only hon (by omega), h.own.only hon (by omega), h.ok, h.len, h.ne, h.lo, h.on.trans hon, hr⟩
theorem GivesP.all {ys : List Int} {M : List (List Int)} {w w9 : World} {v1 v2 : Value} {j : Nat} (h : GivesP ys M w w9 v1 v2) (hk : okD ys M) (hl : M.length ≤ j) (hj : j < 8) :
    ∃ rs, DeskG w9 w.heap.size v1 v2 ys rs ∧ FamsO w9 w.heap.size v2 rs ∧ okD ys (rs.map Fr.xs) ∧ rs.length ≤ j := by
  obtain ⟨rs, hg, hrs, hb, ho⟩ := h
  subst hrs
  exact ⟨rs, hg, ho (by omega), hk, by rw [List.length_map] at hl; exact hl⟩
theorem cutD_last {rb Q j : Nat} {w w8 w9 : World} {v1 v2 : Value} {ys : List Int} {M : List (List Int)} {ok : Bool} (h : GivesP ys M w8 w9 v1 v2) (hk : okD ys M) (hl : M.length ≤ j) (hj : j < 8) (hon : Only rb w w9) (hr : Rdr w9 rb Q) (hs : w.heap.size ≤ w8.heap.size) :
    CutD rb Q j w (.pointer (some ⟨w9.heap.size, 0, none⟩)) (.bool ok) (w9.alloc (.cells #[v1, v2] 31)) := by
  obtain ⟨rs, hg, ho, hk', hl'⟩ := h.all hk hl hj
  have hal := alloc_below w9 (.cells #[v1, v2] 31)
  have hsz := alloc_size w9 (.cells #[v1, v2] 31)
  exact ⟨_, w9.heap.size + 1, _, _, ys, rs, ok, rfl, rfl, ⟨Blk2.new _ _ _ _, (hg.kept hal).base hs, fun e => by have := (hg.ltB _ e).2; omega, hon.size, Nat.lt_succ_self _, fun q hq => by have := (hg.ltB q hq).2; omega⟩, (ho.kept hal).base hs, hk', hl', by omega, hon.alloc _, hr.al _⟩
theorem cutD_set {rb Q j b : Nat} {w w8 w9 : World} {v1 v2 : Value} {ys : List Int} {M : List (List Int)} {ok : Bool} (h : GivesP ys M w8 w9 v1 v2) (hk : okD ys M) (hl : M.length ≤ j) (hj : j < 8) (hon : Only rb w w9) (hr : Rdr w9 rb Q) (hrb : rb < w.heap.size) (hz : Blk2 w9 b 31 (.slice none 0 0) (.slice none 0 0)) (hbl : b < w8.heap.size) (hwb : w.heap.size ≤ b) :
    CutD rb Q j w (.pointer (some ⟨b, 0, none⟩)) (.bool ok) ((w9.setCell ⟨b, 0, none⟩ v1).setCell ⟨b, 1, none⟩ v2) := by
  obtain ⟨rs, hg, ho, hk', hl'⟩ := h.all hk hl hj
  have hsz : ((w9.setCell ⟨b, 0, none⟩ v1).setCell ⟨b, 1, none⟩ v2).heap.size = w9.heap.size := by simp [World.setCell]
  exact ⟨b, w9.heap.size, _, _, ys, rs, ok, rfl, rfl, ⟨(hz.set0 v1).set1 v2, ((hg.put (p := ⟨b, 0, none⟩) hbl).put (p := ⟨b, 1, none⟩) hbl).base (by omega), fun e => by have := (hg.ltB _ e).1; omega, hwb, hz.lt, fun q hq => (hg.ltB q hq).2⟩,
    ((ho.put (p := ⟨b, 0, none⟩) hbl).put (p := ⟨b, 1, none⟩) hbl).base (by omega), hk', hl', by omega, (hon.fresh hwb 0 v1).fresh hwb 1 v2, hr.belowB (((Below.refl w.heap.size w9).setCell (p := ⟨b, 0, none⟩) hwb v1).setCell (p := ⟨b, 1, none⟩) hwb v2) hrb⟩
theorem drawn_end {rb P B : Nat} {w wz : World} {v1 v2 : Value} {xs : List Int} {rs : List Fr} (hg : DeskG wz B v1 v2 xs rs) (hlo : w.heap.size < B) (hk : okD9 xs (rs.map Fr.xs)) (hon : Only rb w wz) (hr : Rdr wz rb (P + 1100)) (hrb : rb < w.heap.size) :
    DeskDrawn rb P w (.returned (.agg #[v1, v2])) ((wz.setCell ⟨w.heap.size, 0, none⟩ v1).setCell ⟨w.heap.size, 1, none⟩ v2) :=
  ⟨v1, v2, xs, rs, rfl, ((hg.put (p := ⟨w.heap.size, 0, none⟩) hlo).put (p := ⟨w.heap.size, 1, none⟩) hlo).base (Nat.le_of_lt hlo), hk, (hon.fresh (Nat.le_refl _) 0 v1).fresh (Nat.le_refl _) 1 v2,
    hr.belowB (((Below.refl w.heap.size wz).setCell (p := ⟨w.heap.size, 0, none⟩) (Nat.le_refl _) v1).setCell (p := ⟨w.heap.size, 1, none⟩) (Nat.le_refl _) v2) hrb⟩
theorem zero_row (w : World) (B : Nat) (hB : B ≤ w.heap.size) : OwnX (w.alloc (.cells #[.int .i64 0] 3)) B 3 (.slice (some ⟨w.heap.size, 0, none⟩) 1 1) [0] :=
  ⟨rfl, .inr ⟨w.heap.size, 1, _, rfl, hB, heap_alloc_new w _, Nat.le_refl _, by unfold maxLen; omega, rfl, rfl⟩⟩
theorem DeskG.at {w : World} {B : Nat} {v1 v2 u : Value} {xs : List Int} {rs : List Fr} {p : Addr} (h : DeskG w B v1 v2 xs rs) (hp : ¬ DkBl v1 v2 rs p.block) : DeskG (w.setCell p u) B v1 v2 xs rs :=
  ⟨h.now.other (fun g hg _ _ => set_blk (fun e => hp (.inl (by rw [← e]; exact hg)))), h.past.same (by rw [show (w.setCell p u).heap.size = w.heap.size by simp [World.setCell]]; exact Nat.le_refl _) (fun g hg => set_blk (fun e => hp (.inr (by rw [← e]; exact hg)))), h.sep⟩
theorem DrS.zero {rb P B A j : Nat} {w wr : World} {v1 v2 : Value} {xs : List Int} {rs : List Fr} (h : DrS rb P w B A j v1 v2 xs rs wr) :
    DeskG (wr.alloc (.cells #[.int .i64 0] 3)) B (.slice (some ⟨wr.heap.size, 0, none⟩) 1 1) v2 [0] rs := by
  have h1 := h.blk.lt; have h2 := h.lo
  refine ⟨zero_row wr B (by omega), (h.g.kept (alloc_below wr _)).past, fun g hg hf => ?_⟩
  injection hg with hg
  have hg : wr.heap.size = g := hg
  have := (h.g.past.ltB g hf).2
  omega
theorem DeskG.snoc {w w' : World} {B g c : Nat} {v1 v2 : Value} {xs : List Int} {rs : List Fr} {y : Fr} (h : DeskG w B v1 v2 xs rs) (hf : FamsO w' B (.slice (some ⟨g, 0, none⟩) (rs.length + 1) c) (rs ++ [y])) (hu : Upon (fun q => v2.ownBlock = some q) w w') (hg : v2.ownBlock = some g ∨ g = w.heap.size + 1) (hy : v1.ownBlock ≠ some y.g) :
    DeskG w' B v1 (.slice (some ⟨g, 0, none⟩) (rs.length + 1) c) xs (rs ++ [y]) := by
  refine ⟨hu.ownX h.now (fun q hq e => h.sep q hq (.inl e)), hf.fams, fun q hq hb => ?_⟩
  rcases hb with hb | ⟨r, hr, e⟩
  · injection hb with hb
    have hb : g = q := hb
    rcases hg with hg | hg
    · exact h.sep q hq (.inl (by rw [← hb]; exact hg))
    · have := (h.now.lt hq).2; omega
  · rcases List.mem_append.1 hr with hr | hr
    · exact h.sep q hq (.inr ⟨r, hr, e⟩)
    · rw [List.mem_singleton] at hr
      subst hr
      exact hy (by rw [e]; exact hq)
theorem okD.zero {ys : List Int} {M : List (List Int)} (h : okD ys M) : okD9 [0] M := ⟨⟨by simp, fun y hy => by rw [List.mem_singleton] at hy; subst hy; unfold I64; omega⟩, h.nine.2⟩
theorem okD.snoc {ys : List Int} {M : List (List Int)} (h : okD ys M) : okD9 ys (M ++ [[]]) := by
  refine ⟨h.nine.1, by rw [List.length_append, List.length_singleton]; have := h.2.1; omega, fun l hl => ?_⟩
  rcases List.mem_append.1 hl with hl | hl
  · exact h.nine.2.2 l hl
  · rw [List.mem_singleton] at hl
    subst hl
    exact ⟨by simp, fun y hy => by cases hy⟩
theorem okD9_nil : okD9 [] [] := okD_nil.nine
theorem DeskG.nil (w : World) (B : Nat) : DeskG w B (.slice none 0 0) (.slice none 0 0) [] [] := ⟨OwnX.nil _ _ _, Fams.none _ _ _, fun g hg => by simp [Value.ownBlock] at hg⟩
theorem DrS.room {rb P B A j : Nat} {w wr : World} {v1 v2 : Value} {xs : List Int} {rs : List Fr} (h : DrS rb P w B A j v1 v2 xs rs wr) :
    (OwnX (wr.alloc (.cells #[] 3)) B 3 (Fr.v ⟨wr.heap.size, 0, []⟩) [] ∧ FamsO (wr.alloc (.cells #[] 3)) B v2 rs) ∧ (∀ r ∈ rs, r.g ≠ wr.heap.size) ∧ v2.ownBlock ≠ some wr.heap.size ∧ v1.ownBlock ≠ some wr.heap.size := by
  have h1 := h.blk.lt; have h2 := h.lo
  have hl := fun q hq => (h.g.ltB q hq).2
  exact ⟨⟨OwnX.made wr B (by omega) _, h.own.kept (alloc_below wr _)⟩, fun r hr e => by have := hl r.g (.inr (.inr ⟨r, hr, rfl⟩)); omega, fun e => by have := hl _ (.inr (.inl e)); omega, fun e => by have := hl _ (.inl e); omega⟩
set_option maxRecDepth 100000 in
theorem desk_any (rb P : Nat) (n : Int) (hn : 1 ≤ n) (hn2 : n ≤ 100) (hP : P ≤ 20000) (w : World) (h : Rdr w rb P) :
    Calls Tryz.prog 48 #[.pointer (some ⟨rb, 0, none⟩), .int .i64 n] w (DeskDrawn rb P w) := by
  have hrb : rb < w.heap.size := h.1
  have hz1 := alloc_size w (.cells #[.slice none 0 0, .slice none 0 0] 31)
  have hr1 := h.al (.cells #[.slice none 0 0, .slice none 0 0] 31)
  have ho1 := (Only.refl rb w).alloc (.cells #[.slice none 0 0, .slice none 0 0] 31)
  have hb1 := Blk2.new w 31 (.slice none 0 0) (.slice none 0 0)
  obtain ⟨w1, hw1⟩ : ∃ w1, w.alloc (.cells #[.slice none 0 0, .slice none 0 0] 31) = w1 := ⟨_, rfl⟩
  rw [hw1] at hz1 hr1 ho1 hb1
  have HR := Lib.hid hr1; have HO := Lib.hid ho1; have HBR := Lib.hid hb1; have HZ1 := Lib.hid hz1
  clear h hr1 ho1 hb1 hz1
  go_enter Tryz.func48, Tryz.ntmps48
  go_wp2_with fail
  clear hw1
  refine (sets_any rb P 0 (by omega) (by omega) (by omega) _ HR.out).mono ?_
  rintro e w2 ⟨v, m, rfl, hm, hown, ho2, hr2⟩
  obtain ⟨xs0, rfl, hx64, hown0⟩ := hown
  have hox : OwnX w2 w1.heap.size 3 v xs0 := hown0
  obtain ⟨a0, c0, rfl⟩ := hox.slice
  have HI := Lib.hid (ints_own hox (by omega) hx64)
  have HO2 := Lib.hid (HO.out.trans ho2); have HR2 := Lib.hid hr2
  have HBR2 := Lib.hid (HBR.out.only ho2 (by omega))
  have HZ2 := Lib.hid (show w.heap.size + 1 ≤ w2.heap.size by have := ho2.size; have := HZ1.out; omega)
  clear hown0 hox ho2 hr2 hx64 hm HO HR HBR HZ1
  go_wp2_with fail
  refine (specDeskNewP_any _ xs0 _ _ HI.out).mono ?_
  rintro e w3 ⟨v1, v2, rfl, hg⟩
  obtain ⟨p1, e1, rfl⟩ := hg.gives.one
  obtain ⟨p2, e2, rfl⟩ := hg.gives.two
  have hb3 := hg.gives.below
  obtain ⟨rs0, hdg, hrs0, _, hown⟩ := hg
  have hr0 : rs0 = [] := List.map_eq_nil_iff.1 hrs0
  subst hr0
  have hfo := hown (by simp)
  obtain ⟨ys, hys⟩ : ∃ ys, (if famL xs0 then xs0 else []) = ys := ⟨_, rfl⟩
  have hok : okD ys ([] : List (List Int)) := by rw [← hys]; exact okD_new xs0
  rw [hys] at hdg ⊢
  have hal := alloc_below w3 (.cells #[.slice p1 ys.length e1, .slice p2 0 e2] 31)
  have hon3 : Only rb w2 w3 := Only.of_below hb3
  have hz3 := hb3.size
  have HST : Hid (DrS rb P w (w.heap.size + 1) w3.heap.size 0 (.slice p1 ys.length e1) (.slice p2 0 e2) ys [] (w3.alloc (.cells #[.slice p1 ys.length e1, .slice p2 0 e2] 31))) := Lib.hid
    ⟨Blk2.new _ _ _ _, (HBR2.out.kept hb3 HBR2.out.lt).kept hal (by have := HBR2.out.lt; omega), (hdg.kept hal).base HZ2.out, (hfo.kept hal).base HZ2.out, hok, Nat.le_refl _, fun e => by have := (hdg.ltB _ e).2; omega, ⟨by omega, by have := HZ2.out; omega⟩,
      (HO2.out.trans hon3).alloc _, ((HR2.out.below hb3).al _).mono (by omega)⟩
  obtain ⟨w4, hw4⟩ : ∃ w4, w3.alloc (.cells #[.slice p1 ys.length e1, .slice p2 0 e2] 31) = w4 := ⟨_, rfl⟩
  obtain ⟨A, hA⟩ : ∃ A, w3.heap.size = A := ⟨_, rfl⟩
  rw [hw4, hA] at HST
  clear hb3 hdg hrs0 hown hfo hys hok hal hon3 hz3 HI HO2 HR2 HBR2 HZ2
  go_wp2_with fail
  clear hw4 hA
  refine (pick_any rb _ 6 (by omega) _ HST.out.rd).mono ?_
  rintro e w5 ⟨y, rfl, hy, ho5, hr5⟩
  have HST5 := Lib.hid (HST.out.read (P' := P + 1) hrb ho5 (hr5.mono (by omega)))
  have hy6 : y ≤ 5 := by omega
  clear ho5 hr5 HST hy
  go_wp2_with fail
  go_loopw [7] (fun i wr => ∃ (q j : Nat) (v1 v2 : Value) (xs : List Int) (rs : List Fr), i = .int .i64 q ∧ q + j ≤ 5 ∧ Hid (DrS rb (P + 1) w (w.heap.size + 1) A j v1 v2 xs rs wr)) (fun i _ => (intOf i).toNat)
  case atStart => exact ⟨y, 0, _, _, _, _, rfl, by omega, HST5⟩
  case round =>
    clear HST5
    obtain ⟨q, j, v1, v2, xs, rs, rfl, hqj, H⟩ := hrel
    obtain ⟨_, ⟨p4, e4, rfl⟩⟩ := H.out.slices
    obtain ⟨p3, e3, rfl, hlst⟩ := H.out.lst hrb
    have hA := H.out.blk
    have ha0 := hA.cell.1; have ha1 := hA.cell.2; have ha2 := hA.frozen 0; have ha3 := hA.frozen 1
    have HAB := Lib.hid hA
    by_cases hq0 : 0 < q
    · have hqb : decide ((0 : Int) < (q : Int)) = true := by simp; omega
      have hqi : (q : Int) - 1 = ((q - 1 : Nat) : Int) := by omega
      have HQI := Lib.hid hqi
      have HL := Lib.hid hlst
      have HRB := Lib.hid (show rb < wr.heap.size from by have := H.out.on.size; omega)
      have HAR := Lib.hid (show A ≠ rb by have := H.out.lo; omega)
      have HKS := Lib.hid (show ∀ W, Only rb wr W → (W.cell? ⟨A, 0, none⟩ = some (.slice p3 xs.length e3) ∧ W.cell? ⟨A, 1, none⟩ = some (.slice p4 rs.length e4)) from fun W hW => (hA.only hW HAR.out).cell)
      have HDG := Lib.hid (fun (W : World) (hW : Only rb wr W) => (show DeskR W (.agg #[.slice p3 xs.length e3, .slice p4 rs.length e4]) xs (rs.map Fr.xs) from H.out.ok.nine.read (H.out.g.only hW (by omega)) rfl))
      have hQ : P + 1 + 1001 + 10 * j ≤ 100000 := by omega
      have HLJ := Lib.hid (show ∀ k x, (dkL xs (rs.map Fr.xs) k x).length ≤ j + 1 from fun k x => Nat.le_trans (dkL_len _ _ _ _) (by rw [List.length_map]; have := H.out.len; omega))
      clear hlst hA hqi
      go_upto_region 5 with fail
      go_cut [8, 9] (fun s1 s2 wx => CutD rb (P + 1 + 1001 + 10 * (j + 1)) (j + 1) wr s1 s2 wx)
      case first =>
        have HB6 := Lib.hid (Only.refl rb wr)
        go_region_held3 (fun W => W.cell? ⟨A, 0, none⟩ = some (.slice p3 xs.length e3) ∧ W.cell? ⟨A, 1, none⟩ = some (.slice p4 rs.length e4)) (first | exact HKS.out _ HB6.out | exact HKS.out _ (only_dr HB6.out) | exact HKS.out _ (HB6.out.alloc _) | exact HKS.out _ (only_dr (HB6.out.alloc _)) | exact HKS.out _ ((HB6.out.fresh HS7.out 0 _).fresh HS7.out 1 _) | exact HKS.out _ ((HB6.out.fresh (Nat.le_refl _) 0 _).fresh (Nat.le_refl _) 1 _) | go_keep)
          (first | (go_at_call 109; refine (deedR_any rb _ p3 xs.length e3 hQ _ (by first | with_reducible exact rdr_dr H.out.rd | with_reducible exact rdr_dr (H.out.rd.al _)) (by first | with_reducible exact lst_dr HL.out | with_reducible exact lst_dr (lst_al HL.out _))).mono ?_; rintro e w7 ⟨kk, xx, rfl, _, _, hx, ho7, hr7⟩; (try (have HZB : Hid (Blk2 w7 wr.heap.size 31 (.slice none 0 0) (.slice none 0 0)) := Lib.hid (by with_reducible exact blk2_new_only ho7 HRB.out))); have HZ := Lib.hid (show Only rb wr w7 from (by first | with_reducible exact (only_dr HB6.out).trans ho7 | with_reducible exact (only_dr (HB6.out.alloc _)).trans ho7)); clear HB6; have HB6 := HZ; clear HZ; have HS7 := Lib.hid HB6.out.size; have HR7 := Lib.hid hr7; have HX7 := Lib.hid hx; have HD7 := Lib.hid (HDG.out w7 HB6.out); clear ho7 hr7 hx) | (go_at_call 67; refine (specDeskDo_any _ xs (rs.map Fr.xs) kk xx HX7.out _ (by first | with_reducible exact HD7.out | with_reducible exact HD7.out.kept (alloc_below w7 _))).mono ?_; rintro e w9 ⟨v3, v4, rfl, hp⟩; obtain ⟨z1, z2, rfl⟩ := hp.gives.one; obtain ⟨z3, z4, rfl⟩ := hp.gives.two; have hb9 := hp.gives.below; (first | (have HZL := Lib.hid HZB.out.lt; replace HZB := Lib.hid (HZB.out.kept hb9 HZB.out.lt)) | (have HZL := Lib.hid (alloc_lt3 w7 (.cells #[.slice none 0 0, .slice none 0 0] 31)); have HZB : Hid (Blk2 w9 w7.heap.size 31 (.slice none 0 0) (.slice none 0 0)) := Lib.hid (by with_reducible exact blk2_new_al3 hb9)) | skip); (try (have hx0 := HZB.out.cell.1; have hx1 := HZB.out.cell.2; have hx2 := HZB.out.frozen 0; have hx3 := HZB.out.frozen 1)); have HR9 := Lib.hid (show Rdr w9 rb _ from (by first | with_reducible exact HR7.out.below hb9 | with_reducible exact (HR7.out.al _).below hb9)); have HZ := Lib.hid (show Only rb wr w9 from (by first | with_reducible exact HB6.out.trans (Only.of_below hb9) | with_reducible exact (HB6.out.alloc _).trans (Only.of_below hb9))); clear HB6; have HB6 := HZ; clear HZ; have HG9 := Lib.hid hp; clear hp hb9))
        all_goals
          go_wp2_with fail
          go_meet
          first
            | exact cutD_last HG9.out (okD_do _ _ _ _) (HLJ.out _ _) (by omega) HB6.out (HR9.out.mono (by omega)) HS7.out
            | exact cutD_set HG9.out (okD_do _ _ _ _) (HLJ.out _ _) (by omega) HB6.out (HR9.out.mono (by omega)) HRB.out HZB.out HZL.out (by first | exact Nat.le_refl _ | exact HS7.out)
      case rest =>
      rename_i wx
      obtain ⟨b, T, v3, v4, ys, rs', ok, rfl, rfl, hv, hfo, hk, hl, hT, hon, hrd⟩ := hcut
      obtain ⟨p5, e5, rfl⟩ := hv.g.now.slice
      obtain ⟨p6, e6, hp6⟩ := hv.g.past.seq.slice
      rw [List.length_map] at hp6
      subst hp6
      have hA := H.out.blk.only hon HAR.out
      have hB := hv.blk
      have hba : ¬ b = A := by have h1 := hv.lo; have h2 := H.out.blk.lt; omega
      have hab : ¬ A = b := fun e => hba e.symm
      have hx0 := hA.cell.1; have hx1 := hA.cell.2; have hx2 := hA.frozen 0; have hx3 := hA.frozen 1
      have hy0 := hB.cell.1; have hy1 := hB.cell.2; have hy2 := hB.frozen 0; have hy3 := hB.frozen 1
      clear ha0 ha1 ha2 ha3 HKS HDG HLJ
      cases ok with
      | true =>
        have HST := Lib.hid (H.out.put hrb hv hfo hk hl hon hrd)
        clear hA hB hv hfo hk hl hT hon hrd
        go_wp2_with fail
        go_roundw
        case rel => exact ⟨q - 1, j + 1, _, _, ys, rs', by go_num, by omega, HST⟩
        case measure => simp [intOf]; omega
      | false =>
        have HST := Lib.hid (H.out.keep hrb hon hrd)
        clear hA hB hv hfo hk hl hT hon hrd
        go_wp2_with fail
        go_roundw
        case rel => exact ⟨q - 1, j + 1, _, _, xs, rs, by go_num, by omega, HST⟩
        case measure => simp [intOf]; omega
    · have hqb : decide ((0 : Int) < (q : Int)) = false := by simp; omega
      have HJ := Lib.hid (show j ≤ 5 by omega)
      clear hlst hA HAB
      go_wp2_with fail
      clear hqb
      refine (odd_any rb _ n hn hn2 (by have := HJ.out; omega) _ H.out.rd).mono ?_
      rintro e w6 ⟨o, rfl, ho6, hr6⟩
      have HST6 := Lib.hid (H.out.read (P' := P + 2) hrb ho6 (hr6.mono (by omega)))
      clear ho6 hr6 ha0 ha1 ha2 ha3 H
      have hlo := HST6.out.lo
      have hlt := HST6.out.blk.lt
      have hne1 : ¬ A = w.heap.size := by omega
      have hne2 : ¬ w.heap.size = A := by omega
      cases o with
      | false =>
        have ha0 := HST6.out.blk.cell.1; have ha1 := HST6.out.blk.cell.2
        have hc0 := HST6.out.r.cell.1; have hc1 := HST6.out.r.cell.2; have hc2 := HST6.out.r.frozen 0; have hc3 := HST6.out.r.frozen 1
        go_wp2_with fail
        refine bodyPost_ret (results_desk1 rfl _ _ w.heap.size ((HST6.out.r.set0 _).set1 _) rfl (by kernel_rfl)) rfl ?_
        exact drawn_end HST6.out.g (by omega) HST6.out.ok.nine HST6.out.on (HST6.out.rd.mono (by have := HJ.out; omega)) hrb
      | true =>
        go_wp2_with fail
        refine (pick_any rb _ 3 (by have := HJ.out; omega) _ HST6.out.rd).mono ?_
        rintro e w7 ⟨y3, rfl, hy3, ho7, hr7⟩
        have HST7 := Lib.hid (HST6.out.read (P' := P + 3) hrb ho7 (hr7.mono (by omega)))
        have hy4 : y3 < 3 := by omega
        clear ho7 hr7 HST6 hy3
        have ha0 := HST7.out.blk.cell.1; have ha1 := HST7.out.blk.cell.2; have ha2 := HST7.out.blk.frozen 0; have ha3 := HST7.out.blk.frozen 1
        have hc0 := HST7.out.r.cell.1; have hc1 := HST7.out.r.cell.2; have hc2 := HST7.out.r.frozen 0; have hc3 := HST7.out.r.frozen 1
        have hlt := HST7.out.blk.lt
        rcases (show y3 = 0 ∨ y3 = 1 ∨ y3 = 2 by omega) with rfl | rfl | rfl
        · have HZ := Lib.hid HST7.out.zero
          have HST8 := Lib.hid (HST7.out.read (P' := P + 3) hrb ((Only.refl rb w7).alloc (.cells #[.int .i64 0] 3)) (HST7.out.rd.al _))
          have HNB := Lib.hid (show ¬ DkBl (.slice (some ⟨w7.heap.size, 0, none⟩) 1 1) (.slice p4 rs.length e4) rs A from fun e => by
            rcases e with e | e
            · injection e with e
              have e : w7.heap.size = A := e
              omega
            · exact HST7.out.ne (.inr e))
          obtain ⟨w8, hw8⟩ : ∃ w8, w7.alloc (.cells #[.int .i64 0] 3) = w8 := ⟨_, rfl⟩
          rw [hw8] at HZ HST8
          clear HST7 ha0 ha1 ha2 ha3 hc0 hc1 hc2 hc3
          have ha0 := HST8.out.blk.cell.1; have ha1 := HST8.out.blk.cell.2; have ha2 := HST8.out.blk.frozen 0; have ha3 := HST8.out.blk.frozen 1
          have hc0 := HST8.out.r.cell.1; have hc1 := HST8.out.r.cell.2; have hc2 := HST8.out.r.frozen 0; have hc3 := HST8.out.r.frozen 1
          go_wp2_with fail
          refine bodyPost_ret (results_desk1 rfl _ _ w.heap.size (((HST8.out.r.other hne2 0 _).set0 _).set1 _) rfl (by kernel_rfl)) rfl ?_
          exact drawn_end (HZ.out.at HNB.out) (by omega) HST8.out.ok.zero (HST8.out.on.fresh (g := A) (by omega) 0 _) ((HST8.out.rd.mono (by have := HJ.out; omega)).belowB ((Below.refl A w8).setCell (p := ⟨A, 0, none⟩) (Nat.le_refl _) _) (by omega)) hrb
        · have HR7 := Lib.hid HST7.out.room
          have HST8 := Lib.hid (HST7.out.read (P' := P + 3) hrb ((Only.refl rb w7).alloc (.cells #[] 3)) (HST7.out.rd.al _))
          have HS7 := Lib.hid (show A < w7.heap.size ∧ w7.heap.size + 1 = (w7.alloc (.cells #[] 3)).heap.size from ⟨hlt, (alloc_size w7 _).symm⟩)
          obtain ⟨g7, hg7⟩ : ∃ g7, w7.heap.size = g7 := ⟨_, rfl⟩
          obtain ⟨w8, hw8⟩ : ∃ w8, w7.alloc (.cells #[] 3) = w8 := ⟨_, rfl⟩
          rw [hw8] at HST8 HR7 HS7
          rw [hg7] at HR7 HS7
          have hz1 := ha1
          clear HST7 ha0 ha1 ha2 ha3 hc0 hc1 hc2 hc3 hlt
          have ha0 := HST8.out.blk.cell.1; have ha1 := HST8.out.blk.cell.2; have ha2 := HST8.out.blk.frozen 0; have ha3 := HST8.out.blk.frozen 1
          have HLR := Lib.hid (show rs.length ≤ 1000 by have := HST8.out.len; have := HJ.out; omega)
          have HSB := Lib.hid (show w.heap.size + 1 ≤ w8.heap.size by have := HST8.out.blk.lt; omega)
          go_wp2_with (at_builtin; refine append_fr rfl (.tmp 46) (.tmp 48) rfl (w.heap.size + 1) (.slice p4 rs.length e4) rs ⟨g7, 0, []⟩ w8 rfl rfl HR7.out.1.2 HLR.out HR7.out.1.1 HR7.out.2.1 HR7.out.2.2.1 HSB.out ?_)
          intro g9 c9 w9 ho9 hb9 hu9 hat9
          have hD9 := HST8.out.g.snoc ho9 hu9 hat9 HR7.out.2.2.2
          have hA9 : Blk2 w9 A 31 (.slice p3 xs.length e3) (.slice p4 rs.length e4) := (hu9.block A HST8.out.blk.lt (fun e => HST8.out.ne (.inr (.inl e)))).trans HST8.out.blk
          have hR9 : Blk2 w9 w.heap.size 31 (.slice none 0 0) (.slice none 0 0) := (hb9.block _ (by omega)).trans HST8.out.r
          have HNB := Lib.hid (show ¬ DkBl (.slice p3 xs.length e3) (.slice (some ⟨g9, 0, none⟩) (rs.length + 1) c9) (rs ++ [⟨g7, 0, []⟩]) A from fun e => by
            rcases e with e | e | ⟨r, hr, e⟩
            · exact HST8.out.ne (.inl e)
            · injection e with e
              have e : g9 = A := e
              rcases hat9 with h | h
              · exact HST8.out.ne (.inr (.inl (by rw [← e]; exact h)))
              · have := HS7.out; omega
            · rcases List.mem_append.1 hr with hr | hr
              · exact HST8.out.ne (.inr (.inr ⟨r, hr, e⟩))
              · rw [List.mem_singleton] at hr
                subst hr
                have e : g7 = A := e
                have := HS7.out; omega)
          have HD9 := Lib.hid hD9; have HA9 := Lib.hid hA9; have HR9 := Lib.hid hR9
          have HO9 := Lib.hid (only_belowB HST8.out.on hb9 (Nat.le_succ _))
          have HRD9 := Lib.hid (HST8.out.rd.belowB hb9 (by omega))
          clear ho9 hb9 hu9 hat9 hD9 hA9 hR9 ha0 ha1 ha2 ha3 hz1
          have ha0 := HA9.out.cell.1; have ha1 := HA9.out.cell.2; have ha2 := HA9.out.frozen 0; have ha3 := HA9.out.frozen 1
          have hc0 := HR9.out.cell.1; have hc1 := HR9.out.cell.2; have hc2 := HR9.out.frozen 0; have hc3 := HR9.out.frozen 1
          go_wp2_with fail
          refine bodyPost_ret (results_desk1 rfl _ _ w.heap.size (((HR9.out.other hne2 1 _).set0 _).set1 _) rfl (by kernel_rfl)) rfl ?_
          have hk9 := HST8.out.ok.snoc
          rw [← show (rs ++ [(⟨g7, 0, []⟩ : Fr)]).map Fr.xs = rs.map Fr.xs ++ [[]] from by rw [List.map_append]; rfl] at hk9
          exact drawn_end (HD9.out.at HNB.out) (by omega) hk9 (HO9.out.fresh (g := A) (by omega) 1 _) ((HRD9.out.mono (by have := HJ.out; omega)).belowB ((Below.refl A w9).setCell (p := ⟨A, 1, none⟩) (Nat.le_refl _) _) (by omega)) hrb
        · go_wp2_with fail
          refine bodyPost_ret (results_desk1 rfl _ _ w.heap.size ((HST7.out.r.set0 _).set1 _) rfl (by kernel_rfl)) rfl ?_
          exact drawn_end (DeskG.nil _ (w.heap.size + 1)) (by omega) okD9_nil HST7.out.on (HST7.out.rd.mono (by have := HJ.out; omega)) hrb
theorem sameInts_drew (a1 a2 : Option Addr) (c1 c2 n : Nat) (f : Nat → Int) (hn : n ≤ 1048576) (w : World) (h1 : Ints w a1 n f) (h2 : Ints w a2 n f) :
    Calls Tryz.prog 62 #[.slice a1 n c1, .slice a2 n c2] w fun e w' => e = .returned (.bool true) ∧ Drew w w' := by
  by_cases h : n = 0
  · subst h; exact sameInts_nil a1 a2 c1 c2 w
  · obtain ⟨b1, o1, rfl, _, hr1⟩ := h1.row (by omega)
    obtain ⟨b2, o2, rfl, _, hr2⟩ := h2.row (by omega)
    exact sameInts_row b1 o1 c1 b2 o2 c2 n f hn w hr1 hr2
set_option maxRecDepth 100000 in
theorem sameRows_any (b b' : Option Addr) (c c' : Nat) (L : List (List Int)) (hL : L.length ≤ 1048576) (hl : ∀ l ∈ L, l.length ≤ 1048576) (w : World) (h1 : Nest w b L) (h2 : Nest w b' L) :
    Calls Tryz.prog 63 #[.slice b L.length c, .slice b' L.length c'] w fun e w' => e = .returned (.bool true) ∧ Drew w w' := by
  have HL := Lib.hid hl
  obtain ⟨n, hn⟩ : ∃ n, L.length = n := ⟨_, rfl⟩
  have hne : ((n : Int) != (n : Int)) = false := by simp
  rw [hn] at hL ⊢
  have HN := Lib.hid hn
  have HH1 := Lib.hid h1; have HH2 := Lib.hid h2
  clear hl h1 h2 hn
  by_cases h0 : n = 0
  · have hki : ¬ (0 : Int) < (n : Int) := by omega
    subst h0
    go_enter Tryz.func63, Tryz.ntmps63
    go_wp2_with fail
    go_loopw [5] (fun i wr => i = .int .i64 0 ∧ Drew w wr) (fun _ _ => 0)
    case atStart => exact ⟨rfl, Drew.refl w⟩
    case round =>
      obtain ⟨rfl, hd⟩ := hrel
      go_wp2_with fail
      go_ret
      exact ⟨rfl, hd⟩
  · obtain ⟨bk, o, rfl, hbk, hA⟩ := HH1.out.2.resolve_left (by rw [HN.out]; exact h0)
    obtain ⟨bk', o', rfl, hbk', hA'⟩ := HH2.out.2.resolve_left (by rw [HN.out]; exact h0)
    have HA := Lib.hid hA; have HA' := Lib.hid hA'; have HK := Lib.hid hbk; have HK' := Lib.hid hbk'
    clear hA hA' HH1 HH2 hbk hbk'
    go_enter Tryz.func63, Tryz.ntmps63
    go_wp2_with fail
    go_loopw [5] (fun i wr => ∃ k : Nat, k ≤ n ∧ i = .int .i64 k ∧ Drew w wr) (fun i _ => n - (intOf i).toNat)
    case atStart => exact ⟨0, Nat.zero_le _, rfl, Drew.refl w⟩
    case round =>
      obtain ⟨k, hk, rfl, hd⟩ := hrel
      by_cases hlt : k < n
      · have hki : (k : Int) < (n : Int) := by omega
        have hk0 : (0 : Int) ≤ (k : Int) := by omega
        have hkl : k < L.length := by rw [HN.out]; exact hlt
        have hwi := HL.out _ (List.getElem_mem hkl)
        obtain ⟨a1, e1, hc1, _, hi1⟩ := HA.out.kept hd.below HK.out k hkl
        obtain ⟨a2, e2, hc2, _, hi2⟩ := HA'.out.kept hd.below HK'.out k hkl
        obtain ⟨l, hlk⟩ : ∃ l, L[k] = l := ⟨_, rfl⟩
        rw [hlk] at hc1 hc2 hi1 hi2 hwi
        have HI1 := Lib.hid hi1; have HI2 := Lib.hid hi2; have HW := Lib.hid hwi
        clear hi1 hi2 hlk hwi
        go_wp2_with fail
        go_quiet ((go_at_call 62; exact quiet_drew (sameInts_drew a1 a2 e1 e2 l.length (fun j => l.getD j 0) HW.out _ (HI1.out.below (below_drewN (Below.refl _ _) _) (Nat.le_refl _)) (HI2.out.below (below_drewN (Below.refl _ _) _) (Nat.le_refl _)))))
        go_wp2_with fail
        go_roundw
        case rel => exact ⟨k + 1, by omega, by go_num, hd.more _⟩
        case measure => simp [intOf]; omega
      · have hki : ¬ (k : Int) < (n : Int) := by omega
        go_wp2_with fail
        go_ret
        exact ⟨rfl, hd⟩
set_option maxRecDepth 100000 in
theorem sameDesk_any (d1 d2 : Value) (xs : List Int) (L : List (List Int)) (hx : xs.length ≤ 1048576) (hL : L.length ≤ 1048576) (hl : ∀ l ∈ L, l.length ≤ 1048576) (w : World) (h1 : DeskR w d1 xs L) (h2 : DeskR w d2 xs L) :
    Calls Tryz.prog 18 #[d1, d2] w fun e w' => e = .returned (.bool true) ∧ Below w.heap.size w w' := by
  obtain ⟨a, c, b, c2, rfl, hi, hn⟩ := h1.parts
  obtain ⟨a', c', b', c2', rfl, hi', hn'⟩ := h2.parts
  have q1 := alloc_below w (.cells #[.slice a xs.length c, .slice b L.length c2] 31)
  have q2 := alloc_below (w.alloc (.cells #[.slice a xs.length c, .slice b L.length c2] 31)) (.cells #[.slice a' xs.length c', .slice b' L.length c2'] 31)
  have b1 := (Blk2.new w 31 (.slice a xs.length c) (.slice b L.length c2)).kept q2 (by rw [alloc_size]; omega)
  have b2 := (Blk2.new (w.alloc (.cells #[.slice a xs.length c, .slice b L.length c2] 31)) 31 (.slice a' xs.length c') (.slice b' L.length c2'))
  rw [alloc_size] at b2
  have HQ := Lib.hid (below_onto q1 q2)
  have HI := Lib.hid (hi.below HQ.out (Nat.le_refl _)); have HI' := Lib.hid (hi'.below HQ.out (Nat.le_refl _))
  have HN := Lib.hid (hn.kept HQ.out); have HN' := Lib.hid (hn'.kept HQ.out)
  have HB1 := Lib.hid b1; have HB2 := Lib.hid b2
  have HLL := Lib.hid hl
  clear h1 h2 hi hi' hn hn' q1 q2 b1 b2 hl
  go_enter Tryz.func18, Tryz.ntmps18
  go_wp2_with fail
  refine (sameInts_drew a a' c c' xs.length (fun j => xs.getD j 0) hx _ HI.out HI'.out).mono ?_
  rintro e w1 ⟨rfl, hd⟩
  have hb := hd.below
  have HB1a := Lib.hid (HB1.out.kept hb HB1.out.lt); have HB2a := Lib.hid (HB2.out.kept hb HB2.out.lt)
  have HNa := Lib.hid (HN.out.kept hb); have HNb := Lib.hid (HN'.out.kept hb)
  have HQa := Lib.hid (below_onto HQ.out hb)
  clear hb hd
  have hc1 := HB1a.out.cell.2; have hd1 := HB2a.out.cell.2
  go_wp2_with fail
  refine (sameRows_any b b' c2 c2' L hL HLL.out _ HNa.out HNb.out).mono ?_
  rintro e w2 ⟨rfl, hd⟩
  have HQb := Lib.hid (below_onto HQa.out hd.below)
  clear hd hc1 hd1
  go_wp2_with fail
  go_ret
  exact ⟨rfl, HQb.out⟩
theorem deskR_nil (w : World) : DeskR w (.agg #[.slice none 0 0, .slice none 0 0]) [] [] :=
  ⟨⟨none, 0, none, 0, rfl, Nat.le_refl _, Nat.le_refl _, ⟨⟨by simp, fun i hi => by simp at hi⟩, .inl rfl⟩, ⟨by simp, .inl rfl⟩⟩⟩
set_option maxRecDepth 100000 in
theorem noDesk_any (d : Value) (w : World) (h : DeskR w d [] []) :
    Calls Tryz.prog 22 #[d] w fun e w' => e = .returned (.bool true) ∧ Below w.heap.size w w' := by
  have hdd := h
  obtain ⟨a, c, b, c2, rfl, _⟩ := h.parts
  have HAL := Lib.hid (alloc_below w (.cells #[.slice a 0 c, .slice b 0 c2] 31))
  have HD := Lib.hid (hdd.kept HAL.out)
  clear h hdd
  go_enter Tryz.func22, Tryz.ntmps22
  go_wp2_with fail
  refine (sameDesk_any _ _ [] [] (by simp) (by simp) (fun l hl => by cases hl) _ HD.out (deskR_nil _)).mono ?_
  rintro e w1 ⟨rfl, hb⟩
  have HB := Lib.hid (below_onto HAL.out hb)
  clear hb
  go_wp2_with fail
  go_ret
  exact ⟨rfl, HB.out⟩
theorem bytes_al {w : World} {a : Option Addr} {n cap : Nat} (h : BytesIn w a n cap) (o : Obj) : BytesIn (w.alloc o) a n cap := by
  obtain ⟨hnc, hc, hby⟩ := h
  have hal := alloc_below w o
  refine ⟨hnc, hc, ?_⟩
  rcases hby with h0 | ⟨b, o, g, ha, hb, hg⟩
  · exact .inl h0
  · exact .inr ⟨b, o, g, ha, Nat.lt_of_lt_of_le hb hal.size, fun i hi => ⟨(hal.cell (p := ⟨b, o + i, none⟩) hb).trans (hg i hi).1, (hg i hi).2⟩⟩
def ln8 : List ByteArray := [⟨#[97, 108, 108]⟩, ⟨#[99, 111, 109, 112, 97, 110, 121]⟩, ⟨#[119, 101, 97, 107]⟩, ⟨#[115, 116, 114, 111, 110, 103]⟩, ⟨#[115, 117, 109, 109, 101, 100]⟩, ⟨#[99, 108, 97, 115, 115, 105, 99, 97, 108]⟩, ⟨#[97, 116, 111, 109, 115]⟩, ⟨#[119, 104, 111, 108, 101]⟩]
def ln11 : List ByteArray := [⟨#[]⟩, ⟨#[112, 117, 116]⟩, ⟨#[112, 117, 116, 32, 101]⟩, ⟨#[112, 117, 116, 32, 98, 97]⟩, ⟨#[116, 97, 107, 101]⟩, ⟨#[115, 117, 109]⟩, ⟨#[115, 117, 109, 32, 97]⟩, ⟨#[115, 117, 109, 32, 97, 32, 101]⟩, ⟨#[108, 101, 102, 116, 32, 97, 32, 98, 32, 99]⟩, ⟨#[32, 97, 108, 108]⟩, ⟨#[112, 111, 105, 110, 116, 115, 32, 97]⟩]
def ln4 : List ByteArray := [⟨#[115, 117, 109, 32]⟩, ⟨#[99, 111, 109, 109, 111, 110, 32]⟩, ⟨#[108, 101, 102, 116, 32]⟩, ⟨#[109, 111, 114, 101, 32]⟩]
theorem ln8_small : ∀ t ∈ ln8, t.size ≤ 10 := by decide
theorem ln11_small : ∀ t ∈ ln11, t.size ≤ 10 := by decide
theorem ln4_small : ∀ t ∈ ln4, t.size ≤ 7 := by decide
def LineDr (rb P : Nat) (w : World) (e : Ending) (w' : World) : Prop := ∃ s : ByteArray, e = .returned (.string s) ∧ s.size ≤ 100 ∧ Only rb w w' ∧ Rdr w' rb (P + 100)
theorem quo4 (v : Nat) (hv : v < 13) : ∃ u : Nat, u < 4 ∧ (v : Int).tdiv 4 = (u : Int) := ⟨v / 4, by omega, by rw [Int.tdiv_eq_ediv_of_nonneg (by omega)]; omega⟩
theorem run_add_str (a b : ByteArray) (h : a.size + b.size ≤ 1000) : ∀ W, (Op.stringOp .add a b).run Tryz.prog W = .ok (.string (a ++ b)) W := fun W => run_string_add_sum W a b (by omega)
set_option maxRecDepth 100000 in
theorem line_any (rb P : Nat) (a : Option Addr) (m cap : Nat) (hP : P ≤ 90000) (w : World) (h : Rdr w rb P) (hl : LstR w rb a m) :
    Calls Tryz.prog 65 #[.pointer (some ⟨rb, 0, none⟩), .slice a m cap] w (LineDr rb P w) := by
  have H := Lib.hid h; have HL := Lib.hid hl
  have hm := hl.1
  clear h hl
  go_enter Tryz.func65, Tryz.ntmps65
  go_wp2_with fail
  refine (pick_any _ _ 7 (by omega) _ H.out).mono ?_
  rintro e w1 ⟨q, rfl, hq, ho, hr⟩
  have HO := Lib.hid ho; have HR := Lib.hid hr
  have hq7 : q < 7 := by omega
  replace HL := Lib.hid (HL.out.only ho)
  clear ho hr hq
  have hrb1 := HR.out.1
  by_cases hA : q = 0 ∨ q = 1
  · rcases hA with rfl | rfl
    all_goals
      have HQ := Lib.hid (lit_text w1 ln8 #[.string ⟨#[97, 108, 108]⟩, .string ⟨#[99, 111, 109, 112, 97, 110, 121]⟩, .string ⟨#[119, 101, 97, 107]⟩, .string ⟨#[115, 116, 114, 111, 110, 103]⟩, .string ⟨#[115, 117, 109, 109, 101, 100]⟩, .string ⟨#[99, 108, 97, 115, 115, 105, 99, 97, 108]⟩, .string ⟨#[97, 116, 111, 109, 115]⟩, .string ⟨#[119, 104, 111, 108, 101]⟩] 9 rfl)
      have HRA := Lib.hid (HR.out.al (.cells #[.string ⟨#[97, 108, 108]⟩, .string ⟨#[99, 111, 109, 112, 97, 110, 121]⟩, .string ⟨#[119, 101, 97, 107]⟩, .string ⟨#[115, 116, 114, 111, 110, 103]⟩, .string ⟨#[115, 117, 109, 109, 101, 100]⟩, .string ⟨#[99, 108, 97, 115, 115, 105, 99, 97, 108]⟩, .string ⟨#[97, 116, 111, 109, 115]⟩, .string ⟨#[119, 104, 111, 108, 101]⟩] 9))
      have HOA := Lib.hid (HO.out.alloc (.cells #[.string ⟨#[97, 108, 108]⟩, .string ⟨#[99, 111, 109, 112, 97, 110, 121]⟩, .string ⟨#[119, 101, 97, 107]⟩, .string ⟨#[115, 116, 114, 111, 110, 103]⟩, .string ⟨#[115, 117, 109, 109, 101, 100]⟩, .string ⟨#[99, 108, 97, 115, 115, 105, 99, 97, 108]⟩, .string ⟨#[97, 116, 111, 109, 115]⟩, .string ⟨#[119, 104, 111, 108, 101]⟩] 9))
      have HSZ := Lib.hid (alloc_size w1 (.cells #[.string ⟨#[97, 108, 108]⟩, .string ⟨#[99, 111, 109, 112, 97, 110, 121]⟩, .string ⟨#[119, 101, 97, 107]⟩, .string ⟨#[115, 116, 114, 111, 110, 103]⟩, .string ⟨#[115, 117, 109, 109, 101, 100]⟩, .string ⟨#[99, 108, 97, 115, 115, 105, 99, 97, 108]⟩, .string ⟨#[97, 116, 111, 109, 115]⟩, .string ⟨#[119, 104, 111, 108, 101]⟩] 9))
      obtain ⟨wa, hwa⟩ : ∃ wa, w1.alloc (.cells #[.string ⟨#[97, 108, 108]⟩, .string ⟨#[99, 111, 109, 112, 97, 110, 121]⟩, .string ⟨#[119, 101, 97, 107]⟩, .string ⟨#[115, 116, 114, 111, 110, 103]⟩, .string ⟨#[115, 117, 109, 109, 101, 100]⟩, .string ⟨#[99, 108, 97, 115, 115, 105, 99, 97, 108]⟩, .string ⟨#[97, 116, 111, 109, 115]⟩, .string ⟨#[119, 104, 111, 108, 101]⟩] 9) = wa := ⟨_, rfl⟩
      obtain ⟨G, hG⟩ : ∃ G, w1.heap.size = G := ⟨_, rfl⟩
      rw [hwa, hG] at HQ HSZ
      rw [hwa] at HRA HOA
      rw [hG] at hrb1
      go_wp2_with fail
      clear hwa hG
      refine (pick_any _ _ 8 (by omega) _ HRA.out).mono ?_
      rintro e w2 ⟨u, rfl, hu, ho, hr⟩
      have hu8 : u < 8 := by omega
      have hui : (u : Int) < 8 := by omega
      have hui0 : (0 : Int) ≤ (u : Int) := by omega
      have hc := (World.cell?_of_block (a := ⟨G, u, none⟩) (ho.block G (by have := HSZ.out; omega) (by omega))).trans (HQ.out u hu8)
      have hs := getD_small ln8_small u
      obtain ⟨tq, htq⟩ : ∃ tq, ln8.getD u ByteArray.empty = tq := ⟨_, rfl⟩
      rw [htq] at hc hs
      have HO2 := Lib.hid (HOA.out.trans ho); have HR2 := Lib.hid hr
      clear ho hr hu htq
      go_wp2_with fail
      go_ret
      exact ⟨_, rfl, by omega, HO2.out, HR2.out.mono (by omega)⟩
  by_cases hB : q = 2
  · subst hB
    have HQ := Lib.hid (lit_text w1 ln11 #[.string ⟨#[]⟩, .string ⟨#[112, 117, 116]⟩, .string ⟨#[112, 117, 116, 32, 101]⟩, .string ⟨#[112, 117, 116, 32, 98, 97]⟩, .string ⟨#[116, 97, 107, 101]⟩, .string ⟨#[115, 117, 109]⟩, .string ⟨#[115, 117, 109, 32, 97]⟩, .string ⟨#[115, 117, 109, 32, 97, 32, 101]⟩, .string ⟨#[108, 101, 102, 116, 32, 97, 32, 98, 32, 99]⟩, .string ⟨#[32, 97, 108, 108]⟩, .string ⟨#[112, 111, 105, 110, 116, 115, 32, 97]⟩] 9 rfl)
    have HRA := Lib.hid (HR.out.al (.cells #[.string ⟨#[]⟩, .string ⟨#[112, 117, 116]⟩, .string ⟨#[112, 117, 116, 32, 101]⟩, .string ⟨#[112, 117, 116, 32, 98, 97]⟩, .string ⟨#[116, 97, 107, 101]⟩, .string ⟨#[115, 117, 109]⟩, .string ⟨#[115, 117, 109, 32, 97]⟩, .string ⟨#[115, 117, 109, 32, 97, 32, 101]⟩, .string ⟨#[108, 101, 102, 116, 32, 97, 32, 98, 32, 99]⟩, .string ⟨#[32, 97, 108, 108]⟩, .string ⟨#[112, 111, 105, 110, 116, 115, 32, 97]⟩] 9))
    have HOA := Lib.hid (HO.out.alloc (.cells #[.string ⟨#[]⟩, .string ⟨#[112, 117, 116]⟩, .string ⟨#[112, 117, 116, 32, 101]⟩, .string ⟨#[112, 117, 116, 32, 98, 97]⟩, .string ⟨#[116, 97, 107, 101]⟩, .string ⟨#[115, 117, 109]⟩, .string ⟨#[115, 117, 109, 32, 97]⟩, .string ⟨#[115, 117, 109, 32, 97, 32, 101]⟩, .string ⟨#[108, 101, 102, 116, 32, 97, 32, 98, 32, 99]⟩, .string ⟨#[32, 97, 108, 108]⟩, .string ⟨#[112, 111, 105, 110, 116, 115, 32, 97]⟩] 9))
    have HSZ := Lib.hid (alloc_size w1 (.cells #[.string ⟨#[]⟩, .string ⟨#[112, 117, 116]⟩, .string ⟨#[112, 117, 116, 32, 101]⟩, .string ⟨#[112, 117, 116, 32, 98, 97]⟩, .string ⟨#[116, 97, 107, 101]⟩, .string ⟨#[115, 117, 109]⟩, .string ⟨#[115, 117, 109, 32, 97]⟩, .string ⟨#[115, 117, 109, 32, 97, 32, 101]⟩, .string ⟨#[108, 101, 102, 116, 32, 97, 32, 98, 32, 99]⟩, .string ⟨#[32, 97, 108, 108]⟩, .string ⟨#[112, 111, 105, 110, 116, 115, 32, 97]⟩] 9))
    obtain ⟨wa, hwa⟩ : ∃ wa, w1.alloc (.cells #[.string ⟨#[]⟩, .string ⟨#[112, 117, 116]⟩, .string ⟨#[112, 117, 116, 32, 101]⟩, .string ⟨#[112, 117, 116, 32, 98, 97]⟩, .string ⟨#[116, 97, 107, 101]⟩, .string ⟨#[115, 117, 109]⟩, .string ⟨#[115, 117, 109, 32, 97]⟩, .string ⟨#[115, 117, 109, 32, 97, 32, 101]⟩, .string ⟨#[108, 101, 102, 116, 32, 97, 32, 98, 32, 99]⟩, .string ⟨#[32, 97, 108, 108]⟩, .string ⟨#[112, 111, 105, 110, 116, 115, 32, 97]⟩] 9) = wa := ⟨_, rfl⟩
    obtain ⟨G, hG⟩ : ∃ G, w1.heap.size = G := ⟨_, rfl⟩
    rw [hwa, hG] at HQ HSZ
    rw [hwa] at HRA HOA
    rw [hG] at hrb1
    go_wp2_with fail
    clear hwa hG
    refine (pick_any _ _ 11 (by omega) _ HRA.out).mono ?_
    rintro e w2 ⟨u, rfl, hu, ho, hr⟩
    have hu8 : u < 11 := by omega
    have hui : (u : Int) < 11 := by omega
    have hui0 : (0 : Int) ≤ (u : Int) := by omega
    have hc := (World.cell?_of_block (a := ⟨G, u, none⟩) (ho.block G (by have := HSZ.out; omega) (by omega))).trans (HQ.out u hu8)
    have hs := getD_small ln11_small u
    obtain ⟨tq, htq⟩ : ∃ tq, ln11.getD u ByteArray.empty = tq := ⟨_, rfl⟩
    rw [htq] at hc hs
    have HO2 := Lib.hid (HOA.out.trans ho); have HR2 := Lib.hid hr
    clear ho hr hu htq
    go_wp2_with fail
    go_ret
    exact ⟨_, rfl, by omega, HO2.out, HR2.out.mono (by omega)⟩
  by_cases hC : q = 3 ∨ q = 4
  · rcases hC with rfl | rfl
    all_goals
      go_wp2_with fail
      refine (pick_any _ _ 15 (by omega) _ HR.out).mono ?_
      rintro e w2 ⟨y, rfl, hy, ho, hr⟩
      replace HO := Lib.hid (HO.out.trans ho); replace HR := Lib.hid hr; replace HL := Lib.hid (HL.out.only ho)
      clear ho hr
      go_wp2_with fail
      refine (pick_any _ _ 15 (by omega) _ HR.out).mono ?_
      rintro e w3 ⟨z, rfl, hz, ho, hr⟩
      replace HO := Lib.hid (HO.out.trans ho); replace HR := Lib.hid hr; replace HL := Lib.hid (HL.out.only ho)
      clear ho hr
      by_cases hm0 : 0 < m
      · have hmi : (0 : Int) < (m : Int) := by omega
        obtain ⟨b, f, rfl, hb, hne, hrow, h64⟩ : ∃ b f, a = some ⟨b, 0, none⟩ ∧ b < w3.heap.size ∧ b ≠ rb ∧ Row w3 b 0 m f ∧ ∀ i, i < m → I64 (f i) := by
          rcases HL.out.2 with h0 | h0
          · omega
          · exact h0
        have HROW := Lib.hid hrow
        clear hrow
        go_wp2_with fail
        refine (pick_any _ _ m (by omega) _ HR.out).mono ?_
        rintro e w4 ⟨u1, rfl, hu1, ho, hr⟩
        have hu1m : u1 < m := by omega
        have hu1i : (u1 : Int) < (m : Int) := by omega
        have hu10 : (0 : Int) ≤ (u1 : Int) := by omega
        replace HO := Lib.hid (HO.out.trans ho); replace HR := Lib.hid hr
        have HROW4 := Lib.hid (show Row w4 b 0 m f from fun i hi => (World.cell?_of_block (a := ⟨b, 0 + i, none⟩) (ho.block b hb hne)).trans (HROW.out i hi))
        have hb4 : b < w4.heap.size := Nat.lt_of_lt_of_le hb ho.size
        have hc1 : w4.cell? ⟨b, u1, none⟩ = some (.int .i64 (f u1)) := by have := HROW4.out u1 hu1m; rwa [Nat.zero_add] at this
        obtain ⟨A1, hA1e⟩ : ∃ A1, f u1 = A1 := ⟨_, rfl⟩
        rw [hA1e] at hc1
        clear ho hr hu1 hA1e
        go_wp2_with fail
        refine (pick_any _ _ m (by omega) _ HR.out).mono ?_
        rintro e w5 ⟨u2, rfl, hu2, ho, hr⟩
        have hu2m : u2 < m := by omega
        have hu2i : (u2 : Int) < (m : Int) := by omega
        have hu20 : (0 : Int) ≤ (u2 : Int) := by omega
        replace HO := Lib.hid (HO.out.trans ho); replace HR := Lib.hid hr
        have hc2 : w5.cell? ⟨b, u2, none⟩ = some (.int .i64 (f u2)) := by have := (World.cell?_of_block (a := ⟨b, 0 + u2, none⟩) (ho.block b hb4 hne)).trans (HROW4.out u2 hu2m); rwa [Nat.zero_add] at this
        obtain ⟨A2, hA2e⟩ : ∃ A2, f u2 = A2 := ⟨_, rfl⟩
        rw [hA2e] at hc2
        clear ho hr hu2 hA2e hc1
        have HST1 := Lib.hid (fun W => specSetText_any A1 W)
        have HST2 := Lib.hid (fun W => specSetText_any A2 W)
        obtain ⟨ta, hta⟩ : ∃ ta, setT A1 = ta := ⟨_, rfl⟩
        obtain ⟨tb, htb⟩ : ∃ tb, setT A2 = tb := ⟨_, rfl⟩
        have hza : ta.size ≤ 4 := by rw [← hta]; exact setL_len _
        have hzb : tb.size ≤ 4 := by rw [← htb]; exact setL_len _
        rw [hta] at HST1
        rw [htb] at HST2
        have HQ4 := Lib.hid (fun (W : World) => lit_text W ln4 #[.string ⟨#[115, 117, 109, 32]⟩, .string ⟨#[99, 111, 109, 109, 111, 110, 32]⟩, .string ⟨#[108, 101, 102, 116, 32]⟩, .string ⟨#[109, 111, 114, 101, 32]⟩] 9 rfl)
        have HRB := Lib.hid ((HR.out.al (.cells #[.string ⟨#[115, 117, 109, 32]⟩, .string ⟨#[99, 111, 109, 109, 111, 110, 32]⟩, .string ⟨#[108, 101, 102, 116, 32]⟩, .string ⟨#[109, 111, 114, 101, 32]⟩] 9)).drx)
        have HOB := Lib.hid ((HO.out.alloc (.cells #[.string ⟨#[115, 117, 109, 32]⟩, .string ⟨#[99, 111, 109, 109, 111, 110, 32]⟩, .string ⟨#[108, 101, 102, 116, 32]⟩, .string ⟨#[109, 111, 114, 101, 32]⟩] 9)).trans (only_drx _ _))
        have hrb4 : rb < w5.heap.size := HR.out.1
        have HA1 := Lib.hid (fun (tq : ByteArray) (h : tq.size ≤ 7) => run_add_str tq ta (by omega))
        have HA2 := Lib.hid (fun (tq : ByteArray) (h : tq.size ≤ 7) => run_add_str (tq ++ ta) { data := #[32] } (by rw [ByteArray.size_append]; show _ + 1 ≤ _; omega))
        have HA3 := Lib.hid (fun (tq : ByteArray) (h : tq.size ≤ 7) => run_add_str (tq ++ ta ++ { data := #[32] }) tb (by rw [ByteArray.size_append, ByteArray.size_append]; show _ + 1 + _ ≤ _; omega))
        have HZ := Lib.hid (show ∀ tq : ByteArray, tq.size ≤ 7 → (tq ++ ta ++ { data := #[32] } ++ tb).size ≤ 100 from fun tq h => by rw [ByteArray.size_append, ByteArray.size_append, ByteArray.size_append]; show _ + _ + 1 + _ ≤ _; omega)
        clear hta htb
        go_upto_region 14 with fail
        go_region_with
          (first | (go_at_call 42; go_fit (pick_any rb _ 13 (by omega) _ HRB.out); rintro e w6 ⟨v, rfl, hv, ho, hr⟩; obtain ⟨u, hu4, hqu⟩ := quo4 v (by omega); have hui : (u : Int) < 4 := (by omega); have hui0 : (0 : Int) ≤ (u : Int) := (by omega); have hwu : IntKind.i64.wrap (u : Int) = (u : Int) := (IntWalk.i64_in _ (by omega)); have hcu := ((World.cell?_of_block (a := ⟨w5.heap.size, u, none⟩) (ho.block w5.heap.size (by show _ < (w5.alloc _).heap.size; rw [alloc_size]; omega) (by omega))).trans (HQ4.out w5 u hu4)); have HT := Lib.hid (getD_small ln4_small u); obtain ⟨tq, htq⟩ : ∃ tq, ln4.getD u ByteArray.empty = tq := ⟨_, rfl⟩; rw [htq] at hcu HT; have HF3 := Lib.hid (HOB.out.trans ho); have HRF := Lib.hid hr; have hA1 := HA1.out tq HT.out; have hA2 := HA2.out tq HT.out; have hA3 := HA3.out tq HT.out; clear htq ho hr) | (go_at_call 42; go_fit (pick_any rb _ 13 (by omega) _ HR.out.drx); rintro e w6 ⟨v, rfl, hv, ho, hr⟩; obtain ⟨u, hu4, hqu⟩ := quo4 v (by omega); have hui : (u : Int) < 4 := (by omega); have hui0 : (0 : Int) ≤ (u : Int) := (by omega); have hwu : IntKind.i64.wrap (u : Int) = (u : Int) := (IntWalk.i64_in _ (by omega)); have HT := Lib.hid (getD_small ln4_small u); obtain ⟨tq, htq⟩ : ∃ tq, ln4.getD u ByteArray.empty = tq := ⟨_, rfl⟩; have hcu : ∀ W : World, (W.alloc (.cells #[.string ⟨#[115, 117, 109, 32]⟩, .string ⟨#[99, 111, 109, 109, 111, 110, 32]⟩, .string ⟨#[108, 101, 102, 116, 32]⟩, .string ⟨#[109, 111, 114, 101, 32]⟩] 9)).cell? ⟨W.heap.size, u, none⟩ = some (.string tq) := (fun W => by rw [← htq]; exact HQ4.out W u hu4); rw [htq] at HT; have HF3 := Lib.hid ((HO.out.trans (only_drx _ _)).trans ho); have HRF := Lib.hid hr; have hA1 := HA1.out tq HT.out; have hA2 := HA2.out tq HT.out; have hA3 := HA3.out tq HT.out; clear htq ho hr) | (go_at_call 28; go_fit (HST1.out _); rintro e w7 ⟨rfl, rfl⟩) | (go_at_call 28; go_fit (HST2.out _); rintro e w7 ⟨rfl, rfl⟩))
        all_goals
          go_wp2_with fail
          go_ret
          exact ⟨_, rfl, HZ.out _ HT.out, by first | exact HF3.out | exact HF3.out.drew | exact HF3.out.alloc _ | exact (HF3.out.alloc _).drew | exact HF3.out.drew.alloc _ | exact HF3.out.drew.drew | exact (HF3.out.drew.alloc _).drew, by first | exact HRF.out.mono (by omega) | exact (HRF.out.al _).mono (by omega) | exact (HRF.out.drx.al _).mono (by omega) | exact HRF.out.drx.mono (by omega)⟩
      · have hmi : ¬ (0 : Int) < (m : Int) := by omega
        obtain ⟨A1, hA1e⟩ : ∃ A1 : Int, 1 + (y : Int) = A1 := ⟨_, rfl⟩
        obtain ⟨A2, hA2e⟩ : ∃ A2 : Int, 1 + (z : Int) = A2 := ⟨_, rfl⟩
        have hw1 : IntKind.i64.wrap (1 + (y : Int)) = A1 := by rw [← hA1e]; exact IntWalk.i64_in _ (by omega)
        have hw2 : IntKind.i64.wrap (1 + (z : Int)) = A2 := by rw [← hA2e]; exact IntWalk.i64_in _ (by omega)
        have HST1 := Lib.hid (fun W => specSetText_any A1 W)
        have HST2 := Lib.hid (fun W => specSetText_any A2 W)
        obtain ⟨ta, hta⟩ : ∃ ta, setT A1 = ta := ⟨_, rfl⟩
        obtain ⟨tb, htb⟩ : ∃ tb, setT A2 = tb := ⟨_, rfl⟩
        have hza : ta.size ≤ 4 := by rw [← hta]; exact setL_len _
        have hzb : tb.size ≤ 4 := by rw [← htb]; exact setL_len _
        rw [hta] at HST1
        rw [htb] at HST2
        have HQ4 := Lib.hid (fun (W : World) => lit_text W ln4 #[.string ⟨#[115, 117, 109, 32]⟩, .string ⟨#[99, 111, 109, 109, 111, 110, 32]⟩, .string ⟨#[108, 101, 102, 116, 32]⟩, .string ⟨#[109, 111, 114, 101, 32]⟩] 9 rfl)
        have HRB := Lib.hid ((HR.out.al (.cells #[.string ⟨#[115, 117, 109, 32]⟩, .string ⟨#[99, 111, 109, 109, 111, 110, 32]⟩, .string ⟨#[108, 101, 102, 116, 32]⟩, .string ⟨#[109, 111, 114, 101, 32]⟩] 9)).drx)
        have HOB := Lib.hid ((HO.out.alloc (.cells #[.string ⟨#[115, 117, 109, 32]⟩, .string ⟨#[99, 111, 109, 109, 111, 110, 32]⟩, .string ⟨#[108, 101, 102, 116, 32]⟩, .string ⟨#[109, 111, 114, 101, 32]⟩] 9)).trans (only_drx _ _))
        have hrb4 : rb < w3.heap.size := HR.out.1
        have HA1 := Lib.hid (fun (tq : ByteArray) (h : tq.size ≤ 7) => run_add_str tq ta (by omega))
        have HA2 := Lib.hid (fun (tq : ByteArray) (h : tq.size ≤ 7) => run_add_str (tq ++ ta) { data := #[32] } (by rw [ByteArray.size_append]; show _ + 1 ≤ _; omega))
        have HA3 := Lib.hid (fun (tq : ByteArray) (h : tq.size ≤ 7) => run_add_str (tq ++ ta ++ { data := #[32] }) tb (by rw [ByteArray.size_append, ByteArray.size_append]; show _ + 1 + _ ≤ _; omega))
        have HZ := Lib.hid (show ∀ tq : ByteArray, tq.size ≤ 7 → (tq ++ ta ++ { data := #[32] } ++ tb).size ≤ 100 from fun tq h => by rw [ByteArray.size_append, ByteArray.size_append, ByteArray.size_append]; show _ + _ + 1 + _ ≤ _; omega)
        clear hta htb
        go_upto_region 14 with fail
        go_region_with
          (first | (go_at_call 42; go_fit (pick_any rb _ 13 (by omega) _ HRB.out); rintro e w6 ⟨v, rfl, hv, ho, hr⟩; obtain ⟨u, hu4, hqu⟩ := quo4 v (by omega); have hui : (u : Int) < 4 := (by omega); have hui0 : (0 : Int) ≤ (u : Int) := (by omega); have hwu : IntKind.i64.wrap (u : Int) = (u : Int) := (IntWalk.i64_in _ (by omega)); have hcu := ((World.cell?_of_block (a := ⟨w3.heap.size, u, none⟩) (ho.block w3.heap.size (by show _ < (w3.alloc _).heap.size; rw [alloc_size]; omega) (by omega))).trans (HQ4.out w3 u hu4)); have HT := Lib.hid (getD_small ln4_small u); obtain ⟨tq, htq⟩ : ∃ tq, ln4.getD u ByteArray.empty = tq := ⟨_, rfl⟩; rw [htq] at hcu HT; have HF3 := Lib.hid (HOB.out.trans ho); have HRF := Lib.hid hr; have hA1 := HA1.out tq HT.out; have hA2 := HA2.out tq HT.out; have hA3 := HA3.out tq HT.out; clear htq ho hr) | (go_at_call 42; go_fit (pick_any rb _ 13 (by omega) _ HR.out.drx); rintro e w6 ⟨v, rfl, hv, ho, hr⟩; obtain ⟨u, hu4, hqu⟩ := quo4 v (by omega); have hui : (u : Int) < 4 := (by omega); have hui0 : (0 : Int) ≤ (u : Int) := (by omega); have hwu : IntKind.i64.wrap (u : Int) = (u : Int) := (IntWalk.i64_in _ (by omega)); have HT := Lib.hid (getD_small ln4_small u); obtain ⟨tq, htq⟩ : ∃ tq, ln4.getD u ByteArray.empty = tq := ⟨_, rfl⟩; have hcu : ∀ W : World, (W.alloc (.cells #[.string ⟨#[115, 117, 109, 32]⟩, .string ⟨#[99, 111, 109, 109, 111, 110, 32]⟩, .string ⟨#[108, 101, 102, 116, 32]⟩, .string ⟨#[109, 111, 114, 101, 32]⟩] 9)).cell? ⟨W.heap.size, u, none⟩ = some (.string tq) := (fun W => by rw [← htq]; exact HQ4.out W u hu4); rw [htq] at HT; have HF3 := Lib.hid ((HO.out.trans (only_drx _ _)).trans ho); have HRF := Lib.hid hr; have hA1 := HA1.out tq HT.out; have hA2 := HA2.out tq HT.out; have hA3 := HA3.out tq HT.out; clear htq ho hr) | (go_at_call 28; go_fit (HST1.out _); rintro e w7 ⟨rfl, rfl⟩) | (go_at_call 28; go_fit (HST2.out _); rintro e w7 ⟨rfl, rfl⟩))
        all_goals
          go_wp2_with fail
          go_ret
          exact ⟨_, rfl, HZ.out _ HT.out, by first | exact HF3.out | exact HF3.out.drew | exact HF3.out.alloc _ | exact (HF3.out.alloc _).drew | exact HF3.out.drew.alloc _ | exact HF3.out.drew.drew | exact (HF3.out.drew.alloc _).drew, by first | exact HRF.out.mono (by omega) | exact (HRF.out.al _).mono (by omega) | exact (HRF.out.drx.al _).mono (by omega) | exact HRF.out.drx.mono (by omega)⟩
  have hD : q = 5 ∨ q = 6 := by omega
  rcases hD with rfl | rfl
  all_goals
    go_wp2_with fail
    refine (deedR_any rb _ a m cap (by omega) _ HR.out HL.out).mono ?_
    rintro e w2 ⟨k, x, rfl, _, _, _, ho, hr⟩
    have HO2 := Lib.hid (HO.out.trans ho); have HR2 := Lib.hid hr
    clear ho hr
    go_wp2_with fail
    refine (specDeedText_any k x _).mono ?_
    rintro e w3 ⟨rfl, hb⟩
    have hz : (deedT k x).size ≤ 9 := deed_len k x
    have HO3 := Lib.hid (HO2.out.trans (Only.of_below hb)); have HR3 := Lib.hid (HR2.out.below hb)
    obtain ⟨t, ht⟩ : ∃ t, deedT k x = t := ⟨_, rfl⟩
    rw [ht] at hz ⊢
    clear hb ht
    go_wp2_with fail
    go_ret
    exact ⟨_, rfl, by omega, HO3.out, HR3.out.mono (by omega)⟩
theorem okD.gives {ys : List Int} {M : List (List Int)} {w w' : World} {v1 v2 : Value} (hk : okD ys M) (h : GivesD ys M w w' v1 v2) :
    ∃ a c b c2, v1 = .slice a ys.length c ∧ v2 = .slice b M.length c2 ∧ DeskR w' (.agg #[.slice a ys.length c, .slice b M.length c2]) ys M ∧ Below w.heap.size w w' := by
  obtain ⟨h1, h2, ⟨a, c, rfl⟩, b, c2, rfl⟩ := h.read ⟨by have := hk.1.1; omega, hk.1.2⟩ (fun l hl => ⟨by have := (hk.2.2 l hl).1; omega, (hk.2.2 l hl).2⟩)
  exact ⟨a, c, b, c2, rfl, rfl, h1, h2⟩
theorem okD9.same {ys : List Int} {M : List (List Int)} (hk : okD9 ys M) (d1 d2 : Value) (w : World) (h1 : DeskR w d1 ys M) (h2 : DeskR w d2 ys M) :
    Calls Tryz.prog 18 #[d1, d2] w fun e w' => e = .returned (.bool true) ∧ Below w.heap.size w w' :=
  sameDesk_any d1 d2 ys M (by have := hk.1.1; omega) (by have := hk.2.1; omega) (fun l hl => by have := (hk.2.2 l hl).1; omega) w h1 h2
structure VarD (w : World) (A : Nat) (a b : Option Addr) (c c2 : Nat) (xs : List Int) (L : List (List Int)) : Prop where
  blk : Blk2 w A 31 (.slice a xs.length c) (.slice b L.length c2)
  d : DeskR w (.agg #[.slice a xs.length c, .slice b L.length c2]) xs L
theorem VarD.kept {w w' : World} {A : Nat} {a b : Option Addr} {c c2 : Nat} {xs : List Int} {L : List (List Int)} (h : VarD w A a b c c2 xs L) (hb : Below w.heap.size w w') : VarD w' A a b c c2 xs L := ⟨h.blk.kept hb h.blk.lt, h.d.kept hb⟩
theorem VarD.new {w : World} {a b : Option Addr} {c c2 : Nat} {xs : List Int} {L : List (List Int)} (h : DeskR w (.agg #[.slice a xs.length c, .slice b L.length c2]) xs L) : VarD (w.alloc (.cells #[.slice a xs.length c, .slice b L.length c2] 31)) w.heap.size a b c c2 xs L :=
  ⟨Blk2.new w _ _ _, h.kept (alloc_below w _)⟩
theorem DeskR.now {w : World} {a b : Option Addr} {c c2 : Nat} {xs : List Int} {L : List (List Int)} (h : DeskR w (.agg #[.slice a xs.length c, .slice b L.length c2]) xs L) : Ints w a xs.length (fun j => xs.getD j 0) := by
  obtain ⟨a', c', b', c2', e, h1, h2, h3, h4⟩ := h
  injection e with e
  have e1 := congrArg (fun q : Array Value => q.getD 0 undef) e
  injection e1 with e2 e3 e4
  subst e2
  exact h3
theorem DeskV.base {W : World} {B B' T b : Nat} {v1 v2 : Value} {ys : List Int} {rs : List Fr} (h : DeskV W B T b v1 v2 ys rs) (hB : B' ≤ B) : DeskV W B' T b v1 v2 ys rs := ⟨h.blk, h.g.base hB, h.ne, Nat.le_trans hB h.lo, h.hi⟩
def DAd (p : Option Addr) (cp n : Nat) : Prop := n ≤ cp ∧ (p = none ∧ cp = 0 ∨ ∃ g, p = some ⟨g, 0, none⟩)
def spR (c : UInt8) : List UInt8 → List (List UInt8)
  | [] => [[]]
  | b :: l => if b == c then [] :: spR c l else match spR c l with
    | [] => [[b]]
    | p :: ps => (b :: p) :: ps
theorem spR_none {c : UInt8} {a : List UInt8} (h : c ∉ a) : spR c a = [a] := by
  induction a with
  | nil => rfl
  | cons b a ih =>
    have hb : (b == c) = false := by
      cases hb : b == c with
      | false => rfl
      | true => exact absurd (by rw [beq_iff_eq.1 hb]; exact List.mem_cons_self) h
    unfold spR
    rw [hb, ih (fun hx => h (List.mem_cons_of_mem _ hx))]
    rfl
theorem spR_app {c : UInt8} {a r : List UInt8} (h : c ∉ a) : spR c (a ++ c :: r) = a :: spR c r := by
  induction a with
  | nil =>
    show spR c (c :: r) = _
    rw [spR, if_pos (by simp)]
  | cons b a ih =>
    have hb : (b == c) = false := by
      cases hb : b == c with
      | false => rfl
      | true => exact absurd (by rw [beq_iff_eq.1 hb]; exact List.mem_cons_self) h
    rw [List.cons_append, spR, hb, ih (fun hx => h (List.mem_cons_of_mem _ hx))]
    rfl
theorem spK_inv (l : List UInt8) (c : UInt8) (k : Nat) (hk : k ≤ l.length) :
    (spK l c k).1 ++ spR c (l.drop (spK l c k).2) = spR c l ∧ c ∉ (l.drop (spK l c k).2).take (k - (spK l c k).2) := by
  induction k with
  | zero => exact ⟨rfl, by simp [spK]⟩
  | succ k ih =>
    obtain ⟨h1, h2⟩ := ih (by omega)
    have hle := (spK_le l c k).1
    obtain ⟨p, hp⟩ : ∃ p, (spK l c k).2 = p := ⟨_, rfl⟩
    have hgt : l.getD k 0 = l[k] := by rw [List.getD_eq_getElem?_getD, List.getElem?_eq_getElem (by omega)]; rfl
    have hsp : l.drop p = (l.drop p).take (k - p) ++ l[k] :: l.drop (k + 1) := by
      have e := List.take_append_drop (k - p) (l.drop p)
      rw [List.drop_drop, show p + (k - p) = k by omega, List.drop_eq_getElem_cons (by omega : k < l.length)] at e
      exact e.symm
    cases hb : l.getD k 0 == c with
    | true =>
      rw [spK_yes hb]
      have he : l[k] = c := by rw [← hgt]; exact beq_iff_eq.1 hb
      refine ⟨?_, by simp⟩
      rw [hp] at h1 h2 ⊢
      rw [← h1, hsp, he, spR_app h2, ← he, ← hsp]
      simp
    | false =>
      rw [spK_no hb]
      refine ⟨h1, ?_⟩
      rw [hp] at h2 hle ⊢
      rw [show k + 1 - p = (k - p) + 1 by omega, List.take_add_one]
      intro hm
      rcases List.mem_append.1 hm with hm | hm
      · exact h2 hm
      · rw [List.getElem?_drop, show p + (k - p) = k by omega, List.getElem?_eq_getElem (by omega)] at hm
        have hm : c = l[k] := by simpa using hm
        rw [hgt, ← hm] at hb
        simp at hb
theorem spL_R (l : List UInt8) (c : UInt8) : spL l c = spR c l := by
  obtain ⟨h1, h2⟩ := spK_inv l c l.length (Nat.le_refl _)
  unfold spL
  rw [← h1]
  congr 1
  rw [List.take_of_length_le (by rw [List.length_drop]; omega)] at h2
  exact (spR_none h2).symm
theorem cut_parts (l : List UInt8) : (cut1 l = l ∧ cut2 l = [] ∧ (32 : UInt8) ∉ l) ∨ (l = cut1 l ++ 32 :: cut2 l ∧ (32 : UInt8) ∉ cut1 l) := by
  have key : (Lib.indexByte l 32 < 0 ∧ (32 : UInt8) ∉ l) ∨ ∃ i : Nat, Lib.indexByte l 32 = i ∧ l = l.take i ++ 32 :: l.drop (i + 1) ∧ (32 : UInt8) ∉ l.take i := by
    induction l with
    | nil => exact .inl ⟨by decide +kernel, by simp⟩
    | cons b l ih =>
      unfold Lib.indexByte
      by_cases hb : b = 32
      · subst hb
        exact .inr ⟨0, by simp, by simp, by simp⟩
      · rcases ih with ⟨h1, h2⟩ | ⟨i, h1, h2, h3⟩
        · refine .inl ⟨?_, ?_⟩
          · rw [if_neg (by simpa using hb), if_pos (by have := Lib.indexByte_ge l 32; rw [show Lib.indexByte l 32 = -1 by omega]; rfl)]; omega
          · intro hm
            rcases List.mem_cons.1 hm with hm | hm
            · exact hb hm.symm
            · exact h2 hm
        · refine .inr ⟨i + 1, ?_, ?_, ?_⟩
          · rw [if_neg (by simpa using hb), if_neg (by rw [h1]; simp), h1]; rfl
          · rw [List.take_succ_cons, List.drop_succ_cons, List.cons_append, ← h2]
          · rw [List.take_succ_cons]
            intro hm
            rcases List.mem_cons.1 hm with hm | hm
            · exact hb hm.symm
            · exact h3 hm
  unfold cut1 cut2
  rcases key with ⟨h1, h2⟩ | ⟨i, h1, h2, h3⟩
  · exact .inl ⟨if_pos h1, if_pos h1, h2⟩
  · refine .inr ?_
    rw [if_neg (by omega), if_neg (by omega), h1, Int.toNat_natCast]
    exact ⟨h2, h3⟩
theorem txt_space : (List.range 16).all (fun x => !(txtL x).contains 32) = true := by decide +kernel
theorem rdI_space {l : List UInt8} (h : (32 : UInt8) ∈ l) : rdI l = -1 := by
  cases hb : rdB l with
  | false => exact rd_bad hb
  | true =>
    exfalso
    obtain ⟨h1, h2⟩ := rd_ok hb
    rw [setL_yes h1] at h2
    have hr := rdI_rng l
    have hx : (rdI l).toNat < 16 := by omega
    have := List.all_eq_true.1 txt_space _ (List.mem_range.2 hx)
    rw [h2] at this
    simp [h] at this
theorem rdI_nil : rdI [] = -1 := by decide +kernel
theorem three_words (l : List UInt8) : ((spL l 32).length = 3 → spL l 32 = [cut1 l, cut1 (cut2 l), cut2 (cut2 l)]) ∧ ((spL l 32).length ≠ 3 → rdI (cut1 (cut2 l)) = -1 ∨ rdI (cut2 (cut2 l)) = -1) := by
  rw [spL_R]
  rcases cut_parts l with ⟨h1, h2, h3⟩ | ⟨h1, h3⟩
  · rw [spR_none h3, h2]
    refine ⟨fun h => by simp at h, fun _ => .inl ?_⟩
    decide +kernel
  · obtain ⟨a, ha⟩ : ∃ a, cut1 l = a := ⟨_, rfl⟩
    obtain ⟨t, ht⟩ : ∃ t, cut2 l = t := ⟨_, rfl⟩
    rw [ha, ht] at h1
    rw [ha] at h3
    rw [ha, ht, h1, spR_app h3]
    rcases cut_parts t with ⟨k1, k2, k3⟩ | ⟨k1, k3⟩
    · rw [spR_none k3, k2]
      exact ⟨fun h => by simp at h, fun _ => .inr rdI_nil⟩
    · obtain ⟨b, hb⟩ : ∃ b, cut1 t = b := ⟨_, rfl⟩
      obtain ⟨u, hu⟩ : ∃ u, cut2 t = u := ⟨_, rfl⟩
      rw [hb, hu] at k1
      rw [hb] at k3
      rw [hb, hu, k1, spR_app k3]
      rcases cut_parts u with ⟨j1, j2, j3⟩ | ⟨j1, j3⟩
      · rw [spR_none j3]
        exact ⟨fun _ => rfl, fun h => absurd rfl h⟩
      · refine ⟨fun h => ?_, fun _ => .inr (rdI_space (by rw [j1]; simp))⟩
        rw [j1, spR_app j3] at h
        obtain ⟨q, qs, hq⟩ : ∃ q qs, spR 32 (cut2 u) = q :: qs := by
          cases hx : spR 32 (cut2 u) with
          | nil =>
            exfalso
            revert hx
            cases cut2 u with
            | nil => simp [spR]
            | cons b l => unfold spR; split <;> (try split) <;> simp
          | cons q qs => exact ⟨q, qs, rfl⟩
        rw [hq] at h
        simp at h
def joinL : List (List UInt8) → List UInt8
  | [] => []
  | [a] => a
  | a :: b :: l => a ++ 44 :: joinL (b :: l)
theorem join_snoc (ls : List (List UInt8)) (a : List UInt8) (h : ls ≠ []) : joinL (ls ++ [a]) = joinL ls ++ 44 :: a := by
  induction ls with
  | nil => exact absurd rfl h
  | cons x ls ih =>
    cases ls with
    | nil => rfl
    | cons y ls =>
      have := ih (by simp)
      show x ++ 44 :: joinL ((y :: ls) ++ [a]) = (x ++ 44 :: joinL (y :: ls)) ++ 44 :: a
      rw [this]; simp
theorem join_ne {ls : List (List UInt8)} (h : ls ≠ []) (hn : ∀ l ∈ ls, l ≠ []) : joinL ls ≠ [] := by
  cases ls with
  | nil => exact absurd rfl h
  | cons x ls =>
    have hx := hn x List.mem_cons_self
    cases ls with
    | nil => exact hx
    | cons y ls => show x ++ _ ≠ []; simp
def atS (xs : List Int) (s : Int) : Nat → List (List UInt8)
  | 0 => []
  | k + 1 => if hasB s k then atS xs s k ++ [setL (xs.getD k 0)] else atS xs s k
theorem atS_len (xs : List Int) (s : Int) (k : Nat) : (atS xs s k).length ≤ k := by
  induction k with
  | zero => exact Nat.le_refl _
  | succ k ih =>
    unfold atS
    split
    · rw [List.length_append, List.length_singleton]; omega
    · omega
def okW : List UInt8 := [111, 107]
def notW : List UInt8 := [110, 111, 116]
def whatW : List UInt8 := [119, 104, 97, 116]
def liX (xs : List Int) (L : List (List Int)) (l : List UInt8) : List Int := if deskB xs L then (if rdDB l then dkX xs L (rdK l) (rdY l) else xs) else []
def liL (xs : List Int) (L : List (List Int)) (l : List UInt8) : List (List Int) := if deskB xs L then (if rdDB l then dkL xs L (rdK l) (rdY l) else L) else []
def liT (A : List Int → List UInt8 → List UInt8) (xs : List Int) (L : List (List Int)) (l : List UInt8) : List UInt8 :=
  if deskB xs L then (if rdDB l then (if dkB xs L (rdK l) (rdY l) then okW else notW) else A xs l) else []
theorem li_none {A : List Int → List UInt8 → List UInt8} {xs : List Int} {L : List (List Int)} {l : List UInt8} (h : deskB xs L = false) : liX xs L l = [] ∧ liL xs L l = [] ∧ liT A xs L l = [] := by
  unfold liX liL liT; rw [h]; exact ⟨rfl, rfl, rfl⟩
theorem li_deed {A : List Int → List UInt8 → List UInt8} {xs : List Int} {L : List (List Int)} {l : List UInt8} (h : deskB xs L = true) (hd : rdDB l = true) :
    liX xs L l = dkX xs L (rdK l) (rdY l) ∧ liL xs L l = dkL xs L (rdK l) (rdY l) ∧ liT A xs L l = if dkB xs L (rdK l) (rdY l) then okW else notW := by
  unfold liX liL liT; rw [h, hd]; exact ⟨rfl, rfl, rfl⟩
theorem li_ask {A : List Int → List UInt8 → List UInt8} {xs : List Int} {L : List (List Int)} {l : List UInt8} (h : deskB xs L = true) (hd : rdDB l = false) : liX xs L l = xs ∧ liL xs L l = L ∧ liT A xs L l = A xs l := by
  unfold liX liL liT; rw [h, hd]; exact ⟨rfl, rfl, rfl⟩
theorem li_desk {xs : List Int} {L : List (List Int)} {l : List UInt8} (h : deskB xs L = true) : deskB (liX xs L l) (liL xs L l) = true := by
  cases hd : rdDB l with
  | true =>
    obtain ⟨h1, h2, _⟩ := li_deed (A := fun _ _ => []) h hd
    rw [h1, h2]; exact dk_desk h
  | false =>
    obtain ⟨h1, h2, _⟩ := li_ask (A := fun _ _ => []) h hd
    rw [h1, h2]; exact h
def sayD (A : List Int → List UInt8 → List UInt8) : List Int → List (List Int) → List (List UInt8) → List Int × List (List Int) × List (List UInt8)
  | xs, L, [] => (xs, L, [])
  | xs, L, l :: ls => ((sayD A (liX xs L l) (liL xs L l) ls).1, (sayD A (liX xs L l) (liL xs L l) ls).2.1, liT A xs L l :: (sayD A (liX xs L l) (liL xs L l) ls).2.2)
section
variable (A : List Int → List UInt8 → List UInt8) (xs : List Int) (L : List (List Int))
theorem say_app (ls ms : List (List UInt8)) :
    sayD A xs L (ls ++ ms) = ((sayD A (sayD A xs L ls).1 (sayD A xs L ls).2.1 ms).1, (sayD A (sayD A xs L ls).1 (sayD A xs L ls).2.1 ms).2.1, (sayD A xs L ls).2.2 ++ (sayD A (sayD A xs L ls).1 (sayD A xs L ls).2.1 ms).2.2) := by
  induction ls generalizing xs L with
  | nil => simp [sayD]
  | cons l ls ih =>
    rw [List.cons_append, sayD, ih]
    rw [sayD]
    refine Prod.ext rfl (Prod.ext rfl ?_)
    simp
theorem say_snoc (ls : List (List UInt8)) (l : List UInt8) :
    sayD A xs L (ls ++ [l]) = (liX (sayD A xs L ls).1 (sayD A xs L ls).2.1 l, liL (sayD A xs L ls).1 (sayD A xs L ls).2.1 l, (sayD A xs L ls).2.2 ++ [liT A (sayD A xs L ls).1 (sayD A xs L ls).2.1 l]) := by
  rw [say_app]; rfl
theorem say_len (ls : List (List UInt8)) : (sayD A xs L ls).2.2.length = ls.length := by
  induction ls generalizing xs L with
  | nil => rfl
  | cons l ls ih => rw [sayD]; simp [ih]
theorem say_desk (h : deskB xs L = true) (ls : List (List UInt8)) : deskB (sayD A xs L ls).1 (sayD A xs L ls).2.1 = true := by
  induction ls generalizing xs L with
  | nil => exact h
  | cons l ls ih => rw [sayD]; exact ih _ _ (li_desk h)
end
def syB (xs : List Int) (L : List (List Int)) (ls : List (List UInt8)) : Bool := deskB xs L && decide (ls.length ≤ 40)
def syX (A : List Int → List UInt8 → List UInt8) (xs : List Int) (L : List (List Int)) (ls : List (List UInt8)) : List Int := if syB xs L ls then (sayD A xs L ls).1 else []
def syL (A : List Int → List UInt8 → List UInt8) (xs : List Int) (L : List (List Int)) (ls : List (List UInt8)) : List (List Int) := if syB xs L ls then (sayD A xs L ls).2.1 else []
def syT (A : List Int → List UInt8 → List UInt8) (xs : List Int) (L : List (List Int)) (ls : List (List UInt8)) : List (List UInt8) := if syB xs L ls then (sayD A xs L ls).2.2 else []
theorem sy_yes {A : List Int → List UInt8 → List UInt8} {xs : List Int} {L : List (List Int)} {ls : List (List UInt8)} (h : syB xs L ls = true) : syX A xs L ls = (sayD A xs L ls).1 ∧ syL A xs L ls = (sayD A xs L ls).2.1 ∧ syT A xs L ls = (sayD A xs L ls).2.2 := by
  unfold syX syL syT; rw [h]; exact ⟨rfl, rfl, rfl⟩
theorem sy_no {A : List Int → List UInt8 → List UInt8} {xs : List Int} {L : List (List Int)} {ls : List (List UInt8)} (h : syB xs L ls = false) : syX A xs L ls = [] ∧ syL A xs L ls = [] ∧ syT A xs L ls = [] := by
  unfold syX syL syT; rw [h]; exact ⟨rfl, rfl, rfl⟩
theorem sy_parts {A : List Int → List UInt8 → List UInt8} {xs : List Int} {L : List (List Int)} {ls d1 d2 : List (List UInt8)} (h : syB xs L ls = true) (e : d1 ++ d2 = ls) :
    syX A (syX A xs L d1) (syL A xs L d1) d2 = syX A xs L ls ∧ syL A (syX A xs L d1) (syL A xs L d1) d2 = syL A xs L ls ∧ syT A xs L d1 ++ syT A (syX A xs L d1) (syL A xs L d1) d2 = syT A xs L ls := by
  have hl : d1.length + d2.length = ls.length := by rw [← e, List.length_append]
  have h' := h
  unfold syB at h'
  rw [Bool.and_eq_true, decide_eq_true_eq] at h'
  have h1 : syB xs L d1 = true := by unfold syB; rw [h'.1, decide_eq_true (by omega)]; rfl
  obtain ⟨b1, b2, b3⟩ := sy_yes (A := A) h1
  have h2 : syB (syX A xs L d1) (syL A xs L d1) d2 = true := by unfold syB; rw [b1, b2, say_desk A xs L h'.1, decide_eq_true (by omega)]; rfl
  obtain ⟨a1, a2, a3⟩ := sy_yes (A := A) h
  obtain ⟨c1, c2, c3⟩ := sy_yes (A := A) h2
  rw [c1, c2, c3, a1, a2, a3, b3, b1, b2, ← e, say_app]
  exact ⟨rfl, rfl, rfl⟩
def allW : List UInt8 := [97, 108, 108]
def companyW : List UInt8 := [99, 111, 109, 112, 97, 110, 121]
def weakW : List UInt8 := [119, 101, 97, 107]
def strongW : List UInt8 := [115, 116, 114, 111, 110, 103]
def summedW : List UInt8 := [115, 117, 109, 109, 101, 100]
def classicalW : List UInt8 := [99, 108, 97, 115, 115, 105, 99, 97, 108]
def atomsW : List UInt8 := [97, 116, 111, 109, 115]
def wholeW : List UInt8 := [119, 104, 111, 108, 101]
def sumW : List UInt8 := [115, 117, 109]
def commonW : List UInt8 := [99, 111, 109, 109, 111, 110]
def leftW : List UInt8 := [108, 101, 102, 116]
def noneW : List UInt8 := [110, 111, 110, 101]
def yesW : List UInt8 := [121, 101, 115]
def noW : List UInt8 := [110, 111]
def ynW (b : Bool) : List UInt8 := if b then yesW else noW
def setsW (xs : List Int) (s : Int) : List UInt8 := if atS xs s xs.length = [] then noneW else joinL (atS xs s xs.length)
def oneW (xs : List Int) (p : Int) (ok : Bool) : List UInt8 := if ok then setL (xs.getD p.toNat 0) else noneW
def plK (xs : List Int) (x : Int) : Nat → Int
  | 0 => -1
  | k + 1 => if plK xs x k < 0 then (if xs.getD k 0 = x then (k : Int) else -1) else plK xs x k
def plI (xs : List Int) (x : Int) : Int := plK xs x xs.length
theorem plK_rng (xs : List Int) (x : Int) (k : Nat) : -1 ≤ plK xs x k ∧ plK xs x k < k := by
  induction k with
  | zero => unfold plK; omega
  | succ k ih =>
    unfold plK
    split
    · split <;> omega
    · omega
theorem plK_none {xs : List Int} {x : Int} {k : Nat} : plK xs x k < 0 ↔ ∀ j, j < k → xs.getD j 0 ≠ x := by
  induction k with
  | zero => exact ⟨fun _ j hj => absurd hj (Nat.not_lt_zero _), fun _ => by unfold plK; omega⟩
  | succ k ih =>
    unfold plK
    constructor
    · intro h j hj
      split at h
      · rename_i h1
        split at h
        · omega
        · rename_i h2
          by_cases e : j = k
          · subst e; exact h2
          · exact ih.1 h1 j (by omega)
      · rename_i h1; exact absurd h h1
    · intro h
      rw [if_pos (ih.2 (fun j hj => h j (by omega))), if_neg (h k (Nat.lt_succ_self _))]
      omega
theorem plK_at {xs : List Int} {x : Int} {k : Nat} (h : ∀ j, j < k → xs.getD j 0 ≠ x) (e : xs.getD k 0 = x) {n : Nat} (hn : k < n) : plK xs x n = k := by
  induction n with
  | zero => omega
  | succ n ih =>
    unfold plK
    by_cases hk : k = n
    · subst hk
      rw [if_pos (plK_none.2 h), if_pos e]
    · have := ih (by omega)
      rw [this, if_neg (by omega)]
theorem plI_at {xs : List Int} {x : Int} {k : Nat} (hk : k < xs.length) (h : ∀ j, j < k → xs.getD j 0 ≠ x) (e : xs.getD k 0 = x) : plI xs x = k := plK_at h e hk
theorem plI_none {xs : List Int} {x : Int} (h : ∀ j, j < xs.length → xs.getD j 0 ≠ x) : plI xs x = -1 := by
  have h1 := plK_none.2 h
  have h2 := (plK_rng xs x xs.length).1
  unfold plI
  omega
theorem plI_lt (xs : List Int) (x : Int) : -1 ≤ plI xs x ∧ plI xs x < xs.length := plK_rng xs x xs.length
theorem plI_bad {xs : List Int} (h : famL xs = true) : plI xs (-1) = -1 := by
  refine plI_none (fun j hj e => ?_)
  have hm : xs.getD j 0 ∈ xs := by
    rw [List.getD_eq_getElem?_getD, List.getElem?_eq_getElem hj]
    exact List.getElem_mem hj
  have := famL_rng h _ hm
  omega
theorem atS_ne {xs : List Int} (h : famL xs = true) (s : Int) {k : Nat} (hk : k ≤ xs.length) : ∀ l ∈ atS xs s k, l ≠ [] ∧ l.length ≤ 4 := by
  induction k with
  | zero => intro l hl; cases hl
  | succ k ih =>
    intro l hl
    unfold atS at hl
    split at hl
    · rcases List.mem_append.1 hl with hl | hl
      · exact ih (by omega) l hl
      · rw [List.mem_singleton] at hl
        subst hl
        have hm : xs.getD k 0 ∈ xs := by
          rw [List.getD_eq_getElem?_getD, List.getElem?_eq_getElem (by omega)]
          exact List.getElem_mem _
        have hr := famL_rng h _ hm
        obtain ⟨y, hy⟩ : ∃ y, xs.getD k 0 = y := ⟨_, rfl⟩
        rw [hy] at hr ⊢
        exact ⟨setL_ne (by unfold okX; simp; omega), setL_len _⟩
    · exact ih (by omega) l hl
def LineD (xs : List Int) (L : List (List Int)) (t : List UInt8) (w : World) (e : Ending) (w' : World) : Prop := ∃ v1 v2, e = .returned (.tuple #[.agg #[v1, v2], .string (bs t)]) ∧ GivesD xs L w w' v1 v2
theorem GivesD.fin {xs : List Int} {L : List (List Int)} {w w5 w6 W : World} {R : Nat} {v1 v2 : Value} (hg : GivesD xs L w5 w6 v1 v2) (hb : Below w.heap.size w w5) (hR : w.heap.size ≤ R) (hl : R < w5.heap.size) (hW : Below w6.heap.size w6 W) :
    GivesD xs L w ((W.setCell ⟨R, 0, none⟩ v1).setCell ⟨R, 1, none⟩ v2) v1 v2 := by
  obtain ⟨rs, hdg, hrs, hb2⟩ := hg
  exact ⟨rs, (((hdg.kept hW).put (p := ⟨R, 0, none⟩) hl).put (p := ⟨R, 1, none⟩) hl).base hb.size, hrs, ((below_onto (below_onto hb hb2) hW).setCell (p := ⟨R, 0, none⟩) hR _).setCell (p := ⟨R, 1, none⟩) hR _⟩
theorem GivesD.drew {xs : List Int} {L : List (List Int)} {w W : World} {v1 v2 : Value} (h : GivesD xs L w W v1 v2) : GivesD xs L w W.drew v1 v2 := by
  obtain ⟨rs, h1, h2, h3⟩ := h
  exact ⟨rs, h1.kept ((Below.refl _ W).drew), h2, h3.drew⟩
theorem retdt {v1 v2 : Value} {s t : ByteArray} (h : s = t) : Ending.returned (.tuple #[.agg #[v1, v2], .string s]) = .returned (.tuple #[.agg #[v1, v2], .string t]) := by rw [h]
theorem either_any (o : Bool) (s t : ByteArray) (w : World) :
    Calls Tryz.prog 55 #[.bool o, .string s, .string t] w fun e w' => e = .returned (.string (if o then s else t)) ∧ w' = w := by
  cases o with
  | true =>
    go_enter Tryz.func55, Tryz.ntmps55
    go_wp2_with fail
    go_ret
    exact ⟨rfl, rfl⟩
  | false =>
    go_enter Tryz.func55, Tryz.ntmps55
    go_wp2_with fail
    go_ret
    exact ⟨rfl, rfl⟩
theorem deed_rng {k x : Int} (h : dOk k x = true) : (0 ≤ k ∧ k ≤ 4) ∧ 0 ≤ x ∧ x ≤ 15 := by rcases dOk_iff.1 h with h | h <;> omega
theorem rdY_I64 (l : List UInt8) : I64 (rdY l) := by
  cases h : rdD l with
  | none => rw [(rdD_no h).2.1]; unfold I64; omega
  | some d =>
    obtain ⟨k, x⟩ := d
    rw [(rdD_is h).2.1]
    have := deed_rng (rdD_some h).1
    unfold I64; omega
theorem ok_if (o : Bool) : (if o then ({ data := #[111, 107] } : ByteArray) else { data := #[110, 111, 116] }) = bs (if o then okW else notW) := by cases o <;> rfl
set_option maxRecDepth 100000 in
theorem DeskLine_deed (d : Value) (xs : List Int) (L : List (List Int)) (s : ByteArray) (hs : s.size ≤ 1048600) (hdk : deskB xs L = true) (hrd : rdDB s.data.toList = true) (w : World) (h : DeskR w d xs L) :
    Calls Tryz.prog 14 #[d, .string s] w (LineD (liX xs L s.data.toList) (liL xs L s.data.toList) (liT (fun _ _ => []) xs L s.data.toList) w) := by
  obtain ⟨f1, f2, f3⟩ := li_deed (A := fun _ _ => []) hdk hrd
  rw [f1, f2, f3]
  have hkx : I64 (rdY s.data.toList) := rdY_I64 _
  obtain ⟨k, hk⟩ : ∃ k, rdK s.data.toList = k := ⟨_, rfl⟩
  obtain ⟨x, hx⟩ : ∃ x, rdY s.data.toList = x := ⟨_, rfl⟩
  rw [hk, hx]
  rw [hx] at hkx
  have hdk2 : okD (dkX xs L k x) (dkL xs L k x) := okD_desk (dk_desk hdk)
  obtain ⟨ok, hok⟩ : ∃ ok, dkB xs L k x = ok := ⟨_, rfl⟩
  obtain ⟨ys, hys⟩ : ∃ ys, dkX xs L k x = ys := ⟨_, rfl⟩
  obtain ⟨M, hM⟩ : ∃ M, dkL xs L k x = M := ⟨_, rfl⟩
  have hoe := ok_if ok
  obtain ⟨tw, htw⟩ : ∃ tw, (if ok then okW else notW) = tw := ⟨_, rfl⟩
  rw [htw] at hoe
  rw [hys, hM] at hdk2
  rw [hys, hM, hok, htw]
  have HOK := Lib.hid hok; have HYS := Lib.hid hys; have HMM := Lib.hid hM; have HKD := Lib.hid hdk2; have HOE := Lib.hid hoe
  clear hdk2 hok hys hM hoe htw
  have hdd := h
  obtain ⟨a, c, b, c2, rfl, _⟩ := h.parts
  have q1 := alloc_below w (.cells #[.slice a xs.length c, .slice b L.length c2] 31)
  have q2 := alloc_below (w.alloc (.cells #[.slice a xs.length c, .slice b L.length c2] 31)) (.cells #[.slice none 0 0, .slice none 0 0] 31)
  have HV := Lib.hid ((VarD.new hdd).kept q2)
  have hbr := Blk2.new (w.alloc (.cells #[.slice a xs.length c, .slice b L.length c2] 31)) 31 (.slice none 0 0) (.slice none 0 0)
  rw [alloc_size] at hbr
  have HBR := Lib.hid hbr
  have HB := Lib.hid (below_onto q1 q2)
  obtain ⟨w2, hw2⟩ : ∃ w2, (w.alloc (.cells #[.slice a xs.length c, .slice b L.length c2] 31)).alloc (.cells #[.slice none 0 0, .slice none 0 0] 31) = w2 := ⟨_, rfl⟩
  rw [hw2] at HV HBR HB
  have hd0 := HV.out.blk.cell.1; have hd1 := HV.out.blk.cell.2
  have HDK := Lib.hid hdk; have HRD := Lib.hid hrd; have HKK := Lib.hid hk; have HXX := Lib.hid hx; have HX := Lib.hid hkx
  clear h hdd q1 q2 hbr hdk hrd hk hx hkx f1 f2 f3
  go_enter Tryz.func14, Tryz.ntmps14
  go_wp2_with fail
  clear hw2
  refine (DeskOk_any _ xs L _ HV.out.d).mono ?_
  rintro e w3 ⟨rfl, hb⟩
  rw [HDK.out]
  replace HV := Lib.hid (HV.out.kept hb); replace HBR := Lib.hid (HBR.out.kept hb HBR.out.lt); replace HB := Lib.hid (below_onto HB.out hb)
  clear hb hd0 hd1
  go_wp2_with fail
  refine (ReadDeed_any s (by omega) _).mono ?_
  rintro e w4 ⟨rfl, hb⟩
  rw [HKK.out, HXX.out, HRD.out]
  have hal := alloc_below w4 (.cells #[.int .i64 k, .int .i64 x] 39)
  have HE := Lib.hid (Blk2.new w4 39 (.int .i64 k) (.int .i64 x))
  replace hb := below_onto hb hal
  replace HV := Lib.hid (HV.out.kept hb); replace HBR := Lib.hid (HBR.out.kept hb HBR.out.lt); replace HB := Lib.hid (below_onto HB.out hb)
  obtain ⟨w5, hw5⟩ : ∃ w5, w4.alloc (.cells #[.int .i64 k, .int .i64 x] 39) = w5 := ⟨_, rfl⟩
  obtain ⟨E, hE⟩ : ∃ E, w4.heap.size = E := ⟨_, rfl⟩
  rw [hw5] at HV HBR HB HE
  rw [hE] at HE
  clear hb hal
  have hd0 := HV.out.blk.cell.1; have hd1 := HV.out.blk.cell.2; have he0 := HE.out.cell.1; have he1 := HE.out.cell.2
  go_wp2_with fail
  clear hw5 hE
  have HLT := Lib.hid (show w.heap.size + 1 < w5.heap.size from HBR.out.lt)
  refine (DeskDo_any _ xs L k x HX.out _ HV.out.d).mono ?_
  rintro e w6 ⟨v1, v2, rfl, hg⟩
  rw [HOK.out]
  rw [HYS.out, HMM.out] at hg
  obtain ⟨p1, e1, p2, e2, rfl, rfl, hd, _⟩ := HKD.out.gives hg
  have HG := Lib.hid hg
  have hal := alloc_below w6 (.cells #[.slice p1 ys.length e1, .slice p2 M.length e2] 31)
  have HA := Lib.hid (Blk2.new w6 31 (.slice p1 ys.length e1) (.slice p2 M.length e2))
  have HAL := Lib.hid hal
  replace HBR := Lib.hid (HBR.out.kept (below_onto hg.below hal) HBR.out.lt)
  have HSZ := Lib.hid (show w.heap.size + 1 < w5.heap.size ∧ w5.heap.size ≤ w6.heap.size from ⟨HLT.out, hg.below.size⟩)
  obtain ⟨w7, hw7⟩ : ∃ w7, w6.alloc (.cells #[.slice p1 ys.length e1, .slice p2 M.length e2] 31) = w7 := ⟨_, rfl⟩
  obtain ⟨A, hA⟩ : ∃ A, w6.heap.size = A := ⟨_, rfl⟩
  rw [hw7] at HA HAL HBR
  rw [hA] at HA
  have hn1 : ¬ A = w.heap.size + 1 := by have := HSZ.out; omega
  have HN1 := Lib.hid hn1
  have hR0 := HBR.out.cell.1; have hR1 := HBR.out.cell.2; have hR2 := HBR.out.frozen 0; have hR3 := HBR.out.frozen 1
  have HKS := Lib.hid (show ∀ W : World, W.heap[A]? = w7.heap[A]? → (W.cell? ⟨A, 0, none⟩ = some (.slice p1 ys.length e1) ∧ W.cell? ⟨A, 1, none⟩ = some (.slice p2 M.length e2)) from fun W hW => Blk2.cell (show Blk2 W A 31 _ _ from hW.trans HA.out))
  clear hg hd hal hd0 hd1 he0 he1
  go_upto_region 7 with fail
  clear hw7 hA
  go_region_held3 (fun W => W.cell? ⟨A, 0, none⟩ = some (.slice p1 ys.length e1) ∧ W.cell? ⟨A, 1, none⟩ = some (.slice p2 M.length e2))
    (first | exact HKS.out _ rfl | exact HKS.out _ ((set_blk HN1.out).trans (set_blk HN1.out)) | go_keep)
    (first | (go_at_call 55; refine (either_any ok _ _ _).mono ?_; rintro e w8 ⟨rfl, rfl⟩; rw [HOE.out]))
  all_goals
    go_wp2_with fail
    refine bodyPost_ret (results_desk rfl _ _ (w.heap.size + 1) ((HBR.out.set0 _).set1 _) rfl rfl (by kernel_rfl)) rfl ?_
    refine ⟨_, _, rfl, ?_⟩
    first
      | exact HG.out.fin HB.out (Nat.le_succ _) HSZ.out.1 HAL.out
      | exact (HG.out.fin HB.out (Nat.le_succ _) HSZ.out.1 HAL.out).drew
end Go.Proofs.YthaickihoagnmaaGreatDoor
namespace Go.Proofs.YthaickihoagnmaaGreatDoor
open Go.RowKit
def TabW (w : World) : Prop := TabAt 2 Lib.deBruijn64tab w
theorem TabW.below {w w' : World} (h : TabW w) (hb : Below w.heap.size w w') : TabW w' := fun j hj =>
  (hb.cell (p := ⟨2, j, none⟩) (World.block_lt_of_cell? w _ (h j hj))).trans (h j hj)
theorem tz64_core (x k idx : Nat) (w : World) (hx0 : ((x : Int) == 0) = false)
    (key : IntKind.u64.wrap (bits BinOp.and IntKind.u64 (x : Int) (IntKind.u64.wrap (-(x : Int))) * 285870213051353865) / 288230376151711744 = (idx : Int))
    (hi : idx < 64) (hk : k < 64) (hcell : w.cell? ⟨2, idx, none⟩ = some (.int .u8 k)) :
    Calls Tryz.prog 258 #[.int .u64 x] w fun e w' => e = .returned (.int .i64 k) ∧ w = w' := by
  go_enter Tryz.func258, Tryz.ntmps258
  go_wp2_with (simp only [key])
  go_ret
  exact ⟨rfl, rfl⟩
def lowOk (X : Nat) : Bool := X == 0 || (X.testBit (Lib.ctz 64 X) && (List.range (Lib.ctz 64 X)).all (fun i => !X.testBit i) && decide (Lib.ctz 64 X < 7))
theorem lowOk_all : (List.range 128).all lowOk = true := by kernel_rfl
theorem ctz_at {X k : Nat} (hX : X < 128) (hk : X.testBit k = true) (hl : ∀ i, i < k → X.testBit i = false) : Lib.ctz 64 X = k ∧ k < 7 := by
  have h0 : X ≠ 0 := by intro e; subst e; simp at hk
  have h := lowOk_all
  rw [List.all_eq_true] at h
  have h2 := h X (List.mem_range.2 hX)
  unfold lowOk at h2
  rw [Bool.or_eq_true, Bool.and_eq_true, Bool.and_eq_true, decide_eq_true_eq, List.all_eq_true] at h2
  rcases h2 with h2 | ⟨⟨h3, h4⟩, h5⟩
  · exact absurd (beq_iff_eq.1 h2) h0
  · rcases Nat.lt_trichotomy (Lib.ctz 64 X) k with h6 | h6 | h6
    · rw [hl _ h6] at h3; cases h3
    · omega
    · have := h4 k (List.mem_range.2 h6); rw [hk] at this; cases this
theorem tz64_any (x : Nat) (h0 : x ≠ 0) (hx : x < 128) (w : World) (hT : TabW w) :
    Calls Tryz.prog 258 #[.int .u64 x] w fun e w' => e = .returned (.int .i64 (Lib.ctz 64 x)) ∧ w = w' := by
  have hx' : x < 18446744073709551616 := by omega
  obtain ⟨hlow, hk⟩ := Lib.lowest_bit 64 x h0 hx'
  obtain ⟨hi, htab⟩ := Lib.deBruijn64_at _ hk
  have hcell := hT _ hi
  rw [htab] at hcell
  exact tz64_core x _ _ w (by rw [beq_eq_false_iff_ne]; omega) (tz64_key x _ hx' h0 hlow) hi hk hcell
theorem tz_any (x : Nat) (h0 : x ≠ 0) (hx : x < 128) (w : World) (hT : TabW w) :
    Calls Tryz.prog 252 #[.int .u64 x] w fun e w' => e = .returned (.int .i64 (Lib.ctz 64 x)) ∧ w = w' := by
  have HT := Lib.hid hT; clear hT
  go_enter Tryz.func252, Tryz.ntmps252
  go_wp2_with fail
  refine (tz64_any x h0 hx _ HT.out).mono ?_
  rintro e w' ⟨rfl, rfl⟩
  go_wp2_with fail
  go_ret
  exact ⟨rfl, rfl⟩
def firstI (x : Int) : Int := if x = 0 then -1 else (Lib.ctz 64 x.toNat : Nat)
theorem first_any (x : Nat) (hx : x < 128) (w : World) (hT : TabW w) :
    Calls Tryz.prog 238 #[.int .i64 x] w fun e w' => e = .returned (.tuple #[.int .i64 (firstI x), .bool ((x : Int) != 0)]) ∧ w = w' := by
  have HT := Lib.hid hT; clear hT
  by_cases h0 : x = 0
  · subst h0
    go_enter Tryz.func238, Tryz.ntmps238
    go_wp2_with fail
    go_ret2
    exact ⟨rfl, rfl⟩
  · have hx0 : ((x : Int) == 0) = false := by rw [beq_eq_false_iff_ne]; omega
    have HF := Lib.hid (show firstI x = (Lib.ctz 64 x : Nat) by unfold firstI; rw [if_neg (by omega)]; rfl)
    have HB := Lib.hid (show ((x : Int) != 0) = true by rw [bne, hx0]; rfl)
    go_enter Tryz.func238, Tryz.ntmps238
    go_wp2_with fail
    refine (tz_any x h0 hx _ HT.out).mono ?_
    rintro e w' ⟨rfl, rfl⟩
    go_wp2_with fail
    go_ret2
    exact ⟨by rw [HF.out, HB.out]; rfl, rfl⟩
end Go.Proofs.YthaickihoagnmaaGreatDoor
