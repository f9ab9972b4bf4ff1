import Derived.Test.YthaickihoagnmaaGreatDoorTxAC
import Derived.Test.YthaickihoagnmaaGreatDoorDkFive
import Derived.Test.YthaickihoagnmaaGreatDoorOwnH
namespace Go.Proofs.YthaickihoagnmaaGreatDoor
set_option linter.unusedVariables false
set_option linter.unusedSimpArgs false
open Go.RowKit Go.Maps

/-- the row of a family that is drawn is one that the reader does not write -/
theorem OwnI.lst {w' : World} {B rb m : Nat} {v : Value} (h : OwnI w' B v m) (hm : m ≤ 8) (hrb : rb < B) : ∃ a cap, v = .slice a m cap ∧ LstR w' rb a m := by
  obtain ⟨a, cap, rfl⟩ := h.slice
  refine ⟨a, cap, rfl, by omega, ?_⟩
  by_cases h0 : m = 0
  · exact .inl h0
  · obtain ⟨g, cp, f, hv, hBg, hgl, _, _, hrow, h64, _⟩ := h.shape (by omega)
    injection hv with hv1 hv2 hv3
    subst hv1
    exact .inr ⟨g, f, rfl, hgl, by omega, hrow, h64⟩


end Go.Proofs.YthaickihoagnmaaGreatDoor

namespace Go.Proofs.YthaickihoagnmaaGreatDoor
set_option linter.unusedVariables false
set_option linter.unusedSimpArgs false
open Go.RowKit Go.Maps

theorem blk2_dr3 {w : World} {B : Nat} {t : TypeId} {x y : Value} (h : Blk2 w B t x y) : Blk2 w.drew B t x y := h
theorem alloc_lt3 (w : World) (o : Obj) : w.heap.size < (w.alloc o).heap.size := by rw [alloc_size]; exact Nat.lt_succ_self _
theorem blk2_new_al3 {w w' : World} {t : TypeId} {x y : Value} (h : Below (w.alloc (.cells #[x, y] t)).heap.size (w.alloc (.cells #[x, y] t)) w') : Blk2 w' w.heap.size t x y := (Blk2.new w t x y).kept h (alloc_lt3 w _)
theorem blk2_new_dr3 {w w' : World} {t : TypeId} {x y : Value} (h : Below (w.alloc (.cells #[x, y] t)).drew.heap.size (w.alloc (.cells #[x, y] t)).drew w') : Blk2 w' w.heap.size t x y := (blk2_dr3 (Blk2.new w t x y)).kept h (alloc_lt3 w _)
theorem oneDesk_givesP {w w' : World} {v : Value} {xs : List Int} (h : OwnX w' w.heap.size 3 v xs) (hb : Below w.heap.size w w') : GivesP xs [] w w' v (.slice none 0 0) :=
  ⟨[], ⟨h, Fams.none _ _ _, fun g _ hf => by
    rcases hf with hf | ⟨r, hr, _⟩
    · simp [Value.ownBlock] at hf
    · cases hr⟩, rfl, hb, fun _ => FamsO.nil _ _⟩
def NewP (xs : List Int) (w : World) (e : Ending) (w' : World) : Prop :=
  ∃ v1 v2, e = .returned (.tuple #[.agg #[v1, v2], .bool (famL xs)]) ∧ GivesP (if famL xs then xs else []) [] w w' v1 v2
set_option maxRecDepth 100000 in
set_option maxHeartbeats 1600000 in
theorem specDeskNewP_any (a : Option Addr) (xs : List Int) (c : Nat) (w : World) (hi : Ints w a xs.length (fun j => xs.getD j 0)) :
    Calls Tryz.prog 108 #[.slice a xs.length c] w (NewP xs w) := by
  obtain ⟨i0, hii, hz0, hz1, hz2⟩ := info_parts Tryz.infoInt
  have hal := alloc_below w (.cells #[.slice none 0 0, .slice none 0 0] 31)
  have hblk := Blk2.new w 31 (.slice none 0 0) (.slice none 0 0)
  have HI := Lib.hid (hi.below hal (Nat.le_refl _))
  have HAL := Lib.hid hal; have HBL := Lib.hid hblk; have HLT := Lib.hid hblk.lt
  clear hi hal hblk
  cases hf : famL xs with
  | false =>
    have HF := Lib.hid hf; clear hf
    go_enter Tryz.func108, Tryz.ntmps108
    go_wp2_with fail
    refine (specFamilyOk_val a xs.length c (fun j => xs.getD j 0) false _ HF.out HI.out).mono ?_
    rintro e w1 ⟨rfl, hd⟩
    have hb := hd.below
    have HB := Lib.hid (below_onto HAL.out hb)
    have HB1 := Lib.hid (HBL.out.kept hb HLT.out)
    clear hb hd
    have hc0 := HB1.out.cell.1; have hc1 := HB1.out.cell.2; have hg0 := HB1.out.frozen 0; have hg1 := HB1.out.frozen 1
    go_wp2_with fail
    refine bodyPost_ret (results_desk rfl _ _ w.heap.size ((HB1.out.set0 (.slice none 0 0)).set1 (.slice none 0 0)) rfl rfl (by kernel_rfl)) rfl ?_
    unfold NewP
    rw [HF.out]
    exact ⟨_, _, rfl, noDesk_givesP ((HB.out.setCell (Nat.le_refl _) _).setCell (Nat.le_refl _) _)⟩
  | true =>
    have HF := Lib.hid hf
    have hlen := famL_len hf
    clear hf
    obtain ⟨b, o, rfl, hbl, hrow⟩ := HI.out.row hlen.1
    have HRW := Lib.hid hrow; have HLB := Lib.hid hbl
    clear hrow hbl
    go_enter Tryz.func108, Tryz.ntmps108
    go_wp2_with fail
    refine (specFamilyOk_val _ xs.length c (fun j => xs.getD j 0) true _ HF.out HI.out).mono ?_
    rintro e w1 ⟨rfl, hd⟩
    have hb := hd.below
    have HB := Lib.hid (below_onto HAL.out hb)
    have HB1 := Lib.hid (HBL.out.kept hb HLT.out)
    have hr1 := HRW.out.below hb HLB.out
    have hl1 : b < w1.heap.size := Nat.lt_of_lt_of_le HLB.out hb.size
    have hmade : OwnX (w1.alloc (.cells #[] 3)) w1.heap.size 3 (.slice (some ⟨w1.heap.size, 0, none⟩) 0 0) [] := OwnX.made w1 _ (Nat.le_refl _) _
    have HO : Hid ((w1.alloc (.cells #[] 3)).ownsRow w1.heap.size 3 1 (.slice (some ⟨w1.heap.size, 0, none⟩) 0 0) 0 []) := Lib.hid hmade
    have k1 := Lib.hid (rowV_cells (hr1.below (alloc_below w1 (.cells #[] 3)) hl1))
    have k2 := Lib.hid (rowV_one (fun j => xs.getD j 0) xs.length)
    have k3 : Hid (0 + xs.length ≤ maxLen) := Lib.hid (by unfold maxLen; omega)
    have k4 : Hid ((0 + xs.length) * 8 ≤ 140737488355328) := Lib.hid (by omega)
    have k5 : Hid (w1.heap.size ≤ (w1.alloc (.cells #[] 3)).heap.size) := Lib.hid (by rw [alloc_size]; omega)
    have k6 : Hid ((rowV (fun j => xs.getD j 0) xs.length).length = xs.length * 1) := Lib.hid (by rw [rowV_len]; omega)
    have HAB := Lib.hid (alloc_below w1 (.cells #[] 3))
    clear hb hd hr1 hl1 hmade
    go_wp2_with (at_builtin; refine wpList_append_own _ rfl (.tmp 8) (.tmp 9) 28 rfl w1.heap.size 3 i0 (.int .i64 0) 1 8 Tryz.underlying28 hii hz0 hz1 hz2 rfl (by decide) _ _ _ rfl HO.out ⟨b, o, none⟩ xs.length c (rowV (fun j => xs.getD j 0) xs.length) rfl k6.out k1.out k2.out k3.out k4.out k5.out ?_)
    intro v8 w8 hown8 hgrow8 _
    have hb : Below w1.heap.size w1 w8 := HAB.out.trans ((Below.refl w1.heap.size _).grown hgrow8 k5.out (fun q hq => (HO.out.lt q hq).1))
    have hown := OwnX.rowV hown8
    rw [famL_get2] at hown
    obtain ⟨va, vc, rfl⟩ := hown.slice
    have HB2 := Lib.hid (HB1.out.kept hb HB1.out.lt)
    have HBB := Lib.hid (HB.out.trans (hb.mono HB.out.size))
    have HOW := Lib.hid ((hown.other (w' := (w8.setCell ⟨w.heap.size, 0, none⟩ (.slice va xs.length vc)).setCell ⟨w.heap.size, 1, none⟩ (.slice none 0 0)) (fun g _ hBg _ => by
      have hne : g ≠ w.heap.size := by have := HB1.out.lt; omega
      exact (Below.heap_setCell _ ⟨w.heap.size, 1, none⟩ _ g hne).trans (Below.heap_setCell _ ⟨w.heap.size, 0, none⟩ _ g hne))).base HB.out.size)
    clear hown hb hown8 hgrow8 k1 k2 k3 k4 k5 k6 HO HAB
    have hc0 := HB2.out.cell.1; have hc1 := HB2.out.cell.2; have hg0 := HB2.out.frozen 0; have hg1 := HB2.out.frozen 1
    go_wp2_with fail
    refine bodyPost_ret (results_desk rfl _ _ w.heap.size ((HB2.out.set0 (.slice va xs.length vc)).set1 (.slice none 0 0)) rfl rfl (by kernel_rfl)) rfl ?_
    unfold NewP
    rw [HF.out]
    exact ⟨_, _, rfl, oneDesk_givesP HOW.out ((HBB.out.setCell (Nat.le_refl _) _).setCell (Nat.le_refl _) _)⟩

theorem dkL_len (xs : List Int) (L : List (List Int)) (k x : Int) : (dkL xs L k x).length ≤ L.length + 1 := by
  unfold dkL
  split
  · split
    · rw [List.length_dropLast]; omega
    · rw [List.length_drop, List.length_append, List.length_singleton]; omega
  · split
    · omega
    · simp
theorem FamsO.only {w w' : World} {B rb : Nat} {v : Value} {rs : List Fr} (h : FamsO w B v rs) (ho : Only rb w w') (hrb : rb < B) : FamsO w' B v rs :=
  h.same (fun g hg => ho.block g (h.fams.ltB g hg).2 (by have := (h.fams.ltB g hg).1; omega))
theorem DeskG.only {w w' : World} {B rb : Nat} {v1 v2 : Value} {xs : List Int} {rs : List Fr} (h : DeskG w B v1 v2 xs rs) (ho : Only rb w w') (hrb : rb < B) : DeskG w' B v1 v2 xs rs :=
  h.upon (Upon.of_only ho) (fun q hq e => by have := (h.ltB q hq).1; have e : q = rb := e; omega)
theorem DeskV.only {w w' : World} {B T b rb : Nat} {v1 v2 : Value} {xs : List Int} {rs : List Fr} (h : DeskV w B T b v1 v2 xs rs) (ho : Only rb w w') (hrb : rb < B) : DeskV w' B T b v1 v2 xs rs :=
  ⟨h.blk.only ho (by have := h.lo; omega), h.g.only ho hrb, h.ne, h.lo, h.hi⟩

/-- a desk that is drawn is small -/
def okD9 (ys : List Int) (M : List (List Int)) : Prop := (ys.length ≤ 8 ∧ I64s ys) ∧ M.length ≤ 9 ∧ ∀ l ∈ M, l.length ≤ 8 ∧ I64s l
theorem okD.nine {ys : List Int} {M : List (List Int)} (h : okD ys M) : okD9 ys M := ⟨⟨by have := h.1.1; omega, h.1.2⟩, by have := h.2.1; omega, fun l hl => ⟨by have := (h.2.2 l hl).1; omega, (h.2.2 l hl).2⟩⟩
theorem okD9.read {W : World} {B : Nat} {v1 v2 : Value} {ys : List Int} {M : List (List Int)} {rs : List Fr} (hk : okD9 ys M) (h : DeskG W B v1 v2 ys rs) (hM : rs.map Fr.xs = M) : DeskR W (.agg #[v1, v2]) ys M := by
  obtain ⟨⟨h1, h2⟩, h3, h4⟩ := hk
  rw [← hM]
  exact h.read ⟨by omega, h2⟩ (fun r hr => by have := h4 r.xs (by rw [← hM]; exact List.mem_map.2 ⟨r, hr, rfl⟩); exact ⟨by omega, this.2⟩)
/-- a desk is drawn -/
def DeskDrawn (rb P : Nat) (w : World) (e : Ending) (w' : World) : Prop :=
  ∃ v1 v2 xs rs, e = .returned (.agg #[v1, v2]) ∧ DeskG w' w.heap.size v1 v2 xs rs ∧ okD9 xs (rs.map Fr.xs) ∧ Only rb w w' ∧ Rdr w' rb (P + 1100)
/-- what a round of the drawing asks for, laid into a variable -/
def CutD (rb P j : Nat) (w : World) (s1 s2 : Value) (wx : World) : Prop :=
  ∃ b T v1 v2 xs rs ok, s1 = .pointer (some ⟨b, 0, none⟩) ∧ s2 = .bool ok ∧ DeskV wx w.heap.size T b v1 v2 xs rs ∧ FamsO wx w.heap.size v2 rs ∧ okD xs (rs.map Fr.xs) ∧ rs.length ≤ j ∧ T ≤ wx.heap.size ∧ Only rb w wx ∧ Rdr wx rb P
/-- the state of the drawing -/
structure DrS (rb P : Nat) (w : World) (B A j : Nat) (v1 v2 : Value) (xs : List Int) (rs : List Fr) (wr : World) : Prop where
  blk : Blk2 wr A 31 v1 v2
  r : Blk2 wr w.heap.size 31 (.slice none 0 0) (.slice none 0 0)
  g : DeskG wr B v1 v2 xs rs
  own : FamsO wr B v2 rs
  ok : okD xs (rs.map Fr.xs)
  len : rs.length ≤ j
  ne : ¬ DkBl v1 v2 rs A
  lo : w.heap.size < B ∧ B ≤ A
  on : Only rb w wr
  rd : Rdr wr rb (P + 1001 + 10 * j)
theorem DrS.slices {rb P B A j : Nat} {w wr : World} {v1 v2 : Value} {xs : List Int} {rs : List Fr} (h : DrS rb P w B A j v1 v2 xs rs wr) : (∃ a c, v1 = .slice a xs.length c) ∧ ∃ a c, v2 = .slice a rs.length c := by
  refine ⟨h.g.now.slice, ?_⟩
  have := h.g.past.seq.slice
  rw [List.length_map] at this
  exact this
theorem DrS.lst {rb P B A j : Nat} {w wr : World} {v1 v2 : Value} {xs : List Int} {rs : List Fr} (h : DrS rb P w B A j v1 v2 xs rs wr) (hrb : rb < w.heap.size) : ∃ a c, v1 = .slice a xs.length c ∧ LstR wr rb a xs.length := by
  have hlo := h.lo
  have ho : OwnI wr B v1 xs.length := ⟨xs, rfl, h.ok.1.2, h.g.now⟩
  exact ho.lst (by have := h.ok.1.1; omega) (by omega)
/-- the new desk is laid into the variable -/
theorem DrS.put {rb P B A j T b : Nat} {w wr wx : World} {v1 v2 v3 v4 : Value} {xs ys : List Int} {rs rs' : List Fr} (h : DrS rb P w B A j v1 v2 xs rs wr) (hrb : rb < w.heap.size) (hv : DeskV wx wr.heap.size T b v3 v4 ys rs') (ho : FamsO wx wr.heap.size v4 rs') (hk : okD ys (rs'.map Fr.xs)) (hl : rs'.length ≤ j + 1) (hon : Only rb wr wx) (hr : Rdr wx rb (P + 1001 + 10 * (j + 1))) :
    DrS rb P w B A (j + 1) v3 v4 ys rs' ((wx.setCell ⟨A, 0, none⟩ v3).setCell ⟨A, 1, none⟩ v4) := by
  have hlo := h.lo
  have hA := h.blk.lt
  have hz := hon.size
  have hBw : B ≤ wr.heap.size := by omega
  exact ⟨((h.blk.only hon (by omega)).set0 v3).set1 v4, ((h.r.only hon (by omega)).other (by omega) 0 v3).other (by omega) 1 v4, ((hv.g.put (p := ⟨A, 0, none⟩) hA).put (p := ⟨A, 1, none⟩) hA).base hBw, ((ho.put (p := ⟨A, 0, none⟩) hA).put (p := ⟨A, 1, none⟩) hA).base hBw, hk, hl,
    fun e => by have := (hv.g.ltB _ e).1; omega, h.lo, ((h.on.trans hon).fresh (g := A) (by omega) 0 v3).fresh (g := A) (by omega) 1 v4,
    hr.belowB (((Below.refl A wx).setCell (p := ⟨A, 0, none⟩) (Nat.le_refl _) v3).setCell (p := ⟨A, 1, none⟩) (Nat.le_refl _) v4) (by omega)⟩
/-- the old desk stays -/
theorem DrS.keep {rb P B A j : Nat} {w wr wx : World} {v1 v2 : Value} {xs : List Int} {rs : List Fr} (h : DrS rb P w B A j v1 v2 xs rs wr) (hrb : rb < w.heap.size) (hon : Only rb wr wx) (hr : Rdr wx rb (P + 1001 + 10 * (j + 1))) :
    DrS rb P w B A (j + 1) v1 v2 xs rs wx := by
  have hlo := h.lo
  exact ⟨h.blk.only hon (by omega), h.r.only hon (by omega), h.g.only hon (by omega), h.own.only hon (by omega), h.ok, by have := h.len; omega, h.ne, h.lo, h.on.trans hon, hr⟩
end Go.Proofs.YthaickihoagnmaaGreatDoor

namespace Go.Proofs.YthaickihoagnmaaGreatDoor
set_option linter.unusedVariables false
set_option linter.unusedSimpArgs false
open Go.RowKit Go.Maps

theorem only_dr {rb : Nat} {w w' : World} (h : Only rb w w') : Only rb w w'.drew := ⟨h.os, h.tape, h.output, h.size, h.block⟩
theorem rdr_dr {w : World} {rb P : Nat} (h : Rdr w rb P) : Rdr w.drew rb P := h
theorem lst_dr {w : World} {rb m : Nat} {a : Option Addr} (h : LstR w rb a m) : LstR w.drew rb a m := h
theorem lst_al {w : World} {rb m : Nat} {a : Option Addr} (h : LstR w rb a m) (o : Obj) : LstR (w.alloc o) rb a m := h.only ((Only.refl rb w).alloc o)
theorem blk2_new_only {w w' : World} {rb : Nat} {t : TypeId} {x y : Value} (h : Only rb (w.alloc (.cells #[x, y] t)).drew w') (hrb : rb < w.heap.size) : Blk2 w' w.heap.size t x y := (blk2_dr3 (Blk2.new w t x y)).only h (by omega)
theorem only_belowB {rb B : Nat} {w w1 w2 : World} (h : Only rb w w1) (k : Below B w1 w2) (hB : w.heap.size ≤ B) : Only rb w w2 :=
  ⟨k.os.trans h.os, k.tape.trans h.tape, k.output.trans h.output, Nat.le_trans h.size k.size, fun i hi hn => (k.block i (by omega)).trans (h.block i hi hn)⟩
theorem DrS.read {rb P P' B A j : Nat} {w wr wx : World} {v1 v2 : Value} {xs : List Int} {rs : List Fr} (h : DrS rb P w B A j v1 v2 xs rs wr) (hrb : rb < w.heap.size) (hon : Only rb wr wx) (hr : Rdr wx rb (P' + 1001 + 10 * j)) :
    DrS rb P' w B A j v1 v2 xs rs wx := by
  have hlo := h.lo
  exact ⟨h.blk.only hon (by omega), h.r.only hon (by omega), h.g.only hon (by omega), h.own.only hon (by omega), h.ok, h.len, h.ne, h.lo, h.on.trans hon, hr⟩
theorem GivesP.all {ys : List Int} {M : List (List Int)} {w w9 : World} {v1 v2 : Value} {j : Nat} (h : GivesP ys M w w9 v1 v2) (hk : okD ys M) (hl : M.length ≤ j) (hj : j < 8) :
    ∃ rs, DeskG w9 w.heap.size v1 v2 ys rs ∧ FamsO w9 w.heap.size v2 rs ∧ okD ys (rs.map Fr.xs) ∧ rs.length ≤ j := by
  obtain ⟨rs, hg, hrs, hb, ho⟩ := h
  subst hrs
  exact ⟨rs, hg, ho (by omega), hk, by rw [List.length_map] at hl; exact hl⟩
theorem cutD_last {rb Q j : Nat} {w w8 w9 : World} {v1 v2 : Value} {ys : List Int} {M : List (List Int)} {ok : Bool} (h : GivesP ys M w8 w9 v1 v2) (hk : okD ys M) (hl : M.length ≤ j) (hj : j < 8) (hon : Only rb w w9) (hr : Rdr w9 rb Q) (hs : w.heap.size ≤ w8.heap.size) :
    CutD rb Q j w (.pointer (some ⟨w9.heap.size, 0, none⟩)) (.bool ok) (w9.alloc (.cells #[v1, v2] 31)) := by
  obtain ⟨rs, hg, ho, hk', hl'⟩ := h.all hk hl hj
  have hal := alloc_below w9 (.cells #[v1, v2] 31)
  have hsz := alloc_size w9 (.cells #[v1, v2] 31)
  exact ⟨_, w9.heap.size + 1, _, _, ys, rs, ok, rfl, rfl, ⟨Blk2.new _ _ _ _, (hg.kept hal).base hs, fun e => by have := (hg.ltB _ e).2; omega, hon.size, Nat.lt_succ_self _, fun q hq => by have := (hg.ltB q hq).2; omega⟩, (ho.kept hal).base hs, hk', hl', by omega, hon.alloc _, hr.al _⟩
theorem cutD_set {rb Q j b : Nat} {w w8 w9 : World} {v1 v2 : Value} {ys : List Int} {M : List (List Int)} {ok : Bool} (h : GivesP ys M w8 w9 v1 v2) (hk : okD ys M) (hl : M.length ≤ j) (hj : j < 8) (hon : Only rb w w9) (hr : Rdr w9 rb Q) (hrb : rb < w.heap.size) (hz : Blk2 w9 b 31 (.slice none 0 0) (.slice none 0 0)) (hbl : b < w8.heap.size) (hwb : w.heap.size ≤ b) :
    CutD rb Q j w (.pointer (some ⟨b, 0, none⟩)) (.bool ok) ((w9.setCell ⟨b, 0, none⟩ v1).setCell ⟨b, 1, none⟩ v2) := by
  obtain ⟨rs, hg, ho, hk', hl'⟩ := h.all hk hl hj
  have hsz : ((w9.setCell ⟨b, 0, none⟩ v1).setCell ⟨b, 1, none⟩ v2).heap.size = w9.heap.size := by simp [World.setCell]
  exact ⟨b, w9.heap.size, _, _, ys, rs, ok, rfl, rfl, ⟨(hz.set0 v1).set1 v2, ((hg.put (p := ⟨b, 0, none⟩) hbl).put (p := ⟨b, 1, none⟩) hbl).base (by omega), fun e => by have := (hg.ltB _ e).1; omega, hwb, hz.lt, fun q hq => (hg.ltB q hq).2⟩,
    ((ho.put (p := ⟨b, 0, none⟩) hbl).put (p := ⟨b, 1, none⟩) hbl).base (by omega), hk', hl', by omega, (hon.fresh hwb 0 v1).fresh hwb 1 v2, hr.belowB (((Below.refl w.heap.size w9).setCell (p := ⟨b, 0, none⟩) hwb v1).setCell (p := ⟨b, 1, none⟩) hwb v2) hrb⟩
/-- the desk is handed back -/
theorem drawn_end {rb P B : Nat} {w wz : World} {v1 v2 : Value} {xs : List Int} {rs : List Fr} (hg : DeskG wz B v1 v2 xs rs) (hlo : w.heap.size < B) (hk : okD9 xs (rs.map Fr.xs)) (hon : Only rb w wz) (hr : Rdr wz rb (P + 1100)) (hrb : rb < w.heap.size) :
    DeskDrawn rb P w (.returned (.agg #[v1, v2])) ((wz.setCell ⟨w.heap.size, 0, none⟩ v1).setCell ⟨w.heap.size, 1, none⟩ v2) :=
  ⟨v1, v2, xs, rs, rfl, ((hg.put (p := ⟨w.heap.size, 0, none⟩) hlo).put (p := ⟨w.heap.size, 1, none⟩) hlo).base (Nat.le_of_lt hlo), hk, (hon.fresh (Nat.le_refl _) 0 v1).fresh (Nat.le_refl _) 1 v2,
    hr.belowB (((Below.refl w.heap.size wz).setCell (p := ⟨w.heap.size, 0, none⟩) (Nat.le_refl _) v1).setCell (p := ⟨w.heap.size, 1, none⟩) (Nat.le_refl _) v2) hrb⟩
theorem zero_row (w : World) (B : Nat) (hB : B ≤ w.heap.size) : OwnX (w.alloc (.cells #[.int .i64 0] 3)) B 3 (.slice (some ⟨w.heap.size, 0, none⟩) 1 1) [0] :=
  ⟨rfl, .inr ⟨w.heap.size, 1, _, rfl, hB, heap_alloc_new w _, Nat.le_refl _, by unfold maxLen; omega, rfl, rfl⟩⟩

theorem DeskG.at {w : World} {B : Nat} {v1 v2 u : Value} {xs : List Int} {rs : List Fr} {p : Addr} (h : DeskG w B v1 v2 xs rs) (hp : ¬ DkBl v1 v2 rs p.block) : DeskG (w.setCell p u) B v1 v2 xs rs :=
  ⟨h.now.other (fun g hg _ _ => set_blk (fun e => hp (.inl (by rw [← e]; exact hg)))), h.past.same (by rw [show (w.setCell p u).heap.size = w.heap.size by simp [World.setCell]]; exact Nat.le_refl _) (fun g hg => set_blk (fun e => hp (.inr (by rw [← e]; exact hg)))), h.sep⟩
/-- the desk whose family has a zero -/
theorem DrS.zero {rb P B A j : Nat} {w wr : World} {v1 v2 : Value} {xs : List Int} {rs : List Fr} (h : DrS rb P w B A j v1 v2 xs rs wr) :
    DeskG (wr.alloc (.cells #[.int .i64 0] 3)) B (.slice (some ⟨wr.heap.size, 0, none⟩) 1 1) v2 [0] rs := by
  have h1 := h.blk.lt; have h2 := h.lo
  refine ⟨zero_row wr B (by omega), (h.g.kept (alloc_below wr _)).past, fun g hg hf => ?_⟩
  injection hg with hg
  have hg : wr.heap.size = g := hg
  have := (h.g.past.ltB g hf).2
  omega
/-- a family is appended to the families of before -/
theorem DeskG.snoc {w w' : World} {B g c : Nat} {v1 v2 : Value} {xs : List Int} {rs : List Fr} {y : Fr} (h : DeskG w B v1 v2 xs rs) (hf : FamsO w' B (.slice (some ⟨g, 0, none⟩) (rs.length + 1) c) (rs ++ [y])) (hu : Upon (fun q => v2.ownBlock = some q) w w') (hg : v2.ownBlock = some g ∨ g = w.heap.size + 1) (hy : v1.ownBlock ≠ some y.g) :
    DeskG w' B v1 (.slice (some ⟨g, 0, none⟩) (rs.length + 1) c) xs (rs ++ [y]) := by
  refine ⟨hu.ownX h.now (fun q hq e => h.sep q hq (.inl e)), hf.fams, fun q hq hb => ?_⟩
  rcases hb with hb | ⟨r, hr, e⟩
  · injection hb with hb
    have hb : g = q := hb
    rcases hg with hg | hg
    · exact h.sep q hq (.inl (by rw [← hb]; exact hg))
    · have := (h.now.lt hq).2; omega
  · rcases List.mem_append.1 hr with hr | hr
    · exact h.sep q hq (.inr ⟨r, hr, e⟩)
    · rw [List.mem_singleton] at hr
      subst hr
      exact hy (by rw [e]; exact hq)
theorem okD.zero {ys : List Int} {M : List (List Int)} (h : okD ys M) : okD9 [0] M := ⟨⟨by simp, fun y hy => by rw [List.mem_singleton] at hy; subst hy; unfold I64; omega⟩, h.nine.2⟩
theorem okD.snoc {ys : List Int} {M : List (List Int)} (h : okD ys M) : okD9 ys (M ++ [[]]) := by
  refine ⟨h.nine.1, by rw [List.length_append, List.length_singleton]; have := h.2.1; omega, fun l hl => ?_⟩
  rcases List.mem_append.1 hl with hl | hl
  · exact h.nine.2.2 l hl
  · rw [List.mem_singleton] at hl
    subst hl
    exact ⟨by simp, fun y hy => by cases hy⟩
theorem okD9_nil : okD9 [] [] := okD_nil.nine
theorem DeskG.nil (w : World) (B : Nat) : DeskG w B (.slice none 0 0) (.slice none 0 0) [] [] := ⟨OwnX.nil _ _ _, Fams.none _ _ _, fun g hg => by simp [Value.ownBlock] at hg⟩
/-- an empty family is there, and its row of one -/
theorem DrS.room {rb P B A j : Nat} {w wr : World} {v1 v2 : Value} {xs : List Int} {rs : List Fr} (h : DrS rb P w B A j v1 v2 xs rs wr) :
    (OwnX (wr.alloc (.cells #[] 3)) B 3 (Fr.v ⟨wr.heap.size, 0, []⟩) [] ∧ FamsO (wr.alloc (.cells #[] 3)) B v2 rs) ∧ (∀ r ∈ rs, r.g ≠ wr.heap.size) ∧ v2.ownBlock ≠ some wr.heap.size ∧ v1.ownBlock ≠ some wr.heap.size := by
  have h1 := h.blk.lt; have h2 := h.lo
  have hl := fun q hq => (h.g.ltB q hq).2
  exact ⟨⟨OwnX.made wr B (by omega) _, h.own.kept (alloc_below wr _)⟩, fun r hr e => by have := hl r.g (.inr (.inr ⟨r, hr, rfl⟩)); omega, fun e => by have := hl _ (.inr (.inl e)); omega, fun e => by have := hl _ (.inl e); omega⟩

set_option maxRecDepth 100000 in
set_option maxHeartbeats 12800000 in
theorem desk_any (rb P : Nat) (n : Int) (hn : 1 ≤ n) (hn2 : n ≤ 100) (hP : P ≤ 20000) (w : World) (h : Rdr w rb P) :
    Calls Tryz.prog 48 #[.pointer (some ⟨rb, 0, none⟩), .int .i64 n] w (DeskDrawn rb P w) := by
  have hrb : rb < w.heap.size := h.1
  have hz1 := alloc_size w (.cells #[.slice none 0 0, .slice none 0 0] 31)
  have hr1 := h.al (.cells #[.slice none 0 0, .slice none 0 0] 31)
  have ho1 := (Only.refl rb w).alloc (.cells #[.slice none 0 0, .slice none 0 0] 31)
  have hb1 := Blk2.new w 31 (.slice none 0 0) (.slice none 0 0)
  obtain ⟨w1, hw1⟩ : ∃ w1, w.alloc (.cells #[.slice none 0 0, .slice none 0 0] 31) = w1 := ⟨_, rfl⟩
  rw [hw1] at hz1 hr1 ho1 hb1
  have HR := Lib.hid hr1; have HO := Lib.hid ho1; have HBR := Lib.hid hb1; have HZ1 := Lib.hid hz1
  clear h hr1 ho1 hb1 hz1
  go_enter Tryz.func48, Tryz.ntmps48
  go_wp2_with fail
  clear hw1
  refine (sets_any rb P 0 (by omega) (by omega) (by omega) _ HR.out).mono ?_
  rintro e w2 ⟨v, m, rfl, hm, hown, ho2, hr2⟩
  obtain ⟨xs0, rfl, hx64, hown0⟩ := hown
  have hox : OwnX w2 w1.heap.size 3 v xs0 := hown0
  obtain ⟨a0, c0, rfl⟩ := hox.slice
  have HI := Lib.hid (ints_own hox (by omega) hx64)
  have HO2 := Lib.hid (HO.out.trans ho2); have HR2 := Lib.hid hr2
  have HBR2 := Lib.hid (HBR.out.only ho2 (by omega))
  have HZ2 := Lib.hid (show w.heap.size + 1 ≤ w2.heap.size by have := ho2.size; have := HZ1.out; omega)
  clear hown0 hox ho2 hr2 hx64 hm HO HR HBR HZ1
  go_wp2_with fail
  refine (specDeskNewP_any _ xs0 _ _ HI.out).mono ?_
  rintro e w3 ⟨v1, v2, rfl, hg⟩
  obtain ⟨p1, e1, rfl⟩ := hg.gives.one
  obtain ⟨p2, e2, rfl⟩ := hg.gives.two
  have hb3 := hg.gives.below
  obtain ⟨rs0, hdg, hrs0, _, hown⟩ := hg
  have hr0 : rs0 = [] := List.map_eq_nil_iff.1 hrs0
  subst hr0
  have hfo := hown (by simp)
  obtain ⟨ys, hys⟩ : ∃ ys, (if famL xs0 then xs0 else []) = ys := ⟨_, rfl⟩
  have hok : okD ys ([] : List (List Int)) := by rw [← hys]; exact okD_new xs0
  rw [hys] at hdg ⊢
  have hal := alloc_below w3 (.cells #[.slice p1 ys.length e1, .slice p2 0 e2] 31)
  have hon3 : Only rb w2 w3 := Only.of_below hb3
  have hz3 := hb3.size
  have HST : Hid (DrS rb P w (w.heap.size + 1) w3.heap.size 0 (.slice p1 ys.length e1) (.slice p2 0 e2) ys [] (w3.alloc (.cells #[.slice p1 ys.length e1, .slice p2 0 e2] 31))) := Lib.hid
    ⟨Blk2.new _ _ _ _, (HBR2.out.kept hb3 HBR2.out.lt).kept hal (by have := HBR2.out.lt; omega), (hdg.kept hal).base HZ2.out, (hfo.kept hal).base HZ2.out, hok, Nat.le_refl _, fun e => by have := (hdg.ltB _ e).2; omega, ⟨by omega, by have := HZ2.out; omega⟩,
      (HO2.out.trans hon3).alloc _, ((HR2.out.below hb3).al _).mono (by omega)⟩
  obtain ⟨w4, hw4⟩ : ∃ w4, w3.alloc (.cells #[.slice p1 ys.length e1, .slice p2 0 e2] 31) = w4 := ⟨_, rfl⟩
  obtain ⟨A, hA⟩ : ∃ A, w3.heap.size = A := ⟨_, rfl⟩
  rw [hw4, hA] at HST
  clear hb3 hdg hrs0 hown hfo hys hok hal hon3 hz3 HI HO2 HR2 HBR2 HZ2
  go_wp2_with fail
  clear hw4 hA
  refine (pick_any rb _ 6 (by omega) _ HST.out.rd).mono ?_
  rintro e w5 ⟨y, rfl, hy, ho5, hr5⟩
  have HST5 := Lib.hid (HST.out.read (P' := P + 1) hrb ho5 (hr5.mono (by omega)))
  have hy6 : y ≤ 5 := by omega
  clear ho5 hr5 HST hy
  go_wp2_with fail
  go_loopw [7] (fun i wr => ∃ (q j : Nat) (v1 v2 : Value) (xs : List Int) (rs : List Fr), i = .int .i64 q ∧ q + j ≤ 5 ∧ Hid (DrS rb (P + 1) w (w.heap.size + 1) A j v1 v2 xs rs wr)) (fun i _ => (intOf i).toNat)
  case atStart => exact ⟨y, 0, _, _, _, _, rfl, by omega, HST5⟩
  case round =>
    clear HST5
    obtain ⟨q, j, v1, v2, xs, rs, rfl, hqj, H⟩ := hrel
    obtain ⟨_, ⟨p4, e4, rfl⟩⟩ := H.out.slices
    obtain ⟨p3, e3, rfl, hlst⟩ := H.out.lst hrb
    have hA := H.out.blk
    have ha0 := hA.cell.1; have ha1 := hA.cell.2; have ha2 := hA.frozen 0; have ha3 := hA.frozen 1
    have HAB := Lib.hid hA
    by_cases hq0 : 0 < q
    · have hqb : decide ((0 : Int) < (q : Int)) = true := by simp; omega
      have hqi : (q : Int) - 1 = ((q - 1 : Nat) : Int) := by omega
      have HQI := Lib.hid hqi
      have HL := Lib.hid hlst
      have HRB := Lib.hid (show rb < wr.heap.size from by have := H.out.on.size; omega)
      have HAR := Lib.hid (show A ≠ rb by have := H.out.lo; omega)
      have HKS := Lib.hid (show ∀ W, Only rb wr W → (W.cell? ⟨A, 0, none⟩ = some (.slice p3 xs.length e3) ∧ W.cell? ⟨A, 1, none⟩ = some (.slice p4 rs.length e4)) from fun W hW => (hA.only hW HAR.out).cell)
      have HDG := Lib.hid (fun (W : World) (hW : Only rb wr W) => (show DeskR W (.agg #[.slice p3 xs.length e3, .slice p4 rs.length e4]) xs (rs.map Fr.xs) from H.out.ok.nine.read (H.out.g.only hW (by omega)) rfl))
      have hQ : P + 1 + 1001 + 10 * j ≤ 100000 := by omega
      have HLJ := Lib.hid (show ∀ k x, (dkL xs (rs.map Fr.xs) k x).length ≤ j + 1 from fun k x => Nat.le_trans (dkL_len _ _ _ _) (by rw [List.length_map]; have := H.out.len; omega))
      clear hlst hA hqi
      go_upto_region 5 with fail
      go_cut [8, 9] (fun s1 s2 wx => CutD rb (P + 1 + 1001 + 10 * (j + 1)) (j + 1) wr s1 s2 wx)
      case first =>
        have HB6 := Lib.hid (Only.refl rb wr)
        go_region_held3 (fun W => W.cell? ⟨A, 0, none⟩ = some (.slice p3 xs.length e3) ∧ W.cell? ⟨A, 1, none⟩ = some (.slice p4 rs.length e4)) (first | exact HKS.out _ HB6.out | exact HKS.out _ (only_dr HB6.out) | exact HKS.out _ (HB6.out.alloc _) | exact HKS.out _ (only_dr (HB6.out.alloc _)) | exact HKS.out _ ((HB6.out.fresh HS7.out 0 _).fresh HS7.out 1 _) | exact HKS.out _ ((HB6.out.fresh (Nat.le_refl _) 0 _).fresh (Nat.le_refl _) 1 _) | go_keep)
          (first | (go_at_call 109; refine (deedR_any rb _ p3 xs.length e3 hQ _ (by first | with_reducible exact rdr_dr H.out.rd | with_reducible exact rdr_dr (H.out.rd.al _)) (by first | with_reducible exact lst_dr HL.out | with_reducible exact lst_dr (lst_al HL.out _))).mono ?_; rintro e w7 ⟨kk, xx, rfl, _, _, hx, ho7, hr7⟩; (try (have HZB : Hid (Blk2 w7 wr.heap.size 31 (.slice none 0 0) (.slice none 0 0)) := Lib.hid (by with_reducible exact blk2_new_only ho7 HRB.out))); have HZ := Lib.hid (show Only rb wr w7 from (by first | with_reducible exact (only_dr HB6.out).trans ho7 | with_reducible exact (only_dr (HB6.out.alloc _)).trans ho7)); clear HB6; have HB6 := HZ; clear HZ; have HS7 := Lib.hid HB6.out.size; have HR7 := Lib.hid hr7; have HX7 := Lib.hid hx; have HD7 := Lib.hid (HDG.out w7 HB6.out); clear ho7 hr7 hx) | (go_at_call 67; refine (specDeskDo_any _ xs (rs.map Fr.xs) kk xx HX7.out _ (by first | with_reducible exact HD7.out | with_reducible exact HD7.out.kept (alloc_below w7 _))).mono ?_; rintro e w9 ⟨v3, v4, rfl, hp⟩; obtain ⟨z1, z2, rfl⟩ := hp.gives.one; obtain ⟨z3, z4, rfl⟩ := hp.gives.two; have hb9 := hp.gives.below; (first | (have HZL := Lib.hid HZB.out.lt; replace HZB := Lib.hid (HZB.out.kept hb9 HZB.out.lt)) | (have HZL := Lib.hid (alloc_lt3 w7 (.cells #[.slice none 0 0, .slice none 0 0] 31)); have HZB : Hid (Blk2 w9 w7.heap.size 31 (.slice none 0 0) (.slice none 0 0)) := Lib.hid (by with_reducible exact blk2_new_al3 hb9)) | skip); (try (have hx0 := HZB.out.cell.1; have hx1 := HZB.out.cell.2; have hx2 := HZB.out.frozen 0; have hx3 := HZB.out.frozen 1)); have HR9 := Lib.hid (show Rdr w9 rb _ from (by first | with_reducible exact HR7.out.below hb9 | with_reducible exact (HR7.out.al _).below hb9)); have HZ := Lib.hid (show Only rb wr w9 from (by first | with_reducible exact HB6.out.trans (Only.of_below hb9) | with_reducible exact (HB6.out.alloc _).trans (Only.of_below hb9))); clear HB6; have HB6 := HZ; clear HZ; have HG9 := Lib.hid hp; clear hp hb9))
        all_goals
          go_wp2_with fail
          go_meet
          first
            | exact cutD_last HG9.out (okD_do _ _ _ _) (HLJ.out _ _) (by omega) HB6.out (HR9.out.mono (by omega)) HS7.out
            | exact cutD_set HG9.out (okD_do _ _ _ _) (HLJ.out _ _) (by omega) HB6.out (HR9.out.mono (by omega)) HRB.out HZB.out HZL.out (by first | exact Nat.le_refl _ | exact HS7.out)
      case rest =>
      rename_i wx
      obtain ⟨b, T, v3, v4, ys, rs', ok, rfl, rfl, hv, hfo, hk, hl, hT, hon, hrd⟩ := hcut
      obtain ⟨p5, e5, rfl⟩ := hv.g.now.slice
      obtain ⟨p6, e6, hp6⟩ := hv.g.past.seq.slice
      rw [List.length_map] at hp6
      subst hp6
      have hA := H.out.blk.only hon HAR.out
      have hB := hv.blk
      have hba : ¬ b = A := by have h1 := hv.lo; have h2 := H.out.blk.lt; omega
      have hab : ¬ A = b := fun e => hba e.symm
      have hx0 := hA.cell.1; have hx1 := hA.cell.2; have hx2 := hA.frozen 0; have hx3 := hA.frozen 1
      have hy0 := hB.cell.1; have hy1 := hB.cell.2; have hy2 := hB.frozen 0; have hy3 := hB.frozen 1
      clear ha0 ha1 ha2 ha3 HKS HDG HLJ
      cases ok with
      | true =>
        have HST := Lib.hid (H.out.put hrb hv hfo hk hl hon hrd)
        clear hA hB hv hfo hk hl hT hon hrd
        go_wp2_with fail
        go_roundw
        case rel => exact ⟨q - 1, j + 1, _, _, ys, rs', by go_num, by omega, HST⟩
        case measure => simp [intOf]; omega
      | false =>
        have HST := Lib.hid (H.out.keep hrb hon hrd)
        clear hA hB hv hfo hk hl hT hon hrd
        go_wp2_with fail
        go_roundw
        case rel => exact ⟨q - 1, j + 1, _, _, xs, rs, by go_num, by omega, HST⟩
        case measure => simp [intOf]; omega
    · have hqb : decide ((0 : Int) < (q : Int)) = false := by simp; omega
      have HJ := Lib.hid (show j ≤ 5 by omega)
      clear hlst hA HAB
      go_wp2_with fail
      clear hqb
      refine (odd_any rb _ n hn hn2 (by have := HJ.out; omega) _ H.out.rd).mono ?_
      rintro e w6 ⟨o, rfl, ho6, hr6⟩
      have HST6 := Lib.hid (H.out.read (P' := P + 2) hrb ho6 (hr6.mono (by omega)))
      clear ho6 hr6 ha0 ha1 ha2 ha3 H
      have hlo := HST6.out.lo
      have hlt := HST6.out.blk.lt
      have hne1 : ¬ A = w.heap.size := by omega
      have hne2 : ¬ w.heap.size = A := by omega
      cases o with
      | false =>
        have ha0 := HST6.out.blk.cell.1; have ha1 := HST6.out.blk.cell.2
        have hc0 := HST6.out.r.cell.1; have hc1 := HST6.out.r.cell.2; have hc2 := HST6.out.r.frozen 0; have hc3 := HST6.out.r.frozen 1
        go_wp2_with fail
        refine bodyPost_ret (results_desk1 rfl _ _ w.heap.size ((HST6.out.r.set0 _).set1 _) rfl (by kernel_rfl)) rfl ?_
        exact drawn_end HST6.out.g (by omega) HST6.out.ok.nine HST6.out.on (HST6.out.rd.mono (by have := HJ.out; omega)) hrb
      | true =>
        go_wp2_with fail
        refine (pick_any rb _ 3 (by have := HJ.out; omega) _ HST6.out.rd).mono ?_
        rintro e w7 ⟨y3, rfl, hy3, ho7, hr7⟩
        have HST7 := Lib.hid (HST6.out.read (P' := P + 3) hrb ho7 (hr7.mono (by omega)))
        have hy4 : y3 < 3 := by omega
        clear ho7 hr7 HST6 hy3
        have ha0 := HST7.out.blk.cell.1; have ha1 := HST7.out.blk.cell.2; have ha2 := HST7.out.blk.frozen 0; have ha3 := HST7.out.blk.frozen 1
        have hc0 := HST7.out.r.cell.1; have hc1 := HST7.out.r.cell.2; have hc2 := HST7.out.r.frozen 0; have hc3 := HST7.out.r.frozen 1
        have hlt := HST7.out.blk.lt
        rcases (show y3 = 0 ∨ y3 = 1 ∨ y3 = 2 by omega) with rfl | rfl | rfl
        · have HZ := Lib.hid HST7.out.zero
          have HST8 := Lib.hid (HST7.out.read (P' := P + 3) hrb ((Only.refl rb w7).alloc (.cells #[.int .i64 0] 3)) (HST7.out.rd.al _))
          have HNB := Lib.hid (show ¬ DkBl (.slice (some ⟨w7.heap.size, 0, none⟩) 1 1) (.slice p4 rs.length e4) rs A from fun e => by
            rcases e with e | e
            · injection e with e
              have e : w7.heap.size = A := e
              omega
            · exact HST7.out.ne (.inr e))
          obtain ⟨w8, hw8⟩ : ∃ w8, w7.alloc (.cells #[.int .i64 0] 3) = w8 := ⟨_, rfl⟩
          rw [hw8] at HZ HST8
          clear HST7 ha0 ha1 ha2 ha3 hc0 hc1 hc2 hc3
          have ha0 := HST8.out.blk.cell.1; have ha1 := HST8.out.blk.cell.2; have ha2 := HST8.out.blk.frozen 0; have ha3 := HST8.out.blk.frozen 1
          have hc0 := HST8.out.r.cell.1; have hc1 := HST8.out.r.cell.2; have hc2 := HST8.out.r.frozen 0; have hc3 := HST8.out.r.frozen 1
          go_wp2_with fail
          refine bodyPost_ret (results_desk1 rfl _ _ w.heap.size (((HST8.out.r.other hne2 0 _).set0 _).set1 _) rfl (by kernel_rfl)) rfl ?_
          exact drawn_end (HZ.out.at HNB.out) (by omega) HST8.out.ok.zero (HST8.out.on.fresh (g := A) (by omega) 0 _) ((HST8.out.rd.mono (by have := HJ.out; omega)).belowB ((Below.refl A w8).setCell (p := ⟨A, 0, none⟩) (Nat.le_refl _) _) (by omega)) hrb
        · have HR7 := Lib.hid HST7.out.room
          have HST8 := Lib.hid (HST7.out.read (P' := P + 3) hrb ((Only.refl rb w7).alloc (.cells #[] 3)) (HST7.out.rd.al _))
          have HS7 := Lib.hid (show A < w7.heap.size ∧ w7.heap.size + 1 = (w7.alloc (.cells #[] 3)).heap.size from ⟨hlt, (alloc_size w7 _).symm⟩)
          obtain ⟨g7, hg7⟩ : ∃ g7, w7.heap.size = g7 := ⟨_, rfl⟩
          obtain ⟨w8, hw8⟩ : ∃ w8, w7.alloc (.cells #[] 3) = w8 := ⟨_, rfl⟩
          rw [hw8] at HST8 HR7 HS7
          rw [hg7] at HR7 HS7
          have hz1 := ha1
          clear HST7 ha0 ha1 ha2 ha3 hc0 hc1 hc2 hc3 hlt
          have ha0 := HST8.out.blk.cell.1; have ha1 := HST8.out.blk.cell.2; have ha2 := HST8.out.blk.frozen 0; have ha3 := HST8.out.blk.frozen 1
          have HLR := Lib.hid (show rs.length ≤ 1000 by have := HST8.out.len; have := HJ.out; omega)
          have HSB := Lib.hid (show w.heap.size + 1 ≤ w8.heap.size by have := HST8.out.blk.lt; omega)
          go_wp2_with (at_builtin; refine append_fr rfl (.tmp 46) (.tmp 48) rfl (w.heap.size + 1) (.slice p4 rs.length e4) rs ⟨g7, 0, []⟩ w8 rfl rfl HR7.out.1.2 HLR.out HR7.out.1.1 HR7.out.2.1 HR7.out.2.2.1 HSB.out ?_)
          intro g9 c9 w9 ho9 hb9 hu9 hat9
          have hD9 := HST8.out.g.snoc ho9 hu9 hat9 HR7.out.2.2.2
          have hA9 : Blk2 w9 A 31 (.slice p3 xs.length e3) (.slice p4 rs.length e4) := (hu9.block A HST8.out.blk.lt (fun e => HST8.out.ne (.inr (.inl e)))).trans HST8.out.blk
          have hR9 : Blk2 w9 w.heap.size 31 (.slice none 0 0) (.slice none 0 0) := (hb9.block _ (by omega)).trans HST8.out.r
          have HNB := Lib.hid (show ¬ DkBl (.slice p3 xs.length e3) (.slice (some ⟨g9, 0, none⟩) (rs.length + 1) c9) (rs ++ [⟨g7, 0, []⟩]) A from fun e => by
            rcases e with e | e | ⟨r, hr, e⟩
            · exact HST8.out.ne (.inl e)
            · injection e with e
              have e : g9 = A := e
              rcases hat9 with h | h
              · exact HST8.out.ne (.inr (.inl (by rw [← e]; exact h)))
              · have := HS7.out; omega
            · rcases List.mem_append.1 hr with hr | hr
              · exact HST8.out.ne (.inr (.inr ⟨r, hr, e⟩))
              · rw [List.mem_singleton] at hr
                subst hr
                have e : g7 = A := e
                have := HS7.out; omega)
          have HD9 := Lib.hid hD9; have HA9 := Lib.hid hA9; have HR9 := Lib.hid hR9
          have HO9 := Lib.hid (only_belowB HST8.out.on hb9 (Nat.le_succ _))
          have HRD9 := Lib.hid (HST8.out.rd.belowB hb9 (by omega))
          clear ho9 hb9 hu9 hat9 hD9 hA9 hR9 ha0 ha1 ha2 ha3 hz1
          have ha0 := HA9.out.cell.1; have ha1 := HA9.out.cell.2; have ha2 := HA9.out.frozen 0; have ha3 := HA9.out.frozen 1
          have hc0 := HR9.out.cell.1; have hc1 := HR9.out.cell.2; have hc2 := HR9.out.frozen 0; have hc3 := HR9.out.frozen 1
          go_wp2_with fail
          refine bodyPost_ret (results_desk1 rfl _ _ w.heap.size (((HR9.out.other hne2 1 _).set0 _).set1 _) rfl (by kernel_rfl)) rfl ?_
          have hk9 := HST8.out.ok.snoc
          rw [← show (rs ++ [(⟨g7, 0, []⟩ : Fr)]).map Fr.xs = rs.map Fr.xs ++ [[]] from by rw [List.map_append]; rfl] at hk9
          exact drawn_end (HD9.out.at HNB.out) (by omega) hk9 (HO9.out.fresh (g := A) (by omega) 1 _) ((HRD9.out.mono (by have := HJ.out; omega)).belowB ((Below.refl A w9).setCell (p := ⟨A, 1, none⟩) (Nat.le_refl _) _) (by omega)) hrb
        · go_wp2_with fail
          refine bodyPost_ret (results_desk1 rfl _ _ w.heap.size ((HST7.out.r.set0 _).set1 _) rfl (by kernel_rfl)) rfl ?_
          exact drawn_end (DeskG.nil _ (w.heap.size + 1)) (by omega) okD9_nil HST7.out.on (HST7.out.rd.mono (by have := HJ.out; omega)) hrb
end Go.Proofs.YthaickihoagnmaaGreatDoor

namespace Go.Proofs.YthaickihoagnmaaGreatDoor
set_option linter.unusedVariables false
set_option linter.unusedSimpArgs false
open Go.RowKit Go.Maps

theorem sameInts_drew (a1 a2 : Option Addr) (c1 c2 n : Nat) (f : Nat → Int) (hn : n ≤ 1048576) (w : World) (h1 : Ints w a1 n f) (h2 : Ints w a2 n f) :
    Calls Tryz.prog 62 #[.slice a1 n c1, .slice a2 n c2] w fun e w' => e = .returned (.bool true) ∧ Drew w w' := by
  by_cases h : n = 0
  · subst h; exact sameInts_nil a1 a2 c1 c2 w
  · obtain ⟨b1, o1, rfl, _, hr1⟩ := h1.row (by omega)
    obtain ⟨b2, o2, rfl, _, hr2⟩ := h2.row (by omega)
    exact sameInts_row b1 o1 c1 b2 o2 c2 n f hn w hr1 hr2
theorem sameInts_len (a1 a2 : Option Addr) (c1 c2 m n : Nat) (h : m ≠ n) (w : World) :
    Calls Tryz.prog 62 #[.slice a1 m c1, .slice a2 n c2] w fun e w' => e = .returned (.bool false) ∧ Drew w w' := by
  have hne : ((m : Int) != (n : Int)) = true := by simp; omega
  go_enter Tryz.func62, Tryz.ntmps62
  go_wp2_with fail
  go_ret
  exact ⟨rfl, Drew.refl w⟩
theorem sameRows_len (a1 a2 : Option Addr) (c1 c2 m n : Nat) (h : m ≠ n) (w : World) :
    Calls Tryz.prog 63 #[.slice a1 m c1, .slice a2 n c2] w fun e w' => e = .returned (.bool false) ∧ Drew w w' := by
  have hne : ((m : Int) != (n : Int)) = true := by simp; omega
  go_enter Tryz.func63, Tryz.ntmps63
  go_wp2_with fail
  go_ret
  exact ⟨rfl, Drew.refl w⟩
set_option maxRecDepth 100000 in
set_option maxHeartbeats 800000 in
theorem sameRows_any (b b' : Option Addr) (c c' : Nat) (L : List (List Int)) (hL : L.length ≤ 1048576) (hl : ∀ l ∈ L, l.length ≤ 1048576) (w : World) (h1 : Nest w b L) (h2 : Nest w b' L) :
    Calls Tryz.prog 63 #[.slice b L.length c, .slice b' L.length c'] w fun e w' => e = .returned (.bool true) ∧ Drew w w' := by
  have HL := Lib.hid hl
  obtain ⟨n, hn⟩ : ∃ n, L.length = n := ⟨_, rfl⟩
  have hne : ((n : Int) != (n : Int)) = false := by simp
  rw [hn] at hL ⊢
  have HN := Lib.hid hn
  have HH1 := Lib.hid h1; have HH2 := Lib.hid h2
  clear hl h1 h2 hn
  by_cases h0 : n = 0
  · have hki : ¬ (0 : Int) < (n : Int) := by omega
    subst h0
    go_enter Tryz.func63, Tryz.ntmps63
    go_wp2_with fail
    go_loopw [5] (fun i wr => i = .int .i64 0 ∧ Drew w wr) (fun _ _ => 0)
    case atStart => exact ⟨rfl, Drew.refl w⟩
    case round =>
      obtain ⟨rfl, hd⟩ := hrel
      go_wp2_with fail
      go_ret
      exact ⟨rfl, hd⟩
  · obtain ⟨bk, o, rfl, hbk, hA⟩ := HH1.out.2.resolve_left (by rw [HN.out]; exact h0)
    obtain ⟨bk', o', rfl, hbk', hA'⟩ := HH2.out.2.resolve_left (by rw [HN.out]; exact h0)
    have HA := Lib.hid hA; have HA' := Lib.hid hA'; have HK := Lib.hid hbk; have HK' := Lib.hid hbk'
    clear hA hA' HH1 HH2 hbk hbk'
    go_enter Tryz.func63, Tryz.ntmps63
    go_wp2_with fail
    go_loopw [5] (fun i wr => ∃ k : Nat, k ≤ n ∧ i = .int .i64 k ∧ Drew w wr) (fun i _ => n - (intOf i).toNat)
    case atStart => exact ⟨0, Nat.zero_le _, rfl, Drew.refl w⟩
    case round =>
      obtain ⟨k, hk, rfl, hd⟩ := hrel
      by_cases hlt : k < n
      · have hki : (k : Int) < (n : Int) := by omega
        have hk0 : (0 : Int) ≤ (k : Int) := by omega
        have hkl : k < L.length := by rw [HN.out]; exact hlt
        have hwi := HL.out _ (List.getElem_mem hkl)
        obtain ⟨a1, e1, hc1, _, hi1⟩ := HA.out.kept hd.below HK.out k hkl
        obtain ⟨a2, e2, hc2, _, hi2⟩ := HA'.out.kept hd.below HK'.out k hkl
        obtain ⟨l, hlk⟩ : ∃ l, L[k] = l := ⟨_, rfl⟩
        rw [hlk] at hc1 hc2 hi1 hi2 hwi
        have HI1 := Lib.hid hi1; have HI2 := Lib.hid hi2; have HW := Lib.hid hwi
        clear hi1 hi2 hlk hwi
        go_wp2_with fail
        go_quiet ((go_at_call 62; exact quiet_drew (sameInts_drew a1 a2 e1 e2 l.length (fun j => l.getD j 0) HW.out _ (HI1.out.below (below_drewN (Below.refl _ _) _) (Nat.le_refl _)) (HI2.out.below (below_drewN (Below.refl _ _) _) (Nat.le_refl _)))))
        go_wp2_with fail
        go_roundw
        case rel => exact ⟨k + 1, by omega, by go_num, hd.more _⟩
        case measure => simp [intOf]; omega
      · have hki : ¬ (k : Int) < (n : Int) := by omega
        go_wp2_with fail
        go_ret
        exact ⟨rfl, hd⟩

set_option maxRecDepth 100000 in
set_option maxHeartbeats 1600000 in
theorem sameDesk_any (d1 d2 : Value) (xs : List Int) (L : List (List Int)) (hx : xs.length ≤ 1048576) (hL : L.length ≤ 1048576) (hl : ∀ l ∈ L, l.length ≤ 1048576) (w : World) (h1 : DeskR w d1 xs L) (h2 : DeskR w d2 xs L) :
    Calls Tryz.prog 18 #[d1, d2] w fun e w' => e = .returned (.bool true) ∧ Below w.heap.size w w' := by
  obtain ⟨a, c, b, c2, rfl, hi, hn⟩ := h1.parts
  obtain ⟨a', c', b', c2', rfl, hi', hn'⟩ := h2.parts
  have q1 := alloc_below w (.cells #[.slice a xs.length c, .slice b L.length c2] 31)
  have q2 := alloc_below (w.alloc (.cells #[.slice a xs.length c, .slice b L.length c2] 31)) (.cells #[.slice a' xs.length c', .slice b' L.length c2'] 31)
  have b1 := (Blk2.new w 31 (.slice a xs.length c) (.slice b L.length c2)).kept q2 (by rw [alloc_size]; omega)
  have b2 := (Blk2.new (w.alloc (.cells #[.slice a xs.length c, .slice b L.length c2] 31)) 31 (.slice a' xs.length c') (.slice b' L.length c2'))
  rw [alloc_size] at b2
  have HQ := Lib.hid (below_onto q1 q2)
  have HI := Lib.hid (hi.below HQ.out (Nat.le_refl _)); have HI' := Lib.hid (hi'.below HQ.out (Nat.le_refl _))
  have HN := Lib.hid (hn.kept HQ.out); have HN' := Lib.hid (hn'.kept HQ.out)
  have HB1 := Lib.hid b1; have HB2 := Lib.hid b2
  have HLL := Lib.hid hl
  clear h1 h2 hi hi' hn hn' q1 q2 b1 b2 hl
  go_enter Tryz.func18, Tryz.ntmps18
  go_wp2_with fail
  refine (sameInts_drew a a' c c' xs.length (fun j => xs.getD j 0) hx _ HI.out HI'.out).mono ?_
  rintro e w1 ⟨rfl, hd⟩
  have hb := hd.below
  have HB1a := Lib.hid (HB1.out.kept hb HB1.out.lt); have HB2a := Lib.hid (HB2.out.kept hb HB2.out.lt)
  have HNa := Lib.hid (HN.out.kept hb); have HNb := Lib.hid (HN'.out.kept hb)
  have HQa := Lib.hid (below_onto HQ.out hb)
  clear hb hd
  have hc1 := HB1a.out.cell.2; have hd1 := HB2a.out.cell.2
  go_wp2_with fail
  refine (sameRows_any b b' c2 c2' L hL HLL.out _ HNa.out HNb.out).mono ?_
  rintro e w2 ⟨rfl, hd⟩
  have HQb := Lib.hid (below_onto HQa.out hd.below)
  clear hd hc1 hd1
  go_wp2_with fail
  go_ret
  exact ⟨rfl, HQb.out⟩
set_option maxRecDepth 100000 in
set_option maxHeartbeats 1600000 in
theorem sameDesk_zero (d1 d2 : Value) (xs : List Int) (L : List (List Int)) (w : World) (h1 : DeskR w d1 [] []) (h2 : DeskR w d2 xs L) :
    Calls Tryz.prog 18 #[d1, d2] w fun e w' => (∃ o, e = .returned (.bool o)) ∧ Below w.heap.size w w' := by
  by_cases hz : xs = [] ∧ L = []
  · obtain ⟨rfl, rfl⟩ := hz
    exact (sameDesk_any d1 d2 [] [] (by simp) (by simp) (fun l hl => by cases hl) w h1 h2).mono fun _ _ ⟨h, hb⟩ => ⟨⟨_, h⟩, hb⟩
  obtain ⟨a, c, b, c2, rfl, hi, hn⟩ := h1.parts
  obtain ⟨a', c', b', c2', rfl, hi', hn'⟩ := h2.parts
  have q1 := alloc_below w (.cells #[.slice a 0 c, .slice b 0 c2] 31)
  have q2 := alloc_below (w.alloc (.cells #[.slice a 0 c, .slice b 0 c2] 31)) (.cells #[.slice a' xs.length c', .slice b' L.length c2'] 31)
  have b1 := (Blk2.new w 31 (.slice a 0 c) (.slice b 0 c2)).kept q2 (by rw [alloc_size]; omega)
  have b2 := (Blk2.new (w.alloc (.cells #[.slice a 0 c, .slice b 0 c2] 31)) 31 (.slice a' xs.length c') (.slice b' L.length c2'))
  rw [alloc_size] at b2
  have HQ := Lib.hid (below_onto q1 q2)
  have HB1 := Lib.hid b1; have HB2 := Lib.hid b2
  clear h1 h2 hi hi' hn hn' q1 q2 b1 b2
  simp only [List.length_nil]
  by_cases h0 : xs.length = 0
  · have hx : xs = [] := List.eq_nil_of_length_eq_zero h0
    have hL : 0 ≠ L.length := fun e => hz ⟨hx, List.eq_nil_of_length_eq_zero e.symm⟩
    rw [h0] at HQ HB1 HB2 ⊢
    clear hz
    go_enter Tryz.func18, Tryz.ntmps18
    go_wp2_with fail
    refine (sameInts_nil a a' c c' _).mono ?_
    rintro e w1 ⟨rfl, hd⟩
    have hb := hd.below
    have HB1a := Lib.hid (HB1.out.kept hb HB1.out.lt); have HB2a := Lib.hid (HB2.out.kept hb HB2.out.lt)
    have HQa := Lib.hid (below_onto HQ.out hb)
    clear hb hd
    have hc1 := HB1a.out.cell.2; have hd1 := HB2a.out.cell.2
    go_wp2_with fail
    refine (sameRows_len b b' c2 c2' 0 L.length hL _).mono ?_
    rintro e w2 ⟨rfl, hd⟩
    have HQb := Lib.hid (below_onto HQa.out hd.below)
    clear hd hc1 hd1
    go_wp2_with fail
    go_ret
    exact ⟨⟨_, rfl⟩, HQb.out⟩
  · clear hz
    go_enter Tryz.func18, Tryz.ntmps18
    go_wp2_with fail
    refine (sameInts_len a a' c c' 0 xs.length (fun e => h0 e.symm) _).mono ?_
    rintro e w1 ⟨rfl, hd⟩
    have HQa := Lib.hid (below_onto HQ.out hd.below)
    clear hd
    go_wp2_with fail
    go_ret
    exact ⟨⟨_, rfl⟩, HQa.out⟩
theorem deskR_nil (w : World) : DeskR w (.agg #[.slice none 0 0, .slice none 0 0]) [] [] :=
  ⟨⟨none, 0, none, 0, rfl, Nat.le_refl _, Nat.le_refl _, ⟨⟨by simp, fun i hi => by simp at hi⟩, .inl rfl⟩, ⟨by simp, .inl rfl⟩⟩⟩
set_option maxRecDepth 100000 in
set_option maxHeartbeats 1600000 in
theorem noDesk_any (d : Value) (w : World) (h : DeskR w d [] []) :
    Calls Tryz.prog 22 #[d] w fun e w' => e = .returned (.bool true) ∧ Below w.heap.size w w' := by
  have hdd := h
  obtain ⟨a, c, b, c2, rfl, _⟩ := h.parts
  have HAL := Lib.hid (alloc_below w (.cells #[.slice a 0 c, .slice b 0 c2] 31))
  have HD := Lib.hid (hdd.kept HAL.out)
  clear h hdd
  go_enter Tryz.func22, Tryz.ntmps22
  go_wp2_with fail
  refine (sameDesk_any _ _ [] [] (by simp) (by simp) (fun l hl => by cases hl) _ HD.out (deskR_nil _)).mono ?_
  rintro e w1 ⟨rfl, hb⟩
  have HB := Lib.hid (below_onto HAL.out hb)
  clear hb
  go_wp2_with fail
  go_ret
  exact ⟨rfl, HB.out⟩
end Go.Proofs.YthaickihoagnmaaGreatDoor

namespace Go.Proofs.YthaickihoagnmaaGreatDoor
set_option linter.unusedVariables false
set_option linter.unusedSimpArgs false
open Go.RowKit Go.Maps

/-- a desk that is drawn, to read -/
def DeskDr (w : World) (e : Ending) (w' : World) : Prop :=
  ∃ a c b c2 xs L, e = .returned (.agg #[.slice a xs.length c, .slice b L.length c2]) ∧ DeskR w' (.agg #[.slice a xs.length c, .slice b L.length c2]) xs L ∧ okD9 xs L ∧ Below w.heap.size w w'
theorem bytes_al {w : World} {a : Option Addr} {n cap : Nat} (h : BytesIn w a n cap) (o : Obj) : BytesIn (w.alloc o) a n cap := by
  obtain ⟨hnc, hc, hby⟩ := h
  have hal := alloc_below w o
  refine ⟨hnc, hc, ?_⟩
  rcases hby with h0 | ⟨b, o, g, ha, hb, hg⟩
  · exact .inl h0
  · exact .inr ⟨b, o, g, ha, Nat.lt_of_lt_of_le hb hal.size, fun i hi => ⟨(hal.cell (p := ⟨b, o + i, none⟩) hb).trans (hg i hi).1, (hg i hi).2⟩⟩
end Go.Proofs.YthaickihoagnmaaGreatDoor
