import Derived.Shelf.Strings.Builder1
import Derived.Test.YthaickihoagnmaaGreatDoorMzOne
import Derived.Test.YthaickihoagnmaaGreatDoorDraws
import Derived.Test.YthaickihoagnmaaGreatDoorTxOne
import Derived.Test.YthaickihoagnmaaGreatDoorOwnH
import Derived.StillTailTactics
import Derived.RangeFuncNested
import Derived.RangeFuncBound
import Derived.RangeFuncCalls
import Derived.RangeFuncLeaves
import Derived.Shelf.Abstract
import Derived.Shelf.RegionOpen
import Derived.WalkKit
import Derived.OwnWalkIn
import Derived.TacticsInMore
import Derived.LoopNIn
import Derived.LoopIn
import Derived.Maps.OwnIn
namespace Go.Proofs.YthaickihoagnmaaGreatDoor
open Go.Shelf
def wbRen : Go.Shelf.Ren := ⟨fun | 166 => 59 | 167 => 60 | 169 => 61 | 240 => 118 | 276 => 147 | n => n, fun | 0 => 0 | 3 => 3 | 4 => 4 | 5 => 5 | 9 => 9 | 20 => 20 | 37 => 22 | 70 => 84 | 72 => 86 | 75 => 88 | 80 => 92 | 164 => 151 | 127 => 134 | n => n, fun n => n⟩
theorem wb166 : Go.Proofs.Lays.n166 Tryz.prog wbRen := {
  mixed := by kernel_rfl
  f166 := Tryz.func59.trans (congrArg some (by kernel_rfl))
  f240 := Tryz.func118.trans (congrArg some (by kernel_rfl))
  f276 := Tryz.func147.trans (congrArg some (by kernel_rfl))
  t0 := Tryz.underlying0
  a0 := Tryz.isAgg0
  z0 := Tryz.sizeOf0
  v0 := Tryz.zeroValue0
  t3 := Tryz.underlying3
  a3 := Tryz.isAgg3
  z3 := Tryz.sizeOf3
  v3 := Tryz.zeroValue3
  t4 := Tryz.underlying4
  a4 := Tryz.isAgg4
  z4 := Tryz.sizeOf4
  v4 := Tryz.zeroValue4
  t9 := Tryz.underlying9
  a9 := Tryz.isAgg9
  z9 := Tryz.sizeOf9
  v9 := Tryz.zeroValue9
  t20 := Tryz.underlying20
  a20 := Tryz.isAgg20
  z20 := Tryz.sizeOf20
  v20 := Tryz.zeroValue20
  t37 := Tryz.underlying22
  a37 := Tryz.isAgg22
  z37 := Tryz.sizeOf22
  v37 := Tryz.zeroValue22
  t70 := Tryz.underlying84
  a70 := Tryz.isAgg84
  z70 := Tryz.sizeOf84
  v70 := Tryz.zeroValue84
  t72 := Tryz.underlying86
  a72 := Tryz.isAgg86
  z72 := Tryz.sizeOf86
  v72 := Tryz.zeroValue86
  t75 := Tryz.underlying88
  a75 := Tryz.isAgg88
  z75 := Tryz.sizeOf88
  v75 := Tryz.zeroValue88
  t164 := Tryz.underlying151
  a164 := Tryz.isAgg151
  z164 := Tryz.sizeOf151
  v164 := Tryz.zeroValue151 }
theorem wb167 : Go.Proofs.Lays.n167 Tryz.prog wbRen := {
  mixed := by kernel_rfl
  f167 := Tryz.func60.trans (congrArg some (by kernel_rfl))
  f240 := Tryz.func118.trans (congrArg some (by kernel_rfl))
  f276 := Tryz.func147.trans (congrArg some (by kernel_rfl))
  t0 := Tryz.underlying0
  a0 := Tryz.isAgg0
  z0 := Tryz.sizeOf0
  v0 := Tryz.zeroValue0
  t4 := Tryz.underlying4
  a4 := Tryz.isAgg4
  z4 := Tryz.sizeOf4
  v4 := Tryz.zeroValue4
  t5 := Tryz.underlying5
  a5 := Tryz.isAgg5
  z5 := Tryz.sizeOf5
  v5 := Tryz.zeroValue5
  t9 := Tryz.underlying9
  a9 := Tryz.isAgg9
  z9 := Tryz.sizeOf9
  v9 := Tryz.zeroValue9
  t20 := Tryz.underlying20
  a20 := Tryz.isAgg20
  z20 := Tryz.sizeOf20
  v20 := Tryz.zeroValue20
  t37 := Tryz.underlying22
  a37 := Tryz.isAgg22
  z37 := Tryz.sizeOf22
  v37 := Tryz.zeroValue22
  t70 := Tryz.underlying84
  a70 := Tryz.isAgg84
  z70 := Tryz.sizeOf84
  v70 := Tryz.zeroValue84
  t72 := Tryz.underlying86
  a72 := Tryz.isAgg86
  z72 := Tryz.sizeOf86
  v72 := Tryz.zeroValue86
  t75 := Tryz.underlying88
  a75 := Tryz.isAgg88
  z75 := Tryz.sizeOf88
  v75 := Tryz.zeroValue88
  t164 := Tryz.underlying151
  a164 := Tryz.isAgg151
  z164 := Tryz.sizeOf151
  v164 := Tryz.zeroValue151 }
theorem wb169 : Go.Proofs.Lays.n169 Tryz.prog wbRen := {
  mixed := by kernel_rfl
  f169 := Tryz.func61.trans (congrArg some (by kernel_rfl))
  t0 := Tryz.underlying0
  a0 := Tryz.isAgg0
  z0 := Tryz.sizeOf0
  v0 := Tryz.zeroValue0
  t3 := Tryz.underlying3
  a3 := Tryz.isAgg3
  z3 := Tryz.sizeOf3
  v3 := Tryz.zeroValue3
  t9 := Tryz.underlying9
  a9 := Tryz.isAgg9
  z9 := Tryz.sizeOf9
  v9 := Tryz.zeroValue9
  t37 := Tryz.underlying22
  a37 := Tryz.isAgg22
  z37 := Tryz.sizeOf22
  v37 := Tryz.zeroValue22
  t70 := Tryz.underlying84
  a70 := Tryz.isAgg84
  z70 := Tryz.sizeOf84
  v70 := Tryz.zeroValue84
  t72 := Tryz.underlying86
  a72 := Tryz.isAgg86
  z72 := Tryz.sizeOf86
  v72 := Tryz.zeroValue86
  t127 := Tryz.underlying134
  a127 := Tryz.isAgg134
  z127 := Tryz.sizeOf134
  v127 := Tryz.zeroValue134 }
theorem wbExtra : Builder.Extra Tryz.prog wbRen := {
  sizeBuilder := by kernel_rfl
  liesBuilder := by kernel_rfl
  t5 := Tryz.underlying5
  a5 := Tryz.isAgg5
  z5 := Tryz.sizeOf5
  v5 := Tryz.zeroValue5
  infoByte := by kernel_rfl
  cellsByte := by kernel_rfl
  sizeByte := by kernel_rfl
  neB5 := by decide }
open Go.RowKit

/-- a builder that holds these bytes, in a block from B on -/
def Bld (w : World) (B b : Nat) (l : List UInt8) : Prop := Lib.IsBuilder 86 5 B b (Lib.byteCells l) w
theorem Bld.new (w : World) : Bld (w.alloc (.cells #[.pointer none, .slice none 0 0] 86)) w.heap.size w.heap.size [] := Lib.fresh_isBuilder _ _ w
theorem byteCells_app (a b : List UInt8) : Lib.byteCells (a ++ b) = Lib.byteCells a ++ Lib.byteCells b := by unfold Lib.byteCells; rw [List.map_append]
theorem byteCells_len (a : List UInt8) : (Lib.byteCells a).length = a.length := by unfold Lib.byteCells; rw [List.length_map]
theorem Bld.same {w w' : World} {B b : Nat} {l : List UInt8} (h : Bld w B b l) (hb : Below w.heap.size w w') : Bld w' B b l := by
  have key : ∀ p, Lib.BuilderAt 86 5 B b p (Lib.byteCells l) w → Lib.BuilderAt 86 5 B b p (Lib.byteCells l) w' := by
    rintro p ⟨h1, v, h2, h3, h4⟩
    refine ⟨h1, v, (hb.block b (Array.getElem?_eq_some_iff.1 h2).1).trans h2, ?_, h4⟩
    have hlt := World.ownsRow.lt h3
    obtain ⟨h5, h6⟩ := h3
    refine ⟨h5, ?_⟩
    rcases h6 with h6 | ⟨g, cap, cur, hv, hB, hg, hr⟩
    · exact .inl h6
    · exact .inr ⟨g, cap, cur, hv, hB, (hb.block g (Array.getElem?_eq_some_iff.1 hg).1).trans hg, hr⟩
  rcases h with h | h
  · exact .inl (key _ h)
  · exact .inr (key _ h)
theorem WriteString_any (B b : Nat) (l : List UInt8) (s : ByteArray) (w : World) (h : Bld w B b l) (hl : l.length + s.size ≤ 140737488355328) (hB : B ≤ w.heap.size) :
    Calls Tryz.prog 59 #[.pointer (some ⟨b, 0, none⟩), .string s] w fun e w' => ∃ v, e = .returned v ∧ Bld w' B b (l ++ s.data.toList) ∧ Below B w w' := by
  refine (Any.Builder_WriteString wb166 wbExtra B b (Lib.byteCells l) s w h (by rw [byteCells_len]; exact hl) hB).mono ?_
  rintro e w' ⟨rfl, h1, h2⟩
  refine ⟨_, rfl, .inr ?_, h2⟩
  rw [byteCells_app]
  exact h1
theorem WriteByte_any (B b : Nat) (l : List UInt8) (c : UInt8) (w : World) (h : Bld w B b l) (hl : l.length + 1 ≤ 140737488355328) (hB : B ≤ w.heap.size) :
    Calls Tryz.prog 60 #[.pointer (some ⟨b, 0, none⟩), .int .u8 (c.toNat : Int)] w fun e w' => ∃ v, e = .returned v ∧ Bld w' B b (l ++ [c]) ∧ Below B w w' := by
  refine (Any.Builder_WriteByte wb167 wbExtra B b (Lib.byteCells l) (c.toNat : Int) w h (by rw [byteCells_len]; exact hl) hB).mono ?_
  rintro e w' ⟨rfl, h1, h2⟩
  refine ⟨_, rfl, .inr ?_, h2⟩
  rw [byteCells_app]
  exact h1
theorem BString_any (B b : Nat) (l : List UInt8) (w : World) (h : Bld w B b l) (hB : B ≤ w.heap.size) :
    Calls Tryz.prog 61 #[.pointer (some ⟨b, 0, none⟩)] w fun e w' => e = .returned (.string (bs l)) ∧ Below B w w' :=
  Any.Builder_String_any wb169 wbExtra B b l w h hB
end Go.Proofs.YthaickihoagnmaaGreatDoor

namespace Go.Proofs.YthaickihoagnmaaGreatDoor
set_option linter.unusedVariables false
set_option linter.unusedSimpArgs false
open Go.RowKit Go.Maps

theorem jtB_take {ds : List (Int × Int)} {k : Nat} (hk : k < ds.length) : jtB (ds.take (k + 1)) = (jtB (ds.take k) && dOk ds[k].1 ds[k].2) := by
  rw [List.take_succ_eq_append_getElem hk]
  unfold jtB
  rw [List.all_append]
  simp
theorem jtR_take {ds : List (Int × Int)} {k : Nat} (hk : k < ds.length) : jtR (ds.take (k + 1)) = jtR (ds.take k) ++ (deedL ds[k].1 ds[k].2 ++ [10]) := by
  rw [List.take_succ_eq_append_getElem hk, jtR_snoc]
theorem jtB_bad {ds : List (Int × Int)} {k : Nat} (hk : k < ds.length) (h : dOk ds[k].1 ds[k].2 = false) : jtB ds = false := by
  cases hj : jtB ds with
  | false => rfl
  | true =>
    have := List.all_eq_true.1 hj ds[k] (List.getElem_mem hk)
    rw [h] at this; cases this
theorem deedT_emp {k x : Int} {v : Bool} (h : dOk k x = v) : (deedT k x).toList.isEmpty = !v := by
  rw [toList_data']
  unfold deedT
  rw [bs_data]
  cases v with
  | true =>
    cases hl : deedL k x with
    | nil => exact absurd hl (deed_facts h).1
    | cons a l => rfl
  | false => rw [deedL_no h]; rfl
theorem jt_len_take (ds : List (Int × Int)) (k : Nat) : (jtR (ds.take k)).length ≤ k * 10 :=
  Nat.le_trans (jtR_len _) (Nat.mul_le_mul_right 10 (List.length_take_le _ _))

/-- the text so far -/
structure JtS (w : World) (ds : List (Int × Int)) (k : Nat) (o : ByteArray) (wr : World) : Prop where
  txt : o = bs (jtR (ds.take k))
  ok : jtB (ds.take k) = true
  bel : Below w.heap.size w wr

set_option maxRecDepth 100000 in
set_option maxHeartbeats 3200000 in
theorem specJournalText_any (a : Option Addr) (ds : List (Int × Int)) (c : Nat) (hn : ds.length ≤ 1048576) (w : World) (hd : Dds w a ds) :
    Calls Tryz.prog 40 #[.slice a ds.length c] w fun e w' => e = .returned (.string (bs (jtL ds))) ∧ Below w.heap.size w w' := by
  have HD := Lib.hid hd; clear hd
  obtain ⟨n, hnn⟩ : ∃ n, ds.length = n := ⟨_, rfl⟩
  have HN := Lib.hid hnn
  rw [hnn] at hn ⊢
  clear hnn
  have HST : Hid (JtS w ds 0 { data := #[] } w) := Lib.hid ⟨rfl, rfl, Below.refl _ _⟩
  go_enter Tryz.func40, Tryz.ntmps40
  go_wp2_with fail
  go_loopw [3, 4] (fun v i wr => ∃ (k : Nat) (o : ByteArray), k ≤ n ∧ i = .int .i64 k ∧ v = .string o ∧ o.size ≤ k * 10 ∧ Hid (JtS w ds k o wr)) (fun _ i _ => n - (intOf i).toNat)
  case atStart => exact ⟨0, _, Nat.zero_le _, rfl, rfl, by decide, HST⟩
  case round =>
    clear HST
    obtain ⟨k, o, hk, rfl, rfl, ho, HS⟩ := hrel
    by_cases hlt : k < n
    · have hki : (k : Int) < (n : Int) := by omega
      have hk0 : (0 : Int) ≤ (k : Int) := by omega
      have hkl : k < ds.length := by rw [HN.out]; exact hlt
      obtain ⟨b, off, rfl, hbl, hr⟩ := HD.out.row (by omega)
      have HRW := Lib.hid (fun W (hW : Below w.heap.size w W) => hr.kept hW hbl k hkl)
      have HY1 := Lib.hid (jtB_take hkl)
      have HY2 := Lib.hid (jtR_take hkl)
      have HY3 := Lib.hid (fun h => jtB_bad hkl h)
      obtain ⟨dk, hdk⟩ : ∃ dk, ds[k] = dk := ⟨_, rfl⟩
      rw [hdk] at HRW HY1 HY2 HY3
      obtain ⟨kk, xx⟩ := dk
      dsimp only at HRW HY1 HY2 HY3
      clear hr hbl hdk
      have hc := HRW.out wr HS.out.bel
      obtain ⟨hc0, hc1⟩ := hc
      cases hok : dOk kk xx with
      | true =>
        have hem := deedT_emp hok
        have hts : (deedT kk xx).size ≤ 9 := deed_len kk xx
        have HT := Lib.hid (show deedT kk xx = bs (deedL kk xx) from rfl)
        obtain ⟨t, ht⟩ : ∃ t, deedT kk xx = t := ⟨_, rfl⟩
        rw [ht] at hem hts HT
        have HTT := Lib.hid ht
        have hem2 : t.toList.isEmpty = false := hem
        have HOK := Lib.hid hok
        clear ht hok hem hkl
        go_wp2_with fail
        refine (specDeedText_any _ _ _).mono ?_
        rintro e w5 ⟨rfl, hb5⟩
        rw [HTT.out]
        have HB5 := Lib.hid (below_onto HS.out.bel hb5)
        obtain ⟨hd0, hd1⟩ := HRW.out w5 HB5.out
        clear hb5 hc0 hc1
        go_wp2_with fail
        refine (specDeedText_any _ _ _).mono ?_
        rintro e w6 ⟨rfl, hb6⟩
        rw [HTT.out]
        have HB6 := Lib.hid (below_onto HB5.out hb6)
        clear hb6 hd0 hd1
        have hns : (o ++ t ++ { data := #[10] }).size ≤ (k + 1) * 10 := by
          rw [ByteArray.size_append, ByteArray.size_append]
          have : ({ data := #[10] } : ByteArray).size = 1 := rfl
          omega
        have HNS := Lib.hid hns
        have HN2 : Hid (JtS w ds (k + 1) (o ++ t ++ { data := #[10] }) w6) := Lib.hid ⟨by
          rw [HY2.out, HS.out.txt, HT.out, show ({ data := #[10] } : ByteArray) = bs [10] from rfl, bs_app, bs_app, List.append_assoc], by rw [HY1.out, HS.out.ok, HOK.out]; rfl, HB6.out⟩
        clear hns
        go_wp2_with fail
        go_roundw
        case rel => exact ⟨k + 1, _, by omega, by go_num, rfl, HNS.out, HN2⟩
        case measure => simp [intOf]; omega
      | false =>
        have hem := deedT_emp hok
        have HE : Hid (({ data := #[] } : ByteArray) = bs (jtL ds)) := Lib.hid (by unfold jtL; rw [HY3.out hok]; rfl)
        obtain ⟨t, ht⟩ : ∃ t, deedT kk xx = t := ⟨_, rfl⟩
        rw [ht] at hem
        have HTT := Lib.hid ht
        have hem2 : t.toList.isEmpty = true := hem
        clear ht hok hem hkl
        go_wp2_with fail
        refine (specDeedText_any _ _ _).mono ?_
        rintro e w5 ⟨rfl, hb5⟩
        rw [HTT.out]
        have HB5 := Lib.hid (below_onto HS.out.bel hb5)
        clear hb5 hc0 hc1
        go_wp2_with fail
        go_ret
        exact ⟨rets HE.out, HB5.out⟩
    · have hki : ¬ (k : Int) < (n : Int) := by omega
      have hkn : k = n := by omega
      have HE : Hid (o = bs (jtL ds)) := Lib.hid (by
        have e : ds.take k = ds := by rw [hkn, ← HN.out, List.take_length]
        have h1 := HS.out.txt; have h2 := HS.out.ok
        rw [e] at h1 h2
        rw [h1]
        unfold jtL
        rw [h2]; rfl)
      have HB5 := Lib.hid HS.out.bel
      clear hkn hk
      go_wp2_with fail
      go_ret
      exact ⟨rets HE.out, HB5.out⟩

/-- the builder so far -/
structure JbS (w : World) (ds : List (Int × Int)) (k : Nat) (wr : World) : Prop where
  bld : Bld wr w.heap.size w.heap.size (jtR (ds.take k))
  ok : jtB (ds.take k) = true
  bel : Below w.heap.size w wr
  lt : w.heap.size < wr.heap.size

set_option maxRecDepth 100000 in
set_option maxHeartbeats 3200000 in
theorem JournalText_any (a : Option Addr) (ds : List (Int × Int)) (c : Nat) (hn : ds.length ≤ 1048576) (w : World) (hd : Dds w a ds) :
    Calls Tryz.prog 17 #[.slice a ds.length c] w fun e w' => e = .returned (.string (bs (jtL ds))) ∧ Below w.heap.size w w' := by
  have HD := Lib.hid hd; clear hd
  obtain ⟨n, hnn⟩ : ∃ n, ds.length = n := ⟨_, rfl⟩
  have HN := Lib.hid hnn
  rw [hnn] at hn ⊢
  clear hnn
  have HST : Hid (JbS w ds 0 (w.alloc (.cells #[.pointer none, .slice none 0 0] 86))) := Lib.hid ⟨Bld.new w, rfl, alloc_below w _, by rw [alloc_size]; omega⟩
  go_enter Tryz.func17, Tryz.ntmps17
  go_wp2_with fail
  go_loopw [5, 6, 9] (fun _ _ i wr => ∃ k : Nat, k ≤ n ∧ i = .int .i64 k ∧ Hid (JbS w ds k wr)) (fun _ _ i _ => n - (intOf i).toNat)
  case atStart => exact ⟨0, Nat.zero_le _, rfl, HST⟩
  case round =>
    clear HST
    obtain ⟨k, hk, rfl, HS⟩ := hrel
    by_cases hlt : k < n
    · have hki : (k : Int) < (n : Int) := by omega
      have hk0 : (0 : Int) ≤ (k : Int) := by omega
      have hkl : k < ds.length := by rw [HN.out]; exact hlt
      obtain ⟨b, off, rfl, hbl, hr⟩ := HD.out.row (by omega)
      have HRW := Lib.hid (fun W (hW : Below w.heap.size w W) => hr.kept hW hbl k hkl)
      have HY1 := Lib.hid (jtB_take hkl)
      have HY2 := Lib.hid (jtR_take hkl)
      have HY3 := Lib.hid (fun h => jtB_bad hkl h)
      have HLN := Lib.hid (jt_len_take ds k)
      obtain ⟨dk, hdk⟩ : ∃ dk, ds[k] = dk := ⟨_, rfl⟩
      rw [hdk] at HRW HY1 HY2 HY3
      obtain ⟨kk, xx⟩ := dk
      dsimp only at HRW HY1 HY2 HY3
      clear hr hbl hdk
      obtain ⟨hc0, hc1⟩ := HRW.out wr HS.out.bel
      have hbel2 := alloc_below wr (.cells #[.int .i64 kk, .int .i64 xx] 39)
      have HBL2 := Lib.hid (below_onto HS.out.bel hbel2)
      have HBD2 := Lib.hid (HS.out.bld.same hbel2)
      obtain ⟨w2, hw2⟩ : ∃ w2, wr.alloc (.cells #[.int .i64 kk, .int .i64 xx] 39) = w2 := ⟨_, rfl⟩
      have hblk := Blk2.new wr 39 (.int .i64 kk) (.int .i64 xx)
      rw [hw2] at HBL2 HBD2 hblk
      obtain ⟨hq0, hq1⟩ := hblk.cell
      clear hbel2 hblk
      cases hok : dOk kk xx with
      | true =>
        have hem := deedT_emp hok
        have hts : (deedT kk xx).size ≤ 9 := deed_len kk xx
        have HT := Lib.hid (show (deedT kk xx).data.toList = deedL kk xx from rfl)
        obtain ⟨t, ht⟩ : ∃ t, deedT kk xx = t := ⟨_, rfl⟩
        rw [ht] at hem hts HT
        have HTT := Lib.hid ht
        have hem2 : t.toList.isEmpty = false := hem
        have HOK := Lib.hid hok
        have HTS := Lib.hid hts
        clear ht hok hem hkl hts
        go_wp2_with fail
        refine (DeedText_any _ _ _).mono ?_
        rintro e w5 ⟨rfl, hb5⟩
        rw [HTT.out]
        have HB5 := Lib.hid (below_onto HBL2.out hb5)
        have HBD5 := Lib.hid (HBD2.out.same hb5)
        clear hb5 hc0 hc1 hq0 hq1 hw2
        go_wp2_with fail
        refine (WriteString_any w.heap.size w.heap.size _ t _ HBD5.out (by have := HLN.out; have := HTS.out; omega) HB5.out.size).mono ?_
        rintro e w6 ⟨v6, rfl, hbd6, hb6⟩
        have HB6 := Lib.hid (HB5.out.trans hb6)
        have HBD6 := Lib.hid hbd6
        clear hb6 hbd6
        go_wp2_with fail
        refine (WriteByte_any w.heap.size w.heap.size _ 10 _ HBD6.out (by rw [List.length_append]; have := HLN.out; have := HTS.out; have h9 : t.data.toList.length = t.size := (Lib.size_eq t).symm; omega) HB6.out.size).mono ?_
        rintro e w7 ⟨v7, rfl, hbd7, hb7⟩
        have HN2 : Hid (JbS w ds (k + 1) w7) := Lib.hid ⟨by
          rw [HY2.out, ← List.append_assoc]
          have h := hbd7
          rw [HT.out] at h
          exact h, by rw [HY1.out, HS.out.ok, HOK.out]; rfl, HB6.out.trans hb7, by
          obtain h | h := hbd7
          · exact h.lt
          · exact h.lt⟩
        clear hb7 hbd7
        go_wp2_with fail
        go_roundw
        case rel => exact ⟨k + 1, by omega, by go_num, HN2⟩
        case measure => simp [intOf]; omega
      | false =>
        have hem := deedT_emp hok
        have HE : Hid (({ data := #[] } : ByteArray) = bs (jtL ds)) := Lib.hid (by unfold jtL; rw [HY3.out hok]; rfl)
        obtain ⟨t, ht⟩ : ∃ t, deedT kk xx = t := ⟨_, rfl⟩
        rw [ht] at hem
        have HTT := Lib.hid ht
        have hem2 : t.toList.isEmpty = true := hem
        clear ht hok hem hkl
        go_wp2_with fail
        refine (DeedText_any _ _ _).mono ?_
        rintro e w5 ⟨rfl, hb5⟩
        rw [HTT.out]
        have HB5 := Lib.hid (below_onto HBL2.out hb5)
        clear hb5 hc0 hc1 hq0 hq1 hw2
        go_wp2_with fail
        go_ret
        exact ⟨rets HE.out, HB5.out⟩
    · have hki : ¬ (k : Int) < (n : Int) := by omega
      have hkn : k = n := by omega
      have HE : Hid (jtR (ds.take k) = jtL ds) := Lib.hid (by
        have e : ds.take k = ds := by rw [hkn, ← HN.out, List.take_length]
        have h2 := HS.out.ok
        rw [e] at h2 ⊢
        unfold jtL
        rw [h2]; rfl)
      clear hkn hk
      go_wp2_with fail
      refine (BString_any w.heap.size w.heap.size _ _ HS.out.bld HS.out.bel.size).mono ?_
      rintro e w5 ⟨rfl, hb5⟩
      have HB5 := Lib.hid (HS.out.bel.trans hb5)
      clear hb5
      go_wp2_with fail
      go_ret
      exact ⟨rets (by rw [HE.out]), HB5.out⟩
end Go.Proofs.YthaickihoagnmaaGreatDoor

namespace Go.Proofs.YthaickihoagnmaaGreatDoor
set_option linter.unusedVariables false
set_option linter.unusedSimpArgs false
open Go.RowKit Go.Shelf Go.Maps
attribute [local go_sem] Oper.semAt_some

/-! ### lines -/
theorem ib_split {l : List UInt8} {c : UInt8} {i : Nat} (h : Lib.indexByte l c = i) : ∃ a s, l = a ++ c :: s ∧ c ∉ a ∧ a.length = i := by
  induction l generalizing i with
  | nil => exact absurd h (by show ¬ (-1 : Int) = _; omega)
  | cons b l ih =>
    unfold Lib.indexByte at h
    by_cases hb : (b == c) = true
    · rw [if_pos hb] at h
      have : i = 0 := by omega
      subst this
      exact ⟨[], l, by rw [beq_iff_eq.1 hb]; rfl, by simp, rfl⟩
    · rw [if_neg hb] at h
      by_cases h2 : (Lib.indexByte l c == -1) = true
      · rw [if_pos h2] at h; omega
      · rw [if_neg h2] at h
        have h3 : Lib.indexByte l c ≠ -1 := by simpa using h2
        have h4 := Lib.indexByte_ge l c
        obtain ⟨j, hj⟩ : ∃ j : Nat, Lib.indexByte l c = j := ⟨(Lib.indexByte l c).toNat, by omega⟩
        obtain ⟨a, s, e1, e2, e3⟩ := ih hj
        refine ⟨b :: a, s, by rw [e1]; rfl, ?_, by rw [List.length_cons, e3]; omega⟩
        intro hm
        rcases List.mem_cons.1 hm with hm | hm
        · exact hb (by rw [hm]; simp)
        · exact e2 hm
theorem ib_none {l : List UInt8} {c : UInt8} (h : Lib.indexByte l c < 0) : c ∉ l := by
  intro hm
  have := ib_yes (List.contains_iff_mem.2 hm)
  omega
def totB (pre : List ByteArray) : Nat := (pre.map (fun x => x.size)).sum
theorem totB_snoc (pre : List ByteArray) (x : ByteArray) : totB (pre ++ [x]) = totB pre + x.size := by unfold totB; simp
/-- the line with which a text begins -/
def FirstL (r : List UInt8) (x : ByteArray) : Prop := (∃ a s, r = a ++ 10 :: s ∧ (10 : UInt8) ∉ a ∧ x = bs (a ++ [10])) ∨ ((10 : UInt8) ∉ r ∧ r ≠ [] ∧ x = bs r)
def LnSp (l : List UInt8) (ys : List ByteArray) : Prop := ∀ pre x, ys = pre ++ [x] → FirstL (l.drop (totB pre)) x
def LnS (l : List UInt8) (xs : List ByteArray) : Prop := l.drop (totB xs) = []
theorem LnSp.mk {l : List UInt8} {pre : List ByteArray} {x : ByteArray} (h : FirstL (l.drop (totB pre)) x) : LnSp l (pre ++ [x]) := by
  intro p y e
  have := List.append_inj' e rfl
  obtain ⟨rfl, h2⟩ := this
  cases h2
  exact h
theorem LnSp.at {l : List UInt8} {pre : List ByteArray} {x : ByteArray} (h : LnSp l (pre ++ [x])) : FirstL (l.drop (totB pre)) x := h pre x rfl

theorem Lines_any (s : ByteArray) (w : World) :
    Calls Tryz.prog 44 #[.string s] w fun e w' => e = .returned (.func (.func 101) #[] #[.pointer (some ⟨w.heap.size, 0, none⟩)]) ∧
      w' = w.alloc (.cells #[.string s] 9) := by
  have hmf : ∀ (fn : Fn) (first cap : Array Value) (w : World), (Instr.makeFunc fn first cap).run Tryz.prog w = .ok (.func fn first cap) w := fun _ _ _ _ => rfl
  go_enter Tryz.func44, Tryz.ntmps44
  go_wp2_with fail
  go_ret
  exact ⟨rfl, rfl⟩

theorem headSl (s : ByteArray) (p : Nat) (hp : p ≤ s.size) (w : World) : (Instr.slice 9 (.string s) none (some (.int .i64 (p : Int))) none).run Tryz.prog w = .ok (.string (s.extract 0 p)) w := by
  rw [run_slice_string_h (P := Tryz.prog) (ht := Tryz.underlying9) (kh := .i64) (h := (p : Int)) (h0 := by omega) (h2 := by omega)]
  rfl
theorem mvd_store {Bp B : Nat} {w w' : World} (hb : Below w.heap.size w w') (v : Value) : Mvd (fun k => k = Bp) B w (w'.setCell ⟨Bp, 0, none⟩ v) :=
  ⟨hb.os, hb.tape, hb.output, by rw [show (w'.setCell ⟨Bp, 0, none⟩ v).heap.size = w'.heap.size by simp [World.setCell]]; exact hb.size, fun k hk hn _ => (Below.heap_setCell _ _ _ k (by exact hn)).trans (hb.block k hk)⟩

/-- the iterator between two rounds -/
structure LnR (l : List UInt8) (Bp : Nat) (J : List ByteArray → World → Prop) (pre : List ByteArray) (cur : ByteArray) (wr : World) : Prop where
  j : J pre wr
  box : Boxed wr Bp 9 (.string cur)
  cur : cur = bs (l.drop (totB pre))
  len : pre.length ≤ totB pre ∧ totB pre ≤ l.length
def curSize (Bp : Nat) (w : World) : Nat := match w.cell? ⟨Bp, 0, none⟩ with | some (.string c) => c.size | _ => 0
theorem curSize_box {Bp : Nat} {w : World} {c : ByteArray} (h : Boxed w Bp 9 (.string c)) : curSize Bp w = c.size := by unfold curSize; rw [h.cell]
theorem FirstL.size {r : List UInt8} {x : ByteArray} (h : FirstL r x) : 1 ≤ x.size ∧ x.size ≤ r.length := by
  rcases h with ⟨a, s, rfl, _, rfl⟩ | ⟨_, h, rfl⟩
  · rw [bs_size]; simp
  · rw [bs_size]
    cases r with
    | nil => exact absurd rfl h
    | cons b r => simp
theorem drop_tot {l : List UInt8} {pre : List ByteArray} {x : ByteArray} : l.drop (totB (pre ++ [x])) = (l.drop (totB pre)).drop x.size := by rw [totB_snoc, List.drop_drop]

set_option maxRecDepth 100000 in
set_option maxHeartbeats 4000000 in
theorem linesC_in (N l0 Bp : Nat) (s : ByteArray) (hs : s.size ≤ 1099511627776) (J Jx : List ByteArray → World → Prop) (W : World)
    (hA : ∀ B, W.heap.size ≤ B → AbideB Bp B J)
    (hY : ∀ pre x W1, J pre W1 → pre.length < s.size → LnSp s.data.toList (pre ++ [x]) → YieldAt Fence.wide (N - 1) Tryz.prog l0 #[.string x] W1 fun e W' =>
      (e = .returned (.bool true) ∧ J (pre ++ [x]) W' ∧ W1.heap.size ≤ W'.heap.size ∧ W'.heap[Bp]? = W1.heap[Bp]?) ∨ (e = .returned (.bool false) ∧ Jx (pre ++ [x]) W'))
    (hp : Boxed W Bp 9 (.string s)) (h0 : J [] W) :
    CallsIn Fence.wide N Tryz.prog 101 #[.func (.yield l0) #[] #[], .pointer (some ⟨Bp, 0, none⟩)] W fun e W' => (∃ v, e = .returned v) ∧
      ((∃ xs, LnS s.data.toList xs ∧ J xs W') ∨ (∃ pre, LnSp s.data.toList pre ∧ Jx pre W')) := by
  have HY := Lib.hid hY
  have HJA := Lib.hid hA
  have HST := Lib.hid (show LnR s.data.toList Bp J [] s W from ⟨h0, hp, by show s = bs (s.data.toList.drop 0); rfl, Nat.le_refl _, Nat.zero_le _⟩)
  clear hY hA hp h0
  refine callsIn_of_wp Tryz.func101 rfl trivial ?_ rfl
  simp only [Tryz.ntmps101, List.size_toArray, List.length_cons, List.length_nil, Nat.reduceAdd, Nat.reduceSub, Array.replicate_succ, Array.replicate_zero, List.push_toArray, List.append_toArray, List.nil_append, List.cons_append]
  gi_wp2_with fail
  gi_loopw [3, 4] (fun _ _ wr => ∃ (pre : List ByteArray) (cur : ByteArray), Hid (LnR s.data.toList Bp J pre cur wr)) (fun _ _ wr => curSize Bp wr)
  case atStart => exact ⟨[], s, HST⟩
  case round =>
    clear HST
    obtain ⟨pre, cur, HR⟩ := hrel
    have hcell := HR.out.box.cell
    have HM := Lib.hid (curSize_box HR.out.box)
    have HSZ := Lib.hid (show cur.size ≤ 1099511627776 by
      rw [HR.out.cur, bs_size, List.length_drop]
      have := Lib.size_eq s
      omega)
    by_cases h0 : cur.size = 0
    · have hd : decide (0 < cur.size) = false := decide_eq_false (by omega)
      have HE := Lib.hid (show LnS s.data.toList pre by
        unfold LnS
        have h1 := HR.out.cur
        have : (bs (s.data.toList.drop (totB pre))).size = 0 := by rw [← h1]; exact h0
        rw [bs_size] at this
        exact List.eq_nil_of_length_eq_zero this)
      clear h0
      gi_wp2_with fail
      go_end0
      exact ⟨⟨_, rfl⟩, .inl ⟨pre, HE.out, HR.out.j⟩⟩
    · have hd : decide (0 < cur.size) = true := decide_eq_true (by omega)
      have hlen : pre.length < s.size := by
        have h1 := HR.out.len
        have h2 : cur.size = s.data.toList.length - totB pre := by rw [HR.out.cur, bs_size, List.length_drop]
        have := Lib.size_eq s
        omega
      have HLN := Lib.hid hlen
      clear hlen
      by_cases hz : Lib.indexByte cur.data.toList 10 < 0
      · have hdz : decide ((0 : Int) ≤ Lib.indexByte cur.data.toList 10) = false := decide_eq_false (by omega)
        have HF := Lib.hid (show FirstL (s.data.toList.drop (totB pre)) cur from by
          right
          have h1 := HR.out.cur
          have h2 : cur.data.toList = s.data.toList.drop (totB pre) := by rw [h1]; rfl
          refine ⟨by rw [← h2]; exact ib_none hz, fun e => ?_, h1⟩
          rw [← h2] at e
          have := Lib.size_eq cur
          rw [e] at this
          exact h0 this)
        have HNZ := Lib.hid h0
        clear hz h0
        have hf0 := HR.out.box.frozen
        gi_wp2_with fail
        refine ⟨trivial, (fun h => by cases h), (callsIn_wide.2 (IndexByte_any cur 10 _)).mono ?_⟩
        rintro e w' ⟨rfl, rfl⟩
        rw [show ((10 : Int).toNat.toUInt8) = (10 : UInt8) from rfl]
        obtain ⟨z, hz⟩ : ∃ z, Lib.indexByte cur.data.toList 10 = z := ⟨_, rfl⟩
        rw [hz] at hdz ⊢
        clear hz
        obtain ⟨fn, tmps, assign, body, hy, hR⟩ := HY.out pre cur (wr.setCell ⟨Bp, 0, none⟩ (.string { data := #[] })) (HJA.out _ (Nat.le_refl _) pre wr _ HR.out.j (mvd_store (Below.refl _ _) _)) HLN.out (LnSp.mk HF.out)
        gi_wp2_with fail
        refine ⟨(fun h => by cases h), hR.mono ?_⟩
        rintro e W3 (⟨rfl, hJ3, hs3, hk3⟩ | ⟨rfl, hJx3⟩)
        · have hbox3 : Boxed W3 Bp 9 (.string { data := #[] }) := hk3.trans (HR.out.box.set (.string { data := #[] }))
          have HR3 := Lib.hid (show LnR s.data.toList Bp J (pre ++ [cur]) { data := #[] } W3 from ⟨hJ3, hbox3, by rw [drop_tot]; exact list_inj (by rw [bs_data]; have h1 := HR.out.cur; have h2 : cur.data.toList = s.data.toList.drop (totB pre) := (by rw [h1]; rfl); rw [← h2, Lib.size_eq, List.drop_length]), by
            have h1 := HF.out.size; have h2 := HR.out.len
            rw [List.length_drop] at h1
            rw [totB_snoc, List.length_append, List.length_singleton]; omega⟩)
          have HM3 := Lib.hid (curSize_box hbox3)
          have HLT := Lib.hid (show curSize Bp W3 < curSize Bp wr by rw [HM3.out, HM.out]; have h1 := HNZ.out; show 0 < cur.size; omega)
          clear hJ3 hs3 hk3 hbox3 hy hR
          gi_wp2_with fail
          go_roundw
          case rel => exact ⟨_, _, HR3⟩
          case measure => exact HLT.out
        · have HJX := Lib.hid hJx3
          clear hy hR hJx3
          gi_wp2_with fail
          refine bodyPost_ret (results_none rfl _ _ _) rfl ?_
          exact ⟨⟨_, rfl⟩, .inr ⟨_, LnSp.mk HF.out, HJX.out⟩⟩
      · obtain ⟨i, hi⟩ : ∃ i : Nat, Lib.indexByte cur.data.toList 10 = i := ⟨(Lib.indexByte cur.data.toList 10).toNat, by omega⟩
        have hir := ib_rng cur.data.toList 10
        rw [← Lib.size_eq, hi] at hir
        have hdz : decide ((0 : Int) ≤ (i : Int)) = true := decide_eq_true (by omega)
        have HI := Lib.hid hi
        have hi1 : i + 1 ≤ cur.size := by omega
        have HF := Lib.hid (show FirstL (s.data.toList.drop (totB pre)) (cur.extract 0 (i + 1)) from by
          left
          have h1 := HR.out.cur
          have h2 : cur.data.toList = s.data.toList.drop (totB pre) := by rw [h1]; rfl
          obtain ⟨a, r, e1, e2, e3⟩ := ib_split hi
          refine ⟨a, r, by rw [← h2]; exact e1, e2, list_inj ?_⟩
          rw [Lib.extract_data, bs_data, List.drop_zero, e1, Nat.sub_zero]
          rw [show i + 1 = (a ++ [10]).length by rw [List.length_append, e3]; rfl]
          rw [show a ++ 10 :: r = (a ++ [10]) ++ r by simp, List.take_left])
        have HX := Lib.hid (show (cur.extract 0 (i + 1)).size = i + 1 by rw [ByteArray.size_extract]; omega)
        have HC2 := Lib.hid (show cur.extract (i + 1) cur.size = bs ((s.data.toList.drop (totB pre)).drop (i + 1)) from by
          have h1 := HR.out.cur
          have h2 : cur.data.toList = s.data.toList.drop (totB pre) := by rw [h1]; rfl
          exact list_inj (by rw [Lib.extract_to_end, bs_data, h2]))
        have hs1 := fun w => headSl cur (i + 1) hi1 w
        have hs2 := fun w => endSl cur (i + 1) hi1 w
        have ec : ((i + 1 : Nat) : Int) = (i : Int) + 1 := by omega
        rw [ec] at hs1 hs2
        obtain ⟨x, hx⟩ : ∃ x, cur.extract 0 (i + 1) = x := ⟨_, rfl⟩
        obtain ⟨y, hy⟩ : ∃ y, cur.extract (i + 1) cur.size = y := ⟨_, rfl⟩
        rw [hx] at hs1 HF HX
        rw [hy] at hs2 HC2
        have HI1 := Lib.hid hi1
        clear hz h0 hi hir ec hx hy hi1
        have hii0 : (0 : Int) ≤ (i : Int) := by omega
        have hii1 : (i : Int) ≤ 1099511627776 := by
          have h1 := HI1.out; have h2 := HSZ.out
          omega
        have hf0 := HR.out.box.frozen
        gi_wp2_with fail
        refine ⟨trivial, (fun h => by cases h), (callsIn_wide.2 (IndexByte_any cur 10 _)).mono ?_⟩
        rintro e w' ⟨rfl, rfl⟩
        rw [show ((10 : Int).toNat.toUInt8) = (10 : UInt8) from rfl, HI.out]
        gi_wp2_with fail
        have hwr : IntKind.i64.wrap ((i : Int) + 1) = (i : Int) + 1 := wrap_in _ (by unfold I64; omega)
        have hBX := HR.out.box
        obtain ⟨wx, hwx⟩ : ∃ wx, wr.drew = wx := ⟨_, rfl⟩
        have hbx : Below wr.heap.size wr wx := by rw [← hwx]; exact below_drewN (Below.refl _ _) 1
        have hBX2 : Boxed wx Bp 9 (.string cur) := (hbx.block _ hBX.lt).trans hBX
        have HWX := Lib.hid hwx
        have HBX2 := Lib.hid hBX2
        have HBXX := Lib.hid hbx
        clear hwx hBX hbx hBX2
        refine wpIn_wide.2 ?_
        go_still_tail 9, (by kernel_rfl)
        change wpList _ _ _ _ _ wr.drew
        rw [HWX.out]
        clear hwr hcell hf0
        have hcell := HBX2.out.cell
        have hf0 := HBX2.out.frozen
        obtain ⟨fn, tmps, assign, body, hy, hR⟩ := HY.out pre x (wx.setCell ⟨Bp, 0, none⟩ (.string y)) (HJA.out _ (Nat.le_refl _) pre wr _ HR.out.j (mvd_store HBXX.out _)) HLN.out (LnSp.mk HF.out)
        go_wp2_with fail
        gi_wp2_with fail
        refine ⟨(fun h => by cases h), hR.mono ?_⟩
        rintro e W3 (⟨rfl, hJ3, hs3, hk3⟩ | ⟨rfl, hJx3⟩)
        · have hbox3 : Boxed W3 Bp 9 (.string y) := hk3.trans (HBX2.out.set (.string y))
          have HR3 := Lib.hid (show LnR s.data.toList Bp J (pre ++ [x]) y W3 from ⟨hJ3, hbox3, by rw [drop_tot, HX.out]; exact HC2.out, by
            have h1 := HF.out.size; have h2 := HR.out.len
            rw [List.length_drop] at h1
            rw [totB_snoc, List.length_append, List.length_singleton]; omega⟩)
          have HM3 := Lib.hid (curSize_box hbox3)
          have HLT := Lib.hid (show curSize Bp W3 < curSize Bp wr by rw [HM3.out, HM.out]; have h1 : y.size = (s.data.toList.drop (totB pre)).length - (i + 1) := (by rw [HC2.out, bs_size, List.length_drop]); have h2 : (s.data.toList.drop (totB pre)).length = cur.size := (by rw [HR.out.cur, bs_size]); have h3 := HI1.out; omega)
          clear hJ3 hs3 hk3 hbox3 hy hR
          gi_wp2_with fail
          go_roundw
          case rel => exact ⟨_, _, HR3⟩
          case measure => exact HLT.out
        · have HJX := Lib.hid hJx3
          clear hy hR hJx3
          gi_wp2_with fail
          refine bodyPost_ret (results_none rfl _ _ _) rfl ?_
          exact ⟨⟨_, rfl⟩, .inr ⟨_, LnSp.mk HF.out, HJX.out⟩⟩

theorem lines_stops (N Bp : Nat) (s : ByteArray) (hs : s.size ≤ 1099511627776) (w : World) (hp : Boxed w Bp 9 (.string s)) :
    SeqB Fence.wide N Tryz.prog 101 #[.pointer (some ⟨Bp, 0, none⟩)] (fun x : ByteArray => #[Value.string x]) Bp (LnS s.data.toList) (LnSp s.data.toList) s.size w := fun l J Jx W hW hJ _ hY h0 =>
  linesC_in N l Bp s hs J Jx W hJ hY ((hW.block _ hp.lt).trans hp) h0
end Go.Proofs.YthaickihoagnmaaGreatDoor

namespace Go.Proofs.YthaickihoagnmaaGreatDoor
set_option linter.unusedVariables false
set_option linter.unusedSimpArgs false
open Go.RowKit Go.Shelf Go.Maps
attribute [local go_sem] Oper.semAt_some

/-! ### a newline at the end -/
theorem lastSl (a : List UInt8) (b : UInt8) (s : ByteArray) (h : s = bs (a ++ [b])) (w : World) :
    (Instr.slice 9 (.string s) (some (.int .i64 ((s.size : Int) - 1))) none none).run Tryz.prog w = .ok (.string (bs [b])) w ∧
    (Instr.slice 9 (.string s) none (some (.int .i64 ((s.size : Int) - 1))) none).run Tryz.prog w = .ok (.string (bs a)) w := by
  have hs : s.size = a.length + 1 := by rw [h, bs_size, List.length_append]; rfl
  have e : (s.size : Int) - 1 = ((a.length : Nat) : Int) := by omega
  have hd : s.data.toList = a ++ [b] := by rw [h]; rfl
  rw [e]
  refine ⟨?_, ?_⟩
  · rw [endSl s a.length (by omega)]
    rw [show s.extract a.length s.size = bs [b] from list_inj (by rw [Lib.extract_to_end, bs_data, hd, List.drop_left])]
  · rw [headSl s a.length (by omega)]
    rw [show s.extract 0 a.length = bs a from list_inj (by rw [Lib.extract_data, bs_data, hd, List.drop_zero, Nat.sub_zero, List.take_left])]
theorem eqNl (b : UInt8) : ((bs [b]).toList == ({ data := #[10] } : ByteArray).toList) = (b == 10) := by
  rw [eqT]
  by_cases h : b = 10
  · subst h; rfl
  · have h1 : (b == 10) = false := by simpa using h
    rw [h1]
    refine decide_eq_false (fun e => h ?_)
    have e : [b] = [10] := e
    simpa using e

set_option maxRecDepth 100000 in
set_option maxHeartbeats 1600000 in
theorem HasSuffix_nl (a : List UInt8) (b : UInt8) (s : ByteArray) (h : s = bs (a ++ [b])) (hs : s.size ≤ 1099511627776) (v : Bool) (hv : (b == 10) = v) (w : World) :
    Calls Tryz.prog 131 #[.string s, .string { data := #[10] }] w fun e w' => e = .returned (.bool v) ∧ w = w' := by
  have hs1 := fun w => (lastSl a b s h w).1
  have hn : 1 ≤ s.size := by rw [h, bs_size, List.length_append]; simp
  have hd : decide (1 ≤ s.size) = true := decide_eq_true hn
  have hd1 : decide ((1 : Int) ≤ (s.size : Int)) = true := decide_eq_true (by omega)
  have hq := eqNl b
  rw [hv] at hq
  obtain ⟨t, ht⟩ : ∃ t, bs [b] = t := ⟨_, rfl⟩
  rw [ht] at hs1 hq
  have hq2 : (t.toList == [10]) = v := by rw [← hq, show ({ data := #[10] } : ByteArray).toList = [10] from bs_list [10]]
  clear ht h hv
  cases v
  all_goals
    go_enter Tryz.func131, Tryz.ntmps131
    go_wp2_with fail
    go_ret
    exact ⟨rfl, rfl⟩
def csE (a : List UInt8) (b : UInt8) (s : ByteArray) : ByteArray := if b == 10 then bs a else s
set_option maxRecDepth 100000 in
set_option maxHeartbeats 1600000 in
theorem liteCutSuffix_nl (a : List UInt8) (b : UInt8) (s : ByteArray) (h : s = bs (a ++ [b])) (hs : s.size ≤ 1099511627776) (v : Bool) (hv : (b == 10) = v) (w : World) :
    Calls Tryz.prog 103 #[.string s, .string { data := #[10] }] w fun e w' => e = .returned (.tuple #[.string (csE a b s), .bool v]) ∧ w = w' := by
  have hs2 := fun w => (lastSl a b s h w).2
  have HH := Lib.hid h; have HV := Lib.hid hv
  have HC : Hid (csE a b s = if v then bs a else s) := Lib.hid (by unfold csE; rw [hv])
  have hn : 1 ≤ s.size := by rw [h, bs_size, List.length_append]; simp
  clear h hv
  cases v with
  | true =>
    have HC2 : Hid (csE a b s = bs a) := Lib.hid HC.out
    obtain ⟨t, ht⟩ : ∃ t, bs a = t := ⟨_, rfl⟩
    rw [ht] at hs2 HC2
    clear ht HC
    go_enter Tryz.func103, Tryz.ntmps103
    go_wp2_with fail
    refine (HasSuffix_nl a b s HH.out hs true HV.out _).mono ?_
    rintro e w' ⟨rfl, rfl⟩
    go_wp2_with fail
    go_ret2
    exact ⟨by rw [HC2.out] <;> rfl, rfl⟩
  | false =>
    have HC2 : Hid (csE a b s = s) := Lib.hid HC.out
    clear HC hs2
    go_enter Tryz.func103, Tryz.ntmps103
    go_wp2_with fail
    refine (HasSuffix_nl a b s HH.out hs false HV.out _).mono ?_
    rintro e w' ⟨rfl, rfl⟩
    go_wp2_with fail
    go_ret2
    exact ⟨by rw [HC2.out] <;> rfl, rfl⟩
theorem CutSuffix_nl (a : List UInt8) (b : UInt8) (s : ByteArray) (h : s = bs (a ++ [b])) (hs : s.size ≤ 1099511627776) (v : Bool) (hv : (b == 10) = v) (w : World) :
    Calls Tryz.prog 45 #[.string s, .string { data := #[10] }] w fun e w' => e = .returned (.tuple #[.string (csE a b s), .bool v]) ∧ w = w' := by
  have HH := Lib.hid h; have HV := Lib.hid hv
  clear h hv
  obtain ⟨t, ht⟩ : ∃ t, csE a b s = t := ⟨_, rfl⟩
  have HT := Lib.hid ht
  rw [ht]
  clear ht
  go_enter Tryz.func45, Tryz.ntmps45
  go_wp2_with fail
  refine (liteCutSuffix_nl a b s HH.out hs v HV.out _).mono ?_
  rintro e w' ⟨rfl, rfl⟩
  rw [HT.out]
  go_wp2_with fail
  go_ret2
  exact ⟨rfl, rfl⟩

/-! ### the journal, line by line -/
structure RjV (l : List UInt8) (R0 : Nat) (w : World) (p : Nat) (v : Value) (ds : List (Int × Int)) (W : World) : Prop where
  box : Boxed W R0 24 v
  own : OwnD W R0 v ds
  apart : v.ownBlock ≠ some (R0 + 2)
  cnt : Boxed W (R0 + 1) 3 (.int .i64 (p : Int))
  rj : RjS l ds p
  bel : Below R0 w W
  size : R0 + 3 ≤ W.heap.size
def RjI (l : List UInt8) (R0 : Nat) (w : World) (pre : List ByteArray) (W : World) : Prop := ∃ v ds, RjV l R0 w (totB pre) v ds W
def RjX (l : List UInt8) (R0 : Nat) (w : World) (id : Nat) (pre : List ByteArray) (W : World) : Prop := id = 0 ∧ ∃ v ds p, RjV l R0 w p v ds W ∧ IsRj l ds
theorem RjV.moved {l : List UInt8} {R0 p B : Nat} {w W W' : World} {v : Value} {ds : List (Int × Int)} (h : RjV l R0 w p v ds W) (hB : R0 + 3 ≤ B) (hR : R0 ≤ w.heap.size) (hm : Mvd (fun k => k = R0 + 2) B W W') : RjV l R0 w p v ds W' := by
  have hs := hm.size
  have h3 := h.size
  have hb := h.bel
  refine ⟨(hm.block _ h.box.lt (by omega) (fun hh => by omega)).trans h.box, ?_, h.apart, (hm.block _ h.cnt.lt (by omega) (fun hh => by omega)).trans h.cnt, h.rj, ?_, by omega⟩
  · have ho := h.own
    have hlt := World.ownsRow.lt ho
    obtain ⟨h5, h6⟩ := ho
    refine ⟨h5, ?_⟩
    rcases h6 with h6 | ⟨g, cap, cur, hv, hBg, hg, hr⟩
    · exact .inl h6
    · refine .inr ⟨g, cap, cur, hv, hBg, ?_, hr⟩
      rw [hm.block g (Array.getElem?_eq_some_iff.1 hg).1 (fun e => h.apart (by rw [hv, e]; rfl)) (fun _ o ho => by rw [hg] at ho; cases ho; rfl)]
      exact hg
  · exact ⟨hm.os.trans hb.os, hm.tape.trans hb.tape, hm.output.trans hb.output, Nat.le_trans hb.size hm.size, fun k hk => (hm.block k (by omega) (by omega) (fun hh => by omega)).trans (hb.block k hk)⟩
theorem RjI.abide {l : List UInt8} {R0 B : Nat} {w : World} (hB : R0 + 3 ≤ B) (hR : R0 ≤ w.heap.size) : AbideB (R0 + 2) B (RjI l R0 w) := by
  rintro s W W' ⟨v, ds, h⟩ hm
  exact ⟨v, ds, h.moved hB hR hm⟩
theorem RjX.abide {l : List UInt8} {R0 B id : Nat} {w : World} (hB : R0 + 3 ≤ B) (hR : R0 ≤ w.heap.size) : AbideB (R0 + 2) B (RjX l R0 w id) := by
  rintro s W W' ⟨h0, v, ds, p, h, hr⟩ hm
  exact ⟨h0, v, ds, p, h.moved hB hR hm, hr⟩
theorem RjV.kept {l : List UInt8} {R0 p : Nat} {w W W' : World} {v : Value} {ds : List (Int × Int)} (h : RjV l R0 w p v ds W) (hR : R0 ≤ w.heap.size) (hb : Below W.heap.size W W') : RjV l R0 w p v ds W' :=
  h.moved (B := R0 + 3) (Nat.le_refl _) hR ⟨hb.os, hb.tape, hb.output, hb.size, fun k hk _ _ => hb.block k hk⟩
theorem keepsFrom_of {B : Nat} {W X : World} (hb : Below W.heap.size W X) : KeepsFrom B W X := ⟨hb.size, fun k o _ hk _ => (hb.block k (Array.getElem?_eq_some_iff.1 hk).1).trans hk⟩
/-- a deed more -/
theorem RjV.more {l : List UInt8} {R0 p q : Nat} {w W w1 : World} {v v' : Value} {ds : List (Int × Int)} {d : Int × Int} {tmp : Obj} (h : RjV l R0 w p v ds W) (hR : R0 ≤ w.heap.size)
    (hown' : OwnD w1 R0 v' (ds ++ [d])) (hgrow : (W.alloc tmp).grownBy w1 v.ownBlock) (hat : v'.ownBlock = v.ownBlock ∨ v'.ownBlock = some (W.heap.size + 1)) (hrj : RjS l (ds ++ [d]) q) :
    Boxed w1 R0 24 v ∧ Boxed (w1.setCell ⟨R0, 0, none⟩ v') (R0 + 1) 3 (.int .i64 (p : Int)) ∧
    RjV l R0 w q v' (ds ++ [d]) ((w1.setCell ⟨R0, 0, none⟩ v').setCell ⟨R0 + 1, 0, none⟩ (.int .i64 (q : Int))) ∧ KeepsFrom (R0 + 3) W ((w1.setCell ⟨R0, 0, none⟩ v').setCell ⟨R0 + 1, 0, none⟩ (.int .i64 (q : Int))) ∧
    ((w1.setCell ⟨R0, 0, none⟩ v').setCell ⟨R0 + 1, 0, none⟩ (.int .i64 (q : Int))).heap[R0 + 2]? = W.heap[R0 + 2]? := by
  have hWR : R0 ≤ W.heap.size := by have := h.size; omega
  obtain ⟨hv1, hv2, hr2, hk2, hb2⟩ := h.box.appended (by decide) h.own hWR (Nat.le_refl _) hown' hgrow
  have hs : ∀ (X : World) a u, (X.setCell a u).heap.size = X.heap.size := fun X a u => by simp [World.setCell]
  have hs1 : W.heap.size + 1 ≤ w1.heap.size := by have := hgrow.size; rw [alloc_size] at this; exact this
  have h3 := h.size
  have hcg : some (R0 + 1) ≠ v.ownBlock := h.cnt.not_row (by decide) h.own
  have hc1 : Boxed (w1.setCell ⟨R0, 0, none⟩ v') (R0 + 1) 3 (.int .i64 (p : Int)) := by
    refine ((Below.heap_setCell _ _ _ (R0 + 1) (by show R0 + 1 ≠ R0; omega)).trans ((hgrow.block _ (by rw [alloc_size]; omega) (fun e => hcg (by rw [e]))).trans (Below.heap_alloc _ _ _ (by omega)))).trans h.cnt
  have hap' : v'.ownBlock ≠ some (R0 + 2) := by
    rcases hat with e | e
    · rw [e]; exact h.apart
    · rw [e]; intro e2; have : W.heap.size + 1 = R0 + 2 := by simpa using e2
      omega
  refine ⟨hv1, hc1, ⟨?_, ?_, hap', hc1.set _, hrj, ?_, ?_⟩, (hk2.trans (KeepsOthers.setCell _ _ _)).from _, ?_⟩
  · exact (Below.heap_setCell _ _ _ R0 (by show R0 ≠ R0 + 1; omega)).trans hv2
  · exact World.ownsRow.kept hr2 (grownBy_setCell' _ (R0 + 1) _) (.inr (hc1.not_row (by decide) hr2).symm)
  · exact (h.bel.trans hb2).setCell (p := ⟨R0 + 1, 0, none⟩) (by show R0 ≤ R0 + 1; omega) _
  · rw [hs, hs]; omega
  · rw [Below.heap_setCell _ _ _ (R0 + 2) (by show R0 + 2 ≠ R0 + 1; omega), Below.heap_setCell _ _ _ (R0 + 2) (by show R0 + 2 ≠ R0; omega)]
    exact (hgrow.block _ (by rw [alloc_size]; omega) (fun e => h.apart (by rw [e]))).trans (Below.heap_alloc _ _ _ (by omega))
end Go.Proofs.YthaickihoagnmaaGreatDoor

namespace Go.Proofs.YthaickihoagnmaaGreatDoor
set_option linter.unusedVariables false
set_option linter.unusedSimpArgs false
open Go.RowKit Go.Shelf Go.Maps
attribute [local go_sem] Oper.semAt_some

/-- the deeds that were read, and how many bytes -/
def RjEnd (l : List UInt8) (w : World) (e : Ending) (w' : World) : Prop := ∃ v ds, e = .returned (.tuple #[v, .int .i64 ((jtR ds).length : Int)]) ∧ IsRj l ds ∧ OwnD w' w.heap.size v ds ∧ Below w.heap.size w w'

set_option maxRecDepth 100000 in
set_option maxHeartbeats 4000000 in
theorem ReadJournal_any (s : ByteArray) (hs : s.size ≤ 1048600) (w : World) :
    Calls Tryz.prog 9 #[.string s] w (RjEnd s.data.toList w) := by
  refine (callsIn_wide (n := 3)).1 ?_
  refine callsIn_of_wp_marks Tryz.func9 rfl trivial ?_ rfl
  simp only [Tryz.ntmps9, List.size_toArray, List.length_cons, List.length_nil, Nat.reduceAdd, Nat.reduceSub, Array.replicate_succ, Array.replicate_zero, List.push_toArray, List.append_toArray, List.nil_append, List.cons_append]
  gi_wp2_with fail
  refine ⟨trivial, (callsIn_wide.2 (Lines_any s _)).mono ?_⟩
  rintro e w' ⟨rfl, rfl⟩
  gi_wp2_with fail
  have q1 := alloc_below w (.cells #[.slice none 0 0] 24)
  have q2 := alloc_below (w.alloc (.cells #[.slice none 0 0] 24)) (.cells #[.int .i64 0] 3)
  have q3 := alloc_below ((w.alloc (.cells #[.slice none 0 0] 24)).alloc (.cells #[.int .i64 0] 3)) (.cells #[.string s] 9)
  have b1 := Boxed.new w 24 (.slice none 0 0)
  have b2 := Boxed.new (w.alloc (.cells #[.slice none 0 0] 24)) 3 (.int .i64 0)
  have b3 := Boxed.new ((w.alloc (.cells #[.slice none 0 0] 24)).alloc (.cells #[.int .i64 0] 3)) 9 (.string s)
  simp only [alloc_size] at q1 q2 q3 b1 b2 b3
  replace b1 := (b1.alloc (.cells #[.int .i64 0] 3)).alloc (.cells #[.string s] 9)
  replace b2 := b2.alloc (.cells #[.string s] 9)
  have hb5 : Below w.heap.size w (((w.alloc (.cells #[.slice none 0 0] 24)).alloc (.cells #[.int .i64 0] 3)).alloc (.cells #[.string s] 9)) :=
    ((q1.trans (q2.mono (by omega))).trans (q3.mono (by omega)))
  have hz5 : (((w.alloc (.cells #[.slice none 0 0] 24)).alloc (.cells #[.int .i64 0] 3)).alloc (.cells #[.string s] 9)).heap.size = w.heap.size + 3 := by simp only [alloc_size]
  obtain ⟨w5, hw5⟩ : ∃ w5, (((w.alloc (.cells #[.slice none 0 0] 24)).alloc (.cells #[.int .i64 0] 3)).alloc (.cells #[.string s] 9)) = w5 := ⟨_, rfl⟩
  rw [hw5] at b1 b2 b3 hb5 hz5 ⊢
  clear hw5 q1 q2 q3
  obtain ⟨R0, hR0⟩ : ∃ R0, w.heap.size = R0 := ⟨_, rfl⟩
  have HRZ := Lib.hid hR0
  rw [hR0] at b1 b2 b3 hb5 hz5 ⊢
  have HI0 := Lib.hid (show RjI s.data.toList R0 w [] w5 from ⟨.slice none 0 0, [], b1, OwnD.nil _ _, by simp [Value.ownBlock], b2, RjS.none _, hb5, by omega⟩)
  have HB3 := Lib.hid (show Boxed w5 (R0 + 2) 9 (.string s) from b3)
  have HRW := Lib.hid (show R0 ≤ w.heap.size by omega)
  have HS5 := Lib.hid hz5
  have HSS := Lib.hid hs
  clear hR0 b1 b2 b3 hb5 hz5 hs
  obtain ⟨i0, hii, hz0, hz1, hz2⟩ := info_deed
  refine wpIn_rangeFunc_jb (Bp := R0 + 2) (S := LnS s.data.toList) (Sp := LnSp s.data.toList) (N := s.size) rfl (by omega) (gf := 101) (lb := #[.pointer (some ⟨R0 + 1 + 1, 0, none⟩)]) rfl trivial (enters_of Tryz.func101 (by kernel_rfl) rfl)
    (lines_stops _ (R0 + 2) s (by have := HSS.out; omega) w5 HB3.out)
    (by have := HS5.out; omega) (Below.refl _ _) (fun _ => rfl)
    (RjI s.data.toList R0 w) (RjX s.data.toList R0 w) (RjI.abide (by have := HS5.out; omega) HRW.out) (fun c => RjX.abide (by have := HS5.out; omega) HRW.out) HI0.out
    (fun x => { tmps := #[.string s, undef, .slice none 0 0, .int .i64 0, .pointer (some ⟨R0, 0, none⟩), .pointer (some ⟨R0 + 1, 0, none⟩), .string x, undef, undef, undef, undef, .string s,
      .func (.func 101) #[] #[.pointer (some ⟨R0 + 1 + 1, 0, none⟩)], .string x, undef, undef, undef, undef, undef, undef, undef, undef, undef, undef, undef, undef, undef, undef, undef, undef, undef, undef, undef, undef, undef, undef, undef, undef, undef, undef], defers := [] })
    ?assign ?body ?done ?stop
  case assign =>
    intro l x W K hK
    gi_wp2_with fail
    exact hK
  case body =>
    rintro l pre x W hI hlen hsp
    have HF := Lib.hid hsp.at
    obtain ⟨v, ds, hV⟩ := hI
    obtain ⟨av, cv, rfl⟩ := hV.own.slice
    have HV := Lib.hid hV
    have hxs := hsp.at.size
    have hpl : (jtR ds).length ≤ s.data.toList.length := hV.rj.pre.length_le
    rw [hV.rj.len] at hpl
    rw [List.length_drop] at hxs
    have hsz := Lib.size_eq s
    have HXS := Lib.hid (show x.size ≤ 1048600 ∧ totB pre + x.size ≤ 1048600 by have := HSS.out; omega)
    have HDL := Lib.hid (show ds.length ≤ 1048600 by
      have h1 : ds.length ≤ (jtR ds).length := by
        clear hV hpl HV
        induction ds with
        | nil => exact Nat.zero_le _
        | cons d ds ih => rw [jtR_cons', List.length_append, List.length_cons]; unfold lnL; simp; omega
      have := hV.rj.len; have := HSS.out; omega)
    clear hV hlen hsp hxs hpl hsz
    rcases HF.out with ⟨a, r, e1, e2, e3⟩ | ⟨e1, e2, e3⟩
    · have HE1 := Lib.hid e1; have HE2 := Lib.hid e2; have HE3 := Lib.hid e3
      have HCS := Lib.hid (show csE a 10 x = bs a from rfl)
      have HXZ := Lib.hid (show x.size = a.length + 1 by rw [e3, bs_size, List.length_append]; rfl)
      obtain ⟨t, ht⟩ : ∃ t, bs a = t := ⟨_, rfl⟩
      have HT := Lib.hid (show t.data.toList = a by rw [← ht]; rfl)
      rw [ht] at HCS
      clear e1 e2 e3 ht
      gi_wp2_with fail
      refine ⟨trivial, (CallsIn.inRound l (callsIn_wide.2 (CutSuffix_nl a 10 x HE3.out (by have := HXS.out; omega) true rfl _))).mono ?_⟩
      rintro e w' ⟨rfl, rfl⟩
      rw [HCS.out]
      gi_wp2_with fail
      refine ⟨trivial, (CallsIn.inRound l (callsIn_wide.2 (ReadDeed_any t (by have h1 : t.size = a.length := (by rw [Lib.size_eq, HT.out]); have := HXS.out; have := HXZ.out; omega) _))).mono ?_⟩
      rintro e w6 ⟨rfl, hb6⟩
      rw [HT.out]
      have HV6 := Lib.hid (HV.out.kept HRW.out hb6)
      have HKF6 := Lib.hid (keepsFrom_of (B := R0 + 3) hb6)
      have HBP6 := Lib.hid (hb6.block (R0 + 2) (by have := HV.out.size; omega))
      clear hb6
      obtain ⟨kk, hkk⟩ : ∃ k, rdK a = k := ⟨_, rfl⟩
      obtain ⟨xx, hxx⟩ : ∃ k, rdY a = k := ⟨_, rfl⟩
      rw [hkk, hxx]
      have hbel7 := alloc_below w6 (.cells #[.int .i64 kk, .int .i64 xx] 39)
      have HV7 := Lib.hid (HV6.out.kept HRW.out hbel7)
      have HKF7 := Lib.hid (HKF6.out.trans (keepsFrom_of (B := R0 + 3) hbel7))
      have HBP7 := Lib.hid ((hbel7.block (R0 + 2) (by have := HV6.out.size; omega)).trans HBP6.out)
      have hblk := Blk2.new w6 39 (.int .i64 kk) (.int .i64 xx)
      clear hbel7 HV6 HKF6 HBP6
      cases hok : rdDB a with
      | false =>
        have HX := Lib.hid (show RjX s.data.toList R0 w 0 (pre ++ [x]) (w6.alloc (.cells #[.int .i64 kk, .int .i64 xx] 39)) from ⟨rfl, _, ds, _, HV7.out, HV7.out.rj.stop HE1.out HE2.out (rdDB_none hok)⟩)
        clear hok hkk hxx hblk
        gi_wp2_with fail
        exact ⟨by rw [HS5.out]; exact HKF7.out, HX.out⟩
      | true =>
        have hrd := rdDB_some hok
        rw [hkk, hxx] at hrd
        have HRJ := Lib.hid (HV7.out.rj.more HE1.out hrd)
        obtain ⟨hq0, hq1⟩ := hblk.cell
        obtain ⟨w7, hw7⟩ : ∃ w7, w6.alloc (.cells #[.int .i64 kk, .int .i64 xx] 39) = w7 := ⟨_, rfl⟩
        obtain ⟨A7, hA7⟩ : ∃ A7, w6.heap.size = A7 := ⟨_, rfl⟩
        rw [hw7] at HV7 HKF7 HBP7 hq0 hq1
        rw [hA7] at hq0 hq1
        have hcell := HV7.out.box.cell
        have hfz := HV7.out.box.frozen
        have HRWW : Hid (w7.ownsRow R0 39 2 (.slice av ds.length cv) ds.length (cellsD ds)) := Lib.hid HV7.out.own
        have k1 : Hid (∀ (jj : Nat) (u : Value), [Value.int .i64 kk, .int .i64 xx][jj]? = some u → (w7.alloc (.cells #[.int .i64 kk, .int .i64 xx] 39)).cell? ((⟨w7.heap.size, 0, none⟩ : Addr).add jj) = some u) := Lib.hid (fun jj u h => by
          have hh : (w7.alloc (.cells #[.int .i64 kk, .int .i64 xx] 39)).heap[w7.heap.size]? = some (.cells #[.int .i64 kk, .int .i64 xx] 39) := heap_alloc_new w7 _
          rw [Addr.add_lit, Nat.zero_add]
          unfold World.cell?
          rw [hh]
          have h4 : jj < 2 := (List.getElem?_eq_some_iff.1 h).1
          have : jj = 0 ∨ jj = 1 := by omega
          rcases this with rfl | rfl <;> exact h)
        have k2 : Hid (∀ u ∈ [Value.int .i64 kk, .int .i64 xx], u.oneCell' = true) := Lib.hid (by intro u hu; simp only [List.mem_cons, List.not_mem_nil, or_false] at hu; rcases hu with rfl | rfl <;> rfl)
        have k3 : Hid (ds.length + 1 ≤ maxLen) := Lib.hid (by have := HDL.out; unfold maxLen; omega)
        have k4 : Hid ((ds.length + 1) * 16 ≤ 140737488355328) := Lib.hid (by have := HDL.out; omega)
        have k5 : Hid (R0 ≤ (w7.alloc (.cells #[.int .i64 kk, .int .i64 xx] 39)).heap.size) := Lib.hid (by rw [alloc_size]; have := HV7.out.size; omega)
        clear hok hkk hxx hblk hrd
        gi_wp2_with (gi_at_builtin; refine wpListIn_append_own_at _ rfl (.tmp 30) (.tmp 32) 24 rfl R0 39 i0 (.agg #[.int .i64 0, .int .i64 0]) 2 16 Tryz.underlying24 hii hz0 hz1 hz2 rfl (by decide) _ _ _ rfl (HRWW.out.alloc _) ⟨w7.heap.size, 0, none⟩ 1 1 [.int .i64 kk, .int .i64 xx] rfl rfl k1.out k2.out k3.out k4.out k5.out ?_)
        intro v' w8 hown' hgrow _ hat
        obtain ⟨g', cap', rfl⟩ := ownsRow_succ hown'
        have ho : OwnD w8 R0 (.slice (some ⟨g', 0, none⟩) (ds.length + 1) cap') (ds ++ [(kk, xx)]) := OwnD.snoc hown'
        obtain ⟨hv1, hc1, hV8, hK8, hbp8⟩ := HV7.out.more HRW.out ho hgrow hat HRJ.out
        have HV8 := Lib.hid hV8; have HK8 := Lib.hid (HKF7.out.trans hK8); have HBP8 := Lib.hid (hbp8.trans HBP7.out)
        have hcv := hv1.cell
        have hfv := hv1.frozen
        have hcc := hc1.cell
        have hfc := hc1.frozen
        have hts : (totB pre + a.length + 1 : Nat) = totB pre + x.size := by have := HXZ.out; omega
        have HTS := Lib.hid (show ((totB pre : Nat) : Int) + (x.size : Int) = ((totB pre + a.length + 1 : Nat) : Int) by rw [hts]; omega)
        have HTP := Lib.hid (show totB (pre ++ [x]) = totB pre + a.length + 1 by rw [totB_snoc, hts])
        have hp0 : (0 : Int) ≤ ((totB pre : Nat) : Int) := by omega
        have hp1 : ((totB pre : Nat) : Int) ≤ 1048600 := by have := HXS.out; omega
        have hx1 : (x.size : Int) ≤ 1048600 := by have := HXS.out; omega
        clear hv1 hc1 hV8 hK8 hbp8 hown' hgrow hat ho k1 k2 k3 k4 k5 hcell hfz hts
        gi_wp2_with fail
        rw [HTS.out]
        exact ⟨by rw [HS5.out]; exact HK8.out, HBP8.out, ⟨_, _, by rw [HTP.out]; exact HV8.out⟩⟩
    · have HE1 := Lib.hid e1
      obtain ⟨a, b, hab⟩ : ∃ a b, s.data.toList.drop (totB pre) = a ++ [b] := by
        rcases List.eq_nil_or_concat (s.data.toList.drop (totB pre)) with h | ⟨a, b, h⟩
        · exact absurd h e2
        · exact ⟨a, b, by simpa using h⟩
      have hb10 : (b == 10) = false := by
        cases hb : (b == 10) with
        | false => rfl
        | true => exact absurd (by rw [hab, ← beq_iff_eq.1 hb]; simp) e1
      have HE3 := Lib.hid (show x = bs (a ++ [b]) by rw [e3, hab])
      have HB10 := Lib.hid hb10
      have HCS := Lib.hid (show csE a b x = x by unfold csE; rw [hb10]; rfl)
      clear e1 e2 e3 hab hb10
      gi_wp2_with fail
      refine ⟨trivial, (CallsIn.inRound l (callsIn_wide.2 (CutSuffix_nl a b x HE3.out (by have := HXS.out; omega) false HB10.out _))).mono ?_⟩
      rintro e w' ⟨rfl, rfl⟩
      rw [HCS.out]
      gi_wp2_with fail
      refine ⟨trivial, (CallsIn.inRound l (callsIn_wide.2 (ReadDeed_any x (by have := HXS.out; omega) _))).mono ?_⟩
      rintro e w6 ⟨rfl, hb6⟩
      have HV6 := Lib.hid (HV.out.kept HRW.out hb6)
      have HKF6 := Lib.hid (keepsFrom_of (B := R0 + 3) hb6)
      clear hb6
      obtain ⟨kk, hkk⟩ : ∃ k, rdK x.data.toList = k := ⟨_, rfl⟩
      obtain ⟨xx, hxx⟩ : ∃ k, rdY x.data.toList = k := ⟨_, rfl⟩
      obtain ⟨bb, hbb⟩ : ∃ k, rdDB x.data.toList = k := ⟨_, rfl⟩
      rw [hkk, hxx, hbb]
      have hbel7 := alloc_below w6 (.cells #[.int .i64 kk, .int .i64 xx] 39)
      have HV7 := Lib.hid (HV6.out.kept HRW.out hbel7)
      have HKF7 := Lib.hid (HKF6.out.trans (keepsFrom_of (B := R0 + 3) hbel7))
      have HX := Lib.hid (show RjX s.data.toList R0 w 0 (pre ++ [x]) (w6.alloc (.cells #[.int .i64 kk, .int .i64 xx] 39)) from ⟨rfl, _, ds, _, HV7.out, HV7.out.rj.last HE1.out⟩)
      clear hbel7 HV6 HKF6 hkk hxx hbb
      gi_wp2_with fail
      exact ⟨by rw [HS5.out]; exact HKF7.out, HX.out⟩
  case done =>
    rintro D xs W hD hall ⟨v, ds, hV⟩ hK
    have HRJ := Lib.hid (hV.rj.last (by rw [show s.data.toList.drop (totB xs) = [] from hall]; simp))
    obtain ⟨p, hp⟩ : ∃ p, totB xs = p := ⟨_, rfl⟩
    rw [hp] at hV
    have HV := Lib.hid hV
    obtain ⟨av, cv, rfl⟩ := hV.own.slice
    have hcell := hV.box.cell
    have hcnt := hV.cnt.cell
    clear hall hp hV
    gi_wp2_with fail
    refine wpIn_wide.2 ?_
    go_quiet (fail)
    gi_wp2_with fail
    refine ⟨by simp, .inl ⟨_, _, rfl, run_takeDeferred (show (W.drewN nq).heap[D]? = _ from hK), ?_⟩⟩
    refine ⟨_, results_tmp2 rfl _ _ _, ⟨_, ds, by rw [HV.out.rj.len] <;> rfl, HRJ.out, ?_, ?_⟩⟩
    · rw [HRZ.out]
      have h : (W.drewN nq).ownsRow R0 39 2 (.slice av ds.length cv) ds.length (cellsD ds) := HV.out.own
      exact ownsRow_putObj h _ (show (W.drewN nq).heap[D]? = _ from hK) rfl
    · rw [HRZ.out]
      exact (HV.out.bel.trans (below_drewN (Below.refl R0 W) nq)).trans (belowK_b (n₀ := R0) (w := w5) (by have := HS5.out; omega) (W.drewN nq) D _ (.deferred none) hD (show (W.drewN nq).heap[D]? = _ from hK) rfl rfl)
  case stop =>
    rintro D id pre W hD hsp ⟨rfl, v, ds, p, hV, hrj⟩ hK
    have HRJ := Lib.hid hrj
    have HV := Lib.hid hV
    obtain ⟨av, cv, rfl⟩ := hV.own.slice
    have hcell := hV.box.cell
    have hcnt := hV.cnt.cell
    clear hV hrj hsp
    gi_wp2_with fail
    refine wpIn_wide.2 ?_
    go_quiet (fail)
    gi_wp2_with fail
    refine ⟨by simp, .inl ⟨_, _, rfl, run_takeDeferred (show (W.drewN nq).heap[D]? = _ from hK), ?_⟩⟩
    refine ⟨_, results_tmp2 rfl _ _ _, ⟨_, ds, by rw [HV.out.rj.len] <;> rfl, HRJ.out, ?_, ?_⟩⟩
    · rw [HRZ.out]
      have h : (W.drewN nq).ownsRow R0 39 2 (.slice av ds.length cv) ds.length (cellsD ds) := HV.out.own
      exact ownsRow_putObj h _ (show (W.drewN nq).heap[D]? = _ from hK) rfl
    · rw [HRZ.out]
      exact (HV.out.bel.trans (below_drewN (Below.refl R0 W) nq)).trans (belowK_b (n₀ := R0) (w := w5) (by have := HS5.out; omega) (W.drewN nq) D _ (.deferred none) hD (show (W.drewN nq).heap[D]? = _ from hK) rfl rfl)
end Go.Proofs.YthaickihoagnmaaGreatDoor

namespace Go.Proofs.YthaickihoagnmaaGreatDoor
set_option linter.unusedVariables false
set_option linter.unusedSimpArgs false
open Go.RowKit Go.Maps

/-- the model's state: what was read, and that no newline has come since -/
structure RsS (l : List UInt8) (w : World) (k p : Nat) (vo : Value) (ds : List (Int × Int)) (wr : World) : Prop where
  own : OwnD wr w.heap.size vo ds
  rj : RjS l ds p
  le : p ≤ k
  no : (10 : UInt8) ∉ (l.drop p).take (k - p)
  bel : Below w.heap.size w wr
theorem take_next {l : List UInt8} {p k : Nat} (hp : p ≤ k) (hk : k < l.length) : (l.drop p).take (k + 1 - p) = (l.drop p).take (k - p) ++ [l.getD k 0] := by
  have e : k + 1 - p = (k - p) + 1 := by omega
  have h1 : (l.drop p)[k - p]? = some (l.getD k 0) := by
    rw [List.getElem?_drop, show p + (k - p) = k by omega, List.getD_eq_getElem?_getD, List.getElem?_eq_getElem hk]; rfl
  rw [e, List.take_add_one, h1]; rfl
theorem drop_split {l : List UInt8} {p k : Nat} (hp : p ≤ k) (hk : k < l.length) : l.drop p = (l.drop p).take (k - p) ++ l.getD k 0 :: l.drop (k + 1) := by
  have h1 : l.drop p = (l.drop p).take (k + 1 - p) ++ (l.drop p).drop (k + 1 - p) := (List.take_append_drop _ _).symm
  rw [take_next hp hk, List.drop_drop, show p + (k + 1 - p) = k + 1 by omega, List.append_assoc] at h1
  exact h1
def RsR (l : List UInt8) (w : World) (k : Nat) (p : Int) (vo v : Value) (wr : World) : Prop := ∃ q ds, p = ((q : Nat) : Int) ∧ vo = v ∧ RsS l w k q vo ds wr
theorem deeds_le {l : List UInt8} {ds : List (Int × Int)} {p : Nat} (h : RjS l ds p) : ds.length ≤ p := by
  have h1 : ds.length ≤ (jtR ds).length := by
    clear h
    induction ds with
    | nil => exact Nat.zero_le _
    | cons d ds ih => rw [jtR_cons', List.length_append, List.length_cons]; unfold lnL; simp; omega
  rw [h.len] at h1
  exact h1

set_option maxRecDepth 100000 in
set_option maxHeartbeats 3200000 in
theorem specReadJournal_any (s : ByteArray) (hs : s.size ≤ 1048600) (w : World) :
    Calls Tryz.prog 10 #[.string s] w (RjEnd s.data.toList w) := by
  obtain ⟨i0, hii, hz0, hz1, hz2⟩ := info_deed
  have HST : Hid (RsR s.data.toList w 0 0 (.slice (some ⟨w.heap.size, 0, none⟩) 0 0) (.slice (some ⟨w.heap.size, 0, none⟩) 0 0) (w.alloc (.cells #[] 39))) := Lib.hid ⟨0, [], rfl, rfl, ⟨OwnD.made w _ (Nat.le_refl _), RjS.none _, Nat.le_refl _, by simp, alloc_below w _⟩⟩
  go_enter Tryz.func10, Tryz.ntmps10
  go_wp2_with fail
  go_loopw [4, 5, 6, 7, 8] (fun v f i _ _ wr => ∃ (k : Nat) (p : Int) (vo : Value), k ≤ s.size ∧ i = .int .i64 k ∧ f = .int .i64 p ∧ Hid (RsR s.data.toList w k p vo v wr)) (fun _ _ i _ _ _ => s.size - (intOf i).toNat)
  case atStart => exact ⟨0, 0, _, Nat.zero_le _, rfl, rfl, HST⟩
  case round =>
    clear HST
    obtain ⟨k, p, vo, hk, rfl, rfl, HR⟩ := hrel
    obtain ⟨q, ds, hp, hv, hS⟩ := HR.out
    subst hp
    subst hv
    obtain ⟨av, cv, rfl⟩ := hS.own.slice
    have HS := Lib.hid hS
    have hqk := hS.le
    have hdl := deeds_le hS.rj
    have HDL := Lib.hid (show ds.length ≤ 1048600 by omega)
    clear HR hS hdl
    by_cases hlt : k < s.size
    · have hki : (k : Int) < (s.size : Int) := by omega
      have hkl : k < s.data.toList.length := by rw [← Lib.size_eq]; exact hlt
      have hix := fun w => idxS s k hlt w
      cases hb : (s.data.toList.getD k 0 == 10) with
      | true =>
        have hbb : ((s.data.toList.getD k 0).toNat : Int) = 10 := by rw [beq_iff_eq.1 hb]; rfl
        rw [hbb] at hix
        have HSPL := Lib.hid (show s.data.toList.drop q = (s.data.toList.drop q).take (k - q) ++ 10 :: s.data.toList.drop (k + 1) by
          have h := drop_split hqk hkl
          rw [beq_iff_eq.1 hb] at h
          exact h)
        have hcut := fun w => cutSl s q k hqk (by omega) w
        obtain ⟨t, ht⟩ : ∃ t, s.extract q k = t := ⟨_, rfl⟩
        rw [ht] at hcut
        have HT := Lib.hid (show t.data.toList = (s.data.toList.drop q).take (k - q) by rw [← ht, Lib.extract_data])
        have HTS := Lib.hid (show t.size ≤ 1048600 by
          have h : t.size = t.data.toList.length := Lib.size_eq t
          rw [HT.out, List.length_take, List.length_drop] at h
          have := Lib.size_eq s
          omega)
        obtain ⟨a, ha⟩ : ∃ a, (s.data.toList.drop q).take (k - q) = a := ⟨_, rfl⟩
        have HA := Lib.hid (show (10 : UInt8) ∉ a by rw [← ha]; exact HS.out.no)
        have HAL := Lib.hid (show a.length = k - q by rw [← ha, List.length_take, List.length_drop]; omega)
        rw [ha] at HSPL HT
        clear hb hbb ht ha hkl
        go_wp2_with fail
        refine (specReadDeed_any t HTS.out _).mono ?_
        rintro e w6 ⟨rfl, hb6⟩
        rw [HT.out]
        obtain ⟨kk, hkk⟩ : ∃ k, rdK a = k := ⟨_, rfl⟩
        obtain ⟨xx, hxx⟩ : ∃ k, rdY a = k := ⟨_, rfl⟩
        rw [hkk, hxx]
        have HB6 := Lib.hid (below_onto HS.out.bel hb6)
        have HO6 := Lib.hid (show OwnD w6 w.heap.size (.slice av ds.length cv) ds from by
          have h := HS.out.own
          refine ⟨h.1, ?_⟩
          rcases h.2 with h1 | ⟨g, cap, cur, hv, hBg, hg, hr⟩
          · exact .inl h1
          · exact .inr ⟨g, cap, cur, hv, hBg, (hb6.block g (Array.getElem?_eq_some_iff.1 hg).1).trans hg, hr⟩)
        have hbel7 := alloc_below w6 (.cells #[.int .i64 kk, .int .i64 xx] 39)
        have HB7 := Lib.hid (below_onto HB6.out hbel7)
        have HO7 := Lib.hid (show OwnD (w6.alloc (.cells #[.int .i64 kk, .int .i64 xx] 39)) w.heap.size (.slice av ds.length cv) ds from World.ownsRow.alloc HO6.out _)
        have hblk := Blk2.new w6 39 (.int .i64 kk) (.int .i64 xx)
        obtain ⟨hq0, hq1⟩ := hblk.cell
        obtain ⟨w7, hw7⟩ : ∃ w7, w6.alloc (.cells #[.int .i64 kk, .int .i64 xx] 39) = w7 := ⟨_, rfl⟩
        obtain ⟨A7, hA7⟩ : ∃ A7, w6.heap.size = A7 := ⟨_, rfl⟩
        rw [hw7] at HB7 HO7 hq0 hq1
        rw [hA7] at hq0 hq1
        clear hb6 hbel7 hblk HO6 HB6
        cases hok : rdDB a with
        | false =>
          have HI := Lib.hid (HS.out.rj.stop HSPL.out HA.out (rdDB_none hok))
          have HL := Lib.hid HS.out.rj.len
          clear hok hkk hxx hix hcut
          go_wp2_with fail
          go_ret2
          exact ⟨_, ds, by rw [HL.out] <;> rfl, HI.out, HO7.out, HB7.out⟩
        | true =>
          have hrd := rdDB_some hok
          rw [hkk, hxx] at hrd
          have HRJ := Lib.hid (HS.out.rj.more HSPL.out hrd)
          have HOW : Hid (w7.ownsRow w.heap.size 39 2 (.slice av ds.length cv) ds.length (cellsD ds)) := Lib.hid HO7.out
          have k1 : Hid (∀ (jj : Nat) (u : Value), [Value.int .i64 kk, .int .i64 xx][jj]? = some u → (w7.alloc (.cells #[.int .i64 kk, .int .i64 xx] 39)).cell? ((⟨w7.heap.size, 0, none⟩ : Addr).add jj) = some u) := Lib.hid (fun jj u h => by
            have hh : (w7.alloc (.cells #[.int .i64 kk, .int .i64 xx] 39)).heap[w7.heap.size]? = some (.cells #[.int .i64 kk, .int .i64 xx] 39) := heap_alloc_new w7 _
            rw [Addr.add_lit, Nat.zero_add]
            unfold World.cell?
            rw [hh]
            have h4 : jj < 2 := (List.getElem?_eq_some_iff.1 h).1
            have : jj = 0 ∨ jj = 1 := by omega
            rcases this with rfl | rfl <;> exact h)
          have k2 : Hid (∀ u ∈ [Value.int .i64 kk, .int .i64 xx], u.oneCell' = true) := Lib.hid (by intro u hu; simp only [List.mem_cons, List.not_mem_nil, or_false] at hu; rcases hu with rfl | rfl <;> rfl)
          have k3 : Hid (ds.length + 1 ≤ maxLen) := Lib.hid (by have := HDL.out; unfold maxLen; omega)
          have k4 : Hid ((ds.length + 1) * 16 ≤ 140737488355328) := Lib.hid (by have := HDL.out; omega)
          have k5 : Hid (w.heap.size ≤ (w7.alloc (.cells #[.int .i64 kk, .int .i64 xx] 39)).heap.size) := Lib.hid (by rw [alloc_size]; have := HB7.out.size; omega)
          clear hok hkk hxx hrd
          go_wp2_with (at_builtin; refine wpList_append_own _ rfl (.tmp 32) (.tmp 34) 24 rfl w.heap.size 39 i0 (.agg #[.int .i64 0, .int .i64 0]) 2 16 Tryz.underlying24 hii hz0 hz1 hz2 rfl (by decide) _ _ _ rfl (HOW.out.alloc _) ⟨w7.heap.size, 0, none⟩ 1 1 [.int .i64 kk, .int .i64 xx] rfl rfl k1.out k2.out k3.out k4.out k5.out ?_)
          intro v8 w8 hown8 hgrow8 _
          have hb8 : Below w.heap.size w7 w8 := ((Below.refl w.heap.size w7).alloc HB7.out.size _).grown hgrow8 k5.out (fun g hg => (World.ownsRow.lt HOW.out g hg).1)
          have HN : Hid (RsR s.data.toList w (k + 1) ((k : Int) + 1) v8 v8 w8) := Lib.hid ⟨k + 1, ds ++ [(kk, xx)], by omega, rfl, ⟨OwnD.snoc hown8, by
            have h := HRJ.out
            rw [HAL.out, show q + (k - q) + 1 = k + 1 by omega] at h
            exact h, Nat.le_refl _, by rw [Nat.sub_self]; simp, HB7.out.trans hb8⟩⟩
          obtain ⟨g8, c8, rfl⟩ := ownsRow_succ hown8
          clear hown8 hgrow8 hb8 k1 k2 k3 k4 k5 HOW hix hcut hq0 hq1 hw7 hA7
          go_wp2_with fail
          go_roundw
          case rel => exact ⟨k + 1, _, _, by omega, by go_num, rfl, HN⟩
          case measure => simp [intOf]; omega
      | false =>
        have hbb := byteB hb
        have HN : Hid (RsR s.data.toList w (k + 1) (q : Int) (.slice av ds.length cv) (.slice av ds.length cv) wr) := Lib.hid ⟨q, ds, rfl, rfl, ⟨HS.out.own, HS.out.rj, by omega, by
          rw [take_next hqk hkl, List.mem_append, List.mem_singleton]
          rintro (h | h)
          · exact HS.out.no h
          · rw [← h] at hb; simp at hb, HS.out.bel⟩⟩
        have hbb2 : (((s.data.toList.getD k 0).toNat : Int) == 10) = false := hbb
        obtain ⟨b, hbe⟩ : ∃ b : Int, ((s.data.toList.getD k 0).toNat : Int) = b := ⟨_, rfl⟩
        rw [hbe] at hbb2 hix
        clear hb hbe hbb hkl
        go_wp2_with fail
        go_roundw
        case rel => exact ⟨k + 1, _, _, by omega, by go_num, rfl, HN⟩
        case measure => simp [intOf]; omega
    · have hki : ¬ (k : Int) < (s.size : Int) := by omega
      have HI := Lib.hid (HS.out.rj.last (show (10 : UInt8) ∉ s.data.toList.drop q by
        have h := HS.out.no
        rw [List.take_of_length_le (by rw [List.length_drop, ← Lib.size_eq]; omega)] at h
        exact h))
      have HL := Lib.hid HS.out.rj.len
      go_wp2_with fail
      go_ret2
      exact ⟨_, ds, by rw [HL.out] <;> rfl, HI.out, HS.out.own, HS.out.bel⟩
end Go.Proofs.YthaickihoagnmaaGreatDoor
