import Derived.Test.YthbancphegnpdaaTxK
import Derived.Test.YthbancphegnpdaaTxJ
import Derived.Test.YthbancphegnpdaaTxW
namespace Go.Proofs.Ythbancphegnpdaa
set_option linter.unusedVariables false
set_option linter.unusedSimpArgs false
open Go.RowKit Go.Maps

theorem jtB_take {ds : List (Int × Int)} {k : Nat} (hk : k < ds.length) : jtB (ds.take (k + 1)) = (jtB (ds.take k) && dOk ds[k].1 ds[k].2) := by
  rw [List.take_succ_eq_append_getElem hk]
  unfold jtB
  rw [List.all_append]
  simp
theorem jtR_take {ds : List (Int × Int)} {k : Nat} (hk : k < ds.length) : jtR (ds.take (k + 1)) = jtR (ds.take k) ++ (deedL ds[k].1 ds[k].2 ++ [10]) := by
  rw [List.take_succ_eq_append_getElem hk, jtR_snoc]
theorem jtB_bad {ds : List (Int × Int)} {k : Nat} (hk : k < ds.length) (h : dOk ds[k].1 ds[k].2 = false) : jtB ds = false := by
  cases hj : jtB ds with
  | false => rfl
  | true =>
    have := List.all_eq_true.1 hj ds[k] (List.getElem_mem hk)
    rw [h] at this; cases this
theorem deedT_emp {k x : Int} {v : Bool} (h : dOk k x = v) : (deedT k x).toList.isEmpty = !v := by
  rw [toList_data']
  unfold deedT
  rw [bs_data]
  cases v with
  | true =>
    cases hl : deedL k x with
    | nil => exact absurd hl (deed_facts h).1
    | cons a l => rfl
  | false => rw [deedL_no h]; rfl
theorem jt_len_take (ds : List (Int × Int)) (k : Nat) : (jtR (ds.take k)).length ≤ k * 10 :=
  Nat.le_trans (jtR_len _) (Nat.mul_le_mul_right 10 (List.length_take_le _ _))

/-- the text so far -/
structure JtS (w : World) (ds : List (Int × Int)) (k : Nat) (o : ByteArray) (wr : World) : Prop where
  txt : o = bs (jtR (ds.take k))
  ok : jtB (ds.take k) = true
  bel : Below w.heap.size w wr

set_option maxRecDepth 100000 in
set_option maxHeartbeats 3200000 in
theorem specJournalText_any (a : Option Addr) (ds : List (Int × Int)) (c : Nat) (hn : ds.length ≤ 1048576) (w : World) (hd : Dds w a ds) :
    Calls Try.prog 29 #[.slice a ds.length c] w fun e w' => e = .returned (.string (bs (jtL ds))) ∧ Below w.heap.size w w' := by
  have HD := Lib.hid hd; clear hd
  obtain ⟨n, hnn⟩ : ∃ n, ds.length = n := ⟨_, rfl⟩
  have HN := Lib.hid hnn
  rw [hnn] at hn ⊢
  clear hnn
  have HST : Hid (JtS w ds 0 { data := #[] } w) := Lib.hid ⟨rfl, rfl, Below.refl _ _⟩
  go_enter Try.func29, Try.ntmps29
  go_wp2_with fail
  go_loopw [3, 4] (fun v i wr => ∃ (k : Nat) (o : ByteArray), k ≤ n ∧ i = .int .i64 k ∧ v = .string o ∧ o.size ≤ k * 10 ∧ Hid (JtS w ds k o wr)) (fun _ i _ => n - (intOf i).toNat)
  case atStart => exact ⟨0, _, Nat.zero_le _, rfl, rfl, by decide, HST⟩
  case round =>
    clear HST
    obtain ⟨k, o, hk, rfl, rfl, ho, HS⟩ := hrel
    by_cases hlt : k < n
    · have hki : (k : Int) < (n : Int) := by omega
      have hk0 : (0 : Int) ≤ (k : Int) := by omega
      have hkl : k < ds.length := by rw [HN.out]; exact hlt
      obtain ⟨b, off, rfl, hbl, hr⟩ := HD.out.row (by omega)
      have HRW := Lib.hid (fun W (hW : Below w.heap.size w W) => hr.kept hW hbl k hkl)
      have HY1 := Lib.hid (jtB_take hkl)
      have HY2 := Lib.hid (jtR_take hkl)
      have HY3 := Lib.hid (fun h => jtB_bad hkl h)
      obtain ⟨dk, hdk⟩ : ∃ dk, ds[k] = dk := ⟨_, rfl⟩
      rw [hdk] at HRW HY1 HY2 HY3
      obtain ⟨kk, xx⟩ := dk
      dsimp only at HRW HY1 HY2 HY3
      clear hr hbl hdk
      have hc := HRW.out wr HS.out.bel
      obtain ⟨hc0, hc1⟩ := hc
      cases hok : dOk kk xx with
      | true =>
        have hem := deedT_emp hok
        have hts : (deedT kk xx).size ≤ 9 := deed_len kk xx
        have HT := Lib.hid (show deedT kk xx = bs (deedL kk xx) from rfl)
        obtain ⟨t, ht⟩ : ∃ t, deedT kk xx = t := ⟨_, rfl⟩
        rw [ht] at hem hts HT
        have HTT := Lib.hid ht
        have hem2 : t.toList.isEmpty = false := hem
        have HOK := Lib.hid hok
        clear ht hok hem hkl
        go_wp2_with fail
        refine (specDeedText_any _ _ _).mono ?_
        rintro e w5 ⟨rfl, hb5⟩
        rw [HTT.out]
        have HB5 := Lib.hid (below_onto HS.out.bel hb5)
        obtain ⟨hd0, hd1⟩ := HRW.out w5 HB5.out
        clear hb5 hc0 hc1
        go_wp2_with fail
        refine (specDeedText_any _ _ _).mono ?_
        rintro e w6 ⟨rfl, hb6⟩
        rw [HTT.out]
        have HB6 := Lib.hid (below_onto HB5.out hb6)
        clear hb6 hd0 hd1
        have hns : (o ++ t ++ { data := #[10] }).size ≤ (k + 1) * 10 := by
          rw [ByteArray.size_append, ByteArray.size_append]
          have : ({ data := #[10] } : ByteArray).size = 1 := rfl
          omega
        have HNS := Lib.hid hns
        have HN2 : Hid (JtS w ds (k + 1) (o ++ t ++ { data := #[10] }) w6) := Lib.hid ⟨by
          rw [HY2.out, HS.out.txt, HT.out, show ({ data := #[10] } : ByteArray) = bs [10] from rfl, bs_app, bs_app, List.append_assoc], by rw [HY1.out, HS.out.ok, HOK.out]; rfl, HB6.out⟩
        clear hns
        go_wp2_with fail
        go_roundw
        case rel => exact ⟨k + 1, _, by omega, by go_num, rfl, HNS.out, HN2⟩
        case measure => simp [intOf]; omega
      | false =>
        have hem := deedT_emp hok
        have HE : Hid (({ data := #[] } : ByteArray) = bs (jtL ds)) := Lib.hid (by unfold jtL; rw [HY3.out hok]; rfl)
        obtain ⟨t, ht⟩ : ∃ t, deedT kk xx = t := ⟨_, rfl⟩
        rw [ht] at hem
        have HTT := Lib.hid ht
        have hem2 : t.toList.isEmpty = true := hem
        clear ht hok hem hkl
        go_wp2_with fail
        refine (specDeedText_any _ _ _).mono ?_
        rintro e w5 ⟨rfl, hb5⟩
        rw [HTT.out]
        have HB5 := Lib.hid (below_onto HS.out.bel hb5)
        clear hb5 hc0 hc1
        go_wp2_with fail
        go_ret
        exact ⟨rets HE.out, HB5.out⟩
    · have hki : ¬ (k : Int) < (n : Int) := by omega
      have hkn : k = n := by omega
      have HE : Hid (o = bs (jtL ds)) := Lib.hid (by
        have e : ds.take k = ds := by rw [hkn, ← HN.out, List.take_length]
        have h1 := HS.out.txt; have h2 := HS.out.ok
        rw [e] at h1 h2
        rw [h1]
        unfold jtL
        rw [h2]; rfl)
      have HB5 := Lib.hid HS.out.bel
      clear hkn hk
      go_wp2_with fail
      go_ret
      exact ⟨rets HE.out, HB5.out⟩

/-- the builder so far -/
structure JbS (w : World) (ds : List (Int × Int)) (k : Nat) (wr : World) : Prop where
  bld : Bld wr w.heap.size w.heap.size (jtR (ds.take k))
  ok : jtB (ds.take k) = true
  bel : Below w.heap.size w wr
  lt : w.heap.size < wr.heap.size

set_option maxRecDepth 100000 in
set_option maxHeartbeats 3200000 in
theorem JournalText_any (a : Option Addr) (ds : List (Int × Int)) (c : Nat) (hn : ds.length ≤ 1048576) (w : World) (hd : Dds w a ds) :
    Calls Try.prog 28 #[.slice a ds.length c] w fun e w' => e = .returned (.string (bs (jtL ds))) ∧ Below w.heap.size w w' := by
  have HD := Lib.hid hd; clear hd
  obtain ⟨n, hnn⟩ : ∃ n, ds.length = n := ⟨_, rfl⟩
  have HN := Lib.hid hnn
  rw [hnn] at hn ⊢
  clear hnn
  have HST : Hid (JbS w ds 0 (w.alloc (.cells #[.pointer none, .slice none 0 0] 73))) := Lib.hid ⟨Bld.new w, rfl, alloc_below w _, by rw [alloc_size]; omega⟩
  go_enter Try.func28, Try.ntmps28
  go_wp2_with fail
  go_loopw [5, 6, 9] (fun _ _ i wr => ∃ k : Nat, k ≤ n ∧ i = .int .i64 k ∧ Hid (JbS w ds k wr)) (fun _ _ i _ => n - (intOf i).toNat)
  case atStart => exact ⟨0, Nat.zero_le _, rfl, HST⟩
  case round =>
    clear HST
    obtain ⟨k, hk, rfl, HS⟩ := hrel
    by_cases hlt : k < n
    · have hki : (k : Int) < (n : Int) := by omega
      have hk0 : (0 : Int) ≤ (k : Int) := by omega
      have hkl : k < ds.length := by rw [HN.out]; exact hlt
      obtain ⟨b, off, rfl, hbl, hr⟩ := HD.out.row (by omega)
      have HRW := Lib.hid (fun W (hW : Below w.heap.size w W) => hr.kept hW hbl k hkl)
      have HY1 := Lib.hid (jtB_take hkl)
      have HY2 := Lib.hid (jtR_take hkl)
      have HY3 := Lib.hid (fun h => jtB_bad hkl h)
      have HLN := Lib.hid (jt_len_take ds k)
      obtain ⟨dk, hdk⟩ : ∃ dk, ds[k] = dk := ⟨_, rfl⟩
      rw [hdk] at HRW HY1 HY2 HY3
      obtain ⟨kk, xx⟩ := dk
      dsimp only at HRW HY1 HY2 HY3
      clear hr hbl hdk
      obtain ⟨hc0, hc1⟩ := HRW.out wr HS.out.bel
      have hbel2 := alloc_below wr (.cells #[.int .i64 kk, .int .i64 xx] 31)
      have HBL2 := Lib.hid (below_onto HS.out.bel hbel2)
      have HBD2 := Lib.hid (HS.out.bld.same hbel2)
      obtain ⟨w2, hw2⟩ : ∃ w2, wr.alloc (.cells #[.int .i64 kk, .int .i64 xx] 31) = w2 := ⟨_, rfl⟩
      have hblk := Blk2.new wr 31 (.int .i64 kk) (.int .i64 xx)
      rw [hw2] at HBL2 HBD2 hblk
      obtain ⟨hq0, hq1⟩ := hblk.cell
      clear hbel2 hblk
      cases hok : dOk kk xx with
      | true =>
        have hem := deedT_emp hok
        have hts : (deedT kk xx).size ≤ 9 := deed_len kk xx
        have HT := Lib.hid (show (deedT kk xx).data.toList = deedL kk xx from rfl)
        obtain ⟨t, ht⟩ : ∃ t, deedT kk xx = t := ⟨_, rfl⟩
        rw [ht] at hem hts HT
        have HTT := Lib.hid ht
        have hem2 : t.toList.isEmpty = false := hem
        have HOK := Lib.hid hok
        have HTS := Lib.hid hts
        clear ht hok hem hkl hts
        go_wp2_with fail
        refine (DeedText_any _ _ _).mono ?_
        rintro e w5 ⟨rfl, hb5⟩
        rw [HTT.out]
        have HB5 := Lib.hid (below_onto HBL2.out hb5)
        have HBD5 := Lib.hid (HBD2.out.same hb5)
        clear hb5 hc0 hc1 hq0 hq1 hw2
        go_wp2_with fail
        refine (WriteString_any w.heap.size w.heap.size _ t _ HBD5.out (by have := HLN.out; have := HTS.out; omega) HB5.out.size).mono ?_
        rintro e w6 ⟨v6, rfl, hbd6, hb6⟩
        have HB6 := Lib.hid (HB5.out.trans hb6)
        have HBD6 := Lib.hid hbd6
        clear hb6 hbd6
        go_wp2_with fail
        refine (WriteByte_any w.heap.size w.heap.size _ 10 _ HBD6.out (by rw [List.length_append]; have := HLN.out; have := HTS.out; have h9 : t.data.toList.length = t.size := (Lib.size_eq t).symm; omega) HB6.out.size).mono ?_
        rintro e w7 ⟨v7, rfl, hbd7, hb7⟩
        have HN2 : Hid (JbS w ds (k + 1) w7) := Lib.hid ⟨by
          rw [HY2.out, ← List.append_assoc]
          have h := hbd7
          rw [HT.out] at h
          exact h, by rw [HY1.out, HS.out.ok, HOK.out]; rfl, HB6.out.trans hb7, by
          obtain h | h := hbd7
          · exact h.lt
          · exact h.lt⟩
        clear hb7 hbd7
        go_wp2_with fail
        go_roundw
        case rel => exact ⟨k + 1, by omega, by go_num, HN2⟩
        case measure => simp [intOf]; omega
      | false =>
        have hem := deedT_emp hok
        have HE : Hid (({ data := #[] } : ByteArray) = bs (jtL ds)) := Lib.hid (by unfold jtL; rw [HY3.out hok]; rfl)
        obtain ⟨t, ht⟩ : ∃ t, deedT kk xx = t := ⟨_, rfl⟩
        rw [ht] at hem
        have HTT := Lib.hid ht
        have hem2 : t.toList.isEmpty = true := hem
        clear ht hok hem hkl
        go_wp2_with fail
        refine (DeedText_any _ _ _).mono ?_
        rintro e w5 ⟨rfl, hb5⟩
        rw [HTT.out]
        have HB5 := Lib.hid (below_onto HBL2.out hb5)
        clear hb5 hc0 hc1 hq0 hq1 hw2
        go_wp2_with fail
        go_ret
        exact ⟨rets HE.out, HB5.out⟩
    · have hki : ¬ (k : Int) < (n : Int) := by omega
      have hkn : k = n := by omega
      have HE : Hid (jtR (ds.take k) = jtL ds) := Lib.hid (by
        have e : ds.take k = ds := by rw [hkn, ← HN.out, List.take_length]
        have h2 := HS.out.ok
        rw [e] at h2 ⊢
        unfold jtL
        rw [h2]; rfl)
      clear hkn hk
      go_wp2_with fail
      refine (BString_any w.heap.size w.heap.size _ _ HS.out.bld HS.out.bel.size).mono ?_
      rintro e w5 ⟨rfl, hb5⟩
      have HB5 := Lib.hid (HS.out.bel.trans hb5)
      clear hb5
      go_wp2_with fail
      go_ret
      exact ⟨rets (by rw [HE.out]), HB5.out⟩
end Go.Proofs.Ythbancphegnpdaa
