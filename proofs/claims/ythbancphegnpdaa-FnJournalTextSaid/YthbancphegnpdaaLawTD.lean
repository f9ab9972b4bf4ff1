import Derived.Test.YthbancphegnpdaaTxAE
import Derived.Test.YthbancphegnpdaaLawTC
namespace Go.Proofs.Ythbancphegnpdaa
set_option linter.unusedVariables false
set_option linter.unusedSimpArgs false
open Go.RowKit Go.Maps

theorem neDeedV (p q : Int) (w : World) : (binOp .neq 31 (.agg #[.int .i64 p, .int .i64 q]) (.agg #[.int .i64 p, .int .i64 q])).run Try.prog w = .ok (.bool false) w := by
  have u3 := Try.underlying3
  have hS : Try.prog.underlying 31 = some (.struct (Try.prog.fieldsOf 31)) := by kernel_rfl
  have hp : Try.prog.stoodInHeld 31 = false := by kernel_rfl
  rw [run_neq_struct, show (10000 : Nat) = 9999 + 1 from rfl, run_equalIn_agg w 9999 31 _ _ hS hp]
  simp only [Program.fieldsOf, Try.underlying31]
  go_simp
  try simp

theorem rdDB_more_all : deeds.all (fun d => !(rdDB (deedL d.1 d.2 ++ [32]))) = true := by decide +kernel
theorem rdDB_more {l : List UInt8} (h : rdDB l = true) : rdDB (l ++ [32]) = false := by
  obtain ⟨h1, h2⟩ := rdD_some (rdDB_some h)
  have := List.all_eq_true.1 rdDB_more_all _ (deeds_mem.2 h1)
  rw [h2] at this
  simpa using this

set_option maxRecDepth 100000 in
set_option maxHeartbeats 1600000 in
theorem DrawReadDeed_any (a : Option Addr) (n cap : Nat) (w : World) (h : BytesIn w a n cap) :
    Calls Try.prog 25 #[.slice a n cap] w fun e w' => ∃ s : ByteArray, e = .returned (.string s) ∧ s.size ≤ 100 ∧ Below w.heap.size w w' := by
  have H := Lib.hid h; clear h
  go_enter Try.func25, Try.ntmps25
  go_wp2_with fail
  refine (open_any _ _ _ _ H.out).mono ?_
  rintro e w1 ⟨rfl, hb1, hr1⟩
  have HB1 := Lib.hid hb1; have HR1 := Lib.hid hr1; clear hb1 hr1
  go_wp2_with fail
  have hrbw : w.heap.size < w1.heap.size := HR1.out.1
  refine (sets_any _ 0 0 (by omega) (by omega) (by omega) _ HR1.out).mono ?_
  rintro e w2 ⟨v, m, rfl, hm, hown, ho, hr⟩
  obtain ⟨a2, c2, rfl, hlst⟩ := hown.lst (by omega) hrbw
  have HO := Lib.hid ho; have HR := Lib.hid hr; have HL := Lib.hid hlst
  clear hown ho hr hlst
  go_wp2_with fail
  refine (deedR_any _ _ a2 m c2 (by omega) _ HR.out HL.out).mono ?_
  rintro e w3 ⟨k, x, rfl, hk0, hk9, hx, ho, hr⟩
  replace HO := Lib.hid (HO.out.trans ho); replace HR := Lib.hid hr
  clear ho hr HL
  go_wp2_with fail
  refine (specDeedText_any k x _).mono ?_
  rintro e w4 ⟨rfl, hb2⟩
  replace HO := Lib.hid (HO.out.trans (Only.of_below hb2)); replace HR := Lib.hid (HR.out.below hb2)
  clear hb2
  obtain ⟨t, ht⟩ : ∃ t, deedT k x = t := ⟨_, rfl⟩
  have htz : t.size ≤ 9 := by rw [← ht]; exact deed_len k x
  rw [ht]
  clear ht
  go_wp2_with fail
  refine (pick_any _ _ 3 (by omega) _ HR.out).mono ?_
  rintro e w5 ⟨q, rfl, hq, ho, hr⟩
  replace HO := Lib.hid (HO.out.trans ho); replace HR := Lib.hid hr; clear ho hr
  cases hqb : ((q : Int) == 0) with
  | false =>
    go_wp2_with fail
    go_ret
    exact ⟨_, rfl, by omega, HB1.out.trans (HO.out.below (Nat.le_refl _) HB1.out.size)⟩
  | true =>
    go_wp2_with fail
    refine (spoil_any _ _ (by omega) t (by omega) _ HR.out).mono ?_
    rintro e w6 ⟨s, rfl, hs, ho⟩
    replace HO := Lib.hid (HO.out.trans ho); clear ho
    go_wp2_with fail
    go_ret
    exact ⟨_, rfl, by omega, HB1.out.trans (HO.out.below (Nat.le_refl _) HB1.out.size)⟩

set_option maxRecDepth 100000 in
set_option maxHeartbeats 1600000 in
theorem lawReadDeed (a : Option Addr) (n cap : Nat) (w : World) (h : BytesIn w a n cap) :
    Calls Try.prog 6 #[.slice a n cap] w (TrueEnd w) := by
  have hlen := h.len
  have H := Lib.hid h; clear h
  by_cases hn : 1048576 < n
  · go_enter Try.func6, Try.ntmps6
    go_wp2_with fail
    go_ret
    exact ⟨rfl, Below.refl _ _⟩
  · go_enter Try.func6, Try.ntmps6
    go_wp2_with fail
    refine (DrawReadDeed_any _ _ _ _ H.out).mono ?_
    rintro e w1 ⟨s, rfl, hs, hb1⟩
    have HB := Lib.hid hb1
    clear H hb1
    go_wp2_with fail
    refine (ReadDeed_any s (by omega) _).mono ?_
    rintro e w2 ⟨rfl, hb2⟩
    replace HB := Lib.hid (below_onto HB.out hb2)
    clear hb2
    obtain ⟨k, hk⟩ : ∃ k, rdK s.data.toList = k := ⟨_, rfl⟩
    obtain ⟨x, hx⟩ : ∃ x, rdY s.data.toList = x := ⟨_, rfl⟩
    rw [hk, hx]
    have HK := Lib.hid hk; have HX := Lib.hid hx
    clear hk hx
    have hal := alloc_below w2 (.cells #[.int .i64 k, .int .i64 x] 31)
    have HBL := Lib.hid (Blk2.new w2 31 (.int .i64 k) (.int .i64 x))
    replace HB := Lib.hid (below_onto HB.out hal)
    have HLT := Lib.hid (lt_alloc w2 (.cells #[.int .i64 k, .int .i64 x] 31))
    clear hal
    cases hd : rdDB s.data.toList with
    | false =>
      obtain ⟨e1, e2, e3⟩ := rdD_no (rdDB_none hd)
      have hk0 : k = 0 := by rw [← HK.out, e1]
      have hx0 : x = 0 := by rw [← HX.out, e2]
      subst hk0; subst hx0
      have HD := Lib.hid hd
      clear hd e1 e2 e3
      go_wp2_with fail
      refine (specReadDeed_any s (by omega) _).mono ?_
      rintro e w3 ⟨rfl, hb2⟩
      rw [HK.out, HX.out, HD.out]
      replace HBL := Lib.hid (HBL.out.kept hb2 HLT.out)
      replace HB := Lib.hid (below_onto HB.out hb2)
      clear hb2
      have hal := alloc_below w3 (.cells #[.int .i64 0, .int .i64 0] 31)
      replace HB := Lib.hid (below_onto HB.out hal)
      replace HBL := Lib.hid (HBL.out.kept hal HBL.out.lt)
      have hc0 := HBL.out.cell.1; have hc1 := HBL.out.cell.2
      have hne := fun w => neDeedV 0 0 w
      have hev := fun w => eqDeedV_val 0 0 0 0 true rfl w
      clear hal
      go_wp2_with fail
      refine (alive_any _).mono ?_
      rintro e w7 ⟨rfl, hb2⟩
      replace HB := Lib.hid (below_onto HB.out hb2); clear hb2
      go_wp2_with fail
      go_ret
      exact ⟨rfl, HB.out⟩
    | true =>
      have HM := Lib.hid (rdDB_more hd)
      have HE := Lib.hid (show deedT k x = s by
        have h2 := (rdD_some (rdDB_some hd)).2
        rw [HK.out, HX.out] at h2
        exact list_inj h2)
      have HD := Lib.hid hd
      clear hd
      go_wp2_with fail
      refine (specReadDeed_any s (by omega) _).mono ?_
      rintro e w3 ⟨rfl, hb2⟩
      rw [HK.out, HX.out, HD.out]
      replace HBL := Lib.hid (HBL.out.kept hb2 HLT.out)
      replace HB := Lib.hid (below_onto HB.out hb2)
      clear hb2
      have hal := alloc_below w3 (.cells #[.int .i64 k, .int .i64 x] 31)
      replace HB := Lib.hid (below_onto HB.out hal)
      replace HBL := Lib.hid (HBL.out.kept hal HBL.out.lt)
      have HL4 := Lib.hid HBL.out.lt
      have hc0 := HBL.out.cell.1; have hc1 := HBL.out.cell.2
      have hne := fun w => neDeedV k x w
      have hA : ∀ W, (Op.stringOp .add s ⟨#[32]⟩).run Try.prog W = .ok (.string (s ++ ⟨#[32]⟩)) W := fun W => run_string_add_sum _ _ _ (by show s.size + 1 ≤ _; omega)
      clear hal
      go_wp2_with fail
      refine (ReadDeed_any _ (by rw [ByteArray.size_append]; show s.size + 1 ≤ _; omega) _).mono ?_
      rintro e w4 ⟨rfl, hb2⟩
      rw [app_data, show (⟨#[32]⟩ : ByteArray).data.toList = [32] from rfl, HM.out]
      replace HBL := Lib.hid (HBL.out.kept hb2 HL4.out)
      replace HB := Lib.hid (below_onto HB.out hb2)
      clear hb2 hA hc0 hc1 hne HL4
      obtain ⟨k2, hk2⟩ : ∃ z, rdK (s.data.toList ++ [32]) = z := ⟨_, rfl⟩
      obtain ⟨x2, hx2⟩ : ∃ z, rdY (s.data.toList ++ [32]) = z := ⟨_, rfl⟩
      rw [hk2, hx2]
      clear hk2 hx2
      have hal := alloc_below w4 (.cells #[.int .i64 k2, .int .i64 x2] 31)
      replace HB := Lib.hid (below_onto HB.out hal)
      replace HBL := Lib.hid (HBL.out.kept hal HBL.out.lt)
      have hc0 := HBL.out.cell.1; have hc1 := HBL.out.cell.2
      clear hal
      go_wp2_with fail
      refine (DeedText_any k x _).mono ?_
      rintro e w5 ⟨rfl, hb2⟩
      rw [HE.out]
      replace HB := Lib.hid (below_onto HB.out hb2)
      have hsn := sameT s
      clear hb2 hc0 hc1
      go_wp2_with fail
      go_ret
      exact ⟨rfl, HB.out⟩
end Go.Proofs.Ythbancphegnpdaa
