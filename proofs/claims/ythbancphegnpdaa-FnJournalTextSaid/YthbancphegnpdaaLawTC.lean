import Derived.Test.YthbancphegnpdaaTxAD
import Derived.Test.YthbancphegnpdaaLawTB
namespace Go.Proofs.Ythbancphegnpdaa
set_option linter.unusedVariables false
set_option linter.unusedSimpArgs false
open Go.RowKit Go.Maps

set_option maxRecDepth 100000 in
set_option maxHeartbeats 1600000 in
theorem lawDeedText (a : Option Addr) (n cap : Nat) (w : World) (h : BytesIn w a n cap) :
    Calls Try.prog 5 #[.slice a n cap] w (TrueEnd w) := by
  have hlen := h.len
  have H := Lib.hid h; clear h
  by_cases hn : 1048576 < n
  · go_enter Try.func5, Try.ntmps5
    go_wp2_with fail
    go_ret
    exact ⟨rfl, Below.refl _ _⟩
  · go_enter Try.func5, Try.ntmps5
    go_wp2_with fail
    refine (DrawDeedText_any _ _ _ _ H.out).mono ?_
    rintro e w1 ⟨k, x, rfl, hk0, hk9, hx64, hb1⟩
    have HB := Lib.hid (below_onto hb1 (alloc_below w1 (.cells #[.int .i64 k, .int .i64 x] 31)))
    have hbl := Blk2.new w1 31 (.int .i64 k) (.int .i64 x)
    have hlt := lt_alloc w1 (.cells #[.int .i64 k, .int .i64 x] 31)
    have HBL := Lib.hid hbl; have HLT := Lib.hid hlt
    clear H hb1 hbl hlt
    go_wp2_with fail
    refine (DeedText_any k x _).mono ?_
    rintro e w2 ⟨rfl, hb2⟩
    replace HBL := Lib.hid (HBL.out.kept hb2 HLT.out)
    replace HB := Lib.hid (below_onto HB.out hb2)
    replace HLT := Lib.hid (Nat.lt_of_lt_of_le HLT.out hb2.size)
    clear hb2
    have hc0 := HBL.out.cell.1; have hc1 := HBL.out.cell.2
    have hsn := sameN (deedT k x)
    cases hd : dOk k x with
    | false =>
      have hem : (deedT k x).toList.isEmpty = true := deedT_emp hd
      clear hd
      go_wp2_with fail
      refine (specDeedText_any k x _).mono ?_
      rintro e w3 ⟨rfl, hb2⟩
      replace HB := Lib.hid (below_onto HB.out hb2)
      clear hb2 hc0 hc1
      go_wp2_with fail
      refine (alive_any _).mono ?_
      rintro e w7 ⟨rfl, hb2⟩
      replace HB := Lib.hid (below_onto HB.out hb2); clear hb2
      go_wp2_with fail
      go_ret
      exact ⟨rfl, HB.out⟩
    | true =>
      have hem : (deedT k x).toList.isEmpty = false := deedT_emp hd
      obtain ⟨e1, e2, e3⟩ := rdD_is (rdD_of hd)
      have HE1 := Lib.hid e1; have HE2 := Lib.hid e2; have HE3 := Lib.hid e3
      have HSZ := Lib.hid (show (deedT k x).size ≤ 1099511627776 by have := (deed_facts hd).2.1; show (deedL k x).length ≤ _; omega)
      clear hd e1 e2 e3
      go_wp2_with fail
      refine (specDeedText_any k x _).mono ?_
      rintro e w3 ⟨rfl, hb2⟩
      replace HBL := Lib.hid (HBL.out.kept hb2 HLT.out)
      replace HB := Lib.hid (below_onto HB.out hb2)
      replace HLT := Lib.hid (Nat.lt_of_lt_of_le HLT.out hb2.size)
      clear hb2 hc0 hc1
      go_wp2_with fail
      refine (ReadDeed_any (deedT k x) HSZ.out _).mono ?_
      rintro e w4 ⟨rfl, hb2⟩
      rw [show (deedT k x).data.toList = deedL k x from rfl, HE1.out, HE2.out, HE3.out]
      replace HBL := Lib.hid (HBL.out.kept hb2 HLT.out)
      replace HB := Lib.hid (below_onto HB.out hb2)
      clear hb2
      have hal := alloc_below w4 (.cells #[.int .i64 k, .int .i64 x] 31)
      replace HB := Lib.hid (below_onto HB.out hal)
      have hblA := Lib.hid (HBL.out.kept hal HBL.out.lt)
      have hd0 := hblA.out.cell.1; have hd1 := hblA.out.cell.2
      have hq : (k == k && x == x) = true := by simp
      have hev := fun w => eqDeedV_val k x k x true hq w
      clear hal hq
      go_wp2_with fail
      go_ret
      exact ⟨rfl, HB.out⟩
end Go.Proofs.Ythbancphegnpdaa
