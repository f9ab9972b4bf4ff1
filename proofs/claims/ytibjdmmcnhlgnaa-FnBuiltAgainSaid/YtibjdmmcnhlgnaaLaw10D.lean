import Derived.Test.YtibjdmmcnhlgnaaLaw10N
namespace Go.Proofs.Ytibjdmmcnhlgnaa
set_option linter.unusedVariables false
set_option linter.unusedSimpArgs false
open Go.RowKit Go.Maps

theorem built_b (a b : Option Addr) (n c m c2 : Nat) (f P Q : Nat → Int) (v : Bool) (hv : buB n f P Q m = v) (hc : n ≤ c) (w : World) (hi : Ints w a n f) (hp : Prs w b m P Q) :
    Calls Try.prog 39 #[.slice a n c, .slice b m c2] w fun e w' => e = .returned (.bool v) ∧ Below w.heap.size w w' := by subst hv; exact BuiltAgain_any a b n c m c2 f P Q hc w hi hp
theorem specBuilt_b (a b : Option Addr) (n c m c2 : Nat) (f P Q : Nat → Int) (v : Bool) (hv : buB n f P Q m = v) (w : World) (hi : Ints w a n f) (hp : Prs w b m P Q) :
    Calls Try.prog 40 #[.slice a n c, .slice b m c2] w fun e w' => e = .returned (.bool v) ∧ Below w.heap.size w w' := by subst hv; exact specBuiltAgain_any a b n c m c2 f P Q w hi hp

set_option maxRecDepth 100000 in
set_option maxHeartbeats 8000000 in
theorem lawBuiltAgain (a : Option Addr) (n cap : Nat) (w : World) (h : BytesIn w a n cap) :
    Calls Try.prog 9 #[.slice a n cap] w (TrueEnd w) := by
  have hlen := h.len
  have H := Lib.hid h; clear h
  by_cases hn : 1048576 < n
  · go_enter Try.func9, Try.ntmps9
    go_wp2_with fail
    go_ret
    exact ⟨rfl, Below.refl _ _⟩
  · go_enter Try.func9, Try.ntmps9
    go_wp2_with fail
    refine (DrawBuiltAgain_any _ _ _ _ H.out).mono ?_
    rintro e w9 ⟨d, m, c, f, d2, k, c2, P, Q, rfl, hm7, hc, hi, hp, hb1⟩
    have HI := Lib.hid hi; have HP := Lib.hid hp; have HB := Lib.hid hb1
    clear hi hp hb1
    cases hs : syB m f k with
    | false =>
      have HL := Lib.hid (show syL m f P Q k = [] by unfold syL; rw [hs]; rfl)
      have HV := Lib.hid (bu_no (P := P) (Q := Q) hs)
      clear hs
      go_wp2_with fail
      refine (built_b _ _ m c k c2 f P Q false HV.out hc.1 _ HI.out HP.out).mono ?_
      rintro e w9 ⟨rfl, hb2⟩
      replace HI := Lib.hid (HI.out.next hb2)
      replace HP := Lib.hid (HP.out.next hb2)
      replace HB := Lib.hid (below_onto HB.out hb2)
      clear hb2
      go_wp2_with fail
      refine (specBuilt_b _ _ m c k c2 f P Q false HV.out _ HI.out HP.out).mono ?_
      rintro e w9 ⟨rfl, hb2⟩
      replace HI := Lib.hid (HI.out.next hb2)
      replace HP := Lib.hid (HP.out.next hb2)
      replace HB := Lib.hid (below_onto HB.out hb2)
      clear hb2
      go_wp2_with fail
      refine (specStoryOf_any _ _ m c k c2 f P Q _ HI.out HP.out).mono ?_
      rintro e w9 ⟨vs, rs, rfl, hsh, hb2⟩
      rw [HL.out] at hsh
      replace HI := Lib.hid (HI.out.next hb2)
      replace HP := Lib.hid (HP.out.next hb2)
      replace HB := Lib.hid (below_onto HB.out hb2)
      obtain ⟨sa, sc, rfl⟩ := hsh.nil_slice
      clear hsh hb2
      go_wp2_with fail
      refine (alive_any _).mono ?_
      rintro e w9 ⟨rfl, hb2⟩
      replace HI := Lib.hid (HI.out.next hb2)
      replace HP := Lib.hid (HP.out.next hb2)
      replace HB := Lib.hid (below_onto HB.out hb2)
      clear hb2
      go_wp2_with fail
      go_ret
      exact ⟨rfl, HB.out⟩
    | true =>
      have h2 := Bool.and_eq_true_iff.1 hs
      have HF := Lib.hid h2.1
      have hm1 := (shipB_iff.1 h2.1).1
      have hm6 := (shipB_iff.1 h2.1).2.1
      have HM1 := Lib.hid hm1
      have hk20 : k ≤ 20 := of_decide_eq_true h2.2
      have HL := Lib.hid (show syL m f P Q k = stL m f P Q k by unfold syL; rw [hs]; rfl)
      obtain ⟨q, hq⟩ : ∃ q, (dnL m f P Q k).length = q := ⟨_, rfl⟩
      have hqk : q ≤ k := by rw [← hq]; exact dn_len _ _ _ _ _
      have HLE := Lib.hid (show (stL m f P Q k).length = q + 1 by rw [st_len, hq])
      have HLA := Lib.hid (show (stL m f P Q k).getD q [] = rowL (nowF m f P Q k) m by rw [← hq]; exact st_last m f P Q k)
      have hns := now_ship (P := P) (Q := Q) h2.1 k
      have HNS := Lib.hid hns
      have HN64 := Lib.hid (show ∀ i, i < m → I64 (nowF m f P Q k i) from fun i hi => by have := ship_pk hns hi; unfold I64; omega)
      have hwq : IntKind.i64.wrap (((q + 1 : Nat) : Int) - 1) = (q : Int) := by rw [wrap_in _ (by unfold I64; omega)]; omega
      have hq0 : (0 : Int) ≤ (q : Int) := by omega
      have hqz : (((q + 1 : Nat) : Int) == 0) = false := by rw [beq_eq_false_iff_ne]; omega
      have HC := Lib.hid (cmI_yes h2.1 hns)
      obtain ⟨cc, hcc⟩ : ∃ cc : Int, ((cntF m f m (nowF m f P Q k) : Nat) : Int) = cc := ⟨_, rfl⟩
      have HBN := Lib.hid (fun (h : cc = 0) => bu_none (P := P) (Q := Q) hs (show cntF m f m (nowF m f P Q k) = 0 by omega))
      rw [hcc] at HC
      clear hs h2 hns hq hcc
      cases hv : buB m f P Q k with
      | true =>
        have hmk := bu_many hv
        have HV := Lib.hid hv; clear hv
        have hge : decide ((k : Int) ≥ (m : Int)) = true := by simp; omega
        have hge2 : decide ((m : Int) ≤ (k : Int)) = true := by simp; omega
        cases hz : (cc == 0) with
        | true =>
          go_wp2_with fail
          refine (built_b _ _ m c k c2 f P Q true HV.out hc.1 _ HI.out HP.out).mono ?_
          rintro e w9 ⟨rfl, hb2⟩
          replace HI := Lib.hid (HI.out.next hb2)
          replace HP := Lib.hid (HP.out.next hb2)
          replace HB := Lib.hid (below_onto HB.out hb2)
          clear hb2
          go_wp2_with fail
          refine (specBuilt_b _ _ m c k c2 f P Q true HV.out _ HI.out HP.out).mono ?_
          rintro e w9 ⟨rfl, hb2⟩
          replace HI := Lib.hid (HI.out.next hb2)
          replace HP := Lib.hid (HP.out.next hb2)
          replace HB := Lib.hid (below_onto HB.out hb2)
          clear hb2
          go_wp2_with fail
          refine (specStoryOf_any _ _ m c k c2 f P Q _ HI.out HP.out).mono ?_
          rintro e w9 ⟨vs, rs, rfl, hsh, hb2⟩
          rw [HL.out] at hsh
          replace HI := Lib.hid (HI.out.next hb2)
          replace HP := Lib.hid (HP.out.next hb2)
          replace HB := Lib.hid (below_onto HB.out hb2)
          obtain ⟨gs, cs, rfl⟩ := hsh.shape (by have := HLE.out; omega)
          have hcl := hsh.cell (i := q) (by have := HLE.out; omega)
          have hrw := hsh.rowAt (i := q) (by have := HLE.out; omega) (by have := hm7; have := HM1.out; omega) HLA.out
          have hcp := (hsh.row q (by have := HLE.out; omega)).2
          have hgl := (World.ownsRow.lt (hsh.row q (by have := HLE.out; omega)).1 _ rfl).2
          obtain ⟨rq, hrq⟩ : ∃ r, rs.getD q (0, 0) = r := ⟨_, rfl⟩
          rw [hrq] at hcl hrw hcp hgl
          obtain ⟨bq, cq⟩ := rq
          dsimp only at hcl hrw hcp hgl
          rw [HLE.out]
          have HN := Lib.hid (ints_row hrw hgl (by have := hm7; omega) HN64.out)
          clear hsh hb2 hrq hrw hgl
          go_wp2_with fail
          refine (CommonIn_b _ _ m c m cq f _ cc HC.out hc.1 hcp _ HI.out HN.out).mono ?_
          rintro e w9 ⟨rfl, hb2⟩
          replace HI := Lib.hid (HI.out.next hb2)
          replace HP := Lib.hid (HP.out.next hb2)
          replace HN := Lib.hid (HN.out.next hb2)
          replace HB := Lib.hid (below_onto HB.out hb2)
          clear hb2
          go_wp2_with fail
          refine (alive_any _).mono ?_
          rintro e w9 ⟨rfl, hb2⟩
          replace HI := Lib.hid (HI.out.next hb2)
          replace HP := Lib.hid (HP.out.next hb2)
          replace HN := Lib.hid (HN.out.next hb2)
          replace HB := Lib.hid (below_onto HB.out hb2)
          clear hb2
          go_wp2_with fail
          go_ret
          exact ⟨rfl, HB.out⟩
        | false =>
          go_wp2_with fail
          refine (built_b _ _ m c k c2 f P Q true HV.out hc.1 _ HI.out HP.out).mono ?_
          rintro e w9 ⟨rfl, hb2⟩
          replace HI := Lib.hid (HI.out.next hb2)
          replace HP := Lib.hid (HP.out.next hb2)
          replace HB := Lib.hid (below_onto HB.out hb2)
          clear hb2
          go_wp2_with fail
          refine (specBuilt_b _ _ m c k c2 f P Q true HV.out _ HI.out HP.out).mono ?_
          rintro e w9 ⟨rfl, hb2⟩
          replace HI := Lib.hid (HI.out.next hb2)
          replace HP := Lib.hid (HP.out.next hb2)
          replace HB := Lib.hid (below_onto HB.out hb2)
          clear hb2
          go_wp2_with fail
          refine (specStoryOf_any _ _ m c k c2 f P Q _ HI.out HP.out).mono ?_
          rintro e w9 ⟨vs, rs, rfl, hsh, hb2⟩
          rw [HL.out] at hsh
          replace HI := Lib.hid (HI.out.next hb2)
          replace HP := Lib.hid (HP.out.next hb2)
          replace HB := Lib.hid (below_onto HB.out hb2)
          obtain ⟨gs, cs, rfl⟩ := hsh.shape (by have := HLE.out; omega)
          have hcl := hsh.cell (i := q) (by have := HLE.out; omega)
          have hrw := hsh.rowAt (i := q) (by have := HLE.out; omega) (by have := hm7; have := HM1.out; omega) HLA.out
          have hcp := (hsh.row q (by have := HLE.out; omega)).2
          have hgl := (World.ownsRow.lt (hsh.row q (by have := HLE.out; omega)).1 _ rfl).2
          obtain ⟨rq, hrq⟩ : ∃ r, rs.getD q (0, 0) = r := ⟨_, rfl⟩
          rw [hrq] at hcl hrw hcp hgl
          obtain ⟨bq, cq⟩ := rq
          dsimp only at hcl hrw hcp hgl
          rw [HLE.out]
          have HN := Lib.hid (ints_row hrw hgl (by have := hm7; omega) HN64.out)
          clear hsh hb2 hrq hrw hgl
          go_wp2_with fail
          refine (CommonIn_b _ _ m c m cq f _ cc HC.out hc.1 hcp _ HI.out HN.out).mono ?_
          rintro e w9 ⟨rfl, hb2⟩
          replace HI := Lib.hid (HI.out.next hb2)
          replace HP := Lib.hid (HP.out.next hb2)
          replace HN := Lib.hid (HN.out.next hb2)
          replace HB := Lib.hid (below_onto HB.out hb2)
          clear hb2
          go_wp2_with fail
          refine (alive_any _).mono ?_
          rintro e w9 ⟨rfl, hb2⟩
          replace HI := Lib.hid (HI.out.next hb2)
          replace HP := Lib.hid (HP.out.next hb2)
          replace HN := Lib.hid (HN.out.next hb2)
          replace HB := Lib.hid (below_onto HB.out hb2)
          clear hb2
          go_wp2_with fail
          go_ret
          exact ⟨rfl, HB.out⟩
      | false =>
        have HV := Lib.hid hv
        have hz : (cc == 0) = false := by
          rw [beq_eq_false_iff_ne]
          intro h
          rw [HBN.out h] at hv; cases hv
        clear hv
        by_cases hge : m ≤ k
        · have hge1 : decide ((k : Int) ≥ (m : Int)) = true := by simp; omega
          have hge2 : decide ((m : Int) ≤ (k : Int)) = true := by simp; omega
          go_wp2_with fail
          refine (built_b _ _ m c k c2 f P Q false HV.out hc.1 _ HI.out HP.out).mono ?_
          rintro e w9 ⟨rfl, hb2⟩
          replace HI := Lib.hid (HI.out.next hb2)
          replace HP := Lib.hid (HP.out.next hb2)
          replace HB := Lib.hid (below_onto HB.out hb2)
          clear hb2
          go_wp2_with fail
          refine (specBuilt_b _ _ m c k c2 f P Q false HV.out _ HI.out HP.out).mono ?_
          rintro e w9 ⟨rfl, hb2⟩
          replace HI := Lib.hid (HI.out.next hb2)
          replace HP := Lib.hid (HP.out.next hb2)
          replace HB := Lib.hid (below_onto HB.out hb2)
          clear hb2
          go_wp2_with fail
          refine (specStoryOf_any _ _ m c k c2 f P Q _ HI.out HP.out).mono ?_
          rintro e w9 ⟨vs, rs, rfl, hsh, hb2⟩
          rw [HL.out] at hsh
          replace HI := Lib.hid (HI.out.next hb2)
          replace HP := Lib.hid (HP.out.next hb2)
          replace HB := Lib.hid (below_onto HB.out hb2)
          obtain ⟨gs, cs, rfl⟩ := hsh.shape (by have := HLE.out; omega)
          have hcl := hsh.cell (i := q) (by have := HLE.out; omega)
          have hrw := hsh.rowAt (i := q) (by have := HLE.out; omega) (by have := hm7; have := HM1.out; omega) HLA.out
          have hcp := (hsh.row q (by have := HLE.out; omega)).2
          have hgl := (World.ownsRow.lt (hsh.row q (by have := HLE.out; omega)).1 _ rfl).2
          obtain ⟨rq, hrq⟩ : ∃ r, rs.getD q (0, 0) = r := ⟨_, rfl⟩
          rw [hrq] at hcl hrw hcp hgl
          obtain ⟨bq, cq⟩ := rq
          dsimp only at hcl hrw hcp hgl
          rw [HLE.out]
          have HN := Lib.hid (ints_row hrw hgl (by have := hm7; omega) HN64.out)
          clear hsh hb2 hrq hrw hgl
          go_wp2_with fail
          refine (CommonIn_b _ _ m c m cq f _ cc HC.out hc.1 hcp _ HI.out HN.out).mono ?_
          rintro e w9 ⟨rfl, hb2⟩
          replace HI := Lib.hid (HI.out.next hb2)
          replace HP := Lib.hid (HP.out.next hb2)
          replace HN := Lib.hid (HN.out.next hb2)
          replace HB := Lib.hid (below_onto HB.out hb2)
          clear hb2
          go_wp2_with fail
          refine (alive_any _).mono ?_
          rintro e w9 ⟨rfl, hb2⟩
          replace HI := Lib.hid (HI.out.next hb2)
          replace HP := Lib.hid (HP.out.next hb2)
          replace HN := Lib.hid (HN.out.next hb2)
          replace HB := Lib.hid (below_onto HB.out hb2)
          clear hb2
          go_wp2_with fail
          go_ret
          exact ⟨rfl, HB.out⟩
        · have hge1 : decide ((k : Int) ≥ (m : Int)) = false := by simp; omega
          have hge2 : decide ((m : Int) ≤ (k : Int)) = false := by simp; omega
          go_wp2_with fail
          refine (built_b _ _ m c k c2 f P Q false HV.out hc.1 _ HI.out HP.out).mono ?_
          rintro e w9 ⟨rfl, hb2⟩
          replace HI := Lib.hid (HI.out.next hb2)
          replace HP := Lib.hid (HP.out.next hb2)
          replace HB := Lib.hid (below_onto HB.out hb2)
          clear hb2
          go_wp2_with fail
          refine (specBuilt_b _ _ m c k c2 f P Q false HV.out _ HI.out HP.out).mono ?_
          rintro e w9 ⟨rfl, hb2⟩
          replace HI := Lib.hid (HI.out.next hb2)
          replace HP := Lib.hid (HP.out.next hb2)
          replace HB := Lib.hid (below_onto HB.out hb2)
          clear hb2
          go_wp2_with fail
          refine (specStoryOf_any _ _ m c k c2 f P Q _ HI.out HP.out).mono ?_
          rintro e w9 ⟨vs, rs, rfl, hsh, hb2⟩
          rw [HL.out] at hsh
          replace HI := Lib.hid (HI.out.next hb2)
          replace HP := Lib.hid (HP.out.next hb2)
          replace HB := Lib.hid (below_onto HB.out hb2)
          obtain ⟨gs, cs, rfl⟩ := hsh.shape (by have := HLE.out; omega)
          have hcl := hsh.cell (i := q) (by have := HLE.out; omega)
          have hrw := hsh.rowAt (i := q) (by have := HLE.out; omega) (by have := hm7; have := HM1.out; omega) HLA.out
          have hcp := (hsh.row q (by have := HLE.out; omega)).2
          have hgl := (World.ownsRow.lt (hsh.row q (by have := HLE.out; omega)).1 _ rfl).2
          obtain ⟨rq, hrq⟩ : ∃ r, rs.getD q (0, 0) = r := ⟨_, rfl⟩
          rw [hrq] at hcl hrw hcp hgl
          obtain ⟨bq, cq⟩ := rq
          dsimp only at hcl hrw hcp hgl
          rw [HLE.out]
          have HN := Lib.hid (ints_row hrw hgl (by have := hm7; omega) HN64.out)
          clear hsh hb2 hrq hrw hgl
          go_wp2_with fail
          refine (CommonIn_b _ _ m c m cq f _ cc HC.out hc.1 hcp _ HI.out HN.out).mono ?_
          rintro e w9 ⟨rfl, hb2⟩
          replace HI := Lib.hid (HI.out.next hb2)
          replace HP := Lib.hid (HP.out.next hb2)
          replace HN := Lib.hid (HN.out.next hb2)
          replace HB := Lib.hid (below_onto HB.out hb2)
          clear hb2
          go_wp2_with fail
          refine (alive_any _).mono ?_
          rintro e w9 ⟨rfl, hb2⟩
          replace HI := Lib.hid (HI.out.next hb2)
          replace HP := Lib.hid (HP.out.next hb2)
          replace HN := Lib.hid (HN.out.next hb2)
          replace HB := Lib.hid (below_onto HB.out hb2)
          clear hb2
          go_wp2_with fail
          go_ret
          exact ⟨rfl, HB.out⟩


end Go.Proofs.Ytibjdmmcnhlgnaa
