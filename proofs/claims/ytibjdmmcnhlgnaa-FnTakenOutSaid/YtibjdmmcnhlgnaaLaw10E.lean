import Derived.Test.YtibjdmmcnhlgnaaLaw10N
namespace Go.Proofs.Ytibjdmmcnhlgnaa
set_option linter.unusedVariables false
set_option linter.unusedSimpArgs false
open Go.RowKit Go.Maps

set_option maxRecDepth 100000 in
set_option maxHeartbeats 8000000 in
theorem lawTakenOut (a : Option Addr) (n cap : Nat) (w : World) (h : BytesIn w a n cap) :
    Calls Try.prog 8 #[.slice a n cap] w (TrueEnd w) := by
  have hlen := h.len
  have H := Lib.hid h; clear h
  by_cases hn : 1048576 < n
  · go_enter Try.func8, Try.ntmps8
    go_wp2_with fail
    go_ret
    exact ⟨rfl, Below.refl _ _⟩
  · go_enter Try.func8, Try.ntmps8
    go_wp2_with fail
    refine (DrawTakenOut_any _ _ _ _ H.out).mono ?_
    rintro e w9 ⟨d, m, c, f, d2, k, c2, P, Q, rfl, hm7, hc, hi, hp, hb1⟩
    have HI := Lib.hid hi; have HP := Lib.hid hp; have HB := Lib.hid hb1
    clear hi hp hb1
    cases hs : syB m f k with
    | false =>
      have HL := Lib.hid (show syL m f P Q k = [] by unfold syL; rw [hs]; rfl)
      obtain ⟨TL, hTL⟩ : ∃ TL, tyL m f P Q k = TL := ⟨_, rfl⟩
      have HT := Lib.hid hTL
      have HTL := Lib.hid (show TL.length ≤ 20 by rw [← hTL]; exact ty_len m f P Q k)
      have HT64 := Lib.hid (show ∀ x ∈ TL, I64 x by rw [← hTL]; exact ty_64)
      obtain ⟨tn, htn⟩ : ∃ tn, TL.length = tn := ⟨_, rfl⟩
      have HTE := Lib.hid htn
      have htn20 : tn ≤ 20 := by rw [← htn]; exact HTL.out
      have htn0 : tn = 0 := by
        rw [← htn, ← hTL]
        unfold tyL; rw [hs]; rfl
      have htz : ((tn : Int) == 0) = true := by rw [beq_iff_eq]; omega
      clear hs hTL htn htn0
      go_wp2_with fail
      refine (TakenOut_any _ _ m c k c2 f P Q hc.1 _ HI.out HP.out).mono ?_
      rintro e w9 ⟨v9, rfl, ho9, hb2⟩
      rw [HT.out] at ho9
      obtain ⟨aHA, cHA, rfl, hh9⟩ := ho9.has (by have := HTL.out; omega) HT64.out
      replace HI := Lib.hid (HI.out.next hb2)
      replace HP := Lib.hid (HP.out.next hb2)
      replace HB := Lib.hid (below_onto HB.out hb2)
      have HA := Lib.hid hh9.ints
      rw [HTE.out] at HA ⊢
      clear ho9 hh9 hb2
      go_wp2_with fail
      refine (specTakenOut_any _ _ m c k c2 f P Q _ HI.out HP.out).mono ?_
      rintro e w9 ⟨v9, rfl, ho9, hb2⟩
      rw [HT.out] at ho9
      obtain ⟨aHC, cHC, rfl, hh9⟩ := ho9.has (by have := HTL.out; omega) HT64.out
      replace HI := Lib.hid (HI.out.next hb2)
      replace HP := Lib.hid (HP.out.next hb2)
      replace HA := Lib.hid (HA.out.next hb2)
      replace HB := Lib.hid (below_onto HB.out hb2)
      have HC := Lib.hid hh9.ints
      rw [HTE.out] at HC ⊢
      clear ho9 hh9 hb2
      go_wp2_with fail
      refine (sameInts_any _ _ _ _ _ _ (by omega) _ HA.out HC.out).mono ?_
      rintro e w9 ⟨rfl, hb2⟩
      replace HI := Lib.hid (HI.out.next hb2)
      replace HP := Lib.hid (HP.out.next hb2)
      replace HA := Lib.hid (HA.out.next hb2)
      replace HC := Lib.hid (HC.out.next hb2)
      replace HB := Lib.hid (below_onto HB.out hb2)
      clear hb2
      clear HC
      go_wp2_with fail
      refine (specStoryOf_any _ _ m c k c2 f P Q _ HI.out HP.out).mono ?_
      rintro e w9 ⟨vs, rs, rfl, hsh, hb2⟩
      rw [HL.out] at hsh
      replace HI := Lib.hid (HI.out.next hb2)
      replace HP := Lib.hid (HP.out.next hb2)
      replace HA := Lib.hid (HA.out.next hb2)
      replace HB := Lib.hid (below_onto HB.out hb2)
      obtain ⟨sa, sc, rfl⟩ := hsh.nil_slice
      clear hsh hb2
      go_wp2_with fail
      refine (alive_any _).mono ?_
      rintro e w9 ⟨rfl, hb2⟩
      replace HI := Lib.hid (HI.out.next hb2)
      replace HP := Lib.hid (HP.out.next hb2)
      replace HA := Lib.hid (HA.out.next hb2)
      replace HB := Lib.hid (below_onto HB.out hb2)
      clear hb2
      go_wp2_with fail
      go_ret
      exact ⟨rfl, HB.out⟩
    | true =>
      have h2 := Bool.and_eq_true_iff.1 hs
      have HF := Lib.hid h2.1
      have hm1 := (shipB_iff.1 h2.1).1
      have hm6 := (shipB_iff.1 h2.1).2.1
      have HM1 := Lib.hid hm1
      have hk20 : k ≤ 20 := of_decide_eq_true h2.2
      have HL := Lib.hid (show syL m f P Q k = stL m f P Q k by unfold syL; rw [hs]; rfl)
      obtain ⟨q, hq⟩ : ∃ q, (dnL m f P Q k).length = q := ⟨_, rfl⟩
      have hqk : q ≤ k := by rw [← hq]; exact dn_len _ _ _ _ _
      have HLE := Lib.hid (show (stL m f P Q k).length = q + 1 by rw [st_len, hq])
      have HLA := Lib.hid (show (stL m f P Q k).getD q [] = rowL (nowF m f P Q k) m by rw [← hq]; exact st_last m f P Q k)
      have hns := now_ship (P := P) (Q := Q) h2.1 k
      have HNS := Lib.hid hns
      have HN64 := Lib.hid (show ∀ i, i < m → I64 (nowF m f P Q k i) from fun i hi => by have := ship_pk hns hi; unfold I64; omega)
      have hwq : IntKind.i64.wrap (((q + 1 : Nat) : Int) - 1) = (q : Int) := by rw [wrap_in _ (by unfold I64; omega)]; omega
      have hq0 : (0 : Int) ≤ (q : Int) := by omega
      have hqz : (((q + 1 : Nat) : Int) == 0) = false := by rw [beq_eq_false_iff_ne]; omega
      obtain ⟨TL, hTL⟩ : ∃ TL, tyL m f P Q k = TL := ⟨_, rfl⟩
      have HT := Lib.hid hTL
      have HTL := Lib.hid (show TL.length ≤ 20 by rw [← hTL]; exact ty_len m f P Q k)
      have HT64 := Lib.hid (show ∀ x ∈ TL, I64 x by rw [← hTL]; exact ty_64)
      obtain ⟨tn, htn⟩ : ∃ tn, TL.length = tn := ⟨_, rfl⟩
      have HTE := Lib.hid htn
      have htn20 : tn ≤ 20 := by rw [← htn]; exact HTL.out
      have hqt : q = tn := by
        symm
        rw [← htn, ← hTL, ← hq]
        unfold tyL; rw [hs]
        exact tk_len m f P Q k
      have HLT := Lib.hid (show ∀ j, j < m → inF (f j) m (nowF m f P Q k) = false → inF (f j) tn (fun i => TL.getD i 0) = true from fun j hj hn => by
        rcases lost_taken (P := P) (Q := Q) (inF_iff.2 ⟨j, hj, rfl⟩ : inF (f j) m f = true) k with h1 | h1
        · rw [hn] at h1; cases h1
        · rw [← htn, inL, List.contains_iff_mem, ← hTL]
          unfold tyL; rw [hs]; exact h1)
      have hqq : (((q : Nat) : Int) == (q : Int)) = true := by simp
      have hqz2 : ((q : Int) + 1 == 0) = false := by rw [beq_eq_false_iff_ne]; omega
      clear hs h2 hns hq hTL htn
      subst hqt
      go_wp2_with fail
      refine (TakenOut_any _ _ m c k c2 f P Q hc.1 _ HI.out HP.out).mono ?_
      rintro e w9 ⟨v9, rfl, ho9, hb2⟩
      rw [HT.out] at ho9
      obtain ⟨aHA, cHA, rfl, hh9⟩ := ho9.has (by have := HTL.out; omega) HT64.out
      replace HI := Lib.hid (HI.out.next hb2)
      replace HP := Lib.hid (HP.out.next hb2)
      replace HB := Lib.hid (below_onto HB.out hb2)
      have HA := Lib.hid hh9.ints
      rw [HTE.out] at HA ⊢
      clear ho9 hh9 hb2
      go_wp2_with fail
      refine (specTakenOut_any _ _ m c k c2 f P Q _ HI.out HP.out).mono ?_
      rintro e w9 ⟨v9, rfl, ho9, hb2⟩
      rw [HT.out] at ho9
      obtain ⟨aHC, cHC, rfl, hh9⟩ := ho9.has (by have := HTL.out; omega) HT64.out
      replace HI := Lib.hid (HI.out.next hb2)
      replace HP := Lib.hid (HP.out.next hb2)
      replace HA := Lib.hid (HA.out.next hb2)
      replace HB := Lib.hid (below_onto HB.out hb2)
      have HC := Lib.hid hh9.ints
      rw [HTE.out] at HC ⊢
      clear ho9 hh9 hb2
      go_wp2_with fail
      refine (sameInts_any _ _ _ _ _ _ (by omega) _ HA.out HC.out).mono ?_
      rintro e w9 ⟨rfl, hb2⟩
      replace HI := Lib.hid (HI.out.next hb2)
      replace HP := Lib.hid (HP.out.next hb2)
      replace HA := Lib.hid (HA.out.next hb2)
      replace HC := Lib.hid (HC.out.next hb2)
      replace HB := Lib.hid (below_onto HB.out hb2)
      clear hb2
      clear HC
      go_wp2_with fail
      refine (specStoryOf_any _ _ m c k c2 f P Q _ HI.out HP.out).mono ?_
      rintro e w9 ⟨vs, rs, rfl, hsh, hb2⟩
      rw [HL.out] at hsh
      replace HI := Lib.hid (HI.out.next hb2)
      replace HP := Lib.hid (HP.out.next hb2)
      replace HA := Lib.hid (HA.out.next hb2)
      replace HB := Lib.hid (below_onto HB.out hb2)
      obtain ⟨gs, cs, rfl⟩ := hsh.shape (by have := HLE.out; omega)
      have hcl := hsh.cell (i := q) (by have := HLE.out; omega)
      have hrw := hsh.rowAt (i := q) (by have := HLE.out; omega) HM1.out HLA.out
      have hgl := (World.ownsRow.lt (hsh.row q (by have := HLE.out; omega)).1 _ rfl).2
      obtain ⟨rq, hrq⟩ : ∃ r, rs.getD q (0, 0) = r := ⟨_, rfl⟩
      rw [hrq] at hcl hrw hgl
      obtain ⟨bq, cq⟩ := rq
      dsimp only at hcl hrw hgl
      rw [HLE.out]
      have HN := Lib.hid (ints_row hrw hgl (by have := hm7; omega) HN64.out)
      clear hsh hb2 hrq hrw hgl
      go_wp2_with fail
      go_loopw [8] (fun i wr => ∃ j : Nat, j ≤ m ∧ i = .int .i64 j ∧ Hid (Ints wr d m f) ∧ Hid (Ints wr (some ⟨bq, 0, none⟩) m (nowF m f P Q k)) ∧ Hid (Ints wr aHA q (fun i => TL.getD i 0)) ∧ Hid (Below w.heap.size w wr)) (fun i _ => m - (intOf i).toNat)
      case atStart => exact ⟨0, Nat.zero_le _, rfl, HI, HN, HA, HB⟩
      case round =>
        clear HI HN HA HB
        obtain ⟨j, hj, rfl, HI, HN, HA, HB⟩ := hrel
        by_cases hlt : j < m
        · have hji : (j : Int) < (m : Int) := by omega
          have hj0 : (0 : Int) ≤ (j : Int) := by omega
          obtain ⟨bi, oi, rfl, _, hri⟩ := HI.out.row (by omega)
          have hcj := hri j hlt
          have hrI := Lib.hid (show ∀ W, Ints W (some ⟨bi, oi, none⟩) m f → W.cell? ⟨bi, oi + j, none⟩ = some (.int .i64 (f j)) from fun W hW => by
            obtain ⟨b', o', e, _, h⟩ := hW.row (by omega)
            cases e; exact h j hlt)
          have HJJ := Lib.hid (HLT.out j hlt)
          obtain ⟨z, hz⟩ : ∃ z, f j = z := ⟨_, rfl⟩
          rw [hz] at hcj hrI HJJ
          clear hri hz
          obtain ⟨w9, rfl⟩ : ∃ w9 : World, w9 = wr := ⟨_, rfl⟩
          cases hu : inF z m (nowF m f P Q k) with
          | true =>
            have HU := Lib.hid hu; clear hu
            go_wp2_with fail
            refine (hasInt_val _ m cq (nowF m f P Q k) z true HU.out _ HN.out).mono ?_
            rintro e w9 ⟨rfl, hb2⟩
            replace HI := Lib.hid (HI.out.next hb2)
            replace HN := Lib.hid (HN.out.next hb2)
            replace HA := Lib.hid (HA.out.next hb2)
            replace HB := Lib.hid (below_onto HB.out hb2)
            clear hb2 hcj
            go_wp2_with fail
            go_roundw
            case rel => exact ⟨j + 1, by omega, by go_num, HI, HN, HA, HB⟩
            case measure => simp [intOf]; omega
          | false =>
            have HW := Lib.hid (HJJ.out hu)
            have HU := Lib.hid hu; clear hu
            go_wp2_with fail
            refine (hasInt_val _ m cq (nowF m f P Q k) z false HU.out _ HN.out).mono ?_
            rintro e w9 ⟨rfl, hb2⟩
            replace HI := Lib.hid (HI.out.next hb2)
            replace HN := Lib.hid (HN.out.next hb2)
            replace HA := Lib.hid (HA.out.next hb2)
            replace HB := Lib.hid (below_onto HB.out hb2)
            clear hb2
            replace hcj := (hrI.out _ HI.out)
            go_wp2_with fail
            refine (hasInt_val _ q _ (fun i => TL.getD i 0) z true HW.out _ HA.out).mono ?_
            rintro e w9 ⟨rfl, hb2⟩
            replace HI := Lib.hid (HI.out.next hb2)
            replace HN := Lib.hid (HN.out.next hb2)
            replace HA := Lib.hid (HA.out.next hb2)
            replace HB := Lib.hid (below_onto HB.out hb2)
            clear hb2 hcj
            go_wp2_with fail
            go_roundw
            case rel => exact ⟨j + 1, by omega, by go_num, HI, HN, HA, HB⟩
            case measure => simp [intOf]; omega
        · have hji : ¬ (j : Int) < (m : Int) := by omega
          obtain ⟨w9, rfl⟩ : ∃ w9 : World, w9 = wr := ⟨_, rfl⟩
          go_wp2_with fail
          refine (alive_any _).mono ?_
          rintro e w9 ⟨rfl, hb2⟩
          replace HI := Lib.hid (HI.out.next hb2)
          replace HN := Lib.hid (HN.out.next hb2)
          replace HA := Lib.hid (HA.out.next hb2)
          replace HB := Lib.hid (below_onto HB.out hb2)
          clear hb2
          go_wp2_with fail
          go_ret
          exact ⟨rfl, HB.out⟩


end Go.Proofs.Ytibjdmmcnhlgnaa
