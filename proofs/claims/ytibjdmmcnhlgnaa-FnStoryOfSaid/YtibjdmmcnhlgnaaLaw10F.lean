import Derived.Test.YtibjdmmcnhlgnaaLaw10N
namespace Go.Proofs.Ytibjdmmcnhlgnaa
set_option linter.unusedVariables false
set_option linter.unusedSimpArgs false
open Go.RowKit Go.Maps

theorem mo_rows {n : Nat} {f f' g g' : Nat → Int} {b : Int} (h1 : rowL f n = rowL f' n) (h2 : rowL g n = rowL g' n) (h : moB n f n g b = true) : moB n f' n g' b = true := by
  have e1 : ∀ k, k < n → f k = f' k := fun k hk => by rw [← rowL_getD f n k hk, h1, rowL_getD f' n k hk]
  have e2 : ∀ k, k < n → g k = g' k := fun k hk => by rw [← rowL_getD g n k hk, h2, rowL_getD g' n k hk]
  obtain ⟨a1, a2, a3, a4⟩ := moB_iff.1 h
  refine moB_iff.2 ⟨by rw [← shipB_congr e1]; exact a1, by rw [← shipB_congr e2]; exact a2, a3, ?_⟩
  rw [← cntF_congr e1 e2]; exact a4
/-- the ships of a story -/
theorem st_ships {n : Nat} {f P Q : Nat → Int} {m : Nat} (h : shipB n f = true) : ∃ F : Nat → Nat → Int, ∀ k, k ≤ (dnL n f P Q m).length →
    (stL n f P Q m).getD k [] = rowL (F k) n ∧ shipB n (F k) = true ∧ moB n (F 0) n (F k) k = true ∧ (k < (dnL n f P Q m).length → moB n (F k) n (F (k + 1)) 1 = true) := by
  obtain ⟨F, hF⟩ : ∃ F : Nat → Nat → Int, F = fun k => if k < (dnL n f P Q m).length then nowF n f P Q ((dnL n f P Q m).getD k 0) else nowF n f P Q m := ⟨_, rfl⟩
  have hrow : ∀ k, k ≤ (dnL n f P Q m).length → (stL n f P Q m).getD k [] = rowL (F k) n := by
    intro k hk
    rw [hF]; dsimp only
    by_cases hl : k < (dnL n f P Q m).length
    · rw [if_pos hl]; exact (st_pair n f P Q m k hl).1
    · rw [if_neg hl]
      have e : k = (dnL n f P Q m).length := by omega
      rw [e]; exact st_last n f P Q m
  have h0 : rowL (F 0) n = rowL f n := by rw [← hrow 0 (Nat.zero_le _)]; rfl
  refine ⟨F, fun k hk => ⟨hrow k hk, ?_, ?_, fun hl => ?_⟩⟩
  · rw [hF]; dsimp only
    by_cases hl : k < (dnL n f P Q m).length
    · rw [if_pos hl]; exact now_ship h _
    · rw [if_neg hl]; exact now_ship h _
  · refine mo_rows h0.symm rfl ?_
    rw [hF]; dsimp only
    by_cases hl : k < (dnL n f P Q m).length
    · rw [if_pos hl]
      have h1 := dn_count n f P Q m k hl
      rw [dn_yes (st_pair n f P Q m k hl).2.2, List.length_append] at h1
      have h2 := mo_story (P := P) (Q := Q) h ((dnL n f P Q m).getD k 0)
      have e : (dnL n f P Q ((dnL n f P Q m).getD k 0)).length = k := by
        have : ([(dnL n f P Q m).getD k 0] : List Nat).length = 1 := rfl
        omega
      rw [e] at h2; exact h2
    · rw [if_neg hl]
      have h2 := mo_story (P := P) (Q := Q) h m
      have e : (dnL n f P Q m).length = k := by omega
      rw [e] at h2; exact h2
  · have hp := st_pair n f P Q m k hl
    refine mo_rows ?_ ?_ (mo_step h hp.2.2)
    · rw [← hp.1, hrow k (by omega)]
    · rw [← hp.2.1, hrow (k + 1) (by omega)]

set_option maxRecDepth 100000 in
set_option maxHeartbeats 8000000 in
theorem lawStoryOf (a : Option Addr) (n cap : Nat) (w : World) (h : BytesIn w a n cap) :
    Calls Try.prog 7 #[.slice a n cap] w (TrueEnd w) := by
  have hlen := h.len
  have H := Lib.hid h; clear h
  by_cases hn : 1048576 < n
  · go_enter Try.func7, Try.ntmps7
    go_wp2_with fail
    go_ret
    exact ⟨rfl, Below.refl _ _⟩
  · go_enter Try.func7, Try.ntmps7
    go_wp2_with fail
    refine (DrawStoryOf_any _ _ _ _ H.out).mono ?_
    rintro e w9 ⟨d, m, c, f, d2, k, c2, P, Q, rfl, hm7, hc, hi, hp, hb1⟩
    have HI := Lib.hid hi; have HP := Lib.hid hp; have HB := Lib.hid hb1
    clear hi hp hb1
    cases hs : syB m f k with
    | false =>
      have HL := Lib.hid (show syL m f P Q k = [] by unfold syL; rw [hs]; rfl)
      clear hs
      go_wp2_with fail
      refine (StoryOf_any _ _ m c k c2 f P Q hc.1 _ HI.out HP.out).mono ?_
      rintro e w9 ⟨vs, rs, rfl, hsh, hb2⟩
      rw [HL.out] at hsh
      replace HI := Lib.hid (HI.out.next hb2); replace HP := Lib.hid (HP.out.next hb2); replace HB := Lib.hid (below_onto HB.out hb2)
      obtain ⟨sa, sc, rfl⟩ := hsh.nil_slice
      clear hsh hb2
      go_wp2_with fail
      refine (specStoryOf_any _ _ m c k c2 f P Q _ HI.out HP.out).mono ?_
      rintro e w9 ⟨vs, rs, rfl, hsh, hb2⟩
      rw [HL.out] at hsh
      replace HB := Lib.hid (below_onto HB.out hb2)
      obtain ⟨sa2, sc2, rfl⟩ := hsh.nil_slice
      clear hsh hb2 HI HP
      go_wp2_with fail
      go_loopw [7] (fun i wr => i = .int .i64 0 ∧ Hid (Below w.heap.size w wr)) (fun _ _ => 0)
      case atStart => exact ⟨rfl, HB⟩
      case round =>
        clear HB
        obtain ⟨rfl, HB⟩ := hrel
        go_wp2_with fail
        refine (alive_any _).mono ?_
        rintro e w9 ⟨rfl, hb2⟩
        replace HB := Lib.hid (below_onto HB.out hb2); clear hb2
        go_wp2_with fail
        go_ret
        exact ⟨rfl, HB.out⟩
    | true =>
      have h2 := Bool.and_eq_true_iff.1 hs
      have HF := Lib.hid h2.1
      have hm1 := (shipB_iff.1 h2.1).1
      have hm6 := (shipB_iff.1 h2.1).2.1
      have HM1 := Lib.hid hm1
      have hk20 : k ≤ 20 := of_decide_eq_true h2.2
      have HL := Lib.hid (show syL m f P Q k = stL m f P Q k by unfold syL; rw [hs]; rfl)
      obtain ⟨FF, hFF⟩ := st_ships (P := P) (Q := Q) (m := k) h2.1
      obtain ⟨q, hq⟩ : ∃ q, (dnL m f P Q k).length = q := ⟨_, rfl⟩
      have hqk : q ≤ k := by rw [← hq]; exact dn_len _ _ _ _ _
      have HLE := Lib.hid (show (stL m f P Q k).length = q + 1 by rw [st_len, hq])
      rw [hq] at hFF
      have HFF := Lib.hid hFF
      have HR0 := Lib.hid (show (stL m f P Q k).getD 0 [] = rowL f m from rfl)
      have hqz2 : ((q : Int) + 1 == 0) = false := by rw [beq_eq_false_iff_ne]; omega
      have hne : (((q : Int) + 1) != ((q : Int) + 1)) = false := by simp
      have hle : decide ((q : Int) + 1 ≤ (k : Int) + 1) = true := by simp; omega
      have hle2 : decide ((q : Int) ≤ (k : Int)) = true := by simp; omega
      clear hs h2 hq hFF
      go_wp2_with fail
      refine (StoryOf_any _ _ m c k c2 f P Q hc.1 _ HI.out HP.out).mono ?_
      rintro e w9 ⟨vs, rs, rfl, hsh, hb2⟩
      rw [HL.out] at hsh
      replace HI := Lib.hid (HI.out.next hb2); replace HP := Lib.hid (HP.out.next hb2); replace HB := Lib.hid (below_onto HB.out hb2)
      obtain ⟨gs, cs, rfl⟩ := hsh.shape (by have := HLE.out; omega)
      have HSA := Lib.hid hsh
      rw [HLE.out]
      clear hsh hb2
      go_wp2_with fail
      refine (specStoryOf_any _ _ m c k c2 f P Q _ HI.out HP.out).mono ?_
      rintro e w9 ⟨vs, rw_, rfl, hsh, hb2⟩
      rw [HL.out] at hsh
      have hsa := HSA.out.kept hb2
      replace HI := Lib.hid (HI.out.next hb2); replace HB := Lib.hid (below_onto HB.out hb2)
      obtain ⟨gw, cw, rfl⟩ := hsh.shape (by have := HLE.out; omega)
      have hall : ∀ W, Below w9.heap.size w9 W → Ints W d m f ∧ Row W (rs.getD 0 (0, 0)).1 0 m f ∧ ∀ j, j ≤ q →
          (W.cell? ⟨gs, j, none⟩ = some (.slice (some ⟨(rs.getD j (0, 0)).1, 0, none⟩) m (rs.getD j (0, 0)).2) ∧ m ≤ (rs.getD j (0, 0)).2 ∧ Row W (rs.getD j (0, 0)).1 0 m (FF j) ∧ (rs.getD j (0, 0)).1 < W.heap.size) ∧
          (W.cell? ⟨gw, j, none⟩ = some (.slice (some ⟨(rw_.getD j (0, 0)).1, 0, none⟩) m (rw_.getD j (0, 0)).2) ∧ Row W (rw_.getD j (0, 0)).1 0 m (FF j)) := by
        intro W hW
        have k1 := hsa.kept hW
        have k2 := hsh.kept hW
        refine ⟨HI.out.next hW, k1.rowAt (by have := HLE.out; omega) HM1.out HR0.out, fun j hj => ⟨⟨k1.cell (by have := HLE.out; omega), (k1.row j (by have := HLE.out; omega)).2, k1.rowAt (by have := HLE.out; omega) HM1.out (HFF.out j hj).1, ?_⟩, k2.cell (by have := HLE.out; omega), k2.rowAt (by have := HLE.out; omega) HM1.out (HFF.out j hj).1⟩⟩
        exact (World.ownsRow.lt (k1.row j (by have := HLE.out; omega)).1 _ rfl).2
      have HALL := Lib.hid hall
      have HMO := Lib.hid (show ∀ j, j ≤ q → shipB m (FF j) = true ∧ moB m (FF 0) m (FF j) j = true ∧ (j < q → moB m (FF j) m (FF (j + 1)) 1 = true) from fun j hj => (HFF.out j hj).2)
      rw [HLE.out]
      obtain ⟨wS, hwS⟩ : ∃ wS, w9 = wS := ⟨_, rfl⟩
      clear hsa hsh hall HSA HP HI hb2 HL HFF HR0 HLE
      subst hwS
      go_wp2_with fail
      go_loopw [7] (fun i wr => ∃ j : Nat, j ≤ q + 1 ∧ i = .int .i64 j ∧ Below w9.heap.size w9 wr) (fun i _ => q + 1 - (intOf i).toNat)
      case atStart => exact ⟨0, Nat.zero_le _, rfl, Below.refl _ _⟩
      case round =>
        obtain ⟨j, hj, rfl, hbr⟩ := hrel
        by_cases hlt : j < q + 1
        · have hji : (j : Int) < (q : Int) + 1 := by omega
          have hj0 : (0 : Int) ≤ (j : Int) := by omega
          obtain ⟨_, _, hA⟩ := HALL.out _ hbr
          obtain ⟨⟨hc1, _, _, _⟩, hc2, _⟩ := hA j (by omega)
          have HR1 := Lib.hid (fun W (hW : Below w9.heap.size w9 W) => ((HALL.out W hW).2.2 j (by omega)).1.2.2.1)
          have HR2 := Lib.hid (fun W (hW : Below w9.heap.size w9 W) => ((HALL.out W hW).2.2 j (by omega)).2.2)
          have HBR := Lib.hid hbr
          obtain ⟨⟨b1, q1⟩, hb1⟩ : ∃ r, rs.getD j (0, 0) = r := ⟨_, rfl⟩
          obtain ⟨⟨b2, q2⟩, hb2⟩ : ∃ r, rw_.getD j (0, 0) = r := ⟨_, rfl⟩
          rw [hb1] at hc1 HR1
          rw [hb2] at hc2 HR2
          dsimp only at hc1 hc2
          clear hA hb1 hb2 hbr
          go_wp2_with fail
          go_quiet ((go_at_call 30; exact quiet_drew (sameInts_row _ 0 _ _ 0 _ m _ (by omega) _ (HR1.out _ (below_drewN HBR.out _)) (HR2.out _ (below_drewN HBR.out _)))))
          go_wp2_with fail
          go_roundw
          case rel => exact ⟨j + 1, by omega, by go_num, below_drewN HBR.out _⟩
          case measure => simp [intOf]; omega
        · have hji : ¬ (j : Int) < (q : Int) + 1 := by omega
          have HBR := Lib.hid hbr; clear hbr
          go_wp2_with fail
          go_loopw [8] (fun i wr => ∃ j : Nat, 1 ≤ j ∧ j ≤ q + 1 ∧ i = .int .i64 j ∧ Below w9.heap.size w9 wr) (fun i _ => q + 1 - (intOf i).toNat)
          case atStart => exact ⟨1, Nat.le_refl _, by omega, rfl, HBR.out⟩
          case round =>
            clear HBR hji hlt hj
            obtain ⟨j, hj1, hj, rfl, hbr⟩ := hrel
            by_cases hlt : j < q + 1
            · obtain ⟨p, hp⟩ : ∃ p, j = p + 1 := ⟨j - 1, by omega⟩
              have hji : (j : Int) < (q : Int) + 1 := by omega
              have hj0 : (0 : Int) ≤ (j : Int) := by omega
              have hp0 : (0 : Int) ≤ (p : Int) := by omega
              have hpi : (p : Int) < (q : Int) + 1 := by omega
              have hwj : IntKind.i64.wrap ((j : Int) - 1) = (p : Int) := by rw [wrap_in _ (by unfold I64; omega)]; omega
              have hq1 : (0 : Int) < (q : Int) + 1 := by omega
              obtain ⟨_, _, hA⟩ := HALL.out _ hbr
              obtain ⟨⟨hc0, hm0, _, _⟩, _⟩ := hA 0 (by omega)
              obtain ⟨⟨hc1, hm1', _, _⟩, _⟩ := hA p (by omega)
              obtain ⟨⟨hc2, hm2', _, _⟩, _⟩ := hA j (by omega)
              have hin : ∀ i, i ≤ q → ∀ W, Below w9.heap.size w9 W → Ints W (some ⟨(rs.getD i (0, 0)).1, 0, none⟩) m (FF i) := fun i hi W hW => by
                have h1 := ((HALL.out W hW).2.2 i hi).1
                exact ints_row h1.2.2.1 h1.2.2.2 (by omega) (fun x hx => by have := ship_pk (HMO.out i hi).1 hx; unfold I64; omega)
              have HI0 := Lib.hid (hin 0 (by omega)); have HI1 := Lib.hid (hin p (by omega)); have HI2 := Lib.hid (hin j (by omega))
              have HS1 := Lib.hid ((HMO.out p (by omega)).2.2 (by omega))
              rw [← hp] at HS1
              have HS2 := Lib.hid ((HMO.out j (by omega)).2.1)
              have HBR := Lib.hid hbr
              obtain ⟨⟨b0, q0⟩, hb0⟩ : ∃ r, rs.getD 0 (0, 0) = r := ⟨_, rfl⟩
              obtain ⟨⟨b1, q1⟩, hb1⟩ : ∃ r, rs.getD p (0, 0) = r := ⟨_, rfl⟩
              obtain ⟨⟨b2, q2⟩, hb2⟩ : ∃ r, rs.getD j (0, 0) = r := ⟨_, rfl⟩
              rw [hb0] at hc0 hm0 HI0
              rw [hb1] at hc1 hm1' HI1
              rw [hb2] at hc2 hm2' HI2
              dsimp only at hc0 hm0 hc1 hm1' hc2 hm2'
              have HM0 := Lib.hid hm0; have HM1_ := Lib.hid hm1'; have HM2 := Lib.hid hm2'
              clear hA hb0 hb1 hb2 hbr hin hm0 hm1' hm2' hp
              go_wp2_with fail
              refine wp_region_quiet_lit (by kernel_rfl) (by kernel_rfl) ?_
              repeat (go_big_quiet_step (fail))
              go_big_quiet_want
              go_big_quiet_op
              go_big_quiet_call ((go_at_call 25; exact quiet_left (MostlyOk_val _ _ m _ m _ _ _ 1 true HS1.out HM1_.out HM2.out _ (HI1.out _ (below_drewN HBR.out _)) (HI2.out _ (below_drewN HBR.out _)))))
              repeat (go_big_quiet_step (fail))
              go_big_quiet_want
              go_big_quiet_op
              go_big_quiet_call ((go_at_call 25; exact quiet_left (MostlyOk_val _ _ m _ m _ _ _ _ true HS2.out HM0.out HM2.out _ (HI0.out _ (below_drewN HBR.out _)) (HI2.out _ (below_drewN HBR.out _)))))
              repeat (go_big_quiet_step (fail))
              refine wpQuiet_nil ?_
              intro _ hw'
              obtain ⟨nq, hw''⟩ := hw'
              subst hw''
              go_wp2_with fail
              go_roundw
              case rel => exact ⟨j + 1, by omega, by omega, by go_num, below_drewN HBR.out _⟩
              case measure => simp [intOf]; omega
            · have hji : ¬ (j : Int) < (q : Int) + 1 := by omega
              have hq1 : (0 : Int) < (q : Int) + 1 := by omega
              obtain ⟨hI, hR, hA⟩ := HALL.out _ hbr
              obtain ⟨⟨hc0, _, _, hl0⟩, _⟩ := hA 0 (by omega)
              have HI := Lib.hid hI
              have h64 : ∀ x, x < m → I64 (f x) := fun x hx => by have := ship_pk HF.out hx; unfold I64; omega
              have HI0 := Lib.hid (ints_row hR hl0 (by omega) h64)
              have HB2 := Lib.hid (below_onto HB.out hbr)
              obtain ⟨⟨b0, q0⟩, hb0⟩ : ∃ r, rs.getD 0 (0, 0) = r := ⟨_, rfl⟩
              rw [hb0] at hc0 HI0
              dsimp only at hc0
              clear hA hb0 hbr hI hR hl0 h64
              go_wp2_with fail
              refine (sameInts_any _ _ _ _ _ _ (by omega) _ HI0.out HI.out).mono ?_
              rintro e w8 ⟨rfl, hb2⟩
              replace HB2 := Lib.hid (below_onto HB2.out hb2); clear hb2
              go_wp2_with fail
              refine (alive_any _).mono ?_
              rintro e w8 ⟨rfl, hb2⟩
              replace HB2 := Lib.hid (below_onto HB2.out hb2); clear hb2
              go_wp2_with fail
              go_ret
              exact ⟨rfl, HB2.out⟩
end Go.Proofs.Ytibjdmmcnhlgnaa
