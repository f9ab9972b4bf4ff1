import Derived.Test.YtocjpolgghfbeaaDkB
import Derived.Test.YtocjpolgghfbeaaFamS
namespace Go.Proofs.Ytocjpolgghfbeaa
set_option linter.unusedVariables false
set_option linter.unusedSimpArgs false
open Go.RowKit Go.Maps

set_option maxRecDepth 100000 in
set_option maxHeartbeats 1600000 in
theorem specDeskOk_any (d : Value) (xs : List Int) (L : List (List Int)) (w : World) (h : DeskR w d xs L) :
    Calls Try.prog 13 #[d] w fun e w' => e = .returned (.bool (deskB xs L)) ∧ Below w.heap.size w w' := by
  obtain ⟨a, c, b, c2, rfl, hi, hn⟩ := h.parts
  have h64 := hn.1
  have hal := alloc_below w (.cells #[.slice a xs.length c, .slice b L.length c2] 26)
  have HI := Lib.hid (hi.below hal (Nat.le_refl _)); have HN := Lib.hid (hn.kept hal)
  have hblk := Blk2.new w 26 (.slice a xs.length c) (.slice b L.length c2)
  have HLT := Lib.hid hblk.lt
  obtain ⟨n, hnn⟩ : ∃ n, L.length = n := ⟨_, rfl⟩
  have HL := Lib.hid hnn
  rw [hnn] at h64 hal hblk HLT HI HN ⊢
  have HAL := Lib.hid hal
  have HBL := Lib.hid hblk
  have HDB := Lib.hid (show deskB xs L = (famL xs && (decide (n ≤ 8) && L.all famL)) by rw [← hnn]; rfl)
  obtain ⟨w0, hw0⟩ : ∃ w0, w.alloc (.cells #[.slice a xs.length c, .slice b n c2] 26) = w0 := ⟨_, rfl⟩
  obtain ⟨D, hD⟩ : ∃ D, w.heap.size = D := ⟨_, rfl⟩
  rw [hw0] at HI HN HAL HBL HLT
  rw [hD] at HBL HLT
  clear h hi hn hal hblk hnn
  go_enter Try.func13, Try.ntmps13
  go_wp2_with fail
  clear hw0 hD
  go_loopw [3] (fun i wr => ∃ k : Nat, k ≤ n ∧ i = .int .i64 k ∧ Hid (∀ i, i < k → famL (L.getD i []) = true) ∧ Hid (Below w0.heap.size w0 wr)) (fun i _ => n - (intOf i).toNat)
  case atStart => exact ⟨0, Nat.zero_le _, rfl, Lib.hid (fun i hi => absurd hi (Nat.not_lt_zero _)), Lib.hid (Below.refl _ _)⟩
  case round =>
    obtain ⟨k, hk, rfl, hall, HB⟩ := hrel
    have HBK := Lib.hid (HBL.out.kept HB.out HLT.out)
    have hc0 := HBK.out.cell.1; have hc1 := HBK.out.cell.2
    by_cases hlt : k < n
    · have hki : (k : Int) < (n : Int) := by omega
      have hk0 : (0 : Int) ≤ (k : Int) := by omega
      obtain ⟨bk, o, a1, c1, rfl, hlc, hi, hcell⟩ := HN.out.at (show k < L.length by rw [HL.out]; exact hlt)
      have hc := hcell wr HB.out
      have HI1 := Lib.hid (hi.below HB.out (Nat.le_refl _))
      obtain ⟨l, hl⟩ : ∃ l, L.getD k [] = l := ⟨_, rfl⟩
      have HLL := Lib.hid hl
      rw [hl] at hc HI1 hlc
      clear hi hcell hl
      cases hv : famL l with
      | true =>
        have HV := Lib.hid hv; clear hv
        go_wp2_with fail
        refine (specFamilyOk_val a1 l.length c1 (fun j => l.getD j 0) true _ HV.out HI1.out).mono ?_
        rintro e w5 ⟨rfl, hd5⟩
        have HB5 := Lib.hid (below_onto HB.out hd5.below)
        clear hd5 hc hc0 hc1
        go_wp2_with fail
        go_roundw
        case rel => exact ⟨k + 1, by omega, by go_num, Lib.hid (fun i hi => by
          by_cases e : i = k
          · subst e; rw [HLL.out]; exact HV.out
          · exact hall.out i (by omega)), HB5⟩
        case measure => simp [intOf]; omega
      | false =>
        have HV := Lib.hid hv; clear hv
        have HBAD := Lib.hid (all_bad (show k < L.length by rw [HL.out]; exact hlt) (by rw [HLL.out]; exact HV.out))
        go_wp2_with fail
        refine (specFamilyOk_val a1 l.length c1 (fun j => l.getD j 0) false _ HV.out HI1.out).mono ?_
        rintro e w5 ⟨rfl, hd5⟩
        have HB5 := Lib.hid (below_onto HAL.out (below_onto HB.out hd5.below))
        clear hd5 hc hc0 hc1
        go_wp2_with fail
        go_ret
        exact ⟨retb (by rw [HDB.out, HBAD.out, Bool.and_false, Bool.and_false]), HB5.out⟩
    · have hki : ¬ (k : Int) < (n : Int) := by omega
      have hkn : k = n := by omega
      subst hkn
      have HA := Lib.hid (all_at (fun i hi => hall.out i (by rw [HL.out] at hi; exact hi)))
      have HI1 := Lib.hid (HI.out.below HB.out (Nat.le_refl _))
      cases hf : famL xs with
      | false =>
        rw [hf] at HDB
        have HF := Lib.hid hf; clear hf
        go_wp2_with fail
        refine (specFamilyOk_val a xs.length c (fun j => xs.getD j 0) false _ HF.out HI1.out).mono ?_
        rintro e w5 ⟨rfl, hd5⟩
        have HB5 := Lib.hid (below_onto HAL.out (below_onto HB.out hd5.below))
        clear hd5 hc0 hc1
        go_wp2_with fail
        go_ret
        exact ⟨retb (by rw [HDB.out]; rfl), HB5.out⟩
      | true =>
        rw [hf, HA.out] at HDB
        have HF := Lib.hid hf; clear hf
        go_wp2_with fail
        refine (specFamilyOk_val a xs.length c (fun j => xs.getD j 0) true _ HF.out HI1.out).mono ?_
        rintro e w5 ⟨rfl, hd5⟩
        have HB5 := Lib.hid (below_onto HAL.out (below_onto HB.out hd5.below))
        have HBK5 := Lib.hid (HBL.out.kept (below_onto HB.out hd5.below) HLT.out)
        clear hd5 hc0 hc1
        have hd0 := HBK5.out.cell.1; have hd1 := HBK5.out.cell.2
        by_cases hl : k ≤ 8
        · have hld : decide ((k : Int) ≤ 8) = true := decide_eq_true (by omega)
          rw [decide_eq_true hl] at HDB
          go_wp2_with fail
          go_ret
          exact ⟨retb (by rw [HDB.out]; rfl), HB5.out⟩
        · have hld : decide ((k : Int) ≤ 8) = false := decide_eq_false (by omega)
          rw [decide_eq_false hl] at HDB
          go_wp2_with fail
          go_ret
          exact ⟨retb (by rw [HDB.out]; rfl), HB5.out⟩
end Go.Proofs.Ytocjpolgghfbeaa
