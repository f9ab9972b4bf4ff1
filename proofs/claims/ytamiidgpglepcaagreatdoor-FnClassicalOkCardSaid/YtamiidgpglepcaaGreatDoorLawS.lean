import Derived.Test.YtamiidgpglepcaaGreatDoorLawP
import Derived.Test.YtamiidgpglepcaaGreatDoorLawQ
namespace Go.Proofs.YtamiidgpglepcaaGreatDoor
open Go.RowKit Go.Maps

theorem sub_and {A : Int} {t : Nat} (ht : 1 ≤ t) (h64 : (t : Int) ≤ 9223372036854775807) : (bits .and .i64 (t : Int) A == (t : Int)) = subG A t := by
  have e : bits .and .i64 (t : Int) A = bits .and .i64 A (t : Int) := andI_swap _ _
  rw [e, and_eq_within A (t : Int) (by unfold I64; omega)]
  unfold subG; rw [decide_eq_true ht, Bool.true_and]
/-- in a classical world there is one thing for each set of atoms, and for no other one -/
theorem class_at {n : Nat} {f : Nat → Int} (h64 : ∀ i, i < n → I64 (f i)) (hc : classB n f = true) {t : Nat} (ht : t < 2 ^ n) : thingOk n f (t : Int) = subG (atomsI n f) t := by
  have hs := (class_split hc).1
  have hw := class_world hc
  cases hg : subG (atomsI n f) t with
  | true =>
    obtain ⟨a, ha, e⟩ := class_thing h64 hc ht hg
    exact (thing_at hw ha e (fun b hb e2 => strong_inj h64 hs hb ha (by rw [e, e2]))).2
  | false =>
    cases hr : thingOk n f (t : Int) with
    | false => rfl
    | true =>
      obtain ⟨_, k, hk, _, e⟩ := thing_on hr
      have := ain_sub ((worldB_iff n f h64).1 hw) hk e
      rw [hg] at this; cases this
theorem clsL_two : clsL 2 = rowL (clsF 3) 3 := by kernel_rfl
theorem cls_lit : classB 1 (fun i => ([1] : List Int).getD i 0) = true := by kernel_rfl

set_option maxRecDepth 100000 in
set_option maxHeartbeats 8000000 in
theorem lawClassicalOk (a : Option Addr) (n cap : Nat) (w : World) (h : BytesIn w a n cap) (hT : TabW w) :
    Calls Tryz.prog 3 #[.slice a n cap] w (TrueEnd w) := by
  have hlen := h.len
  have H := Lib.hid h; have HT := Lib.hid hT; clear h hT
  by_cases hn : 1048576 < n
  · go_enter Tryz.func3, Tryz.ntmps3
    go_wp2_with fail
    go_ret
    exact ⟨rfl, Below.refl _ _⟩
  · go_enter Tryz.func3, Tryz.ntmps3
    go_wp2_with fail
    refine (DrawClassicalOk_any _ _ _ _ H.out).mono ?_
    rintro e w1 ⟨d, m, c, f, rfl, hm, hi, hb1, hcap⟩
    have h64 := Lib.hid hi.i64
    clear hcap
    have hnot : ∀ (x : Bool) (w : World), (Op.unary .not (.bool x)).run Tryz.prog w = .ok (.bool (!x)) w := fun _ _ => rfl
    cases hc : classB m f with
    | false =>
      have HC := Lib.hid hc; clear hc
      go_wp2_with fail
      refine (ClassicalOk_val _ _ _ f false _ HC.out hi).mono ?_
      rintro e w9 ⟨rfl, hb2⟩
      replace hi := hi.next hb2; replace hb1 := below_onto hb1 hb2; clear hb2
      go_wp2_with fail
      refine (specClassicalOk_val _ _ _ f false _ HC.out hi).mono ?_
      rintro e w9 ⟨rfl, hd3⟩
      replace hi := hi.drew hd3; replace hb1 := below_onto hb1 hd3.below; clear hd3
      go_wp2_with fail
      refine (ClassicalOk_val _ 1 _ (fun i => ([1] : List Int).getD i 0) true _ cls_lit (lit_ints _ [1] one_I64 (by decide) _ rfl _)).mono ?_
      rintro e w9 ⟨rfl, hb2⟩
      replace hb1 := below_onto hb1 (below_alloc_onto hb2); clear hb2
      go_wp2_with fail
      refine (alive_any _).mono ?_
      rintro e w9 ⟨rfl, hb2⟩
      replace hb1 := below_onto hb1 hb2; clear hb2
      go_wp2_with fail
      go_ret
      exact ⟨rfl, hb1⟩
    | true =>
      have HC := Lib.hid hc
      have hw := class_world hc
      have hP := world_of hi hw
      have h7 := hP.hi
      obtain ⟨X, hX, hX2, hX7⟩ := atoms_nat (f := f) h7
      have HCNT := Lib.hid (show cntK (atomsI m f) (2 ^ m) = m by rw [hX]; exact class_count h64.out hc hX)
      have HW := Lib.hid hw
      have ⟨hp1, hp2⟩ := pow_bounds m h7
      have hpn : ((2 ^ m : Nat) : Int) = 2 ^ m := by simp
      have hmm : ((m : Int) == (m : Int)) = true := by simp
      have hst : (Value.int .i64 0) = .int .i64 (cntK (atomsI m f) 1 : Nat) := by
        rw [cntK_no (show subG (atomsI m f) 0 = false from rfl)]; rfl
      have HST := Lib.hid hst
      have h1p : 1 ≤ 2 ^ m := Nat.one_le_two_pow
      have HPN := Lib.hid hpn
      clear hc hw hP hX hX2 hX7 hpn hst
      go_wp2_with fail
      refine (ClassicalOk_val _ _ _ f true _ HC.out hi).mono ?_
      rintro e w9 ⟨rfl, hb2⟩
      replace hi := hi.next hb2; replace hb1 := below_onto hb1 hb2; clear hb2
      go_wp2_with fail
      refine (specClassicalOk_val _ _ _ f true _ HC.out hi).mono ?_
      rintro e w9 ⟨rfl, hd3⟩
      replace hi := hi.drew hd3; replace hb1 := below_onto hb1 hd3.below; clear hd3
      go_wp2_with fail
      refine (AtomsOf_at _ _ _ f _ HW.out hi).mono ?_
      rintro e w9 ⟨rfl, hb2⟩
      replace hi := hi.next hb2; replace hb1 := below_onto hb1 hb2; clear hb2
      go_wp2_with fail
      go_loopw [6, 7] (fun v i wr => ∃ t : Nat, 1 ≤ t ∧ t ≤ 2 ^ m ∧ i = .int .i64 t ∧ v = .int .i64 (cntK (atomsI m f) t : Nat) ∧ Ints wr d m f ∧ Below w.heap.size w wr) (fun _ i _ => 2 ^ m - (intOf i).toNat)
      case atStart => exact ⟨1, Nat.le_refl _, h1p, rfl, HST.out, hi, hb1⟩
      case round =>
        clear hi hb1
        obtain ⟨t, ht1, htm, rfl, rfl, hi, hb1⟩ := hrel
        have ht128 : (t : Int) ≤ 128 := by have := HPN.out; omega
        have hct := cntK_le (atomsI m f) t
        by_cases hlt : t < 2 ^ m
        · have hti : (t : Int) < 2 ^ m := by have := HPN.out; omega
          have hand := sub_and (A := atomsI m f) ht1 (by omega)
          have hok := class_at h64.out HC.out hlt
          cases hg : subG (atomsI m f) t with
          | true =>
            have HA := Lib.hid (cntK_yes hg)
            rw [hg] at hand hok
            obtain ⟨i0, hi0⟩ : ∃ i0, thingN m f (t : Int) = i0 := ⟨_, rfl⟩
            have HN := Lib.hid hi0; have HR := Lib.hid hok; clear hg hi0 hok
            go_wp2_with fail
            refine (ThingOf_val _ _ _ f t i0 true _ HN.out HR.out hi (HT.out.below hb1)).mono ?_
            rintro e w9 ⟨rfl, hb2⟩
            replace hi := hi.next hb2; replace hb1 := below_onto hb1 hb2; clear hb2
            go_wp2_with fail
            go_roundw
            case rel => exact ⟨t + 1, by omega, by omega, by go_num, by rw [HA.out]; go_num, hi, hb1⟩
            case measure => simp [intOf]; omega
          | false =>
            have HA := Lib.hid (cntK_no hg)
            rw [hg] at hand hok
            obtain ⟨i0, hi0⟩ : ∃ i0, thingN m f (t : Int) = i0 := ⟨_, rfl⟩
            have HN := Lib.hid hi0; have HR := Lib.hid hok; clear hg hi0 hok
            go_wp2_with fail
            refine (ThingOf_val _ _ _ f t i0 false _ HN.out HR.out hi (HT.out.below hb1)).mono ?_
            rintro e w9 ⟨rfl, hb2⟩
            replace hi := hi.next hb2; replace hb1 := below_onto hb1 hb2; clear hb2
            go_wp2_with fail
            go_roundw
            case rel => exact ⟨t + 1, by omega, by omega, by go_num, by rw [HA.out], hi, hb1⟩
            case measure => simp [intOf]; omega
        · have hte : t = 2 ^ m := by omega
          have hti : ¬ ((t : Int) < 2 ^ m) := by have := HPN.out; omega
          rw [hte, HCNT.out]
          rw [hte] at hti
          clear hte ht128 hct
          go_wp2_with fail
          refine (ClassicalOf_any 2 _).mono ?_
          intro e w2 hg
          rw [clsL_two] at hg
          obtain ⟨g, c2, rfl, _, hg2, hrow, hb2⟩ := hg.row (by decide)
          replace hb1 := below_onto hb1 hb2; clear hb2
          have HI := Lib.hid (ints_row hrow hg2 (by decide) (fun i _ => clsF_I64 3 i)); clear hrow hg2
          go_wp2_with fail
          refine (ClassicalOk_val _ _ _ (clsF 3) true _ (cls_class (.inr (.inl rfl))) HI.out).mono ?_
          rintro e w3 ⟨rfl, hb2⟩
          replace hb1 := below_onto hb1 hb2; clear hb2
          go_wp2_with fail
          go_ret
          exact ⟨rfl, hb1⟩
end Go.Proofs.YtamiidgpglepcaaGreatDoor
