import Derived.Test.YtamiidgpglepcaaDoorThingA
import Derived.Test.YtamiidgpglepcaaDoorDrawT
import Derived.Test.YtamiidgpglepcaaDoorLawC
namespace Go.Proofs.YtamiidgpglepcaaDoor
open Go.RowKit Go.Maps

theorem thing_off {n : Nat} {f : Nat → Int} {s : Int} (h : thingOk n f s = false) : thingN n f s = -1 := by
  unfold thingN
  split
  · next hw => unfold thingOk at h; rw [hw, Bool.true_and] at h; exact only_off h
  · rfl
/-- what is found has just those atoms -/
theorem thing_on {n : Nat} {f : Nat → Int} {s : Int} (h : thingOk n f s = true) : worldB n f = true ∧ ∃ k : Nat, k < n ∧ thingN n f s = k ∧ ainI n f k = s := by
  unfold thingOk at h
  rw [Bool.and_eq_true] at h
  obtain ⟨hw, h1⟩ := h
  have h7 := (worldB_7 hw).2
  refine ⟨hw, ?_⟩
  obtain ⟨X, e, hX, hb⟩ := set_nat (fun a => ainI n f a == s) h7
  have h1' : onlyOk X = true := by have := h1; unfold thingS at this; rw [e, Int.toNat_natCast] at this; exact this
  have hne : X ≠ 0 := by intro e0; subst e0; revert h1'; decide
  obtain ⟨i, hi, hbi⟩ := (nonzero_iff (X : Int) (by unfold I64; omega)).1 (by rw [bne_iff_ne]; omega)
  rw [hasB_nat] at hbi
  have hgi := hbi
  rw [hb i hi, Bool.and_eq_true, decide_eq_true_eq] at hgi
  have hone : oneT (fun a => ainI n f a == s) i n = true := decide_eq_true ⟨hgi.1, hgi.2, fun a ha hh => by
    have hba : X.testBit a = true := by rw [hb a (by omega), decide_eq_true ha]; exact hh
    exact ((two_at hX (by omega) hbi).1 h1' a (by omega) hba).symm⟩
  obtain ⟨_, h3⟩ := only_one h7 hone
  exact ⟨i, hgi.1, by unfold thingN; rw [if_pos hw]; exact h3, beq_iff_eq.1 hgi.2⟩
theorem thing_at {n : Nat} {f : Nat → Int} {s : Int} {k : Nat} (hw : worldB n f = true) (hk : k < n) (h : ainI n f k = s) (hone : ∀ a, a < n → ainI n f a = s → a = k) : thingN n f s = k ∧ thingOk n f s = true := by
  have h7 := (worldB_7 hw).2
  have ho : oneT (fun a => ainI n f a == s) k n = true := decide_eq_true ⟨hk, beq_iff_eq.2 h, fun a ha hh => hone a ha (beq_iff_eq.1 hh)⟩
  obtain ⟨h1, h2⟩ := only_one h7 ho
  exact ⟨by unfold thingN; rw [if_pos hw]; exact h2, by unfold thingOk; rw [hw, Bool.true_and]; exact h1⟩
theorem thing_strong {n : Nat} {f : Nat → Int} (h64 : ∀ i, i < n → I64 (f i)) (hs : strongB n f = true) {k : Nat} (hk : k < n) : thingN n f (ainI n f k) = k ∧ thingOk n f (ainI n f k) = true :=
  thing_at (strong_world hs) hk rfl (fun _ ha e => strong_inj h64 hs ha hk e)
theorem ainB_at {n : Nat} {f : Nat → Int} {k : Nat} (hw : worldB n f = true) (hk : k < n) : ainB n f (k : Int) = ainI n f k := by
  unfold ainB; rw [if_pos ((good1_iff n f k).2 ⟨hw, by omega, by omega⟩), Int.toNat_natCast]
theorem AtomsIn_at (a : Option Addr) (n cap : Nat) (f : Nat → Int) (k : Nat) (v : Int) (w : World) (hv : ainB n f (k : Int) = v) (hi : Ints w a n f) :
    Calls Tryd.prog 19 #[.slice a n cap, .int .i64 k] w fun e w' => e = .returned (.int .i64 v) ∧ Below w.heap.size w w' := by subst hv; exact AtomsIn_any a n cap f k w hi

set_option maxRecDepth 100000 in
set_option maxHeartbeats 8000000 in
theorem lawThingOf (a : Option Addr) (n cap : Nat) (w : World) (h : BytesIn w a n cap) (hT : TabW w) :
    Calls Tryd.prog 4 #[.slice a n cap] w (TrueEnd w) := by
  have hlen := h.len
  have H := Lib.hid h; have HT := Lib.hid hT; clear h hT
  by_cases hn : 1048576 < n
  · go_enter Tryd.func4, Tryd.ntmps4
    go_wp2_with fail
    go_ret
    exact ⟨rfl, Below.refl _ _⟩
  · go_enter Tryd.func4, Tryd.ntmps4
    go_wp2_with fail
    refine (DrawThingOf_any _ _ _ _ H.out).mono ?_
    rintro e w1 ⟨d, m, c, f, x, rfl, hm, hx64, hi, hb1⟩
    have h64 := Lib.hid hi.i64
    obtain ⟨hx1, hx2⟩ := hx64
    cases hr : thingOk m f x with
    | false =>
      have HR := Lib.hid hr; have HN := Lib.hid (thing_off hr); clear hr
      have hne : ((-1 : Int) != (-1 : Int)) = false := by decide
      go_wp2_with fail
      refine (ThingOf_val _ _ _ f x (-1) false _ HN.out HR.out hi (HT.out.below hb1)).mono ?_
      rintro e w9 ⟨rfl, hb2⟩
      replace hi := hi.next hb2; replace hb1 := below_onto hb1 hb2; clear hb2
      go_wp2_with fail
      refine (specThingOf_val _ _ _ f x (-1) false _ HN.out HR.out hi).mono ?_
      rintro e w9 ⟨rfl, hd3⟩
      replace hi := hi.drew hd3; replace hb1 := below_onto hb1 hd3.below; clear hd3
      go_wp2_with fail
      go_loopw [9] (fun i wr => ∃ k : Nat, k ≤ m ∧ i = .int .i64 k ∧ Ints wr d m f ∧ Below w.heap.size w wr) (fun i _ => m - (intOf i).toNat)
      case atStart => exact ⟨0, Nat.zero_le _, rfl, hi, hb1⟩
      case round =>
        clear hi hb1
        obtain ⟨k, hk, rfl, hi, hb1⟩ := hrel
        by_cases hlt : k < m
        · have hki : (k : Int) < (m : Int) := by omega
          cases hst : strongB m f with
          | false =>
            have HST := Lib.hid hst; clear hst
            go_wp2_with fail
            refine (StrongOk_at _ _ _ f false _ HST.out hi).mono ?_
            rintro e w9 ⟨rfl, hb2⟩
            replace hi := hi.next hb2; replace hb1 := below_onto hb1 hb2; clear hb2
            go_wp2_with fail
            refine (alive_any _).mono ?_
            rintro e w9 ⟨rfl, hb2⟩
            replace hb1 := below_onto hb1 hb2; clear hb2
            go_wp2_with fail
            go_ret
            exact ⟨rfl, hb1⟩
          | true =>
            have HST := Lib.hid hst
            obtain ⟨h1, h2⟩ := thing_strong h64.out hst hlt
            have HN2 := Lib.hid h1; have HR2 := Lib.hid h2; have HAI := Lib.hid (ainB_at (strong_world hst) hlt)
            have hnk : ((k : Int) != (k : Int)) = false := by simp
            clear hst h1 h2
            go_wp2_with fail
            refine (StrongOk_at _ _ _ f true _ HST.out hi).mono ?_
            rintro e w9 ⟨rfl, hb2⟩
            replace hi := hi.next hb2; replace hb1 := below_onto hb1 hb2; clear hb2
            go_wp2_with fail
            refine (AtomsIn_at _ _ _ f k _ _ HAI.out hi).mono ?_
            rintro e w9 ⟨rfl, hb2⟩
            replace hi := hi.next hb2; replace hb1 := below_onto hb1 hb2; clear hb2
            go_wp2_with fail
            refine (ThingOf_val _ _ _ f (ainI m f k) k true _ HN2.out HR2.out hi (HT.out.below hb1)).mono ?_
            rintro e w9 ⟨rfl, hb2⟩
            replace hi := hi.next hb2; replace hb1 := below_onto hb1 hb2; clear hb2
            go_wp2_with fail
            go_roundw
            case rel => exact ⟨k + 1, by omega, by go_num, hi, hb1⟩
            case measure => simp [intOf]; omega
        · have hki : ¬ (k : Int) < (m : Int) := by omega
          go_wp2_with fail
          refine (alive_any _).mono ?_
          rintro e w9 ⟨rfl, hb2⟩
          replace hb1 := below_onto hb1 hb2; clear hb2
          go_wp2_with fail
          go_ret
          exact ⟨rfl, hb1⟩
    | true =>
      obtain ⟨hw, j, hj, h1, h2⟩ := thing_on hr
      have HR := Lib.hid hr; have HN := Lib.hid h1; have HAJ := Lib.hid ((ainB_at hw hj).trans h2); clear hr h1 h2 hw
      have hne : ((j : Int) != (j : Int)) = false := by simp
      have hxx : (x == x) = true := by simp
      have hj0 : (j : Int) ≥ 0 := by omega
      go_wp2_with fail
      refine (ThingOf_val _ _ _ f x j true _ HN.out HR.out hi (HT.out.below hb1)).mono ?_
      rintro e w9 ⟨rfl, hb2⟩
      replace hi := hi.next hb2; replace hb1 := below_onto hb1 hb2; clear hb2
      go_wp2_with fail
      refine (specThingOf_val _ _ _ f x j true _ HN.out HR.out hi).mono ?_
      rintro e w9 ⟨rfl, hd3⟩
      replace hi := hi.drew hd3; replace hb1 := below_onto hb1 hd3.below; clear hd3
      go_wp2_with fail
      go_loopw [9] (fun i wr => ∃ k : Nat, k ≤ m ∧ i = .int .i64 k ∧ Ints wr d m f ∧ Below w.heap.size w wr) (fun i _ => m - (intOf i).toNat)
      case atStart => exact ⟨0, Nat.zero_le _, rfl, hi, hb1⟩
      case round =>
        clear hi hb1
        obtain ⟨k, hk, rfl, hi, hb1⟩ := hrel
        by_cases hlt : k < m
        · have hki : (k : Int) < (m : Int) := by omega
          cases hst : strongB m f with
          | false =>
            have HST := Lib.hid hst; clear hst
            go_wp2_with fail
            refine (StrongOk_at _ _ _ f false _ HST.out hi).mono ?_
            rintro e w9 ⟨rfl, hb2⟩
            replace hi := hi.next hb2; replace hb1 := below_onto hb1 hb2; clear hb2
            go_wp2_with fail
            refine (AtomsIn_at _ _ _ f j x _ HAJ.out hi).mono ?_
            rintro e w9 ⟨rfl, hb2⟩
            replace hi := hi.next hb2; replace hb1 := below_onto hb1 hb2; clear hb2
            go_wp2_with fail
            refine (alive_any _).mono ?_
            rintro e w9 ⟨rfl, hb2⟩
            replace hb1 := below_onto hb1 hb2; clear hb2
            go_wp2_with fail
            go_ret
            exact ⟨rfl, hb1⟩
          | true =>
            have HST := Lib.hid hst
            obtain ⟨h1, h2⟩ := thing_strong h64.out hst hlt
            have HN2 := Lib.hid h1; have HR2 := Lib.hid h2; have HAI := Lib.hid (ainB_at (strong_world hst) hlt)
            have hnk : ((k : Int) != (k : Int)) = false := by simp
            clear hst h1 h2
            go_wp2_with fail
            refine (StrongOk_at _ _ _ f true _ HST.out hi).mono ?_
            rintro e w9 ⟨rfl, hb2⟩
            replace hi := hi.next hb2; replace hb1 := below_onto hb1 hb2; clear hb2
            go_wp2_with fail
            refine (AtomsIn_at _ _ _ f k _ _ HAI.out hi).mono ?_
            rintro e w9 ⟨rfl, hb2⟩
            replace hi := hi.next hb2; replace hb1 := below_onto hb1 hb2; clear hb2
            go_wp2_with fail
            refine (ThingOf_val _ _ _ f (ainI m f k) k true _ HN2.out HR2.out hi (HT.out.below hb1)).mono ?_
            rintro e w9 ⟨rfl, hb2⟩
            replace hi := hi.next hb2; replace hb1 := below_onto hb1 hb2; clear hb2
            go_wp2_with fail
            go_roundw
            case rel => exact ⟨k + 1, by omega, by go_num, hi, hb1⟩
            case measure => simp [intOf]; omega
        · have hki : ¬ (k : Int) < (m : Int) := by omega
          go_wp2_with fail
          refine (AtomsIn_at _ _ _ f j x _ HAJ.out hi).mono ?_
          rintro e w9 ⟨rfl, hb2⟩
          replace hi := hi.next hb2; replace hb1 := below_onto hb1 hb2; clear hb2
          go_wp2_with fail
          refine (alive_any _).mono ?_
          rintro e w9 ⟨rfl, hb2⟩
          replace hb1 := below_onto hb1 hb2; clear hb2
          go_wp2_with fail
          go_ret
          exact ⟨rfl, hb1⟩
end Go.Proofs.YtamiidgpglepcaaDoor
