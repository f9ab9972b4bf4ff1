import Derived.Test.YtacoeaoaabjkoaaLaw9N
import Derived.Test.YtacoeaoaabjkoaaDrawQ
import Derived.Test.YtacoeaoaabjkoaaHeldX
import Derived.Test.YtacoeaoaabjkoaaSameX
namespace Go.Proofs.Ytacoeaoaabjkoaa
open Go.RowKit Go.Maps

theorem CutAt_val (a : Option Addr) (n cap : Nat) (f : Nat → Int) (x v : Int) (hx : I64 x) (w : World) (hv : cuV n f x = v) (hi : Ints w a n f) :
    Calls Try.prog 33 #[.slice a n cap, .int .i64 x] w fun e w' => e = .returned (.int .i64 v) ∧ Below w.heap.size w w' := by
  subst hv; exact CutAt_any a n cap f x hx w hi
theorem specCutAt_val (a : Option Addr) (n cap : Nat) (f : Nat → Int) (x v : Int) (hx : I64 x) (w : World) (hv : cuV n f x = v) (hi : Ints w a n f) :
    Calls Try.prog 34 #[.slice a n cap, .int .i64 x] w fun e w' => e = .returned (.int .i64 v) ∧ Drew w w' := by
  subst hv; exact specCutAt_any a n cap f x hx w hi

set_option maxRecDepth 100000 in
set_option maxHeartbeats 8000000 in
theorem lawCutAt (a : Option Addr) (n cap : Nat) (w : World) (h : BytesIn w a n cap) :
    Calls Try.prog 7 #[.slice a n cap] w (TrueEnd w) := by
  have hlen := h.len
  have H := Lib.hid h; clear h
  by_cases hn : 1048576 < n
  · go_enter Try.func7, Try.ntmps7
    go_wp2_with fail
    go_ret
    exact ⟨rfl, Below.refl _ _⟩
  · go_enter Try.func7, Try.ntmps7
    go_wp2_with fail
    refine (DrawCutAt_any _ _ _ _ H.out).mono ?_
    rintro e w1 ⟨d, m, c, f, x, rfl, hm, hx, hi, hb1⟩
    have H64 := Lib.hid hi.i64
    have HI := Lib.hid hi; have HB := Lib.hid hb1
    clear hi hb1
    have HX := Lib.hid hx; clear hx
    cases hcu : (thingB m f x && !oneB x && tgB m f x) with
    | false =>
      have HV := Lib.hid (show cuV m f x = -1 by unfold cuV; rw [if_neg (by rw [hcu]; decide)])
      clear hcu
      go_wp2_with fail
      refine (CutAt_val _ m c f x (-1) HX.out _ HV.out HI.out).mono ?_
      rintro e w9 ⟨rfl, hb2⟩
      replace HI := Lib.hid (HI.out.next hb2)
      replace HB := Lib.hid (below_onto HB.out hb2); clear hb2
      go_wp2_with fail
      refine (specCutAt_val _ m c f x (-1) HX.out _ HV.out HI.out).mono ?_
      rintro e w9 ⟨rfl, hd3⟩
      replace HI := Lib.hid (HI.out.drew hd3)
      replace HB := Lib.hid (below_onto HB.out hd3.below); clear hd3
      go_wp2_with fail
      refine (alive_any _).mono ?_
      rintro e w9 ⟨rfl, hb2⟩
      replace HB := Lib.hid (below_onto HB.out hb2); clear hb2
      go_wp2_with fail
      go_ret
      exact ⟨rfl, HB.out⟩
    | true =>
      have HV := Lib.hid (show cuV m f x = ctI m f x m by unfold cuV; rw [if_pos hcu])
      rw [Bool.and_eq_true, Bool.and_eq_true, Bool.not_eq_true'] at hcu
      obtain ⟨⟨htx, ho⟩, htg⟩ := hcu
      obtain ⟨hT, hx1⟩ := th_of H64.out HX.out htx
      have h7 := hT.g.hi
      have h2 := (two_iff hT hx1).1 ho
      have hfr := fr_all hT h2 htg
      have hor : (bits .or .i64 (ctI m f x m) x == x) = true := by rw [beq_iff_eq]; exact ct_own hT
      have hr := ct_rng hT
      have HBIT := Lib.hid (fun i (hi : i < 64) => ct_bit hT (i := i) hi)
      have HLEN := Lib.hid (fun p => cut_pieces H64.out hT h2 p); have HSUB := Lib.hid (fun p (hp : hasB x p = true) => less_sub hT hp)
      have HT := Lib.hid hT; have HPB := Lib.hid (pow_bounds m h7)
      obtain ⟨s, hs⟩ : ∃ s, ctI m f x m = s := ⟨_, rfl⟩
      rw [hs] at HV hfr hor hr HBIT
      have hsn : ¬ s < 0 := by omega
      have HS := Lib.hid (show I64 s by have := HPB.out; unfold I64; omega); have HS0 := Lib.hid hr.1; have HFR := Lib.hid hfr; have HX0 := Lib.hid hT.lo; have HXU := Lib.hid hT.hi
      clear hs hT htx ho htg hx1 h2 hfr hr
      go_wp2_with fail
      refine (CutAt_val _ m c f x s HX.out _ HV.out HI.out).mono ?_
      rintro e w9 ⟨rfl, hb2⟩
      replace HI := Lib.hid (HI.out.next hb2)
      replace HB := Lib.hid (below_onto HB.out hb2); clear hb2
      go_wp2_with fail
      refine (specCutAt_val _ m c f x s HX.out _ HV.out HI.out).mono ?_
      rintro e w2 ⟨rfl, hd3⟩
      replace HI := Lib.hid (HI.out.drew hd3)
      replace HB := Lib.hid (below_onto HB.out hd3.below); clear hd3
      go_wp2_with fail
      go_loopw [6, 7] (fun s0 i wr => ∃ k : Nat, k ≤ m ∧ i = .int .i64 k ∧ s0 = .int .i64 (frN x s k) ∧ Below w2.heap.size w2 wr) (fun _ i _ => m - (intOf i).toNat)
      case atStart => exact ⟨0, Nat.zero_le _, rfl, rfl, Below.refl _ _⟩
      case round =>
        obtain ⟨k, hk, rfl, rfl, hbr⟩ := hrel
        by_cases hlt : k < m
        · have hki : (k : Int) < (m : Int) := by omega
          have hk6 : k ≤ 63 := by omega
          have ⟨hp1, hp2⟩ := pow_bounds k (by omega)
          have hwr : IntKind.i64.wrap (2 ^ k) = 2 ^ k := wrap_in _ (by unfold I64; omega)
          have hfl := fr_le x s k
          cases hxk : hasB x k with
          | false =>
            have HXK := Lib.hid ((hb_nat HX0.out).trans hxk)
            have HN := Lib.hid (fr_no (a := x) (s := s) (k := k) (by rw [hxk]; rfl))
            clear hxk
            go_wp2_with fail
            refine (hasBit_val _ k false HXK.out hk6 HX.out _).mono ?_
            rintro e w9 ⟨rfl, rfl⟩
            go_wp2_with fail
            go_roundw
            case rel => exact ⟨k + 1, by omega, by go_num, by rw [HN.out], hbr⟩
            case measure => simp [intOf]; omega
          | true =>
            have HXK := Lib.hid ((hb_nat HX0.out).trans hxk)
            have hsub := HSUB.out k hxk
            have hws : IntKind.i64.wrap (x - 2 ^ k) = bits .andNot .i64 x (2 ^ k) := by
              rw [← hsub]; exact wrap_in _ (by unfold I64; have := HXU.out; have := HX0.out; have := HPB.out; omega)
            have hlen2 := HLEN.out k
            have hbk := HBIT.out k (by omega)
            rw [hxk, Bool.true_and, ← hlen2] at hbk
            have HY := Lib.hid (andNot_I64 x (2 ^ k))
            obtain ⟨y, hy⟩ : ∃ y, bits .andNot .i64 x (2 ^ k) = y := ⟨_, rfl⟩
            rw [hy] at hws hbk HY
            obtain ⟨L, hL⟩ : ∃ L, (pcV m f y).length = L := ⟨_, rfl⟩
            rw [hL] at hbk
            have HL := Lib.hid hL
            clear hsub hlen2 hy hL
            cases hsk : hasB s k with
            | false =>
              rw [hsk] at hbk
              have HSK := Lib.hid ((hb_nat HS0.out).trans hsk)
              have HN := Lib.hid (fr_yes (a := x) (s := s) (k := k) hxk hsk)
              have hL2 := of_decide_eq_false hbk.symm
              have hL3 : ¬ (2 : Int) ≤ (L : Int) := by omega
              have hL4 : decide (2 ≤ L) = false := hbk.symm
              clear hxk hsk hbk
              have HI2 := Lib.hid (HI.out.next hbr)
              have HID := Lib.hid (show Ints wr.drew d m f from HI2.out.drewN 1)
              have HBR := Lib.hid hbr; clear hbr
              go_wp2_with fail
              refine (hasBit_val _ k true HXK.out hk6 HX.out _).mono ?_
              rintro e w9 ⟨rfl, rfl⟩
              go_wp2_with fail
              go_region_held3 (fun _ => True) (first | trivial)
                (first | (go_at_call 27; refine (hasBit_val _ k false HSK.out hk6 HS.out _).mono ?_; rintro e w9 ⟨rfl, rfl⟩) | (go_at_call 20; refine (PiecesOf_any _ m c f y _ rfl HY.out _ HID.out).mono ?_; rintro e w9 ⟨v9, rfl, ho9, hb9⟩; obtain ⟨a9, c9, rfl⟩ := ho9.slice; rw [HL.out]; have HB9 := Lib.hid hb9; clear ho9 hb9))
              all_goals
                have hbr9 := HBR.out.trans ((below_of_drew HB9.out).mono HBR.out.size)
                go_wp2_with fail
                refine (hasBit_val _ k false HSK.out hk6 HS.out _).mono ?_
                rintro e w10 ⟨rfl, rfl⟩
                go_wp2_with fail
                go_roundw
                case rel => exact ⟨k + 1, by omega, by go_num, by rw [HN.out]; go_num, hbr9⟩
                case measure => simp [intOf]; omega
            | true =>
              rw [hsk] at hbk
              have HSK := Lib.hid ((hb_nat HS0.out).trans hsk)
              have HN := Lib.hid (fr_no (a := x) (s := s) (k := k) (by rw [hxk, hsk]; rfl))
              have hL2 := of_decide_eq_true hbk.symm
              have hL3 : (2 : Int) ≤ (L : Int) := by omega
              have hL4 : decide (2 ≤ L) = true := hbk.symm
              clear hxk hsk hbk
              have HI2 := Lib.hid (HI.out.next hbr)
              have HID := Lib.hid (show Ints wr.drew d m f from HI2.out.drewN 1)
              have HBR := Lib.hid hbr; clear hbr
              go_wp2_with fail
              refine (hasBit_val _ k true HXK.out hk6 HX.out _).mono ?_
              rintro e w9 ⟨rfl, rfl⟩
              go_wp2_with fail
              go_region_held3 (fun _ => True) (first | trivial)
                (first | (go_at_call 27; refine (hasBit_val _ k true HSK.out hk6 HS.out _).mono ?_; rintro e w9 ⟨rfl, rfl⟩) | (go_at_call 20; refine (PiecesOf_any _ m c f y _ rfl HY.out _ HID.out).mono ?_; rintro e w9 ⟨v9, rfl, ho9, hb9⟩; obtain ⟨a9, c9, rfl⟩ := ho9.slice; rw [HL.out]; have HB9 := Lib.hid hb9; clear ho9 hb9))
              all_goals
                have hbr9 := HBR.out.trans ((below_of_drew HB9.out).mono HBR.out.size)
                go_wp2_with fail
                refine (hasBit_val _ k true HSK.out hk6 HS.out _).mono ?_
                rintro e w10 ⟨rfl, rfl⟩
                go_wp2_with fail
                go_roundw
                case rel => exact ⟨k + 1, by omega, by go_num, by rw [HN.out], hbr9⟩
                case measure => simp [intOf]; omega
        · have hki : ¬ (k : Int) < (m : Int) := by omega
          have hkm : k = m := by omega
          subst hkm
          have hf2 : (2 : Int) ≤ (frN x s k : Int) := by have := HFR.out; omega
          go_wp2_with fail
          go_ret
          exact ⟨rfl, below_onto HB.out hbr⟩
end Go.Proofs.Ytacoeaoaabjkoaa
