import Derived.Test.YtacoeaoaabjkoaaLaw9N
import Derived.Test.YtacoeaoaabjkoaaDrawQ
import Derived.Test.YtacoeaoaabjkoaaHeldX
import Derived.Test.YtacoeaoaabjkoaaSameX
namespace Go.Proofs.Ytacoeaoaabjkoaa
open Go.RowKit Go.Maps

theorem sameI_any (a1 a2 : Option Addr) (n c1 c2 : Nat) (F : Nat → Int) (hn : n ≤ 1048576) (w : World) (h1 : Ints w a1 n F) (h2 : Ints w a2 n F) :
    Calls Try.prog 21 #[.slice a1 n c1, .slice a2 n c2] w fun e w' => e = .returned (.bool true) ∧ Drew w w' := by
  by_cases h0 : n = 0
  · subst h0; exact sameInts_nil a1 a2 c1 c2 w
  · obtain ⟨b1, o1, rfl, _, r1⟩ := h1.row (by omega)
    obtain ⟨b2, o2, rfl, _, r2⟩ := h2.row (by omega)
    exact sameInts_row b1 o1 c1 b2 o2 c2 n F hn w r1 r2

set_option maxRecDepth 100000 in
set_option maxHeartbeats 16000000 in
theorem lawHolesOf (a : Option Addr) (n cap : Nat) (w : World) (h : BytesIn w a n cap) :
    Calls Try.prog 5 #[.slice a n cap] w (TrueEnd w) := by
  have hlen := h.len
  have H := Lib.hid h; clear h
  by_cases hn : 1048576 < n
  · go_enter Try.func5, Try.ntmps5
    go_wp2_with fail
    go_ret
    exact ⟨rfl, Below.refl _ _⟩
  · go_enter Try.func5, Try.ntmps5
    go_wp2_with fail
    refine (DrawHolesOf_any _ _ _ _ H.out).mono ?_
    rintro e w1 ⟨d, m, c, f, x, rfl, hm, hx, hi, hb1⟩
    have H64 := Lib.hid hi.i64
    have HI := Lib.hid hi; have HB := Lib.hid hb1
    clear hi hb1
    have HX := Lib.hid hx; clear hx
    obtain ⟨ys, hys⟩ : ∃ ys, hoV m f x = ys := ⟨_, rfl⟩
    have HYS := Lib.hid hys
    have HL7 := Lib.hid (show ys.length ≤ 1000 by rw [← hys]; have := hoV_7 (n := m) (f := f) (a := x); omega)
    have HL64 := Lib.hid (show ∀ y ∈ ys, I64 y by rw [← hys]; exact hoV_64 H64.out)
    go_wp2_with fail
    refine (HolesOf_any _ m c f x ys HYS.out HX.out _ HI.out).mono ?_
    intro e w2 hg
    obtain ⟨a1, c1, rfl, h1, hb2⟩ := hg.has HL7.out HL64.out
    have H1 := Lib.hid h1.ints
    replace HI := Lib.hid (HI.out.next hb2)
    replace HB := Lib.hid (below_onto HB.out hb2); clear hb2 hg h1
    obtain ⟨L, hL⟩ : ∃ L, ys.length = L := ⟨_, rfl⟩
    have hL7 : L ≤ 1000 := by have := HL7.out; omega
    rw [hL] at H1 ⊢
    have HLL := Lib.hid hL
    go_wp2_with fail
    refine (specHolesOf_any _ m c f x ys HYS.out HX.out _ HI.out).mono ?_
    intro e w3 hg
    obtain ⟨a2, c2, rfl, h2, hb2⟩ := hg.has HL7.out HL64.out
    have H2 := Lib.hid h2.ints
    replace HI := Lib.hid (HI.out.next hb2); replace H1 := Lib.hid (H1.out.next hb2)
    replace HB := Lib.hid (below_onto HB.out hb2); clear hb2 hg h2
    rw [hL] at H2 ⊢
    clear hL
    go_wp2_with fail
    refine (sameI_any _ _ L _ _ _ (by omega) _ H1.out H2.out).mono ?_
    rintro e w4 ⟨rfl, hd3⟩
    replace HI := Lib.hid (HI.out.drew hd3); replace H1 := Lib.hid (H1.out.drew hd3)
    replace HB := Lib.hid (below_onto HB.out hd3.below); clear hd3 H2
    cases htx : thingB m f x with
    | false =>
      have hl0 : L = 0 := by
        have := HLL.out
        rw [← this, ← hys]
        unfold hoV
        rw [if_neg (by rw [htx]; decide)]
        rfl
      subst hl0
      have HT := Lib.hid htx
      clear htx hys
      go_wp2_with fail
      refine (specThingOk_val _ m c f x false HX.out _ HT.out HI.out).mono ?_
      rintro e w9 ⟨rfl, hd3⟩
      replace HB := Lib.hid (below_onto HB.out hd3.below); clear hd3
      go_wp2_with fail
      refine (alive_any _).mono ?_
      rintro e w9 ⟨rfl, hb2⟩
      replace HB := Lib.hid (below_onto HB.out hb2); clear hb2
      go_wp2_with fail
      go_ret
      exact ⟨rfl, HB.out⟩
    | true =>
      obtain ⟨hT, hx1⟩ := th_of H64.out HX.out htx
      have h7 := hT.g.hi
      have ⟨hp1, hp2⟩ := low_bounds m hT.g.lo h7
      have HG := Lib.hid htx
      have HA := Lib.hid (show I64 ((2 : Int) ^ m - 1) by unfold I64; omega)
      obtain ⟨wv, hwv⟩ : ∃ wv, tgV m f (2 ^ m - 1) = wv := ⟨_, rfl⟩
      have HWV := Lib.hid hwv
      have HM := Lib.hid (fun k (hk : k < L) => show tgV m f (ys.getD k 0) = true ∧ andI (ys.getD k 0) x = 0 ∧ hasB (ys.getD k 0) 0 = false ∧ 0 ≤ ys.getD k 0 ∧ (wv = true → otB m f x (ys.getD k 0) = true) by
        have hmem : ys.getD k 0 ∈ hoV m f x := by rw [hys]; exact getD_mem (by rw [HLL.out]; exact hk)
        obtain ⟨_, _, p, hp, e1, h0⟩ := ho_mem H64.out HX.out hmem
        exact ⟨ho_tg H64.out HX.out hmem, ho_and H64.out HX.out hmem, h0, by rw [e1]; have := pc_rng (th_rs hT).1 hp; omega, fun hw => ho_touch H64.out HX.out (by rw [hwv]; exact hw) hmem⟩)
      have HY64 := Lib.hid (fun k (hk : k < L) => show I64 (ys.getD k 0) from HL64.out _ (getD_mem (by rw [HLL.out]; exact hk)))
      clear hT hx1 htx hys hwv
      go_wp2_with fail
      refine (specThingOk_val _ m c f x true HX.out _ HG.out HI.out).mono ?_
      rintro e w5 ⟨rfl, hd3⟩
      replace HI := Lib.hid (HI.out.drew hd3); replace H1 := Lib.hid (H1.out.drew hd3)
      replace HB := Lib.hid (below_onto HB.out hd3.below); clear hd3
      go_wp2_with fail
      refine (TogetherOk_val _ m c f (2 ^ m - 1) wv HA.out _ HWV.out HI.out).mono ?_
      rintro e w6 ⟨rfl, hb2⟩
      replace HI := Lib.hid (HI.out.next hb2); replace H1 := Lib.hid (H1.out.next hb2)
      replace HB := Lib.hid (below_onto HB.out hb2); clear hb2
      go_wp2_with fail
      go_loopw [7] (fun i wr => ∃ k : Nat, k ≤ L ∧ i = .int .i64 k ∧ Below w6.heap.size w6 wr) (fun i _ => L - (intOf i).toNat)
      case atStart => exact ⟨0, Nat.zero_le _, rfl, Below.refl _ _⟩
      case round =>
        obtain ⟨k, hk, rfl, hbr⟩ := hrel
        by_cases hlt : k < L
        · have hki : (k : Int) < (L : Int) := by omega
          have hk0 : (0 : Int) ≤ (k : Int) := by omega
          obtain ⟨b, o, rfl, hbl, hrow⟩ := (H1.out.next hbr).row (by omega)
          have hc := hrow k hlt
          obtain ⟨q1, q2, q3, q4, q5⟩ := HM.out k hlt
          have q6 := HY64.out k hlt
          obtain ⟨z, hz⟩ : ∃ z, ys.getD k 0 = z := ⟨_, rfl⟩
          simp only [hz] at hc q1 q2 q3 q4 q5 q6
          have HC := Lib.hid (fun W (hb : Below wr.heap.size wr W) => (hb.cell (p := ⟨b, o + k, none⟩) hbl).trans hc)
          have HQ1 := Lib.hid q1; have HQ3 := Lib.hid ((hb_nat (k := 0) q4).trans q3); have HQ6 := Lib.hid q6; have HQ5 := Lib.hid q5
          have hand1 : (bits .and .i64 z x == 0) = true := by rw [beq_iff_eq]; exact q2
          have hand2 : (bits .and .i64 z x != 0) = false := by rw [bne_eq_false_iff_eq]; exact q2
          clear hrow q1 q2 q3 q4 q5 q6 hz hbl
          have HIr := Lib.hid (HI.out.next hbr)
          cases hw : wv with
          | false =>
            go_wp2_with fail
            refine (TogetherOk_val _ m c f z true HQ6.out _ HQ1.out HIr.out).mono ?_
            rintro e w9 ⟨rfl, hb2⟩
            have hc9 := HC.out _ hb2
            go_wp2_with fail
            refine (hasBit_val _ 0 false HQ3.out (by omega) HQ6.out _).mono ?_
            rintro e w10 ⟨rfl, rfl⟩
            go_wp2_with fail
            go_roundw
            case rel => exact ⟨k + 1, by omega, by go_num, hbr.trans (hb2.mono hbr.size)⟩
            case measure => simp [intOf]; omega
          | true =>
            have HO := Lib.hid (HQ5.out hw)
            go_wp2_with fail
            refine (TogetherOk_val _ m c f z true HQ6.out _ HQ1.out HIr.out).mono ?_
            rintro e w9 ⟨rfl, hb2⟩
            have hc9 := HC.out _ hb2
            go_wp2_with fail
            refine (hasBit_val _ 0 false HQ3.out (by omega) HQ6.out _).mono ?_
            rintro e w10 ⟨rfl, rfl⟩
            go_wp2_with fail
            refine (OutsideTouch_val _ m c f x z true HX.out HQ6.out _ HO.out (HIr.out.next hb2)).mono ?_
            rintro e w11 ⟨rfl, hb3⟩
            go_wp2_with fail
            go_roundw
            case rel => exact ⟨k + 1, by omega, by go_num, hbr.trans ((hb2.trans (hb3.mono hb2.size)).mono hbr.size)⟩
            case measure => simp [intOf]; omega
        · have hki : ¬ (k : Int) < (L : Int) := by omega
          go_wp2_with fail
          refine (alive_any _).mono ?_
          rintro e w9 ⟨rfl, hb2⟩
          go_wp2_with fail
          go_ret
          exact ⟨rfl, below_onto HB.out (hbr.trans (hb2.mono hbr.size))⟩
end Go.Proofs.Ytacoeaoaabjkoaa
