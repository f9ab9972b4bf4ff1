import Derived.Test.YthbancphegnpdaaTxV
namespace Go.Proofs.Ythbancphegnpdaa
set_option linter.unusedVariables false
set_option linter.unusedSimpArgs false
open Go.RowKit Go.Maps

theorem eqDs (v1 v2 : Value) (B1 B2 : Nat) (ds : List (Int × Int)) (hn : ds.length ≤ 1048576) (h64 : ∀ d ∈ ds, I64 d.1 ∧ I64 d.2) (w : World) (h1 : OwnD w B1 v1 ds) (h2 : OwnD w B2 v2 ds) :
    Calls Try.prog 36 #[v1, v2] w fun e w' => e = .returned (.bool true) ∧ Below w.heap.size w w' := by
  obtain ⟨a1, c1, rfl, k1⟩ := h1.dds h64 (by omega)
  obtain ⟨a2, c2, rfl, k2⟩ := h2.dds h64 (by omega)
  exact eqDeedS_any a1 a2 ds.length c1 c2 (fstF ds) (sndF ds) hn w k1.prq k2.prq
theorem jt_I64 {ds : List (Int × Int)} (h : jtB ds = true) : ∀ d ∈ ds, I64 d.1 ∧ I64 d.2 := fun d hd => by
  have h1 := List.all_eq_true.1 h d hd
  have h2 := dOk_iff.1 h1
  unfold I64; omega
theorem jt_count (ds : List (Int × Int)) : ds.length ≤ (jtR ds).length := by
  induction ds with
  | nil => exact Nat.zero_le _
  | cons d ds ih => rw [jtR_cons', List.length_append, List.length_cons]; unfold lnL; simp; omega

theorem szDs (a : Option Addr) (n cap : Nat) (v : Int) (hn : n ≤ 9223372036854775807) (hv : (if (1048576 : Int) < n then (-1 : Int) else 1048576 - n) = v) (w : World) :
    Calls Try.prog 34 #[.slice a n cap, .int .i64 1048576] w fun e w' => e = .returned (.int .i64 v) ∧ w = w' := by
  subst hv; exact szDeedS_any a n cap 1048576 (by omega) hn w
theorem toDs (a : Option Addr) (ds : List (Int × Int)) (cap : Nat) (hn : ds.length ≤ 1048576) (w : World) (hd : Dds w a ds) :
    Calls Try.prog 35 #[.slice a ds.length cap] w fun e w' => e = .returned (.slice (some ⟨w.heap.size, 0, none⟩) ds.length ds.length) ∧ Below w.heap.size w w' ∧ Dds w' (some ⟨w.heap.size, 0, none⟩) ds := by
  refine (toDeedS_any a ds.length cap (fstF ds) (sndF ds) hn w hd.prq).mono ?_
  rintro e w' ⟨rfl, h1, h2⟩
  exact ⟨rfl, h1, (CopiedQ.prs h2 hd.prq.1).dds⟩

set_option maxRecDepth 100000 in
set_option maxHeartbeats 3200000 in
theorem exactJournalText (a : Option Addr) (ds : List (Int × Int)) (cap : Nat) (w : World) (hd : Dds w a ds) :
    Calls Try.prog 12 #[.slice a ds.length cap] w fun e w' => e = .returned (.bool true) ∧ Below w.heap.size w w' := by
  have HD := Lib.hid hd
  have hnn := hd.1.1
  obtain ⟨n, hn⟩ : ∃ n, ds.length = n := ⟨_, rfl⟩
  have HN := Lib.hid hn
  rw [hn] at hnn ⊢
  clear hd hn
  have key := fun (a : Option Addr) (c : Nat) (w : World) (hl : n ≤ 1048576) (h : Dds w a ds) => toDs a ds c (by rw [HN.out]; exact hl) w h
  have key2 := fun (a : Option Addr) (c : Nat) (w : World) (hl : n ≤ 1048576) (h : Dds w a ds) => specJournalText_any a ds c (by rw [HN.out]; exact hl) w h
  have key3 := fun (a : Option Addr) (c : Nat) (w : World) (hl : n ≤ 1048576) (h : Dds w a ds) => JournalText_any a ds c (by rw [HN.out]; exact hl) w h
  have key4 := fun (a1 a2 : Option Addr) (c1 c2 : Nat) (w : World) (hl : n ≤ 1048576) (h1 : Dds w a1 ds) (h2 : Dds w a2 ds) => eqDeedS_any a1 a2 ds.length c1 c2 (fstF ds) (sndF ds) (by rw [HN.out]; exact hl) w h1.prq h2.prq
  rw [HN.out] at key key2 key3 key4
  have K1 := Lib.hid key; have K2 := Lib.hid key2; have K3 := Lib.hid key3; have K4 := Lib.hid key4
  clear key key2 key3 key4
  by_cases hl : 1048576 < n
  · have HV := Lib.hid (show (if (1048576 : Int) < n then (-1 : Int) else 1048576 - n) = -1 by rw [if_pos (by omega)])
    clear hl
    go_enter Try.func12, Try.ntmps12
    go_wp2_with fail
    refine (szDs a n cap _ hnn HV.out _).mono ?_
    rintro e w2 ⟨rfl, rfl⟩
    go_wp2_with fail
    go_ret
    exact ⟨rfl, Below.refl _ _⟩
  · have HL := Lib.hid (show n ≤ 1048576 by omega)
    obtain ⟨z, hz⟩ : ∃ z : Int, (1048576 : Int) - (n : Int) = z := ⟨_, rfl⟩
    have HV := Lib.hid (show (if (1048576 : Int) < n then (-1 : Int) else 1048576 - n) = z by rw [if_neg (by omega), hz])
    have hzz : decide (z < 0) = false := decide_eq_false (by omega)
    obtain ⟨t, ht⟩ : ∃ t, bs (jtL ds) = t := ⟨_, rfl⟩
    have HT := Lib.hid ht
    have hsame := sameT t
    clear hl hz ht
    go_enter Try.func12, Try.ntmps12
    go_wp2_with fail
    refine (szDs a n cap _ hnn HV.out _).mono ?_
    rintro e w2 ⟨rfl, rfl⟩
    go_wp2_with fail
    refine (K1.out a cap _ HL.out HD.out).mono ?_
    rintro e w2 ⟨rfl, hb2, hd2⟩
    have HB2 := Lib.hid hb2; have HD2 := Lib.hid hd2
    replace HD := Lib.hid (HD.out.kept hb2)
    obtain ⟨A2, hA2⟩ : ∃ A2, w.heap.size = A2 := ⟨_, rfl⟩
    have HA2 := Lib.hid hA2
    rw [hA2] at HD2 ⊢
    clear hb2 hd2 hA2
    go_wp2_with fail
    refine (K2.out _ _ _ HL.out HD2.out).mono ?_
    rintro e w3 ⟨rfl, hb3⟩
    rw [HT.out]
    replace HB2 := Lib.hid (HB2.out.trans (hb3.mono HB2.out.size))
    replace HD := Lib.hid (HD.out.kept hb3)
    clear hb3 HD2
    go_wp2_with fail
    refine (K1.out a cap _ HL.out HD.out).mono ?_
    rintro e w4 ⟨rfl, hb4, hd4⟩
    replace HB2 := Lib.hid (HB2.out.trans (hb4.mono HB2.out.size))
    replace HD := Lib.hid (HD.out.kept hb4)
    have HD4 := Lib.hid hd4
    obtain ⟨A4, hA4⟩ : ∃ A4, w3.heap.size = A4 := ⟨_, rfl⟩
    rw [hA4] at HD4 ⊢
    clear hb4 hd4 hA4
    go_wp2_with fail
    refine (K3.out _ _ _ HL.out HD4.out).mono ?_
    rintro e w5 ⟨rfl, hb5⟩
    rw [HT.out]
    replace HB2 := Lib.hid (HB2.out.trans (hb5.mono HB2.out.size))
    replace HD := Lib.hid (HD.out.kept hb5)
    replace HD4 := Lib.hid (HD4.out.kept hb5)
    clear hb5
    go_wp2_with fail
    refine (K1.out a cap _ HL.out HD.out).mono ?_
    rintro e w6 ⟨rfl, hb6, hd6⟩
    replace HB2 := Lib.hid (HB2.out.trans (hb6.mono HB2.out.size))
    replace HD4 := Lib.hid (HD4.out.kept hb6)
    have HD6 := Lib.hid hd6
    obtain ⟨A6, hA6⟩ : ∃ A6, w5.heap.size = A6 := ⟨_, rfl⟩
    rw [hA6] at HD6 ⊢
    clear hb6 hd6 hA6
    go_wp2_with fail
    refine (K4.out _ _ _ _ _ HL.out HD4.out HD6.out).mono ?_
    rintro e w7 ⟨rfl, hb7⟩
    replace HB2 := Lib.hid (HB2.out.trans (hb7.mono HB2.out.size))
    clear hb7
    go_wp2_with fail
    go_ret
    exact ⟨rfl, HB2.out⟩

set_option maxRecDepth 100000 in
set_option maxHeartbeats 3200000 in
theorem exactReadJournal (s : ByteArray) (hs : s.size ≤ 9223372036854775807) (w : World) :
    Calls Try.prog 13 #[.string s] w fun e w' => e = .returned (.bool true) ∧ Below w.heap.size w w' := by
  by_cases hl : 1048576 < s.size
  · have hd : decide ((1048576 : Int) < (s.size : Int)) = true := decide_eq_true (by omega)
    clear hl
    go_enter Try.func13, Try.ntmps13
    go_wp2_with fail
    go_ret
    exact ⟨rfl, Below.refl _ _⟩
  · have hd : decide ((1048576 : Int) < (s.size : Int)) = false := decide_eq_false (by omega)
    have HS := Lib.hid (show s.size ≤ 1048576 by omega)
    clear hl
    go_enter Try.func13, Try.ntmps13
    go_wp2_with fail
    refine (specReadJournal_any s (by have := HS.out; omega) _).mono ?_
    rintro e w2 ⟨v0, ds, rfl, hr0, ho0, hb2⟩
    have HR0 := Lib.hid hr0; have HO0 := Lib.hid ho0; have HB := Lib.hid hb2
    have HLEN := Lib.hid (show ds.length ≤ 1048576 by
      have h1 := jt_count ds
      have h2 := hr0.pre.length_le
      have h3 := Lib.size_eq s
      have := HS.out
      omega)
    have H64 := Lib.hid (jt_I64 hr0.ok)
    obtain ⟨m, hm⟩ : ∃ m : Int, ((jtR ds).length : Int) = m := ⟨_, rfl⟩
    have HM := Lib.hid hm
    rw [hm]
    have hmm : (m != m) = false := by simp
    obtain ⟨a0, c0, rfl⟩ := ho0.slice
    obtain ⟨n, hn⟩ : ∃ n, ds.length = n := ⟨_, rfl⟩
    have HN := Lib.hid hn
    rw [hn] at HO0 HLEN ⊢
    clear hr0 ho0 hb2 hm hn
    go_wp2_with fail
    refine (ReadJournal_any s (by have := HS.out; omega) _).mono ?_
    rintro e w3 ⟨v1, ds1, rfl, hr1, ho1, hb3⟩
    have e1 := hr1.uniq HR0.out
    subst e1
    rw [HM.out]
    have HO1 := Lib.hid ho1
    have HLT1 := Lib.hid (show ∀ g, v1.ownBlock = some g → w2.heap.size ≤ g from fun g hg => (World.ownsRow.lt ho1 g hg).1)
    have HLT0 := Lib.hid (show ∀ g, (Value.slice a0 n c0).ownBlock = some g → g < w2.heap.size from fun g hg => (World.ownsRow.lt HO0.out g hg).2)
    have HZ2 := Lib.hid HB.out.size
    replace HB := Lib.hid (below_onto HB.out hb3)
    replace HO0 := Lib.hid (HO0.out.kept hb3)
    obtain ⟨a1, c1, rfl⟩ := ho1.slice
    rw [HN.out] at HO1 HLT1 ⊢
    clear hr1 ho1 hb3
    have K1 := Lib.hid (fun (v1 v2 : Value) (B1 B2 : Nat) (w : World) (h1 : OwnD w B1 v1 ds1) (h2 : OwnD w B2 v2 ds1) => eqDs v1 v2 B1 B2 ds1 (by rw [HN.out]; exact HLEN.out) H64.out w h1 h2)
    have hn0 : decide ((1 : Int) + (n : Int) * 2 < 0) = false := decide_eq_false (by omega)
    have HMK := Lib.hid (fun (v : Value) (B : Nat) (w : World) (h : OwnD w B v ds1) => (show Calls Try.prog 38 #[v, .int .i64 1] w fun e w' => e = .returned (.int .i64 ((1 : Int) + n * 2)) ∧ OwnD w' B v (mkD n 1) ∧ Upd v w w' from by
      have hh := markD_any v B ds1 1 (by rw [HN.out]; have := HLEN.out; omega) w h
      rw [HN.out] at hh
      exact hh))
    have HHD := Lib.hid (fun (v : Value) (B : Nat) (w : World) (h : OwnD w B v (mkD n 1)) => (show Calls Try.prog 39 #[v, .int .i64 1] w fun e w' => e = .returned (.int .i64 ((1 : Int) + n * 2)) ∧ w = w' from heldD_any v B n 1 (by have := HLEN.out; omega) w h))
    obtain ⟨q, hq⟩ : ∃ q : Int, (1 : Int) + (n : Int) * 2 = q := ⟨_, rfl⟩
    rw [hq] at hn0 HMK HHD
    have hqq : (q != q) = false := by simp
    clear hq
    go_wp2_with fail
    refine (K1.out _ _ _ _ _ HO1.out HO0.out).mono ?_
    rintro e w4 ⟨rfl, hb4⟩
    replace HB := Lib.hid (below_onto HB.out hb4)
    replace HO0 := Lib.hid (HO0.out.kept hb4)
    replace HO1 := Lib.hid (HO1.out.kept hb4)
    clear hb4
    go_wp2_with fail
    refine (HMK.out _ _ _ HO1.out).mono ?_
    rintro e w5 ⟨rfl, ho5, hu5⟩
    replace HO1 := Lib.hid ho5
    replace HO0 := Lib.hid (HO0.out.upd hu5 (fun g hg e => by have := HLT0.out g hg; have := HLT1.out g e; omega))
    replace HB := Lib.hid (HB.out.trans (hu5.below (C := w.heap.size) HB.out.size (fun g hg => by have := HLT1.out g hg; have := HZ2.out; omega)))
    clear ho5 hu5
    go_wp2_with fail
    refine (HHD.out _ _ _ HO1.out).mono ?_
    rintro e w6 ⟨rfl, rfl⟩
    go_wp2_with fail
    refine (ReadJournal_any s (by have := HS.out; omega) _).mono ?_
    rintro e w7 ⟨v2, ds2, rfl, hr2, ho2, hb7⟩
    have e2 := hr2.uniq HR0.out
    subst e2
    rw [HM.out]
    have HO2 := Lib.hid ho2
    replace HB := Lib.hid (below_onto HB.out hb7)
    replace HO0 := Lib.hid (HO0.out.kept hb7)
    replace HO1 := Lib.hid (HO1.out.kept hb7)
    obtain ⟨a2, c2, rfl⟩ := ho2.slice
    rw [HN.out] at HO2 ⊢
    clear hr2 ho2 hb7
    go_wp2_with fail
    refine (K1.out _ _ _ _ _ HO2.out HO0.out).mono ?_
    rintro e w8 ⟨rfl, hb8⟩
    replace HB := Lib.hid (below_onto HB.out hb8)
    replace HO1 := Lib.hid (HO1.out.kept hb8)
    clear hb8
    go_wp2_with fail
    refine (HHD.out _ _ _ HO1.out).mono ?_
    rintro e w9 ⟨rfl, rfl⟩
    go_wp2_with fail
    go_ret
    exact ⟨rfl, HB.out⟩
end Go.Proofs.Ythbancphegnpdaa
