import Derived.Test.YthaickihoagnmaaGreatDoorQC14
import Derived.Deep.DeepMust
import Derived.Lib.LaidTab
import Derived.LaidMore
import Derived.Stop.LaidErr
import Derived.ProofKit
import Derived.OpenShut
import Derived.Stop.Joined
set_option linter.unusedVariables false
set_option linter.unusedSimpArgs false
set_option maxHeartbeats 12800000
namespace Go.Proofs.YthaickihoagnmaaGreatDoor
open Go.RowKit Go.Maps
theorem GivesS.desk {ys : List Int} {M : List (List Int)} {us : List (List UInt8)} {w w' : World} {v1 v2 v3 : Value} (h : GivesS ys M us w w' v1 v2 v3) : GivesD ys M w w' v1 v2 := by
  obtain ⟨rs, h1, h2, _, _, h5⟩ := h
  exact ⟨rs, h1, h2, h5⟩
theorem GivesS.texts {ys : List Int} {M : List (List Int)} {us : List (List UInt8)} {w w' : World} {v1 v2 v3 : Value} (h : GivesS ys M us w w' v1 v2 v3) (hu : us.length ≤ 40) :
    ∃ p cp, v3 = .slice p us.length cp ∧ DAd p cp us.length ∧ TxsIn w' p us.length (us.map bs) ∧ ∀ g, p = some ⟨g, 0, none⟩ → w.heap.size ≤ g := by
  obtain ⟨rs, _, _, ho, _, _⟩ := h
  have := ho.slc (by rw [List.length_map]; omega)
  rw [List.length_map] at this
  exact this
theorem sy_okD (xs : List Int) (L : List (List Int)) (ls : List (List UInt8)) : okD (syX ansW xs L ls) (syL ansW xs L ls) := by
  cases h : syB xs L ls with
  | true =>
    obtain ⟨e1, e2, _⟩ := sy_yes (A := ansW) h
    rw [e1, e2]
    unfold syB at h
    rw [Bool.and_eq_true] at h
    exact okD_desk (say_desk ansW xs L h.1 ls)
  | false =>
    obtain ⟨e1, e2, _⟩ := sy_no (A := ansW) h
    rw [e1, e2]
    exact okD_nil
theorem syT_len (xs : List Int) (L : List (List Int)) (ls : List (List UInt8)) : (syT ansW xs L ls).length ≤ 40 := by
  cases h : syB xs L ls with
  | true =>
    obtain ⟨_, _, e3⟩ := sy_yes (A := ansW) h
    rw [e3, say_len]
    unfold syB at h
    rw [Bool.and_eq_true, decide_eq_true_eq] at h
    exact h.2
  | false =>
    obtain ⟨_, _, e3⟩ := sy_no (A := ansW) h
    rw [e3]; simp
def CutS (w : World) (ys : List Int) (M : List (List Int)) (us : List (List UInt8)) (s1 s2 : Value) (wx : World) : Prop :=
  ∃ (A : Nat) (a b : Option Addr) (c c2 : Nat) (p : Option Addr) (cp : Nat), s1 = .pointer (some ⟨A, 0, none⟩) ∧ s2 = .slice p us.length cp ∧ VarD wx A a b c c2 ys M ∧ DAd p cp us.length ∧ TxsIn wx p us.length (us.map bs) ∧ Below w.heap.size w wx
theorem cutS_last {w w8 w9 : World} {v1 v2 v3 : Value} {ys : List Int} {M : List (List Int)} {us : List (List UInt8)} (hk : okD ys M) (hu : us.length ≤ 40) (h : GivesS ys M us w8 w9 v1 v2 v3) (hb : Below w.heap.size w w9) :
    CutS w ys M us (.pointer (some ⟨w9.heap.size, 0, none⟩)) v3 (w9.alloc (.cells #[v1, v2] 31)) := by
  obtain ⟨a, c, b, c2, rfl, rfl, hd, _⟩ := hk.gives h.desk
  obtain ⟨p, cp, rfl, hda, ht, _⟩ := h.texts hu
  exact ⟨_, a, b, c, c2, p, cp, rfl, rfl, VarD.new hd, hda, ht.kept (alloc_below w9 _), hb.alloc hb.size _⟩
theorem cutS_set {w w8 w9 : World} {g : Nat} {v1 v2 v3 : Value} {ys : List Int} {M : List (List Int)} {us : List (List UInt8)} (hk : okD ys M) (hu : us.length ≤ 40) (h : GivesS ys M us w8 w9 v1 v2 v3) (hz : Blk2 w9 g 31 (.slice none 0 0) (.slice none 0 0)) (hl : g < w8.heap.size) (hb : Below w.heap.size w w9) (hwb : w.heap.size ≤ g) :
    CutS w ys M us (.pointer (some ⟨g, 0, none⟩)) v3 ((w9.setCell ⟨g, 0, none⟩ v1).setCell ⟨g, 1, none⟩ v2) := by
  obtain ⟨a, c, b, c2, rfl, rfl, _, _⟩ := hk.gives h.desk
  obtain ⟨p, cp, rfl, hda, ht, hp⟩ := h.texts hu
  obtain ⟨rs, hg, hrs, _, _, _⟩ := h
  have hR := hk.nine.read ((hg.put (p := ⟨g, 0, none⟩) (u := .slice a ys.length c) hl).put (p := ⟨g, 1, none⟩) (u := .slice b M.length c2) hl) hrs
  have hq : ∀ g2 o, p = some ⟨g2, o, none⟩ → g2 ≠ g := fun g2 o e => by
    rcases hda.2 with ⟨h, _⟩ | ⟨g', h⟩
    · rw [h] at e; cases e
    · have := hp g' h
      rw [h] at e
      injection e with e
      injection e with e
      omega
  exact ⟨g, a, b, c, c2, p, cp, rfl, rfl, ⟨(hz.set0 _).set1 _, hR⟩, hda, (ht.put (q := ⟨g, 0, none⟩) (u := .slice a ys.length c) hq).put (q := ⟨g, 1, none⟩) (u := .slice b M.length c2) hq, (hb.setCell (p := ⟨g, 0, none⟩) hwb _).setCell (p := ⟨g, 1, none⟩) hwb _⟩
theorem lns_parts (ts : List ByteArray) (m : Nat) : lnsL (ts.take m) ++ lnsL (ts.drop m) = lnsL ts := by
  unfold lnsL
  rw [← List.map_append, List.take_append_drop]
def ownT (t : ByteArray) : ByteArray := ({ data := #[99, 111, 109, 109, 111, 110, 32] } ++ t) ++ { data := #[32] } ++ t
theorem own_text (y : Int) : (ownT (setT y)).data.toList = ownL y := by
  unfold ownT setT ownL commonW bs
  simp [ByteArray.data_append]
theorem own_size (t : ByteArray) (h : t.size ≤ 4) : (ownT t).size ≤ 100 := by
  unfold ownT
  rw [ByteArray.size_append, ByteArray.size_append, ByteArray.size_append]
  show 7 + _ + 1 + _ ≤ _
  omega
set_option maxRecDepth 100000 in
theorem lawDeskSay (a : Option Addr) (n cap : Nat) (w : World) (h : BytesIn w a n cap) (hT : TabW w) :
    Calls Tryz.prog 5 #[.slice a n cap] w (TrueEnd w) := by
  have hlen := h.len
  have H := Lib.hid h; have HT := Lib.hid hT; clear h hT
  by_cases hn : 1048576 < n
  · go_enter Tryz.func5, Tryz.ntmps5
    go_wp2_with fail
    go_ret
    exact ⟨rfl, Below.refl _ _⟩
  · go_enter Tryz.func5, Tryz.ntmps5
    go_wp2_with fail
    refine (DrawDeskSay_any _ _ _ _ H.out).mono ?_
    rintro e w1 ⟨p1, e1, p2, e2, xs, L, p, cp, ts, rfl, hd, hk, hdd, hda, h41, hsm, hb1⟩
    have hal := alloc_below w1 (.cells #[.slice p1 xs.length e1, .slice p2 L.length e2] 31)
    have HV := Lib.hid (VarD.new hd)
    have HDD := Lib.hid (hdd.kept hal)
    have HB := Lib.hid (below_onto hb1 hal)
    have HSM := Lib.hid (show ∀ t ∈ ts, t.size ≤ 1048600 from fun t ht => by have := hsm t ht; omega)
    obtain ⟨w2, hw2⟩ : ∃ w2, w1.alloc (.cells #[.slice p1 xs.length e1, .slice p2 L.length e2] 31) = w2 := ⟨_, rfl⟩
    obtain ⟨A, hA⟩ : ∃ A, w1.heap.size = A := ⟨_, rfl⟩
    rw [hw2] at HV HB HDD
    rw [hA] at HV
    have ha0 := HV.out.blk.cell.1; have ha1 := HV.out.blk.cell.2
    obtain ⟨dn, hdn⟩ : ∃ dn, ts.length = dn := ⟨_, rfl⟩
    have HDN := Lib.hid hdn
    rw [hdn] at h41 hda HDD ⊢
    have HDA := Lib.hid hda; have H41 := Lib.hid h41
    clear H hb1 hd hk hdd hda hal hsm hdn
    have hkd := sy_okD xs L (lnsL ts)
    have hul := syT_len xs L (lnsL ts)
    obtain ⟨ys, hys⟩ : ∃ ys, syX ansW xs L (lnsL ts) = ys := ⟨_, rfl⟩
    obtain ⟨M, hM⟩ : ∃ M, syL ansW xs L (lnsL ts) = M := ⟨_, rfl⟩
    obtain ⟨us, hus⟩ : ∃ us, syT ansW xs L (lnsL ts) = us := ⟨_, rfl⟩
    rw [hys, hM] at hkd
    rw [hus] at hul
    have HYS := Lib.hid hys; have HMM := Lib.hid hM; have HUS := Lib.hid hus; have HKD := Lib.hid hkd; have HUL := Lib.hid hul
    have HI1 := Lib.hid (show ∀ W d, DeskR W d xs L → TxsIn W p dn ts → TabW W → Calls Tryz.prog 25 #[d, .slice p dn cp] W (SayEnd ys M us W) from fun W d h1 h2 h3 => by
      have := DeskSay_any d xs L p dn cp ts W h1 h2 HSM.out h3
      rw [hys, hM, hus] at this
      exact this)
    have HI2 := Lib.hid (show ∀ W d, DeskR W d xs L → TxsIn W p dn ts → Calls Tryz.prog 26 #[d, .slice p dn cp] W (SayEnd ys M us W) from fun W d h1 h2 => by
      have := specDeskSay_any d xs L p dn cp ts W h1 h2 HSM.out
      rw [hys, hM, hus] at this
      exact this)
    clear hys hM hus hkd hul
    obtain ⟨un, hun⟩ : ∃ un, us.length = un := ⟨_, rfl⟩
    have HUN := Lib.hid hun
    clear hun
    go_wp2_with fail
    clear hw2 hA
    refine (HI1.out _ _ HV.out.d HDD.out (HT.out.below HB.out)).mono ?_
    rintro e w3 ⟨v1, v2, v3, rfl, hg⟩
    obtain ⟨p3, e3, p4, e4, rfl, rfl, hd, hb⟩ := HKD.out.gives hg.desk
    obtain ⟨pu, cu, rfl, hdu, htu, _⟩ := hg.texts HUL.out
    rw [HUN.out] at hdu htu ⊢
    have hal := alloc_below w3 (.cells #[.slice p3 ys.length e3, .slice p4 M.length e4] 31)
    have HS := Lib.hid (VarD.new hd)
    have HTU := Lib.hid (htu.kept hal); have HDU := Lib.hid hdu
    replace hb := below_onto hb hal
    replace HV := Lib.hid (HV.out.kept hb); replace HDD := Lib.hid (HDD.out.kept hb); replace HB := Lib.hid (below_onto HB.out hb)
    obtain ⟨w4, hw4⟩ : ∃ w4, w3.alloc (.cells #[.slice p3 ys.length e3, .slice p4 M.length e4] 31) = w4 := ⟨_, rfl⟩
    obtain ⟨S, hS⟩ : ∃ S, w3.heap.size = S := ⟨_, rfl⟩
    rw [hw4] at HV HB HDD HS HTU
    rw [hS] at HS
    clear hg hd hb hal ha0 ha1 hdu htu
    have ha0 := HV.out.blk.cell.1; have ha1 := HV.out.blk.cell.2
    go_wp2_with fail
    clear hw4 hS
    refine (HI2.out _ _ HV.out.d HDD.out).mono ?_
    rintro e w5 ⟨v4, v5, v6, rfl, hg⟩
    obtain ⟨p5, e5, p6, e6, rfl, rfl, hd, hb⟩ := HKD.out.gives hg.desk
    obtain ⟨pv, cv, rfl, _, htv, _⟩ := hg.texts HUL.out
    rw [HUN.out] at htv ⊢
    have hal := alloc_below w5 (.cells #[.slice p5 ys.length e5, .slice p6 M.length e6] 31)
    have HU := Lib.hid (VarD.new hd)
    have HTV := Lib.hid (htv.kept hal)
    replace hb := below_onto hb hal
    replace HV := Lib.hid (HV.out.kept hb); replace HS := Lib.hid (HS.out.kept hb); replace HDD := Lib.hid (HDD.out.kept hb); replace HB := Lib.hid (below_onto HB.out hb); replace HTU := Lib.hid (HTU.out.kept hb)
    obtain ⟨w6, hw6⟩ : ∃ w6, w5.alloc (.cells #[.slice p5 ys.length e5, .slice p6 M.length e6] 31) = w6 := ⟨_, rfl⟩
    obtain ⟨U, hU⟩ : ∃ U, w5.heap.size = U := ⟨_, rfl⟩
    rw [hw6] at HV HS HB HDD HU HTU HTV
    rw [hU] at HU
    clear hg hd hb hal ha0 ha1 htv
    have hs0 := HS.out.blk.cell.1; have hs1 := HS.out.blk.cell.2; have ht0 := HU.out.blk.cell.1; have ht1 := HU.out.blk.cell.2
    go_wp2_with fail
    clear hw6 hU
    refine (HKD.out.nine.same _ _ _ HS.out.d HU.out.d).mono ?_
    rintro e w7 ⟨rfl, hb⟩
    replace HV := Lib.hid (HV.out.kept hb); replace HS := Lib.hid (HS.out.kept hb); replace HU := Lib.hid (HU.out.kept hb); replace HDD := Lib.hid (HDD.out.kept hb); replace HB := Lib.hid (below_onto HB.out hb); replace HTU := Lib.hid (HTU.out.kept hb); replace HTV := Lib.hid (HTV.out.kept hb)
    clear hb hs0 hs1 ht0 ht1
    go_wp2_with fail
    refine (sameTexts_any pu pv (us.map bs) cu cv un _ HTU.out HTV.out).mono ?_
    rintro e w70 ⟨rfl, hb⟩
    replace HV := Lib.hid (HV.out.kept hb); replace HS := Lib.hid (HS.out.kept hb); replace HU := Lib.hid (HU.out.kept hb); replace HDD := Lib.hid (HDD.out.kept hb); replace HB := Lib.hid (below_onto HB.out hb); replace HTU := Lib.hid (HTU.out.kept hb)
    clear hb HTV
    have ha0 := HV.out.blk.cell.1; have ha1 := HV.out.blk.cell.2
    go_wp2_with fail
    refine (specDeskOk_any _ xs L _ HV.out.d).mono ?_
    rintro e w8 ⟨rfl, hb⟩
    replace HV := Lib.hid (HV.out.kept hb); replace HS := Lib.hid (HS.out.kept hb); replace HU := Lib.hid (HU.out.kept hb); replace HDD := Lib.hid (HDD.out.kept hb); replace HB := Lib.hid (below_onto HB.out hb); replace HTU := Lib.hid (HTU.out.kept hb)
    clear hb ha0 ha1
    have hs0 := HS.out.blk.cell.1; have hs1 := HS.out.blk.cell.2
    cases hdk : deskB xs L with
    | false =>
      obtain ⟨f1, f2, f3⟩ := sy_no (A := ansW) (show syB xs L (lnsL ts) = false by unfold syB; rw [hdk]; rfl)
      rw [HYS.out] at f1; rw [HMM.out] at f2; rw [HUS.out] at f3
      subst f1; subst f2
      have hu0 : un = 0 := by rw [← HUN.out, f3]; rfl
      subst hu0
      clear hdk f3
      go_wp2_with fail
      refine (noDesk_any _ _ HS.out.d).mono ?_
      rintro e w9 ⟨rfl, hb⟩
      replace HB := Lib.hid (below_onto HB.out hb)
      clear hb hs0 hs1
      go_wp2_with fail
      refine (alive_any _).mono ?_
      rintro e w20 ⟨rfl, hb⟩
      replace HB := Lib.hid (below_onto HB.out hb); clear hb
      go_wp2_with fail
      go_ret
      exact ⟨rfl, HB.out⟩
    | true =>
      by_cases h40 : 40 < dn
      · have h40b : decide ((40 : Int) < (dn : Int)) = true := decide_eq_true (by omega)
        obtain ⟨f1, f2, f3⟩ := sy_no (A := ansW) (show syB xs L (lnsL ts) = false by unfold syB; rw [lns_len, HDN.out, decide_eq_false (by omega), Bool.and_false])
        rw [HYS.out] at f1; rw [HMM.out] at f2; rw [HUS.out] at f3
        subst f1; subst f2
        have hu0 : un = 0 := by rw [← HUN.out, f3]; rfl
        subst hu0
        clear hdk f3
        go_wp2_with fail
        refine (noDesk_any _ _ HS.out.d).mono ?_
        rintro e w9 ⟨rfl, hb⟩
        replace HB := Lib.hid (below_onto HB.out hb)
        clear hb hs0 hs1
        go_wp2_with fail
        refine (alive_any _).mono ?_
        rintro e w20 ⟨rfl, hb⟩
        replace HB := Lib.hid (below_onto HB.out hb); clear hb
        go_wp2_with fail
        go_ret
        exact ⟨rfl, HB.out⟩
      · have h40b : decide ((40 : Int) < (dn : Int)) = false := decide_eq_false (by omega)
        have hB : syB xs L (lnsL ts) = true := by unfold syB; rw [hdk, lns_len, HDN.out, decide_eq_true (by omega)]; rfl
        obtain ⟨q2, c2, hsl1, hsl2, hdd2⟩ := sparts p cp dn HDA.out
        obtain ⟨g1, g2, g3⟩ := sy_parts (A := ansW) hB (lns_parts ts (dn / 2))
        have hd1 := HDD.out.take (dn / 2) (by omega)
        have hd2 := hdd2 _ _ HDD.out
        have hm1s : ∀ t ∈ ts.take (dn / 2), t.size ≤ 1048600 := fun t ht => HSM.out t (List.mem_of_mem_take ht)
        have hm2s : ∀ t ∈ ts.drop (dn / 2), t.size ≤ 1048600 := fun t ht => HSM.out t (List.mem_of_mem_drop ht)
        obtain ⟨d1, hd1e⟩ : ∃ d1, ts.take (dn / 2) = d1 := ⟨_, rfl⟩
        obtain ⟨d2, hd2e⟩ : ∃ d2, ts.drop (dn / 2) = d2 := ⟨_, rfl⟩
        rw [hd1e] at hd1 g1 g2 g3 hm1s
        rw [hd2e] at hd2 g1 g2 g3 hm2s
        obtain ⟨hf, hhf⟩ : ∃ hf, dn / 2 = hf := ⟨_, rfl⟩
        have hquo : ((dn : Int)).tdiv 2 = (hf : Int) := by rw [Int.tdiv_eq_ediv_of_nonneg (by omega)]; omega
        rw [hhf] at hsl1 hsl2 hd1 hd2
        obtain ⟨n2, hn2⟩ : ∃ n2, dn - hf = n2 := ⟨_, rfl⟩
        rw [hn2] at hsl2 hd2
        have hfb : hf ≤ 20 := by omega
        have hwr : wrap64 (hf : Int) = (hf : Int) := by unfold wrap64; omega
        have hk1 := sy_okD xs L (lnsL d1)
        have hl1 := syT_len xs L (lnsL d1)
        obtain ⟨y1, hy1⟩ : ∃ y1, syX ansW xs L (lnsL d1) = y1 := ⟨_, rfl⟩
        obtain ⟨M1, hM1⟩ : ∃ M1, syL ansW xs L (lnsL d1) = M1 := ⟨_, rfl⟩
        obtain ⟨u1, hu1⟩ : ∃ u1, syT ansW xs L (lnsL d1) = u1 := ⟨_, rfl⟩
        rw [hy1, hM1] at g1 g2 g3 hk1
        rw [hu1] at g3 hl1
        have hl2 := syT_len y1 M1 (lnsL d2)
        obtain ⟨uz, huz⟩ : ∃ uz, syT ansW y1 M1 (lnsL d2) = uz := ⟨_, rfl⟩
        rw [huz] at g3 hl2
        rw [HUS.out] at g3
        rw [HYS.out] at g1
        rw [HMM.out] at g2
        have HK1 := Lib.hid hk1; have HL1 := Lib.hid hl1; have HL2 := Lib.hid hl2; have HG3 := Lib.hid g3
        have HUD := Lib.hid (show un = dn by rw [← HUN.out, ← HUS.out, (sy_yes (A := ansW) hB).2.2, say_len, lns_len, HDN.out])
        have HDY := Lib.hid (show deskB ys M = true by rw [← HYS.out, ← HMM.out, (sy_yes (A := ansW) hB).1, (sy_yes (A := ansW) hB).2.1]; exact say_desk ansW xs L hdk _)
        have HNE := Lib.hid (show ∀ t ∈ us, t ≠ [] by rw [← HUS.out, (sy_yes (A := ansW) hB).2.2]; exact say_ne xs L hdk _)
        have HD2 := Lib.hid hd2
        have HT8 := Lib.hid (HT.out.below HB.out)
        have HC1 := Lib.hid (show ∀ W, Below w8.heap.size w8 W → Calls Tryz.prog 25 #[.agg #[.slice p1 xs.length e1, .slice p2 L.length e2], .slice p hf cp] W (SayEnd y1 M1 u1 W) from fun W hW => by
          have := DeskSay_any _ xs L p hf cp d1 W (HV.out.d.kept hW) (hd1.kept hW) hm1s (HT8.out.below hW)
          rw [hy1, hM1, hu1] at this
          exact this)
        have HC2 := Lib.hid (show ∀ W b1 b2 c1 c2', DeskR W (.agg #[.slice b1 y1.length c1, .slice b2 M1.length c2']) y1 M1 → TxsIn W q2 n2 d2 → TabW W → Calls Tryz.prog 25 #[.agg #[.slice b1 y1.length c1, .slice b2 M1.length c2'], .slice q2 n2 c2] W (SayEnd ys M uz W) from fun W b1 b2 c1 c2' h1 h2 h3 => by
          have := DeskSay_any _ y1 M1 q2 n2 c2 d2 W h1 h2 hm2s h3
          rw [g1, g2, huz] at this
          exact this)
        have HKS := Lib.hid (show ∀ W, Below w8.heap.size w8 W → (W.cell? ⟨A, 0, none⟩ = some (.slice p1 xs.length e1) ∧ W.cell? ⟨A, 1, none⟩ = some (.slice p2 L.length e2)) from fun W hW => (HV.out.kept hW).blk.cell)
        have HSL2 := Lib.hid hsl2
        clear hdk hd1 hd2 hd1e hd2e hdd2 g1 g2 g3 hy1 hM1 hu1 huz hhf hk1 hB hs0 hs1 hsl2 hl1 hl2 hm1s hm2s hn2
        go_upto_region 11 with fail
        go_cut [10, 11] (fun s1 s2 wx => CutS w8 y1 M1 u1 s1 s2 wx)
        case first =>
          have HB6 := Lib.hid (Below.refl w8.heap.size w8)
          go_region_held3 (fun W => W.cell? ⟨A, 0, none⟩ = some (.slice p1 xs.length e1) ∧ W.cell? ⟨A, 1, none⟩ = some (.slice p2 L.length e2)) (first | exact HKS.out _ HB6.out | exact HKS.out _ HB6.out.drew | exact HKS.out _ (HB6.out.alloc HB6.out.size _) | exact HKS.out _ (HB6.out.alloc HB6.out.size _).drew | exact HKS.out _ ((HB6.out.setCell (p := ⟨_, 0, none⟩) (Nat.le_refl _) _).setCell (p := ⟨_, 1, none⟩) (Nat.le_refl _) _) | exact HKS.out _ ((HB6.out.setCell (p := ⟨_, 0, none⟩) HS7.out _).setCell (p := ⟨_, 1, none⟩) HS7.out _) | go_keep)
            (first | (go_at_call 25; refine (HC1.out _ (by first | with_reducible exact HB6.out | with_reducible exact HB6.out.drew | with_reducible exact HB6.out.alloc HB6.out.size _ | with_reducible exact (HB6.out.alloc HB6.out.size _).drew)).mono ?_; rintro e w9 ⟨v3, v4, v5, rfl, hg9⟩; obtain ⟨z1, z2, rfl⟩ := hg9.desk.one; obtain ⟨z3, z4, rfl⟩ := hg9.desk.two; have HS7 := Lib.hid (show w8.heap.size ≤ w9.heap.size from (below_onto (show Below w8.heap.size w8 _ from (by first | with_reducible exact HB6.out | with_reducible exact HB6.out.drew | with_reducible exact HB6.out.alloc HB6.out.size _ | with_reducible exact (HB6.out.alloc HB6.out.size _).drew)) hg9.desk.below).size); (try (have HZB : Hid (Blk2 w9 w8.heap.size 31 (.slice none 0 0) (.slice none 0 0)) := Lib.hid (by with_reducible exact blk2_new_dr3 hg9.desk.below))); (try (have hx0 := HZB.out.cell.1; have hx1 := HZB.out.cell.2; have hx2 := HZB.out.frozen 0; have hx3 := HZB.out.frozen 1)); have HG9 := Lib.hid hg9; have HZ := Lib.hid (below_onto (show Below w8.heap.size w8 _ from (by first | with_reducible exact HB6.out | with_reducible exact HB6.out.drew | with_reducible exact HB6.out.alloc HB6.out.size _ | with_reducible exact (HB6.out.alloc HB6.out.size _).drew)) hg9.desk.below); clear HB6; have HB6 := HZ; clear HZ; clear hg9))
          all_goals
            go_wp2_with fail
            go_meet
            first
              | exact cutS_last HK1.out HL1.out HG9.out HB6.out
              | exact cutS_set HK1.out HL1.out HG9.out HZB.out (alloc_lt3 _ _) HB6.out (Nat.le_refl _)
        case rest =>
        obtain ⟨w10, hw10⟩ : ∃ w10, w10 = wc := ⟨_, rfl⟩
        subst hw10
        obtain ⟨A1, a1, b1, c1, c3, pf, cf, rfl, rfl, hv1, hdf, htf, hbx⟩ := hcut
        replace HS := Lib.hid (HS.out.kept hbx); replace HU := Lib.hid (HU.out.kept hbx); replace HB := Lib.hid (below_onto HB.out hbx); replace HTU := Lib.hid (HTU.out.kept hbx)
        have HDD2 := Lib.hid (HD2.out.kept hbx)
        have HTF := Lib.hid htf; have HDF := Lib.hid hdf
        have HT10 := Lib.hid (HT8.out.below hbx)
        have HC3 := Lib.hid (show ∀ W, Below w10.heap.size w10 W → Calls Tryz.prog 25 #[.agg #[.slice a1 y1.length c1, .slice b1 M1.length c3], .slice q2 n2 c2] W (SayEnd ys M uz W) from fun W hW => HC2.out W _ _ _ _ (hv1.d.kept hW) (HDD2.out.kept hW) (HT10.out.below hW))
        clear HKS HC1 HC2 hsl1 hquo HDD HD2
        have HKS := Lib.hid (show ∀ W, Below w10.heap.size w10 W → (W.cell? ⟨A1, 0, none⟩ = some (.slice a1 y1.length c1) ∧ W.cell? ⟨A1, 1, none⟩ = some (.slice b1 M1.length c3)) from fun W hW => (hv1.kept hW).blk.cell)
        have hsl2 := HSL2.out
        clear hbx hv1 htf hdf
        go_upto_region 12 with fail
        go_cut [12, 13] (fun s1 s2 wx => CutS w10 ys M uz s1 s2 wx)
        case first =>
          have HB6 := Lib.hid (Below.refl w10.heap.size w10)
          go_region_held3 (fun W => W.cell? ⟨A1, 0, none⟩ = some (.slice a1 y1.length c1) ∧ W.cell? ⟨A1, 1, none⟩ = some (.slice b1 M1.length c3)) (first | exact HKS.out _ HB6.out | exact HKS.out _ HB6.out.drew | exact HKS.out _ (HB6.out.alloc HB6.out.size _) | exact HKS.out _ (HB6.out.alloc HB6.out.size _).drew | exact HKS.out _ ((HB6.out.setCell (p := ⟨_, 0, none⟩) (Nat.le_refl _) _).setCell (p := ⟨_, 1, none⟩) (Nat.le_refl _) _) | exact HKS.out _ ((HB6.out.setCell (p := ⟨_, 0, none⟩) HS7.out _).setCell (p := ⟨_, 1, none⟩) HS7.out _) | go_keep)
            (first | (go_at_call 25; refine (HC3.out _ (by first | with_reducible exact HB6.out | with_reducible exact HB6.out.drew | with_reducible exact HB6.out.alloc HB6.out.size _ | with_reducible exact (HB6.out.alloc HB6.out.size _).drew)).mono ?_; rintro e w9 ⟨v3, v4, v5, rfl, hg9⟩; obtain ⟨z1, z2, rfl⟩ := hg9.desk.one; obtain ⟨z3, z4, rfl⟩ := hg9.desk.two; have HS7 := Lib.hid (show w10.heap.size ≤ w9.heap.size from (below_onto (show Below w10.heap.size w10 _ from (by first | with_reducible exact HB6.out | with_reducible exact HB6.out.drew | with_reducible exact HB6.out.alloc HB6.out.size _ | with_reducible exact (HB6.out.alloc HB6.out.size _).drew)) hg9.desk.below).size); (try (have HZB : Hid (Blk2 w9 w10.heap.size 31 (.slice none 0 0) (.slice none 0 0)) := Lib.hid (by with_reducible exact blk2_new_dr3 hg9.desk.below))); (try (have hx0 := HZB.out.cell.1; have hx1 := HZB.out.cell.2; have hx2 := HZB.out.frozen 0; have hx3 := HZB.out.frozen 1)); have HG9 := Lib.hid hg9; have HZ := Lib.hid (below_onto (show Below w10.heap.size w10 _ from (by first | with_reducible exact HB6.out | with_reducible exact HB6.out.drew | with_reducible exact HB6.out.alloc HB6.out.size _ | with_reducible exact (HB6.out.alloc HB6.out.size _).drew)) hg9.desk.below); clear HB6; have HB6 := HZ; clear HZ; clear hg9))
          all_goals
            go_wp2_with fail
            go_meet
            first
              | exact cutS_last HKD.out HL2.out HG9.out HB6.out
              | exact cutS_set HKD.out HL2.out HG9.out HZB.out (alloc_lt3 _ _) HB6.out (Nat.le_refl _)
        case rest =>
        obtain ⟨w11, hw11⟩ : ∃ w11, w11 = wc := ⟨_, rfl⟩
        subst hw11
        obtain ⟨A2, a2, b2, c4, c5, pg, cg, rfl, rfl, hv2, hdg, htg, hbx⟩ := hcut
        replace HS := Lib.hid (HS.out.kept hbx); replace HU := Lib.hid (HU.out.kept hbx); replace HB := Lib.hid (below_onto HB.out hbx); replace HTU := Lib.hid (HTU.out.kept hbx); replace HTF := Lib.hid (HTF.out.kept hbx)
        have HW := Lib.hid hv2; have HTG := Lib.hid htg; have HDG := Lib.hid hdg
        have HB11 := Lib.hid (Below.refl w11.heap.size w11)
        have hunb : un ≤ 40 := by rw [← HUN.out]; exact HUL.out
        clear HKS HC3 hsl2 hbx hv2 htg hdg
        go_wp2_with fail
        go_loopw [14] (fun i wr => ∃ k : Nat, k ≤ un ∧ i = .int .i64 k ∧ Hid (Below w11.heap.size w11 wr)) (fun i _ => un - (intOf i).toNat)
        case atStart => exact ⟨0, Nat.zero_le _, rfl, HB11⟩
        case round =>
          clear HB11
          obtain ⟨k, hk, rfl, HBR⟩ := hrel
          by_cases hlt : k < un
          · have hki : (k : Int) < (un : Int) := by omega
            have hk0 : (0 : Int) ≤ (k : Int) := by omega
            obtain ⟨bk, ob, rfl, t, ht1, hc1⟩ := HTU.out.at hlt
            have q1 := hc1 wr HBR.out
            have hte : (t.toList == []) = false := by
              obtain ⟨l, hl, rfl⟩ := List.mem_map.1 (List.mem_of_getElem? ht1)
              rw [bs_list, beq_eq_false_iff_ne]
              exact HNE.out l hl
            clear hc1 ht1
            go_wp2_with fail
            go_roundw
            case rel => exact ⟨k + 1, by omega, by go_num, HBR⟩
            case measure => simp [intOf]; omega
          · have hki : ¬ (k : Int) < (un : Int) := by omega
            replace HS := Lib.hid (HS.out.kept HBR.out); replace HU := Lib.hid (HU.out.kept HBR.out); replace HB := Lib.hid (below_onto HB.out HBR.out); replace HTU := Lib.hid (HTU.out.kept HBR.out); replace HTF := Lib.hid (HTF.out.kept HBR.out); replace HTG := Lib.hid (HTG.out.kept HBR.out); replace HW := Lib.hid (HW.out.kept HBR.out)
            clear HBR hk hlt
            have hfam := (deskB_iff.1 HDY.out).1
            have hy0 : 0 < ys.length := (famL_len hfam).1
            have hyi : (0 : Int) < (ys.length : Int) := by omega
            obtain ⟨by0, oy0, hpe, _, hry⟩ := (HU.out.d.now).row hy0
            subst hpe
            have hc0 := hry 0 hy0
            simp only [Nat.add_zero] at hc0
            obtain ⟨hw1, hw2⟩ := own_line hfam
            obtain ⟨y, hy⟩ : ∃ y, ys.getD 0 0 = y := ⟨_, rfl⟩
            rw [hy] at hc0 hw1 hw2
            have HST := Lib.hid (fun W => specSetText_any y W)
            obtain ⟨tt, htt⟩ : ∃ tt, setT y = tt := ⟨_, rfl⟩
            have ht4 : tt.size ≤ 4 := by rw [← htt]; exact setL_len _
            rw [htt] at HST
            have hot := own_text y
            rw [htt] at hot
            have HOWN := Lib.hid (line_own (xs := ys) (ys := ys) (L := M) (M := M) (s := ownT tt) (tb := tt) (by have := own_size tt ht4; omega) (by rw [hot]; exact (li_ask (A := ansW) HDY.out hw1).1) (by rw [hot]; exact (li_ask (A := ansW) HDY.out hw1).2.1) (by rw [hot, (li_ask (A := ansW) HDY.out hw1).2.2, hw2]; exact htt))
            have hA1 := run_add_str { data := #[99, 111, 109, 109, 111, 110, 32] } tt (by show 7 + _ ≤ _; omega)
            have hA2 := run_add_str ({ data := #[99, 111, 109, 109, 111, 110, 32] } ++ tt) { data := #[32] } (by rw [ByteArray.size_append]; show 7 + _ + 1 ≤ _; omega)
            have hA3 := run_add_str ({ data := #[99, 111, 109, 109, 111, 110, 32] } ++ tt ++ { data := #[32] }) tt (by rw [ByteArray.size_append, ByteArray.size_append]; show 7 + _ + 1 + _ ≤ _; omega)
            obtain ⟨tx, htx⟩ : ∃ tx, ownT tt = tx := ⟨_, rfl⟩
            rw [htx] at HOWN
            rw [show ({ data := #[99, 111, 109, 109, 111, 110, 32] } ++ tt ++ { data := #[32] } ++ tt : ByteArray) = tx from htx] at hA3
            have ht0 := HU.out.blk.cell.1; have ht1 := HU.out.blk.cell.2
            clear hry hw1 hw2 hot htt htx hy
            go_wp2_with fail
            refine (HST.out _).mono ?_
            rintro e w12 ⟨rfl, rfl⟩
            clear ht0 ht1 hc0
            have hs0 := HS.out.blk.cell.1; have hs1 := HS.out.blk.cell.2
            go_wp2_with fail
            refine ((HOWN.out _ _ HS.out.d).1 (HT.out.below HB.out)).mono ?_
            rintro e w13 ⟨v7, v8, rfl, hg⟩
            obtain ⟨p7, e7, p8, e8, rfl, rfl, hd, hb⟩ := HKD.out.gives hg
            have hal := alloc_below w13 (.cells #[.slice p7 ys.length e7, .slice p8 M.length e8] 31)
            replace hb := below_onto hb hal
            replace HS := Lib.hid (HS.out.kept hb); replace HB := Lib.hid (below_onto HB.out hb); replace HTU := Lib.hid (HTU.out.kept hb); replace HTF := Lib.hid (HTF.out.kept hb); replace HTG := Lib.hid (HTG.out.kept hb); replace HW := Lib.hid (HW.out.kept hb)
            obtain ⟨w14, hw14⟩ : ∃ w14, w13.alloc (.cells #[.slice p7 ys.length e7, .slice p8 M.length e8] 31) = w14 := ⟨_, rfl⟩
            rw [hw14] at HS HB HTU HTF HTG HW
            clear hg hd hb hal hs0 hs1 hA1 hA2 hA3 HU
            have hs0 := HS.out.blk.cell.1; have hs1 := HS.out.blk.cell.2; have hx0 := HW.out.blk.cell.1; have hx1 := HW.out.blk.cell.2
            go_wp2_with fail
            clear hw14
            refine (HKD.out.nine.same _ _ _ HW.out.d HS.out.d).mono ?_
            rintro e w15 ⟨rfl, hb⟩
            replace HB := Lib.hid (below_onto HB.out hb); replace HTU := Lib.hid (HTU.out.kept hb); replace HTF := Lib.hid (HTF.out.kept hb); replace HTG := Lib.hid (HTG.out.kept hb)
            clear hb hs0 hs1 hx0 hx1 HW HS
            have qm := alloc_below w15 (.cells #[] 9)
            have HOM := Lib.hid (OwnS.made w15 w15.heap.size (Nat.le_refl _))
            have HB15 := Lib.hid qm
            have HSZ := Lib.hid qm.size
            obtain ⟨Bm, hBm⟩ : ∃ Bm, w15.heap.size = Bm := ⟨_, rfl⟩
            obtain ⟨w16, hw16⟩ : ∃ w16, w15.alloc (.cells #[] 9) = w16 := ⟨_, rfl⟩
            rw [hw16] at HOM HB15 HSZ
            rw [hBm] at HOM HSZ
            clear qm
            have hl1 := HL1.out; have hl2 := HL2.out
            have hee : ((un : Int) == (dn : Int)) = true := by rw [HUD.out]; simp
            have htq : (tt.toList == tt.toList) = true := by simp
            have HN1 := Lib.hid (show 0 + u1.length ≤ 1000 by omega)
            have HT15 := Lib.hid (show TxsIn w16 pf u1.length (u1.map bs) from HTF.out.kept HB15.out)
            go_wp2_with (at_builtin; go_must (refine append_txs (.tmp 115) (.tmp 116) rfl (by first | rfl | simp [Region.wanted, yielded]) Bm (.slice (some ⟨Bm, 0, none⟩) 0 0) [] (u1.map bs) pf u1.length cf 0 rfl w16 rfl rfl HOM.out HT15.out HDF.out HN1.out HSZ.out ?_))
            intro v9 w17 ho9 hb9
            clear hw16
            have HB17 := Lib.hid (show Below w15.heap.size w15 w17 from HB15.out.trans (by rw [hBm]; exact hb9))
            have HO9 := Lib.hid ho9
            have HT17 := Lib.hid (HTG.out.kept HB17.out)
            have HN2 := Lib.hid (show u1.length + uz.length ≤ 1000 by omega)
            have HSZ17 := Lib.hid (show Bm ≤ w17.heap.size by have := hb9.size; have := HSZ.out; omega)
            clear ho9 hb9 HOM HT15
            go_wp2_with (at_builtin; go_must (refine append_txs (.tmp 117) (.tmp 118) rfl (by first | rfl | simp [Region.wanted, yielded]) Bm v9 (u1.map bs) (uz.map bs) pg uz.length cg u1.length (List.length_map ..) w17 rfl rfl HO9.out HT17.out HDG.out HN2.out HSZ17.out ?_))
            intro v10 w18 ho10 hb10
            replace ho10 : OwnS w18 Bm v10 (us.map bs) := by rw [← HG3.out, List.map_append]; exact ho10
            have HB18 := Lib.hid (show Below w15.heap.size w15 w18 from HB17.out.trans (by rw [hBm]; exact hb10))
            obtain ⟨pz, cz, rfl, _, htz, _⟩ := ho10.slc (by rw [List.length_map, HUN.out]; omega)
            rw [List.length_map, HUN.out] at htz ⊢
            have HTZ := Lib.hid htz
            have HTY := Lib.hid (HTU.out.kept HB18.out)
            clear ho10 hb10 htz HO9 HT17 HSZ17
            go_wp2_with fail
            refine (sameTexts_any pz pu (us.map bs) cz cu un _ HTZ.out HTY.out).mono ?_
            rintro e w19 ⟨rfl, hb⟩
            have HBZ := Lib.hid (below_onto HB.out (below_onto HB18.out hb))
            clear hb
            go_wp2_with fail
            go_ret
            exact ⟨rfl, HBZ.out⟩
theorem bytes_of {w : World} {a : Option Addr} {len cap : Nat} {zs : List Int} (h : (a = none ∧ len = 0 ∧ cap = 0 ∧ zs = []) ∨
    ∃ x, a = some x ∧ len ≤ cap ∧ cap ≤ maxLen ∧ zs.length = cap ∧ (∀ i, i < zs.length → w.cell? (x.add i) = some (.int .u8 (zs.getD i 0))) ∧ ∀ n ∈ zs, (Lit.int .u8 n).wf = true) :
    BytesIn w a len cap := by
  rcases h with ⟨rfl, rfl, rfl, rfl⟩ | ⟨x, rfl, hl, hm, hz, hc, hwf⟩
  · exact ⟨Nat.le_refl _, by omega, .inl rfl⟩
  · unfold maxLen at hm
    refine ⟨hl, by omega, ?_⟩
    by_cases h0 : len = 0
    · exact .inl h0
    · right
      obtain ⟨b, o, rfl, hcell⟩ := ints_at hc (by omega)
      have h1 := hcell 0 (by omega)
      refine ⟨b, o, fun i => zs.getD i 0, rfl, World.block_lt_of_cell? w _ h1, fun i hi => ⟨hcell i (by omega), ?_⟩⟩
      have hm2 : zs.getD i 0 ∈ zs := by
        rw [List.getD_eq_getElem?_getD, List.getElem?_eq_getElem (by omega : i < zs.length)]
        exact List.getElem_mem _
      exact bounds_u8 (hwf _ hm2)
end Go.Proofs.YthaickihoagnmaaGreatDoor
namespace Go.Proofs.YthaickihoagnmaaGreatDoor
open Go.ChangeShapes Go.WideShapes Go.ChangeAt Go.RowKit
def laidTabs : List (String × DataW Unit) := [("math/bits.deBruijn32tab", Rows.laid_math_bits_deBruijn32tab), ("math/bits.deBruijn64tab", Rows.laid_math_bits_deBruijn64tab)]
theorem gTab : Tryz.prog.globalNamed "math/bits.deBruijn64tab" = some 2 := by kernel_rfl
theorem tTab : (Tryz.prog.globals[2]?).map (·.type) = some 245 := by kernel_rfl
theorem tab_of {W : World} (h : laidMetH Tryz.prog laidTabs W) : TabW W := by
  rw [MakeChecks.laidMetH_plain _ _ _ (by kernel_rfl)] at h
  have hT := Lib.tabIs_of_head (k := .u8) (zs := Lib.deBruijn64tab.map (fun (n : Nat) => (n : Int))) gTab tTab Tryz.underlying245 Tryz.underlying5 (by kernel_rfl) (by kernel_rfl) h.tail
  intro j hj
  have := hT.cell gTab j (by simpa using hj)
  rw [this]
  congr 2
  simp [List.getD, List.getElem?_map, List.getElem?_eq_getElem hj]
theorem door_met (os : Os) (args : Array Value) : laidMetH Tryz.prog laidTabs ((World.doorLaid Tryz.prog 19 os).forCall (fun _ _ => 0) ⟨#[], args, []⟩).memory :=
  laidMetH_of_parts3 (fuel := 8) (laidMet_of_run' 8 (by kernel_rfl) (by kernel_rfl)) (by kernel_rfl) (by kernel_rfl)
end Go.Proofs.YthaickihoagnmaaGreatDoor
