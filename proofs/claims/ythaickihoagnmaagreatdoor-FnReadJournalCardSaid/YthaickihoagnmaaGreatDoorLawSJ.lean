import Derived.Test.YthaickihoagnmaaGreatDoorTxAI
import Derived.Test.YthaickihoagnmaaGreatDoorSayA
import Derived.Test.YthaickihoagnmaaGreatDoorDkNine
namespace Go.Proofs.YthaickihoagnmaaGreatDoor
set_option linter.unusedVariables false
set_option linter.unusedSimpArgs false
open Go.RowKit Go.Maps

theorem deed_I64 {k x : Int} (h : dOk k x = true) : I64 k ∧ I64 x := by
  rcases dOk_iff.1 h with h | h <;> (unfold I64; omega)
theorem IsRj.i64 {l : List UInt8} {ds : List (Int × Int)} (h : IsRj l ds) : I64D ds := fun d hd => by
  have := h.ok
  unfold jtB at this
  exact deed_I64 (List.all_eq_true.1 this d hd)
/-- as many deeds as bytes at most -/
theorem jtR_many (ds : List (Int × Int)) : ds.length ≤ (jtR ds).length := by
  induction ds with
  | nil => exact Nat.le_refl _
  | cons d ds ih =>
    rw [jtR_cons, List.length_append, List.length_cons, List.length_cons]
    omega
theorem OwnD.slc9 {w : World} {B : Nat} {v : Value} {ds : List (Int × Int)} (h : OwnD w B v ds) (h64 : I64D ds) (hl : ds.length ≤ 1048576) :
    ∃ p cp, v = .slice p ds.length cp ∧ DAd p cp ds.length ∧ Dds w p ds := by
  by_cases h0 : ds.length = 0
  · rcases h.2 with ⟨h1, h2⟩ | ⟨g, cap, cur, hv, hBg, hg, hc, _⟩
    · exact ⟨none, 0, by rw [h0]; exact h1, ⟨by omega, .inl ⟨rfl, rfl⟩⟩, ⟨⟨by omega, h64⟩, .inl h0⟩⟩
    · exact ⟨some ⟨g, 0, none⟩, cap, hv, ⟨hc, .inr ⟨g, rfl⟩⟩, ⟨⟨by omega, h64⟩, .inl h0⟩⟩
  · obtain ⟨g, c, rfl, hB, hlt, hc, hr⟩ := h.row (by omega)
    exact ⟨some ⟨g, 0, none⟩, c, rfl, ⟨hc, .inr ⟨g, rfl⟩⟩, ⟨⟨by omega, h64⟩, .inr ⟨g, 0, rfl, hlt, hr⟩⟩⟩
theorem BytesIn.below {w w' : World} {a : Option Addr} {n cap : Nat} (h : BytesIn w a n cap) (hal : Below w.heap.size w w') : BytesIn w' a n cap := by
  obtain ⟨hnc, hc, hby⟩ := h
  refine ⟨hnc, hc, ?_⟩
  rcases hby with h0 | ⟨b, o, g, ha, hb, hg⟩
  · exact .inl h0
  · exact .inr ⟨b, o, g, ha, Nat.lt_of_lt_of_le hb hal.size, fun i hi => ⟨(hal.cell (p := ⟨b, o + i, none⟩) hb).trans (hg i hi).1, (hg i hi).2⟩⟩

theorem neDeedV (p q : Int) (w : World) : (binOp .neq 39 (.agg #[.int .i64 p, .int .i64 q]) (.agg #[.int .i64 p, .int .i64 q])).run Tryz.prog w = .ok (.bool false) w := by
  have u3 := Tryz.underlying3
  have hS : Tryz.prog.underlying 39 = some (.struct (Tryz.prog.fieldsOf 39)) := by kernel_rfl
  have hp : Tryz.prog.stoodInHeld 39 = false := by kernel_rfl
  rw [run_neq_struct, show (10000 : Nat) = 9999 + 1 from rfl, run_equalIn_agg w 9999 39 _ _ hS hp]
  simp only [Program.fieldsOf, Tryz.underlying39]
  go_simp
  try simp

set_option maxRecDepth 100000 in
set_option maxHeartbeats 1600000 in
theorem sameDeeds2_any (a1 a2 : Option Addr) (ds : List (Int × Int)) (c1 c2 n : Nat) (hdn : ds.length = n) (hn : n ≤ 1048576) (w : World) (h1 : Dds w a1 ds) (h2 : Dds w a2 ds) :
    Calls Tryz.prog 11 #[.slice a1 n c1, .slice a2 n c2] w fun e w' => e = .returned (.bool true) ∧ Below w.heap.size w w' := by
  have H1 := Lib.hid h1; have H2 := Lib.hid h2; clear h1 h2
  have hnn : ((n : Int) != (n : Int)) = false := by simp
  have HN := Lib.hid hdn
  clear hdn
  go_enter Tryz.func11, Tryz.ntmps11
  go_wp2_with fail
  go_loopw [5] (fun i wr => ∃ k : Nat, k ≤ n ∧ i = .int .i64 k ∧ Hid (Below w.heap.size w wr)) (fun i _ => n - (intOf i).toNat)
  case atStart => exact ⟨0, Nat.zero_le _, rfl, Lib.hid (Below.refl _ _)⟩
  case round =>
    obtain ⟨k, hk, rfl, HB⟩ := hrel
    by_cases hlt : k < n
    · have hki : (k : Int) < (n : Int) := by omega
      have hk0 : (0 : Int) ≤ (k : Int) := by omega
      have hkl : k < ds.length := by rw [HN.out]; exact hlt
      obtain ⟨b1, o1, rfl, hbl1, hr1⟩ := H1.out.row (by omega)
      obtain ⟨b2, o2, rfl, hbl2, hr2⟩ := H2.out.row (by omega)
      have q1 := hr1.kept HB.out hbl1 k hkl
      have q2 := hr2.kept HB.out hbl2 k hkl
      obtain ⟨dk, hdk⟩ : ∃ dk, ds[k] = dk := ⟨_, rfl⟩
      rw [hdk] at q1 q2
      obtain ⟨kk, xx⟩ := dk
      dsimp only at q1 q2
      obtain ⟨hc0, hc1⟩ := q1
      obtain ⟨hd0, hd1⟩ := q2
      have hne := fun w => neDeedV kk xx w
      clear hr1 hr2 hbl1 hbl2 hdk hkl
      go_wp2_with fail
      go_quiet (fail)
      all_goals
        go_wp2_with fail
        go_roundw
        case rel => exact ⟨k + 1, by omega, by go_num, Lib.hid (by first | exact HB.out | exact HB.out.drew | exact below_drewN HB.out _)⟩
        case measure => simp [intOf]; omega
    · have hki : ¬ (k : Int) < (n : Int) := by omega
      go_wp2_with fail
      go_ret
      exact ⟨rfl, HB.out⟩

/-- what the statement leaves that says a line: the desk behind it lies in a variable -/
def CutT (w : World) (ys : List Int) (M : List (List Int)) (tb : ByteArray) (s1 s2 : Value) (wx : World) : Prop :=
  ∃ b T v1 v2 rs, s1 = .pointer (some ⟨b, 0, none⟩) ∧ s2 = .string tb ∧ DeskV wx w.heap.size T b v1 v2 ys rs ∧ rs.map Fr.xs = M ∧ T ≤ wx.heap.size ∧ Below w.heap.size w wx
theorem cutT_last {w w8 w9 : World} {v1 v2 : Value} {ys : List Int} {M : List (List Int)} {tb : ByteArray} (h : GivesD ys M w8 w9 v1 v2) (hb : Below w.heap.size w w9) (hs : w.heap.size ≤ w8.heap.size) :
    CutT w ys M tb (.pointer (some ⟨w9.heap.size, 0, none⟩)) (.string tb) (w9.alloc (.cells #[v1, v2] 31)) := by
  obtain ⟨rs, hv, hr⟩ := deskV_of h
  exact ⟨_, _, _, _, rs, rfl, rfl, hv.base hs, hr, by rw [alloc_size]; exact Nat.le_refl _, hb.alloc hb.size _⟩
theorem cutT_set {w w8 w9 : World} {b : Nat} {v1 v2 : Value} {ys : List Int} {M : List (List Int)} {tb : ByteArray} (h : GivesD ys M w8 w9 v1 v2) (hz : Blk2 w9 b 31 (.slice none 0 0) (.slice none 0 0)) (hl : b < w8.heap.size) (hb : Below w.heap.size w w9) (hwb : w.heap.size ≤ b) :
    CutT w ys M tb (.pointer (some ⟨b, 0, none⟩)) (.string tb) ((w9.setCell ⟨b, 0, none⟩ v1).setCell ⟨b, 1, none⟩ v2) := by
  obtain ⟨rs, hg, hrs, hb2⟩ := h
  have hsz : ((w9.setCell ⟨b, 0, none⟩ v1).setCell ⟨b, 1, none⟩ v2).heap.size = w9.heap.size := by simp [World.setCell]
  exact ⟨b, w9.heap.size, _, _, rs, rfl, rfl, ⟨(hz.set0 v1).set1 v2, ((hg.put (p := ⟨b, 0, none⟩) hl).put (p := ⟨b, 1, none⟩) hl).base (by omega), fun e => by have := (hg.ltB _ e).1; omega, hwb, hz.lt, fun q hq => (hg.ltB q hq).2⟩, hrs, by rw [hsz]; exact Nat.le_refl _, (hb.setCell (p := ⟨b, 0, none⟩) hwb _).setCell (p := ⟨b, 1, none⟩) hwb _⟩
/-- it is laid into an older variable -/
theorem now_put {w11 wx : World} {N b T : Nat} {v1 v2 x y : Value} {ys : List Int} {M : List (List Int)} {rs : List Fr} (hk : okD ys M) (h : DeskV wx w11.heap.size T b v1 v2 ys rs) (hr : rs.map Fr.xs = M) (hN : Blk2 wx N 31 x y) (hl : N < w11.heap.size) :
    ∃ a c b' c2, v1 = .slice a ys.length c ∧ v2 = .slice b' M.length c2 ∧ VarD ((wx.setCell ⟨N, 0, none⟩ v1).setCell ⟨N, 1, none⟩ v2) N a b' c c2 ys M := by
  obtain ⟨a, c, rfl⟩ := h.g.now.slice
  obtain ⟨b', c2, e⟩ := h.g.past.seq.slice
  rw [List.length_map] at e
  have hM : rs.length = M.length := by rw [← hr, List.length_map]
  rw [hM] at e
  subst e
  exact ⟨a, c, b', c2, rfl, rfl, ⟨(hN.set0 _).set1 _, hk.nine.read ((h.g.put (p := ⟨N, 0, none⟩) hl).put (p := ⟨N, 1, none⟩) hl) hr⟩⟩
theorem drr_okD (xs : List Int) (L : List (List Int)) (ds : List (Int × Int)) : okD (drX xs L ds) (drL xs L ds) := by
  cases h : drB xs L ds with
  | true =>
    obtain ⟨e1, e2, _⟩ := dr_yes h
    rw [e1, e2]
    unfold drB at h
    rw [Bool.and_eq_true] at h
    exact run_okD h.1 ds
  | false =>
    obtain ⟨e1, e2, _⟩ := dr_no h
    rw [e1, e2]
    exact okD_nil
theorem dk_okD2 {xs : List Int} {L : List (List Int)} {k x : Int} (h : deskB xs L = true) : okD (dkX xs L k x) (dkL xs L k x) := okD_desk (dk_desk h)

set_option maxRecDepth 100000 in
set_option maxHeartbeats 12800000 in
theorem lawReadJournal (a a' : Option Addr) (n n' cap cap' : Nat) (w : World) (h : BytesIn w a n cap) (h' : BytesIn w a' n' cap') :
    Calls Tryz.prog 3 #[.slice a n cap, .slice a' n' cap'] w (TrueEnd w) := by
  have hlen := h.len; have hlen' := h'.len
  have H := Lib.hid h; have H' := Lib.hid h'; clear h h'
  by_cases hn : 1048576 < n
  · go_enter Tryz.func3, Tryz.ntmps3
    go_wp2_with fail
    go_ret
    exact ⟨rfl, Below.refl _ _⟩
  by_cases hn' : 1048576 < n'
  · go_enter Tryz.func3, Tryz.ntmps3
    go_wp2_with fail
    go_ret
    exact ⟨rfl, Below.refl _ _⟩
  go_enter Tryz.func3, Tryz.ntmps3
  go_wp2_with fail
  refine (DrawReadJournal_any _ _ _ _ H.out).mono ?_
  rintro e w1 ⟨s, rfl, hs, hb⟩
  have HB := Lib.hid hb
  clear hb H
  go_wp2_with fail
  refine (ReadJournal_any s (by omega) _).mono ?_
  rintro e w2 ⟨v, ds, rfl, hrj, hown, hb⟩
  obtain ⟨hmany, htext⟩ := hrj.text
  have hdl := jtR_many ds
  obtain ⟨p, cp, rfl, hda, hdd⟩ := hown.slc9 hrj.i64 (by omega)
  have HRJ := Lib.hid hrj; have HDA := Lib.hid hda; have HDD := Lib.hid hdd; have HTX := Lib.hid htext
  replace HB := Lib.hid (below_onto HB.out hb)
  obtain ⟨m, hm⟩ : ∃ m, (jtR ds).length = m := ⟨_, rfl⟩
  obtain ⟨nd, hnd⟩ : ∃ nd, ds.length = nd := ⟨_, rfl⟩
  have HM := Lib.hid hm; have HND := Lib.hid hnd
  rw [hm] at hmany hdl HTX ⊢
  rw [hnd] at hdl HDA ⊢
  clear hb hown hda hdd hrj hm hnd htext
  go_wp2_with fail
  refine (specReadJournal_any s (by omega) _).mono ?_
  rintro e w3 ⟨v, es, rfl, hrj, hown, hb⟩
  have hes : es = ds := hrj.uniq HRJ.out
  rw [hes] at hown hrj ⊢
  obtain ⟨p2, cp2, rfl, _, hdd⟩ := hown.slc9 hrj.i64 (by rw [HND.out]; omega)
  rw [HM.out, HND.out]
  have HDW := Lib.hid hdd
  replace HDD := Lib.hid (HDD.out.kept hb); replace HB := Lib.hid (below_onto HB.out hb)
  clear hes hb hown hrj hdd
  go_wp2_with fail
  refine (sameDeeds2_any p p2 ds cp cp2 nd HND.out (by omega) _ HDD.out HDW.out).mono ?_
  rintro e w4 ⟨rfl, hb⟩
  replace HDD := Lib.hid (HDD.out.kept hb); replace HB := Lib.hid (below_onto HB.out hb)
  have hne : ((m : Int) != (m : Int)) = false := by simp
  clear hb HDW
  go_wp2_with fail
  clear hne
  have HB4 := Lib.hid (Below.refl w4.heap.size w4)
  obtain ⟨sz, hsz⟩ : ∃ sz, s.size = sz := ⟨_, rfl⟩
  have HSZ := Lib.hid hsz
  rw [hsz] at hmany hs
  go_loopw [10, 11, 12] (fun i _ _ wr => ∃ k : Nat, k ≤ sz + 1 ∧ i = .int .i64 k ∧ Hid (Below w4.heap.size w4 wr)) (fun i _ _ _ => sz + 1 - (intOf i).toNat)
  case atStart => exact ⟨0, Nat.zero_le _, rfl, HB4⟩
  case round =>
    clear HB4
    obtain ⟨k, hk, rfl, HBR⟩ := hrel
    by_cases hlt : k ≤ sz
    · have hki : (k : Int) ≤ (sz : Int) := by omega
      have hks : k ≤ s.size := by rw [hsz]; exact hlt
      have hki2 : decide ((k : Int) ≤ (s.size : Int)) = true := decide_eq_true (by omega)
      have hsl := fun W => headSl2 s k hks W
      have hhl := head_list s k
      have hts : (s.extract 0 k).size ≤ 100 := by rw [ByteArray.size_extract]; omega
      obtain ⟨t, ht⟩ : ∃ t, s.extract 0 k = t := ⟨_, rfl⟩
      rw [ht] at hsl hhl hts
      have HHL := Lib.hid hhl
      clear ht hhl hks
      go_wp2_with fail
      refine (ReadJournal_any t (by omega) _).mono ?_
      rintro e w5 ⟨v, es, rfl, hrj, hown, hb⟩
      rw [HHL.out] at hrj
      obtain ⟨f1, f2, f3⟩ := HRJ.out.head hrj
      rw [HND.out] at f2
      obtain ⟨q, cq, rfl, _, hdq⟩ := hown.slc9 hrj.i64 (by omega)
      have hdt := (HDD.out.kept HBR.out).kept hb
      have hcut := fun W => dcut p cp nd es.length HDA.out f2 W
      obtain ⟨ne, hnee⟩ : ∃ ne, es.length = ne := ⟨_, rfl⟩
      obtain ⟨mm, hmm⟩ : ∃ mm, (jtR es).length = mm := ⟨_, rfl⟩
      have hdt2 := hdt.take es.length
      rw [f1] at hdt2
      have HSD := Lib.hid (sameDeeds2_any q p es cq cp ne hnee (by omega) w5 hdq hdt2)
      rw [hnee] at f2 hcut ⊢
      rw [hmm] at f3 ⊢
      have HB5 := Lib.hid (below_onto HBR.out hb)
      clear hrj hown hb f1 hdq hdt hdt2 hnee hmm hsl
      have hgt : decide ((nd : Int) < (ne : Int)) = false := decide_eq_false (by omega)
      have hgt2 : decide (nd < ne) = false := decide_eq_false (by omega)
      have hmin : min (ne : Int) (nd : Int) = (ne : Int) := by omega
      have hgk : decide ((k : Int) < (mm : Int)) = false := decide_eq_false (by omega)
      have hgk2 : decide (k < mm) = false := decide_eq_false (by omega)
      go_wp2_with fail
      refine HSD.out.mono ?_
      rintro e w6 ⟨rfl, hb⟩
      replace HB5 := Lib.hid (below_onto HB5.out hb)
      clear hb
      go_wp2_with fail
      go_roundw
      case rel => exact ⟨k + 1, by omega, by go_num, HB5⟩
      case measure => simp [intOf]; omega
    · have hki2 : decide ((k : Int) ≤ (s.size : Int)) = false := decide_eq_false (by omega)
      have hki : ¬ (k : Int) ≤ (sz : Int) := by omega
      replace HB := Lib.hid (below_onto HB.out HBR.out)
      replace HDD := Lib.hid (HDD.out.kept HBR.out)
      have H'W := Lib.hid (H'.out.below HB.out)
      clear hk HBR H'
      go_wp2_with fail
      refine (DrawDeskRun_any _ _ _ _ H'W.out).mono ?_
      rintro e w7 ⟨p1, e1, p3, e3, xs, L, p4, c4, ds4, rfl, hd, hk9, _, _, _, hb⟩
      have hal := alloc_below w7 (.cells #[.slice p1 xs.length e1, .slice p3 L.length e3] 31)
      have HV := Lib.hid (VarD.new hd)
      replace hb := below_onto hb hal
      replace HDD := Lib.hid (HDD.out.kept hb); replace HB := Lib.hid (below_onto HB.out hb)
      obtain ⟨w8, hw8⟩ : ∃ w8, w7.alloc (.cells #[.slice p1 xs.length e1, .slice p3 L.length e3] 31) = w8 := ⟨_, rfl⟩
      obtain ⟨D, hD⟩ : ∃ D, w7.heap.size = D := ⟨_, rfl⟩
      rw [hw8] at HV HB HDD
      rw [hD] at HV
      have hv0 := HV.out.blk.cell.1; have hv1 := HV.out.blk.cell.2
      have hal2 := alloc_below w8 (.cells #[.slice p1 xs.length e1, .slice p3 L.length e3] 31)
      have HN := Lib.hid (VarD.new HV.out.d)
      have HB8 := Lib.hid hal2
      have HNW := Lib.hid (show w8.heap.size ≤ w8.heap.size from Nat.le_refl _)
      obtain ⟨w9, hw9⟩ : ∃ w9, w8.alloc (.cells #[.slice p1 xs.length e1, .slice p3 L.length e3] 31) = w9 := ⟨_, rfl⟩
      obtain ⟨N, hN⟩ : ∃ N, w8.heap.size = N := ⟨_, rfl⟩
      rw [hw9] at HN HB8
      rw [hN] at HN
      have HNN := Lib.hid hN
      clear hd hb hal hal2 H'W
      go_wp2_with fail
      clear hw8 hD hw9 hN hv0 hv1
      have HINV0 := Lib.hid (show deskB xs L = true → xs = (runD xs L (ds.take 0)).1 ∧ L = (runD xs L (ds.take 0)).2.1 from fun _ => ⟨rfl, rfl⟩)
      go_loopw [16, 17, 18] (fun i _ _ wr => ∃ (k : Nat) (na nb : Option Addr) (nc nc2 : Nat) (ys : List Int) (M : List (List Int)), k ≤ nd ∧ i = .int .i64 k ∧ Hid (VarD wr N na nb nc nc2 ys M) ∧ Hid (Below w8.heap.size w8 wr) ∧ Hid (deskB xs L = true → ys = (runD xs L (ds.take k)).1 ∧ M = (runD xs L (ds.take k)).2.1)) (fun i _ _ _ => nd - (intOf i).toNat)
      case atStart => exact ⟨0, p1, p3, e1, e3, xs, L, Nat.zero_le _, rfl, HN, HB8, HINV0⟩
      case round =>
        clear HN HB8 HINV0
        obtain ⟨k, na, nb, nc, nc2, ys, M, hk, rfl, HNR, HBR, HINV⟩ := hrel
        have HVR := Lib.hid (HV.out.kept HBR.out)
        by_cases hlt : k < nd
        · have hki : (k : Int) < (nd : Int) := by omega
          have hk0 : (0 : Int) ≤ (k : Int) := by omega
          have hkd : decide ((k : Int) < (nd : Int)) = true := decide_eq_true hki
          have hkd2 : decide (k < nd) = true := decide_eq_true hlt
          have hv0 := HVR.out.blk.cell.1; have hv1 := HVR.out.blk.cell.2
          go_wp2_with fail
          refine (specDeskOk_any _ xs L _ HVR.out.d).mono ?_
          rintro e w11 ⟨rfl, hb⟩
          have hbb := below_onto HBR.out hb
          cases hdk : deskB xs L with
          | false =>
            have HDK := Lib.hid hdk
            have HVT := Lib.hid (HVR.out.kept hb)
            have HBT := Lib.hid (below_onto HB.out hbb)
            have HDDT := Lib.hid (HDD.out.kept hbb)
            obtain ⟨wt, hwt⟩ : ∃ wt, wt = w11 := ⟨_, rfl⟩
            subst hwt
            clear hb hbb hdk hv0 hv1 HNR HBR HINV hk hlt hki hk0 hkd hkd2
            obtain ⟨g1, g2, _⟩ := dr_no (show drB xs L ds = false by unfold drB; rw [HDK.out]; rfl)
            have hkd := drr_okD xs L ds
            have HRUN := Lib.hid (DeskRun_any _ xs L p ds cp wt HVT.out.d HDDT.out)
            rw [HND.out] at HRUN
            obtain ⟨zs, hzs⟩ : ∃ zs, drX xs L ds = zs := ⟨_, rfl⟩
            obtain ⟨ZL, hZL⟩ : ∃ ZL, drL xs L ds = ZL := ⟨_, rfl⟩
            obtain ⟨zn, hzn⟩ : ∃ zn, drN xs L ds = zn := ⟨_, rfl⟩
            rw [hzs, hZL] at hkd
            rw [hzs, hZL, hzn] at HRUN
            rw [hzs] at g1
            rw [hZL] at g2
            have HKD := Lib.hid hkd
            clear hkd hzs hZL hzn g1 g2
            have hv0 := HVT.out.blk.cell.1; have hv1 := HVT.out.blk.cell.2
            go_wp2_with fail
            refine HRUN.out.mono ?_
            rintro e w14 ⟨v3, v4, rfl, hg⟩
            obtain ⟨z1, y1, z2, y2, rfl, rfl, hde, hb⟩ := HKD.out.gives hg
            have hal := alloc_below w14 (.cells #[.slice z1 zs.length y1, .slice z2 ZL.length y2] 31)
            have HE := Lib.hid (VarD.new hde)
            replace hb := below_onto hb hal
            have HV15 := Lib.hid (HVT.out.kept hb); have HDD15 := Lib.hid (HDDT.out.kept hb); have HB15 := Lib.hid (below_onto HBT.out hb)
            obtain ⟨w15, hw15⟩ : ∃ w15, w14.alloc (.cells #[.slice z1 zs.length y1, .slice z2 ZL.length y2] 31) = w15 := ⟨_, rfl⟩
            obtain ⟨E, hE⟩ : ∃ E, w14.heap.size = E := ⟨_, rfl⟩
            rw [hw15] at HE HV15 HDD15 HB15
            rw [hE] at HE
            have hvs0 := HV15.out.blk.cell.1; have hvs1 := HV15.out.blk.cell.2
            clear hg hde hb hal hv0 hv1
            obtain ⟨tt, htt⟩ : ∃ tt, bs (jtL ds) = tt := ⟨_, rfl⟩
            have htx := HTX.out
            rw [htt] at htx
            have HSL := Lib.hid (fun W => headSl2 s m (by rw [HSZ.out]; exact hmany) W)
            rw [← htx] at HSL
            have hsl := HSL.out
            have HJT := Lib.hid (show ∀ W, Below w15.heap.size w15 W → Calls Tryz.prog 17 #[.slice p nd cp] W fun e w' => e = .returned (.string tt) ∧ Below W.heap.size W w' from fun W hW => by
              have := JournalText_any p ds cp (by rw [HND.out]; omega) W (HDD15.out.kept hW)
              rw [HND.out, htt] at this
              exact this)
            have hle : decide ((m : Int) ≤ (s.size : Int)) = true := decide_eq_true (by rw [HSZ.out]; omega)
            have hle2 : decide (m ≤ s.size) = true := decide_eq_true (by rw [HSZ.out]; omega)
            have heq : (tt.toList == tt.toList) = true := by simp
            have HKS := Lib.hid (show ∀ W, Below w15.heap.size w15 W → (W.cell? ⟨D, 0, none⟩ = some (.slice p1 xs.length e1) ∧ W.cell? ⟨D, 1, none⟩ = some (.slice p3 L.length e3)) from fun W hW => (HV15.out.kept hW).blk.cell)
            clear htt htx
            go_upto_region 24 with fail
            clear hw15 hE hvs0 hvs1
            have HB6 := Lib.hid (Below.refl w15.heap.size w15)
            refine wp_region_noPanic ?_
            refine wp_region_held_drew (S := (fun W => W.cell? ⟨D, 0, none⟩ = some (.slice p1 xs.length e1) ∧ W.cell? ⟨D, 1, none⟩ = some (.slice p3 L.length e3))) (by kernel_rfl) ?_ (fun hHeld => ?_)
            · first | exact HKS.out _ HB6.out | exact HKS.out _ HB6.out.drew | exact HKS.out _ (below_drewN HB6.out _)
            refine wpAnyH_take (i := 0) (v := ?_) rfl (by kernel_rfl) (by kernel_rfl) (by kernel_rfl) (fun _ _ _ h => h) (Or.inl ⟨by rfl, ?_⟩) (by assumption) ?_
            rotate_left
            · ((intro w hSw; (try dsimp only at hSw); go_simp) <;> with_reducible rfl)
            try simp only [Act.put, List.setIfInBounds_toArray, List.set_cons_zero, List.set_cons_succ, List.getElem_toArray, List.getElem_cons_zero]
            refine wpAnyH_take (i := 1) (v := ?_) rfl (by kernel_rfl) (by kernel_rfl) (by kernel_rfl) (fun _ _ _ h => h) (Or.inl ⟨by rfl, ?_⟩) (by assumption) ?_
            rotate_left
            · ((intro w hSw; (try dsimp only at hSw); go_simp) <;> with_reducible rfl)
            try simp only [Act.put, List.setIfInBounds_toArray, List.set_cons_zero, List.set_cons_succ, List.getElem_toArray, List.getElem_cons_succ, List.getElem_cons_zero]
            refine wpAnyH_take (i := 2) (v := ?_) rfl (by kernel_rfl) (by kernel_rfl) (by kernel_rfl) (fun _ _ _ h => h) (Or.inl ⟨by rfl, ?_⟩) (by assumption) ?_
            rotate_left
            · ((intro w hSw; (try dsimp only at hSw); go_simp) <;> with_reducible rfl)
            try simp only [Act.put, List.setIfInBounds_toArray, List.set_cons_zero, List.set_cons_succ, List.getElem_toArray, List.getElem_cons_succ, List.getElem_cons_zero]
            refine wpAnyH_take (i := 3) (v := ?_) rfl (by kernel_rfl) (by kernel_rfl) (by kernel_rfl) (fun _ _ _ h => h) (Or.inl ⟨by rfl, ?_⟩) (by assumption) ?_
            rotate_left
            · ((intro w hSw; (try dsimp only at hSw); go_simp) <;> with_reducible rfl)
            try simp only [Act.put, List.setIfInBounds_toArray, List.set_cons_zero, List.set_cons_succ, List.getElem_toArray, List.getElem_cons_succ, List.getElem_cons_zero]
            refine wpAnyH_take (i := 4) (v := ?_) rfl (by kernel_rfl) (by kernel_rfl) (by kernel_rfl) (fun _ _ _ h => h) (Or.inl ⟨by rfl, ?_⟩) (by assumption) ?_
            rotate_left
            · ((intro w hSw; (try dsimp only at hSw); go_simp) <;> with_reducible rfl)
            try simp only [Act.put, List.setIfInBounds_toArray, List.set_cons_zero, List.set_cons_succ, List.getElem_toArray, List.getElem_cons_succ, List.getElem_cons_zero]
            refine wpAnyH_take (i := 5) (v := ?_) rfl (by kernel_rfl) (by kernel_rfl) (by kernel_rfl) (fun _ _ _ h => h) (Or.inl ⟨by rfl, ?_⟩) (by assumption) ?_
            rotate_left
            · ((intro w hSw; (try dsimp only at hSw); go_simp) <;> with_reducible rfl)
            try simp only [Act.put, List.setIfInBounds_toArray, List.set_cons_zero, List.set_cons_succ, List.getElem_toArray, List.getElem_cons_succ, List.getElem_cons_zero]
            refine wpAnyH_take (i := 7) (v := ?_) rfl (by kernel_rfl) (by kernel_rfl) (by kernel_rfl) (fun _ _ _ h => h) (Or.inl ⟨by rfl, ?_⟩) (by assumption) ?_
            rotate_left
            · ((intro w hSw; (try dsimp only at hSw); go_simp) <;> with_reducible rfl)
            try simp only [Act.put, List.setIfInBounds_toArray, List.set_cons_zero, List.set_cons_succ, List.getElem_toArray, List.getElem_cons_succ, List.getElem_cons_zero]
            refine wpAnyH_take (i := 8) (v := ?_) rfl (by kernel_rfl) (by kernel_rfl) (by kernel_rfl) (fun _ _ _ h => h) (Or.inl ⟨by rfl, ?_⟩) (by assumption) ?_
            rotate_left
            · ((intro w hSw; (try dsimp only at hSw); go_simp) <;> with_reducible rfl)
            try simp only [Act.put, List.setIfInBounds_toArray, List.set_cons_zero, List.set_cons_succ, List.getElem_toArray, List.getElem_cons_succ, List.getElem_cons_zero]
            refine wpAnyH_take (i := 9) (v := ?_) rfl (by kernel_rfl) (by kernel_rfl) (by kernel_rfl) (fun _ _ _ h => h) (Or.inl ⟨by rfl, ?_⟩) (by assumption) ?_
            rotate_left
            · ((intro w hSw; (try dsimp only at hSw); go_simp) <;> with_reducible rfl)
            try simp only [Act.put, List.setIfInBounds_toArray, List.set_cons_zero, List.set_cons_succ, List.getElem_toArray, List.getElem_cons_succ, List.getElem_cons_zero]
            refine wpAnyH_ready (rs := [6]) (by kernel_rfl) (by simp) ?_
            refine AllReadyH.cons rfl (fun K hK => ?_) AllReadyH.nil
            go_simp
            refine (HJT.out _ (by first | with_reducible exact HB6.out | with_reducible exact HB6.out.drew | with_reducible exact below_drewN HB6.out _)).mono ?_
            rintro e w16 ⟨rfl, hb⟩
            have HZ := Lib.hid (below_onto (show Below w15.heap.size w15 _ from (by first | with_reducible exact HB6.out | with_reducible exact HB6.out.drew | with_reducible exact below_drewN HB6.out _)) hb)
            clear HB6
            have HB6 := HZ
            clear HZ hb
            go_wp2_with fail
            refine hK.out _ _ ?_ (fun hHeld => ?_)
            · first | exact HKS.out _ HB6.out | exact HKS.out _ HB6.out.drew | exact HKS.out _ (below_drewN HB6.out _)
            clear hK K
            try simp only [Act.put, List.setIfInBounds_toArray, List.set_cons_zero, List.set_cons_succ, List.getElem_toArray, List.getElem_cons_succ, List.getElem_cons_zero]
            refine wpAnyH_take (i := 10) (v := ?_) rfl (by kernel_rfl) (by kernel_rfl) (by kernel_rfl) (fun _ _ _ h => h) (Or.inl ⟨by rfl, ?_⟩) (by assumption) ?_
            rotate_left
            · ((intro w hSw; (try dsimp only at hSw); go_simp) <;> with_reducible rfl)
            try simp only [Act.put, List.setIfInBounds_toArray, List.set_cons_zero, List.set_cons_succ, List.getElem_toArray, List.getElem_cons_succ, List.getElem_cons_zero]
            refine wpAnyH_take (i := 11) (v := ?_) rfl (by kernel_rfl) (by kernel_rfl) (by kernel_rfl) (fun _ _ _ h => h) (Or.inl ⟨by rfl, ?_⟩) (by assumption) ?_
            rotate_left
            · ((intro w hSw; (try dsimp only at hSw); go_simp) <;> with_reducible rfl)
            try simp only [Act.put, List.setIfInBounds_toArray, List.set_cons_zero, List.set_cons_succ, List.getElem_toArray, List.getElem_cons_succ, List.getElem_cons_zero]
            refine wpAnyH_take (i := 12) (v := ?_) rfl (by kernel_rfl) (by kernel_rfl) (by kernel_rfl) (fun _ _ _ h => h) (Or.inl ⟨by rfl, ?_⟩) (by assumption) ?_
            rotate_left
            · ((intro w hSw; (try dsimp only at hSw); go_simp) <;> with_reducible rfl)
            try simp only [Act.put, List.setIfInBounds_toArray, List.set_cons_zero, List.set_cons_succ, List.getElem_toArray, List.getElem_cons_succ, List.getElem_cons_zero]
            refine wpAnyH_take (i := 13) (v := ?_) rfl (by kernel_rfl) (by kernel_rfl) (by kernel_rfl) (fun _ _ _ h => h) (Or.inl ⟨by rfl, ?_⟩) (by assumption) ?_
            rotate_left
            · ((intro w hSw; (try dsimp only at hSw); go_simp) <;> with_reducible rfl)
            try simp only [Act.put, List.setIfInBounds_toArray, List.set_cons_zero, List.set_cons_succ, List.getElem_toArray, List.getElem_cons_succ, List.getElem_cons_zero]
            refine wpAnyH_ready (rs := [14]) (by kernel_rfl) (by simp) ?_
            refine AllReadyH.cons rfl (fun K hK => ?_) AllReadyH.nil
            go_simp
            refine (specDeskOk_any _ xs L _ (HV15.out.d.kept (by first | with_reducible exact HB6.out | with_reducible exact HB6.out.drew | with_reducible exact below_drewN HB6.out _))).mono ?_
            rintro e w17 ⟨rfl, hb⟩
            rw [HDK.out]
            have HZ := Lib.hid (below_onto (show Below w15.heap.size w15 _ from (by first | with_reducible exact HB6.out | with_reducible exact HB6.out.drew | with_reducible exact below_drewN HB6.out _)) hb)
            clear HB6
            have HB6 := HZ
            clear HZ hb
            go_wp2_with fail
            refine hK.out _ _ ?_ (fun hHeld => ?_)
            · first | exact HKS.out _ HB6.out | exact HKS.out _ HB6.out.drew | exact HKS.out _ (below_drewN HB6.out _)
            clear hK K
            try simp only [Act.put, List.setIfInBounds_toArray, List.set_cons_zero, List.set_cons_succ, List.getElem_toArray, List.getElem_cons_succ, List.getElem_cons_zero]
            refine wpAnyH_take (i := 15) (v := ?_) rfl (by kernel_rfl) (by kernel_rfl) (by kernel_rfl) (fun _ _ _ h => h) (Or.inl ⟨by rfl, ?_⟩) (by assumption) ?_
            rotate_left
            · ((intro w hSw; (try dsimp only at hSw); go_simp) <;> with_reducible rfl)
            try simp only [Act.put, List.setIfInBounds_toArray, List.set_cons_zero, List.set_cons_succ, List.getElem_toArray, List.getElem_cons_succ, List.getElem_cons_zero]
            refine wpAnyH_take (i := 16) (v := ?_) rfl (by kernel_rfl) (by kernel_rfl) (by kernel_rfl) (fun _ _ _ h => h) (Or.inl ⟨by rfl, ?_⟩) (by assumption) ?_
            rotate_left
            · ((intro w hSw; (try dsimp only at hSw); go_simp) <;> with_reducible rfl)
            try simp only [Act.put, List.setIfInBounds_toArray, List.set_cons_zero, List.set_cons_succ, List.getElem_toArray, List.getElem_cons_succ, List.getElem_cons_zero]
            refine wpAnyH_take (i := 17) (v := undef) rfl (by kernel_rfl) (by kernel_rfl) (by kernel_rfl) (fun _ _ _ h => h) (Or.inr ⟨by rfl, rfl⟩) (by assumption) ?_
            try simp only [Act.put, List.setIfInBounds_toArray, List.set_cons_zero, List.set_cons_succ, List.getElem_toArray, List.getElem_cons_succ, List.getElem_cons_zero]
            refine wpAnyH_take (i := 18) (v := undef) rfl (by kernel_rfl) (by kernel_rfl) (by kernel_rfl) (fun _ _ _ h => h) (Or.inr ⟨by rfl, rfl⟩) (by assumption) ?_
            try simp only [Act.put, List.setIfInBounds_toArray, List.set_cons_zero, List.set_cons_succ, List.getElem_toArray, List.getElem_cons_succ, List.getElem_cons_zero]
            refine wpAnyH_take (i := 19) (v := undef) rfl (by kernel_rfl) (by kernel_rfl) (by kernel_rfl) (fun _ _ _ h => h) (Or.inr ⟨by rfl, rfl⟩) (by assumption) ?_
            try simp only [Act.put, List.setIfInBounds_toArray, List.set_cons_zero, List.set_cons_succ, List.getElem_toArray, List.getElem_cons_succ, List.getElem_cons_zero]
            refine wpAnyH_take (i := 20) (v := ?_) rfl (by kernel_rfl) (by kernel_rfl) (by kernel_rfl) (fun _ _ _ h => h) (Or.inl ⟨by rfl, ?_⟩) (by assumption) ?_
            rotate_left
            · ((intro w hSw; (try dsimp only at hSw); go_simp) <;> with_reducible rfl)
            try simp only [Act.put, List.setIfInBounds_toArray, List.set_cons_zero, List.set_cons_succ, List.getElem_toArray, List.getElem_cons_succ, List.getElem_cons_zero]
            refine wpAnyH_take (i := 21) (v := ?_) rfl (by kernel_rfl) (by kernel_rfl) (by kernel_rfl) (fun _ _ _ h => h) (Or.inl ⟨by rfl, ?_⟩) (by assumption) ?_
            rotate_left
            · ((intro w hSw; (try dsimp only at hSw); go_simp) <;> with_reducible rfl)
            try simp only [Act.put, List.setIfInBounds_toArray, List.set_cons_zero, List.set_cons_succ, List.getElem_toArray, List.getElem_cons_succ, List.getElem_cons_zero]
            refine wpAnyH_take (i := 22) (v := undef) rfl (by kernel_rfl) (by kernel_rfl) (by kernel_rfl) (fun _ _ _ h => h) (Or.inr ⟨by rfl, rfl⟩) (by assumption) ?_
            try simp only [Act.put, List.setIfInBounds_toArray, List.set_cons_zero, List.set_cons_succ, List.getElem_toArray, List.getElem_cons_succ, List.getElem_cons_zero]
            refine wpAnyH_take (i := 23) (v := undef) rfl (by kernel_rfl) (by kernel_rfl) (by kernel_rfl) (fun _ _ _ h => h) (Or.inr ⟨by rfl, rfl⟩) (by assumption) ?_
            try simp only [Act.put, List.setIfInBounds_toArray, List.set_cons_zero, List.set_cons_succ, List.getElem_toArray, List.getElem_cons_succ, List.getElem_cons_zero]
            refine wpAnyH_take (i := 24) (v := undef) rfl (by kernel_rfl) (by kernel_rfl) (by kernel_rfl) (fun _ _ _ h => h) (Or.inr ⟨by rfl, rfl⟩) (by assumption) ?_
            try simp only [Act.put, List.setIfInBounds_toArray, List.set_cons_zero, List.set_cons_succ, List.getElem_toArray, List.getElem_cons_succ, List.getElem_cons_zero]
            refine wpAnyH_take (i := 25) (v := ?_) rfl (by kernel_rfl) (by kernel_rfl) (by kernel_rfl) (fun _ _ _ h => h) (Or.inl ⟨by rfl, ?_⟩) (by assumption) ?_
            rotate_left
            · ((intro w hSw; (try dsimp only at hSw); go_simp) <;> with_reducible rfl)
            try simp only [Act.put, List.setIfInBounds_toArray, List.set_cons_zero, List.set_cons_succ, List.getElem_toArray, List.getElem_cons_succ, List.getElem_cons_zero]
            refine wpAnyH_take (i := 26) (v := ?_) rfl (by kernel_rfl) (by kernel_rfl) (by kernel_rfl) (fun _ _ _ h => h) (Or.inl ⟨by rfl, ?_⟩) (by assumption) ?_
            rotate_left
            · ((intro w hSw; (try dsimp only at hSw); go_simp) <;> with_reducible rfl)
            try simp only [Act.put, List.setIfInBounds_toArray, List.set_cons_zero, List.set_cons_succ, List.getElem_toArray, List.getElem_cons_succ, List.getElem_cons_zero]
            refine wpAnyH_take (i := 27) (v := ?_) rfl (by kernel_rfl) (by kernel_rfl) (by kernel_rfl) (fun _ _ _ h => h) (Or.inl ⟨by rfl, ?_⟩) (by assumption) ?_
            rotate_left
            · ((intro w hSw; (try dsimp only at hSw); go_simp) <;> with_reducible rfl)
            try simp only [Act.put, List.setIfInBounds_toArray, List.set_cons_zero, List.set_cons_succ, List.getElem_toArray, List.getElem_cons_succ, List.getElem_cons_zero]
            refine wpAnyH_ready (rs := [28]) (by kernel_rfl) (by simp) ?_
            refine AllReadyH.cons rfl (fun K hK => ?_) AllReadyH.nil
            go_simp
            refine (alive_any _).mono ?_
            rintro e w19 ⟨rfl, hb⟩
            have HZ := Lib.hid (below_onto (show Below w15.heap.size w15 _ from (by first | with_reducible exact HB6.out | with_reducible exact HB6.out.drew | with_reducible exact below_drewN HB6.out _)) hb)
            clear HB6
            have HB6 := HZ
            clear HZ hb
            go_wp2_with fail
            refine hK.out _ _ ?_ (fun hHeld => ?_)
            · first | exact HKS.out _ HB6.out | exact HKS.out _ HB6.out.drew | exact HKS.out _ (below_drewN HB6.out _)
            clear hK K
            try simp only [Act.put, List.setIfInBounds_toArray, List.set_cons_zero, List.set_cons_succ, List.getElem_toArray, List.getElem_cons_succ, List.getElem_cons_zero]
            refine wpAnyH_take (i := 29) (v := ?_) rfl (by kernel_rfl) (by kernel_rfl) (by kernel_rfl) (fun _ _ _ h => h) (Or.inl ⟨by rfl, ?_⟩) (by assumption) ?_
            rotate_left
            · ((intro w hSw; (try dsimp only at hSw); go_simp) <;> with_reducible rfl)
            try simp only [Act.put, List.setIfInBounds_toArray, List.set_cons_zero, List.set_cons_succ, List.getElem_toArray, List.getElem_cons_succ, List.getElem_cons_zero]
            refine wpAnyH_take (i := 30) (v := ?_) rfl (by kernel_rfl) (by kernel_rfl) (by kernel_rfl) (fun _ _ _ h => h) (Or.inl ⟨by rfl, ?_⟩) (by assumption) ?_
            rotate_left
            · ((intro w hSw; (try dsimp only at hSw); go_simp) <;> with_reducible rfl)
            try simp only [Act.put, List.setIfInBounds_toArray, List.set_cons_zero, List.set_cons_succ, List.getElem_toArray, List.getElem_cons_succ, List.getElem_cons_zero]
            refine wpAnyH_done (by kernel_rfl) ?_ _
            refine NoPanic.normal ?_
            go_wp2_with fail
            go_ret
            exact ⟨rfl, below_onto HB15.out (by first | exact HB6.out | exact HB6.out.drew | exact below_drewN HB6.out _)⟩
          | true =>
            have HDK := Lib.hid hdk
            obtain ⟨g1, g2⟩ := HINV.out hdk
            have hyd : deskB ys M = true := by rw [g1, g2]; exact run_desk hdk _
            have hkl : k < ds.length := by rw [HND.out]; exact hlt
            have hnx := run_next (xs := xs) (L := L) hkl
            rw [← g1, ← g2] at hnx
            have hok := HRJ.out.deed hkl
            obtain ⟨bk, o, rfl, hi1, hi2, hcell⟩ := HDD.out.at hkl
            have HCELL := Lib.hid (fun W (hW : Below w11.heap.size w11 W) => hcell W (below_onto hbb hW))
            obtain ⟨kk, hkk⟩ : ∃ kk, ds[k].1 = kk := ⟨_, rfl⟩
            obtain ⟨xx, hxx⟩ : ∃ xx, ds[k].2 = xx := ⟨_, rfl⟩
            rw [hkk, hxx] at hnx hok HCELL
            obtain ⟨r1, r2, r3⟩ := line_deed hok
            obtain ⟨f1, f2, f3⟩ := li_deed (A := fun _ _ => []) hyd r1
            rw [r2, r3] at f1 f2 f3
            have hkd9 : okD (dkX ys M kk xx) (dkL ys M kk xx) := dk_okD2 hyd
            obtain ⟨tx, htx⟩ : ∃ tx, deedT kk xx = tx := ⟨_, rfl⟩
            have htd : tx.data.toList = deedL kk xx := by rw [← htx]; rfl
            have hts : tx.size ≤ 9 := by rw [← htx]; exact deed_len kk xx
            have HCA := Lib.hid (show ∀ W, Calls Tryz.prog 15 #[.agg #[.int .i64 kk, .int .i64 xx]] W fun e w' => e = .returned (.string tx) ∧ Below W.heap.size W w' from fun W => by
              have := DeedText_any kk xx W
              rw [htx] at this
              exact this)
            obtain ⟨ok, hoo⟩ : ∃ ok, dkB ys M kk xx = ok := ⟨_, rfl⟩
            obtain ⟨ny, hny⟩ : ∃ ny, dkX ys M kk xx = ny := ⟨_, rfl⟩
            obtain ⟨nM, hnM⟩ : ∃ nM, dkL ys M kk xx = nM := ⟨_, rfl⟩
            rw [hny, hnM] at hkd9 hnx
            rw [hny] at f1
            rw [hnM] at f2
            rw [hoo] at f3
            obtain ⟨tb, htb⟩ : ∃ tb, bs (if ok then okW else notW) = tb := ⟨_, rfl⟩
            have HC := Lib.hid (show ∀ W, Below w11.heap.size w11 W → Calls Tryz.prog 14 #[.agg #[.slice na ys.length nc, .slice nb M.length nc2], .string tx] W fun e w' => ∃ v1 v2, e = .returned (.tuple #[.agg #[v1, v2], .string tb]) ∧ GivesD ny nM W w' v1 v2 from fun W hW => by
              have h9 := DeskLine_deed _ ys M tx (by omega) hyd (by rw [htd]; exact r1) W ((HNR.out.d.kept hb).kept hW)
              rw [htd, f1, f2, f3] at h9
              unfold LineD at h9
              rw [htb] at h9
              exact h9)
            have HNX := Lib.hid (show deskB xs L = true → ny = (runD xs L (ds.take (k + 1))).1 ∧ nM = (runD xs L (ds.take (k + 1))).2.1 from fun _ => by rw [hnx]; exact ⟨rfl, rfl⟩)
            have HKD := Lib.hid hkd9
            have HNB := Lib.hid (HNR.out.kept hb)
            have HBW := Lib.hid hbb
            have HLN := Lib.hid (show N < w11.heap.size from (HNR.out.kept hb).blk.lt)
            have HTB := Lib.hid htb
            have hcc := HCELL.out w11 (Below.refl _ _)
            obtain ⟨hcc0, hcc1⟩ := hcc
            have HKS := Lib.hid (show ∀ W, Below w11.heap.size w11 W → (W.cell? ⟨N, 0, none⟩ = some (.slice na ys.length nc) ∧ W.cell? ⟨N, 1, none⟩ = some (.slice nb M.length nc2) ∧ W.cell? ⟨bk, o + k * 2, none⟩ = some (.int .i64 kk) ∧ W.cell? ⟨bk, o + k * 2 + 1, none⟩ = some (.int .i64 xx)) from fun W hW => ⟨((HNR.out.kept hb).kept hW).blk.cell.1, ((HNR.out.kept hb).kept hW).blk.cell.2, (HCELL.out W hW).1, (HCELL.out W hW).2⟩)
            have hm0 := HNB.out.blk.cell.1; have hm1 := HNB.out.blk.cell.2
            clear hb hbb hdk hv0 hv1 HNR HBR HINV g1 g2 hyd hkl hnx hok hi1 hi2 hcell hkk hxx r1 r2 r3 f1 f2 f3 hkd9 htx htd hts hoo hny hnM htb HVR
            go_upto_region 19 with fail
            go_cut [17, 18] (fun s1 s2 wx => CutT w11 ny nM tb s1 s2 wx)
            case first =>
              clear hcc0 hcc1 hm0 hm1
              have HB6 := Lib.hid (Below.refl w11.heap.size w11)
              go_region_held3 (fun W => W.cell? ⟨N, 0, none⟩ = some (.slice na ys.length nc) ∧ W.cell? ⟨N, 1, none⟩ = some (.slice nb M.length nc2) ∧ W.cell? ⟨bk, o + k * 2, none⟩ = some (.int .i64 kk) ∧ W.cell? ⟨bk, o + k * 2 + 1, none⟩ = some (.int .i64 xx)) (first | exact HKS.out _ HB6.out | exact HKS.out _ HB6.out.drew | exact HKS.out _ (HB6.out.alloc HB6.out.size _) | exact HKS.out _ (HB6.out.alloc HB6.out.size _).drew | exact HKS.out _ ((HB6.out.setCell (p := ⟨_, 0, none⟩) (Nat.le_refl _) _).setCell (p := ⟨_, 1, none⟩) (Nat.le_refl _) _) | exact HKS.out _ ((HB6.out.setCell (p := ⟨_, 0, none⟩) HS8.out _).setCell (p := ⟨_, 1, none⟩) HS8.out _) | exact HKS.out _ ((HB6.out.setCell (p := ⟨_, 0, none⟩) HS9.out _).setCell (p := ⟨_, 1, none⟩) HS9.out _) | go_keep)
                (first | (go_at_call 15; refine (HCA.out _).mono ?_; rintro e w12 ⟨rfl, hb8⟩; (try (have HZB : Hid (Blk2 w12 w11.heap.size 31 (.slice none 0 0) (.slice none 0 0)) := Lib.hid (by with_reducible exact blk2_new_dr3 hb8))); have HZ := Lib.hid (below_onto (show Below w11.heap.size w11 _ from (by first | with_reducible exact HB6.out | with_reducible exact HB6.out.drew | with_reducible exact HB6.out.alloc HB6.out.size _ | with_reducible exact (HB6.out.alloc HB6.out.size _).drew)) hb8); clear HB6; have HB6 := HZ; clear HZ; have HS8 := Lib.hid HB6.out.size; clear hb8) | (go_at_call 14; refine (HC.out _ (by first | with_reducible exact HB6.out | with_reducible exact HB6.out.drew | with_reducible exact HB6.out.alloc HB6.out.size _ | with_reducible exact (HB6.out.alloc HB6.out.size _).drew)).mono ?_; rintro e w13 ⟨v3, v4, rfl, hg9⟩; obtain ⟨z1, z2, rfl⟩ := hg9.one; obtain ⟨z3, z4, rfl⟩ := hg9.two; (first | (have HZL := Lib.hid HZB.out.lt; replace HZB := Lib.hid (HZB.out.kept hg9.below HZB.out.lt)) | (have HZL := Lib.hid (alloc_lt3 w12 (.cells #[.slice none 0 0, .slice none 0 0] 31)); have HZB : Hid (Blk2 w13 w12.heap.size 31 (.slice none 0 0) (.slice none 0 0)) := Lib.hid (by first | with_reducible exact blk2_new_dr3 hg9.below | with_reducible exact blk2_new_al3 hg9.below)) | skip); (try (have hx0 := HZB.out.cell.1; have hx1 := HZB.out.cell.2; have hx2 := HZB.out.frozen 0; have hx3 := HZB.out.frozen 1)); have HG9 := Lib.hid hg9; have HZ := Lib.hid (below_onto (show Below w11.heap.size w11 _ from (by first | with_reducible exact HB6.out | with_reducible exact HB6.out.drew | with_reducible exact HB6.out.alloc HB6.out.size _ | with_reducible exact (HB6.out.alloc HB6.out.size _).drew)) hg9.below); clear HB6; have HB6 := HZ; clear HZ; clear hg9))
              all_goals
                go_wp2_with fail
                go_meet
                first
                  | exact cutT_last HG9.out HB6.out (by first | exact HS8.out | exact HB6.out.size)
                  | exact cutT_set HG9.out HZB.out HZL.out HB6.out (by first | exact Nat.le_refl _ | exact HS8.out)
            case rest =>
            obtain ⟨w12, hw12⟩ : ∃ w12, w12 = wc := ⟨_, rfl⟩
            subst hw12
            obtain ⟨bb, TT, v5, v6, rs, rfl, rfl, hdv, hrs, _, hbx⟩ := hcut
            have hnb := HNB.out.kept hbx
            obtain ⟨a5, c5, b5, c6, rfl, rfl, hnv⟩ := now_put HKD.out hdv hrs hnb.blk HLN.out
            have HNV := Lib.hid hnv
            have HBN := Lib.hid (((below_onto HBW.out hbx).setCell (p := ⟨N, 0, none⟩) (show w8.heap.size ≤ N by rw [HNN.out]; exact Nat.le_refl _) (.slice a5 ny.length c5)).setCell (p := ⟨N, 1, none⟩) (show w8.heap.size ≤ N by rw [HNN.out]; exact Nat.le_refl _) (.slice b5 nM.length c6))
            have hx0 := hdv.blk.cell.1; have hx1 := hdv.blk.cell.2
            have hn0 := hnb.blk.cell.1; have hn1 := hnb.blk.cell.2; have hn2 := hnb.blk.frozen 0; have hn3 := hnb.blk.frozen 1
            clear hnb hdv hrs hbx hnv HKS HC HCA
            cases ok with
            | true =>
              have ht1 : (tb.toList == [111, 107]) = true := by rw [← HTB.out, if_pos rfl, bs_list]; rfl
              go_wp2_with fail
              go_roundw
              case rel => exact ⟨k + 1, a5, b5, c5, c6, ny, nM, by omega, by go_num, HNV, HBN, HNX⟩
              case measure => simp [intOf]; omega
            | false =>
              have ht1 : (tb.toList == [111, 107]) = false := by rw [← HTB.out, if_neg (by decide), bs_list]; rfl
              have ht2 : (tb.toList == [110, 111, 116]) = true := by rw [← HTB.out, if_neg (by decide), bs_list]; rfl
              go_wp2_with fail
              go_roundw
              case rel => exact ⟨k + 1, a5, b5, c5, c6, ny, nM, by omega, by go_num, HNV, HBN, HNX⟩
              case measure => simp [intOf]; omega
        · have hki : ¬ (k : Int) < (nd : Int) := by omega
          have hkd : decide ((k : Int) < (nd : Int)) = false := decide_eq_false hki
          have hkd2 : decide (k < nd) = false := decide_eq_false hlt
          have hkn : k = nd := by omega
          have HKN := Lib.hid hkn
          have HVT := Lib.hid HVR.out; have HNT := Lib.hid HNR.out
          have HBT := Lib.hid (below_onto HB.out HBR.out)
          have HDDT := Lib.hid (HDD.out.kept HBR.out)
          obtain ⟨wt, hwt⟩ : ∃ wt, wt = wr := ⟨_, rfl⟩
          subst hwt
          clear hkn hk HVR HNR HBR
          cases hdk : deskB xs L with
          | false =>
            have HDK := Lib.hid hdk
            clear hdk HNT HINV
            obtain ⟨g1, g2, _⟩ := dr_no (show drB xs L ds = false by unfold drB; rw [HDK.out]; rfl)
            have hkd := drr_okD xs L ds
            have HRUN := Lib.hid (DeskRun_any _ xs L p ds cp wt HVT.out.d HDDT.out)
            rw [HND.out] at HRUN
            obtain ⟨zs, hzs⟩ : ∃ zs, drX xs L ds = zs := ⟨_, rfl⟩
            obtain ⟨ZL, hZL⟩ : ∃ ZL, drL xs L ds = ZL := ⟨_, rfl⟩
            obtain ⟨zn, hzn⟩ : ∃ zn, drN xs L ds = zn := ⟨_, rfl⟩
            rw [hzs, hZL] at hkd
            rw [hzs, hZL, hzn] at HRUN
            rw [hzs] at g1
            rw [hZL] at g2
            have HKD := Lib.hid hkd
            clear hkd hzs hZL hzn g1 g2
            have hv0 := HVT.out.blk.cell.1; have hv1 := HVT.out.blk.cell.2
            go_wp2_with fail
            refine HRUN.out.mono ?_
            rintro e w14 ⟨v3, v4, rfl, hg⟩
            obtain ⟨z1, y1, z2, y2, rfl, rfl, hde, hb⟩ := HKD.out.gives hg
            have hal := alloc_below w14 (.cells #[.slice z1 zs.length y1, .slice z2 ZL.length y2] 31)
            have HE := Lib.hid (VarD.new hde)
            replace hb := below_onto hb hal
            have HV15 := Lib.hid (HVT.out.kept hb); have HDD15 := Lib.hid (HDDT.out.kept hb); have HB15 := Lib.hid (below_onto HBT.out hb)
            obtain ⟨w15, hw15⟩ : ∃ w15, w14.alloc (.cells #[.slice z1 zs.length y1, .slice z2 ZL.length y2] 31) = w15 := ⟨_, rfl⟩
            obtain ⟨E, hE⟩ : ∃ E, w14.heap.size = E := ⟨_, rfl⟩
            rw [hw15] at HE HV15 HDD15 HB15
            rw [hE] at HE
            have hvs0 := HV15.out.blk.cell.1; have hvs1 := HV15.out.blk.cell.2
            clear hg hde hb hal hv0 hv1
            obtain ⟨tt, htt⟩ : ∃ tt, bs (jtL ds) = tt := ⟨_, rfl⟩
            have htx := HTX.out
            rw [htt] at htx
            have HSL := Lib.hid (fun W => headSl2 s m (by rw [HSZ.out]; exact hmany) W)
            rw [← htx] at HSL
            have hsl := HSL.out
            have HJT := Lib.hid (show ∀ W, Below w15.heap.size w15 W → Calls Tryz.prog 17 #[.slice p nd cp] W fun e w' => e = .returned (.string tt) ∧ Below W.heap.size W w' from fun W hW => by
              have := JournalText_any p ds cp (by rw [HND.out]; omega) W (HDD15.out.kept hW)
              rw [HND.out, htt] at this
              exact this)
            have hle : decide ((m : Int) ≤ (s.size : Int)) = true := decide_eq_true (by rw [HSZ.out]; omega)
            have hle2 : decide (m ≤ s.size) = true := decide_eq_true (by rw [HSZ.out]; omega)
            have heq : (tt.toList == tt.toList) = true := by simp
            have HKS := Lib.hid (show ∀ W, Below w15.heap.size w15 W → (W.cell? ⟨D, 0, none⟩ = some (.slice p1 xs.length e1) ∧ W.cell? ⟨D, 1, none⟩ = some (.slice p3 L.length e3)) from fun W hW => (HV15.out.kept hW).blk.cell)
            clear htt htx
            go_upto_region 24 with fail
            clear hw15 hE hvs0 hvs1
            have HB6 := Lib.hid (Below.refl w15.heap.size w15)
            refine wp_region_noPanic ?_
            refine wp_region_held_drew (S := (fun W => W.cell? ⟨D, 0, none⟩ = some (.slice p1 xs.length e1) ∧ W.cell? ⟨D, 1, none⟩ = some (.slice p3 L.length e3))) (by kernel_rfl) ?_ (fun hHeld => ?_)
            · first | exact HKS.out _ HB6.out | exact HKS.out _ HB6.out.drew | exact HKS.out _ (below_drewN HB6.out _)
            refine wpAnyH_take (i := 0) (v := ?_) rfl (by kernel_rfl) (by kernel_rfl) (by kernel_rfl) (fun _ _ _ h => h) (Or.inl ⟨by rfl, ?_⟩) (by assumption) ?_
            rotate_left
            · ((intro w hSw; (try dsimp only at hSw); go_simp) <;> with_reducible rfl)
            try simp only [Act.put, List.setIfInBounds_toArray, List.set_cons_zero, List.set_cons_succ, List.getElem_toArray, List.getElem_cons_zero]
            refine wpAnyH_take (i := 1) (v := ?_) rfl (by kernel_rfl) (by kernel_rfl) (by kernel_rfl) (fun _ _ _ h => h) (Or.inl ⟨by rfl, ?_⟩) (by assumption) ?_
            rotate_left
            · ((intro w hSw; (try dsimp only at hSw); go_simp) <;> with_reducible rfl)
            try simp only [Act.put, List.setIfInBounds_toArray, List.set_cons_zero, List.set_cons_succ, List.getElem_toArray, List.getElem_cons_succ, List.getElem_cons_zero]
            refine wpAnyH_take (i := 2) (v := ?_) rfl (by kernel_rfl) (by kernel_rfl) (by kernel_rfl) (fun _ _ _ h => h) (Or.inl ⟨by rfl, ?_⟩) (by assumption) ?_
            rotate_left
            · ((intro w hSw; (try dsimp only at hSw); go_simp) <;> with_reducible rfl)
            try simp only [Act.put, List.setIfInBounds_toArray, List.set_cons_zero, List.set_cons_succ, List.getElem_toArray, List.getElem_cons_succ, List.getElem_cons_zero]
            refine wpAnyH_take (i := 3) (v := ?_) rfl (by kernel_rfl) (by kernel_rfl) (by kernel_rfl) (fun _ _ _ h => h) (Or.inl ⟨by rfl, ?_⟩) (by assumption) ?_
            rotate_left
            · ((intro w hSw; (try dsimp only at hSw); go_simp) <;> with_reducible rfl)
            try simp only [Act.put, List.setIfInBounds_toArray, List.set_cons_zero, List.set_cons_succ, List.getElem_toArray, List.getElem_cons_succ, List.getElem_cons_zero]
            refine wpAnyH_take (i := 4) (v := ?_) rfl (by kernel_rfl) (by kernel_rfl) (by kernel_rfl) (fun _ _ _ h => h) (Or.inl ⟨by rfl, ?_⟩) (by assumption) ?_
            rotate_left
            · ((intro w hSw; (try dsimp only at hSw); go_simp) <;> with_reducible rfl)
            try simp only [Act.put, List.setIfInBounds_toArray, List.set_cons_zero, List.set_cons_succ, List.getElem_toArray, List.getElem_cons_succ, List.getElem_cons_zero]
            refine wpAnyH_take (i := 5) (v := ?_) rfl (by kernel_rfl) (by kernel_rfl) (by kernel_rfl) (fun _ _ _ h => h) (Or.inl ⟨by rfl, ?_⟩) (by assumption) ?_
            rotate_left
            · ((intro w hSw; (try dsimp only at hSw); go_simp) <;> with_reducible rfl)
            try simp only [Act.put, List.setIfInBounds_toArray, List.set_cons_zero, List.set_cons_succ, List.getElem_toArray, List.getElem_cons_succ, List.getElem_cons_zero]
            refine wpAnyH_take (i := 7) (v := ?_) rfl (by kernel_rfl) (by kernel_rfl) (by kernel_rfl) (fun _ _ _ h => h) (Or.inl ⟨by rfl, ?_⟩) (by assumption) ?_
            rotate_left
            · ((intro w hSw; (try dsimp only at hSw); go_simp) <;> with_reducible rfl)
            try simp only [Act.put, List.setIfInBounds_toArray, List.set_cons_zero, List.set_cons_succ, List.getElem_toArray, List.getElem_cons_succ, List.getElem_cons_zero]
            refine wpAnyH_take (i := 8) (v := ?_) rfl (by kernel_rfl) (by kernel_rfl) (by kernel_rfl) (fun _ _ _ h => h) (Or.inl ⟨by rfl, ?_⟩) (by assumption) ?_
            rotate_left
            · ((intro w hSw; (try dsimp only at hSw); go_simp) <;> with_reducible rfl)
            try simp only [Act.put, List.setIfInBounds_toArray, List.set_cons_zero, List.set_cons_succ, List.getElem_toArray, List.getElem_cons_succ, List.getElem_cons_zero]
            refine wpAnyH_take (i := 9) (v := ?_) rfl (by kernel_rfl) (by kernel_rfl) (by kernel_rfl) (fun _ _ _ h => h) (Or.inl ⟨by rfl, ?_⟩) (by assumption) ?_
            rotate_left
            · ((intro w hSw; (try dsimp only at hSw); go_simp) <;> with_reducible rfl)
            try simp only [Act.put, List.setIfInBounds_toArray, List.set_cons_zero, List.set_cons_succ, List.getElem_toArray, List.getElem_cons_succ, List.getElem_cons_zero]
            refine wpAnyH_ready (rs := [6]) (by kernel_rfl) (by simp) ?_
            refine AllReadyH.cons rfl (fun K hK => ?_) AllReadyH.nil
            go_simp
            refine (HJT.out _ (by first | with_reducible exact HB6.out | with_reducible exact HB6.out.drew | with_reducible exact below_drewN HB6.out _)).mono ?_
            rintro e w16 ⟨rfl, hb⟩
            have HZ := Lib.hid (below_onto (show Below w15.heap.size w15 _ from (by first | with_reducible exact HB6.out | with_reducible exact HB6.out.drew | with_reducible exact below_drewN HB6.out _)) hb)
            clear HB6
            have HB6 := HZ
            clear HZ hb
            go_wp2_with fail
            refine hK.out _ _ ?_ (fun hHeld => ?_)
            · first | exact HKS.out _ HB6.out | exact HKS.out _ HB6.out.drew | exact HKS.out _ (below_drewN HB6.out _)
            clear hK K
            try simp only [Act.put, List.setIfInBounds_toArray, List.set_cons_zero, List.set_cons_succ, List.getElem_toArray, List.getElem_cons_succ, List.getElem_cons_zero]
            refine wpAnyH_take (i := 10) (v := ?_) rfl (by kernel_rfl) (by kernel_rfl) (by kernel_rfl) (fun _ _ _ h => h) (Or.inl ⟨by rfl, ?_⟩) (by assumption) ?_
            rotate_left
            · ((intro w hSw; (try dsimp only at hSw); go_simp) <;> with_reducible rfl)
            try simp only [Act.put, List.setIfInBounds_toArray, List.set_cons_zero, List.set_cons_succ, List.getElem_toArray, List.getElem_cons_succ, List.getElem_cons_zero]
            refine wpAnyH_take (i := 11) (v := ?_) rfl (by kernel_rfl) (by kernel_rfl) (by kernel_rfl) (fun _ _ _ h => h) (Or.inl ⟨by rfl, ?_⟩) (by assumption) ?_
            rotate_left
            · ((intro w hSw; (try dsimp only at hSw); go_simp) <;> with_reducible rfl)
            try simp only [Act.put, List.setIfInBounds_toArray, List.set_cons_zero, List.set_cons_succ, List.getElem_toArray, List.getElem_cons_succ, List.getElem_cons_zero]
            refine wpAnyH_take (i := 12) (v := ?_) rfl (by kernel_rfl) (by kernel_rfl) (by kernel_rfl) (fun _ _ _ h => h) (Or.inl ⟨by rfl, ?_⟩) (by assumption) ?_
            rotate_left
            · ((intro w hSw; (try dsimp only at hSw); go_simp) <;> with_reducible rfl)
            try simp only [Act.put, List.setIfInBounds_toArray, List.set_cons_zero, List.set_cons_succ, List.getElem_toArray, List.getElem_cons_succ, List.getElem_cons_zero]
            refine wpAnyH_take (i := 13) (v := ?_) rfl (by kernel_rfl) (by kernel_rfl) (by kernel_rfl) (fun _ _ _ h => h) (Or.inl ⟨by rfl, ?_⟩) (by assumption) ?_
            rotate_left
            · ((intro w hSw; (try dsimp only at hSw); go_simp) <;> with_reducible rfl)
            try simp only [Act.put, List.setIfInBounds_toArray, List.set_cons_zero, List.set_cons_succ, List.getElem_toArray, List.getElem_cons_succ, List.getElem_cons_zero]
            refine wpAnyH_ready (rs := [14]) (by kernel_rfl) (by simp) ?_
            refine AllReadyH.cons rfl (fun K hK => ?_) AllReadyH.nil
            go_simp
            refine (specDeskOk_any _ xs L _ (HV15.out.d.kept (by first | with_reducible exact HB6.out | with_reducible exact HB6.out.drew | with_reducible exact below_drewN HB6.out _))).mono ?_
            rintro e w17 ⟨rfl, hb⟩
            rw [HDK.out]
            have HZ := Lib.hid (below_onto (show Below w15.heap.size w15 _ from (by first | with_reducible exact HB6.out | with_reducible exact HB6.out.drew | with_reducible exact below_drewN HB6.out _)) hb)
            clear HB6
            have HB6 := HZ
            clear HZ hb
            go_wp2_with fail
            refine hK.out _ _ ?_ (fun hHeld => ?_)
            · first | exact HKS.out _ HB6.out | exact HKS.out _ HB6.out.drew | exact HKS.out _ (below_drewN HB6.out _)
            clear hK K
            try simp only [Act.put, List.setIfInBounds_toArray, List.set_cons_zero, List.set_cons_succ, List.getElem_toArray, List.getElem_cons_succ, List.getElem_cons_zero]
            refine wpAnyH_take (i := 15) (v := ?_) rfl (by kernel_rfl) (by kernel_rfl) (by kernel_rfl) (fun _ _ _ h => h) (Or.inl ⟨by rfl, ?_⟩) (by assumption) ?_
            rotate_left
            · ((intro w hSw; (try dsimp only at hSw); go_simp) <;> with_reducible rfl)
            try simp only [Act.put, List.setIfInBounds_toArray, List.set_cons_zero, List.set_cons_succ, List.getElem_toArray, List.getElem_cons_succ, List.getElem_cons_zero]
            refine wpAnyH_take (i := 16) (v := ?_) rfl (by kernel_rfl) (by kernel_rfl) (by kernel_rfl) (fun _ _ _ h => h) (Or.inl ⟨by rfl, ?_⟩) (by assumption) ?_
            rotate_left
            · ((intro w hSw; (try dsimp only at hSw); go_simp) <;> with_reducible rfl)
            try simp only [Act.put, List.setIfInBounds_toArray, List.set_cons_zero, List.set_cons_succ, List.getElem_toArray, List.getElem_cons_succ, List.getElem_cons_zero]
            refine wpAnyH_take (i := 17) (v := undef) rfl (by kernel_rfl) (by kernel_rfl) (by kernel_rfl) (fun _ _ _ h => h) (Or.inr ⟨by rfl, rfl⟩) (by assumption) ?_
            try simp only [Act.put, List.setIfInBounds_toArray, List.set_cons_zero, List.set_cons_succ, List.getElem_toArray, List.getElem_cons_succ, List.getElem_cons_zero]
            refine wpAnyH_take (i := 18) (v := undef) rfl (by kernel_rfl) (by kernel_rfl) (by kernel_rfl) (fun _ _ _ h => h) (Or.inr ⟨by rfl, rfl⟩) (by assumption) ?_
            try simp only [Act.put, List.setIfInBounds_toArray, List.set_cons_zero, List.set_cons_succ, List.getElem_toArray, List.getElem_cons_succ, List.getElem_cons_zero]
            refine wpAnyH_take (i := 19) (v := undef) rfl (by kernel_rfl) (by kernel_rfl) (by kernel_rfl) (fun _ _ _ h => h) (Or.inr ⟨by rfl, rfl⟩) (by assumption) ?_
            try simp only [Act.put, List.setIfInBounds_toArray, List.set_cons_zero, List.set_cons_succ, List.getElem_toArray, List.getElem_cons_succ, List.getElem_cons_zero]
            refine wpAnyH_take (i := 20) (v := ?_) rfl (by kernel_rfl) (by kernel_rfl) (by kernel_rfl) (fun _ _ _ h => h) (Or.inl ⟨by rfl, ?_⟩) (by assumption) ?_
            rotate_left
            · ((intro w hSw; (try dsimp only at hSw); go_simp) <;> with_reducible rfl)
            try simp only [Act.put, List.setIfInBounds_toArray, List.set_cons_zero, List.set_cons_succ, List.getElem_toArray, List.getElem_cons_succ, List.getElem_cons_zero]
            refine wpAnyH_take (i := 21) (v := ?_) rfl (by kernel_rfl) (by kernel_rfl) (by kernel_rfl) (fun _ _ _ h => h) (Or.inl ⟨by rfl, ?_⟩) (by assumption) ?_
            rotate_left
            · ((intro w hSw; (try dsimp only at hSw); go_simp) <;> with_reducible rfl)
            try simp only [Act.put, List.setIfInBounds_toArray, List.set_cons_zero, List.set_cons_succ, List.getElem_toArray, List.getElem_cons_succ, List.getElem_cons_zero]
            refine wpAnyH_take (i := 22) (v := undef) rfl (by kernel_rfl) (by kernel_rfl) (by kernel_rfl) (fun _ _ _ h => h) (Or.inr ⟨by rfl, rfl⟩) (by assumption) ?_
            try simp only [Act.put, List.setIfInBounds_toArray, List.set_cons_zero, List.set_cons_succ, List.getElem_toArray, List.getElem_cons_succ, List.getElem_cons_zero]
            refine wpAnyH_take (i := 23) (v := undef) rfl (by kernel_rfl) (by kernel_rfl) (by kernel_rfl) (fun _ _ _ h => h) (Or.inr ⟨by rfl, rfl⟩) (by assumption) ?_
            try simp only [Act.put, List.setIfInBounds_toArray, List.set_cons_zero, List.set_cons_succ, List.getElem_toArray, List.getElem_cons_succ, List.getElem_cons_zero]
            refine wpAnyH_take (i := 24) (v := undef) rfl (by kernel_rfl) (by kernel_rfl) (by kernel_rfl) (fun _ _ _ h => h) (Or.inr ⟨by rfl, rfl⟩) (by assumption) ?_
            try simp only [Act.put, List.setIfInBounds_toArray, List.set_cons_zero, List.set_cons_succ, List.getElem_toArray, List.getElem_cons_succ, List.getElem_cons_zero]
            refine wpAnyH_take (i := 25) (v := ?_) rfl (by kernel_rfl) (by kernel_rfl) (by kernel_rfl) (fun _ _ _ h => h) (Or.inl ⟨by rfl, ?_⟩) (by assumption) ?_
            rotate_left
            · ((intro w hSw; (try dsimp only at hSw); go_simp) <;> with_reducible rfl)
            try simp only [Act.put, List.setIfInBounds_toArray, List.set_cons_zero, List.set_cons_succ, List.getElem_toArray, List.getElem_cons_succ, List.getElem_cons_zero]
            refine wpAnyH_take (i := 26) (v := ?_) rfl (by kernel_rfl) (by kernel_rfl) (by kernel_rfl) (fun _ _ _ h => h) (Or.inl ⟨by rfl, ?_⟩) (by assumption) ?_
            rotate_left
            · ((intro w hSw; (try dsimp only at hSw); go_simp) <;> with_reducible rfl)
            try simp only [Act.put, List.setIfInBounds_toArray, List.set_cons_zero, List.set_cons_succ, List.getElem_toArray, List.getElem_cons_succ, List.getElem_cons_zero]
            refine wpAnyH_take (i := 27) (v := ?_) rfl (by kernel_rfl) (by kernel_rfl) (by kernel_rfl) (fun _ _ _ h => h) (Or.inl ⟨by rfl, ?_⟩) (by assumption) ?_
            rotate_left
            · ((intro w hSw; (try dsimp only at hSw); go_simp) <;> with_reducible rfl)
            try simp only [Act.put, List.setIfInBounds_toArray, List.set_cons_zero, List.set_cons_succ, List.getElem_toArray, List.getElem_cons_succ, List.getElem_cons_zero]
            refine wpAnyH_ready (rs := [28]) (by kernel_rfl) (by simp) ?_
            refine AllReadyH.cons rfl (fun K hK => ?_) AllReadyH.nil
            go_simp
            refine (alive_any _).mono ?_
            rintro e w19 ⟨rfl, hb⟩
            have HZ := Lib.hid (below_onto (show Below w15.heap.size w15 _ from (by first | with_reducible exact HB6.out | with_reducible exact HB6.out.drew | with_reducible exact below_drewN HB6.out _)) hb)
            clear HB6
            have HB6 := HZ
            clear HZ hb
            go_wp2_with fail
            refine hK.out _ _ ?_ (fun hHeld => ?_)
            · first | exact HKS.out _ HB6.out | exact HKS.out _ HB6.out.drew | exact HKS.out _ (below_drewN HB6.out _)
            clear hK K
            try simp only [Act.put, List.setIfInBounds_toArray, List.set_cons_zero, List.set_cons_succ, List.getElem_toArray, List.getElem_cons_succ, List.getElem_cons_zero]
            refine wpAnyH_take (i := 29) (v := ?_) rfl (by kernel_rfl) (by kernel_rfl) (by kernel_rfl) (fun _ _ _ h => h) (Or.inl ⟨by rfl, ?_⟩) (by assumption) ?_
            rotate_left
            · ((intro w hSw; (try dsimp only at hSw); go_simp) <;> with_reducible rfl)
            try simp only [Act.put, List.setIfInBounds_toArray, List.set_cons_zero, List.set_cons_succ, List.getElem_toArray, List.getElem_cons_succ, List.getElem_cons_zero]
            refine wpAnyH_take (i := 30) (v := ?_) rfl (by kernel_rfl) (by kernel_rfl) (by kernel_rfl) (fun _ _ _ h => h) (Or.inl ⟨by rfl, ?_⟩) (by assumption) ?_
            rotate_left
            · ((intro w hSw; (try dsimp only at hSw); go_simp) <;> with_reducible rfl)
            try simp only [Act.put, List.setIfInBounds_toArray, List.set_cons_zero, List.set_cons_succ, List.getElem_toArray, List.getElem_cons_succ, List.getElem_cons_zero]
            refine wpAnyH_done (by kernel_rfl) ?_ _
            refine NoPanic.normal ?_
            go_wp2_with fail
            go_ret
            exact ⟨rfl, below_onto HB15.out (by first | exact HB6.out | exact HB6.out.drew | exact below_drewN HB6.out _)⟩
          | true =>
            have HDK := Lib.hid hdk
            clear hdk
            by_cases h40 : nd ≤ 40
            · have h40b : decide ((40 : Int) < (nd : Int)) = false := decide_eq_false (by omega)
              have h40c : decide (40 < nd) = false := decide_eq_false (by omega)
              obtain ⟨g1, g2, _⟩ := dr_yes (show drB xs L ds = true by unfold drB; rw [HND.out, HDK.out, decide_eq_true h40]; rfl)
              have hkd := drr_okD xs L ds
              have HRUN := Lib.hid (DeskRun_any _ xs L p ds cp wt HVT.out.d HDDT.out)
              rw [HND.out] at HRUN
              obtain ⟨zs, hzs⟩ : ∃ zs, drX xs L ds = zs := ⟨_, rfl⟩
              obtain ⟨ZL, hZL⟩ : ∃ ZL, drL xs L ds = ZL := ⟨_, rfl⟩
              obtain ⟨zn, hzn⟩ : ∃ zn, drN xs L ds = zn := ⟨_, rfl⟩
              rw [hzs, hZL] at hkd
              rw [hzs, hZL, hzn] at HRUN
              rw [hzs] at g1
              rw [hZL] at g2
              have hgz := HINV.out HDK.out
              rw [HKN.out, ← HND.out, List.take_length, ← g1, ← g2] at hgz
              have HEQ := Lib.hid hgz
              clear hgz
              have HKD := Lib.hid hkd
              clear hkd hzs hZL hzn g1 g2
              have hv0 := HVT.out.blk.cell.1; have hv1 := HVT.out.blk.cell.2
              go_wp2_with fail
              refine HRUN.out.mono ?_
              rintro e w14 ⟨v3, v4, rfl, hg⟩
              obtain ⟨z1, y1, z2, y2, rfl, rfl, hde, hb⟩ := HKD.out.gives hg
              have hal := alloc_below w14 (.cells #[.slice z1 zs.length y1, .slice z2 ZL.length y2] 31)
              have HE := Lib.hid (VarD.new hde)
              replace hb := below_onto hb hal
              have HV15 := Lib.hid (HVT.out.kept hb); have HDD15 := Lib.hid (HDDT.out.kept hb); have HB15 := Lib.hid (below_onto HBT.out hb)
              have HN15 := Lib.hid (HNT.out.kept hb)
              obtain ⟨w15, hw15⟩ : ∃ w15, w14.alloc (.cells #[.slice z1 zs.length y1, .slice z2 ZL.length y2] 31) = w15 := ⟨_, rfl⟩
              obtain ⟨E, hE⟩ : ∃ E, w14.heap.size = E := ⟨_, rfl⟩
              rw [hw15] at HE HV15 HDD15 HB15 HN15
              rw [hE] at HE
              have hvs0 := HV15.out.blk.cell.1; have hvs1 := HV15.out.blk.cell.2
              clear hg hde hb hal hv0 hv1
              obtain ⟨tt, htt⟩ : ∃ tt, bs (jtL ds) = tt := ⟨_, rfl⟩
              have htx := HTX.out
              rw [htt] at htx
              have HSL := Lib.hid (fun W => headSl2 s m (by rw [HSZ.out]; exact hmany) W)
              rw [← htx] at HSL
              have hsl := HSL.out
              have HJT := Lib.hid (show ∀ W, Below w15.heap.size w15 W → Calls Tryz.prog 17 #[.slice p nd cp] W fun e w' => e = .returned (.string tt) ∧ Below W.heap.size W w' from fun W hW => by
                have := JournalText_any p ds cp (by rw [HND.out]; omega) W (HDD15.out.kept hW)
                rw [HND.out, htt] at this
                exact this)
              have hle : decide ((m : Int) ≤ (s.size : Int)) = true := decide_eq_true (by rw [HSZ.out]; omega)
              have hle2 : decide (m ≤ s.size) = true := decide_eq_true (by rw [HSZ.out]; omega)
              have heq : (tt.toList == tt.toList) = true := by simp
              have HKS := Lib.hid (show ∀ W, Below w15.heap.size w15 W → (W.cell? ⟨D, 0, none⟩ = some (.slice p1 xs.length e1) ∧ W.cell? ⟨D, 1, none⟩ = some (.slice p3 L.length e3) ∧ W.cell? ⟨N, 0, none⟩ = some (.slice na ys.length nc) ∧ W.cell? ⟨N, 1, none⟩ = some (.slice nb M.length nc2) ∧ W.cell? ⟨E, 0, none⟩ = some (.slice z1 zs.length y1) ∧ W.cell? ⟨E, 1, none⟩ = some (.slice z2 ZL.length y2)) from fun W hW => ⟨(HV15.out.kept hW).blk.cell.1, (HV15.out.kept hW).blk.cell.2, (HN15.out.kept hW).blk.cell.1, (HN15.out.kept hW).blk.cell.2, (HE.out.kept hW).blk.cell.1, (HE.out.kept hW).blk.cell.2⟩)
              have HSM := Lib.hid (show ∀ W, Below w15.heap.size w15 W → Calls Tryz.prog 18 #[.agg #[.slice na ys.length nc, .slice nb M.length nc2], .agg #[.slice z1 zs.length y1, .slice z2 ZL.length y2]] W fun e w' => e = .returned (.bool true) ∧ Below W.heap.size W w' from fun W hW => by
                have h1 := (HN15.out.kept hW).d; have h2 := (HE.out.kept hW).d; have h3 := HKD.out
                rw [← HEQ.out.1, ← HEQ.out.2] at h2 h3 ⊢
                exact h3.nine.same _ _ W h1 h2)
              clear htt htx
              go_upto_region 24 with fail
              clear hw15 hE hvs0 hvs1
              have HB6 := Lib.hid (Below.refl w15.heap.size w15)
              refine wp_region_noPanic ?_
              refine wp_region_held_drew (S := (fun W => W.cell? ⟨D, 0, none⟩ = some (.slice p1 xs.length e1) ∧ W.cell? ⟨D, 1, none⟩ = some (.slice p3 L.length e3) ∧ W.cell? ⟨N, 0, none⟩ = some (.slice na ys.length nc) ∧ W.cell? ⟨N, 1, none⟩ = some (.slice nb M.length nc2) ∧ W.cell? ⟨E, 0, none⟩ = some (.slice z1 zs.length y1) ∧ W.cell? ⟨E, 1, none⟩ = some (.slice z2 ZL.length y2))) (by kernel_rfl) ?_ (fun hHeld => ?_)
              · first | exact HKS.out _ HB6.out | exact HKS.out _ HB6.out.drew | exact HKS.out _ (below_drewN HB6.out _)
              refine wpAnyH_take (i := 0) (v := ?_) rfl (by kernel_rfl) (by kernel_rfl) (by kernel_rfl) (fun _ _ _ h => h) (Or.inl ⟨by rfl, ?_⟩) (by assumption) ?_
              rotate_left
              · ((intro w hSw; (try dsimp only at hSw); go_simp) <;> with_reducible rfl)
              try simp only [Act.put, List.setIfInBounds_toArray, List.set_cons_zero, List.set_cons_succ, List.getElem_toArray, List.getElem_cons_zero]
              refine wpAnyH_take (i := 1) (v := ?_) rfl (by kernel_rfl) (by kernel_rfl) (by kernel_rfl) (fun _ _ _ h => h) (Or.inl ⟨by rfl, ?_⟩) (by assumption) ?_
              rotate_left
              · ((intro w hSw; (try dsimp only at hSw); go_simp) <;> with_reducible rfl)
              try simp only [Act.put, List.setIfInBounds_toArray, List.set_cons_zero, List.set_cons_succ, List.getElem_toArray, List.getElem_cons_succ, List.getElem_cons_zero]
              refine wpAnyH_take (i := 2) (v := ?_) rfl (by kernel_rfl) (by kernel_rfl) (by kernel_rfl) (fun _ _ _ h => h) (Or.inl ⟨by rfl, ?_⟩) (by assumption) ?_
              rotate_left
              · ((intro w hSw; (try dsimp only at hSw); go_simp) <;> with_reducible rfl)
              try simp only [Act.put, List.setIfInBounds_toArray, List.set_cons_zero, List.set_cons_succ, List.getElem_toArray, List.getElem_cons_succ, List.getElem_cons_zero]
              refine wpAnyH_take (i := 3) (v := ?_) rfl (by kernel_rfl) (by kernel_rfl) (by kernel_rfl) (fun _ _ _ h => h) (Or.inl ⟨by rfl, ?_⟩) (by assumption) ?_
              rotate_left
              · ((intro w hSw; (try dsimp only at hSw); go_simp) <;> with_reducible rfl)
              try simp only [Act.put, List.setIfInBounds_toArray, List.set_cons_zero, List.set_cons_succ, List.getElem_toArray, List.getElem_cons_succ, List.getElem_cons_zero]
              refine wpAnyH_take (i := 4) (v := ?_) rfl (by kernel_rfl) (by kernel_rfl) (by kernel_rfl) (fun _ _ _ h => h) (Or.inl ⟨by rfl, ?_⟩) (by assumption) ?_
              rotate_left
              · ((intro w hSw; (try dsimp only at hSw); go_simp) <;> with_reducible rfl)
              try simp only [Act.put, List.setIfInBounds_toArray, List.set_cons_zero, List.set_cons_succ, List.getElem_toArray, List.getElem_cons_succ, List.getElem_cons_zero]
              refine wpAnyH_take (i := 5) (v := ?_) rfl (by kernel_rfl) (by kernel_rfl) (by kernel_rfl) (fun _ _ _ h => h) (Or.inl ⟨by rfl, ?_⟩) (by assumption) ?_
              rotate_left
              · ((intro w hSw; (try dsimp only at hSw); go_simp) <;> with_reducible rfl)
              try simp only [Act.put, List.setIfInBounds_toArray, List.set_cons_zero, List.set_cons_succ, List.getElem_toArray, List.getElem_cons_succ, List.getElem_cons_zero]
              refine wpAnyH_take (i := 7) (v := ?_) rfl (by kernel_rfl) (by kernel_rfl) (by kernel_rfl) (fun _ _ _ h => h) (Or.inl ⟨by rfl, ?_⟩) (by assumption) ?_
              rotate_left
              · ((intro w hSw; (try dsimp only at hSw); go_simp) <;> with_reducible rfl)
              try simp only [Act.put, List.setIfInBounds_toArray, List.set_cons_zero, List.set_cons_succ, List.getElem_toArray, List.getElem_cons_succ, List.getElem_cons_zero]
              refine wpAnyH_take (i := 8) (v := ?_) rfl (by kernel_rfl) (by kernel_rfl) (by kernel_rfl) (fun _ _ _ h => h) (Or.inl ⟨by rfl, ?_⟩) (by assumption) ?_
              rotate_left
              · ((intro w hSw; (try dsimp only at hSw); go_simp) <;> with_reducible rfl)
              try simp only [Act.put, List.setIfInBounds_toArray, List.set_cons_zero, List.set_cons_succ, List.getElem_toArray, List.getElem_cons_succ, List.getElem_cons_zero]
              refine wpAnyH_take (i := 9) (v := ?_) rfl (by kernel_rfl) (by kernel_rfl) (by kernel_rfl) (fun _ _ _ h => h) (Or.inl ⟨by rfl, ?_⟩) (by assumption) ?_
              rotate_left
              · ((intro w hSw; (try dsimp only at hSw); go_simp) <;> with_reducible rfl)
              try simp only [Act.put, List.setIfInBounds_toArray, List.set_cons_zero, List.set_cons_succ, List.getElem_toArray, List.getElem_cons_succ, List.getElem_cons_zero]
              refine wpAnyH_ready (rs := [6]) (by kernel_rfl) (by simp) ?_
              refine AllReadyH.cons rfl (fun K hK => ?_) AllReadyH.nil
              go_simp
              refine (HJT.out _ (by first | with_reducible exact HB6.out | with_reducible exact HB6.out.drew | with_reducible exact below_drewN HB6.out _)).mono ?_
              rintro e w16 ⟨rfl, hb⟩
              have HZ := Lib.hid (below_onto (show Below w15.heap.size w15 _ from (by first | with_reducible exact HB6.out | with_reducible exact HB6.out.drew | with_reducible exact below_drewN HB6.out _)) hb)
              clear HB6
              have HB6 := HZ
              clear HZ hb
              go_wp2_with fail
              refine hK.out _ _ ?_ (fun hHeld => ?_)
              · first | exact HKS.out _ HB6.out | exact HKS.out _ HB6.out.drew | exact HKS.out _ (below_drewN HB6.out _)
              clear hK K
              try simp only [Act.put, List.setIfInBounds_toArray, List.set_cons_zero, List.set_cons_succ, List.getElem_toArray, List.getElem_cons_succ, List.getElem_cons_zero]
              refine wpAnyH_take (i := 10) (v := ?_) rfl (by kernel_rfl) (by kernel_rfl) (by kernel_rfl) (fun _ _ _ h => h) (Or.inl ⟨by rfl, ?_⟩) (by assumption) ?_
              rotate_left
              · ((intro w hSw; (try dsimp only at hSw); go_simp) <;> with_reducible rfl)
              try simp only [Act.put, List.setIfInBounds_toArray, List.set_cons_zero, List.set_cons_succ, List.getElem_toArray, List.getElem_cons_succ, List.getElem_cons_zero]
              refine wpAnyH_take (i := 11) (v := ?_) rfl (by kernel_rfl) (by kernel_rfl) (by kernel_rfl) (fun _ _ _ h => h) (Or.inl ⟨by rfl, ?_⟩) (by assumption) ?_
              rotate_left
              · ((intro w hSw; (try dsimp only at hSw); go_simp) <;> with_reducible rfl)
              try simp only [Act.put, List.setIfInBounds_toArray, List.set_cons_zero, List.set_cons_succ, List.getElem_toArray, List.getElem_cons_succ, List.getElem_cons_zero]
              refine wpAnyH_take (i := 12) (v := ?_) rfl (by kernel_rfl) (by kernel_rfl) (by kernel_rfl) (fun _ _ _ h => h) (Or.inl ⟨by rfl, ?_⟩) (by assumption) ?_
              rotate_left
              · ((intro w hSw; (try dsimp only at hSw); go_simp) <;> with_reducible rfl)
              try simp only [Act.put, List.setIfInBounds_toArray, List.set_cons_zero, List.set_cons_succ, List.getElem_toArray, List.getElem_cons_succ, List.getElem_cons_zero]
              refine wpAnyH_take (i := 13) (v := ?_) rfl (by kernel_rfl) (by kernel_rfl) (by kernel_rfl) (fun _ _ _ h => h) (Or.inl ⟨by rfl, ?_⟩) (by assumption) ?_
              rotate_left
              · ((intro w hSw; (try dsimp only at hSw); go_simp) <;> with_reducible rfl)
              try simp only [Act.put, List.setIfInBounds_toArray, List.set_cons_zero, List.set_cons_succ, List.getElem_toArray, List.getElem_cons_succ, List.getElem_cons_zero]
              refine wpAnyH_ready (rs := [14]) (by kernel_rfl) (by simp) ?_
              refine AllReadyH.cons rfl (fun K hK => ?_) AllReadyH.nil
              go_simp
              refine (specDeskOk_any _ xs L _ (HV15.out.d.kept (by first | with_reducible exact HB6.out | with_reducible exact HB6.out.drew | with_reducible exact below_drewN HB6.out _))).mono ?_
              rintro e w17 ⟨rfl, hb⟩
              rw [HDK.out]
              have HZ := Lib.hid (below_onto (show Below w15.heap.size w15 _ from (by first | with_reducible exact HB6.out | with_reducible exact HB6.out.drew | with_reducible exact below_drewN HB6.out _)) hb)
              clear HB6
              have HB6 := HZ
              clear HZ hb
              go_wp2_with fail
              refine hK.out _ _ ?_ (fun hHeld => ?_)
              · first | exact HKS.out _ HB6.out | exact HKS.out _ HB6.out.drew | exact HKS.out _ (below_drewN HB6.out _)
              clear hK K
              try simp only [Act.put, List.setIfInBounds_toArray, List.set_cons_zero, List.set_cons_succ, List.getElem_toArray, List.getElem_cons_succ, List.getElem_cons_zero]
              refine wpAnyH_take (i := 15) (v := ?_) rfl (by kernel_rfl) (by kernel_rfl) (by kernel_rfl) (fun _ _ _ h => h) (Or.inl ⟨by rfl, ?_⟩) (by assumption) ?_
              rotate_left
              · ((intro w hSw; (try dsimp only at hSw); go_simp) <;> with_reducible rfl)
              try simp only [Act.put, List.setIfInBounds_toArray, List.set_cons_zero, List.set_cons_succ, List.getElem_toArray, List.getElem_cons_succ, List.getElem_cons_zero]
              refine wpAnyH_take (i := 16) (v := ?_) rfl (by kernel_rfl) (by kernel_rfl) (by kernel_rfl) (fun _ _ _ h => h) (Or.inl ⟨by rfl, ?_⟩) (by assumption) ?_
              rotate_left
              · ((intro w hSw; (try dsimp only at hSw); go_simp) <;> with_reducible rfl)
              try simp only [Act.put, List.setIfInBounds_toArray, List.set_cons_zero, List.set_cons_succ, List.getElem_toArray, List.getElem_cons_succ, List.getElem_cons_zero]
              refine wpAnyH_take (i := 17) (v := ?_) rfl (by kernel_rfl) (by kernel_rfl) (by kernel_rfl) (fun _ _ _ h => h) (Or.inl ⟨by rfl, ?_⟩) (by assumption) ?_
              rotate_left
              · ((intro w hSw; (try dsimp only at hSw); go_simp) <;> with_reducible rfl)
              try simp only [Act.put, List.setIfInBounds_toArray, List.set_cons_zero, List.set_cons_succ, List.getElem_toArray, List.getElem_cons_succ, List.getElem_cons_zero]
              refine wpAnyH_take (i := 18) (v := ?_) rfl (by kernel_rfl) (by kernel_rfl) (by kernel_rfl) (fun _ _ _ h => h) (Or.inl ⟨by rfl, ?_⟩) (by assumption) ?_
              rotate_left
              · ((intro w hSw; (try dsimp only at hSw); go_simp) <;> with_reducible rfl)
              try simp only [Act.put, List.setIfInBounds_toArray, List.set_cons_zero, List.set_cons_succ, List.getElem_toArray, List.getElem_cons_succ, List.getElem_cons_zero]
              refine wpAnyH_take (i := 19) (v := ?_) rfl (by kernel_rfl) (by kernel_rfl) (by kernel_rfl) (fun _ _ _ h => h) (Or.inl ⟨by rfl, ?_⟩) (by assumption) ?_
              rotate_left
              · ((intro w hSw; (try dsimp only at hSw); go_simp) <;> with_reducible rfl)
              try simp only [Act.put, List.setIfInBounds_toArray, List.set_cons_zero, List.set_cons_succ, List.getElem_toArray, List.getElem_cons_succ, List.getElem_cons_zero]
              refine wpAnyH_take (i := 20) (v := ?_) rfl (by kernel_rfl) (by kernel_rfl) (by kernel_rfl) (fun _ _ _ h => h) (Or.inl ⟨by rfl, ?_⟩) (by assumption) ?_
              rotate_left
              · ((intro w hSw; (try dsimp only at hSw); go_simp) <;> with_reducible rfl)
              try simp only [Act.put, List.setIfInBounds_toArray, List.set_cons_zero, List.set_cons_succ, List.getElem_toArray, List.getElem_cons_succ, List.getElem_cons_zero]
              refine wpAnyH_take (i := 21) (v := ?_) rfl (by kernel_rfl) (by kernel_rfl) (by kernel_rfl) (fun _ _ _ h => h) (Or.inl ⟨by rfl, ?_⟩) (by assumption) ?_
              rotate_left
              · ((intro w hSw; (try dsimp only at hSw); go_simp) <;> with_reducible rfl)
              try simp only [Act.put, List.setIfInBounds_toArray, List.set_cons_zero, List.set_cons_succ, List.getElem_toArray, List.getElem_cons_succ, List.getElem_cons_zero]
              refine wpAnyH_take (i := 22) (v := ?_) rfl (by kernel_rfl) (by kernel_rfl) (by kernel_rfl) (fun _ _ _ h => h) (Or.inl ⟨by rfl, ?_⟩) (by assumption) ?_
              rotate_left
              · ((intro w hSw; (try dsimp only at hSw); go_simp) <;> with_reducible rfl)
              try simp only [Act.put, List.setIfInBounds_toArray, List.set_cons_zero, List.set_cons_succ, List.getElem_toArray, List.getElem_cons_succ, List.getElem_cons_zero]
              refine wpAnyH_take (i := 23) (v := ?_) rfl (by kernel_rfl) (by kernel_rfl) (by kernel_rfl) (fun _ _ _ h => h) (Or.inl ⟨by rfl, ?_⟩) (by assumption) ?_
              rotate_left
              · ((intro w hSw; (try dsimp only at hSw); go_simp) <;> with_reducible rfl)
              try simp only [Act.put, List.setIfInBounds_toArray, List.set_cons_zero, List.set_cons_succ, List.getElem_toArray, List.getElem_cons_succ, List.getElem_cons_zero]
              refine wpAnyH_ready (rs := [24]) (by kernel_rfl) (by simp) ?_
              refine AllReadyH.cons rfl (fun K hK => ?_) AllReadyH.nil
              go_simp
              refine (HSM.out _ (by first | with_reducible exact HB6.out | with_reducible exact HB6.out.drew | with_reducible exact below_drewN HB6.out _)).mono ?_
              rintro e w18 ⟨rfl, hb⟩
              have HZ := Lib.hid (below_onto (show Below w15.heap.size w15 _ from (by first | with_reducible exact HB6.out | with_reducible exact HB6.out.drew | with_reducible exact below_drewN HB6.out _)) hb)
              clear HB6
              have HB6 := HZ
              clear HZ hb
              go_wp2_with fail
              refine hK.out _ _ ?_ (fun hHeld => ?_)
              · first | exact HKS.out _ HB6.out | exact HKS.out _ HB6.out.drew | exact HKS.out _ (below_drewN HB6.out _)
              clear hK K
              try simp only [Act.put, List.setIfInBounds_toArray, List.set_cons_zero, List.set_cons_succ, List.getElem_toArray, List.getElem_cons_succ, List.getElem_cons_zero]
              refine wpAnyH_take (i := 25) (v := ?_) rfl (by kernel_rfl) (by kernel_rfl) (by kernel_rfl) (fun _ _ _ h => h) (Or.inl ⟨by rfl, ?_⟩) (by assumption) ?_
              rotate_left
              · ((intro w hSw; (try dsimp only at hSw); go_simp) <;> with_reducible rfl)
              try simp only [Act.put, List.setIfInBounds_toArray, List.set_cons_zero, List.set_cons_succ, List.getElem_toArray, List.getElem_cons_succ, List.getElem_cons_zero]
              refine wpAnyH_take (i := 26) (v := ?_) rfl (by kernel_rfl) (by kernel_rfl) (by kernel_rfl) (fun _ _ _ h => h) (Or.inl ⟨by rfl, ?_⟩) (by assumption) ?_
              rotate_left
              · ((intro w hSw; (try dsimp only at hSw); go_simp) <;> with_reducible rfl)
              try simp only [Act.put, List.setIfInBounds_toArray, List.set_cons_zero, List.set_cons_succ, List.getElem_toArray, List.getElem_cons_succ, List.getElem_cons_zero]
              refine wpAnyH_take (i := 27) (v := ?_) rfl (by kernel_rfl) (by kernel_rfl) (by kernel_rfl) (fun _ _ _ h => h) (Or.inl ⟨by rfl, ?_⟩) (by assumption) ?_
              rotate_left
              · ((intro w hSw; (try dsimp only at hSw); go_simp) <;> with_reducible rfl)
              try simp only [Act.put, List.setIfInBounds_toArray, List.set_cons_zero, List.set_cons_succ, List.getElem_toArray, List.getElem_cons_succ, List.getElem_cons_zero]
              refine wpAnyH_ready (rs := [28]) (by kernel_rfl) (by simp) ?_
              refine AllReadyH.cons rfl (fun K hK => ?_) AllReadyH.nil
              go_simp
              refine (alive_any _).mono ?_
              rintro e w19 ⟨rfl, hb⟩
              have HZ := Lib.hid (below_onto (show Below w15.heap.size w15 _ from (by first | with_reducible exact HB6.out | with_reducible exact HB6.out.drew | with_reducible exact below_drewN HB6.out _)) hb)
              clear HB6
              have HB6 := HZ
              clear HZ hb
              go_wp2_with fail
              refine hK.out _ _ ?_ (fun hHeld => ?_)
              · first | exact HKS.out _ HB6.out | exact HKS.out _ HB6.out.drew | exact HKS.out _ (below_drewN HB6.out _)
              clear hK K
              try simp only [Act.put, List.setIfInBounds_toArray, List.set_cons_zero, List.set_cons_succ, List.getElem_toArray, List.getElem_cons_succ, List.getElem_cons_zero]
              refine wpAnyH_take (i := 29) (v := ?_) rfl (by kernel_rfl) (by kernel_rfl) (by kernel_rfl) (fun _ _ _ h => h) (Or.inl ⟨by rfl, ?_⟩) (by assumption) ?_
              rotate_left
              · ((intro w hSw; (try dsimp only at hSw); go_simp) <;> with_reducible rfl)
              try simp only [Act.put, List.setIfInBounds_toArray, List.set_cons_zero, List.set_cons_succ, List.getElem_toArray, List.getElem_cons_succ, List.getElem_cons_zero]
              refine wpAnyH_take (i := 30) (v := ?_) rfl (by kernel_rfl) (by kernel_rfl) (by kernel_rfl) (fun _ _ _ h => h) (Or.inl ⟨by rfl, ?_⟩) (by assumption) ?_
              rotate_left
              · ((intro w hSw; (try dsimp only at hSw); go_simp) <;> with_reducible rfl)
              try simp only [Act.put, List.setIfInBounds_toArray, List.set_cons_zero, List.set_cons_succ, List.getElem_toArray, List.getElem_cons_succ, List.getElem_cons_zero]
              refine wpAnyH_done (by kernel_rfl) ?_ _
              refine NoPanic.normal ?_
              go_wp2_with fail
              go_ret
              exact ⟨rfl, below_onto HB15.out (by first | exact HB6.out | exact HB6.out.drew | exact below_drewN HB6.out _)⟩
            · have h40b : decide ((40 : Int) < (nd : Int)) = true := decide_eq_true (by omega)
              have h40c : decide (40 < nd) = true := decide_eq_true (by omega)
              clear HNT HINV
              obtain ⟨g1, g2, _⟩ := dr_no (show drB xs L ds = false by unfold drB; rw [HND.out, decide_eq_false h40, Bool.and_false])
              have hkd := drr_okD xs L ds
              have HRUN := Lib.hid (DeskRun_any _ xs L p ds cp wt HVT.out.d HDDT.out)
              rw [HND.out] at HRUN
              obtain ⟨zs, hzs⟩ : ∃ zs, drX xs L ds = zs := ⟨_, rfl⟩
              obtain ⟨ZL, hZL⟩ : ∃ ZL, drL xs L ds = ZL := ⟨_, rfl⟩
              obtain ⟨zn, hzn⟩ : ∃ zn, drN xs L ds = zn := ⟨_, rfl⟩
              rw [hzs, hZL] at hkd
              rw [hzs, hZL, hzn] at HRUN
              rw [hzs] at g1
              rw [hZL] at g2
              have HKD := Lib.hid hkd
              clear hkd hzs hZL hzn g1 g2
              have hv0 := HVT.out.blk.cell.1; have hv1 := HVT.out.blk.cell.2
              go_wp2_with fail
              refine HRUN.out.mono ?_
              rintro e w14 ⟨v3, v4, rfl, hg⟩
              obtain ⟨z1, y1, z2, y2, rfl, rfl, hde, hb⟩ := HKD.out.gives hg
              have hal := alloc_below w14 (.cells #[.slice z1 zs.length y1, .slice z2 ZL.length y2] 31)
              have HE := Lib.hid (VarD.new hde)
              replace hb := below_onto hb hal
              have HV15 := Lib.hid (HVT.out.kept hb); have HDD15 := Lib.hid (HDDT.out.kept hb); have HB15 := Lib.hid (below_onto HBT.out hb)
              obtain ⟨w15, hw15⟩ : ∃ w15, w14.alloc (.cells #[.slice z1 zs.length y1, .slice z2 ZL.length y2] 31) = w15 := ⟨_, rfl⟩
              obtain ⟨E, hE⟩ : ∃ E, w14.heap.size = E := ⟨_, rfl⟩
              rw [hw15] at HE HV15 HDD15 HB15
              rw [hE] at HE
              have hvs0 := HV15.out.blk.cell.1; have hvs1 := HV15.out.blk.cell.2
              clear hg hde hb hal hv0 hv1
              obtain ⟨tt, htt⟩ : ∃ tt, bs (jtL ds) = tt := ⟨_, rfl⟩
              have htx := HTX.out
              rw [htt] at htx
              have HSL := Lib.hid (fun W => headSl2 s m (by rw [HSZ.out]; exact hmany) W)
              rw [← htx] at HSL
              have hsl := HSL.out
              have HJT := Lib.hid (show ∀ W, Below w15.heap.size w15 W → Calls Tryz.prog 17 #[.slice p nd cp] W fun e w' => e = .returned (.string tt) ∧ Below W.heap.size W w' from fun W hW => by
                have := JournalText_any p ds cp (by rw [HND.out]; omega) W (HDD15.out.kept hW)
                rw [HND.out, htt] at this
                exact this)
              have hle : decide ((m : Int) ≤ (s.size : Int)) = true := decide_eq_true (by rw [HSZ.out]; omega)
              have hle2 : decide (m ≤ s.size) = true := decide_eq_true (by rw [HSZ.out]; omega)
              have heq : (tt.toList == tt.toList) = true := by simp
              have HKS := Lib.hid (show ∀ W, Below w15.heap.size w15 W → (W.cell? ⟨D, 0, none⟩ = some (.slice p1 xs.length e1) ∧ W.cell? ⟨D, 1, none⟩ = some (.slice p3 L.length e3)) from fun W hW => (HV15.out.kept hW).blk.cell)
              clear htt htx
              go_upto_region 24 with fail
              clear hw15 hE hvs0 hvs1
              have HB6 := Lib.hid (Below.refl w15.heap.size w15)
              refine wp_region_noPanic ?_
              refine wp_region_held_drew (S := (fun W => W.cell? ⟨D, 0, none⟩ = some (.slice p1 xs.length e1) ∧ W.cell? ⟨D, 1, none⟩ = some (.slice p3 L.length e3))) (by kernel_rfl) ?_ (fun hHeld => ?_)
              · first | exact HKS.out _ HB6.out | exact HKS.out _ HB6.out.drew | exact HKS.out _ (below_drewN HB6.out _)
              refine wpAnyH_take (i := 0) (v := ?_) rfl (by kernel_rfl) (by kernel_rfl) (by kernel_rfl) (fun _ _ _ h => h) (Or.inl ⟨by rfl, ?_⟩) (by assumption) ?_
              rotate_left
              · ((intro w hSw; (try dsimp only at hSw); go_simp) <;> with_reducible rfl)
              try simp only [Act.put, List.setIfInBounds_toArray, List.set_cons_zero, List.set_cons_succ, List.getElem_toArray, List.getElem_cons_zero]
              refine wpAnyH_take (i := 1) (v := ?_) rfl (by kernel_rfl) (by kernel_rfl) (by kernel_rfl) (fun _ _ _ h => h) (Or.inl ⟨by rfl, ?_⟩) (by assumption) ?_
              rotate_left
              · ((intro w hSw; (try dsimp only at hSw); go_simp) <;> with_reducible rfl)
              try simp only [Act.put, List.setIfInBounds_toArray, List.set_cons_zero, List.set_cons_succ, List.getElem_toArray, List.getElem_cons_succ, List.getElem_cons_zero]
              refine wpAnyH_take (i := 2) (v := ?_) rfl (by kernel_rfl) (by kernel_rfl) (by kernel_rfl) (fun _ _ _ h => h) (Or.inl ⟨by rfl, ?_⟩) (by assumption) ?_
              rotate_left
              · ((intro w hSw; (try dsimp only at hSw); go_simp) <;> with_reducible rfl)
              try simp only [Act.put, List.setIfInBounds_toArray, List.set_cons_zero, List.set_cons_succ, List.getElem_toArray, List.getElem_cons_succ, List.getElem_cons_zero]
              refine wpAnyH_take (i := 3) (v := ?_) rfl (by kernel_rfl) (by kernel_rfl) (by kernel_rfl) (fun _ _ _ h => h) (Or.inl ⟨by rfl, ?_⟩) (by assumption) ?_
              rotate_left
              · ((intro w hSw; (try dsimp only at hSw); go_simp) <;> with_reducible rfl)
              try simp only [Act.put, List.setIfInBounds_toArray, List.set_cons_zero, List.set_cons_succ, List.getElem_toArray, List.getElem_cons_succ, List.getElem_cons_zero]
              refine wpAnyH_take (i := 4) (v := ?_) rfl (by kernel_rfl) (by kernel_rfl) (by kernel_rfl) (fun _ _ _ h => h) (Or.inl ⟨by rfl, ?_⟩) (by assumption) ?_
              rotate_left
              · ((intro w hSw; (try dsimp only at hSw); go_simp) <;> with_reducible rfl)
              try simp only [Act.put, List.setIfInBounds_toArray, List.set_cons_zero, List.set_cons_succ, List.getElem_toArray, List.getElem_cons_succ, List.getElem_cons_zero]
              refine wpAnyH_take (i := 5) (v := ?_) rfl (by kernel_rfl) (by kernel_rfl) (by kernel_rfl) (fun _ _ _ h => h) (Or.inl ⟨by rfl, ?_⟩) (by assumption) ?_
              rotate_left
              · ((intro w hSw; (try dsimp only at hSw); go_simp) <;> with_reducible rfl)
              try simp only [Act.put, List.setIfInBounds_toArray, List.set_cons_zero, List.set_cons_succ, List.getElem_toArray, List.getElem_cons_succ, List.getElem_cons_zero]
              refine wpAnyH_take (i := 7) (v := ?_) rfl (by kernel_rfl) (by kernel_rfl) (by kernel_rfl) (fun _ _ _ h => h) (Or.inl ⟨by rfl, ?_⟩) (by assumption) ?_
              rotate_left
              · ((intro w hSw; (try dsimp only at hSw); go_simp) <;> with_reducible rfl)
              try simp only [Act.put, List.setIfInBounds_toArray, List.set_cons_zero, List.set_cons_succ, List.getElem_toArray, List.getElem_cons_succ, List.getElem_cons_zero]
              refine wpAnyH_take (i := 8) (v := ?_) rfl (by kernel_rfl) (by kernel_rfl) (by kernel_rfl) (fun _ _ _ h => h) (Or.inl ⟨by rfl, ?_⟩) (by assumption) ?_
              rotate_left
              · ((intro w hSw; (try dsimp only at hSw); go_simp) <;> with_reducible rfl)
              try simp only [Act.put, List.setIfInBounds_toArray, List.set_cons_zero, List.set_cons_succ, List.getElem_toArray, List.getElem_cons_succ, List.getElem_cons_zero]
              refine wpAnyH_take (i := 9) (v := ?_) rfl (by kernel_rfl) (by kernel_rfl) (by kernel_rfl) (fun _ _ _ h => h) (Or.inl ⟨by rfl, ?_⟩) (by assumption) ?_
              rotate_left
              · ((intro w hSw; (try dsimp only at hSw); go_simp) <;> with_reducible rfl)
              try simp only [Act.put, List.setIfInBounds_toArray, List.set_cons_zero, List.set_cons_succ, List.getElem_toArray, List.getElem_cons_succ, List.getElem_cons_zero]
              refine wpAnyH_ready (rs := [6]) (by kernel_rfl) (by simp) ?_
              refine AllReadyH.cons rfl (fun K hK => ?_) AllReadyH.nil
              go_simp
              refine (HJT.out _ (by first | with_reducible exact HB6.out | with_reducible exact HB6.out.drew | with_reducible exact below_drewN HB6.out _)).mono ?_
              rintro e w16 ⟨rfl, hb⟩
              have HZ := Lib.hid (below_onto (show Below w15.heap.size w15 _ from (by first | with_reducible exact HB6.out | with_reducible exact HB6.out.drew | with_reducible exact below_drewN HB6.out _)) hb)
              clear HB6
              have HB6 := HZ
              clear HZ hb
              go_wp2_with fail
              refine hK.out _ _ ?_ (fun hHeld => ?_)
              · first | exact HKS.out _ HB6.out | exact HKS.out _ HB6.out.drew | exact HKS.out _ (below_drewN HB6.out _)
              clear hK K
              try simp only [Act.put, List.setIfInBounds_toArray, List.set_cons_zero, List.set_cons_succ, List.getElem_toArray, List.getElem_cons_succ, List.getElem_cons_zero]
              refine wpAnyH_take (i := 10) (v := ?_) rfl (by kernel_rfl) (by kernel_rfl) (by kernel_rfl) (fun _ _ _ h => h) (Or.inl ⟨by rfl, ?_⟩) (by assumption) ?_
              rotate_left
              · ((intro w hSw; (try dsimp only at hSw); go_simp) <;> with_reducible rfl)
              try simp only [Act.put, List.setIfInBounds_toArray, List.set_cons_zero, List.set_cons_succ, List.getElem_toArray, List.getElem_cons_succ, List.getElem_cons_zero]
              refine wpAnyH_take (i := 11) (v := ?_) rfl (by kernel_rfl) (by kernel_rfl) (by kernel_rfl) (fun _ _ _ h => h) (Or.inl ⟨by rfl, ?_⟩) (by assumption) ?_
              rotate_left
              · ((intro w hSw; (try dsimp only at hSw); go_simp) <;> with_reducible rfl)
              try simp only [Act.put, List.setIfInBounds_toArray, List.set_cons_zero, List.set_cons_succ, List.getElem_toArray, List.getElem_cons_succ, List.getElem_cons_zero]
              refine wpAnyH_take (i := 12) (v := ?_) rfl (by kernel_rfl) (by kernel_rfl) (by kernel_rfl) (fun _ _ _ h => h) (Or.inl ⟨by rfl, ?_⟩) (by assumption) ?_
              rotate_left
              · ((intro w hSw; (try dsimp only at hSw); go_simp) <;> with_reducible rfl)
              try simp only [Act.put, List.setIfInBounds_toArray, List.set_cons_zero, List.set_cons_succ, List.getElem_toArray, List.getElem_cons_succ, List.getElem_cons_zero]
              refine wpAnyH_take (i := 13) (v := ?_) rfl (by kernel_rfl) (by kernel_rfl) (by kernel_rfl) (fun _ _ _ h => h) (Or.inl ⟨by rfl, ?_⟩) (by assumption) ?_
              rotate_left
              · ((intro w hSw; (try dsimp only at hSw); go_simp) <;> with_reducible rfl)
              try simp only [Act.put, List.setIfInBounds_toArray, List.set_cons_zero, List.set_cons_succ, List.getElem_toArray, List.getElem_cons_succ, List.getElem_cons_zero]
              refine wpAnyH_ready (rs := [14]) (by kernel_rfl) (by simp) ?_
              refine AllReadyH.cons rfl (fun K hK => ?_) AllReadyH.nil
              go_simp
              refine (specDeskOk_any _ xs L _ (HV15.out.d.kept (by first | with_reducible exact HB6.out | with_reducible exact HB6.out.drew | with_reducible exact below_drewN HB6.out _))).mono ?_
              rintro e w17 ⟨rfl, hb⟩
              rw [HDK.out]
              have HZ := Lib.hid (below_onto (show Below w15.heap.size w15 _ from (by first | with_reducible exact HB6.out | with_reducible exact HB6.out.drew | with_reducible exact below_drewN HB6.out _)) hb)
              clear HB6
              have HB6 := HZ
              clear HZ hb
              go_wp2_with fail
              refine hK.out _ _ ?_ (fun hHeld => ?_)
              · first | exact HKS.out _ HB6.out | exact HKS.out _ HB6.out.drew | exact HKS.out _ (below_drewN HB6.out _)
              clear hK K
              try simp only [Act.put, List.setIfInBounds_toArray, List.set_cons_zero, List.set_cons_succ, List.getElem_toArray, List.getElem_cons_succ, List.getElem_cons_zero]
              refine wpAnyH_take (i := 15) (v := ?_) rfl (by kernel_rfl) (by kernel_rfl) (by kernel_rfl) (fun _ _ _ h => h) (Or.inl ⟨by rfl, ?_⟩) (by assumption) ?_
              rotate_left
              · ((intro w hSw; (try dsimp only at hSw); go_simp) <;> with_reducible rfl)
              try simp only [Act.put, List.setIfInBounds_toArray, List.set_cons_zero, List.set_cons_succ, List.getElem_toArray, List.getElem_cons_succ, List.getElem_cons_zero]
              refine wpAnyH_take (i := 16) (v := ?_) rfl (by kernel_rfl) (by kernel_rfl) (by kernel_rfl) (fun _ _ _ h => h) (Or.inl ⟨by rfl, ?_⟩) (by assumption) ?_
              rotate_left
              · ((intro w hSw; (try dsimp only at hSw); go_simp) <;> with_reducible rfl)
              try simp only [Act.put, List.setIfInBounds_toArray, List.set_cons_zero, List.set_cons_succ, List.getElem_toArray, List.getElem_cons_succ, List.getElem_cons_zero]
              refine wpAnyH_take (i := 17) (v := ?_) rfl (by kernel_rfl) (by kernel_rfl) (by kernel_rfl) (fun _ _ _ h => h) (Or.inl ⟨by rfl, ?_⟩) (by assumption) ?_
              rotate_left
              · ((intro w hSw; (try dsimp only at hSw); go_simp) <;> with_reducible rfl)
              try simp only [Act.put, List.setIfInBounds_toArray, List.set_cons_zero, List.set_cons_succ, List.getElem_toArray, List.getElem_cons_succ, List.getElem_cons_zero]
              refine wpAnyH_take (i := 18) (v := ?_) rfl (by kernel_rfl) (by kernel_rfl) (by kernel_rfl) (fun _ _ _ h => h) (Or.inl ⟨by rfl, ?_⟩) (by assumption) ?_
              rotate_left
              · ((intro w hSw; (try dsimp only at hSw); go_simp) <;> with_reducible rfl)
              try simp only [Act.put, List.setIfInBounds_toArray, List.set_cons_zero, List.set_cons_succ, List.getElem_toArray, List.getElem_cons_succ, List.getElem_cons_zero]
              refine wpAnyH_take (i := 19) (v := ?_) rfl (by kernel_rfl) (by kernel_rfl) (by kernel_rfl) (fun _ _ _ h => h) (Or.inl ⟨by rfl, ?_⟩) (by assumption) ?_
              rotate_left
              · ((intro w hSw; (try dsimp only at hSw); go_simp) <;> with_reducible rfl)
              try simp only [Act.put, List.setIfInBounds_toArray, List.set_cons_zero, List.set_cons_succ, List.getElem_toArray, List.getElem_cons_succ, List.getElem_cons_zero]
              refine wpAnyH_take (i := 20) (v := ?_) rfl (by kernel_rfl) (by kernel_rfl) (by kernel_rfl) (fun _ _ _ h => h) (Or.inl ⟨by rfl, ?_⟩) (by assumption) ?_
              rotate_left
              · ((intro w hSw; (try dsimp only at hSw); go_simp) <;> with_reducible rfl)
              try simp only [Act.put, List.setIfInBounds_toArray, List.set_cons_zero, List.set_cons_succ, List.getElem_toArray, List.getElem_cons_succ, List.getElem_cons_zero]
              refine wpAnyH_take (i := 21) (v := ?_) rfl (by kernel_rfl) (by kernel_rfl) (by kernel_rfl) (fun _ _ _ h => h) (Or.inl ⟨by rfl, ?_⟩) (by assumption) ?_
              rotate_left
              · ((intro w hSw; (try dsimp only at hSw); go_simp) <;> with_reducible rfl)
              try simp only [Act.put, List.setIfInBounds_toArray, List.set_cons_zero, List.set_cons_succ, List.getElem_toArray, List.getElem_cons_succ, List.getElem_cons_zero]
              refine wpAnyH_take (i := 22) (v := undef) rfl (by kernel_rfl) (by kernel_rfl) (by kernel_rfl) (fun _ _ _ h => h) (Or.inr ⟨by rfl, rfl⟩) (by assumption) ?_
              try simp only [Act.put, List.setIfInBounds_toArray, List.set_cons_zero, List.set_cons_succ, List.getElem_toArray, List.getElem_cons_succ, List.getElem_cons_zero]
              refine wpAnyH_take (i := 23) (v := undef) rfl (by kernel_rfl) (by kernel_rfl) (by kernel_rfl) (fun _ _ _ h => h) (Or.inr ⟨by rfl, rfl⟩) (by assumption) ?_
              try simp only [Act.put, List.setIfInBounds_toArray, List.set_cons_zero, List.set_cons_succ, List.getElem_toArray, List.getElem_cons_succ, List.getElem_cons_zero]
              refine wpAnyH_take (i := 24) (v := undef) rfl (by kernel_rfl) (by kernel_rfl) (by kernel_rfl) (fun _ _ _ h => h) (Or.inr ⟨by rfl, rfl⟩) (by assumption) ?_
              try simp only [Act.put, List.setIfInBounds_toArray, List.set_cons_zero, List.set_cons_succ, List.getElem_toArray, List.getElem_cons_succ, List.getElem_cons_zero]
              refine wpAnyH_take (i := 25) (v := ?_) rfl (by kernel_rfl) (by kernel_rfl) (by kernel_rfl) (fun _ _ _ h => h) (Or.inl ⟨by rfl, ?_⟩) (by assumption) ?_
              rotate_left
              · ((intro w hSw; (try dsimp only at hSw); go_simp) <;> with_reducible rfl)
              try simp only [Act.put, List.setIfInBounds_toArray, List.set_cons_zero, List.set_cons_succ, List.getElem_toArray, List.getElem_cons_succ, List.getElem_cons_zero]
              refine wpAnyH_take (i := 26) (v := ?_) rfl (by kernel_rfl) (by kernel_rfl) (by kernel_rfl) (fun _ _ _ h => h) (Or.inl ⟨by rfl, ?_⟩) (by assumption) ?_
              rotate_left
              · ((intro w hSw; (try dsimp only at hSw); go_simp) <;> with_reducible rfl)
              try simp only [Act.put, List.setIfInBounds_toArray, List.set_cons_zero, List.set_cons_succ, List.getElem_toArray, List.getElem_cons_succ, List.getElem_cons_zero]
              refine wpAnyH_take (i := 27) (v := ?_) rfl (by kernel_rfl) (by kernel_rfl) (by kernel_rfl) (fun _ _ _ h => h) (Or.inl ⟨by rfl, ?_⟩) (by assumption) ?_
              rotate_left
              · ((intro w hSw; (try dsimp only at hSw); go_simp) <;> with_reducible rfl)
              try simp only [Act.put, List.setIfInBounds_toArray, List.set_cons_zero, List.set_cons_succ, List.getElem_toArray, List.getElem_cons_succ, List.getElem_cons_zero]
              refine wpAnyH_ready (rs := [28]) (by kernel_rfl) (by simp) ?_
              refine AllReadyH.cons rfl (fun K hK => ?_) AllReadyH.nil
              go_simp
              refine (alive_any _).mono ?_
              rintro e w19 ⟨rfl, hb⟩
              have HZ := Lib.hid (below_onto (show Below w15.heap.size w15 _ from (by first | with_reducible exact HB6.out | with_reducible exact HB6.out.drew | with_reducible exact below_drewN HB6.out _)) hb)
              clear HB6
              have HB6 := HZ
              clear HZ hb
              go_wp2_with fail
              refine hK.out _ _ ?_ (fun hHeld => ?_)
              · first | exact HKS.out _ HB6.out | exact HKS.out _ HB6.out.drew | exact HKS.out _ (below_drewN HB6.out _)
              clear hK K
              try simp only [Act.put, List.setIfInBounds_toArray, List.set_cons_zero, List.set_cons_succ, List.getElem_toArray, List.getElem_cons_succ, List.getElem_cons_zero]
              refine wpAnyH_take (i := 29) (v := ?_) rfl (by kernel_rfl) (by kernel_rfl) (by kernel_rfl) (fun _ _ _ h => h) (Or.inl ⟨by rfl, ?_⟩) (by assumption) ?_
              rotate_left
              · ((intro w hSw; (try dsimp only at hSw); go_simp) <;> with_reducible rfl)
              try simp only [Act.put, List.setIfInBounds_toArray, List.set_cons_zero, List.set_cons_succ, List.getElem_toArray, List.getElem_cons_succ, List.getElem_cons_zero]
              refine wpAnyH_take (i := 30) (v := ?_) rfl (by kernel_rfl) (by kernel_rfl) (by kernel_rfl) (fun _ _ _ h => h) (Or.inl ⟨by rfl, ?_⟩) (by assumption) ?_
              rotate_left
              · ((intro w hSw; (try dsimp only at hSw); go_simp) <;> with_reducible rfl)
              try simp only [Act.put, List.setIfInBounds_toArray, List.set_cons_zero, List.set_cons_succ, List.getElem_toArray, List.getElem_cons_succ, List.getElem_cons_zero]
              refine wpAnyH_done (by kernel_rfl) ?_ _
              refine NoPanic.normal ?_
              go_wp2_with fail
              go_ret
              exact ⟨rfl, below_onto HB15.out (by first | exact HB6.out | exact HB6.out.drew | exact below_drewN HB6.out _)⟩
end Go.Proofs.YthaickihoagnmaaGreatDoor
