import Derived.Test.YthbancphegnpdaaTxP
import Derived.Maps.OwnIn
namespace Go.Proofs.Ythbancphegnpdaa
set_option linter.unusedVariables false
set_option linter.unusedSimpArgs false
open Go.RowKit Go.Shelf Go.Maps
attribute [local go_sem] Oper.semAt_some

/-- the deeds that were read, and how many bytes -/
def RjEnd (l : List UInt8) (w : World) (e : Ending) (w' : World) : Prop := ∃ v ds, e = .returned (.tuple #[v, .int .i64 ((jtR ds).length : Int)]) ∧ IsRj l ds ∧ OwnD w' w.heap.size v ds ∧ Below w.heap.size w w'

set_option maxRecDepth 100000 in
set_option maxHeartbeats 4000000 in
theorem ReadJournal_any (s : ByteArray) (hs : s.size ≤ 1048600) (w : World) :
    Calls Try.prog 30 #[.string s] w (RjEnd s.data.toList w) := by
  refine (callsIn_wide (n := 3)).1 ?_
  refine callsIn_of_wp_marks Try.func30 rfl trivial ?_ rfl
  simp only [Try.ntmps30, List.size_toArray, List.length_cons, List.length_nil, Nat.reduceAdd, Nat.reduceSub, Array.replicate_succ, Array.replicate_zero, List.push_toArray, List.append_toArray, List.nil_append, List.cons_append]
  gi_wp2_with fail
  refine ⟨trivial, (callsIn_wide.2 (Lines_any s _)).mono ?_⟩
  rintro e w' ⟨rfl, rfl⟩
  gi_wp2_with fail
  have q1 := alloc_below w (.cells #[.slice none 0 0] 36)
  have q2 := alloc_below (w.alloc (.cells #[.slice none 0 0] 36)) (.cells #[.int .i64 0] 3)
  have q3 := alloc_below ((w.alloc (.cells #[.slice none 0 0] 36)).alloc (.cells #[.int .i64 0] 3)) (.cells #[.string s] 9)
  have b1 := Boxed.new w 36 (.slice none 0 0)
  have b2 := Boxed.new (w.alloc (.cells #[.slice none 0 0] 36)) 3 (.int .i64 0)
  have b3 := Boxed.new ((w.alloc (.cells #[.slice none 0 0] 36)).alloc (.cells #[.int .i64 0] 3)) 9 (.string s)
  simp only [alloc_size] at q1 q2 q3 b1 b2 b3
  replace b1 := (b1.alloc (.cells #[.int .i64 0] 3)).alloc (.cells #[.string s] 9)
  replace b2 := b2.alloc (.cells #[.string s] 9)
  have hb5 : Below w.heap.size w (((w.alloc (.cells #[.slice none 0 0] 36)).alloc (.cells #[.int .i64 0] 3)).alloc (.cells #[.string s] 9)) :=
    ((q1.trans (q2.mono (by omega))).trans (q3.mono (by omega)))
  have hz5 : (((w.alloc (.cells #[.slice none 0 0] 36)).alloc (.cells #[.int .i64 0] 3)).alloc (.cells #[.string s] 9)).heap.size = w.heap.size + 3 := by simp only [alloc_size]
  obtain ⟨w5, hw5⟩ : ∃ w5, (((w.alloc (.cells #[.slice none 0 0] 36)).alloc (.cells #[.int .i64 0] 3)).alloc (.cells #[.string s] 9)) = w5 := ⟨_, rfl⟩
  rw [hw5] at b1 b2 b3 hb5 hz5 ⊢
  clear hw5 q1 q2 q3
  obtain ⟨R0, hR0⟩ : ∃ R0, w.heap.size = R0 := ⟨_, rfl⟩
  have HRZ := Lib.hid hR0
  rw [hR0] at b1 b2 b3 hb5 hz5 ⊢
  have HI0 := Lib.hid (show RjI s.data.toList R0 w [] w5 from ⟨.slice none 0 0, [], b1, OwnD.nil _ _, by simp [Value.ownBlock], b2, RjS.none _, hb5, by omega⟩)
  have HB3 := Lib.hid (show Boxed w5 (R0 + 2) 9 (.string s) from b3)
  have HRW := Lib.hid (show R0 ≤ w.heap.size by omega)
  have HS5 := Lib.hid hz5
  have HSS := Lib.hid hs
  clear hR0 b1 b2 b3 hb5 hz5 hs
  obtain ⟨i0, hii, hz0, hz1, hz2⟩ := info_deed
  refine wpIn_rangeFunc_jb (Bp := R0 + 2) (S := LnS s.data.toList) (Sp := LnSp s.data.toList) (N := s.size) rfl (by omega) (gf := 67) (lb := #[.pointer (some ⟨R0 + 1 + 1, 0, none⟩)]) rfl trivial (enters_of Try.func67 (by kernel_rfl) rfl)
    (lines_stops _ (R0 + 2) s (by have := HSS.out; omega) w5 HB3.out)
    (by have := HS5.out; omega) (Below.refl _ _) (fun _ => rfl)
    (RjI s.data.toList R0 w) (RjX s.data.toList R0 w) (RjI.abide (by have := HS5.out; omega) HRW.out) (fun c => RjX.abide (by have := HS5.out; omega) HRW.out) HI0.out
    (fun x => { tmps := #[.string s, undef, .slice none 0 0, .int .i64 0, .pointer (some ⟨R0, 0, none⟩), .pointer (some ⟨R0 + 1, 0, none⟩), .string x, undef, undef, undef, undef, .string s,
      .func (.func 67) #[] #[.pointer (some ⟨R0 + 1 + 1, 0, none⟩)], .string x, undef, undef, undef, undef, undef, undef, undef, undef, undef, undef, undef, undef, undef, undef, undef, undef, undef, undef, undef, undef, undef, undef, undef, undef, undef, undef], defers := [] })
    ?assign ?body ?done ?stop
  case assign =>
    intro l x W K hK
    gi_wp2_with fail
    exact hK
  case body =>
    rintro l pre x W hI hlen hsp
    have HF := Lib.hid hsp.at
    obtain ⟨v, ds, hV⟩ := hI
    obtain ⟨av, cv, rfl⟩ := hV.own.slice
    have HV := Lib.hid hV
    have hxs := hsp.at.size
    have hpl : (jtR ds).length ≤ s.data.toList.length := hV.rj.pre.length_le
    rw [hV.rj.len] at hpl
    rw [List.length_drop] at hxs
    have hsz := Lib.size_eq s
    have HXS := Lib.hid (show x.size ≤ 1048600 ∧ totB pre + x.size ≤ 1048600 by have := HSS.out; omega)
    have HDL := Lib.hid (show ds.length ≤ 1048600 by
      have h1 : ds.length ≤ (jtR ds).length := by
        clear hV hpl HV
        induction ds with
        | nil => exact Nat.zero_le _
        | cons d ds ih => rw [jtR_cons', List.length_append, List.length_cons]; unfold lnL; simp; omega
      have := hV.rj.len; have := HSS.out; omega)
    clear hV hlen hsp hxs hpl hsz
    rcases HF.out with ⟨a, r, e1, e2, e3⟩ | ⟨e1, e2, e3⟩
    · have HE1 := Lib.hid e1; have HE2 := Lib.hid e2; have HE3 := Lib.hid e3
      have HCS := Lib.hid (show csE a 10 x = bs a from rfl)
      have HXZ := Lib.hid (show x.size = a.length + 1 by rw [e3, bs_size, List.length_append]; rfl)
      obtain ⟨t, ht⟩ : ∃ t, bs a = t := ⟨_, rfl⟩
      have HT := Lib.hid (show t.data.toList = a by rw [← ht]; rfl)
      rw [ht] at HCS
      clear e1 e2 e3 ht
      gi_wp2_with fail
      refine ⟨trivial, (CallsIn.inRound l (callsIn_wide.2 (CutSuffix_nl a 10 x HE3.out (by have := HXS.out; omega) true rfl _))).mono ?_⟩
      rintro e w' ⟨rfl, rfl⟩
      rw [HCS.out]
      gi_wp2_with fail
      refine ⟨trivial, (CallsIn.inRound l (callsIn_wide.2 (ReadDeed_any t (by have h1 : t.size = a.length := (by rw [Lib.size_eq, HT.out]); have := HXS.out; have := HXZ.out; omega) _))).mono ?_⟩
      rintro e w6 ⟨rfl, hb6⟩
      rw [HT.out]
      have HV6 := Lib.hid (HV.out.kept HRW.out hb6)
      have HKF6 := Lib.hid (keepsFrom_of (B := R0 + 3) hb6)
      have HBP6 := Lib.hid (hb6.block (R0 + 2) (by have := HV.out.size; omega))
      clear hb6
      obtain ⟨kk, hkk⟩ : ∃ k, rdK a = k := ⟨_, rfl⟩
      obtain ⟨xx, hxx⟩ : ∃ k, rdY a = k := ⟨_, rfl⟩
      rw [hkk, hxx]
      have hbel7 := alloc_below w6 (.cells #[.int .i64 kk, .int .i64 xx] 31)
      have HV7 := Lib.hid (HV6.out.kept HRW.out hbel7)
      have HKF7 := Lib.hid (HKF6.out.trans (keepsFrom_of (B := R0 + 3) hbel7))
      have HBP7 := Lib.hid ((hbel7.block (R0 + 2) (by have := HV6.out.size; omega)).trans HBP6.out)
      have hblk := Blk2.new w6 31 (.int .i64 kk) (.int .i64 xx)
      clear hbel7 HV6 HKF6 HBP6
      cases hok : rdDB a with
      | false =>
        have HX := Lib.hid (show RjX s.data.toList R0 w 0 (pre ++ [x]) (w6.alloc (.cells #[.int .i64 kk, .int .i64 xx] 31)) from ⟨rfl, _, ds, _, HV7.out, HV7.out.rj.stop HE1.out HE2.out (rdDB_none hok)⟩)
        clear hok hkk hxx hblk
        gi_wp2_with fail
        exact ⟨by rw [HS5.out]; exact HKF7.out, HX.out⟩
      | true =>
        have hrd := rdDB_some hok
        rw [hkk, hxx] at hrd
        have HRJ := Lib.hid (HV7.out.rj.more HE1.out hrd)
        obtain ⟨hq0, hq1⟩ := hblk.cell
        obtain ⟨w7, hw7⟩ : ∃ w7, w6.alloc (.cells #[.int .i64 kk, .int .i64 xx] 31) = w7 := ⟨_, rfl⟩
        obtain ⟨A7, hA7⟩ : ∃ A7, w6.heap.size = A7 := ⟨_, rfl⟩
        rw [hw7] at HV7 HKF7 HBP7 hq0 hq1
        rw [hA7] at hq0 hq1
        have hcell := HV7.out.box.cell
        have hfz := HV7.out.box.frozen
        have HRWW : Hid (w7.ownsRow R0 31 2 (.slice av ds.length cv) ds.length (cellsD ds)) := Lib.hid HV7.out.own
        have k1 : Hid (∀ (jj : Nat) (u : Value), [Value.int .i64 kk, .int .i64 xx][jj]? = some u → (w7.alloc (.cells #[.int .i64 kk, .int .i64 xx] 31)).cell? ((⟨w7.heap.size, 0, none⟩ : Addr).add jj) = some u) := Lib.hid (fun jj u h => by
          have hh : (w7.alloc (.cells #[.int .i64 kk, .int .i64 xx] 31)).heap[w7.heap.size]? = some (.cells #[.int .i64 kk, .int .i64 xx] 31) := heap_alloc_new w7 _
          rw [Addr.add_lit, Nat.zero_add]
          unfold World.cell?
          rw [hh]
          have h4 : jj < 2 := (List.getElem?_eq_some_iff.1 h).1
          have : jj = 0 ∨ jj = 1 := by omega
          rcases this with rfl | rfl <;> exact h)
        have k2 : Hid (∀ u ∈ [Value.int .i64 kk, .int .i64 xx], u.oneCell' = true) := Lib.hid (by intro u hu; simp only [List.mem_cons, List.not_mem_nil, or_false] at hu; rcases hu with rfl | rfl <;> rfl)
        have k3 : Hid (ds.length + 1 ≤ maxLen) := Lib.hid (by have := HDL.out; unfold maxLen; omega)
        have k4 : Hid ((ds.length + 1) * 16 ≤ 140737488355328) := Lib.hid (by have := HDL.out; omega)
        have k5 : Hid (R0 ≤ (w7.alloc (.cells #[.int .i64 kk, .int .i64 xx] 31)).heap.size) := Lib.hid (by rw [alloc_size]; have := HV7.out.size; omega)
        clear hok hkk hxx hblk hrd
        gi_wp2_with (gi_at_builtin; refine wpListIn_append_own_at _ rfl (.tmp 30) (.tmp 32) 36 rfl R0 31 i0 (.agg #[.int .i64 0, .int .i64 0]) 2 16 Try.underlying36 hii hz0 hz1 hz2 rfl (by decide) _ _ _ rfl (HRWW.out.alloc _) ⟨w7.heap.size, 0, none⟩ 1 1 [.int .i64 kk, .int .i64 xx] rfl rfl k1.out k2.out k3.out k4.out k5.out ?_)
        intro v' w8 hown' hgrow _ hat
        obtain ⟨g', cap', rfl⟩ := ownsRow_succ hown'
        have ho : OwnD w8 R0 (.slice (some ⟨g', 0, none⟩) (ds.length + 1) cap') (ds ++ [(kk, xx)]) := OwnD.snoc hown'
        obtain ⟨hv1, hc1, hV8, hK8, hbp8⟩ := HV7.out.more HRW.out ho hgrow hat HRJ.out
        have HV8 := Lib.hid hV8; have HK8 := Lib.hid (HKF7.out.trans hK8); have HBP8 := Lib.hid (hbp8.trans HBP7.out)
        have hcv := hv1.cell
        have hfv := hv1.frozen
        have hcc := hc1.cell
        have hfc := hc1.frozen
        have hts : (totB pre + a.length + 1 : Nat) = totB pre + x.size := by have := HXZ.out; omega
        have HTS := Lib.hid (show ((totB pre : Nat) : Int) + (x.size : Int) = ((totB pre + a.length + 1 : Nat) : Int) by rw [hts]; omega)
        have HTP := Lib.hid (show totB (pre ++ [x]) = totB pre + a.length + 1 by rw [totB_snoc, hts])
        have hp0 : (0 : Int) ≤ ((totB pre : Nat) : Int) := by omega
        have hp1 : ((totB pre : Nat) : Int) ≤ 1048600 := by have := HXS.out; omega
        have hx1 : (x.size : Int) ≤ 1048600 := by have := HXS.out; omega
        clear hv1 hc1 hV8 hK8 hbp8 hown' hgrow hat ho k1 k2 k3 k4 k5 hcell hfz hts
        gi_wp2_with fail
        rw [HTS.out]
        exact ⟨by rw [HS5.out]; exact HK8.out, HBP8.out, ⟨_, _, by rw [HTP.out]; exact HV8.out⟩⟩
    · have HE1 := Lib.hid e1
      obtain ⟨a, b, hab⟩ : ∃ a b, s.data.toList.drop (totB pre) = a ++ [b] := by
        rcases List.eq_nil_or_concat (s.data.toList.drop (totB pre)) with h | ⟨a, b, h⟩
        · exact absurd h e2
        · exact ⟨a, b, by simpa using h⟩
      have hb10 : (b == 10) = false := by
        cases hb : (b == 10) with
        | false => rfl
        | true => exact absurd (by rw [hab, ← beq_iff_eq.1 hb]; simp) e1
      have HE3 := Lib.hid (show x = bs (a ++ [b]) by rw [e3, hab])
      have HB10 := Lib.hid hb10
      have HCS := Lib.hid (show csE a b x = x by unfold csE; rw [hb10]; rfl)
      clear e1 e2 e3 hab hb10
      gi_wp2_with fail
      refine ⟨trivial, (CallsIn.inRound l (callsIn_wide.2 (CutSuffix_nl a b x HE3.out (by have := HXS.out; omega) false HB10.out _))).mono ?_⟩
      rintro e w' ⟨rfl, rfl⟩
      rw [HCS.out]
      gi_wp2_with fail
      refine ⟨trivial, (CallsIn.inRound l (callsIn_wide.2 (ReadDeed_any x (by have := HXS.out; omega) _))).mono ?_⟩
      rintro e w6 ⟨rfl, hb6⟩
      have HV6 := Lib.hid (HV.out.kept HRW.out hb6)
      have HKF6 := Lib.hid (keepsFrom_of (B := R0 + 3) hb6)
      clear hb6
      obtain ⟨kk, hkk⟩ : ∃ k, rdK x.data.toList = k := ⟨_, rfl⟩
      obtain ⟨xx, hxx⟩ : ∃ k, rdY x.data.toList = k := ⟨_, rfl⟩
      obtain ⟨bb, hbb⟩ : ∃ k, rdDB x.data.toList = k := ⟨_, rfl⟩
      rw [hkk, hxx, hbb]
      have hbel7 := alloc_below w6 (.cells #[.int .i64 kk, .int .i64 xx] 31)
      have HV7 := Lib.hid (HV6.out.kept HRW.out hbel7)
      have HKF7 := Lib.hid (HKF6.out.trans (keepsFrom_of (B := R0 + 3) hbel7))
      have HX := Lib.hid (show RjX s.data.toList R0 w 0 (pre ++ [x]) (w6.alloc (.cells #[.int .i64 kk, .int .i64 xx] 31)) from ⟨rfl, _, ds, _, HV7.out, HV7.out.rj.last HE1.out⟩)
      clear hbel7 HV6 HKF6 hkk hxx hbb
      gi_wp2_with fail
      exact ⟨by rw [HS5.out]; exact HKF7.out, HX.out⟩
  case done =>
    rintro D xs W hD hall ⟨v, ds, hV⟩ hK
    have HRJ := Lib.hid (hV.rj.last (by rw [show s.data.toList.drop (totB xs) = [] from hall]; simp))
    obtain ⟨p, hp⟩ : ∃ p, totB xs = p := ⟨_, rfl⟩
    rw [hp] at hV
    have HV := Lib.hid hV
    obtain ⟨av, cv, rfl⟩ := hV.own.slice
    have hcell := hV.box.cell
    have hcnt := hV.cnt.cell
    clear hall hp hV
    gi_wp2_with fail
    refine wpIn_wide.2 ?_
    go_quiet (fail)
    gi_wp2_with fail
    refine ⟨by simp, .inl ⟨_, _, rfl, run_takeDeferred (show (W.drewN nq).heap[D]? = _ from hK), ?_⟩⟩
    refine ⟨_, results_tmp2 rfl _ _ _, ⟨_, ds, by rw [HV.out.rj.len] <;> rfl, HRJ.out, ?_, ?_⟩⟩
    · rw [HRZ.out]
      have h : (W.drewN nq).ownsRow R0 31 2 (.slice av ds.length cv) ds.length (cellsD ds) := HV.out.own
      exact ownsRow_putObj h _ (show (W.drewN nq).heap[D]? = _ from hK) rfl
    · rw [HRZ.out]
      exact (HV.out.bel.trans (below_drewN (Below.refl R0 W) nq)).trans (belowK_b (n₀ := R0) (w := w5) (by have := HS5.out; omega) (W.drewN nq) D _ (.deferred none) hD (show (W.drewN nq).heap[D]? = _ from hK) rfl rfl)
  case stop =>
    rintro D id pre W hD hsp ⟨rfl, v, ds, p, hV, hrj⟩ hK
    have HRJ := Lib.hid hrj
    have HV := Lib.hid hV
    obtain ⟨av, cv, rfl⟩ := hV.own.slice
    have hcell := hV.box.cell
    have hcnt := hV.cnt.cell
    clear hV hrj hsp
    gi_wp2_with fail
    refine wpIn_wide.2 ?_
    go_quiet (fail)
    gi_wp2_with fail
    refine ⟨by simp, .inl ⟨_, _, rfl, run_takeDeferred (show (W.drewN nq).heap[D]? = _ from hK), ?_⟩⟩
    refine ⟨_, results_tmp2 rfl _ _ _, ⟨_, ds, by rw [HV.out.rj.len] <;> rfl, HRJ.out, ?_, ?_⟩⟩
    · rw [HRZ.out]
      have h : (W.drewN nq).ownsRow R0 31 2 (.slice av ds.length cv) ds.length (cellsD ds) := HV.out.own
      exact ownsRow_putObj h _ (show (W.drewN nq).heap[D]? = _ from hK) rfl
    · rw [HRZ.out]
      exact (HV.out.bel.trans (below_drewN (Below.refl R0 W) nq)).trans (belowK_b (n₀ := R0) (w := w5) (by have := HS5.out; omega) (W.drewN nq) D _ (.deferred none) hD (show (W.drewN nq).heap[D]? = _ from hK) rfl rfl)
end Go.Proofs.Ythbancphegnpdaa
