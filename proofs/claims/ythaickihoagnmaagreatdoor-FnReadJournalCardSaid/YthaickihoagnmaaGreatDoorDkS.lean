import Derived.Test.YthaickihoagnmaaGreatDoorDkTwo
namespace Go.Proofs.YthaickihoagnmaaGreatDoor
set_option linter.unusedVariables false
set_option linter.unusedSimpArgs false
open Go.RowKit Go.Maps

theorem cell_alX {w : World} {p : Addr} {v : Value} (o : Obj) (h : w.cell? p = some v) : (w.alloc o).cell? p = some v :=
  ((alloc_below w o).cell (World.block_lt_of_cell? w _ h)).trans h
theorem cell_drX {w : World} {p : Addr} {v : Value} (h : w.cell? p = some v) : w.drew.cell? p = some v := h
theorem e7_of {w6 w7 wr : World} {O : Nat} {v1 v2 : Value} {rs : List Fr} (h : Blk2 w6 O 31 v1 v2) (hu : Upon (fun q => v2.ownBlock = some q) w6 w7) (ho : FamsO wr (O + 1) v2 rs) : Blk2 w7 O 31 v1 v2 :=
  (hu.block O h.lt (fun e => by have := (ho.fams.ltB O (.inl e)).1; omega)).trans h

set_option maxRecDepth 100000 in
set_option maxHeartbeats 3200000 in
theorem l12Copy_any (d : Value) (xs : List Int) (L : List (List Int)) (hd : deskB xs L = true) (w : World) (h : DeskR w d xs L) :
    Calls Tryz.prog 66 #[d] w (CopyO xs L w) := by
  obtain ⟨a, c, b, c2, rfl, hi, hn⟩ := h.parts
  obtain ⟨i0, hi0, hz0, hz1, hz2⟩ := info_parts Tryz.infoInt
  obtain ⟨hf, h8, hL⟩ := deskB_iff.1 hd
  have hlen := famL_len hf
  obtain ⟨rb, ro, rfl, hrl, hrr⟩ := hi.row hlen.1
  have q1 := alloc_below w (.cells #[.slice (some ⟨rb, ro, none⟩) xs.length c, .slice b L.length c2] 31)
  have q2 := alloc_below (w.alloc (.cells #[.slice (some ⟨rb, ro, none⟩) xs.length c, .slice b L.length c2] 31)) (.cells #[.slice none 0 0, .slice none 0 0] 31)
  have b1 := (Blk2.new w 31 (.slice (some ⟨rb, ro, none⟩) xs.length c) (.slice b L.length c2)).kept q2 (by rw [alloc_size]; omega)
  have b2 := (Blk2.new (w.alloc (.cells #[.slice (some ⟨rb, ro, none⟩) xs.length c, .slice b L.length c2] 31)) 31 (.slice none 0 0) (.slice none 0 0))
  have hz : ((w.alloc (.cells #[.slice (some ⟨rb, ro, none⟩) xs.length c, .slice b L.length c2] 31)).alloc (.cells #[.slice none 0 0, .slice none 0 0] 31)).heap.size = w.heap.size + 2 := by rw [alloc_size, alloc_size]
  rw [alloc_size] at b2
  have hq := below_onto q1 q2
  obtain ⟨n, hnn⟩ : ∃ n, L.length = n := ⟨_, rfl⟩
  rw [hnn] at b1 b2 hz hq h8 ⊢
  have hr1 := hrr.below hq hrl
  have HN := Lib.hid hn; have HF := Lib.hid hf; have HL := Lib.hid hL; have HNN := Lib.hid hnn
  clear h hi hn q1 q2 hd hf hL hnn hrr
  obtain ⟨W0, hW0⟩ : ∃ W0, (w.alloc (.cells #[.slice (some ⟨rb, ro, none⟩) xs.length c, .slice b n c2] 31)).alloc (.cells #[.slice none 0 0, .slice none 0 0] 31) = W0 := ⟨_, rfl⟩
  rw [hW0] at b1 b2 hz hq hr1
  have HW0 := Lib.hid hW0
  clear hW0
  have hrl0 : rb < W0.heap.size := by omega
  have HQ := Lib.hid hq; have HB1 := Lib.hid b1; have HB2 := Lib.hid b2; have HZ := Lib.hid hz
  have HMD := Lib.hid (OwnX.made W0 _ (Nat.le_refl W0.heap.size) 3 : OwnX (W0.alloc (.cells #[] 3)) W0.heap.size 3 (.slice (some ⟨W0.heap.size, 0, none⟩) 0 0) [])
  have HO : Hid ((W0.alloc (.cells #[] 3)).ownsRow W0.heap.size 3 1 (.slice (some ⟨W0.heap.size, 0, none⟩) 0 0) 0 []) := Lib.hid HMD.out
  have k1 := Lib.hid (rowV_cells (hr1.below (alloc_below W0 (.cells #[] 3)) hrl0))
  have k2 := Lib.hid (rowV_one (fun j => xs.getD j 0) xs.length)
  have k3 : Hid (0 + xs.length ≤ maxLen) := Lib.hid (by unfold maxLen; omega)
  have k4 : Hid ((0 + xs.length) * 8 ≤ 140737488355328) := Lib.hid (by omega)
  have k5 : Hid (W0.heap.size ≤ (W0.alloc (.cells #[] 3)).heap.size) := Lib.hid (by rw [alloc_size]; omega)
  have k6 : Hid ((rowV (fun j => xs.getD j 0) xs.length).length = xs.length * 1) := Lib.hid (by rw [rowV_len]; omega)
  have HAB := Lib.hid (alloc_below W0 (.cells #[] 3))
  have HW := Lib.hid (show (W0.alloc (.cells #[] 3)).cell? ⟨w.heap.size, 0, none⟩ = some (.slice (some ⟨rb, ro, none⟩) xs.length c) from (b1.kept (alloc_below W0 _) b1.lt).cell.1)
  clear hr1 hrl0 b1 b2 hz hq
  have hW0 := HW0.out
  have hc0 := HW.out
  go_enter Tryz.func66, Tryz.ntmps66
  go_wp2_with (at_builtin; refine wpList_append_own _ rfl (.tmp 5) (.tmp 7) 28 rfl W0.heap.size 3 i0 (.int .i64 0) 1 8 Tryz.underlying28 hi0 hz0 hz1 hz2 rfl (by decide) _ _ _ rfl HO.out ⟨rb, ro, none⟩ xs.length c (rowV (fun j => xs.getD j 0) xs.length) rfl k6.out k1.out k2.out k3.out k4.out k5.out ?_)
  intro v8 w8 hown8 hgrow8 _
  have hb8 : Below W0.heap.size W0 w8 := HAB.out.trans ((Below.refl W0.heap.size _).grown hgrow8 k5.out (fun q hq => (HO.out.lt q hq).1))
  have hown := OwnX.rowV hown8
  first | rw [famL_get2] at hown | rw [famL_get] at hown
  obtain ⟨g8, c8, rfl, hg1, hg2, _⟩ := hown.shape hlen.1
  have hal9 := alloc_below w8 (.cells #[.slice (some ⟨g8, 0, none⟩) xs.length c8, .slice none 0 0] 31)
  have HST : Hid (L12S xs L (.slice (some ⟨rb, ro, none⟩) xs.length c) (.slice b n c2) w w.heap.size w8.heap.size (.slice (some ⟨g8, 0, none⟩) xs.length c8) 0 (.slice none 0 0) [] (w8.alloc (.cells #[.slice (some ⟨g8, 0, none⟩) xs.length c8, .slice none 0 0] 31))) := Lib.hid (by
    have hz := HZ.out
    have hs8 := hb8.size
    refine ⟨(HB1.out.kept hb8 HB1.out.lt).kept hal9 (by omega), (HB2.out.kept hb8 HB2.out.lt).kept hal9 (by omega), Blk2.new _ _ _ _, by omega, rfl, (hown.kept hal9).base (by omega), fun g hg => ?_, FamsO.nil _ _, by simp, rfl, below_onto (below_onto HQ.out hb8) hal9⟩
    injection hg with hg
    have : g8 = g := hg
    omega)
  clear hown8 hgrow8 hb8 hown hg1 hg2 hal9 k1 k2 k3 k4 k5 k6 HO HAB HMD HW hW0 hc0 HW0 HB1 HB2 HZ HQ
  go_wp2_with fail
  have HD0 := Lib.hid HST.out.lt
  obtain ⟨O, hO⟩ : ∃ O, w8.heap.size = O := ⟨_, rfl⟩
  obtain ⟨D, hD⟩ : ∃ D, w.heap.size = D := ⟨_, rfl⟩
  rw [hO] at HST HD0 ⊢
  rw [hD] at HST HD0 ⊢
  have HDD := Lib.hid hD
  clear hO hD
  go_loopw [4] (fun i wr => ∃ (k : Nat) (v2 : Value) (rs : List Fr), k ≤ n ∧ i = .int .i64 k ∧ Hid (L12S xs L (.slice (some ⟨rb, ro, none⟩) xs.length c) (.slice b n c2) w D O (.slice (some ⟨g8, 0, none⟩) xs.length c8) k v2 rs wr)) (fun i _ => n - (intOf i).toNat)
  case atStart => exact ⟨0, _, [], Nat.zero_le _, rfl, HST⟩
  case round =>
    clear HST
    obtain ⟨k, v2, rs, hk, rfl, HS⟩ := hrel
    obtain ⟨va, vc, hv⟩ := HS.out.own.fams.seq.slice
    rw [List.length_map, HS.out.len] at hv
    subst hv
    have hc1 := HS.out.d.cell.2
    by_cases hlt : k < n
    · have hki : (k : Int) < (n : Int) := by omega
      have hk0 : (0 : Int) ≤ (k : Int) := by omega
      have hkl : k < L.length := by rw [HNN.out]; exact hlt
      obtain ⟨bk, o, a1, c1, rfl, hlc, hi, hcell⟩ := HN.out.at hkl
      have hfk := fam_at HL.out hkl
      have hrow1 := hi.row (famL_len hfk).1
      obtain ⟨q, p, rfl, hql, hrow⟩ := hrow1
      have hc2 := hcell wr HS.out.bel
      have HBD : Hid (Below wr.heap.size wr wr.drew) := Lib.hid (Below.refl _ _).drew
      have HRW : Hid (Row wr.drew q p _ _) := Lib.hid ((hrow.below HS.out.bel hql).below HBD.out (Nat.lt_of_lt_of_le hql HS.out.bel.size))
      have HQL : Hid (q < wr.drew.heap.size) := Lib.hid (Nat.lt_of_lt_of_le hql HS.out.bel.size)
      obtain ⟨l, hl⟩ : ∃ l, L.getD k [] = l := ⟨_, rfl⟩
      have HLL := Lib.hid hl; have HKL := Lib.hid hkl
      rw [hl] at hc2 HRW hfk
      have HL1 := Lib.hid (famL_len hfk).1
      have HL2 : Hid (l.length ≤ 1000) := Lib.hid (by have := (famL_len hfk).2; omega)
      have HLE := Lib.hid (show rs.length ≤ 1000 by rw [HS.out.len]; omega)
      have hco := HS.out.o.cell.2
      have ha1 := cell_alX (.cells #[] 3) hc1
      have ha2 := cell_alX (.cells #[] 3) hc2
      have ha3 := cell_alX (.cells #[] 3) hco
      have HOS : Hid (O + 1 ≤ wr.heap.size) := Lib.hid HS.out.o.lt
      clear hi hcell hl hkl hlc hrow hql hfk
      go_wp2_with fail
      go_region_law (first | ((refine step_cl (by rfl) (.tmp 19) (.tmp 24) (by rfl) l HL1.out HL2.out wr.drew q p c1 (by rfl) (by rfl) HRW.out HQL.out ?_; intro g6 c6 w6 ho6 hb6 hg6; have hB6 := below_onto HBD.out hb6; have e6 := HS.out.o.kept hB6 HS.out.o.lt; have hA6 := e6.cell.2; have hA7 := cell_alX (.cells #[.slice (some ⟨g6, 0, none⟩) l.length c6] 28) hA6; have HE6 := Lib.hid e6; have HO6 := Lib.hid (HS.out.own.kept hB6); have HY6 := Lib.hid (ho6.base HOS.out); have HB6 := Lib.hid hB6; have HN1 := Lib.hid (fun r hr e => by have h1 := (HS.out.own.fams.lt r hr).2; have h2 := hg6.1; have h3 : wr.drew.heap.size = wr.heap.size := rfl; omega : ∀ r ∈ rs, r.g ≠ g6); have HN2 : Hid ((Value.slice va k vc).ownBlock ≠ some g6) := Lib.hid (fun e => by have h1 := (HS.out.own.fams.seq.lt g6 e).2; have h2 := hg6.1; have h3 : wr.drew.heap.size = wr.heap.size := rfl; omega); have HS6 := Lib.hid (Nat.le_trans HOS.out hB6.size); clear ho6 hb6 hg6 hB6 e6)) | ((refine step_fr (by rfl) (.tmp 18) (.tmp 26) (by rfl) (O + 1) (.slice va k vc) rs ⟨g6, c6, l⟩ w6 (by rfl) (by rfl) HO6.out HLE.out HY6.out HN1.out HN2.out HS6.out ?_; intro g7 c7 w7 ho7 hb7 hu7; have hR7 := e7_of HE6.out hu7 HS.out.own; have hx1 := hR7.cell.2; have hx2 := hR7.frozen 1; have HX := Lib.hid (HS.out.step HKL.out HLL.out HB6.out hu7 ho7); clear ho7 hb7 hu7 hR7)))
      all_goals
        clear HE6 HO6 HY6 HN1 HN2 HS6 HB6 hA6 hA7 hx1 hx2 ha1 ha2 ha3 hc1 hc2 hco HRW HQL
        go_wp2_with fail
        go_roundw
        case rel => exact ⟨k + 1, _, _, by omega, by go_num, HX⟩
        case measure => simp [intOf]; omega
    · have hki : ¬ (k : Int) < (n : Int) := by omega
      have hR := HS.out.o
      have hc2 := hR.cell.1; have hc3 := hR.cell.2
      have hQ := HS.out.r
      have hc4 := hQ.cell.1; have hc5 := hQ.cell.2; have hf4 := hQ.frozen 0; have hf5 := hQ.frozen 1
      have HD9 := Lib.hid (HS.out.done (show L.length ≤ k by rw [HNN.out]; omega))
      have HQ9 := Lib.hid hQ
      have hkn : k = n := by omega
      subst hkn
      clear hR hQ
      go_wp2_with fail
      refine bodyPost_ret (results_desk1 rfl _ _ (D + 1) ((HQ9.out.set0 (.slice (some ⟨g8, 0, none⟩) xs.length c8)).set1 (.slice va k vc)) rfl (by kernel_rfl)) rfl ?_
      exact ⟨_, _, rfl, HD9.out⟩
end Go.Proofs.YthaickihoagnmaaGreatDoor
