import Derived.Test.YtglnefffkcillaaWcU
namespace Go.Proofs.Ytglnefffkcillaa
set_option linter.unusedVariables false
set_option linter.unusedSimpArgs false
open Go.RowKit Go.Maps

set_option maxRecDepth 100000 in
set_option maxHeartbeats 16000000 in
theorem specOrders_any (n : Nat) (h1 : 1 ≤ n) (h4 : n ≤ 4) (w : World) :
    Calls Try.prog 59 #[.int .i64 (n : Int)] w (RowsGive n (llK (otherC (idL n)) n) w) := by
  obtain ⟨i0, hii, hz0, hz1, hz2⟩ := info_parts Try.infoInt
  obtain ⟨j0, hjj, hy0, hy1, hy2⟩ := info_parts Try.infoIntS
  have hfirst := Lib.hid (Ships.first w)
  have HB0 : Hid (Below w.heap.size w ((w.alloc (.cells #[] 3)).alloc (.cells #[.slice (some ⟨w.heap.size, 0, none⟩) 0 0] 23))) := Lib.hid (below_onto (alloc_below w _) (alloc_below _ _))
  obtain ⟨C, hC⟩ : ∃ C, otherC (idL n) = C := ⟨_, rfl⟩
  have HC := Lib.hid hC
  have HC16 : Hid (∀ L, (C L).length ≤ 16) := Lib.hid (by rw [← hC]; exact other_id_len n (by omega))
  rw [hC]
  clear hC
  go_enter Try.func59, Try.ntmps59
  go_wp2_with fail
  go_loopw [3, 4, 5, 6, 7, 8, 9] (fun v k _ _ _ _ _ wr => ∃ (j : Nat) (rs : List (Nat × Nat)), j ≤ n ∧ k = .int .i64 j ∧ Hid (Ships wr w.heap.size j v (llK C j) rs) ∧ Hid (Below w.heap.size w wr)) (fun _ k _ _ _ _ _ _ => n - (intOf k).toNat)
  case atStart => exact ⟨0, _, Nat.zero_le _, rfl, hfirst, HB0⟩
  case round =>
    obtain ⟨k, rs, hk, rfl, hsh, hb⟩ := hrel
    clear hfirst HB0
    obtain ⟨WU, hWU⟩ : ∃ WU, WU = wr := ⟨_, rfl⟩
    subst hWU
    obtain ⟨av, cv, rfl⟩ := hsh.out.slice
    by_cases hlt : k < n
    · have hki : (k : Int) < (n : Int) := by omega
      have hmd := Lib.hid (specStory_made WU (k + 1))
      have HBU := Lib.hid (alloc_below WU (.cells #[] 23))
      have HSZL : Hid ((llK C k).length ≤ 4096) := Lib.hid (by
        have h5 := llK_size C HC16.out k
        have h6 : 16 ^ k ≤ 16 ^ 3 := Nat.pow_le_pow_right (by omega) (by omega)
        omega)
      obtain ⟨LL, hLL⟩ : ∃ LL, llK C k = LL := ⟨_, rfl⟩
      rw [hLL] at hsh HSZL ⊢
      have HLL := Lib.hid hLL
      clear hLL
      go_wp2_with fail
      go_loopw [5, 6, 7, 8, 9] (fun v i _ _ _ wr => ∃ (j : Nat) (ts : List (Nat × Nat)), j ≤ LL.length ∧ i = .int .i64 j ∧ Hid (Ships wr WU.heap.size (k + 1) v (flL C (LL.take j)) ts) ∧ Hid (Below WU.heap.size WU wr)) (fun _ i _ _ _ _ => LL.length - (intOf i).toNat)
      case atStart => exact ⟨0, [], Nat.zero_le _, rfl, hmd, HBU⟩
      case round =>
        obtain ⟨i, ts, hi, rfl, hsn, hbn⟩ := hrel
        clear hmd HBU
        obtain ⟨WI, hWI⟩ : ∃ WI, WI = wr := ⟨_, rfl⟩
        subst hWI
        obtain ⟨an, cn, rfl⟩ := hsn.out.slice
        have hL4096 := HSZL.out
        by_cases hli : i < LL.length
        · have hii5 : (i : Int) < (LL.length : Int) := by omega
          have hi0 : (0 : Int) ≤ (i : Int) := by omega
          obtain ⟨L, hL⟩ : ∃ L, LL.getD i [] = L := ⟨_, rfl⟩
          have hLk : L.length = k := by rw [← hL]; exact hsh.out.rowI hli
          have HLK := Lib.hid hLk
          have HLE := Lib.hid hL
          have HTK : Hid (LL.take (i + 1) = LL.take i ++ [L]) := Lib.hid (by rw [List.take_add_one, List.getElem?_eq_getElem hli, ← hL, List.getD_eq_getElem?_getD, List.getElem?_eq_getElem hli]; rfl)
          have HFL : Hid ((flL C (LL.take i)).length ≤ 65536) := Lib.hid (by
            have h5 := flL_len C 16 HC16.out (LL.take i)
            have h6 : (LL.take i).length ≤ LL.length := by rw [List.length_take]; omega
            have := HSZL.out; omega)
          have HST : Hid (Ships WI WU.heap.size (k + 1) (.slice an (flL C (LL.take i)).length cn) (flL C (LL.take i) ++ (ptL n L 0).map (fun y => L ++ [y])) ts) := Lib.hid (by simpa [ptL, evL] using hsn.out)
          have HBT := hbn
          clear hL hLk hsn hbn
          go_wp2_with fail
          go_loopw [5, 7, 8, 9] (fun v x _ _ wr => ∃ (j : Nat) (ts : List (Nat × Nat)), j ≤ n ∧ x = .int .i64 j ∧ Hid (Ships wr WU.heap.size (k + 1) v (flL C (LL.take i) ++ (ptL n L j).map (fun y => L ++ [y])) ts) ∧ Hid (Below WU.heap.size WU wr)) (fun _ x _ _ _ => n - (intOf x).toNat)
          case atStart => exact ⟨0, ts, Nat.zero_le _, rfl, HST, HBT⟩
          case round =>
            obtain ⟨x, us, hx, rfl, hsx, hbx⟩ := hrel
            clear HST HBT
            obtain ⟨WX, hWX⟩ : ∃ WX, WX = wr := ⟨_, rfl⟩
            subst hWX
            obtain ⟨ax, cx, rfl⟩ := hsx.out.slice
            by_cases hlx : x < n
            · have hxi : (x : Int) < (n : Int) := by omega
              have HSO := Lib.hid (hsh.out.kept hbx.out)
              obtain ⟨gv, dv, hav⟩ := HSO.out.shape (by omega)
              obtain ⟨gL, cL, hgl⟩ : ∃ gL cL, rs.getD i (0, 0) = (gL, cL) := ⟨_, _, rfl⟩
              simp only [Value.slice.injEq] at hav
              obtain ⟨rfl, _, rfl⟩ := hav
              have hc0 := HSO.out.cell hli
              rw [hgl] at hc0
              dsimp only at hc0
              have HOL : Hid (OwnX WX w.heap.size 3 (.slice (some ⟨gL, 0, none⟩) k cL) L) := Lib.hid (by
                have := (HSO.out.row i hli).1
                rw [hgl, HLE.out] at this
                exact this)
              have HRO : Hid (1 ≤ k → Row WX gL 0 k (rv L)) := Lib.hid (fun h1k => by
                have := HSO.out.rowG hli h1k
                rw [hgl, HLE.out] at this
                exact this)
              clear hgl
              go_wp2_with fail
              go_loopw [8, 9] (fun t j wr => ∃ y : Nat, y ≤ k ∧ j = .int .i64 y ∧ t = .bool (inF (x : Int) y (rv L)) ∧ wr = WX) (fun _ j _ => k - (intOf j).toNat)
              case atStart => exact ⟨0, Nat.zero_le _, rfl, rfl, rfl⟩
              case round =>
                obtain ⟨y, hy, rfl, rfl, rfl⟩ := hrel
                by_cases hly : y < k
                · have hyi : (y : Int) < (k : Int) := by omega
                  have hy0 : (0 : Int) ≤ (y : Int) := by omega
                  have hcy := HRO.out (by omega) y hly
                  rw [Nat.zero_add] at hcy
                  obtain ⟨z, hz⟩ : ∃ z, rv L y = z := ⟨_, rfl⟩
                  rw [hz] at hcy
                  have hnx := inF_succ (x : Int) y (rv L)
                  rw [hz] at hnx
                  clear hz
                  cases hin : inF (x : Int) y (rv L) with
                  | true =>
                    have HNX := Lib.hid (show inF (x : Int) (y + 1) (rv L) = true by rw [hnx, hin]; rfl)
                    clear hnx hin
                    go_wp2_with fail
                    go_roundw
                    case rel => exact ⟨y + 1, by omega, by go_num, by rw [HNX.out], by first | rfl | trivial⟩
                    case measure => simp [intOf]; omega
                  | false =>
                    cases hzx : (z == (x : Int)) with
                    | true =>
                      have HNX := Lib.hid (show inF (x : Int) (y + 1) (rv L) = true by rw [hnx, hin, hzx]; rfl)
                      clear hnx hin
                      go_wp2_with fail
                      go_roundw
                      case rel => exact ⟨y + 1, by omega, by go_num, by rw [HNX.out], by first | rfl | trivial⟩
                      case measure => simp [intOf]; omega
                    | false =>
                      have HNX := Lib.hid (show inF (x : Int) (y + 1) (rv L) = false by rw [hnx, hin, hzx]; rfl)
                      clear hnx hin
                      go_wp2_with fail
                      go_roundw
                      case rel => exact ⟨y + 1, by omega, by go_num, by rw [HNX.out], by first | rfl | trivial⟩
                      case measure => simp [intOf]; omega
                · have hyi : ¬ (y : Int) < (k : Int) := by omega
                  have hye : y = k := by omega
                  subst hye
                  cases hin : inF (x : Int) y (rv L) with
                  | true =>
                    have HPT := Lib.hid (ptL_no n L x hlx (by rw [HLK.out]; exact hin))
                    clear hin
                    go_wp2_with fail
                    go_roundw
                    case rel => exact ⟨x + 1, us, by omega, by go_num, by rw [HPT.out]; exact hsx, hbx⟩
                    case measure => simp [intOf]; omega
                  | false =>
                    have HPT := Lib.hid (ptL_yes n L x hlx (by rw [HLK.out]; exact hin))
                    clear hin
                    obtain ⟨W0, hW0⟩ : ∃ W0, W0 = wr := ⟨_, rfl⟩
                    subst hW0
                    obtain ⟨g1, c1, w1, hr1, ho1, hb1⟩ := copied_row W0 gL y cL L HLK.out (by omega) HRO.out (fun h => (World.ownsRow.lt HOL.out gL rfl).2)
                    have hab := alloc_below W0 (.cells #[] 3)
                    have hc0a : (W0.alloc (.cells #[] 3)).cell? ⟨gv, i, none⟩ = some (.slice (some ⟨gL, 0, none⟩) y cL) := (hab.cell (p := ⟨gv, i, none⟩) (World.ownsRow.lt HSO.out.own gv rfl).2).trans hc0
                    obtain ⟨wa, hwa⟩ : ∃ wa, W0.alloc (.cells #[] 3) = wa := ⟨_, rfl⟩
                    rw [hwa] at hr1 hc0a
                    have HO1 : Hid (w1.ownsRow W0.heap.size 3 1 (.slice (some ⟨g1, 0, none⟩) y c1) y (L.map (Value.int .i64))) := Lib.hid (by have h5 : w1.ownsRow W0.heap.size 3 1 (.slice (some ⟨g1, 0, none⟩) y c1) L.length (L.map (Value.int .i64)) := ho1; rw [HLK.out] at h5; exact h5)
                    have HB1 := Lib.hid hb1
                    have hs1 := hb1.size
                    have hxl := ptL_len n L x
                    have k1 := Lib.hid (fun (j : Nat) (u : Value) (h : [Value.int .i64 (x : Int)][j]? = some u) => cell_one_new w1 (.int .i64 (x : Int)) 3 j u h)
                    have k2 : Hid (∀ u ∈ [Value.int .i64 (x : Int)], u.oneCell' = true) := Lib.hid (by intro u hu; simp at hu; subst hu; rfl)
                    have k3 : Hid (y + 1 ≤ maxLen) := Lib.hid (by unfold maxLen; omega)
                    have k4 : Hid ((y + 1) * 8 ≤ 140737488355328) := Lib.hid (by omega)
                    have k5 : Hid (W0.heap.size ≤ (w1.alloc (.cells #[.int .i64 (x : Int)] 3)).heap.size) := Lib.hid (by rw [alloc_size]; omega)
                    have hll : (flL C (LL.take i) ++ (ptL n L x).map (fun y => L ++ [y])).length ≤ 65540 := by
                      rw [List.length_append, List.length_map]
                      have := HFL.out; omega
                    have hWU : WU.heap.size ≤ W0.heap.size := hbx.out.size
                    have hlts := hsx.out.lt
                    have HNE : Hid (∀ g2, W0.heap.size ≤ g2 → (∀ r ∈ us, r.1 ≠ g2) ∧ (Value.slice ax (flL C (LL.take i) ++ (ptL n L x).map (fun y => L ++ [y])).length cx).ownBlock ≠ some g2) := Lib.hid (fun g2 hg2 => ⟨fun r hr5 => by have := (hlts r hr5).2; omega, fun e => by have := (World.ownsRow.lt hsx.out.own _ e).2; omega⟩)
                    have j3 : Hid ((flL C (LL.take i) ++ (ptL n L x).map (fun y => L ++ [y])).length + 1 ≤ maxLen) := Lib.hid (by unfold maxLen; omega)
                    have j4 : Hid (((flL C (LL.take i) ++ (ptL n L x).map (fun y => L ++ [y])).length + 1) * 24 ≤ 140737488355328) := Lib.hid (by omega)
                    have HJ2 := Lib.hid (fun (w5 : World) (v2 : Value) (h1 : w5.ownsRow W0.heap.size 3 1 v2 (y + 1) (L.map (Value.int .i64) ++ [.int .i64 (x : Int)])) (h2 : (w1.alloc (.cells #[.int .i64 (x : Int)] 3)).grownBy w5 (Value.slice (some ⟨g1, 0, none⟩) y c1).ownBlock) => joined_two HLK.out HO1.out HB1.out h1 h2)
                    have HSX := hsx
                    obtain ⟨NL, hNL⟩ : ∃ NL, flL C (LL.take i) ++ (ptL n L x).map (fun y => L ++ [y]) = NL := ⟨_, rfl⟩
                    have HNL := Lib.hid hNL
                    rw [hNL] at HNE HSX j3 j4 ⊢
                    clear ho1 hb1 hab hll hNL hlts hsx
                    go_wp2_with (first
                      | (at_builtin; refine Lib.wpList_append_run _ rfl _ _ _ _ rfl _ _ rfl rfl _ _ hr1 ?_)
                      | (at_builtin; refine wpList_append_own _ rfl (.tmp 58) (.tmp 60) 23 rfl W0.heap.size 3 i0 (.int .i64 0) 1 8 Try.underlying23 hii hz0 hz1 hz2 rfl (by decide) _ _ _ rfl (HO1.out.alloc _) ⟨w1.heap.size, 0, none⟩ 1 1 [.int .i64 (x : Int)] rfl rfl k1.out k2.out k3.out k4.out k5.out ?_; intro v2 w5 hown2 hgrow2 _; obtain ⟨g2, c2, hv2, hf2⟩ := HJ2.out w5 v2 hown2 hgrow2; subst hv2; have HF2 := Lib.hid hf2; clear hown2 hgrow2 hf2 hr1 k1 k2 k3 k4 k5 HJ2; have HROW := Lib.hid (HSX.out.kept HF2.out.2.2.2).own; have hs25 := HF2.out.2.2.2.size; have j5 : Hid (WU.heap.size ≤ (w5.alloc (.cells #[.slice (some ⟨g2, 0, none⟩) (y + 1) c2] 23)).heap.size) := Lib.hid (by rw [alloc_size]; omega))
                      | (at_builtin; refine wpList_append_own_at _ rfl (.tmp 52) (.tmp 62) 29 rfl WU.heap.size 23 j0 (.slice none 0 0) 1 24 Try.underlying29 hjj hy0 hy1 hy2 rfl (by decide) _ _ _ rfl (HROW.out.alloc _) ⟨w5.heap.size, 0, none⟩ 1 1 [.slice (some ⟨g2, 0, none⟩) (y + 1) c2] rfl rfl (fun j u h => cell_one_new w5 (.slice (some ⟨g2, 0, none⟩) (y + 1) c2) 23 j u h) (by intro u hu; simp at hu; subst hu; rfl) j3.out j4.out j5.out ?_; intro v' w9 hown' hgrow _ hat))
                    have hat2 : v'.ownBlock = (Value.slice ax NL.length cx).ownBlock ∨ v'.ownBlock = some (w5.heap.size + 1) := by
                      rcases hat with e | e
                      · exact .inl e
                      · exact .inr (by rw [e, alloc_size])
                    have hsn := (HSX.out.kept HF2.out.2.2.2).snoc (HF2.out.2.2.1.base hWU) HF2.out.1 (HNE.out g2 HF2.out.2.1).1 (HNE.out g2 HF2.out.2.1).2 hown' hgrow hat2
                    have hb9 : Below WU.heap.size WU w9 := hbx.out.trans ((HF2.out.2.2.2.mono hWU).trans (((alloc_below w5 _).mono (by omega)).trans ((Below.refl WU.heap.size _).grown hgrow j5.out (fun q hq => (HROW.out.lt q hq).1))))
                    have HS9 : Hid (Ships w9 WU.heap.size (y + 1) v' (flL C (LL.take i) ++ (ptL n L (x + 1)).map (fun y => L ++ [y])) (us ++ [(g2, c2)])) := Lib.hid (by
                      rw [HPT.out, List.map_append, ← List.append_assoc, HNL.out]; exact hsn)
                    have HB9 := Lib.hid hb9
                    clear hown' hgrow hat hsn hb9
                    try go_wp2_with fail
                    go_roundw
                    case rel => exact ⟨x + 1, _, by omega, by go_num, HS9, HB9⟩
                    case measure => simp [intOf]; omega
            · have hxi : ¬ (x : Int) < (n : Int) := by omega
              have hxe : x = n := by omega
              subst hxe
              have HPA := Lib.hid (ptL_all x L)
              go_wp2_with fail
              go_roundw
              case rel => exact ⟨i + 1, us, by omega, by go_num, by rw [HTK.out, flL_snoc, ← HC.out, ← HPA.out, HC.out]; exact hsx, hbx⟩
              case measure => simp [intOf]; omega
        · have hii5 : ¬ (i : Int) < (LL.length : Int) := by omega
          have hie : i = LL.length := by omega
          subst hie
          have hT : LL.take LL.length = LL := List.take_length
          rw [hT] at hsn
          have HS5 : Hid (Ships WI w.heap.size (k + 1) (.slice an (flL C LL).length cn) (llK C (k + 1)) ts) := Lib.hid (by
            have h5 : llK C (k + 1) = flL C LL := by rw [← HLL.out]; rfl
            rw [h5]
            exact hsn.out.lower hb.out.size)
          have HB5 := Lib.hid (hb.out.trans (hbn.out.mono hb.out.size))
          rw [hT]
          clear hT hsn hbn
          go_wp2_with fail
          go_roundw
          case rel => exact ⟨k + 1, ts, by omega, by go_num, HS5, HB5⟩
          case measure => simp [intOf]; omega
    · have hki : ¬ (k : Int) < (n : Int) := by omega
      have hke : k = n := by omega
      subst hke
      go_wp2_with fail
      go_ret
      exact ⟨_, rs, rfl, hsh.out, hb.out⟩
end Go.Proofs.Ytglnefffkcillaa
