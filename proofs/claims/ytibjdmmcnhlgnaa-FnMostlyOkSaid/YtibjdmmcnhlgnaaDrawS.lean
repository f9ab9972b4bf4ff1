import Derived.Test.YtibjdmmcnhlgnaaDraws
import Derived.Test.YtibjdmmcnhlgnaaPlT
namespace Go.Proofs.Ytibjdmmcnhlgnaa
set_option linter.unusedVariables false
set_option linter.unusedSimpArgs false
open Go.RowKit Go.Maps

/-- a ship is drawn -/
def DrawnS (rb P : Nat) (w : World) (e : Ending) (w' : World) : Prop :=
  ∃ v xs, e = .returned v ∧ xs.length ≤ 7 ∧ (∀ x ∈ xs, I64 x) ∧ OwnX w' w.heap.size 3 v xs ∧ Only rb w w' ∧ Rdr w' rb (P + 30)
/-- the state of the loop that draws it -/
structure ShR (rb P : Nat) (w : World) (v : Value) (xs : List Int) (wr : World) : Prop where
  own : OwnX wr w.heap.size 3 v xs
  i64 : ∀ x ∈ xs, I64 x
  only : Only rb w wr
  rdr : Rdr wr rb P
theorem ShR.lift {rb P Q : Nat} {w : World} {v : Value} {xs : List Int} {wr w' : World} (h : ShR rb P w v xs wr) (ho : Only rb wr w') (hrb : rb < w.heap.size) (hr : Rdr w' rb Q) : ShR rb Q w v xs w' :=
  ⟨h.own.lift ho hrb, h.i64, h.only.trans ho, hr⟩
theorem ShR.mono {rb P Q : Nat} {w : World} {v : Value} {xs : List Int} {wr : World} (h : ShR rb P w v xs wr) (hPQ : P ≤ Q) : ShR rb Q w v xs wr := ⟨h.own, h.i64, h.only, h.rdr.mono hPQ⟩
theorem ShR.more {rb P : Nat} {w : World} {v v' : Value} {xs : List Int} {wr w' : World} {z : Int} {tmp : Obj} (h : ShR rb P w v xs wr) (hz : I64 z) (hrb : rb < w.heap.size) (ho : OwnX w' w.heap.size 3 v' (xs ++ [z])) (hg : (wr.alloc tmp).grownBy w' v.ownBlock) : ShR rb P w v' (xs ++ [z]) w' := by
  have hb : Below w.heap.size wr w' := ((Below.refl w.heap.size wr).alloc h.only.size _).grown hg (by rw [alloc_size]; have := h.only.size; omega) (fun q hq => (World.ownsRow.lt h.own q hq).1)
  refine ⟨ho, fun x hx => ?_, h.only.below_then hb, h.rdr.belowB hb hrb⟩
  rcases List.mem_append.1 hx with hx | hx
  · exact h.i64 x hx
  · rw [List.mem_singleton] at hx; rw [hx]; exact hz

theorem Rw.rwlt {w : World} {g : Nat} {t : TypeId} {cap n : Nat} {h : Nat → Int} (hr : Rw w g t cap n h) : g < w.heap.size := by
  obtain ⟨cur, h1, _⟩ := hr
  exact (Array.getElem?_eq_some_iff.1 h1).1
theorem Rw.rwat {w w' : World} {g : Nat} {t : TypeId} {cap n : Nat} {h : Nat → Int} (hr : Rw w g t cap n h) (hb : w'.heap[g]? = w.heap[g]?) : Rw w' g t cap n h := by
  obtain ⟨cur, h1, h2, h3⟩ := hr
  exact ⟨cur, hb.trans h1, h2, h3⟩

set_option maxRecDepth 100000 in
set_option maxHeartbeats 6400000 in
theorem ship_any (rb P : Nat) (n : Int) (hn : 1 ≤ n) (hn2 : n ≤ 100) (hP : P ≤ 100000) (w : World) (h : Rdr w rb P) :
    Calls Try.prog 53 #[.pointer (some ⟨rb, 0, none⟩), .int .i64 n] w (DrawnS rb P w) := by
  obtain ⟨i0, hii, hz0, hz1, hz2⟩ := info_parts Try.infoInt
  have hrb : rb < w.heap.size := h.1
  have hab := alloc_below w (.cells #[] 3)
  have HS0 := Lib.hid (show ShR rb P w (.slice (some ⟨w.heap.size, 0, none⟩) 0 0) [] (w.alloc (.cells #[] 3)) from ⟨OwnX.made w _ (Nat.le_refl _) _, fun x hx => (by cases hx), Only.of_below hab, h.below hab⟩)
  clear h hab
  go_enter Try.func53, Try.ntmps53
  go_wp2_with fail
  refine (pick_any rb P 3 (by omega) _ HS0.out.rdr).mono ?_
  rintro e w1 ⟨y, rfl, hy, ho, hr⟩
  have hy3 : y < 3 := by omega
  have HS1 := Lib.hid (HS0.out.lift ho hrb hr)
  clear ho hr hy HS0
  go_wp2_with fail
  refine (pick_any rb _ 6 (by omega) _ HS1.out.rdr).mono ?_
  rintro e w2 ⟨k0, rfl, hk0, ho, hr⟩
  have hk6 : k0 < 6 := by omega
  have HS2 := Lib.hid (HS1.out.lift ho hrb hr)
  clear ho hr hk0 HS1
  obtain ⟨K, hK⟩ : ∃ K : Nat, 1 + k0 = K := ⟨_, rfl⟩
  have hKi : (1 : Int) + (k0 : Int) = (K : Int) := by omega
  have hK1 : 1 ≤ K := by omega
  have hK6 : K ≤ 6 := by omega
  clear hK hk6
  go_wp2_with fail
  go_loopw [5, 6, 7] (fun v a k wr => ∃ (j q t : Nat) (vo : Value) (xs : List Int), j ≤ K ∧ q = K - j ∧ t ≤ 2 + 2 * j ∧ xs.length = j ∧ k = .int .i64 q ∧ a = .int .i64 t ∧ vo = v ∧ Hid (ShR rb (P + 2 + j) w vo xs wr)) (fun _ _ k _ => (intOf k).toNat)
  case atStart => exact ⟨0, K, y, _, [], Nat.zero_le _, by omega, by omega, rfl, rfl, rfl, rfl, Lib.hid (HS2.out.mono (by omega))⟩
  case round =>
    clear HS2
    obtain ⟨j, q, t, vo, xs, hj, hq, ht, hxl, rfl, rfl, rfl, hS⟩ := hrel
    by_cases hlt : j < K
    · have hq0 : (0 : Int) < (q : Int) := by omega
      obtain ⟨a9, c9, rfl⟩ := hS.out.own.slice
      have HXL := Lib.hid hxl
      have HO : Hid (wr.ownsRow w.heap.size 3 1 (.slice a9 xs.length c9) xs.length (xs.map (Value.int .i64))) := Lib.hid hS.out.own
      have k1 := Lib.hid (fun (jj : Nat) (u : Value) (h : [Value.int .i64 (t : Int)][jj]? = some u) => cell_one_new wr (.int .i64 (t : Int)) 3 jj u h)
      have k2 : Hid (∀ u ∈ [Value.int .i64 (t : Int)], u.oneCell' = true) := Lib.hid (by intro u hu; simp at hu; subst hu; rfl)
      have k3 : Hid (xs.length + 1 ≤ maxLen) := Lib.hid (by unfold maxLen; omega)
      have k4 : Hid ((xs.length + 1) * 8 ≤ 140737488355328) := Lib.hid (by omega)
      have k5 : Hid (w.heap.size ≤ (wr.alloc (.cells #[.int .i64 (t : Int)] 3)).heap.size) := Lib.hid (by rw [alloc_size]; have := hS.out.only.size; omega)
      have HQ := Lib.hid hq
      have hq1 : 1 ≤ q := by omega
      have hq6 : q ≤ 6 := by omega
      clear hxl hq
      go_wp2_with (at_builtin; refine wpList_append_own _ rfl (.tmp 18) (.tmp 20) 23 rfl w.heap.size 3 i0 (.int .i64 0) 1 8 Try.underlying23 hii hz0 hz1 hz2 rfl (by decide) _ _ _ rfl (HO.out.alloc _) ⟨wr.heap.size, 0, none⟩ 1 1 [.int .i64 (t : Int)] rfl rfl k1.out k2.out k3.out k4.out k5.out ?_)
      intro v5 w5 hown5 hgrow5 _
      have hs5 := hS.out.more (z := (t : Int)) (by unfold I64; omega) hrb (OwnX.snoc hown5) hgrow5
      obtain ⟨g5, c5, rfl⟩ := ownsRow_succ hown5
      have HS5 := Lib.hid hs5
      clear hown5 hgrow5 hs5 k1 k2 k3 k4 k5 HO hS
      go_wp2_with fail
      refine (pick_any rb _ 2 (by omega) _ HS5.out.rdr).mono ?_
      rintro e w6 ⟨z, rfl, hz, ho, hr⟩
      have hz2' : z < 2 := by omega
      have HS6 := Lib.hid (HS5.out.lift ho hrb hr)
      clear ho hr hz HS5
      go_wp2_with fail
      go_roundw
      case rel => exact ⟨j + 1, q - 1, t + 1 + z, _, xs ++ [(t : Int)], by omega, by have := HQ.out; omega, by omega, by rw [List.length_append, HXL.out]; rfl, by have := HQ.out; go_num, by go_num, rfl, Lib.hid (HS6.out.mono (by omega))⟩
      case measure => simp [intOf]; omega
    · have hq0 : ¬ (0 : Int) < (q : Int) := by omega
      have hjK : j = K := by omega
      subst hjK
      have HS := Lib.hid (hS.out.mono (show P + 2 + j ≤ P + 10 by omega))
      obtain ⟨g, cp, hv, hBg, hgl, hcp, hM, hrw⟩ := HS.out.own.rw (by omega)
      subst hv
      have HRW := Lib.hid hrw; have HM := Lib.hid hM; have HCP := Lib.hid hcp; have HBG := Lib.hid hBg; have HGL := Lib.hid hgl
      have hx1 : 1 ≤ xs.length := by omega
      have hx6 : xs.length ≤ 6 := by omega
      clear hS hrw hM hcp hBg hgl hxl hq
      go_wp2_with fail
      refine (odd_any rb _ n hn hn2 (by omega) _ HS.out.rdr).mono ?_
      rintro e w3 ⟨b, rfl, ho, hr⟩
      have HS3 := Lib.hid (HS.out.lift ho hrb hr)
      clear ho hr HS HRW
      cases b with
      | false =>
        go_wp2_with fail
        go_ret
        exact ⟨_, xs, rfl, by omega, HS3.out.i64, HS3.out.own, HS3.out.only, HS3.out.rdr.mono (by omega)⟩
      | true =>
        go_wp2_with fail
        refine (pick_any rb _ 3 (by omega) _ HS3.out.rdr).mono ?_
        rintro e w4 ⟨x, rfl, hx, ho, hr⟩
        have hx3 : x < 3 := by omega
        have HS4 := Lib.hid (HS3.out.lift ho hrb hr)
        clear ho hr hx HS3
        by_cases hx0 : x < 1
        · have hq0 : ((x : Int) == 0) = true := by rw [beq_iff_eq]; omega
          have HL := Lib.hid (OwnX.base (OwnX.made w4 w4.heap.size (Nat.le_refl _) 3) HS4.out.only.size)
          go_wp2_with fail
          go_ret
          exact ⟨_, [], rfl, by simp, fun x hx => (by cases hx), HL.out, HS4.out.only.alloc _, (HS4.out.rdr.below (alloc_below _ _)).mono (by omega)⟩
        have hq0 : ((x : Int) == 0) = false := by rw [beq_eq_false_iff_ne]; omega
        obtain ⟨g4, cp4, hv4, hBg4, hgl4, hcp4, hM4, hrw4⟩ := HS4.out.own.rw hx1
        cases hv4
        have hlen0 : (0 : Int) < (xs.length : Int) := by omega
        have hc0 := hrw4.cell 0 (by omega)
        have hf0 := hrw4.frozen 0
        have HU := Lib.hid (show I64 (xs.getD 0 0) from HS4.out.i64 _ (getD_mem (by omega)))
        obtain ⟨u, hu⟩ : ∃ u, xs.getD 0 0 = u := ⟨_, rfl⟩
        rw [hu] at hc0 HU
        have HRW := Lib.hid hrw4; have HM4 := Lib.hid hM4; have HCP4 := Lib.hid hcp4; have HBG4 := Lib.hid hBg4
        obtain ⟨len, hlen⟩ : ∃ len, xs.length = len := ⟨_, rfl⟩
        have HLEN := Lib.hid hlen
        rw [hlen] at HS4 HRW HCP4 hx1 hx6 hlen0 ⊢
        clear hu hrw4 hM4 hcp4 hBg4 hgl4 hlen
        by_cases hx1' : x < 2
        · have hq1 : ((x : Int) == 1) = true := by rw [beq_iff_eq]; omega
          have HO : Hid (w4.ownsRow w.heap.size 3 1 (.slice (some ⟨g, 0, none⟩) len cp) len (xs.map (Value.int .i64))) := Lib.hid (by have := HS4.out.own; unfold OwnX at this; rw [HLEN.out] at this; exact this)
          have k1 := Lib.hid (fun (jj : Nat) (u' : Value) (h : [Value.int .i64 u][jj]? = some u') => cell_one_new w4 (.int .i64 u) 3 jj u' h)
          have k2 : Hid (∀ u' ∈ [Value.int .i64 u], u'.oneCell' = true) := Lib.hid (by intro u' hu; simp at hu; subst hu; rfl)
          have k3 : Hid (len + 1 ≤ maxLen) := Lib.hid (by unfold maxLen; omega)
          have k4 : Hid ((len + 1) * 8 ≤ 140737488355328) := Lib.hid (by omega)
          have k5 : Hid (w.heap.size ≤ (w4.alloc (.cells #[.int .i64 u] 3)).heap.size) := Lib.hid (by rw [alloc_size]; have := HS4.out.only.size; omega)
          go_wp2_with (at_builtin; refine wpList_append_own _ rfl (.tmp 44) (.tmp 48) 23 rfl w.heap.size 3 i0 (.int .i64 0) 1 8 Try.underlying23 hii hz0 hz1 hz2 rfl (by decide) _ _ _ rfl (HO.out.alloc _) ⟨w4.heap.size, 0, none⟩ 1 1 [.int .i64 u] rfl rfl k1.out k2.out k3.out k4.out k5.out ?_)
          intro v5 w5 hown5 hgrow5 _
          have HS5 := Lib.hid (HS4.out.more (z := u) HU.out hrb (show OwnX w5 w.heap.size 3 v5 (xs ++ [u]) by unfold OwnX; rw [List.length_append, HLEN.out, List.map_append]; exact hown5) hgrow5)
          clear hown5 hgrow5 k1 k2 k3 k4 k5 HO
          go_wp2_with fail
          go_ret
          exact ⟨_, xs ++ [u], rfl, by rw [List.length_append, HLEN.out]; simp; omega, HS5.out.i64, HS5.out.own, HS5.out.only, HS5.out.rdr.mono (by omega)⟩
        · have hq1 : ((x : Int) == 1) = false := by rw [beq_eq_false_iff_ne]; omega
          clear hc0 hf0
          have hab := alloc_below w4 (.cells #[.int .i64 (-1), .int .i64 100] 3)
          have hlit := (Blk2.new w4 3 (.int .i64 (-1)) (.int .i64 100))
          have HS5 := Lib.hid (show ShR rb (P + 10 + 1 + 1) w (.slice (some ⟨g, 0, none⟩) len cp) xs (w4.alloc (.cells #[.int .i64 (-1), .int .i64 100] 3)) from ⟨HS4.out.own.kept hab, HS4.out.i64, HS4.out.only.alloc _, HS4.out.rdr.below hab⟩)
          have HG4 := Lib.hid (show g < w4.heap.size ∧ g ≠ rb ∧ w4.heap.size ≠ rb from ⟨HRW.out.rwlt, by have := HBG4.out; omega, by have := HS4.out.only.size; omega⟩)
          have HLT := Lib.hid (show w4.heap.size < (w4.alloc (.cells #[.int .i64 (-1), .int .i64 100] 3)).heap.size by rw [alloc_size]; omega)
          replace HRW := Lib.hid (HRW.out.rwat (hab.block g HG4.out.1))
          have HLI := Lib.hid hlit
          clear hab hlit
          go_wp2_with fail
          refine (pick_any rb _ 2 (by omega) _ HS5.out.rdr).mono ?_
          rintro e w6 ⟨z, rfl, hz, ho, hr⟩
          have hz2' : z < 2 := by omega
          have hzi : (z : Int) < 2 := by omega
          have HS6 := Lib.hid (HS5.out.lift ho hrb hr)
          replace HRW := Lib.hid (HRW.out.rwat (ho.block g (by have := HG4.out; have := HLT.out; omega) HG4.out.2.1))
          have hbl : Blk2 w6 w4.heap.size 3 (.int .i64 (-1)) (.int .i64 100) := (ho.block _ HLT.out HG4.out.2.2).trans HLI.out
          obtain ⟨b0, b1⟩ := hbl.cell
          have hold := HRW.out.cell 0 (by omega)
          have hfz := HRW.out.frozen 0
          obtain ⟨u0, hu0⟩ : ∃ u0, xs.getD 0 0 = u0 := ⟨_, rfl⟩
          rw [hu0] at hold
          clear hu0 hz ho hr HS5 HLI hbl
          have hfin : ∀ t : Int, I64 t → ShR rb (P + 10 + 1 + 1 + 1) w (.slice (some ⟨g, 0, none⟩) len cp) (rowL (fun i => if i = 0 then t else xs.getD i 0) len) (w6.setCell ⟨g, 0, none⟩ (.int .i64 t)) := fun t ht =>
            ⟨Rw.own (m := len) (by
                have := HRW.out.set 0 t
                exact this.less (Nat.le_refl _) (fun i hi => by rw [rowL_getD _ _ _ hi])) (rowL_len _ _).symm HBG4.out HCP4.out HM4.out,
              rowL_mem (P := I64) (fun i hi => by
                show I64 (if i = 0 then t else xs.getD i 0)
                split
                · exact ht
                · exact HS6.out.i64 _ (getD_mem (by rw [HLEN.out]; exact hi))), HS6.out.only.fresh (by have := HBG4.out; omega) _ _, HS6.out.rdr.belowB ((Below.refl w.heap.size w6).setCell (p := ⟨g, 0, none⟩) HBG4.out _) hrb⟩
          have HF := Lib.hid hfin; clear hfin
          rcases (show z = 0 ∨ z = 1 by omega) with rfl | rfl
          · go_wp2_with fail
            go_ret
            have hf := HF.out (-1) (by unfold I64; omega)
            exact ⟨_, _, rfl, by rw [rowL_len]; omega, hf.i64, hf.own, hf.only, hf.rdr.mono (by omega)⟩
          · go_wp2_with fail
            go_ret
            have hf := HF.out 100 (by unfold I64; omega)
            exact ⟨_, _, rfl, by rw [rowL_len]; omega, hf.i64, hf.own, hf.only, hf.rdr.mono (by omega)⟩
end Go.Proofs.Ytibjdmmcnhlgnaa
