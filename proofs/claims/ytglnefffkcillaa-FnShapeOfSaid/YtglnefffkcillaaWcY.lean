import Derived.Test.YtglnefffkcillaaWcX
namespace Go.Proofs.Ytglnefffkcillaa
set_option linter.unusedVariables false
set_option linter.unusedSimpArgs false
open Go.RowKit Go.Maps

theorem sameB_zero (f g : Nat → Int) : sameB 0 f g = true := decide_eq_true (fun i hi => absurd hi (Nat.not_lt_zero _))
theorem sameB_next (n : Nat) (f g : Nat → Int) : sameB (n + 1) f g = (sameB n f g && (f n == g n)) := by
  rw [Bool.eq_iff_iff, Bool.and_eq_true, beq_iff_eq]
  unfold sameB
  rw [decide_eq_true_eq, decide_eq_true_eq]
  refine ⟨fun h => ⟨fun i hi => h i (by omega), h n (by omega)⟩, fun ⟨h1, h2⟩ i hi => ?_⟩
  by_cases e : i = n
  · subst e; exact h2
  · exact h1 i (by omega)
theorem worldB_congr {n : Nat} {f g : Nat → Int} (e : ∀ i, i < n → f i = g i) : worldB n f = worldB n g := by
  have h : ∀ f g : Nat → Int, (∀ i, i < n → f i = g i) → worldB n f = true → worldB n g = true := by
    intro f g e h
    unfold worldB okB at *
    simp only [Bool.and_eq_true] at h ⊢
    obtain ⟨h1, ⟨⟨h2, h3⟩, h4⟩, h5⟩ := h
    unfold numB at h2; unfold selfB at h3; unfold orderB at h4; unfold popB at h5
    rw [decide_eq_true_eq] at h2 h3 h4 h5
    refine ⟨h1, ⟨⟨?_, ?_⟩, ?_⟩, ?_⟩
    · exact decide_eq_true (fun a ha => by rw [← e a ha]; exact h2 a ha)
    · exact decide_eq_true (fun a ha => by rw [← e a ha]; exact h3 a ha)
    · exact decide_eq_true (fun b hb a ha => by rw [← e b hb, ← e a (by omega)]; exact h4 b hb a ha)
    · exact decide_eq_true (fun b hb a ha hh => by rw [← e b hb, ← e a ha]; rw [← e b hb] at hh; exact h5 b hb a ha hh)
  rw [Bool.eq_iff_iff]
  exact ⟨h f g e, h g f (fun i hi => (e i hi).symm)⟩
/-- is a world its own shape, as the model asks? -/
def ownS (n : Nat) (L : List Int) : Bool := sameB n (rv (shS n (rv L))) (rv L)
def csS (n : Nat) : Int := ((alL n).filter (ownS n)).length
theorem al_world {n : Nat} (h1 : 1 ≤ n) (h4 : n ≤ 4) : ∀ L ∈ alL n, shB n (rv L) = true ∧ ∀ i, i < n → 0 ≤ rv L i := fun L hL => by
  obtain ⟨m, hm, rfl⟩ := List.mem_map.1 hL
  have h5 := (List.mem_filter.1 hm).2
  have h6 := (Bool.and_eq_true_iff.1 h5).2
  have e : ∀ i, i < n → rv (dgL n m) i = dgR n m 0 i := fun i hi => rowL_getD _ _ _ hi
  refine ⟨?_, fun i hi => by rw [e i hi]; unfold dgR; rw [if_pos (Nat.zero_le _)]; omega⟩
  unfold shB
  rw [decide_eq_true h4, Bool.and_true, worldB_congr e]
  exact h6

theorem shS_len {n : Nat} (f : Nat → Int) (h1 : 1 ≤ n) (h4 : n ≤ 4) (LL : List (List Int)) (hLL : ∀ o ∈ LL, o.length = n) : ∀ m : List Int, m.length = n → (LL.foldl (stS n) m).length = n := by
  induction LL with
  | nil => intro m hm; exact hm
  | cons x LL ih =>
    intro m hm
    exact ih (fun o ho => hLL o (by simp [ho])) _ (stS_len (.inr hm) (hLL x (by simp)))
theorem shS_some (n : Nat) (h1 : 1 ≤ n) (h4 : n ≤ 4) (f : Nat → Int) : (shS n f).length = n := by
  have hne : ∃ o os, llK (otherC (idL n)) n = o :: os := by
    have hc : n = 1 ∨ n = 2 ∨ n = 3 ∨ n = 4 := by omega
    rcases hc with rfl | rfl | rfl | rfl
    · exact ⟨_, _, rfl⟩
    · exact ⟨_, _, rfl⟩
    · exact ⟨_, _, rfl⟩
    · exact ⟨_, _, rfl⟩
  obtain ⟨o, os, ho⟩ := hne
  unfold shS rnO
  rw [ho, List.map_cons, List.foldl_cons]
  refine shS_len f h1 h4 _ (fun x hx => ?_) _ ?_
  · obtain ⟨y, _, rfl⟩ := List.mem_map.1 hx
    exact rnL_len _ _ _
  · exact rnL_len n f (ro o)

set_option maxRecDepth 100000 in
set_option maxHeartbeats 8000000 in
theorem specCountShapes_in (n : Nat) (h1 : 1 ≤ n) (h3 : n ≤ 3) (hne : 1 ≤ (alL n).length) (w : World) :
    Calls Try.prog 31 #[.int .i64 (n : Int)] w fun e w' => e = .returned (.int .i64 (csS n)) ∧ Below w.heap.size w w' := by
  go_enter Try.func31, Try.ntmps31
  go_wp2_with fail
  refine (specWorldsOf_in n h1 h3 w).mono ?_
  rintro e w1 ⟨v, rs, rfl, hs, hb⟩
  obtain ⟨a, c, rfl⟩ := hs.slice
  have HLEN := Lib.hid (al_size (n := n) (by omega))
  have H64 := Lib.hid (al_I64 (by omega) : ∀ L ∈ alL n, _); have HAW := Lib.hid (al_world h1 (by omega) : ∀ L ∈ alL n, _)
  have HCW : Hid (csS n = ((alL n).filter (ownS n)).length) := Lib.hid rfl
  obtain ⟨AL, hAL⟩ : ∃ AL, alL n = AL := ⟨_, rfl⟩
  rw [hAL] at hs HLEN H64 HAW HCW hne ⊢
  clear hAL
  have HS := Lib.hid hs; have HB := Lib.hid hb
  clear hs hb
  go_wp2_with fail
  go_loopw [4, 5, 6, 7, 8] (fun c i _ _ _ wr => ∃ j : Nat, j ≤ AL.length ∧ i = .int .i64 j ∧ c = .int .i64 (((AL.take j).filter (ownS n)).length : Nat) ∧ Hid (Below w1.heap.size w1 wr)) (fun _ i _ _ _ _ => AL.length - (intOf i).toNat)
  case atStart => exact ⟨0, Nat.zero_le _, rfl, rfl, Lib.hid (Below.refl _ _)⟩
  case round =>
    obtain ⟨j, hj, rfl, rfl, hbw⟩ := hrel
    have hLEN := HLEN.out
    have hcnt : ((AL.take j).filter (ownS n)).length ≤ 65536 := by
      have h5 := List.length_filter_le (ownS n) (AL.take j)
      rw [List.length_take] at h5; omega
    by_cases hlt : j < AL.length
    · have hji : (j : Int) < (AL.length : Int) := by omega
      have hj0 : (0 : Int) ≤ (j : Int) := by omega
      have HSO := Lib.hid (HS.out.kept hbw.out)
      obtain ⟨gv, dv, hav⟩ := HSO.out.shape (by omega)
      simp only [Value.slice.injEq] at hav
      obtain ⟨rfl, hz1, rfl⟩ := hav
      clear hz1
      have hc0 := HSO.out.cell hlt
      obtain ⟨gL, cL, hgl⟩ : ∃ gL cL, rs.getD j (0, 0) = (gL, cL) := ⟨_, _, rfl⟩
      rw [hgl] at hc0
      dsimp only at hc0
      obtain ⟨L, hL⟩ : ∃ L, AL.getD j [] = L := ⟨_, rfl⟩
      have hLm : L ∈ AL := by rw [← hL, List.getD_eq_getElem?_getD, List.getElem?_eq_getElem hlt]; exact List.getElem_mem _
      have hro : Row wr gL 0 n (rv L) := by
        have := HSO.out.rowG hlt h1
        rw [hgl, hL] at this
        exact this
      have hgll : gL < wr.heap.size := by
        have h5 := (HSO.out.row j hlt).1
        rw [hgl] at h5
        exact (World.ownsRow.lt h5 gL rfl).2
      have hgvl : gv < wr.heap.size := (World.ownsRow.lt HSO.out.own gv rfl).2
      have hint := ints_row hro hgll (by omega) (fun i hi => H64.out L hLm i hi)
      obtain ⟨hsb, hL0⟩ := HAW.out L hLm
      have HSP := Lib.hid (specShapeOf_in gL 0 n cL (rv L) hsb wr hint hro hgll hL0)
      have HTK : Hid (AL.take (j + 1) = AL.take j ++ [L]) := Lib.hid (by rw [List.take_add_one, List.getElem?_eq_getElem hlt, ← hL, List.getD_eq_getElem?_getD, List.getElem?_eq_getElem hlt]; rfl)
      have HRO := Lib.hid hro
      clear hL hLm hro hgl hint hsb hL0
      obtain ⟨cn, hcn⟩ : ∃ cn, ((AL.take j).filter (ownS n)).length = cn := ⟨_, rfl⟩
      have HCN := Lib.hid hcn
      rw [hcn] at hcnt ⊢
      clear hcn
      go_wp2_with fail
      refine HSP.out.mono ?_
      rintro e w7 ⟨v7, rfl, ho7, hb7⟩
      obtain ⟨gx, cx, hv7, _, hgxl, _, _, hrx, _⟩ := ho7.shape (by rw [shS_some n h1 (by omega)]; exact h1)
      rw [shS_some n h1 (by omega)] at hv7 hrx
      subst hv7
      have HRX : Hid (Row w7 gx 0 n (rv (shS n (rv L)))) := Lib.hid hrx
      have HRL := Lib.hid (HRO.out.below hb7 hgll)
      have hc7 := (hb7.cell (p := ⟨gv, j, none⟩) hgvl).trans hc0
      have HC7 := Lib.hid hc7
      have HB7 := Lib.hid (hbw.out.trans (hb7.mono hbw.out.size))
      have hgv7 : gv < w7.heap.size := Nat.lt_of_lt_of_le hgvl hb7.size
      have hgl7 : gL < w7.heap.size := Nat.lt_of_lt_of_le hgll hb7.size
      obtain ⟨X, hX⟩ : ∃ X, rv (shS n (rv L)) = X := ⟨_, rfl⟩
      have HOWN : Hid (ownS n L = sameB n X (rv L)) := Lib.hid (by unfold ownS; rw [hX])
      rw [hX] at HRX
      clear hX hrx ho7 hb7 hc0 hc7 HSP
      go_wp2_with fail
      go_loopw [7, 8] (fun b y wx => ∃ k : Nat, k ≤ n ∧ y = .int .i64 k ∧ b = .bool (sameB k X (rv L)) ∧ Hid (Drew w7 wx)) (fun _ y _ => n - (intOf y).toNat)
      case atStart => exact ⟨0, Nat.zero_le _, rfl, by rw [sameB_zero], Lib.hid (Drew.refl _)⟩
      case round =>
        obtain ⟨y, hy, rfl, rfl, hdr⟩ := hrel
        by_cases hly : y < n
        · have hyi : (y : Int) < (n : Int) := by omega
          have hy0 : (0 : Int) ≤ (y : Int) := by omega
          have hcx1 := HRX.out.below hdr.out.below hgxl y hly
          have hcl1 := HRL.out.below hdr.out.below hgl7 y hly
          have hcv1 := (hdr.out.below.cell (p := ⟨gv, j, none⟩) hgv7).trans HC7.out
          rw [Nat.zero_add] at hcx1 hcl1
          have hnx := sameB_next y X (rv L)
          obtain ⟨p, hp⟩ : ∃ p, X y = p := ⟨_, rfl⟩
          obtain ⟨q, hq⟩ : ∃ q, rv L y = q := ⟨_, rfl⟩
          rw [hp] at hcx1 hnx; rw [hq] at hcl1 hnx
          clear hp hq
          cases hsm : sameB y X (rv L) with
          | false =>
            have HNX := Lib.hid (show sameB (y + 1) X (rv L) = false by rw [hnx, hsm]; rfl)
            clear hnx hsm
            go_wp2_with fail
            go_quiet (fail)
            go_wp2_with fail
            go_roundw
            case rel => exact ⟨y + 1, by omega, by go_num, by rw [HNX.out], Lib.hid (hdr.out.more _)⟩
            case measure => simp [intOf]; omega
          | true =>
            cases hpq : (p == q) with
            | true =>
              have HNX := Lib.hid (show sameB (y + 1) X (rv L) = true by rw [hnx, hsm, hpq]; rfl)
              clear hnx hsm
              go_wp2_with fail
              go_quiet (fail)
              go_wp2_with fail
              go_roundw
              case rel => exact ⟨y + 1, by omega, by go_num, by rw [HNX.out], Lib.hid (hdr.out.more _)⟩
              case measure => simp [intOf]; omega
            | false =>
              have HNX := Lib.hid (show sameB (y + 1) X (rv L) = false by rw [hnx, hsm, hpq]; rfl)
              clear hnx hsm
              go_wp2_with fail
              go_quiet (fail)
              go_wp2_with fail
              go_roundw
              case rel => exact ⟨y + 1, by omega, by go_num, by rw [HNX.out], Lib.hid (hdr.out.more _)⟩
              case measure => simp [intOf]; omega
        · have hyi : ¬ (y : Int) < (n : Int) := by omega
          have hye : y = n := by omega
          subst hye
          cases hsm : sameB y X (rv L) with
          | false =>
            have HNX : Hid (((AL.take (j + 1)).filter (ownS y)).length = cn) := Lib.hid (by rw [HTK.out, List.filter_append, List.length_append, HCN.out]; simp [HOWN.out, hsm])
            clear hsm
            go_wp2_with fail
            go_roundw
            case rel => exact ⟨j + 1, by omega, by go_num, by rw [HNX.out], Lib.hid (HB7.out.trans (hdr.out.below.mono HB7.out.size))⟩
            case measure => simp [intOf]; omega
          | true =>
            have HNX : Hid (((AL.take (j + 1)).filter (ownS y)).length = cn + 1) := Lib.hid (by rw [HTK.out, List.filter_append, List.length_append, HCN.out]; simp [HOWN.out, hsm])
            clear hsm
            go_wp2_with fail
            go_roundw
            case rel => exact ⟨j + 1, by omega, by go_num, by rw [HNX.out]; go_num, Lib.hid (HB7.out.trans (hdr.out.below.mono HB7.out.size))⟩
            case measure => simp [intOf]; omega
    · have hji : ¬ (j : Int) < (AL.length : Int) := by omega
      have hje : j = AL.length := by omega
      subst hje
      have hT : AL.take AL.length = AL := List.take_length
      rw [hT]
      obtain ⟨cn, hcn⟩ : ∃ cn, (AL.filter (ownS n)).length = cn := ⟨_, rfl⟩
      have HCN : Hid (csS n = (cn : Int)) := Lib.hid (by rw [HCW.out, hcn])
      rw [hcn]
      clear hcn hcnt
      have hl0 : ((AL.length : Int) == 0) = false := by rw [beq_eq_false_iff_ne]; omega
      go_wp2_with fail
      go_ret
      exact ⟨by rw [HCN.out]; rfl, HB.out.trans (hbw.out.mono HB.out.size)⟩
theorem specCountShapes_no (t : Int) (h : ¬ (1 ≤ t ∧ t ≤ 3)) (w : World) :
    Calls Try.prog 31 #[.int .i64 t] w fun e w' => e = .returned (.int .i64 (-1)) ∧ Below w.heap.size w w' := by
  go_enter Try.func31, Try.ntmps31
  go_wp2_with fail
  refine (specWorldsOf_no t h w).mono ?_
  rintro e w1 ⟨rfl, hb⟩
  have HB := Lib.hid hb; clear hb h
  go_wp2_with fail
  go_loopw [4, 5, 6, 7, 8] (fun c i _ _ _ wr => i = .int .i64 0 ∧ c = .int .i64 0 ∧ wr = w1) (fun _ _ _ _ _ _ => 0)
  case atStart => exact ⟨rfl, rfl, rfl⟩
  case round =>
    obtain ⟨rfl, rfl, rfl⟩ := hrel
    go_wp2_with fail
    go_ret
    exact ⟨rfl, HB.out⟩
end Go.Proofs.Ytglnefffkcillaa
