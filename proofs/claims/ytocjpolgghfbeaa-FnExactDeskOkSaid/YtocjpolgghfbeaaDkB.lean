import Derived.Test.YtocjpolgghfbeaaDkA
import Derived.Test.YtocjpolgghfbeaaFamC
namespace Go.Proofs.Ytocjpolgghfbeaa
set_option linter.unusedVariables false
set_option linter.unusedSimpArgs false
open Go.RowKit Go.Maps

theorem Nest.at {w : World} {b : Option Addr} {L : List (List Int)} (h : Nest w b L) {k : Nat} (hk : k < L.length) :
    ∃ bk o a c, b = some ⟨bk, o, none⟩ ∧ (L.getD k []).length ≤ c ∧ Ints w a (L.getD k []).length (fun j => (L.getD k []).getD j 0) ∧ ∀ W, Below w.heap.size w W → W.cell? ⟨bk, o + k, none⟩ = some (.slice a (L.getD k []).length c) := by
  rcases h.2 with h0 | ⟨bk, o, e, hl, hr⟩
  · omega
  · obtain ⟨a, c, h1, h2, h3⟩ := hr k hk
    have hg : L.getD k [] = L[k] := by rw [List.getD_eq_getElem?_getD, List.getElem?_eq_getElem hk]; rfl
    rw [hg]
    exact ⟨bk, o, a, c, e, h2, h3, fun W hW => (hW.cell (p := ⟨bk, o + k, none⟩) hl).trans h1⟩
theorem all_at {L : List (List Int)} (h : ∀ i, i < L.length → famL (L.getD i []) = true) : L.all famL = true := by
  rw [List.all_eq_true]
  intro l hl
  obtain ⟨i, hi, rfl⟩ := List.getElem_of_mem hl
  have := h i hi
  rwa [List.getD_eq_getElem?_getD, List.getElem?_eq_getElem hi] at this
theorem all_bad {L : List (List Int)} {k : Nat} (hk : k < L.length) (h : famL (L.getD k []) = false) : L.all famL = false := by
  cases hb : L.all famL with
  | false => rfl
  | true =>
    have := List.all_eq_true.1 hb (L.getD k []) (by rw [List.getD_eq_getElem?_getD, List.getElem?_eq_getElem hk]; exact List.getElem_mem hk)
    rw [h] at this; cases this

theorem isFam_any (a : Option Addr) (l : List Int) (c : Nat) (v : Bool) (w : World) (hv : famL l = v) (hi : Ints w a l.length (fun j => l.getD j 0)) :
    Calls Try.prog 46 #[.slice a l.length c] w fun e w' => e = .returned (.bool (!v)) ∧ Below w.heap.size w w' := by
  have HI := Lib.hid hi; have HV := Lib.hid hv; clear hi hv
  go_enter Try.func46, Try.ntmps46
  go_wp2_with fail
  refine (FamilyOk_val a l.length c (fun j => l.getD j 0) v _ HV.out HI.out).mono ?_
  rintro e w1 ⟨rfl, hb⟩
  have HB := Lib.hid hb; clear hb
  go_wp2_with fail
  go_ret
  exact ⟨rfl, HB.out⟩

def IdxEnd (L : List (List Int)) (w : World) (e : Ending) (w' : World) : Prop :=
  ∃ r : Int, e = .returned (.int .i64 r) ∧ (L.all famL = true → r = -1) ∧ (L.all famL = false → 0 ≤ r) ∧ Below w.heap.size w w'

set_option maxRecDepth 100000 in
set_option maxHeartbeats 1600000 in
theorem indexFam_any (b : Option Addr) (L : List (List Int)) (c : Nat) (w : World) (hn : Nest w b L) :
    Calls Try.prog 73 #[.slice b L.length c, .func (.func 46) #[] #[]] w (IdxEnd L w) := by
  have HN := Lib.hid hn
  have h64 := hn.1
  obtain ⟨n, hnn⟩ : ∃ n, L.length = n := ⟨_, rfl⟩
  have HL := Lib.hid hnn
  rw [hnn] at h64 ⊢
  clear hn hnn
  go_enter Try.func73, Try.ntmps73
  go_wp2_with fail
  go_loopw [5, 8] (fun _ i wr => ∃ k : Nat, k ≤ n ∧ i = .int .i64 k ∧ Hid (∀ i, i < k → famL (L.getD i []) = true) ∧ Hid (Below w.heap.size w wr)) (fun _ i _ => n - (intOf i).toNat)
  case atStart => exact ⟨0, Nat.zero_le _, rfl, Lib.hid (fun i hi => absurd hi (Nat.not_lt_zero _)), Lib.hid (Below.refl _ _)⟩
  case round =>
    obtain ⟨k, hk, rfl, hall, HB⟩ := hrel
    by_cases hlt : k < n
    · have hki : (k : Int) < (n : Int) := by omega
      have hk0 : (0 : Int) ≤ (k : Int) := by omega
      obtain ⟨bk, o, a1, c1, rfl, hlc, hi, hcell⟩ := HN.out.at (show k < L.length by rw [HL.out]; exact hlt)
      have hc := hcell wr HB.out
      have HI := Lib.hid (hi.below HB.out (Nat.le_refl _))
      obtain ⟨l, hl⟩ : ∃ l, L.getD k [] = l := ⟨_, rfl⟩
      have HLL := Lib.hid hl
      rw [hl] at hc HI hlc
      clear hi hcell hl
      cases hv : famL l with
      | true =>
        have HV := Lib.hid hv; clear hv
        go_wp2_with fail
        refine (isFam_any a1 l c1 true _ HV.out HI.out).mono ?_
        rintro e w5 ⟨rfl, hb5⟩
        have HB5 := Lib.hid (below_onto HB.out hb5)
        clear hb5 hc
        go_wp2_with fail
        go_roundw
        case rel => exact ⟨k + 1, by omega, by go_num, Lib.hid (fun i hi => by
          by_cases e : i = k
          · subst e; rw [HLL.out]; exact HV.out
          · exact hall.out i (by omega)), HB5⟩
        case measure => simp [intOf]; omega
      | false =>
        have HV := Lib.hid hv; clear hv
        go_wp2_with fail
        refine (isFam_any a1 l c1 false _ HV.out HI.out).mono ?_
        rintro e w5 ⟨rfl, hb5⟩
        have HB5 := Lib.hid (below_onto HB.out hb5)
        have HBAD := Lib.hid (all_bad (show k < L.length by rw [HL.out]; exact hlt) (by rw [HLL.out]; exact HV.out))
        clear hb5 hc
        go_wp2_with fail
        go_ret
        exact ⟨_, rfl, fun h => (by rw [HBAD.out] at h; cases h), fun _ => hk0, HB5.out⟩
    · have hki : ¬ (k : Int) < (n : Int) := by omega
      have hkn : k = n := by omega
      subst hkn
      have HA := Lib.hid (all_at (fun i hi => hall.out i (by rw [HL.out] at hi; exact hi)))
      go_wp2_with fail
      go_ret
      exact ⟨_, rfl, fun _ => rfl, fun h => (by rw [HA.out] at h; cases h), HB.out⟩

set_option maxHeartbeats 1600000 in
theorem containsFam_any (b : Option Addr) (L : List (List Int)) (c : Nat) (w : World) (v : Bool) (hv : L.all famL = v) (hn : Nest w b L) :
    Calls Try.prog 45 #[.slice b L.length c, .func (.func 46) #[] #[]] w fun e w' => e = .returned (.bool (!v)) ∧ Below w.heap.size w w' := by
  have HN := Lib.hid hn; have HV := Lib.hid hv; clear hn hv
  go_enter Try.func45, Try.ntmps45
  go_wp2_with fail
  refine (indexFam_any b L c _ HN.out).mono ?_
  rintro e w1 ⟨r, rfl, h1, h2, hb⟩
  have HB := Lib.hid hb; clear hb
  cases v with
  | true =>
    have hr := h1 HV.out
    subst hr
    clear h1 h2
    go_wp2_with fail
    go_ret
    exact ⟨rfl, HB.out⟩
  | false =>
    have hr := h2 HV.out
    have hd : decide (0 ≤ r) = true := decide_eq_true hr
    clear h1 h2
    go_wp2_with fail
    go_ret
    exact ⟨rfl, HB.out⟩

/-- a desk's two parts in a block of its own -/
theorem DeskR.parts {w : World} {d : Value} {xs : List Int} {L : List (List Int)} (h : DeskR w d xs L) :
    ∃ a c b c2, d = .agg #[.slice a xs.length c, .slice b L.length c2] ∧ Ints w a xs.length (fun j => xs.getD j 0) ∧ Nest w b L := by
  obtain ⟨a, c, b, c2, e, _, _, h3, h4⟩ := h.eq
  exact ⟨a, c, b, c2, e, h3, h4⟩

set_option maxRecDepth 100000 in
set_option maxHeartbeats 1600000 in
theorem DeskOk_any (d : Value) (xs : List Int) (L : List (List Int)) (w : World) (h : DeskR w d xs L) :
    Calls Try.prog 12 #[d] w fun e w' => e = .returned (.bool (deskB xs L)) ∧ Below w.heap.size w w' := by
  obtain ⟨a, c, b, c2, rfl, hi, hn⟩ := h.parts
  have hal := alloc_below w (.cells #[.slice a xs.length c, .slice b L.length c2] 26)
  have HI := Lib.hid (hi.below hal (Nat.le_refl _)); have HN := Lib.hid (hn.kept hal)
  have HAL := Lib.hid hal
  have hblk := Blk2.new w 26 (.slice a xs.length c) (.slice b L.length c2)
  have HBL := Lib.hid hblk
  have HLT := Lib.hid hblk.lt
  clear h hi hn hal hblk
  have HDB := Lib.hid (show deskB xs L = (famL xs && (decide (L.length ≤ 8) && L.all famL)) from rfl)
  cases hf : famL xs with
  | false =>
    rw [hf] at HDB
    have HF := Lib.hid hf; clear hf
    go_enter Try.func12, Try.ntmps12
    go_wp2_with fail
    refine (FamilyOk_val a xs.length c (fun j => xs.getD j 0) false _ HF.out HI.out).mono ?_
    rintro e w1 ⟨rfl, hb⟩
    have HB := Lib.hid (below_onto HAL.out hb); clear hb
    go_wp2_with fail
    go_ret
    exact ⟨retb (by rw [HDB.out]; rfl), HB.out⟩
  | true =>
    rw [hf] at HDB
    have HF := Lib.hid hf; clear hf
    by_cases hl : L.length ≤ 8
    · have hld : decide ((L.length : Int) ≤ 8) = true := decide_eq_true (by omega)
      have hld2 : decide (L.length ≤ 8) = true := decide_eq_true hl
      cases hv : L.all famL with
      | true =>
        rw [hv, hld2] at HDB
        have HV := Lib.hid hv
        clear hv
        go_enter Try.func12, Try.ntmps12
        go_wp2_with fail
        refine (FamilyOk_val a xs.length c (fun j => xs.getD j 0) true _ HF.out HI.out).mono ?_
        rintro e w1 ⟨rfl, hb⟩
        have HB := Lib.hid (below_onto HAL.out hb)
        have HB1 := Lib.hid (HBL.out.kept hb HLT.out)
        have HN1 := Lib.hid (HN.out.kept hb)
        clear hb
        have hc0 := HB1.out.cell.1; have hc1 := HB1.out.cell.2
        go_wp2_with fail
        refine (containsFam_any b L c2 _ true HV.out HN1.out).mono ?_
        rintro e w2 ⟨rfl, hb⟩
        have HB2 := Lib.hid (below_onto HB.out hb)
        clear hb hc0 hc1
        go_wp2_with fail
        go_ret
        exact ⟨retb (by rw [HDB.out]; rfl), HB2.out⟩
      | false =>
        rw [hv, hld2] at HDB
        have HV := Lib.hid hv
        clear hv
        go_enter Try.func12, Try.ntmps12
        go_wp2_with fail
        refine (FamilyOk_val a xs.length c (fun j => xs.getD j 0) true _ HF.out HI.out).mono ?_
        rintro e w1 ⟨rfl, hb⟩
        have HB := Lib.hid (below_onto HAL.out hb)
        have HB1 := Lib.hid (HBL.out.kept hb HLT.out)
        have HN1 := Lib.hid (HN.out.kept hb)
        clear hb
        have hc0 := HB1.out.cell.1; have hc1 := HB1.out.cell.2
        go_wp2_with fail
        refine (containsFam_any b L c2 _ false HV.out HN1.out).mono ?_
        rintro e w2 ⟨rfl, hb⟩
        have HB2 := Lib.hid (below_onto HB.out hb)
        clear hb hc0 hc1
        go_wp2_with fail
        go_ret
        exact ⟨retb (by rw [HDB.out]; rfl), HB2.out⟩
    · have hld : decide ((L.length : Int) ≤ 8) = false := decide_eq_false (by omega)
      have hld2 : decide (L.length ≤ 8) = false := decide_eq_false hl
      rw [hld2] at HDB
      go_enter Try.func12, Try.ntmps12
      go_wp2_with fail
      refine (FamilyOk_val a xs.length c (fun j => xs.getD j 0) true _ HF.out HI.out).mono ?_
      rintro e w1 ⟨rfl, hb⟩
      have HB := Lib.hid (below_onto HAL.out hb)
      have HB1 := Lib.hid (HBL.out.kept hb HLT.out)
      clear hb
      have hc0 := HB1.out.cell.1; have hc1 := HB1.out.cell.2
      go_wp2_with fail
      go_ret
      exact ⟨retb (by rw [HDB.out]; rfl), HB.out⟩
end Go.Proofs.Ytocjpolgghfbeaa
