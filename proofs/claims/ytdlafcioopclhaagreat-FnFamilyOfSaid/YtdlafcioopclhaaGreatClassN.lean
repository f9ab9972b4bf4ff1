import Derived.Test.YtdlafcioopclhaaGreatClass
namespace Go.Proofs.YtdlafcioopclhaaGreat
open Go.RowKit Go.Maps

theorem StrongOk_at (a : Option Addr) (n cap : Nat) (f : Nat → Int) (v : Bool) (w : World) (hv : strongB n f = v) (hi : Ints w a n f) :
    Calls Tryz.prog 11 #[.slice a n cap] w fun e w' => e = .returned (.bool v) ∧ Below w.heap.size w w' := by subst hv; exact StrongOk_any a n cap f w hi
theorem specStrongOk_at (a : Option Addr) (n cap : Nat) (f : Nat → Int) (v : Bool) (w : World) (hv : strongB n f = v) (hi : Ints w a n f) :
    Calls Tryz.prog 23 #[.slice a n cap] w fun e w' => e = .returned (.bool v) ∧ Drew w w' := by subst hv; exact specStrongOk_any a n cap f w hi
set_option maxRecDepth 100000 in
theorem within_valT (x y : Int) (v : Bool) (w : World) (hv : withinB x y = v) :
    Calls Tryz.prog 76 #[.int .i64 x, .int .i64 y] w fun e w' => e = .returned (.bool v) ∧ w = w' := by subst hv; exact within_any x y w

set_option maxRecDepth 100000 in
set_option maxHeartbeats 3200000 in
theorem setsTh_any (x : Int) (X : Nat) (hx : x = X) (hX : X < 128) (w : World) :
    Calls Tryz.prog 59 #[.int .i64 x] w (Gives 39 (subsL X (X + 1)) w) := by
  subst hx
  obtain ⟨i0, hi, hz0, hz1, hz2⟩ := info_parts Tryz.infoThings
  have hst : OwnX w w.heap.size 39 (.slice none 0 0) (subsL X 1) := OwnX.nil _ _ _
  go_enter Tryz.func59, Tryz.ntmps59
  go_wp2_with fail
  go_loopw [3, 4] (fun v i wr => ∃ s : Nat, 1 ≤ s ∧ s ≤ X + 1 ∧ i = .int .i64 s ∧ OwnX wr w.heap.size 39 v (subsL X s) ∧ Below w.heap.size w wr) (fun _ i _ => X + 1 - (intOf i).toNat)
  case atStart => exact ⟨1, Nat.le_refl _, by omega, rfl, hst, Below.refl _ _⟩
  case round =>
    clear hst
    obtain ⟨s, h1, hs, rfl, hown, hbel⟩ := hrel
    obtain ⟨a9, c9, rfl⟩ := hown.slice
    by_cases hlt : s ≤ X
    · have hsi : (s : Int) ≤ (X : Int) := by omega
      cases hg : withinB (s : Int) (X : Int) with
      | true =>
        have HS := Lib.hid (subsL_yes (A := X) (show subG X s = true by unfold subG; rw [hg, decide_eq_true h1]; rfl))
        have HG := Lib.hid hg; clear hg
        have HL := Lib.hid (show (subsL X s).length ≤ 1000 by have := subs_len_le X s; omega)
        have HSZ := Lib.hid hbel.size; have HB := Lib.hid hbel
        have HO : Hid (wr.ownsRow w.heap.size 39 1 (.slice a9 (subsL X s).length c9) (subsL X s).length ((subsL X s).map (Value.int .i64))) := Lib.hid hown
        clear hown hbel
        go_wp2_with fail
        refine (within_valT _ _ true _ HG.out).mono ?_
        rintro e w' ⟨rfl, rfl⟩
        have k1 := Lib.hid (fun (j : Nat) (u : Value) (h : [Value.int .i64 s][j]? = some u) => cell_one_new wr (.int .i64 s) 39 j u h)
        have k2 : Hid (∀ u ∈ [Value.int .i64 s], u.oneCell' = true) := Lib.hid (by intro u hu; simp at hu; subst hu; rfl)
        have k3 : Hid ((subsL X s).length + 1 ≤ maxLen) := Lib.hid (by have := HL.out; unfold maxLen; omega)
        have k4 : Hid (((subsL X s).length + 1) * 8 ≤ 140737488355328) := Lib.hid (by have := HL.out; omega)
        have k5 : Hid (w.heap.size ≤ (wr.alloc (.cells #[.int .i64 s] 39)).heap.size) := Lib.hid (by rw [alloc_size]; have := HSZ.out; omega)
        go_wp2_with (at_builtin; refine wpList_append_own _ rfl (.tmp 14) (.tmp 16) 56 rfl w.heap.size 39 i0 (.int .i64 0) 1 8 Tryz.underlying56 hi hz0 hz1 hz2 rfl (by decide) _ _ _ rfl (HO.out.alloc _) ⟨wr.heap.size, 0, none⟩ 1 1 [.int .i64 s] rfl rfl k1.out k2.out k3.out k4.out k5.out ?_)
        intro v' w5 hown' hgrow _
        have hg5 : Below w.heap.size wr w5 := ((Below.refl w.heap.size wr).alloc HSZ.out _).grown hgrow (by have := HSZ.out; rw [alloc_size]; omega) (fun q hq => (HO.out.lt q hq).1)
        have ho5 := OwnX.snoc hown'
        clear hown' hgrow k1 k2 k3 k4 k5
        have HO5 := Lib.hid ho5; have HG5 := Lib.hid hg5; clear ho5 hg5
        go_wp2_with fail
        go_roundw
        case rel => exact ⟨s + 1, by omega, by omega, by go_num, by rw [HS.out]; exact HO5.out, HB.out.trans HG5.out⟩
        case measure => simp [intOf]; omega
      | false =>
        have HS := Lib.hid (subsL_no (A := X) (show subG X s = false by unfold subG; rw [hg, Bool.and_false]))
        have HG := Lib.hid hg; clear hg
        have HB := Lib.hid hbel; have HO := Lib.hid hown
        clear hown hbel
        go_wp2_with fail
        refine (within_valT _ _ false _ HG.out).mono ?_
        rintro e w' ⟨rfl, rfl⟩
        go_wp2_with fail
        go_roundw
        case rel => exact ⟨s + 1, by omega, by omega, by go_num, by rw [HS.out]; exact HO.out, HB.out⟩
        case measure => simp [intOf]; omega
    · have hsi : ¬ (s : Int) ≤ (X : Int) := by omega
      have hse : s = X + 1 := by omega
      subst hse
      go_wp2_with fail
      go_ret
      exact ⟨_, rfl, hown, hbel⟩

/-- what the map of names reads as behind k of the list's numbers -/
def mapK (L : List Int) : Nat → DataW Empty
  | 0 => .map []
  | k + 1 => (mapK L k).put (.int .i64 (L.getD k 0)) (.lit (.int .i64 k))
theorem mapK_is (L : List Int) : ∀ k, IsMap (mapK L k)
  | 0 => isMap_empty
  | k + 1 => (mapK_is L k).put _ _
theorem mapK_at (L : List Int) (hinj : ∀ i j, i < L.length → j < L.length → L.getD i 0 = L.getD j 0 → i = j) : ∀ k i, i < k → k ≤ L.length → (mapK L k).atKey (.int .i64 (L.getD i 0)) (.lit (.int .i64 0)) = .lit (.int .i64 i) := by
  intro k
  induction k with
  | zero => intro i hi; omega
  | succ k ih =>
    intro i hi hk
    rw [mapK]
    by_cases e : i = k
    · subst e; exact atKey_put_same (k := .int .i64 (L.getD i 0)) (mapK_is L i) trivial _ _
    · rw [atKey_put_other (fun h => e (hinj i k (by omega) (by omega) (by injection h))) _ _]
      exact ih i (by omega) (by omega)
theorem subs_inj {X : Nat} (hX : X < 128) (i j : Nat) (hi : i < (subsL X (X + 1)).length) (hj : j < (subsL X (X + 1)).length) (h : (subsL X (X + 1)).getD i 0 = (subsL X (X + 1)).getD j 0) : i = j := by
  have h1 := rank_at hX hi
  have h2 := rank_at hX hj
  rw [h] at h1; omega
theorem subs_I64 {X : Nat} (hX : X < 128) : ∀ x ∈ subsL X (X + 1), I64 x := by
  intro x hx
  obtain ⟨t, h1, _, rfl⟩ := subs_mem.1 hx
  unfold I64; omega
theorem wf_i64 {x : Int} (h : I64 x) : (Lit.int .i64 x).wf = true := by
  unfold I64 at h
  simp [Lit.wf, IntKind.min, IntKind.max, IntKind.signed, IntKind.bits]; omega

theorem law_things : Keyed Tryz.prog 39 := int_keyed Tryz.underlying39
theorem key_thing (x : Int) (h : I64 x) : keyOf Tryz.prog 39 (.int .i64 x) = some (.int .i64 x) := keyOf_int_mk Tryz.underlying39 (wf_i64 h)

theorem AtomW.belowB {w w' : World} {b g n cap B : Nat} {f : Nat → Int} (h : AtomW w b g n cap f) (hb : Below B w w') (h1 : b < B) (h2 : g < B) : AtomW w' b g n cap f := by
  obtain ⟨⟨d, x, h3, h4⟩, h5, h6, h7⟩ := h
  exact ⟨⟨d, x, h3.below hb h1, h4⟩, h5.below hb h2, Nat.lt_of_lt_of_le h6 hb.size, h7⟩
theorem AtomW.glt {w : World} {b g n cap : Nat} {f : Nat → Int} (h : AtomW w b g n cap f) : g < w.heap.size := h.2.2.1
theorem Only.grownBy {rb : Nat} {w w' : World} (h : Only rb w w') : w.grownBy w' (some rb) := ⟨h.os, h.tape, h.output, h.size, fun k hk hn => h.block k hk (fun e => hn (by rw [e]))⟩
theorem Only.belowB {rb B : Nat} {w w1 w2 : World} (h : Only rb w w1) (k : Below B w1 w2) (hB : w.heap.size ≤ B) : Only rb w w2 :=
  ⟨k.os.trans h.os, k.tape.trans h.tape, k.output.trans h.output, Nat.le_trans h.size k.size, fun i hi hn => (k.block i (by omega)).trans (h.block i hi hn)⟩
theorem Row.grownBy {w w' : World} {r : Option Nat} {b o n : Nat} {f : Nat → Int} (h : Row w b o n f) (hg : w.grownBy w' r) (hne : some b ≠ r) : Row w' b o n f := fun i hi => hg.cell (h i hi) hne

/-- the map of names is made -/
def NamesMade (b g n cap : Nat) (f : Nat → Int) (X : Nat) (w : World) (e : Ending) (w' : World) : Prop :=
  e = .returned (.map (some w.heap.size)) ∧ w'.ownsMap Tryz.prog 39 (plainElem (H := Empty) Tryz.prog 3) w.heap.size (subsL X (X + 1)).length (mapK (subsL X (X + 1)) (subsL X (X + 1)).length) ∧ AtomW w' b g n cap f ∧ Only b w w' ∧ w.heap.size < w'.heap.size

set_option maxRecDepth 100000 in
set_option maxHeartbeats 3200000 in
theorem names_any (b g n cap : Nat) (f : Nat → Int) (X : Nat) (hn : n ≤ 7) (hX : atomsI n f = X) (hX1 : 1 ≤ X) (hX7 : X < 128) (w : World) (h : AtomW w b g n cap f) :
    Calls Tryz.prog 43 #[.pointer (some ⟨b, 0, none⟩)] w (NamesMade b g n cap f X w) := by
  have hmm := @run_makeMap Tryz.prog
  have hbl := h.lt
  have hgl := h.glt
  have ha0 := alloc_below w (.map #[] 0)
  have hs0 : (w.alloc (.map #[] 0)).heap.size = w.heap.size + 1 := alloc_size w _
  have HA := Lib.hid (h.below ha0); have HO0 := Lib.hid (Only.of_below (rb := b) ha0); have HS0 := Lib.hid hs0
  have HM0 := Lib.hid (World.ownsMap_made w Tryz.prog 39 (plainElem (H := Empty) Tryz.prog 3))
  have HXX := Lib.hid hX
  have hlen : 1 ≤ (subsL X (X + 1)).length := List.length_pos_of_mem (subs_mem.2 ⟨X, by omega, subG_iff.2 ⟨hX1, within_self _⟩, rfl⟩ : (X : Int) ∈ _)
  have hlen8 : (subsL X (X + 1)).length ≤ 1000 := by have := subs_len_le X (X + 1); omega
  have HI := Lib.hid (subs_I64 hX7)
  clear h ha0 hs0 hX
  go_enter Tryz.func43, Tryz.ntmps43
  go_wp2_with fail
  refine (atoms_any b g n cap f hn _ HA.out).mono ?_
  rintro e w2 ⟨rfl, h2, o2⟩
  have hs2 : w.heap.size < w2.heap.size := by have := HS0.out; have := o2.size; omega
  have HA2 := Lib.hid h2; have HO2 := Lib.hid (HO0.out.trans o2)
  have HM2 := Lib.hid (HM0.out.kept o2.grownBy (by simp; omega))
  clear h2 o2
  go_wp2_with fail
  refine (setsTh_any _ X HXX.out hX7 _).mono ?_
  rintro e w3 ⟨v, rfl, hown, hb3⟩
  obtain ⟨lg, c9, rfl, hlg, hlgl, _, _, hrow, _⟩ := hown.shape hlen
  have hst : w3.ownsMap Tryz.prog 39 (plainElem (H := Empty) Tryz.prog 3) w.heap.size 0 (mapK (subsL X (X + 1)) 0) := HM2.out.kept (Only.of_below (rb := b) hb3).grownBy (by simp; omega)
  have hsa := HA2.out.below hb3
  have hso := HO2.out.trans (Only.of_below hb3)
  have hsz3 := hb3.size
  clear hown hb3
  go_wp2_with fail
  go_loopw [11] (fun i wr => ∃ k : Nat, k ≤ (subsL X (X + 1)).length ∧ i = .int .i64 k ∧ wr.ownsMap Tryz.prog 39 (plainElem (H := Empty) Tryz.prog 3) w.heap.size k (mapK (subsL X (X + 1)) k) ∧ AtomW wr b g n cap f ∧ Only b w wr ∧ Row wr lg 0 (subsL X (X + 1)).length (fun i => (subsL X (X + 1)).getD i 0) ∧ w.heap.size < wr.heap.size) (fun i _ => (subsL X (X + 1)).length - (intOf i).toNat)
  case atStart => exact ⟨0, Nat.zero_le _, rfl, hst, hsa, hso, hrow, by omega⟩
  case round =>
    clear hst hsa hso hrow hsz3
    obtain ⟨k, hk, rfl, hown, hra, hro, hrr, hrs⟩ := hrel
    by_cases hlt : k < (subsL X (X + 1)).length
    · have hki : (k : Int) < ((subsL X (X + 1)).length : Int) := by omega
      obtain ⟨z, hz⟩ : ∃ z, (subsL X (X + 1)).getD k 0 = z := ⟨_, rfl⟩
      have hc : wr.cell? ⟨lg, k, none⟩ = some (.int .i64 z) := by have := hrr k hlt; rw [Nat.zero_add] at this; rw [← hz]; exact this
      have hkey := key_thing z (by rw [← hz]; exact HI.out _ (getD_mem hlt))
      have HSTEP := Lib.hid (show mapK (subsL X (X + 1)) (k + 1) = (mapK (subsL X (X + 1)) k).put (.int .i64 z) (.lit (.int .i64 k)) by rw [mapK, hz])
      clear hz
      have hwk : (Lit.int .i64 (k : Int)).wf = true := wf_i64 (by unfold I64; omega)
      have HRA := Lib.hid hra; have HRO := Lib.hid hro; have HRR := Lib.hid hrr; clear hra hro hrr
      go_wp2_with (at_mapUpdate; refine wpList_mapUpdate_own _ rfl _ _ _ 78 rfl 39 3 law_things Tryz.underlying78 _ w.heap.size k _ rfl hown (by unfold maxLen; omega) _ _ _ rfl rfl hkey _ [] (plainElem_int Tryz.underlying3 hwk) ?_; intro w1 hown1 hgrow1)
      have hb1 : Below w.heap.size wr w1 := (Below.refl w.heap.size wr).grown hgrow1 (by omega) (fun j hj => by cases hj; exact Nat.le_refl _)
      have hA1 := HRA.out.belowB hb1 hbl hgl
      have hO1 := HRO.out.belowB hb1 (Nat.le_refl _)
      have hR1 := HRR.out.grownBy hgrow1 (by simp; omega)
      have hs1 := hgrow1.size
      go_roundw
      case rel => exact ⟨k + 1, by omega, by go_num, by rw [HSTEP.out]; exact hown1, hA1, hO1, hR1, by omega⟩
      case measure => simp [intOf]; omega
    · have hki : ¬ (k : Int) < ((subsL X (X + 1)).length : Int) := by omega
      have hkn : k = (subsL X (X + 1)).length := by omega
      subst hkn
      have HM := Lib.hid hown; have HRA := Lib.hid hra; have HRO := Lib.hid hro; clear hown hra hro hrr
      go_wp2_with fail
      go_ret
      exact ⟨rfl, HM.out, HRA.out, HRO.out, hrs⟩

/-- the names of a classical world's things -/
def namesL (n : Nat) (f : Nat → Int) : List Int := if classB n f then rowL (nameI n f) n else []

/-- the names are handed back -/
def NamedEnd (b g n cap : Nat) (f : Nat → Int) (w : World) (e : Ending) (w' : World) : Prop := ∃ v, e = .returned v ∧ OwnX w' w.heap.size 3 v (rowL (nameI n f) n) ∧ Only b w w' ∧ AtomW w' b g n cap f

set_option maxRecDepth 100000 in
set_option maxHeartbeats 6400000 in
theorem named_any (b g n cap : Nat) (f : Nat → Int) (X : Nat) (hP : WorldP n f) (hX : atomsI n f = X) (w : World) (haw : AtomW w b g n cap f) :
    Calls Tryz.prog 22 #[.pointer (some ⟨b, 0, none⟩)] w (NamedEnd b g n cap f w) := by
  obtain ⟨i0, hii, hz0, hz1, hz2⟩ := info_parts Tryz.infoInt
  have h7 := hP.hi
  have h1n := hP.lo
  obtain ⟨X', hX', _, hX7⟩ := atoms_nat (f := f) h7
  obtain rfl : X' = X := by omega
  have hX1 : 1 ≤ X' := by have := atomsI_pos hP; rw [hX'] at this; omega
  have HN := Lib.hid (fun k hk => name_at hP hX' (a := k) hk : ∀ k, k < n → _)
  have HXX := Lib.hid hX'
  have HA2 := Lib.hid haw
  clear hX hX' hP haw
  go_enter Tryz.func22, Tryz.ntmps22
  go_wp2_with fail
  refine (names_any b g n cap f X' h7 HXX.out hX1 hX7 _ HA2.out).mono ?_
  rintro e w3 ⟨rfl, hm3, ha3, ho3, hs3⟩
  have hbl := HA2.out.lt
  have hgl := HA2.out.glt
  have HM3 := Lib.hid hm3; have HA3 := Lib.hid ha3; have HO3 := Lib.hid ho3
  have hsz23 := ho3.size
  clear hm3 ha3 ho3
  obtain ⟨w4, hmk, hown4, hgr4⟩ := run_make_own (P := Tryz.prog) w3 w3.heap.size 23 3 i0 (.int .i64 0) 1 Tryz.underlying23 hii hz0 hz1 .i64 .i64 n (by rw [hz2]; omega) (by unfold maxLen; omega) (Nat.le_refl _)
  have hb4 : Below w3.heap.size w3 w4 := (Below.refl _ _).grown hgr4 (Nat.le_refl _) (fun q hq => by cases hq)
  have hst : OwnX w4 w3.heap.size 3 (.slice (some ⟨w3.heap.size, 0, none⟩) 0 n) (rowL (nameI n f) 0) := hown4
  have hsa := HA3.out.below hb4
  have hso : Only b w3 w4 := Only.of_below hb4
  have hc3 := HA3.out.c0
  have hc0 := hsa.c0
  have hb3' : b < w3.heap.size := by omega
  have hg3' : g < w3.heap.size := by omega
  clear hown4 hgr4 hb4
  go_wp2_with fail
  go_loopw [4, 19] (fun v i wr => ∃ k : Nat, k ≤ n ∧ i = .int .i64 k ∧ OwnX wr w3.heap.size 3 v (rowL (nameI n f) k) ∧ AtomW wr b g n cap f ∧ Only b w3 wr) (fun _ i _ => n - (intOf i).toNat)
  case atStart => exact ⟨0, Nat.zero_le _, rfl, hst, hsa, hso⟩
  case round =>
    clear hst hsa hso hc0 hc3
    obtain ⟨k, hk, rfl, hown, hra, hro⟩ := hrel
    obtain ⟨a9, c9, rfl⟩ := hown.slice
    by_cases hlt : k < n
    · have hki : (k : Int) < (n : Int) := by omega
      obtain ⟨i, hi1, hi2, hi3⟩ := HN.out k hlt
      have HAT := Lib.hid (mapK_at _ (subs_inj hX7) _ i hi1 (Nat.le_refl _)); rw [hi2] at HAT
      have hkey := key_thing (ainI n f k) (ainI_I64 n f k)
      have HRA := Lib.hid hra; have HRO := Lib.hid hro; have HOW := Lib.hid hown; have HI3 := Lib.hid hi3
      clear hra hro hown hi1 hi2 hi3
      go_wp2_with fail
      refine (atomsIn_any b g n cap f k h7 hlt _ HRA.out).mono ?_
      rintro e w5q ⟨rfl, h5, o5⟩
      have hro5 := HRO.out.trans o5
      have hm5 := HM3.out.kept hro5.grownBy (by simp; omega)
      have HS := Lib.hid (rowL_succ (nameI n f) k)
      have HL := Lib.hid (show (rowL (nameI n f) k).length ≤ 1000 by rw [rowL_len]; omega)
      have HSZ := Lib.hid hro5.size; have HRO5 := Lib.hid hro5; have HA5 := Lib.hid h5
      have HO : Hid (w5q.ownsRow w3.heap.size 3 1 (.slice a9 (rowL (nameI n f) k).length c9) (rowL (nameI n f) k).length ((rowL (nameI n f) k).map (Value.int .i64))) := Lib.hid (HOW.out.lift o5 hb3')
      clear h5 o5 hro5
      have k1 := Lib.hid (fun (j : Nat) (u : Value) (h : [Value.int .i64 (nameI n f k)][j]? = some u) => cell_one_new w5q (.int .i64 (nameI n f k)) 3 j u h)
      have k2 : Hid (∀ u ∈ [Value.int .i64 (nameI n f k)], u.oneCell' = true) := Lib.hid (by intro u hu; simp at hu; subst hu; rfl)
      have k3 : Hid ((rowL (nameI n f) k).length + 1 ≤ maxLen) := Lib.hid (by have := HL.out; unfold maxLen; omega)
      have k4 : Hid (((rowL (nameI n f) k).length + 1) * 8 ≤ 140737488355328) := Lib.hid (by have := HL.out; omega)
      have k5 : Hid (w3.heap.size ≤ (w5q.alloc (.cells #[.int .i64 (nameI n f k)] 3)).heap.size) := Lib.hid (by rw [alloc_size]; have := HSZ.out; omega)
      go_wp2_with (first | (at_lookup; refine wpList_lookup_own_int _ rfl _ _ 78 rfl 39 3 .i64 law_things Tryz.underlying78 Tryz.underlying3 (zero_int _) w.heap.size _ _ rfl hm5 _ _ rfl hkey ?_; intro c hat hwc; clear hm5; obtain rfl : c = nameI n f k := (by rw [HAT.out] at hat; rw [HI3.out]; injection hat with e1; injection e1 with _ e2; exact e2.symm)) | (at_builtin; refine wpList_append_own _ rfl (.tmp 22) (.tmp 28) 23 rfl w3.heap.size 3 i0 (.int .i64 0) 1 8 Tryz.underlying23 hii hz0 hz1 hz2 rfl (by decide) _ _ _ rfl (HO.out.alloc _) ⟨w5q.heap.size, 0, none⟩ 1 1 [.int .i64 (nameI n f k)] rfl rfl k1.out k2.out k3.out k4.out k5.out ?_))
      intro v' w5 hown' hgrow _
      have hg5 : Below w3.heap.size w5q w5 := ((Below.refl w3.heap.size w5q).alloc HSZ.out _).grown hgrow (by have := HSZ.out; rw [alloc_size]; omega) (fun q hq => (HO.out.lt q hq).1)
      have ho5 := OwnX.snoc hown'
      clear hown' hgrow k1 k2 k3 k4 k5
      have HO5 := Lib.hid ho5; have HG5 := Lib.hid hg5; clear ho5 hg5
      go_wp2_with fail
      go_roundw
      case rel => exact ⟨k + 1, by omega, by go_num, by rw [HS.out]; exact HO5.out, HA5.out.belowB HG5.out hb3' hg3', HRO5.out.belowB HG5.out (Nat.le_refl _)⟩
      case measure => simp [intOf]; omega
    · have hki : ¬ (k : Int) < (n : Int) := by omega
      have hkn : k = n := by omega
      subst hkn
      have HO := Lib.hid hown; have HRO := Lib.hid hro; have HRA := Lib.hid hra; clear hown hra hro
      go_wp2_with fail
      go_ret
      exact ⟨_, rfl, HO.out.base (by omega), HO3.out.trans HRO.out, HRA.out⟩

end Go.Proofs.YtdlafcioopclhaaGreat
