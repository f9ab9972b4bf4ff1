import Derived.Test.YthaickihoagnmaaGreatDoorQD10
import Derived.Maps.Views
import Derived.Deep.DeepFit
set_option linter.unusedVariables false
set_option linter.unusedSimpArgs false
set_option maxHeartbeats 12800000
namespace Go.Proofs.YthaickihoagnmaaGreatDoor
open Go.RowKit Go.Maps
def Txt (l : List UInt8) (w : World) (e : Ending) (w' : World) : Prop := e = .returned (.string (bs l)) ∧ Below w.heap.size w w'
def WdEnd (xs : List Int) (w : World) (e : Ending) (w' : World) : Prop := ∃ g cap, e = .returned (.slice (some ⟨g, 0, none⟩) xs.length cap) ∧ Ints w' (some ⟨g, 0, none⟩) xs.length (wdF xs) ∧ Below w.heap.size w w'
theorem wd_gives {xs : List Int} (hf : famL xs = true) {w w' : World} {e : Ending} (h : Gives 3 (wfL xs.length (fun j => xs.getD j 0)) w e w') : WdEnd xs w e w' := by
  have hl := famL_len hf
  have hw : wfL xs.length (fun j => xs.getD j 0) = rowL (wdF xs) xs.length := by unfold wfL; rw [if_pos (show famOkB xs.length (fun j => xs.getD j 0) = true from hf)]; rfl
  rw [hw] at h
  obtain ⟨g, cap, rfl, _, h2, h3, h4⟩ := h.row hl.1
  exact ⟨g, cap, rfl, ints_row h3 h2 (by omega) (fun i _ => wf_I64 _ _ _), h4⟩
theorem yn_if (ok : Bool) : (if ok then ({ data := #[121, 101, 115] } : ByteArray) else { data := #[110, 111] }) = bs (ynW ok) := by cases ok <;> rfl
set_option maxRecDepth 100000 in
theorem world_any (d : Value) (xs : List Int) (L : List (List Int)) (hf : famL xs = true) (w : World) (h : DeskR w d xs L) :
    Calls Tryz.prog 159 #[d] w (WdEnd xs w) := by
  have hdd := h
  obtain ⟨a, c, b, c2, rfl, _⟩ := h.parts
  have q1 := alloc_below w (.cells #[.slice a xs.length c, .slice b L.length c2] 31)
  have HV := Lib.hid (VarD.new hdd)
  have HB := Lib.hid q1
  have HF := Lib.hid hf
  obtain ⟨w1, hw1⟩ : ∃ w1, w.alloc (.cells #[.slice a xs.length c, .slice b L.length c2] 31) = w1 := ⟨_, rfl⟩
  rw [hw1] at HV HB
  have hd0 := HV.out.blk.cell.1; have hd1 := HV.out.blk.cell.2
  clear h hdd q1 hf
  go_enter Tryz.func159, Tryz.ntmps159
  go_wp2_with fail
  clear hw1
  refine (WorldFrom_any a xs.length c (fun j => xs.getD j 0) _ HV.out.d.now).mono ?_
  intro e w2 hg
  obtain ⟨g, cap, rfl, hi, hb⟩ := wd_gives HF.out hg
  have HI := Lib.hid hi; have HB2 := Lib.hid (below_onto HB.out hb)
  clear hg hi hb hd0 hd1
  go_wp2_with fail
  go_ret
  exact ⟨g, cap, rfl, HI.out, HB2.out⟩
set_option maxRecDepth 100000 in
theorem companyM_any (d : Value) (xs : List Int) (L : List (List Int)) (hf : famL xs = true) (w : World) (h : DeskR w d xs L) :
    Calls Tryz.prog 134 #[d] w (Txt (companyA xs) w) := by
  have hdd := h
  obtain ⟨a, c, b, c2, rfl, _⟩ := h.parts
  have q1 := alloc_below w (.cells #[.slice a xs.length c, .slice b L.length c2] 31)
  have HV := Lib.hid (VarD.new hdd)
  have HB := Lib.hid q1
  have HF := Lib.hid hf
  obtain ⟨w1, hw1⟩ : ∃ w1, w.alloc (.cells #[.slice a xs.length c, .slice b L.length c2] 31) = w1 := ⟨_, rfl⟩
  rw [hw1] at HV HB
  have hd0 := HV.out.blk.cell.1; have hd1 := HV.out.blk.cell.2
  clear h hdd q1 hf
  obtain ⟨ok, hok⟩ : ∃ ok, companyB xs.length (wdF xs) = ok := ⟨_, rfl⟩
  have HOK := Lib.hid hok
  have HE := Lib.hid (show (if ok then ({ data := #[121, 101, 115] } : ByteArray) else { data := #[110, 111] }) = bs (companyA xs) from by unfold companyA; rw [hok]; exact yn_if ok)
  clear hok
  go_enter Tryz.func134, Tryz.ntmps134
  go_wp2_with fail
  clear hw1
  refine (world_any _ xs L HF.out _ HV.out.d).mono ?_
  rintro e w2 ⟨g, cap, rfl, hi, hb⟩
  have HI := Lib.hid hi
  replace HB := Lib.hid (below_onto HB.out hb)
  clear hi hb hd0 hd1
  go_wp2_with fail
  refine (CompanyOk_any _ _ _ _ _ HI.out).mono ?_
  rintro e w3 ⟨rfl, hb⟩
  rw [HOK.out]
  replace HB := Lib.hid (below_onto HB.out hb)
  clear hb
  go_wp2_with fail
  refine (either_any ok _ _ _).mono ?_
  rintro e w4 ⟨rfl, rfl⟩
  rw [HE.out]
  go_wp2_with fail
  go_ret
  exact ⟨rfl, HB.out⟩
set_option maxRecDepth 100000 in
theorem weakM_any (d : Value) (xs : List Int) (L : List (List Int)) (hf : famL xs = true) (w : World) (h : DeskR w d xs L) :
    Calls Tryz.prog 135 #[d] w (Txt (weakA xs) w) := by
  have hdd := h
  obtain ⟨a, c, b, c2, rfl, _⟩ := h.parts
  have q1 := alloc_below w (.cells #[.slice a xs.length c, .slice b L.length c2] 31)
  have HV := Lib.hid (VarD.new hdd)
  have HB := Lib.hid q1
  have HF := Lib.hid hf
  obtain ⟨w1, hw1⟩ : ∃ w1, w.alloc (.cells #[.slice a xs.length c, .slice b L.length c2] 31) = w1 := ⟨_, rfl⟩
  rw [hw1] at HV HB
  have hd0 := HV.out.blk.cell.1; have hd1 := HV.out.blk.cell.2
  clear h hdd q1 hf
  obtain ⟨ok, hok⟩ : ∃ ok, weakB xs.length (wdF xs) = ok := ⟨_, rfl⟩
  have HOK := Lib.hid hok
  have HE := Lib.hid (show (if ok then ({ data := #[121, 101, 115] } : ByteArray) else { data := #[110, 111] }) = bs (weakA xs) from by unfold weakA; rw [hok]; exact yn_if ok)
  clear hok
  go_enter Tryz.func135, Tryz.ntmps135
  go_wp2_with fail
  clear hw1
  refine (world_any _ xs L HF.out _ HV.out.d).mono ?_
  rintro e w2 ⟨g, cap, rfl, hi, hb⟩
  have HI := Lib.hid hi
  replace HB := Lib.hid (below_onto HB.out hb)
  clear hi hb hd0 hd1
  go_wp2_with fail
  refine (WeakOk_any _ _ _ _ _ HI.out).mono ?_
  rintro e w3 ⟨rfl, hb⟩
  rw [HOK.out]
  replace HB := Lib.hid (below_onto HB.out hb)
  clear hb
  go_wp2_with fail
  refine (either_any ok _ _ _).mono ?_
  rintro e w4 ⟨rfl, rfl⟩
  rw [HE.out]
  go_wp2_with fail
  go_ret
  exact ⟨rfl, HB.out⟩
set_option maxRecDepth 100000 in
theorem strongM_any (d : Value) (xs : List Int) (L : List (List Int)) (hf : famL xs = true) (w : World) (h : DeskR w d xs L) :
    Calls Tryz.prog 136 #[d] w (Txt (strongA xs) w) := by
  have hdd := h
  obtain ⟨a, c, b, c2, rfl, _⟩ := h.parts
  have q1 := alloc_below w (.cells #[.slice a xs.length c, .slice b L.length c2] 31)
  have HV := Lib.hid (VarD.new hdd)
  have HB := Lib.hid q1
  have HF := Lib.hid hf
  obtain ⟨w1, hw1⟩ : ∃ w1, w.alloc (.cells #[.slice a xs.length c, .slice b L.length c2] 31) = w1 := ⟨_, rfl⟩
  rw [hw1] at HV HB
  have hd0 := HV.out.blk.cell.1; have hd1 := HV.out.blk.cell.2
  clear h hdd q1 hf
  obtain ⟨ok, hok⟩ : ∃ ok, strongB xs.length (wdF xs) = ok := ⟨_, rfl⟩
  have HOK := Lib.hid hok
  have HE := Lib.hid (show (if ok then ({ data := #[121, 101, 115] } : ByteArray) else { data := #[110, 111] }) = bs (strongA xs) from by unfold strongA; rw [hok]; exact yn_if ok)
  clear hok
  go_enter Tryz.func136, Tryz.ntmps136
  go_wp2_with fail
  clear hw1
  refine (world_any _ xs L HF.out _ HV.out.d).mono ?_
  rintro e w2 ⟨g, cap, rfl, hi, hb⟩
  have HI := Lib.hid hi
  replace HB := Lib.hid (below_onto HB.out hb)
  clear hi hb hd0 hd1
  go_wp2_with fail
  refine (StrongOk_any _ _ _ _ _ HI.out).mono ?_
  rintro e w3 ⟨rfl, hb⟩
  rw [HOK.out]
  replace HB := Lib.hid (below_onto HB.out hb)
  clear hb
  go_wp2_with fail
  refine (either_any ok _ _ _).mono ?_
  rintro e w4 ⟨rfl, rfl⟩
  rw [HE.out]
  go_wp2_with fail
  go_ret
  exact ⟨rfl, HB.out⟩
set_option maxRecDepth 100000 in
theorem summedM_any (d : Value) (xs : List Int) (L : List (List Int)) (hf : famL xs = true) (w : World) (h : DeskR w d xs L) :
    Calls Tryz.prog 137 #[d] w (Txt (summedA xs) w) := by
  have hdd := h
  obtain ⟨a, c, b, c2, rfl, _⟩ := h.parts
  have q1 := alloc_below w (.cells #[.slice a xs.length c, .slice b L.length c2] 31)
  have HV := Lib.hid (VarD.new hdd)
  have HB := Lib.hid q1
  have HF := Lib.hid hf
  obtain ⟨w1, hw1⟩ : ∃ w1, w.alloc (.cells #[.slice a xs.length c, .slice b L.length c2] 31) = w1 := ⟨_, rfl⟩
  rw [hw1] at HV HB
  have hd0 := HV.out.blk.cell.1; have hd1 := HV.out.blk.cell.2
  clear h hdd q1 hf
  obtain ⟨ok, hok⟩ : ∃ ok, summedB xs.length (wdF xs) = ok := ⟨_, rfl⟩
  have HOK := Lib.hid hok
  have HE := Lib.hid (show (if ok then ({ data := #[121, 101, 115] } : ByteArray) else { data := #[110, 111] }) = bs (summedA xs) from by unfold summedA; rw [hok]; exact yn_if ok)
  clear hok
  go_enter Tryz.func137, Tryz.ntmps137
  go_wp2_with fail
  clear hw1
  refine (world_any _ xs L HF.out _ HV.out.d).mono ?_
  rintro e w2 ⟨g, cap, rfl, hi, hb⟩
  have HI := Lib.hid hi
  replace HB := Lib.hid (below_onto HB.out hb)
  clear hi hb hd0 hd1
  go_wp2_with fail
  refine (SummedOk_any _ _ _ _ _ HI.out).mono ?_
  rintro e w3 ⟨rfl, hb⟩
  rw [HOK.out]
  replace HB := Lib.hid (below_onto HB.out hb)
  clear hb
  go_wp2_with fail
  refine (either_any ok _ _ _).mono ?_
  rintro e w4 ⟨rfl, rfl⟩
  rw [HE.out]
  go_wp2_with fail
  go_ret
  exact ⟨rfl, HB.out⟩
set_option maxRecDepth 100000 in
theorem classicalM_any (d : Value) (xs : List Int) (L : List (List Int)) (hf : famL xs = true) (w : World) (h : DeskR w d xs L) :
    Calls Tryz.prog 138 #[d] w (Txt (classicalA xs) w) := by
  have hdd := h
  obtain ⟨a, c, b, c2, rfl, _⟩ := h.parts
  have q1 := alloc_below w (.cells #[.slice a xs.length c, .slice b L.length c2] 31)
  have HV := Lib.hid (VarD.new hdd)
  have HB := Lib.hid q1
  have HF := Lib.hid hf
  obtain ⟨w1, hw1⟩ : ∃ w1, w.alloc (.cells #[.slice a xs.length c, .slice b L.length c2] 31) = w1 := ⟨_, rfl⟩
  rw [hw1] at HV HB
  have hd0 := HV.out.blk.cell.1; have hd1 := HV.out.blk.cell.2
  clear h hdd q1 hf
  obtain ⟨ok, hok⟩ : ∃ ok, classB xs.length (wdF xs) = ok := ⟨_, rfl⟩
  have HOK := Lib.hid hok
  have HE := Lib.hid (show (if ok then ({ data := #[121, 101, 115] } : ByteArray) else { data := #[110, 111] }) = bs (classicalA xs) from by unfold classicalA; rw [hok]; exact yn_if ok)
  clear hok
  go_enter Tryz.func138, Tryz.ntmps138
  go_wp2_with fail
  clear hw1
  refine (world_any _ xs L HF.out _ HV.out.d).mono ?_
  rintro e w2 ⟨g, cap, rfl, hi, hb⟩
  have HI := Lib.hid hi
  replace HB := Lib.hid (below_onto HB.out hb)
  clear hi hb hd0 hd1
  go_wp2_with fail
  refine (ClassicalOk_any _ _ _ _ _ HI.out).mono ?_
  rintro e w3 ⟨rfl, hb⟩
  rw [HOK.out]
  replace HB := Lib.hid (below_onto HB.out hb)
  clear hb
  go_wp2_with fail
  refine (either_any ok _ _ _).mono ?_
  rintro e w4 ⟨rfl, rfl⟩
  rw [HE.out]
  go_wp2_with fail
  go_ret
  exact ⟨rfl, HB.out⟩
set_option maxRecDepth 100000 in
theorem index_any (a : Option Addr) (c : Nat) (xs : List Int) (x : Int) (w : World) (hi : Ints w a xs.length (fun j => xs.getD j 0)) :
    Calls Tryz.prog 144 #[.slice a xs.length c, .int .i64 x] w fun e w' => e = .returned (.int .i64 (plI xs x)) ∧ w = w' := by
  have HI := Lib.hid hi
  have hn := hi.1.1
  obtain ⟨n, hnn⟩ : ∃ n, xs.length = n := ⟨_, rfl⟩
  have HN := Lib.hid hnn
  rw [hnn] at hn HI ⊢
  clear hi hnn
  go_enter Tryz.func144, Tryz.ntmps144
  go_wp2_with fail
  go_loopw [5, 8] (fun _ i wr => ∃ k : Nat, k ≤ n ∧ i = .int .i64 k ∧ Hid (∀ j, j < k → xs.getD j 0 ≠ x) ∧ w = wr) (fun _ i _ => n - (intOf i).toNat)
  case atStart => exact ⟨0, Nat.zero_le _, rfl, Lib.hid (fun j hj => absurd hj (Nat.not_lt_zero _)), rfl⟩
  case round =>
    obtain ⟨k, hk, rfl, hall, rfl⟩ := hrel
    by_cases hlt : k < n
    · have hki : (k : Int) < (n : Int) := by omega
      have hk0 : (0 : Int) ≤ (k : Int) := by omega
      obtain ⟨b, o, rfl, hbl, hrow⟩ := HI.out.row (by omega)
      have hc : w.cell? ⟨b, o + k, none⟩ = some (.int .i64 (xs.getD k 0)) := hrow k hlt
      clear hrow hbl
      have HZ := Lib.hid (fun e => plI_at (xs := xs) (x := x) (show k < xs.length by rw [HN.out]; exact hlt) hall.out e)
      obtain ⟨z, hz⟩ : ∃ z, xs.getD k 0 = z := ⟨_, rfl⟩
      have HZZ := Lib.hid hz
      rw [hz] at HZ hc
      cases hv : (x == z) with
      | true =>
        have HE := Lib.hid (HZ.out (by simpa using hv : x = z).symm)
        clear hz
        go_wp2_with fail
        go_ret
        exact ⟨reti HE.out.symm, rfl⟩
      | false =>
        have hne : z ≠ x := by intro e; rw [e] at hv; simp at hv
        have HNE := Lib.hid hne
        clear hz hne
        go_wp2_with fail
        go_roundw
        case rel => exact ⟨k + 1, by omega, by go_num, Lib.hid (fun j hj => by
          by_cases e : j = k
          · subst e; rw [HZZ.out]; exact HNE.out
          · exact hall.out j (by omega)), by first | rfl | trivial⟩
        case measure => simp [intOf]; omega
    · have hki : ¬ (k : Int) < (n : Int) := by omega
      have hkn : k = n := by omega
      have HE := Lib.hid (plI_none (xs := xs) (x := x) (fun j hj => hall.out j (by rw [HN.out] at hj; omega)))
      clear hkn hk
      go_wp2_with fail
      go_ret
      exact ⟨reti HE.out.symm, rfl⟩
set_option maxRecDepth 100000 in
theorem place_any (d : Value) (xs : List Int) (L : List (List Int)) (t : ByteArray) (hf : famL xs = true) (w : World) (h : DeskR w d xs L) :
    Calls Tryz.prog 114 #[d, .string t] w fun e w' => e = .returned (.int .i64 (plI xs (rdI t.data.toList))) ∧ Below w.heap.size w w' := by
  have hdd := h
  obtain ⟨a, c, b, c2, rfl, _⟩ := h.parts
  have q1 := alloc_below w (.cells #[.slice a xs.length c, .slice b L.length c2] 31)
  have HV := Lib.hid (VarD.new hdd)
  have HB := Lib.hid q1
  have HF := Lib.hid hf
  obtain ⟨w1, hw1⟩ : ∃ w1, w.alloc (.cells #[.slice a xs.length c, .slice b L.length c2] 31) = w1 := ⟨_, rfl⟩
  rw [hw1] at HV HB
  have hd0 := HV.out.blk.cell.1; have hd1 := HV.out.blk.cell.2
  clear h hdd q1 hf
  obtain ⟨x, hx⟩ : ∃ x, rdI t.data.toList = x := ⟨_, rfl⟩
  rw [hx]
  have HX := Lib.hid hx
  clear hx
  go_enter Tryz.func114, Tryz.ntmps114
  go_wp2_with fail
  clear hw1
  refine (ReadSet_any t _).mono ?_
  rintro e w2 ⟨rfl, hb⟩
  replace HV := Lib.hid (HV.out.kept hb); replace HB := Lib.hid (below_onto HB.out hb)
  clear hb hd0 hd1
  have hd0 := HV.out.blk.cell.1; have hd1 := HV.out.blk.cell.2
  rw [HX.out]
  go_wp2_with fail
  refine (index_any a c xs x _ HV.out.d.now).mono ?_
  rintro e w3 ⟨rfl, rfl⟩
  go_wp2_with fail
  go_ret
  exact ⟨rfl, HB.out⟩
set_option maxRecDepth 100000 in
theorem text_any (d : Value) (xs : List Int) (L : List (List Int)) (p : Int) (ok : Bool) (hp : ok = true → ∃ C : Nat, C < xs.length ∧ p = C) (hf : famL xs = true) (w : World) (h : DeskR w d xs L) :
    Calls Tryz.prog 165 #[d, .int .i64 p, .bool ok] w (Txt (oneW xs p ok) w) := by
  have hdd := h
  obtain ⟨a, c, b, c2, rfl, _⟩ := h.parts
  have q1 := alloc_below w (.cells #[.slice a xs.length c, .slice b L.length c2] 31)
  have HV := Lib.hid (VarD.new hdd)
  have HB := Lib.hid q1
  have HF := Lib.hid hf
  obtain ⟨w1, hw1⟩ : ∃ w1, w.alloc (.cells #[.slice a xs.length c, .slice b L.length c2] 31) = w1 := ⟨_, rfl⟩
  rw [hw1] at HV HB
  have hd0 := HV.out.blk.cell.1; have hd1 := HV.out.blk.cell.2
  clear h hdd q1 hf
  cases ok with
  | false =>
    have HE := Lib.hid (show ({ data := #[110, 111, 110, 101] } : ByteArray) = bs (oneW xs p false) from rfl)
    go_enter Tryz.func165, Tryz.ntmps165
    go_wp2_with fail
    go_ret
    exact ⟨rets HE.out, HB.out⟩
  | true =>
    obtain ⟨C, hC, rfl⟩ := hp rfl
    have hC0 : (0 : Int) ≤ (C : Int) := by omega
    have hC1 : (C : Int) < (xs.length : Int) := by omega
    have HE := Lib.hid (show setT (xs.getD C 0) = bs (oneW xs (C : Int) true) from by unfold oneW setT; rw [if_pos rfl, Int.toNat_natCast])
    obtain ⟨g, o, rfl, hbl, hrow⟩ := HV.out.d.now.row (by omega)
    have hc : w1.cell? ⟨g, o + C, none⟩ = some (.int .i64 (xs.getD C 0)) := hrow C hC
    obtain ⟨z, hz⟩ : ∃ z, xs.getD C 0 = z := ⟨_, rfl⟩
    rw [hz] at hc HE
    clear hrow hbl hz hp
    go_enter Tryz.func165, Tryz.ntmps165
    go_wp2_with fail
    clear hw1
    refine (SetText_any z _).mono ?_
    rintro e w2 ⟨rfl, hb⟩
    rw [HE.out]
    replace HB := Lib.hid (below_onto HB.out hb)
    clear hb
    go_wp2_with fail
    go_ret
    exact ⟨rfl, HB.out⟩
set_option maxRecDepth 100000 in
theorem texts_any (d : Value) (xs : List Int) (L : List (List Int)) (s : Int) (hf : famL xs = true) (w : World) (h : DeskR w d xs L) :
    Calls Tryz.prog 157 #[d, .int .i64 s] w (Txt (setsW xs s) w) := by
  obtain ⟨i0, hii, hz0, hz1, hz2⟩ := info_str
  have hdd := h
  obtain ⟨a, c, b, c2, rfl, _⟩ := h.parts
  have q1 := alloc_below w (.cells #[.slice a xs.length c, .slice b L.length c2] 31)
  have HV := Lib.hid (VarD.new hdd)
  have HB := Lib.hid q1
  have HF := Lib.hid hf
  obtain ⟨w1, hw1⟩ : ∃ w1, w.alloc (.cells #[.slice a xs.length c, .slice b L.length c2] 31) = w1 := ⟨_, rfl⟩
  rw [hw1] at HV HB
  have hd0 := HV.out.blk.cell.1; have hd1 := HV.out.blk.cell.2
  clear h hdd q1 hf
  have hl := famL_len HF.out
  obtain ⟨n, hnn⟩ : ∃ n, xs.length = n := ⟨_, rfl⟩
  have HN := Lib.hid hnn
  have HI := Lib.hid (show Ints w1 a n (fun j => xs.getD j 0) from hnn ▸ HV.out.d.now)
  rw [hnn] at hd0 hl
  have HST : Hid (OwnS w1 w1.heap.size (.slice none 0 0) ((atS xs s 0).map bs)) := Lib.hid (World.ownsRow_nil _ _ _ _)
  have hfl := atS_ne HF.out s (Nat.le_refl xs.length)
  clear hnn
  go_enter Tryz.func157, Tryz.ntmps157
  go_wp2_with fail
  clear hw1
  go_loopw [5, 6, 7, 11] (fun v _ _ i wr => ∃ (k : Nat) (vo : Value), k ≤ n ∧ i = .int .i64 k ∧ Hid (vo = v) ∧ Hid (OwnS wr w1.heap.size vo ((atS xs s k).map bs)) ∧ Hid (Below w1.heap.size w1 wr)) (fun _ _ _ i _ => n - (intOf i).toNat)
  case atStart => exact ⟨0, _, Nat.zero_le _, rfl, Lib.hid rfl, HST, Lib.hid (Below.refl _ _)⟩
  case round =>
    clear HST
    obtain ⟨k, vo, hk, rfl, HVO, HO, HB1⟩ := hrel
    have hvo := HVO.out
    subst hvo
    clear HVO
    by_cases hlt : k < n
    · have hki : (k : Int) < (n : Int) := by omega
      have hk0 : (0 : Int) ≤ (k : Int) := by omega
      have hk6 : k ≤ 63 := by omega
      obtain ⟨g, o, rfl, hbl, hrow⟩ := HI.out.row (by omega)
      have hc : wr.cell? ⟨g, o + k, none⟩ = some (.int .i64 (xs.getD k 0)) := (hrow.below HB1.out hbl) k hlt
      obtain ⟨z, hz⟩ : ∃ z, xs.getD k 0 = z := ⟨_, rfl⟩
      have HZ := Lib.hid hz
      rw [hz] at hc
      clear hrow hbl hz
      cases hg : hasB s k with
      | true =>
        have HG := Lib.hid hg
        have HY := Lib.hid (show atS xs s (k + 1) = atS xs s k ++ [setL z] from by rw [atS, hg, HZ.out]; rfl)
        clear hg
        go_wp2_with fail
        refine (hasInt_any _ _ true hk6 _ HG.out).mono ?_
        rintro e w' ⟨rfl, rfl⟩
        go_wp2_with fail
        refine (SetText_any z _).mono ?_
        rintro e w5 ⟨rfl, hb5⟩
        replace HO := Lib.hid (HO.out.kept hb5); replace HB1 := Lib.hid (below_onto HB1.out hb5)
        have hal := atS_len xs s k
        obtain ⟨ts, hts⟩ : ∃ ts, atS xs s k = ts := ⟨_, rfl⟩
        rw [hts] at HO HY hal
        obtain ⟨t, ht⟩ : ∃ t, setT z = t := ⟨_, rfl⟩
        have HT := Lib.hid (show bs (setL z) = t from ht)
        rw [ht]
        have HO2 := Lib.hid (show w5.ownsRow w1.heap.size 9 1 vo ts.length (ts.map (fun x => Value.string (bs x))) by
          have h := HO.out
          unfold OwnS at h
          rw [List.length_map, List.map_map] at h
          exact h)
        have k1 := Lib.hid (fun (jj : Nat) (u : Value) (h : [Value.string t][jj]? = some u) => cell_one_new w5 (.string t) 9 jj u h)
        have k2 : Hid (∀ u ∈ [Value.string t], u.oneCell' = true) := Lib.hid (by intro u hu; simp only [List.mem_singleton] at hu; subst hu; rfl)
        have k3 : Hid (ts.length + 1 ≤ maxLen) := Lib.hid (by unfold maxLen; omega)
        have k4 : Hid ((ts.length + 1) * 16 ≤ 140737488355328) := Lib.hid (by omega)
        have k5 : Hid (w1.heap.size ≤ (w5.alloc (.cells #[.string t] 9)).heap.size) := Lib.hid (by rw [alloc_size]; have := HB1.out.size; omega)
        clear hb5 ht hts HO hal
        go_wp2_with (at_builtin; refine wpList_append_own _ rfl (.tmp 19) (.tmp 22) 48 rfl w1.heap.size 9 i0 (.string { data := #[] }) 1 16 Tryz.underlying48 hii hz0 hz1 hz2 rfl (by decide) _ _ _ rfl (HO2.out.alloc _) ⟨w5.heap.size, 0, none⟩ 1 1 [.string t] rfl rfl k1.out k2.out k3.out k4.out k5.out ?_)
        intro v6 w6 hown6 hgrow6 _
        have hb6 : Below w1.heap.size w5 w6 := ((Below.refl w1.heap.size w5).alloc HB1.out.size _).grown hgrow6 k5.out (fun g hg => (World.ownsRow.lt HO2.out g hg).1)
        have HN : Hid (OwnS w6 w1.heap.size v6 ((atS xs s (k + 1)).map bs)) := Lib.hid (by
          rw [HY.out]
          unfold OwnS
          rw [List.map_append, List.map_append, List.length_append, List.length_map, List.map_map]
          show w6.ownsRow w1.heap.size _ 1 v6 (ts.length + 1) (_ ++ [Value.string (bs (setL z))])
          rw [HT.out]
          exact hown6)
        replace HB1 := Lib.hid (HB1.out.trans hb6)
        clear hown6 hgrow6 hb6 k1 k2 k3 k4 k5 HO2
        go_wp2_with fail
        go_roundw
        case rel => exact ⟨k + 1, v6, by omega, by go_num, Lib.hid rfl, HN, HB1⟩
        case measure => simp [intOf]; omega
      | false =>
        have HG := Lib.hid hg
        have HY := Lib.hid (show atS xs s (k + 1) = atS xs s k from by rw [atS, hg]; rfl)
        clear hg
        go_wp2_with fail
        refine (hasInt_any _ _ false hk6 _ HG.out).mono ?_
        rintro e w' ⟨rfl, rfl⟩
        go_wp2_with fail
        go_roundw
        case rel => exact ⟨k + 1, vo, by omega, by go_num, Lib.hid rfl, Lib.hid (by rw [HY.out]; exact HO.out), HB1⟩
        case measure => simp [intOf]; omega
    · have hki : ¬ (k : Int) < (n : Int) := by omega
      have hkn : k = n := by omega
      rw [hkn] at HO
      have hal := atS_len xs s n
      have hjl := join_len (atS xs s n) (fun l hl => (hfl l (by rw [HN.out]; exact hl)).2)
      have hse : setsW xs s = if atS xs s n = [] then noneW else joinL (atS xs s n) := by unfold setsW; rw [HN.out]
      obtain ⟨ts, hts⟩ : ∃ ts, atS xs s n = ts := ⟨_, rfl⟩
      rw [hts] at HO hal hjl hse
      obtain ⟨p, cp, hvp⟩ := HO.out.slice
      rw [List.length_map] at hvp
      subst hvp
      obtain ⟨m, hm⟩ : ∃ m, ts.length = m := ⟨_, rfl⟩
      have HJ := Lib.hid (show ∀ W, Below wr.heap.size wr W → Calls Tryz.prog 184 #[.slice p m cp, .string { data := #[44] }] W fun e w' => e = .returned (.string (bs (joinL ts))) ∧ Below W.heap.size W w' from fun W hW => by
        rw [← hm]
        exact Join_any _ _ ts W (HO.out.kept hW) (by omega) (by omega))
      have HE := Lib.hid (show (if decide (0 < m) then bs (joinL ts) else { data := #[110, 111, 110, 101] }) = bs (setsW xs s) from by
        rw [hse]
        by_cases he : ts = []
        · rw [if_pos he, if_neg (by rw [← hm, he]; simp)]; rfl
        · have : 0 < m := by rw [← hm]; exact List.length_pos_iff.2 he
          rw [if_neg he, if_pos (by simpa using this)])
      obtain ⟨ok, hok⟩ : ∃ ok, decide (0 < m) = ok := ⟨_, rfl⟩
      have hok2 : decide ((0 : Int) < (m : Int)) = ok := by rw [← hok]; congr 1; apply propext; omega
      rw [hok] at HE
      obtain ⟨jt, hjt⟩ : ∃ jt, bs (joinL ts) = jt := ⟨_, rfl⟩
      rw [hjt] at HE HJ
      rw [hm]
      clear hkn hk hal hjl hse hts hm hjt HO hfl
      go_wp2_with fail
      refine (HJ.out _ (Below.refl _ _)).mono ?_
      rintro e w5 ⟨rfl, hb5⟩
      have HB5 := Lib.hid (below_onto HB.out (HB1.out.trans (hb5.mono HB1.out.size)))
      clear hb5
      go_wp2_with fail
      refine (either_any ok _ _ _).mono ?_
      rintro e w6 ⟨rfl, rfl⟩
      rw [HE.out]
      go_wp2_with fail
      go_ret
      exact ⟨rfl, HB5.out⟩
theorem wrap_p8 : ∀ {a : Nat}, a < 8 → IntKind.i64.wrap (2 ^ a) = 2 ^ a := by decide
theorem wrap_low8 : ∀ {a : Nat}, a < 8 → IntKind.i64.wrap (IntKind.i64.wrap (2 ^ a) - 1) = 2 ^ a - 1 := by decide
theorem worldN_of {d : Value} {xs : List Int} {L : List (List Int)} {n : Nat} (hn : xs.length = n) (hf : famL xs = true) (w : World) (h : DeskR w d xs L) :
    Calls Tryz.prog 159 #[d] w fun e w' => ∃ g cap, e = .returned (.slice (some ⟨g, 0, none⟩) n cap) ∧ Ints w' (some ⟨g, 0, none⟩) n (wdF xs) ∧ Below w.heap.size w w' := by
  subst hn
  exact world_any d xs L hf w h
theorem text_of {d : Value} {xs : List Int} {L : List (List Int)} {p : Int} {ok : Bool} {t : ByteArray} (ht : bs (oneW xs p ok) = t) (hp : ok = true → ∃ C : Nat, C < xs.length ∧ p = C) (hf : famL xs = true) (w : World) (h : DeskR w d xs L) :
    Calls Tryz.prog 165 #[d, .int .i64 p, .bool ok] w fun e w' => e = .returned (.string t) ∧ Below w.heap.size w w' := by
  subst ht
  exact text_any d xs L p ok hp hf w h
theorem texts_of {d : Value} {xs : List Int} {L : List (List Int)} {s : Int} {t : ByteArray} (ht : bs (setsW xs s) = t) (hf : famL xs = true) (w : World) (h : DeskR w d xs L) :
    Calls Tryz.prog 157 #[d, .int .i64 s] w fun e w' => e = .returned (.string t) ∧ Below w.heap.size w w' := by
  subst ht
  exact texts_any d xs L s hf w h
set_option maxRecDepth 100000 in
theorem wholeM_any (d : Value) (xs : List Int) (L : List (List Int)) (hf : famL xs = true) (w : World) (h : DeskR w d xs L) (hT : TabW w) :
    Calls Tryz.prog 140 #[d] w (Txt (wholeA xs) w) := by
  have hdd := h
  obtain ⟨a, c, b, c2, rfl, _⟩ := h.parts
  have q1 := alloc_below w (.cells #[.slice a xs.length c, .slice b L.length c2] 31)
  have hv := VarD.new hdd
  have HB := Lib.hid q1
  have HT := Lib.hid (hT.below q1)
  have HF := Lib.hid hf
  have hl := famL_len hf
  obtain ⟨n, hn⟩ : ∃ n, xs.length = n := ⟨_, rfl⟩
  have HN := Lib.hid hn
  have HDR := Lib.hid (show ∀ W, Below (w.alloc (.cells #[.slice a xs.length c, .slice b L.length c2] 31)).heap.size (w.alloc (.cells #[.slice a xs.length c, .slice b L.length c2] 31)) W → DeskR W (.agg #[.slice a xs.length c, .slice b L.length c2]) xs L from fun W hW => hv.d.kept hW)
  have HS := Lib.hid (show ∀ W, Below (w.alloc (.cells #[.slice a xs.length c, .slice b L.length c2] 31)).heap.size (w.alloc (.cells #[.slice a xs.length c, .slice b L.length c2] 31)) W → (W.cell? ⟨w.heap.size, 0, none⟩ = some (.slice a xs.length c) ∧ W.cell? ⟨w.heap.size, 1, none⟩ = some (.slice b L.length c2)) from fun W hW => (hv.kept hW).blk.cell)
  rw [hn] at HB HT HDR HS hl ⊢
  obtain ⟨w1, hw1⟩ : ∃ w1, w.alloc (.cells #[.slice a n c, .slice b L.length c2] 31) = w1 := ⟨_, rfl⟩
  rw [hw1] at HB HT HDR HS
  have HB6 := Lib.hid (Below.refl w1.heap.size w1)
  obtain ⟨hd0, hd1⟩ := HS.out w1 HB6.out
  clear h hdd q1 hf hT hv hn
  have HAT := Lib.hid (fun h => whole_at (xs := xs) HF.out h)
  have HE := Lib.hid (show bs (oneW xs (wholeN xs.length (wdF xs)) (wholeOk xs.length (wdF xs))) = bs (wholeA xs) from rfl)
  unfold Txt
  rw [HN.out] at HAT HE
  obtain ⟨i, hi⟩ : ∃ i, wholeN n (wdF xs) = i := ⟨_, rfl⟩
  obtain ⟨ok, hok⟩ : ∃ ok, wholeOk n (wdF xs) = ok := ⟨_, rfl⟩
  obtain ⟨t, ht⟩ : ∃ t, bs (wholeA xs) = t := ⟨_, rfl⟩
  rw [hi, hok] at HAT
  rw [hi, hok, ht] at HE
  rw [ht]
  rw [← HN.out] at HAT
  have HI1 := Lib.hid hi; have HI2 := Lib.hid hok
  clear hi hok ht
  go_enter Tryz.func140, Tryz.ntmps140
  go_upto_region 1 with fail
  clear hw1 hd0 hd1
  go_region_held3 (fun W => W.cell? ⟨w.heap.size, 0, none⟩ = some (.slice a n c) ∧ W.cell? ⟨w.heap.size, 1, none⟩ = some (.slice b L.length c2)) (first | exact HS.out _ HB6.out | exact HS.out _ HB6.out.drew | exact HS.out _ (below_drewN HB6.out _) | go_keep)
    (first | (go_at_call 159; refine (worldN_of HN.out (HF.out) _ (HDR.out _ (by first | with_reducible exact HB6.out | with_reducible exact HB6.out.drew | with_reducible exact below_drewN HB6.out _))).mono ?_; rintro e w7 ⟨g, cap, rfl, hi, hb⟩; have HI := Lib.hid hi; have HZ := Lib.hid (below_onto (show Below w1.heap.size w1 _ from (by first | with_reducible exact HB6.out | with_reducible exact HB6.out.drew | with_reducible exact below_drewN HB6.out _)) hb); clear HB6; have HB6 := HZ; clear HZ; clear hb; clear hi) | (go_at_call 166; refine (WholeOf_val _ _ _ _ i ok _ HI1.out HI2.out (by first | with_reducible exact HI.out | with_reducible exact HI.out.below (Below.refl _ _).drew (Nat.le_refl _) | with_reducible exact HI.out.below (below_drewN (Below.refl _ _) _) (Nat.le_refl _)) (HT.out.below (by first | with_reducible exact HB6.out | with_reducible exact HB6.out.drew | with_reducible exact below_drewN HB6.out _))).mono ?_; rintro e w8 ⟨rfl, hb⟩; have HZ := Lib.hid (below_onto (show Below w1.heap.size w1 _ from (by first | with_reducible exact HB6.out | with_reducible exact HB6.out.drew | with_reducible exact below_drewN HB6.out _)) hb); clear HB6; have HB6 := HZ; clear HZ; clear hb) | (go_at_call 165; refine (text_of HE.out HAT.out HF.out _ (HDR.out _ (by first | with_reducible exact HB6.out | with_reducible exact HB6.out.drew | with_reducible exact below_drewN HB6.out _))).mono ?_; rintro e w9 ⟨rfl, hb⟩; have HZ := Lib.hid (below_onto (show Below w1.heap.size w1 _ from (by first | with_reducible exact HB6.out | with_reducible exact HB6.out.drew | with_reducible exact below_drewN HB6.out _)) hb); clear HB6; have HB6 := HZ; clear HZ; clear hb))
  all_goals
    go_wp2_with fail
    go_ret
    exact ⟨rfl, below_onto HB.out (by first | with_reducible exact HB6.out | with_reducible exact HB6.out.drew | with_reducible exact below_drewN HB6.out _)⟩
set_option maxRecDepth 100000 in
theorem commonM_any (d : Value) (xs : List Int) (L : List (List Int)) (p q : Int) (hf : famL xs = true) (w : World) (h : DeskR w d xs L) (hT : TabW w) :
    Calls Tryz.prog 142 #[d, .int .i64 p, .int .i64 q] w (Txt (commonA xs p q) w) := by
  have hdd := h
  obtain ⟨a, c, b, c2, rfl, _⟩ := h.parts
  have q1 := alloc_below w (.cells #[.slice a xs.length c, .slice b L.length c2] 31)
  have hv := VarD.new hdd
  have HB := Lib.hid q1
  have HT := Lib.hid (hT.below q1)
  have HF := Lib.hid hf
  have hl := famL_len hf
  obtain ⟨n, hn⟩ : ∃ n, xs.length = n := ⟨_, rfl⟩
  have HN := Lib.hid hn
  have HDR := Lib.hid (show ∀ W, Below (w.alloc (.cells #[.slice a xs.length c, .slice b L.length c2] 31)).heap.size (w.alloc (.cells #[.slice a xs.length c, .slice b L.length c2] 31)) W → DeskR W (.agg #[.slice a xs.length c, .slice b L.length c2]) xs L from fun W hW => hv.d.kept hW)
  have HS := Lib.hid (show ∀ W, Below (w.alloc (.cells #[.slice a xs.length c, .slice b L.length c2] 31)).heap.size (w.alloc (.cells #[.slice a xs.length c, .slice b L.length c2] 31)) W → (W.cell? ⟨w.heap.size, 0, none⟩ = some (.slice a xs.length c) ∧ W.cell? ⟨w.heap.size, 1, none⟩ = some (.slice b L.length c2)) from fun W hW => (hv.kept hW).blk.cell)
  rw [hn] at HB HT HDR HS hl ⊢
  obtain ⟨w1, hw1⟩ : ∃ w1, w.alloc (.cells #[.slice a n c, .slice b L.length c2] 31) = w1 := ⟨_, rfl⟩
  rw [hw1] at HB HT HDR HS
  have HB6 := Lib.hid (Below.refl w1.heap.size w1)
  obtain ⟨hd0, hd1⟩ := HS.out w1 HB6.out
  clear h hdd q1 hf hT hv hn
  have HAT := Lib.hid (fun h => common_at (xs := xs) (p := p) (q := q) HF.out h)
  have HE := Lib.hid (show bs (oneW xs (commonN xs.length (wdF xs) p q) (commonOk xs.length (wdF xs) p q)) = bs (commonA xs p q) from rfl)
  unfold Txt
  rw [HN.out] at HAT HE
  obtain ⟨i, hi⟩ : ∃ i, commonN n (wdF xs) p q = i := ⟨_, rfl⟩
  obtain ⟨ok, hok⟩ : ∃ ok, commonOk n (wdF xs) p q = ok := ⟨_, rfl⟩
  obtain ⟨t, ht⟩ : ∃ t, bs (commonA xs p q) = t := ⟨_, rfl⟩
  rw [hi, hok] at HAT
  rw [hi, hok, ht] at HE
  rw [ht]
  rw [← HN.out] at HAT
  have HI1 := Lib.hid hi; have HI2 := Lib.hid hok
  clear hi hok ht
  go_enter Tryz.func142, Tryz.ntmps142
  go_upto_region 1 with fail
  clear hw1 hd0 hd1
  go_region_held3 (fun W => W.cell? ⟨w.heap.size, 0, none⟩ = some (.slice a n c) ∧ W.cell? ⟨w.heap.size, 1, none⟩ = some (.slice b L.length c2)) (first | exact HS.out _ HB6.out | exact HS.out _ HB6.out.drew | exact HS.out _ (below_drewN HB6.out _) | go_keep)
    (first | (go_at_call 159; refine (worldN_of HN.out (HF.out) _ (HDR.out _ (by first | with_reducible exact HB6.out | with_reducible exact HB6.out.drew | with_reducible exact below_drewN HB6.out _))).mono ?_; rintro e w7 ⟨g, cap, rfl, hi, hb⟩; have HI := Lib.hid hi; have HZ := Lib.hid (below_onto (show Below w1.heap.size w1 _ from (by first | with_reducible exact HB6.out | with_reducible exact HB6.out.drew | with_reducible exact below_drewN HB6.out _)) hb); clear HB6; have HB6 := HZ; clear HZ; clear hb; clear hi) | (go_at_call 168; refine (CommonOf_val _ _ _ _ p q i ok _ HI1.out HI2.out (by first | with_reducible exact HI.out | with_reducible exact HI.out.below (Below.refl _ _).drew (Nat.le_refl _) | with_reducible exact HI.out.below (below_drewN (Below.refl _ _) _) (Nat.le_refl _)) (HT.out.below (by first | with_reducible exact HB6.out | with_reducible exact HB6.out.drew | with_reducible exact below_drewN HB6.out _))).mono ?_; rintro e w8 ⟨rfl, hb⟩; have HZ := Lib.hid (below_onto (show Below w1.heap.size w1 _ from (by first | with_reducible exact HB6.out | with_reducible exact HB6.out.drew | with_reducible exact below_drewN HB6.out _)) hb); clear HB6; have HB6 := HZ; clear HZ; clear hb) | (go_at_call 165; refine (text_of HE.out HAT.out HF.out _ (HDR.out _ (by first | with_reducible exact HB6.out | with_reducible exact HB6.out.drew | with_reducible exact below_drewN HB6.out _))).mono ?_; rintro e w9 ⟨rfl, hb⟩; have HZ := Lib.hid (below_onto (show Below w1.heap.size w1 _ from (by first | with_reducible exact HB6.out | with_reducible exact HB6.out.drew | with_reducible exact below_drewN HB6.out _)) hb); clear HB6; have HB6 := HZ; clear HZ; clear hb))
  all_goals
    go_wp2_with fail
    go_ret
    exact ⟨rfl, below_onto HB.out (by first | with_reducible exact HB6.out | with_reducible exact HB6.out.drew | with_reducible exact below_drewN HB6.out _)⟩
set_option maxRecDepth 100000 in
theorem leftM_any (d : Value) (xs : List Int) (L : List (List Int)) (p q : Int) (hf : famL xs = true) (w : World) (h : DeskR w d xs L) (hT : TabW w) :
    Calls Tryz.prog 143 #[d, .int .i64 p, .int .i64 q] w (Txt (leftA xs p q) w) := by
  have hdd := h
  obtain ⟨a, c, b, c2, rfl, _⟩ := h.parts
  have q1 := alloc_below w (.cells #[.slice a xs.length c, .slice b L.length c2] 31)
  have hv := VarD.new hdd
  have HB := Lib.hid q1
  have HT := Lib.hid (hT.below q1)
  have HF := Lib.hid hf
  have hl := famL_len hf
  obtain ⟨n, hn⟩ : ∃ n, xs.length = n := ⟨_, rfl⟩
  have HN := Lib.hid hn
  have HDR := Lib.hid (show ∀ W, Below (w.alloc (.cells #[.slice a xs.length c, .slice b L.length c2] 31)).heap.size (w.alloc (.cells #[.slice a xs.length c, .slice b L.length c2] 31)) W → DeskR W (.agg #[.slice a xs.length c, .slice b L.length c2]) xs L from fun W hW => hv.d.kept hW)
  have HS := Lib.hid (show ∀ W, Below (w.alloc (.cells #[.slice a xs.length c, .slice b L.length c2] 31)).heap.size (w.alloc (.cells #[.slice a xs.length c, .slice b L.length c2] 31)) W → (W.cell? ⟨w.heap.size, 0, none⟩ = some (.slice a xs.length c) ∧ W.cell? ⟨w.heap.size, 1, none⟩ = some (.slice b L.length c2)) from fun W hW => (hv.kept hW).blk.cell)
  rw [hn] at HB HT HDR HS hl ⊢
  obtain ⟨w1, hw1⟩ : ∃ w1, w.alloc (.cells #[.slice a n c, .slice b L.length c2] 31) = w1 := ⟨_, rfl⟩
  rw [hw1] at HB HT HDR HS
  have HB6 := Lib.hid (Below.refl w1.heap.size w1)
  obtain ⟨hd0, hd1⟩ := HS.out w1 HB6.out
  clear h hdd q1 hf hT hv hn
  have HAT := Lib.hid (fun h => left_at (xs := xs) (p := p) (q := q) HF.out h)
  have HE := Lib.hid (show bs (oneW xs (leftN xs.length (wdF xs) p q) (leftOk xs.length (wdF xs) p q)) = bs (leftA xs p q) from rfl)
  unfold Txt
  rw [HN.out] at HAT HE
  obtain ⟨i, hi⟩ : ∃ i, leftN n (wdF xs) p q = i := ⟨_, rfl⟩
  obtain ⟨ok, hok⟩ : ∃ ok, leftOk n (wdF xs) p q = ok := ⟨_, rfl⟩
  obtain ⟨t, ht⟩ : ∃ t, bs (leftA xs p q) = t := ⟨_, rfl⟩
  rw [hi, hok] at HAT
  rw [hi, hok, ht] at HE
  rw [ht]
  rw [← HN.out] at HAT
  have HI1 := Lib.hid hi; have HI2 := Lib.hid hok
  clear hi hok ht
  go_enter Tryz.func143, Tryz.ntmps143
  go_upto_region 1 with fail
  clear hw1 hd0 hd1
  go_region_held3 (fun W => W.cell? ⟨w.heap.size, 0, none⟩ = some (.slice a n c) ∧ W.cell? ⟨w.heap.size, 1, none⟩ = some (.slice b L.length c2)) (first | exact HS.out _ HB6.out | exact HS.out _ HB6.out.drew | exact HS.out _ (below_drewN HB6.out _) | go_keep)
    (first | (go_at_call 159; refine (worldN_of HN.out (HF.out) _ (HDR.out _ (by first | with_reducible exact HB6.out | with_reducible exact HB6.out.drew | with_reducible exact below_drewN HB6.out _))).mono ?_; rintro e w7 ⟨g, cap, rfl, hi, hb⟩; have HI := Lib.hid hi; have HZ := Lib.hid (below_onto (show Below w1.heap.size w1 _ from (by first | with_reducible exact HB6.out | with_reducible exact HB6.out.drew | with_reducible exact below_drewN HB6.out _)) hb); clear HB6; have HB6 := HZ; clear HZ; clear hb; clear hi) | (go_at_call 169; refine (LeftOf_val _ _ _ _ p q i ok _ HI1.out HI2.out (by first | with_reducible exact HI.out | with_reducible exact HI.out.below (Below.refl _ _).drew (Nat.le_refl _) | with_reducible exact HI.out.below (below_drewN (Below.refl _ _) _) (Nat.le_refl _)) (HT.out.below (by first | with_reducible exact HB6.out | with_reducible exact HB6.out.drew | with_reducible exact below_drewN HB6.out _))).mono ?_; rintro e w8 ⟨rfl, hb⟩; have HZ := Lib.hid (below_onto (show Below w1.heap.size w1 _ from (by first | with_reducible exact HB6.out | with_reducible exact HB6.out.drew | with_reducible exact below_drewN HB6.out _)) hb); clear HB6; have HB6 := HZ; clear HZ; clear hb) | (go_at_call 165; refine (text_of HE.out HAT.out HF.out _ (HDR.out _ (by first | with_reducible exact HB6.out | with_reducible exact HB6.out.drew | with_reducible exact below_drewN HB6.out _))).mono ?_; rintro e w9 ⟨rfl, hb⟩; have HZ := Lib.hid (below_onto (show Below w1.heap.size w1 _ from (by first | with_reducible exact HB6.out | with_reducible exact HB6.out.drew | with_reducible exact below_drewN HB6.out _)) hb); clear HB6; have HB6 := HZ; clear HZ; clear hb))
  all_goals
    go_wp2_with fail
    go_ret
    exact ⟨rfl, below_onto HB.out (by first | with_reducible exact HB6.out | with_reducible exact HB6.out.drew | with_reducible exact below_drewN HB6.out _)⟩
set_option maxRecDepth 100000 in
theorem atomsM_any (d : Value) (xs : List Int) (L : List (List Int)) (hf : famL xs = true) (w : World) (h : DeskR w d xs L) (hT : TabW w) :
    Calls Tryz.prog 139 #[d] w (Txt (atomsA xs) w) := by
  have hdd := h
  obtain ⟨a, c, b, c2, rfl, _⟩ := h.parts
  have q1 := alloc_below w (.cells #[.slice a xs.length c, .slice b L.length c2] 31)
  have hv := VarD.new hdd
  have HB := Lib.hid q1
  have HT := Lib.hid (hT.below q1)
  have HF := Lib.hid hf
  have hl := famL_len hf
  obtain ⟨n, hn⟩ : ∃ n, xs.length = n := ⟨_, rfl⟩
  have HN := Lib.hid hn
  have HDR := Lib.hid (show ∀ W, Below (w.alloc (.cells #[.slice a xs.length c, .slice b L.length c2] 31)).heap.size (w.alloc (.cells #[.slice a xs.length c, .slice b L.length c2] 31)) W → DeskR W (.agg #[.slice a xs.length c, .slice b L.length c2]) xs L from fun W hW => hv.d.kept hW)
  have HS := Lib.hid (show ∀ W, Below (w.alloc (.cells #[.slice a xs.length c, .slice b L.length c2] 31)).heap.size (w.alloc (.cells #[.slice a xs.length c, .slice b L.length c2] 31)) W → (W.cell? ⟨w.heap.size, 0, none⟩ = some (.slice a xs.length c) ∧ W.cell? ⟨w.heap.size, 1, none⟩ = some (.slice b L.length c2)) from fun W hW => (hv.kept hW).blk.cell)
  rw [hn] at HB HT HDR HS hl ⊢
  obtain ⟨w1, hw1⟩ : ∃ w1, w.alloc (.cells #[.slice a n c, .slice b L.length c2] 31) = w1 := ⟨_, rfl⟩
  rw [hw1] at HB HT HDR HS
  have HB6 := Lib.hid (Below.refl w1.heap.size w1)
  obtain ⟨hd0, hd1⟩ := HS.out w1 HB6.out
  clear h hdd q1 hf hT hv hn
  have HE := Lib.hid (show bs (setsW xs (atomsB xs.length (wdF xs))) = bs (atomsA xs) from rfl)
  unfold Txt
  rw [HN.out] at HE
  obtain ⟨i, hi⟩ : ∃ i, atomsB n (wdF xs) = i := ⟨_, rfl⟩
  obtain ⟨t, ht⟩ : ∃ t, bs (atomsA xs) = t := ⟨_, rfl⟩
  rw [hi, ht] at HE
  rw [ht]
  have HI1 := Lib.hid hi
  clear hi ht
  go_enter Tryz.func139, Tryz.ntmps139
  go_upto_region 1 with fail
  clear hw1 hd0 hd1
  go_region_held3 (fun W => W.cell? ⟨w.heap.size, 0, none⟩ = some (.slice a n c) ∧ W.cell? ⟨w.heap.size, 1, none⟩ = some (.slice b L.length c2)) (first | exact HS.out _ HB6.out | exact HS.out _ HB6.out.drew | exact HS.out _ (below_drewN HB6.out _) | go_keep)
    (first | (go_at_call 159; refine (worldN_of HN.out (HF.out) _ (HDR.out _ (by first | with_reducible exact HB6.out | with_reducible exact HB6.out.drew | with_reducible exact below_drewN HB6.out _))).mono ?_; rintro e w7 ⟨g, cap, rfl, hi, hb⟩; have HI := Lib.hid hi; have HZ := Lib.hid (below_onto (show Below w1.heap.size w1 _ from (by first | with_reducible exact HB6.out | with_reducible exact HB6.out.drew | with_reducible exact below_drewN HB6.out _)) hb); clear HB6; have HB6 := HZ; clear HZ; clear hb; clear hi) | (go_at_call 164; refine (AtomsOf_any _ _ _ _ _ (by first | with_reducible exact HI.out | with_reducible exact HI.out.below (Below.refl _ _).drew (Nat.le_refl _) | with_reducible exact HI.out.below (below_drewN (Below.refl _ _) _) (Nat.le_refl _))).mono ?_; rintro e w8 ⟨rfl, hb⟩; rw [HI1.out]; have HZ := Lib.hid (below_onto (show Below w1.heap.size w1 _ from (by first | with_reducible exact HB6.out | with_reducible exact HB6.out.drew | with_reducible exact below_drewN HB6.out _)) hb); clear HB6; have HB6 := HZ; clear HZ; clear hb) | (go_at_call 157; refine (texts_of HE.out HF.out _ (HDR.out _ (by first | with_reducible exact HB6.out | with_reducible exact HB6.out.drew | with_reducible exact below_drewN HB6.out _))).mono ?_; rintro e w9 ⟨rfl, hb⟩; have HZ := Lib.hid (below_onto (show Below w1.heap.size w1 _ from (by first | with_reducible exact HB6.out | with_reducible exact HB6.out.drew | with_reducible exact below_drewN HB6.out _)) hb); clear HB6; have HB6 := HZ; clear HZ; clear hb))
  all_goals
    go_wp2_with fail
    go_ret
    exact ⟨rfl, below_onto HB.out (by first | with_reducible exact HB6.out | with_reducible exact HB6.out.drew | with_reducible exact below_drewN HB6.out _)⟩
set_option maxRecDepth 100000 in
theorem allM_any (d : Value) (xs : List Int) (L : List (List Int)) (hf : famL xs = true) (w : World) (h : DeskR w d xs L) (hT : TabW w) :
    Calls Tryz.prog 133 #[d] w (Txt (allA xs) w) := by
  have hdd := h
  obtain ⟨a, c, b, c2, rfl, _⟩ := h.parts
  have q1 := alloc_below w (.cells #[.slice a xs.length c, .slice b L.length c2] 31)
  have hv := VarD.new hdd
  have HB := Lib.hid q1
  have HT := Lib.hid (hT.below q1)
  have HF := Lib.hid hf
  have hl := famL_len hf
  obtain ⟨n, hn⟩ : ∃ n, xs.length = n := ⟨_, rfl⟩
  have HN := Lib.hid hn
  have HDR := Lib.hid (show ∀ W, Below (w.alloc (.cells #[.slice a xs.length c, .slice b L.length c2] 31)).heap.size (w.alloc (.cells #[.slice a xs.length c, .slice b L.length c2] 31)) W → DeskR W (.agg #[.slice a xs.length c, .slice b L.length c2]) xs L from fun W hW => hv.d.kept hW)
  have HS := Lib.hid (show ∀ W, Below (w.alloc (.cells #[.slice a xs.length c, .slice b L.length c2] 31)).heap.size (w.alloc (.cells #[.slice a xs.length c, .slice b L.length c2] 31)) W → (W.cell? ⟨w.heap.size, 0, none⟩ = some (.slice a xs.length c) ∧ W.cell? ⟨w.heap.size, 1, none⟩ = some (.slice b L.length c2)) from fun W hW => (hv.kept hW).blk.cell)
  rw [hn] at HB HT HDR HS hl ⊢
  obtain ⟨w1, hw1⟩ : ∃ w1, w.alloc (.cells #[.slice a n c, .slice b L.length c2] 31) = w1 := ⟨_, rfl⟩
  rw [hw1] at HB HT HDR HS
  have HB6 := Lib.hid (Below.refl w1.heap.size w1)
  obtain ⟨hd0, hd1⟩ := HS.out w1 HB6.out
  clear h hdd q1 hf hT hv hn
  have HE := Lib.hid (show bs (setsW xs (2 ^ xs.length - 1)) = bs (allA xs) from rfl)
  unfold Txt
  rw [HN.out] at HE
  have hp := pow_bounds n (by omega)
  obtain ⟨t, ht⟩ : ∃ t, bs (allA xs) = t := ⟨_, rfl⟩
  rw [ht] at HE
  rw [ht]
  have hwl := wrap_low8 (a := n) (by omega)
  obtain ⟨sv, hsv⟩ : ∃ sv : Int, (2 : Int) ^ n - 1 = sv := ⟨_, rfl⟩
  rw [hsv] at HE hwl
  have HSV := Lib.hid hwl
  clear ht hwl hsv
  go_enter Tryz.func133, Tryz.ntmps133
  go_upto_region 1 with fail
  clear hw1 hd0 hd1
  go_region_held3 (fun W => W.cell? ⟨w.heap.size, 0, none⟩ = some (.slice a n c) ∧ W.cell? ⟨w.heap.size, 1, none⟩ = some (.slice b L.length c2)) (first | exact HS.out _ HB6.out | exact HS.out _ HB6.out.drew | exact HS.out _ (below_drewN HB6.out _) | go_keep)
    (first | (go_at_call 157; rw [HSV.out]; refine (texts_of HE.out HF.out _ (HDR.out _ (by first | with_reducible exact HB6.out | with_reducible exact HB6.out.drew | with_reducible exact below_drewN HB6.out _))).mono ?_; rintro e w9 ⟨rfl, hb⟩; have HZ := Lib.hid (below_onto (show Below w1.heap.size w1 _ from (by first | with_reducible exact HB6.out | with_reducible exact HB6.out.drew | with_reducible exact below_drewN HB6.out _)) hb); clear HB6; have HB6 := HZ; clear HZ; clear hb))
  all_goals
    go_wp2_with fail
    go_ret
    exact ⟨rfl, below_onto HB.out (by first | with_reducible exact HB6.out | with_reducible exact HB6.out.drew | with_reducible exact below_drewN HB6.out _)⟩
set_option maxRecDepth 100000 in
theorem sumM_any (d : Value) (xs : List Int) (L : List (List Int)) (P Q : Nat) (hP : P < xs.length) (hQ : Q < xs.length) (hf : famL xs = true) (w : World) (h : DeskR w d xs L) (hT : TabW w) :
    Calls Tryz.prog 141 #[d, .int .i64 P, .int .i64 Q] w (Txt (sumA xs P Q) w) := by
  have hdd := h
  obtain ⟨a, c, b, c2, rfl, _⟩ := h.parts
  have q1 := alloc_below w (.cells #[.slice a xs.length c, .slice b L.length c2] 31)
  have hv := VarD.new hdd
  have HB := Lib.hid q1
  have HT := Lib.hid (hT.below q1)
  have HF := Lib.hid hf
  have hl := famL_len hf
  obtain ⟨n, hn⟩ : ∃ n, xs.length = n := ⟨_, rfl⟩
  have HN := Lib.hid hn
  have HDR := Lib.hid (show ∀ W, Below (w.alloc (.cells #[.slice a xs.length c, .slice b L.length c2] 31)).heap.size (w.alloc (.cells #[.slice a xs.length c, .slice b L.length c2] 31)) W → DeskR W (.agg #[.slice a xs.length c, .slice b L.length c2]) xs L from fun W hW => hv.d.kept hW)
  have HS := Lib.hid (show ∀ W, Below (w.alloc (.cells #[.slice a xs.length c, .slice b L.length c2] 31)).heap.size (w.alloc (.cells #[.slice a xs.length c, .slice b L.length c2] 31)) W → (W.cell? ⟨w.heap.size, 0, none⟩ = some (.slice a xs.length c) ∧ W.cell? ⟨w.heap.size, 1, none⟩ = some (.slice b L.length c2)) from fun W hW => (hv.kept hW).blk.cell)
  rw [hn] at HB HT HDR HS hl ⊢
  obtain ⟨w1, hw1⟩ : ∃ w1, w.alloc (.cells #[.slice a n c, .slice b L.length c2] 31) = w1 := ⟨_, rfl⟩
  rw [hw1] at HB HT HDR HS
  have HB6 := Lib.hid (Below.refl w1.heap.size w1)
  obtain ⟨hd0, hd1⟩ := HS.out w1 HB6.out
  clear h hdd q1 hf hT hv hn
  have HE := Lib.hid (show bs (setsW xs (sumsB xs.length (wdF xs) (twoS P Q))) = bs (sumA xs P Q) from rfl)
  unfold Txt
  rw [HN.out] at HE hP hQ
  have hp1 := pow_bounds P (by omega)
  have hp2 := pow_bounds Q (by omega)
  obtain ⟨t, ht⟩ : ∃ t, bs (sumA xs P Q) = t := ⟨_, rfl⟩
  have hs : twoS P Q = bits .or .i64 (IntKind.i64.wrap (2 ^ P)) (IntKind.i64.wrap (2 ^ Q)) := by unfold twoS; rw [Int.toNat_natCast, Int.toNat_natCast, wrap_p8 (by omega), wrap_p8 (by omega)]
  have hs64 : I64 (twoS P Q) := by rw [hs]; exact orI_I64 _ _
  obtain ⟨sv, hsv⟩ : ∃ sv, twoS P Q = sv := ⟨_, rfl⟩
  rw [hsv] at HE hs hs64
  rw [ht] at HE
  rw [ht]
  obtain ⟨i, hi⟩ : ∃ i, sumsB n (wdF xs) sv = i := ⟨_, rfl⟩
  rw [hi] at HE
  have HI1 := Lib.hid hi; have HSV := Lib.hid hs.symm; have HS64 := Lib.hid hs64
  clear hi ht hs hs64 hsv
  go_enter Tryz.func141, Tryz.ntmps141
  go_upto_region 1 with fail
  clear hw1 hd0 hd1
  go_region_held3 (fun W => W.cell? ⟨w.heap.size, 0, none⟩ = some (.slice a n c) ∧ W.cell? ⟨w.heap.size, 1, none⟩ = some (.slice b L.length c2)) (first | exact HS.out _ HB6.out | exact HS.out _ HB6.out.drew | exact HS.out _ (below_drewN HB6.out _) | go_keep)
    (first | (go_at_call 159; refine (worldN_of HN.out (HF.out) _ (HDR.out _ (by first | with_reducible exact HB6.out | with_reducible exact HB6.out.drew | with_reducible exact below_drewN HB6.out _))).mono ?_; rintro e w7 ⟨g, cap, rfl, hi, hb⟩; have HI := Lib.hid hi; have HZ := Lib.hid (below_onto (show Below w1.heap.size w1 _ from (by first | with_reducible exact HB6.out | with_reducible exact HB6.out.drew | with_reducible exact below_drewN HB6.out _)) hb); clear HB6; have HB6 := HZ; clear HZ; clear hb; clear hi) | (go_at_call 167; rw [HSV.out]; refine (SumsOf_val _ _ _ _ sv i HS64.out _ HI1.out (by first | with_reducible exact HI.out | with_reducible exact HI.out.below (Below.refl _ _).drew (Nat.le_refl _) | with_reducible exact HI.out.below (below_drewN (Below.refl _ _) _) (Nat.le_refl _))).mono ?_; rintro e w8 ⟨rfl, hb⟩; have HZ := Lib.hid (below_onto (show Below w1.heap.size w1 _ from (by first | with_reducible exact HB6.out | with_reducible exact HB6.out.drew | with_reducible exact below_drewN HB6.out _)) hb); clear HB6; have HB6 := HZ; clear HZ; clear hb) | (go_at_call 157; refine (texts_of HE.out HF.out _ (HDR.out _ (by first | with_reducible exact HB6.out | with_reducible exact HB6.out.drew | with_reducible exact below_drewN HB6.out _))).mono ?_; rintro e w9 ⟨rfl, hb⟩; have HZ := Lib.hid (below_onto (show Below w1.heap.size w1 _ from (by first | with_reducible exact HB6.out | with_reducible exact HB6.out.drew | with_reducible exact below_drewN HB6.out _)) hb); clear HB6; have HB6 := HZ; clear HZ; clear hb))
  all_goals
    go_wp2_with fail
    go_ret
    exact ⟨rfl, below_onto HB.out (by first | with_reducible exact HB6.out | with_reducible exact HB6.out.drew | with_reducible exact below_drewN HB6.out _)⟩
end Go.Proofs.YthaickihoagnmaaGreatDoor
namespace Go.Proofs.YthaickihoagnmaaGreatDoor
open Go.RowKit Go.WideMaps Go.Maps
def fnElem (v : Value) : Option (DataW Empty × List MemPlace) := match v with
  | .func (.func K) x y => if x.size = 0 ∧ y.size = 0 then some (.lit (.int .i64 (K : Int)), []) else none
  | .nilFunc => some (.lit (.bool false), [])
  | _ => none
theorem fnElem_is {v : Value} {z : DataW Empty × List MemPlace} (h : fnElem v = some z) : (∃ K : Nat, v = .func (.func K) #[] #[] ∧ z = (.lit (.int .i64 (K : Int)), [])) ∨ (v = .nilFunc ∧ z = (.lit (.bool false), [])) := by
  cases v with
  | nilFunc =>
    injection h with h
    exact .inr ⟨rfl, h.symm⟩
  | func f x y =>
    cases f with
    | func K =>
      change (if x.size = 0 ∧ y.size = 0 then some (DataW.lit (Lit.int IntKind.i64 (K : Int)), ([] : List MemPlace)) else none) = some z at h
      split at h
      · rename_i hh
        injection h with h
        have e1 := Array.eq_empty_of_size_eq_zero hh.1
        have e2 := Array.eq_empty_of_size_eq_zero hh.2
        subst e1; subst e2
        exact .inl ⟨K, rfl, h.symm⟩
      · cases h
    | _ => cases h
  | _ => cases h
theorem fnElem_func {v : Value} {K : Nat} {ps : List MemPlace} (h : fnElem v = some (.lit (.int .i64 (K : Int)), ps)) : v = .func (.func K) #[] #[] := by
  rcases fnElem_is h with ⟨K', rfl, e⟩ | ⟨_, e⟩
  · have e1 := congrArg Prod.fst e
    simp only at e1
    injection e1 with e1
    injection e1 with _ e2
    have : K' = K := by omega
    rw [this]
  · have e1 := congrArg Prod.fst e
    simp only at e1
    injection e1 with e1
    cases e1
theorem fnElem_nil {v : Value} {ps : List MemPlace} (h : fnElem v = some (.lit (.bool false), ps)) : v = .nilFunc := by
  rcases fnElem_is h with ⟨K', rfl, e⟩ | ⟨e, _⟩
  · have e1 := congrArg Prod.fst e
    simp only at e1
    injection e1 with e1
    cases e1
  · exact e
def qD0 : DataW Empty := DataW.map []
def qD1 : DataW Empty := qD0.put (.string allW) (.lit (.int .i64 ((133 : Nat) : Int)))
def qD2 : DataW Empty := qD1.put (.string companyW) (.lit (.int .i64 ((134 : Nat) : Int)))
def qD3 : DataW Empty := qD2.put (.string weakW) (.lit (.int .i64 ((135 : Nat) : Int)))
def qD4 : DataW Empty := qD3.put (.string strongW) (.lit (.int .i64 ((136 : Nat) : Int)))
def qD5 : DataW Empty := qD4.put (.string summedW) (.lit (.int .i64 ((137 : Nat) : Int)))
def qD6 : DataW Empty := qD5.put (.string classicalW) (.lit (.int .i64 ((138 : Nat) : Int)))
def qD7 : DataW Empty := qD6.put (.string atomsW) (.lit (.int .i64 ((139 : Nat) : Int)))
def qD8 : DataW Empty := qD7.put (.string wholeW) (.lit (.int .i64 ((140 : Nat) : Int)))
theorem qD0_map : IsMap qD0 := isMap_empty
theorem qD1_map : IsMap qD1 := qD0_map.put _ _
theorem qD2_map : IsMap qD2 := qD1_map.put _ _
theorem qD3_map : IsMap qD3 := qD2_map.put _ _
theorem qD4_map : IsMap qD4 := qD3_map.put _ _
theorem qD5_map : IsMap qD5 := qD4_map.put _ _
theorem qD6_map : IsMap qD6 := qD5_map.put _ _
theorem qD7_map : IsMap qD7 := qD6_map.put _ _
theorem qD_all (z : DataW Empty) : qD8.atKey (.string allW) z = .lit (.int .i64 ((133 : Nat) : Int)) ∧ Maps.has qD8 (.string allW) = true := by
  unfold qD8
  rw [atKey_put_other (show Lit.string allW ≠ Lit.string wholeW from fun e => absurd (by injection e : allW = wholeW) (by decide)), has_put_other (show Lit.string allW ≠ Lit.string wholeW from fun e => absurd (by injection e : allW = wholeW) (by decide))]
  unfold qD7
  rw [atKey_put_other (show Lit.string allW ≠ Lit.string atomsW from fun e => absurd (by injection e : allW = atomsW) (by decide)), has_put_other (show Lit.string allW ≠ Lit.string atomsW from fun e => absurd (by injection e : allW = atomsW) (by decide))]
  unfold qD6
  rw [atKey_put_other (show Lit.string allW ≠ Lit.string classicalW from fun e => absurd (by injection e : allW = classicalW) (by decide)), has_put_other (show Lit.string allW ≠ Lit.string classicalW from fun e => absurd (by injection e : allW = classicalW) (by decide))]
  unfold qD5
  rw [atKey_put_other (show Lit.string allW ≠ Lit.string summedW from fun e => absurd (by injection e : allW = summedW) (by decide)), has_put_other (show Lit.string allW ≠ Lit.string summedW from fun e => absurd (by injection e : allW = summedW) (by decide))]
  unfold qD4
  rw [atKey_put_other (show Lit.string allW ≠ Lit.string strongW from fun e => absurd (by injection e : allW = strongW) (by decide)), has_put_other (show Lit.string allW ≠ Lit.string strongW from fun e => absurd (by injection e : allW = strongW) (by decide))]
  unfold qD3
  rw [atKey_put_other (show Lit.string allW ≠ Lit.string weakW from fun e => absurd (by injection e : allW = weakW) (by decide)), has_put_other (show Lit.string allW ≠ Lit.string weakW from fun e => absurd (by injection e : allW = weakW) (by decide))]
  unfold qD2
  rw [atKey_put_other (show Lit.string allW ≠ Lit.string companyW from fun e => absurd (by injection e : allW = companyW) (by decide)), has_put_other (show Lit.string allW ≠ Lit.string companyW from fun e => absurd (by injection e : allW = companyW) (by decide))]
  unfold qD1
  exact ⟨atKey_put_same qD0_map (by trivial) _ _, has_put_same qD0_map (by trivial) _⟩
theorem qD_company (z : DataW Empty) : qD8.atKey (.string companyW) z = .lit (.int .i64 ((134 : Nat) : Int)) ∧ Maps.has qD8 (.string companyW) = true := by
  unfold qD8
  rw [atKey_put_other (show Lit.string companyW ≠ Lit.string wholeW from fun e => absurd (by injection e : companyW = wholeW) (by decide)), has_put_other (show Lit.string companyW ≠ Lit.string wholeW from fun e => absurd (by injection e : companyW = wholeW) (by decide))]
  unfold qD7
  rw [atKey_put_other (show Lit.string companyW ≠ Lit.string atomsW from fun e => absurd (by injection e : companyW = atomsW) (by decide)), has_put_other (show Lit.string companyW ≠ Lit.string atomsW from fun e => absurd (by injection e : companyW = atomsW) (by decide))]
  unfold qD6
  rw [atKey_put_other (show Lit.string companyW ≠ Lit.string classicalW from fun e => absurd (by injection e : companyW = classicalW) (by decide)), has_put_other (show Lit.string companyW ≠ Lit.string classicalW from fun e => absurd (by injection e : companyW = classicalW) (by decide))]
  unfold qD5
  rw [atKey_put_other (show Lit.string companyW ≠ Lit.string summedW from fun e => absurd (by injection e : companyW = summedW) (by decide)), has_put_other (show Lit.string companyW ≠ Lit.string summedW from fun e => absurd (by injection e : companyW = summedW) (by decide))]
  unfold qD4
  rw [atKey_put_other (show Lit.string companyW ≠ Lit.string strongW from fun e => absurd (by injection e : companyW = strongW) (by decide)), has_put_other (show Lit.string companyW ≠ Lit.string strongW from fun e => absurd (by injection e : companyW = strongW) (by decide))]
  unfold qD3
  rw [atKey_put_other (show Lit.string companyW ≠ Lit.string weakW from fun e => absurd (by injection e : companyW = weakW) (by decide)), has_put_other (show Lit.string companyW ≠ Lit.string weakW from fun e => absurd (by injection e : companyW = weakW) (by decide))]
  unfold qD2
  exact ⟨atKey_put_same qD1_map (by trivial) _ _, has_put_same qD1_map (by trivial) _⟩
theorem qD_weak (z : DataW Empty) : qD8.atKey (.string weakW) z = .lit (.int .i64 ((135 : Nat) : Int)) ∧ Maps.has qD8 (.string weakW) = true := by
  unfold qD8
  rw [atKey_put_other (show Lit.string weakW ≠ Lit.string wholeW from fun e => absurd (by injection e : weakW = wholeW) (by decide)), has_put_other (show Lit.string weakW ≠ Lit.string wholeW from fun e => absurd (by injection e : weakW = wholeW) (by decide))]
  unfold qD7
  rw [atKey_put_other (show Lit.string weakW ≠ Lit.string atomsW from fun e => absurd (by injection e : weakW = atomsW) (by decide)), has_put_other (show Lit.string weakW ≠ Lit.string atomsW from fun e => absurd (by injection e : weakW = atomsW) (by decide))]
  unfold qD6
  rw [atKey_put_other (show Lit.string weakW ≠ Lit.string classicalW from fun e => absurd (by injection e : weakW = classicalW) (by decide)), has_put_other (show Lit.string weakW ≠ Lit.string classicalW from fun e => absurd (by injection e : weakW = classicalW) (by decide))]
  unfold qD5
  rw [atKey_put_other (show Lit.string weakW ≠ Lit.string summedW from fun e => absurd (by injection e : weakW = summedW) (by decide)), has_put_other (show Lit.string weakW ≠ Lit.string summedW from fun e => absurd (by injection e : weakW = summedW) (by decide))]
  unfold qD4
  rw [atKey_put_other (show Lit.string weakW ≠ Lit.string strongW from fun e => absurd (by injection e : weakW = strongW) (by decide)), has_put_other (show Lit.string weakW ≠ Lit.string strongW from fun e => absurd (by injection e : weakW = strongW) (by decide))]
  unfold qD3
  exact ⟨atKey_put_same qD2_map (by trivial) _ _, has_put_same qD2_map (by trivial) _⟩
theorem qD_strong (z : DataW Empty) : qD8.atKey (.string strongW) z = .lit (.int .i64 ((136 : Nat) : Int)) ∧ Maps.has qD8 (.string strongW) = true := by
  unfold qD8
  rw [atKey_put_other (show Lit.string strongW ≠ Lit.string wholeW from fun e => absurd (by injection e : strongW = wholeW) (by decide)), has_put_other (show Lit.string strongW ≠ Lit.string wholeW from fun e => absurd (by injection e : strongW = wholeW) (by decide))]
  unfold qD7
  rw [atKey_put_other (show Lit.string strongW ≠ Lit.string atomsW from fun e => absurd (by injection e : strongW = atomsW) (by decide)), has_put_other (show Lit.string strongW ≠ Lit.string atomsW from fun e => absurd (by injection e : strongW = atomsW) (by decide))]
  unfold qD6
  rw [atKey_put_other (show Lit.string strongW ≠ Lit.string classicalW from fun e => absurd (by injection e : strongW = classicalW) (by decide)), has_put_other (show Lit.string strongW ≠ Lit.string classicalW from fun e => absurd (by injection e : strongW = classicalW) (by decide))]
  unfold qD5
  rw [atKey_put_other (show Lit.string strongW ≠ Lit.string summedW from fun e => absurd (by injection e : strongW = summedW) (by decide)), has_put_other (show Lit.string strongW ≠ Lit.string summedW from fun e => absurd (by injection e : strongW = summedW) (by decide))]
  unfold qD4
  exact ⟨atKey_put_same qD3_map (by trivial) _ _, has_put_same qD3_map (by trivial) _⟩
theorem qD_summed (z : DataW Empty) : qD8.atKey (.string summedW) z = .lit (.int .i64 ((137 : Nat) : Int)) ∧ Maps.has qD8 (.string summedW) = true := by
  unfold qD8
  rw [atKey_put_other (show Lit.string summedW ≠ Lit.string wholeW from fun e => absurd (by injection e : summedW = wholeW) (by decide)), has_put_other (show Lit.string summedW ≠ Lit.string wholeW from fun e => absurd (by injection e : summedW = wholeW) (by decide))]
  unfold qD7
  rw [atKey_put_other (show Lit.string summedW ≠ Lit.string atomsW from fun e => absurd (by injection e : summedW = atomsW) (by decide)), has_put_other (show Lit.string summedW ≠ Lit.string atomsW from fun e => absurd (by injection e : summedW = atomsW) (by decide))]
  unfold qD6
  rw [atKey_put_other (show Lit.string summedW ≠ Lit.string classicalW from fun e => absurd (by injection e : summedW = classicalW) (by decide)), has_put_other (show Lit.string summedW ≠ Lit.string classicalW from fun e => absurd (by injection e : summedW = classicalW) (by decide))]
  unfold qD5
  exact ⟨atKey_put_same qD4_map (by trivial) _ _, has_put_same qD4_map (by trivial) _⟩
theorem qD_classical (z : DataW Empty) : qD8.atKey (.string classicalW) z = .lit (.int .i64 ((138 : Nat) : Int)) ∧ Maps.has qD8 (.string classicalW) = true := by
  unfold qD8
  rw [atKey_put_other (show Lit.string classicalW ≠ Lit.string wholeW from fun e => absurd (by injection e : classicalW = wholeW) (by decide)), has_put_other (show Lit.string classicalW ≠ Lit.string wholeW from fun e => absurd (by injection e : classicalW = wholeW) (by decide))]
  unfold qD7
  rw [atKey_put_other (show Lit.string classicalW ≠ Lit.string atomsW from fun e => absurd (by injection e : classicalW = atomsW) (by decide)), has_put_other (show Lit.string classicalW ≠ Lit.string atomsW from fun e => absurd (by injection e : classicalW = atomsW) (by decide))]
  unfold qD6
  exact ⟨atKey_put_same qD5_map (by trivial) _ _, has_put_same qD5_map (by trivial) _⟩
theorem qD_atoms (z : DataW Empty) : qD8.atKey (.string atomsW) z = .lit (.int .i64 ((139 : Nat) : Int)) ∧ Maps.has qD8 (.string atomsW) = true := by
  unfold qD8
  rw [atKey_put_other (show Lit.string atomsW ≠ Lit.string wholeW from fun e => absurd (by injection e : atomsW = wholeW) (by decide)), has_put_other (show Lit.string atomsW ≠ Lit.string wholeW from fun e => absurd (by injection e : atomsW = wholeW) (by decide))]
  unfold qD7
  exact ⟨atKey_put_same qD6_map (by trivial) _ _, has_put_same qD6_map (by trivial) _⟩
theorem qD_whole (z : DataW Empty) : qD8.atKey (.string wholeW) z = .lit (.int .i64 ((140 : Nat) : Int)) ∧ Maps.has qD8 (.string wholeW) = true := by
  unfold qD8
  exact ⟨atKey_put_same qD7_map (by trivial) _ _, has_put_same qD7_map (by trivial) _⟩
theorem qD_none {l : List UInt8} (h0 : l ≠ allW) (h1 : l ≠ companyW) (h2 : l ≠ weakW) (h3 : l ≠ strongW) (h4 : l ≠ summedW) (h5 : l ≠ classicalW) (h6 : l ≠ atomsW) (h7 : l ≠ wholeW) (z : DataW Empty) : qD8.atKey (.string l) z = z ∧ Maps.has qD8 (.string l) = false := by
  unfold qD8
  rw [atKey_put_other (show Lit.string l ≠ Lit.string wholeW from fun e => h7 (by injection e)), has_put_other (show Lit.string l ≠ Lit.string wholeW from fun e => h7 (by injection e))]
  unfold qD7
  rw [atKey_put_other (show Lit.string l ≠ Lit.string atomsW from fun e => h6 (by injection e)), has_put_other (show Lit.string l ≠ Lit.string atomsW from fun e => h6 (by injection e))]
  unfold qD6
  rw [atKey_put_other (show Lit.string l ≠ Lit.string classicalW from fun e => h5 (by injection e)), has_put_other (show Lit.string l ≠ Lit.string classicalW from fun e => h5 (by injection e))]
  unfold qD5
  rw [atKey_put_other (show Lit.string l ≠ Lit.string summedW from fun e => h4 (by injection e)), has_put_other (show Lit.string l ≠ Lit.string summedW from fun e => h4 (by injection e))]
  unfold qD4
  rw [atKey_put_other (show Lit.string l ≠ Lit.string strongW from fun e => h3 (by injection e)), has_put_other (show Lit.string l ≠ Lit.string strongW from fun e => h3 (by injection e))]
  unfold qD3
  rw [atKey_put_other (show Lit.string l ≠ Lit.string weakW from fun e => h2 (by injection e)), has_put_other (show Lit.string l ≠ Lit.string weakW from fun e => h2 (by injection e))]
  unfold qD2
  rw [atKey_put_other (show Lit.string l ≠ Lit.string companyW from fun e => h1 (by injection e)), has_put_other (show Lit.string l ≠ Lit.string companyW from fun e => h1 (by injection e))]
  unfold qD1
  rw [atKey_put_other (show Lit.string l ≠ Lit.string allW from fun e => h0 (by injection e)), has_put_other (show Lit.string l ≠ Lit.string allW from fun e => h0 (by injection e))]
  exact ⟨rfl, rfl⟩
def questionsEnd (w : World) (e : Ending) (w' : World) : Prop :=
  e = .returned (.map (some w.heap.size)) ∧ w'.ownsMap Tryz.prog 9 fnElem w.heap.size 8 qD8 ∧ Below w.heap.size w w'
theorem questions_zero (w : World) : (zeroValue 123).run Tryz.prog w = .ok .nilFunc w := by kernel_rfl
set_option maxRecDepth 100000 in
theorem questions_any (w : World) : Calls Tryz.prog 112 #[] w (questionsEnd w) := by
  have hmm := @run_makeMap Tryz.prog
  have hmf : ∀ (fn : Fn) (first cap : Array Value) (w : World), (Instr.makeFunc fn first cap).run Tryz.prog w = .ok (.func fn first cap) w := fun _ _ _ _ => rfl
  have o0 : (w.alloc (.map #[] 0)).ownsMap Tryz.prog 9 fnElem w.heap.size 0 qD0 := World.ownsMap_made w Tryz.prog 9 fnElem
  have hb0 := (Below.refl w.heap.size w).alloc (Nat.le_refl _) (.map #[] 0)
  obtain ⟨w1, r1, o1, g1⟩ := o0.update (key := .string { data := #[97, 108, 108] }) (kl := .string allW) (val := .func (.func 133) #[] #[]) law_string Tryz.underlying125 (by unfold maxLen; omega) (key_of { data := #[97, 108, 108] } (by decide)) (show fnElem (.func (.func 133) #[] #[]) = some (.lit (.int .i64 ((133 : Nat) : Int)), []) from rfl)
  have hb1 := hb0.grown g1 hb0.size (fun j hj => by cases hj; exact Nat.le_refl _)
  obtain ⟨w2, r2, o2, g2⟩ := o1.update (key := .string { data := #[99, 111, 109, 112, 97, 110, 121] }) (kl := .string companyW) (val := .func (.func 134) #[] #[]) law_string Tryz.underlying125 (by unfold maxLen; omega) (key_of { data := #[99, 111, 109, 112, 97, 110, 121] } (by decide)) (show fnElem (.func (.func 134) #[] #[]) = some (.lit (.int .i64 ((134 : Nat) : Int)), []) from rfl)
  have hb2 := hb1.grown g2 hb1.size (fun j hj => by cases hj; exact Nat.le_refl _)
  obtain ⟨w3, r3, o3, g3⟩ := o2.update (key := .string { data := #[119, 101, 97, 107] }) (kl := .string weakW) (val := .func (.func 135) #[] #[]) law_string Tryz.underlying125 (by unfold maxLen; omega) (key_of { data := #[119, 101, 97, 107] } (by decide)) (show fnElem (.func (.func 135) #[] #[]) = some (.lit (.int .i64 ((135 : Nat) : Int)), []) from rfl)
  have hb3 := hb2.grown g3 hb2.size (fun j hj => by cases hj; exact Nat.le_refl _)
  obtain ⟨w4, r4, o4, g4⟩ := o3.update (key := .string { data := #[115, 116, 114, 111, 110, 103] }) (kl := .string strongW) (val := .func (.func 136) #[] #[]) law_string Tryz.underlying125 (by unfold maxLen; omega) (key_of { data := #[115, 116, 114, 111, 110, 103] } (by decide)) (show fnElem (.func (.func 136) #[] #[]) = some (.lit (.int .i64 ((136 : Nat) : Int)), []) from rfl)
  have hb4 := hb3.grown g4 hb3.size (fun j hj => by cases hj; exact Nat.le_refl _)
  obtain ⟨w5, r5, o5, g5⟩ := o4.update (key := .string { data := #[115, 117, 109, 109, 101, 100] }) (kl := .string summedW) (val := .func (.func 137) #[] #[]) law_string Tryz.underlying125 (by unfold maxLen; omega) (key_of { data := #[115, 117, 109, 109, 101, 100] } (by decide)) (show fnElem (.func (.func 137) #[] #[]) = some (.lit (.int .i64 ((137 : Nat) : Int)), []) from rfl)
  have hb5 := hb4.grown g5 hb4.size (fun j hj => by cases hj; exact Nat.le_refl _)
  obtain ⟨w6, r6, o6, g6⟩ := o5.update (key := .string { data := #[99, 108, 97, 115, 115, 105, 99, 97, 108] }) (kl := .string classicalW) (val := .func (.func 138) #[] #[]) law_string Tryz.underlying125 (by unfold maxLen; omega) (key_of { data := #[99, 108, 97, 115, 115, 105, 99, 97, 108] } (by decide)) (show fnElem (.func (.func 138) #[] #[]) = some (.lit (.int .i64 ((138 : Nat) : Int)), []) from rfl)
  have hb6 := hb5.grown g6 hb5.size (fun j hj => by cases hj; exact Nat.le_refl _)
  obtain ⟨w7, r7, o7, g7⟩ := o6.update (key := .string { data := #[97, 116, 111, 109, 115] }) (kl := .string atomsW) (val := .func (.func 139) #[] #[]) law_string Tryz.underlying125 (by unfold maxLen; omega) (key_of { data := #[97, 116, 111, 109, 115] } (by decide)) (show fnElem (.func (.func 139) #[] #[]) = some (.lit (.int .i64 ((139 : Nat) : Int)), []) from rfl)
  have hb7 := hb6.grown g7 hb6.size (fun j hj => by cases hj; exact Nat.le_refl _)
  obtain ⟨w8, r8, o8, g8⟩ := o7.update (key := .string { data := #[119, 104, 111, 108, 101] }) (kl := .string wholeW) (val := .func (.func 140) #[] #[]) law_string Tryz.underlying125 (by unfold maxLen; omega) (key_of { data := #[119, 104, 111, 108, 101] } (by decide)) (show fnElem (.func (.func 140) #[] #[]) = some (.lit (.int .i64 ((140 : Nat) : Int)), []) from rfl)
  have hb8 := hb7.grown g8 hb7.size (fun j hj => by cases hj; exact Nat.le_refl _)
  clear g1 g2 g3 g4 g5 g6 g7 g8 hb0 hb1 hb2 hb3 hb4 hb5 hb6 hb7 o0 o1 o2 o3 o4 o5 o6 o7
  have HO := Lib.hid o8; have HB := Lib.hid hb8
  clear o8 hb8
  go_enter Tryz.func112, Tryz.ntmps112
  go_wp2_with fail
  go_ret
  exact ⟨rfl, HO.out, HB.out⟩
theorem questions_look (w : World) (b : Nat) (h : w.ownsMap Tryz.prog 9 fnElem b 8 qD8) (nm : ByteArray) (hs : nm.size ≤ maxLen) (K : Nat)
    (hat : ∀ z, qD8.atKey (.string nm.data.toList) z = .lit (.int .i64 (K : Int)) ∧ Maps.has qD8 (.string nm.data.toList) = true) :
    (Instr.lookup 125 (.map (some b)) (.string nm) true).run Tryz.prog w = .ok (.tuple #[.func (.func K) #[] #[], .bool true]) w := by
  obtain ⟨v, ps, hrun, hv⟩ := h.look_ok law_string Tryz.underlying125 (questions_zero w) (show fnElem .nilFunc = some (.lit (.bool false), []) from rfl) (key_of nm hs)
  rw [(hat _).1] at hv
  rw [(hat (.lit (.bool false))).2, fnElem_func hv] at hrun
  exact hrun
theorem questions_miss (w : World) (b : Nat) (h : w.ownsMap Tryz.prog 9 fnElem b 8 qD8) (nm : ByteArray) (hs : nm.size ≤ maxLen)
    (hat : ∀ z, qD8.atKey (.string nm.data.toList) z = z ∧ Maps.has qD8 (.string nm.data.toList) = false) :
    (Instr.lookup 125 (.map (some b)) (.string nm) true).run Tryz.prog w = .ok (.tuple #[.nilFunc, .bool false]) w := by
  obtain ⟨v, ps, hrun, hv⟩ := h.look_ok law_string Tryz.underlying125 (questions_zero w) (show fnElem .nilFunc = some (.lit (.bool false), []) from rfl) (key_of nm hs)
  rw [(hat _).1] at hv
  rw [(hat (.lit (.bool false))).2, fnElem_nil hv] at hrun
  exact hrun
def tD0 : DataW Empty := DataW.map []
def tD1 : DataW Empty := tD0.put (.string sumW) (.lit (.int .i64 ((141 : Nat) : Int)))
def tD2 : DataW Empty := tD1.put (.string commonW) (.lit (.int .i64 ((142 : Nat) : Int)))
def tD3 : DataW Empty := tD2.put (.string leftW) (.lit (.int .i64 ((143 : Nat) : Int)))
theorem tD0_map : IsMap tD0 := isMap_empty
theorem tD1_map : IsMap tD1 := tD0_map.put _ _
theorem tD2_map : IsMap tD2 := tD1_map.put _ _
theorem tD_sum (z : DataW Empty) : tD3.atKey (.string sumW) z = .lit (.int .i64 ((141 : Nat) : Int)) ∧ Maps.has tD3 (.string sumW) = true := by
  unfold tD3
  rw [atKey_put_other (show Lit.string sumW ≠ Lit.string leftW from fun e => absurd (by injection e : sumW = leftW) (by decide)), has_put_other (show Lit.string sumW ≠ Lit.string leftW from fun e => absurd (by injection e : sumW = leftW) (by decide))]
  unfold tD2
  rw [atKey_put_other (show Lit.string sumW ≠ Lit.string commonW from fun e => absurd (by injection e : sumW = commonW) (by decide)), has_put_other (show Lit.string sumW ≠ Lit.string commonW from fun e => absurd (by injection e : sumW = commonW) (by decide))]
  unfold tD1
  exact ⟨atKey_put_same tD0_map (by trivial) _ _, has_put_same tD0_map (by trivial) _⟩
theorem tD_common (z : DataW Empty) : tD3.atKey (.string commonW) z = .lit (.int .i64 ((142 : Nat) : Int)) ∧ Maps.has tD3 (.string commonW) = true := by
  unfold tD3
  rw [atKey_put_other (show Lit.string commonW ≠ Lit.string leftW from fun e => absurd (by injection e : commonW = leftW) (by decide)), has_put_other (show Lit.string commonW ≠ Lit.string leftW from fun e => absurd (by injection e : commonW = leftW) (by decide))]
  unfold tD2
  exact ⟨atKey_put_same tD1_map (by trivial) _ _, has_put_same tD1_map (by trivial) _⟩
theorem tD_left (z : DataW Empty) : tD3.atKey (.string leftW) z = .lit (.int .i64 ((143 : Nat) : Int)) ∧ Maps.has tD3 (.string leftW) = true := by
  unfold tD3
  exact ⟨atKey_put_same tD2_map (by trivial) _ _, has_put_same tD2_map (by trivial) _⟩
theorem tD_none {l : List UInt8} (h0 : l ≠ sumW) (h1 : l ≠ commonW) (h2 : l ≠ leftW) (z : DataW Empty) : tD3.atKey (.string l) z = z ∧ Maps.has tD3 (.string l) = false := by
  unfold tD3
  rw [atKey_put_other (show Lit.string l ≠ Lit.string leftW from fun e => h2 (by injection e)), has_put_other (show Lit.string l ≠ Lit.string leftW from fun e => h2 (by injection e))]
  unfold tD2
  rw [atKey_put_other (show Lit.string l ≠ Lit.string commonW from fun e => h1 (by injection e)), has_put_other (show Lit.string l ≠ Lit.string commonW from fun e => h1 (by injection e))]
  unfold tD1
  rw [atKey_put_other (show Lit.string l ≠ Lit.string sumW from fun e => h0 (by injection e)), has_put_other (show Lit.string l ≠ Lit.string sumW from fun e => h0 (by injection e))]
  exact ⟨rfl, rfl⟩
def questionsOfTwoEnd (w : World) (e : Ending) (w' : World) : Prop :=
  e = .returned (.map (some w.heap.size)) ∧ w'.ownsMap Tryz.prog 9 fnElem w.heap.size 3 tD3 ∧ Below w.heap.size w w'
theorem questionsOfTwo_zero (w : World) : (zeroValue 127).run Tryz.prog w = .ok .nilFunc w := by kernel_rfl
set_option maxRecDepth 100000 in
theorem questionsOfTwo_any (w : World) : Calls Tryz.prog 113 #[] w (questionsOfTwoEnd w) := by
  have hmm := @run_makeMap Tryz.prog
  have hmf : ∀ (fn : Fn) (first cap : Array Value) (w : World), (Instr.makeFunc fn first cap).run Tryz.prog w = .ok (.func fn first cap) w := fun _ _ _ _ => rfl
  have o0 : (w.alloc (.map #[] 0)).ownsMap Tryz.prog 9 fnElem w.heap.size 0 tD0 := World.ownsMap_made w Tryz.prog 9 fnElem
  have hb0 := (Below.refl w.heap.size w).alloc (Nat.le_refl _) (.map #[] 0)
  obtain ⟨w1, r1, o1, g1⟩ := o0.update (key := .string { data := #[115, 117, 109] }) (kl := .string sumW) (val := .func (.func 141) #[] #[]) law_string Tryz.underlying129 (by unfold maxLen; omega) (key_of { data := #[115, 117, 109] } (by decide)) (show fnElem (.func (.func 141) #[] #[]) = some (.lit (.int .i64 ((141 : Nat) : Int)), []) from rfl)
  have hb1 := hb0.grown g1 hb0.size (fun j hj => by cases hj; exact Nat.le_refl _)
  obtain ⟨w2, r2, o2, g2⟩ := o1.update (key := .string { data := #[99, 111, 109, 109, 111, 110] }) (kl := .string commonW) (val := .func (.func 142) #[] #[]) law_string Tryz.underlying129 (by unfold maxLen; omega) (key_of { data := #[99, 111, 109, 109, 111, 110] } (by decide)) (show fnElem (.func (.func 142) #[] #[]) = some (.lit (.int .i64 ((142 : Nat) : Int)), []) from rfl)
  have hb2 := hb1.grown g2 hb1.size (fun j hj => by cases hj; exact Nat.le_refl _)
  obtain ⟨w3, r3, o3, g3⟩ := o2.update (key := .string { data := #[108, 101, 102, 116] }) (kl := .string leftW) (val := .func (.func 143) #[] #[]) law_string Tryz.underlying129 (by unfold maxLen; omega) (key_of { data := #[108, 101, 102, 116] } (by decide)) (show fnElem (.func (.func 143) #[] #[]) = some (.lit (.int .i64 ((143 : Nat) : Int)), []) from rfl)
  have hb3 := hb2.grown g3 hb2.size (fun j hj => by cases hj; exact Nat.le_refl _)
  clear g1 g2 g3 hb0 hb1 hb2 o0 o1 o2
  have HO := Lib.hid o3; have HB := Lib.hid hb3
  clear o3 hb3
  go_enter Tryz.func113, Tryz.ntmps113
  go_wp2_with fail
  go_ret
  exact ⟨rfl, HO.out, HB.out⟩
theorem questionsOfTwo_look (w : World) (b : Nat) (h : w.ownsMap Tryz.prog 9 fnElem b 3 tD3) (nm : ByteArray) (hs : nm.size ≤ maxLen) (K : Nat)
    (hat : ∀ z, tD3.atKey (.string nm.data.toList) z = .lit (.int .i64 (K : Int)) ∧ Maps.has tD3 (.string nm.data.toList) = true) :
    (Instr.lookup 129 (.map (some b)) (.string nm) true).run Tryz.prog w = .ok (.tuple #[.func (.func K) #[] #[], .bool true]) w := by
  obtain ⟨v, ps, hrun, hv⟩ := h.look_ok law_string Tryz.underlying129 (questionsOfTwo_zero w) (show fnElem .nilFunc = some (.lit (.bool false), []) from rfl) (key_of nm hs)
  rw [(hat _).1] at hv
  rw [(hat (.lit (.bool false))).2, fnElem_func hv] at hrun
  exact hrun
theorem questionsOfTwo_miss (w : World) (b : Nat) (h : w.ownsMap Tryz.prog 9 fnElem b 3 tD3) (nm : ByteArray) (hs : nm.size ≤ maxLen)
    (hat : ∀ z, tD3.atKey (.string nm.data.toList) z = z ∧ Maps.has tD3 (.string nm.data.toList) = false) :
    (Instr.lookup 129 (.map (some b)) (.string nm) true).run Tryz.prog w = .ok (.tuple #[.nilFunc, .bool false]) w := by
  obtain ⟨v, ps, hrun, hv⟩ := h.look_ok law_string Tryz.underlying129 (questionsOfTwo_zero w) (show fnElem .nilFunc = some (.lit (.bool false), []) from rfl) (key_of nm hs)
  rw [(hat _).1] at hv
  rw [(hat (.lit (.bool false))).2, fnElem_nil hv] at hrun
  exact hrun
theorem cut_len (l : List UInt8) : (cut1 l).length ≤ l.length ∧ (cut2 l).length ≤ l.length := by
  rcases cut_parts l with ⟨h1, h2, _⟩ | ⟨h1, _⟩
  · rw [h1, h2]; exact ⟨Nat.le_refl _, Nat.zero_le _⟩
  · have := congrArg List.length h1
    rw [List.length_append, List.length_cons] at this
    exact ⟨by omega, by omega⟩
set_option maxRecDepth 100000 in
theorem answer_ask (K : Nat) (d : Value) (xs : List Int) (L : List (List Int)) (t : ByteArray) (A : List UInt8) (hts : t.size ≤ maxLen)
    (hat : ∀ z, qD8.atKey (.string t.data.toList) z = .lit (.int .i64 (K : Int)) ∧ Maps.has qD8 (.string t.data.toList) = true)
    (hE : ∀ (args : Array Value) (w : World), Sem.run Tryz.prog (callFunc K args) w = .ok (.enter K args) w)
    (hF : Hid (∀ W, DeskR W d xs L → TabW W → Calls Tryz.prog K #[d] W (Txt A W))) (w : World) (h : DeskR w d xs L) (hT : TabW w) :
    Calls Tryz.prog 53 #[d, .string t] w (Txt A w) := by
  have hdd := h
  obtain ⟨a, c, b, c2, rfl, _⟩ := h.parts
  have q1 := alloc_below w (.cells #[.slice a xs.length c, .slice b L.length c2] 31)
  have HV := Lib.hid (VarD.new hdd)
  have HB := Lib.hid q1
  have HT := Lib.hid (hT.below q1)
  obtain ⟨w1, hw1⟩ : ∃ w1, w.alloc (.cells #[.slice a xs.length c, .slice b L.length c2] 31) = w1 := ⟨_, rfl⟩
  rw [hw1] at HV HB HT
  have hd0 := HV.out.blk.cell.1; have hd1 := HV.out.blk.cell.2
  clear h hdd q1 hT
  have HAT := Lib.hid hat
  clear hat
  go_enter Tryz.func53, Tryz.ntmps53
  go_wp2_with fail
  clear hw1
  refine (questions_any _).mono ?_
  rintro e w2 ⟨rfl, hown, hb⟩
  have hlook := questions_look w2 _ hown t hts K HAT.out
  replace HV := Lib.hid (HV.out.kept hb); replace HB := Lib.hid (below_onto HB.out hb); replace HT := Lib.hid (HT.out.below hb)
  clear hown hb hd0 hd1
  have hd0 := HV.out.blk.cell.1; have hd1 := HV.out.blk.cell.2
  go_wp2_with fail
  refine (hF.out _ HV.out.d HT.out).mono ?_
  rintro e w3 ⟨rfl, hb⟩
  replace HB := Lib.hid (below_onto HB.out hb)
  clear hb
  go_wp2_with fail
  go_ret
  exact ⟨rfl, HB.out⟩
set_option maxRecDepth 100000 in
theorem answer_what (d : Value) (xs : List Int) (L : List (List Int)) (t : ByteArray) (v : Value) (okb : Bool) (hts : t.size ≤ 1048600)
    (hat : ∀ z, qD8.atKey (.string t.data.toList) z = z ∧ Maps.has qD8 (.string t.data.toList) = false)
    (hlk : ∀ W b, W.ownsMap Tryz.prog 9 fnElem b 3 tD3 → (Instr.lookup 129 (.map (some b)) (.string (bs (cut1 t.data.toList))) true).run Tryz.prog W = .ok (.tuple #[v, .bool okb]) W)
    (hno : okb = false ∨ pA xs t.data.toList < 0 ∨ pB xs t.data.toList < 0) (hf : famL xs = true) (w : World) (h : DeskR w d xs L) (hT : TabW w) :
    Calls Tryz.prog 53 #[d, .string t] w (Txt whatW w) := by
  obtain ⟨c1, hc1⟩ : ∃ c1, bs (cut1 t.data.toList) = c1 := ⟨_, rfl⟩
  obtain ⟨c2', hc2⟩ : ∃ c2', bs (cut2 t.data.toList) = c2' := ⟨_, rfl⟩
  obtain ⟨u1, hu1⟩ : ∃ u1, bs (cut1 (cut2 t.data.toList)) = u1 := ⟨_, rfl⟩
  obtain ⟨u2, hu2⟩ : ∃ u2, bs (cut2 (cut2 t.data.toList)) = u2 := ⟨_, rfl⟩
  obtain ⟨p, hp⟩ : ∃ p, pA xs t.data.toList = p := ⟨_, rfl⟩
  obtain ⟨q, hq⟩ : ∃ q, pB xs t.data.toList = q := ⟨_, rfl⟩
  have hd2 : c2'.data.toList = cut2 t.data.toList := by rw [← hc2]; rfl
  have hz2 : c2'.size ≤ t.size := by rw [← hc2, bs_size]; exact (cut_len _).2
  have HM := Lib.hid (show ∀ W b, W.ownsMap Tryz.prog 9 fnElem b 8 qD8 → (Instr.lookup 125 (.map (some b)) (.string t) true).run Tryz.prog W = .ok (.tuple #[.nilFunc, .bool false]) W from fun W b hW => questions_miss W b hW t (by unfold maxLen; omega) hat)
  have HL2 := Lib.hid (show ∀ W b, W.ownsMap Tryz.prog 9 fnElem b 3 tD3 → (Instr.lookup 129 (.map (some b)) (.string c1) true).run Tryz.prog W = .ok (.tuple #[v, .bool okb]) W from fun W b hW => by rw [← hc1]; exact hlk W b hW)
  have HCUT1 := Lib.hid (show ∀ W, Calls Tryz.prog 104 #[.string t, .string { data := #[32] }] W fun e w' => ∃ b, e = .returned (.tuple #[.string c1, .string c2', .bool b]) ∧ Below W.heap.size W w' from fun W => (Cut_space t (by omega) W).mono fun e w' ⟨b, he, hd⟩ => ⟨b, by rw [he, hc1, hc2], hd.below⟩)
  have HCUT2 := Lib.hid (show ∀ W, Calls Tryz.prog 104 #[.string c2', .string { data := #[32] }] W fun e w' => ∃ b, e = .returned (.tuple #[.string u1, .string u2, .bool b]) ∧ Below W.heap.size W w' from fun W => (Cut_space c2' (by omega) W).mono fun e w' ⟨b, he, hd⟩ => ⟨b, by rw [he, hd2, hu1, hu2], hd.below⟩)
  have HPL1 := Lib.hid (show ∀ W d, DeskR W d xs L → Calls Tryz.prog 114 #[d, .string u1] W fun e w' => e = .returned (.int .i64 p) ∧ Below W.heap.size W w' from fun W d hW => by
    have := place_any d xs L u1 hf W hW
    rw [show u1.data.toList = cut1 (cut2 t.data.toList) by rw [← hu1]; rfl] at this
    rw [← hp]
    exact this)
  have HPL2 := Lib.hid (show ∀ W d, DeskR W d xs L → Calls Tryz.prog 114 #[d, .string u2] W fun e w' => e = .returned (.int .i64 q) ∧ Below W.heap.size W w' from fun W d hW => by
    have := place_any d xs L u2 hf W hW
    rw [show u2.data.toList = cut2 (cut2 t.data.toList) by rw [← hu2]; rfl] at this
    rw [← hq]
    exact this)
  rw [hp, hq] at hno
  have hvn : ∃ x1 : Bool, okb = x1 := ⟨_, rfl⟩
  have HE := Lib.hid (show ({ data := #[119, 104, 97, 116] } : ByteArray) = bs whatW from rfl)
  clear hc1 hc2 hu1 hu2 hp hq hd2 hz2 hat hlk hvn
  have hdd := h
  obtain ⟨a, c, b, c2, rfl, _⟩ := h.parts
  have q1 := alloc_below w (.cells #[.slice a xs.length c, .slice b L.length c2] 31)
  have HV := Lib.hid (VarD.new hdd)
  have HB := Lib.hid q1
  have HT := Lib.hid (hT.below q1)
  obtain ⟨w1, hw1⟩ : ∃ w1, w.alloc (.cells #[.slice a xs.length c, .slice b L.length c2] 31) = w1 := ⟨_, rfl⟩
  rw [hw1] at HV HB HT
  have hd0 := HV.out.blk.cell.1; have hd1 := HV.out.blk.cell.2
  clear h hdd q1 hT
  go_enter Tryz.func53, Tryz.ntmps53
  go_wp2_with fail
  clear hw1
  refine (questions_any _).mono ?_
  rintro e w2 ⟨rfl, hown, hb⟩
  have hlook := HM.out w2 _ hown
  replace HV := Lib.hid (HV.out.kept hb); replace HB := Lib.hid (below_onto HB.out hb); replace HT := Lib.hid (HT.out.below hb)
  clear hown hb hd0 hd1
  have hd0 := HV.out.blk.cell.1; have hd1 := HV.out.blk.cell.2
  go_wp2_with fail
  refine (HCUT1.out _).mono ?_
  rintro e w3 ⟨b1, rfl, hb⟩
  replace HV := Lib.hid (HV.out.kept hb); replace HB := Lib.hid (below_onto HB.out hb); replace HT := Lib.hid (HT.out.below hb)
  clear hb hlook hd0 hd1
  go_wp2_with fail
  refine (HCUT2.out _).mono ?_
  rintro e w4 ⟨b2, rfl, hb⟩
  replace HV := Lib.hid (HV.out.kept hb); replace HB := Lib.hid (below_onto HB.out hb); replace HT := Lib.hid (HT.out.below hb)
  clear hb
  go_wp2_with fail
  refine (questionsOfTwo_any _).mono ?_
  rintro e w5 ⟨rfl, hown, hb⟩
  have hlook2 := HL2.out w5 _ hown
  replace HV := Lib.hid (HV.out.kept hb); replace HB := Lib.hid (below_onto HB.out hb); replace HT := Lib.hid (HT.out.below hb)
  clear hown hb
  have HS := Lib.hid (show ∀ W, Below w5.heap.size w5 W → (W.cell? ⟨w.heap.size, 0, none⟩ = some (.slice a xs.length c) ∧ W.cell? ⟨w.heap.size, 1, none⟩ = some (.slice b L.length c2)) from fun W hW => (HV.out.kept hW).blk.cell)
  have HB6 := Lib.hid (Below.refl w5.heap.size w5)
  go_upto_region 7 with fail
  clear hlook2
  go_region_held3 (fun W => W.cell? ⟨w.heap.size, 0, none⟩ = some (.slice a xs.length c) ∧ W.cell? ⟨w.heap.size, 1, none⟩ = some (.slice b L.length c2)) (first | exact HS.out _ HB6.out | exact HS.out _ HB6.out.drew | exact HS.out _ (below_drewN HB6.out _) | go_keep)
    (first | (go_at_call 114; go_fit (HPL1.out _ _ (HV.out.d.kept (by first | with_reducible exact HB6.out | with_reducible exact HB6.out.drew | with_reducible exact below_drewN HB6.out _))); rintro e w7 ⟨rfl, hb⟩; have HZ := Lib.hid (below_onto (show Below w5.heap.size w5 _ from (by first | with_reducible exact HB6.out | with_reducible exact HB6.out.drew | with_reducible exact below_drewN HB6.out _)) hb); clear HB6; have HB6 := HZ; clear HZ; clear hb) | (go_at_call 114; go_fit (HPL2.out _ _ (HV.out.d.kept (by first | with_reducible exact HB6.out | with_reducible exact HB6.out.drew | with_reducible exact below_drewN HB6.out _))); rintro e w7 ⟨rfl, hb⟩; have HZ := Lib.hid (below_onto (show Below w5.heap.size w5 _ from (by first | with_reducible exact HB6.out | with_reducible exact HB6.out.drew | with_reducible exact below_drewN HB6.out _)) hb); clear HB6; have HB6 := HZ; clear HZ; clear hb))
  all_goals
    have HBZ := Lib.hid (show Below w.heap.size w _ from below_onto HB.out HB6.out)
    rcases hno with hno | hno | hno
    · subst hno
      go_wp2_with fail
      go_ret
      exact ⟨rets HE.out, by first | exact HBZ.out | exact HBZ.out.drew | exact below_drewN HBZ.out _⟩
    · have h1 : decide (p < 0) = true := decide_eq_true hno
      cases okb <;>
      · go_wp2_with fail
        go_ret
        exact ⟨rets HE.out, by first | exact HBZ.out | exact HBZ.out.drew | exact below_drewN HBZ.out _⟩
    · have h1 : decide (q < 0) = true := decide_eq_true hno
      cases okb with
      | false =>
        go_wp2_with fail
        go_ret
        exact ⟨rets HE.out, by first | exact HBZ.out | exact HBZ.out.drew | exact below_drewN HBZ.out _⟩
      | true =>
        cases hpp : decide (p < 0) <;>
        · go_wp2_with fail
          go_ret
          exact ⟨rets HE.out, by first | exact HBZ.out | exact HBZ.out.drew | exact below_drewN HBZ.out _⟩
set_option maxRecDepth 100000 in
theorem answer_two (K : Nat) (d : Value) (xs : List Int) (L : List (List Int)) (t : ByteArray) (v : Value) (okb : Bool) (A : List UInt8) (hts : t.size ≤ 1048600)
    (hat : ∀ z, qD8.atKey (.string t.data.toList) z = z ∧ Maps.has qD8 (.string t.data.toList) = false)
    (hlk : ∀ W b, W.ownsMap Tryz.prog 9 fnElem b 3 tD3 → (Instr.lookup 129 (.map (some b)) (.string (bs (cut1 t.data.toList))) true).run Tryz.prog W = .ok (.tuple #[v, .bool okb]) W)
    (hv : v = .func (.func K) #[] #[]) (hok : okb = true) (hp0 : 0 ≤ pA xs t.data.toList) (hq0 : 0 ≤ pB xs t.data.toList)
    (hE : ∀ (args : Array Value) (w : World), Sem.run Tryz.prog (callFunc K args) w = .ok (.enter K args) w)
    (hF : Hid (∀ W, DeskR W d xs L → TabW W → Calls Tryz.prog K #[d, .int .i64 (pA xs t.data.toList), .int .i64 (pB xs t.data.toList)] W (Txt A W)))
    (hf : famL xs = true) (w : World) (h : DeskR w d xs L) (hT : TabW w) :
    Calls Tryz.prog 53 #[d, .string t] w (Txt A w) := by
  obtain ⟨c1, hc1⟩ : ∃ c1, bs (cut1 t.data.toList) = c1 := ⟨_, rfl⟩
  obtain ⟨c2', hc2⟩ : ∃ c2', bs (cut2 t.data.toList) = c2' := ⟨_, rfl⟩
  obtain ⟨u1, hu1⟩ : ∃ u1, bs (cut1 (cut2 t.data.toList)) = u1 := ⟨_, rfl⟩
  obtain ⟨u2, hu2⟩ : ∃ u2, bs (cut2 (cut2 t.data.toList)) = u2 := ⟨_, rfl⟩
  obtain ⟨p, hp⟩ : ∃ p, pA xs t.data.toList = p := ⟨_, rfl⟩
  obtain ⟨q, hq⟩ : ∃ q, pB xs t.data.toList = q := ⟨_, rfl⟩
  have hd2 : c2'.data.toList = cut2 t.data.toList := by rw [← hc2]; rfl
  have hz2 : c2'.size ≤ t.size := by rw [← hc2, bs_size]; exact (cut_len _).2
  have HM := Lib.hid (show ∀ W b, W.ownsMap Tryz.prog 9 fnElem b 8 qD8 → (Instr.lookup 125 (.map (some b)) (.string t) true).run Tryz.prog W = .ok (.tuple #[.nilFunc, .bool false]) W from fun W b hW => questions_miss W b hW t (by unfold maxLen; omega) hat)
  have HL2 := Lib.hid (show ∀ W b, W.ownsMap Tryz.prog 9 fnElem b 3 tD3 → (Instr.lookup 129 (.map (some b)) (.string c1) true).run Tryz.prog W = .ok (.tuple #[v, .bool okb]) W from fun W b hW => by rw [← hc1]; exact hlk W b hW)
  have HCUT1 := Lib.hid (show ∀ W, Calls Tryz.prog 104 #[.string t, .string { data := #[32] }] W fun e w' => ∃ b, e = .returned (.tuple #[.string c1, .string c2', .bool b]) ∧ Below W.heap.size W w' from fun W => (Cut_space t (by omega) W).mono fun e w' ⟨b, he, hd⟩ => ⟨b, by rw [he, hc1, hc2], hd.below⟩)
  have HCUT2 := Lib.hid (show ∀ W, Calls Tryz.prog 104 #[.string c2', .string { data := #[32] }] W fun e w' => ∃ b, e = .returned (.tuple #[.string u1, .string u2, .bool b]) ∧ Below W.heap.size W w' from fun W => (Cut_space c2' (by omega) W).mono fun e w' ⟨b, he, hd⟩ => ⟨b, by rw [he, hd2, hu1, hu2], hd.below⟩)
  have HPL1 := Lib.hid (show ∀ W d, DeskR W d xs L → Calls Tryz.prog 114 #[d, .string u1] W fun e w' => e = .returned (.int .i64 p) ∧ Below W.heap.size W w' from fun W d hW => by
    have := place_any d xs L u1 hf W hW
    rw [show u1.data.toList = cut1 (cut2 t.data.toList) by rw [← hu1]; rfl] at this
    rw [← hp]
    exact this)
  have HPL2 := Lib.hid (show ∀ W d, DeskR W d xs L → Calls Tryz.prog 114 #[d, .string u2] W fun e w' => e = .returned (.int .i64 q) ∧ Below W.heap.size W w' from fun W d hW => by
    have := place_any d xs L u2 hf W hW
    rw [show u2.data.toList = cut2 (cut2 t.data.toList) by rw [← hu2]; rfl] at this
    rw [← hq]
    exact this)
  rw [hp] at hp0 hF
  rw [hq] at hq0 hF
  have h1 : decide (p < 0) = false := decide_eq_false (by omega)
  have h2 : decide (q < 0) = false := decide_eq_false (by omega)
  subst hv; subst hok
  clear hc1 hc2 hu1 hu2 hp hq hd2 hz2 hat hlk
  have hdd := h
  obtain ⟨a, c, b, c2, rfl, _⟩ := h.parts
  have q1 := alloc_below w (.cells #[.slice a xs.length c, .slice b L.length c2] 31)
  have HV := Lib.hid (VarD.new hdd)
  have HB := Lib.hid q1
  have HT := Lib.hid (hT.below q1)
  obtain ⟨w1, hw1⟩ : ∃ w1, w.alloc (.cells #[.slice a xs.length c, .slice b L.length c2] 31) = w1 := ⟨_, rfl⟩
  rw [hw1] at HV HB HT
  have hd0 := HV.out.blk.cell.1; have hd1 := HV.out.blk.cell.2
  clear h hdd q1 hT
  go_enter Tryz.func53, Tryz.ntmps53
  go_wp2_with fail
  clear hw1
  refine (questions_any _).mono ?_
  rintro e w2 ⟨rfl, hown, hb⟩
  have hlook := HM.out w2 _ hown
  replace HV := Lib.hid (HV.out.kept hb); replace HB := Lib.hid (below_onto HB.out hb); replace HT := Lib.hid (HT.out.below hb)
  clear hown hb hd0 hd1
  have hd0 := HV.out.blk.cell.1; have hd1 := HV.out.blk.cell.2
  go_wp2_with fail
  refine (HCUT1.out _).mono ?_
  rintro e w3 ⟨b1, rfl, hb⟩
  replace HV := Lib.hid (HV.out.kept hb); replace HB := Lib.hid (below_onto HB.out hb); replace HT := Lib.hid (HT.out.below hb)
  clear hb hlook hd0 hd1
  go_wp2_with fail
  refine (HCUT2.out _).mono ?_
  rintro e w4 ⟨b2, rfl, hb⟩
  replace HV := Lib.hid (HV.out.kept hb); replace HB := Lib.hid (below_onto HB.out hb); replace HT := Lib.hid (HT.out.below hb)
  clear hb
  go_wp2_with fail
  refine (questionsOfTwo_any _).mono ?_
  rintro e w5 ⟨rfl, hown, hb⟩
  have hlook2 := HL2.out w5 _ hown
  replace HV := Lib.hid (HV.out.kept hb); replace HB := Lib.hid (below_onto HB.out hb); replace HT := Lib.hid (HT.out.below hb)
  clear hown hb
  have HS := Lib.hid (show ∀ W, Below w5.heap.size w5 W → (W.cell? ⟨w.heap.size, 0, none⟩ = some (.slice a xs.length c) ∧ W.cell? ⟨w.heap.size, 1, none⟩ = some (.slice b L.length c2)) from fun W hW => (HV.out.kept hW).blk.cell)
  have HB6 := Lib.hid (Below.refl w5.heap.size w5)
  go_upto_region 7 with fail
  clear hlook2
  go_region_held3 (fun W => W.cell? ⟨w.heap.size, 0, none⟩ = some (.slice a xs.length c) ∧ W.cell? ⟨w.heap.size, 1, none⟩ = some (.slice b L.length c2)) (first | exact HS.out _ HB6.out | exact HS.out _ HB6.out.drew | exact HS.out _ (below_drewN HB6.out _) | go_keep)
    (first | (go_at_call 114; go_fit (HPL1.out _ _ (HV.out.d.kept (by first | with_reducible exact HB6.out | with_reducible exact HB6.out.drew | with_reducible exact below_drewN HB6.out _))); rintro e w7 ⟨rfl, hb⟩; have HZ := Lib.hid (below_onto (show Below w5.heap.size w5 _ from (by first | with_reducible exact HB6.out | with_reducible exact HB6.out.drew | with_reducible exact below_drewN HB6.out _)) hb); clear HB6; have HB6 := HZ; clear HZ; clear hb) | (go_at_call 114; go_fit (HPL2.out _ _ (HV.out.d.kept (by first | with_reducible exact HB6.out | with_reducible exact HB6.out.drew | with_reducible exact below_drewN HB6.out _))); rintro e w7 ⟨rfl, hb⟩; have HZ := Lib.hid (below_onto (show Below w5.heap.size w5 _ from (by first | with_reducible exact HB6.out | with_reducible exact HB6.out.drew | with_reducible exact below_drewN HB6.out _)) hb); clear HB6; have HB6 := HZ; clear HZ; clear hb))
  all_goals
    have HV6 := Lib.hid (HV.out.kept (by first | with_reducible exact HB6.out | with_reducible exact HB6.out.drew | with_reducible exact below_drewN HB6.out _))
    have HT6 := Lib.hid (HT.out.below (by first | with_reducible exact HB6.out | with_reducible exact HB6.out.drew | with_reducible exact below_drewN HB6.out _))
    have HBZ := Lib.hid (show Below w.heap.size w _ from below_onto HB.out (by first | with_reducible exact HB6.out | with_reducible exact HB6.out.drew | with_reducible exact below_drewN HB6.out _))
    have hd0 := HV6.out.blk.cell.1; have hd1 := HV6.out.blk.cell.2
    go_wp2_with fail
    refine (hF.out _ HV6.out.d HT6.out).mono ?_
    rintro e w8 ⟨rfl, hb⟩
    replace HBZ := Lib.hid (below_onto HBZ.out hb)
    clear hb
    go_wp2_with fail
    go_ret
    exact ⟨rfl, HBZ.out⟩
end Go.Proofs.YthaickihoagnmaaGreatDoor
