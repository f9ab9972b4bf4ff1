import Derived.Test.YthbancphegnpdaaTxM
import Derived.Test.YthbancphegnpdaaDraws
import Derived.Maps.AppendAt
import Derived.Maps.Own
import Derived.Maps.OwnOps
import Derived.Laws.IdiomStrings
namespace Go.Proofs.Ythbancphegnpdaa
set_option linter.unusedVariables false
set_option linter.unusedSimpArgs false
open Go.RowKit Go.Maps

/-- a byte, and a row of one's own that holds these bytes -/
def bytV (b : UInt8) : Value := .int .u8 (b.toNat : Int)
def OwnB (w : World) (B : Nat) (v : Value) (l : List UInt8) : Prop := w.ownsRow B 5 1 v l.length (l.map bytV)
theorem Try.infoByte : (Try.prog.info? 5).map (fun i => (i.zero, i.size, i.bytes)) = some (some (.int .u8 0), 1, 1) := by kernel_rfl
theorem info_bytes : ∃ i, Try.prog.info? 5 = some i ∧ i.zero = some (.int .u8 0) ∧ i.size = 1 ∧ i.bytes = 1 := by
  obtain ⟨i, hi, hzz⟩ := Option.map_eq_some_iff.1 Try.infoByte
  simp only [Prod.mk.injEq] at hzz
  exact ⟨i, hi, hzz.1, hzz.2.1, hzz.2.2⟩
theorem OwnB.snoc {w : World} {B : Nat} {v : Value} {l : List UInt8} {b : UInt8} (h : w.ownsRow B 5 1 v (l.length + 1) (l.map bytV ++ [bytV b])) : OwnB w B v (l ++ [b]) := by
  unfold OwnB; rw [List.length_append, List.map_append]; exact h
theorem OwnB.cells {w : World} {B : Nat} {v : Value} {l : List UInt8} (h : OwnB w B v l) (h1 : l ≠ []) : ∃ g c, v = .slice (some ⟨g, 0, none⟩) l.length c ∧ ∀ j (hj : j < l.length), w.cell? ((⟨g, 0, none⟩ : Addr).add j) = some (.int .u8 (l[j].toNat : Int)) := by
  have h' : w.ownsRow B 5 1 v l.length (l.map bytV) := h
  obtain ⟨h3, h4⟩ := h
  rcases h4 with ⟨_, h4⟩ | ⟨g, cap, cur, hv, hB, hg, hc, hm, hs, ht⟩
  · exact absurd (List.eq_nil_of_length_eq_zero h4) h1
  · subst hv
    refine ⟨g, cap, rfl, fun j hj => ?_⟩
    rw [Addr.add_lit, Nat.zero_add, h'.cellAt j (by omega), List.getElem?_map, List.getElem?_eq_getElem hj]
    rfl

theorem rets {a b : ByteArray} (h : a = b) : Ending.returned (.string a) = .returned (.string b) := by rw [h]

/-- the letters of the first k points -/
def txtK (x k : Nat) : List UInt8 := ((List.range k).filter (fun p => x / 2 ^ p % 2 == 1)).map (fun p => (97 + p).toUInt8)
theorem txtK_4 (x : Nat) : txtK x 4 = txtL x := rfl
theorem has_div (x p : Nat) : hasB (x : Int) p = (x / 2 ^ p % 2 == 1) := by
  rw [hasB_nat, Nat.testBit_eq_decide_div_mod_eq]
  cases h : (x / 2 ^ p % 2 == 1) with
  | true => simpa using h
  | false => simpa using h
theorem txtK_yes {x k : Nat} (h : hasB (x : Int) k = true) : txtK x (k + 1) = txtK x k ++ [(97 + k).toUInt8] := by
  rw [has_div] at h
  unfold txtK
  rw [List.range_succ, List.filter_append, List.map_append]
  simp [h]
theorem txtK_no {x k : Nat} (h : hasB (x : Int) k = false) : txtK x (k + 1) = txtK x k := by
  rw [has_div] at h
  unfold txtK
  rw [List.range_succ, List.filter_append, List.map_append]
  simp [h]
theorem txtK_len (x k : Nat) : (txtK x k).length ≤ k := by
  unfold txtK
  rw [List.length_map]
  have := List.length_filter_le (fun p => x / 2 ^ p % 2 == 1) (List.range k)
  rw [List.length_range] at this
  exact this
theorem letter_at {k : Nat} (hk : k < 4) : bytV (97 + k).toUInt8 = .int .u8 ((97 + k : Nat) : Int) := by
  have : k = 0 ∨ k = 1 ∨ k = 2 ∨ k = 3 := by omega
  rcases this with rfl | rfl | rfl | rfl <;> rfl
theorem idxL (k : Nat) (hk : k < 4) (w : World) : (Instr.index 9 (.string { data := #[97, 98, 99, 100] }) (.int .i64 (k : Int))).run Try.prog w = .ok (.int .u8 ((97 + k : Nat) : Int)) w := by
  have : k = 0 ∨ k = 1 ∨ k = 2 ∨ k = 3 := by omega
  rcases this with rfl | rfl | rfl | rfl
  · show (Instr.index 9 (.string { data := #[97, 98, 99, 100] }) (.int .i64 0)).run Try.prog w = .ok (.int .u8 97) w
    kernel_rfl
  · show (Instr.index 9 (.string { data := #[97, 98, 99, 100] }) (.int .i64 1)).run Try.prog w = .ok (.int .u8 98) w
    kernel_rfl
  · show (Instr.index 9 (.string { data := #[97, 98, 99, 100] }) (.int .i64 2)).run Try.prog w = .ok (.int .u8 99) w
    kernel_rfl
  · show (Instr.index 9 (.string { data := #[97, 98, 99, 100] }) (.int .i64 3)).run Try.prog w = .ok (.int .u8 100) w
    kernel_rfl

set_option maxRecDepth 100000 in
set_option maxHeartbeats 1600000 in
theorem SetText_in (x : Nat) (hx : okX (x : Int) = true) (w : World) :
    Calls Try.prog 15 #[.int .i64 (x : Int)] w fun e w' => e = .returned (.string (setT (x : Int))) ∧ Below w.heap.size w w' := by
  obtain ⟨i0, hii, hz0, hz1, hz2⟩ := info_bytes
  have HX := Lib.hid hx; clear hx
  have HST : Hid (OwnB w w.heap.size (.slice none 0 0) (txtK x 0)) := Lib.hid (World.ownsRow_nil _ _ _ _)
  go_enter Try.func15, Try.ntmps15
  go_wp2_with fail
  refine (pointsOk_val _ true HX.out _).mono ?_
  rintro e w' ⟨rfl, rfl⟩
  go_wp2_with fail
  go_loopw [3, 4, 8] (fun v _ i wr => ∃ (k : Nat) (vo : Value), k ≤ 4 ∧ i = .int .i64 k ∧ vo = v ∧ Hid (OwnB wr w.heap.size vo (txtK x k)) ∧ Hid (Below w.heap.size w wr)) (fun _ _ i _ => 4 - (intOf i).toNat)
  case atStart => exact ⟨0, _, Nat.zero_le _, rfl, rfl, HST, Lib.hid (Below.refl _ _)⟩
  case round =>
    clear HST
    obtain ⟨k, vo, hk, rfl, rfl, HO, HB⟩ := hrel
    by_cases hlt : k < 4
    · have hki : (k : Int) < 4 := by omega
      have hk6 : k ≤ 63 := by omega
      cases hg : hasB (x : Int) k with
      | true =>
        have HG := Lib.hid hg; clear hg
        have hix := fun w => idxL k hlt w
        obtain ⟨l, hl⟩ : ∃ l, txtK x k = l := ⟨_, rfl⟩
        have hlen : l.length ≤ 4 := by have := txtK_len x k; rw [hl] at this; omega
        have HL := Lib.hid hl
        rw [hl] at HO
        clear hl
        go_wp2_with fail
        refine (hasInt_any _ _ true hk6 _ HG.out).mono ?_
        rintro e w' ⟨rfl, rfl⟩
        have k1 := Lib.hid (fun (jj : Nat) (u : Value) (h : [Value.int .u8 ((97 + k : Nat) : Int)][jj]? = some u) => cell_one_new wr (.int .u8 ((97 + k : Nat) : Int)) 5 jj u h)
        have k2 : Hid (∀ u ∈ [Value.int .u8 ((97 + k : Nat) : Int)], u.oneCell' = true) := Lib.hid (by intro u hu; simp only [List.mem_singleton] at hu; subst hu; rfl)
        have k3 : Hid (l.length + 1 ≤ maxLen) := Lib.hid (by unfold maxLen; omega)
        have k4 : Hid ((l.length + 1) * 1 ≤ 140737488355328) := Lib.hid (by omega)
        have k5 : Hid (w.heap.size ≤ (wr.alloc (.cells #[.int .u8 ((97 + k : Nat) : Int)] 5)).heap.size) := Lib.hid (by rw [alloc_size]; have := HB.out.size; omega)
        have HO2 : Hid (wr.ownsRow w.heap.size 5 1 vo l.length (l.map bytV)) := Lib.hid HO.out
        go_wp2_with (at_builtin; refine wpList_append_own _ rfl (.tmp 14) (.tmp 17) 22 rfl w.heap.size 5 i0 (.int .u8 0) 1 1 Try.underlying22 hii hz0 hz1 hz2 rfl (by decide) _ _ _ rfl (HO2.out.alloc _) ⟨wr.heap.size, 0, none⟩ 1 1 [.int .u8 ((97 + k : Nat) : Int)] rfl rfl k1.out k2.out k3.out k4.out k5.out ?_)
        intro v5 w5 hown5 hgrow5 _
        have hb5 : Below w.heap.size wr w5 := ((Below.refl w.heap.size wr).alloc HB.out.size _).grown hgrow5 k5.out (fun q hq => (World.ownsRow.lt HO.out q hq).1)
        have hown6 : OwnB w5 w.heap.size v5 (txtK x (k + 1)) := by
          rw [txtK_yes HG.out, HL.out]
          refine OwnB.snoc ?_
          rw [letter_at hlt]; exact hown5
        have HB5 := Lib.hid (HB.out.trans hb5)
        have HO5 := Lib.hid hown6
        clear hown5 hgrow5 hb5 hown6 k1 k2 k3 k4 k5 HO HO2 hix
        go_wp2_with fail
        go_roundw
        case rel => exact ⟨k + 1, _, by omega, by go_num, rfl, HO5, HB5⟩
        case measure => simp [intOf]; omega
      | false =>
        have HG := Lib.hid hg; clear hg
        go_wp2_with fail
        refine (hasInt_any _ _ false hk6 _ HG.out).mono ?_
        rintro e w' ⟨rfl, rfl⟩
        have HO5 : Hid (OwnB wr w.heap.size vo (txtK x (k + 1))) := Lib.hid (by rw [txtK_no HG.out]; exact HO.out)
        go_wp2_with fail
        go_roundw
        case rel => exact ⟨k + 1, _, by omega, by go_num, rfl, HO5, HB⟩
        case measure => simp [intOf]; omega
    · have hki : ¬ (k : Int) < 4 := by omega
      have hkn : k = 4 := by omega
      rw [hkn] at HO
      clear hkn hk
      have hxr := okX_iff.1 HX.out
      have hne : txtK x 4 ≠ [] := txtK_4 x ▸ txt_nonempty (by omega) (by omega)
      obtain ⟨g, c, rfl, hcell⟩ := HO.out.cells hne
      have hcv := fun w1 (hc : ∀ j (hj : j < (txtK x 4).length), w1.cell? ((⟨g, 0, none⟩ : Addr).add j) = some (.int .u8 ((txtK x 4)[j].toNat : Int))) => run_convert_bytes_back (P := Try.prog) w1 22 9 5 ⟨g, 0, none⟩ c (txtK x 4) Try.underlying22 Try.underlying5 Try.underlying9 hc
      have hcw := hcv wr hcell
      have hset : setT (x : Int) = ⟨(txtK x 4).toArray⟩ := by
        unfold setT
        rw [setL_yes HX.out, Int.toNat_natCast]; rfl
      have HS := Lib.hid hset
      clear hcv hcell hxr hne hset
      go_wp2_with fail
      go_ret
      exact ⟨rets HS.out.symm, HB.out⟩

set_option maxRecDepth 100000 in
set_option maxHeartbeats 800000 in
theorem SetText_any (x : Int) (w : World) :
    Calls Try.prog 15 #[.int .i64 x] w fun e w' => e = .returned (.string (setT x)) ∧ Below w.heap.size w w' := by
  cases hx : okX x with
  | true =>
    obtain ⟨k, rfl⟩ := Int.eq_ofNat_of_zero_le (by have := okX_iff.1 hx; omega : 0 ≤ x)
    exact SetText_in k hx w
  | false =>
    have HX := Lib.hid hx
    have HE : Hid (setT x = { data := #[] }) := Lib.hid (by unfold setT; rw [setL_no hx]; rfl)
    clear hx
    go_enter Try.func15, Try.ntmps15
    go_wp2_with fail
    refine (pointsOk_val _ false HX.out _).mono ?_
    rintro e w' ⟨rfl, rfl⟩
    go_wp2_with fail
    go_ret
    exact ⟨rets HE.out.symm, Below.refl _ _⟩
end Go.Proofs.Ythbancphegnpdaa
