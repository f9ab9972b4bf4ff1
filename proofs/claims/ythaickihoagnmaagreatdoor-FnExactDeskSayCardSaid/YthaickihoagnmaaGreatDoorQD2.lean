import Derived.Test.YthaickihoagnmaaGreatDoorQD1
import Derived.Maps.AppendAt
import Derived.Maps.Own
import Derived.Maps.OwnOps
import Derived.Laws.IdiomStrings
import Derived.Lib.Bytealg
import Derived.Lib.Walk
import Derived.Lib.Strings
import Derived.BigCall
import Derived.Laws.StructEq
import Derived.Lib.IndexBytes
import Derived.Lib.Slices
import Derived.Laws.Strings3
import Derived.Deep.QuietTactic
import Derived.BigQuiet
import Derived.Laws.ResultCell
import Derived.Laws.Rows
import Derived.Laws.DeepStrings4
import Derived.Deep.RegionHeld3
import Derived.IntWalk
import Derived.Deep.RegionWith
import Derived.Deep.DeepFit
set_option linter.unusedVariables false
set_option linter.unusedSimpArgs false
set_option maxHeartbeats 12800000
namespace Go.Proofs.YthaickihoagnmaaGreatDoor
open Go.RowKit Go.Maps
def bytV (b : UInt8) : Value := .int .u8 (b.toNat : Int)
def OwnB (w : World) (B : Nat) (v : Value) (l : List UInt8) : Prop := w.ownsRow B 5 1 v l.length (l.map bytV)
theorem Tryz.infoByte : (Tryz.prog.info? 5).map (fun i => (i.zero, i.size, i.bytes)) = some (some (.int .u8 0), 1, 1) := by kernel_rfl
theorem info_bytes : ∃ i, Tryz.prog.info? 5 = some i ∧ i.zero = some (.int .u8 0) ∧ i.size = 1 ∧ i.bytes = 1 := by
  obtain ⟨i, hi, hzz⟩ := Option.map_eq_some_iff.1 Tryz.infoByte
  simp only [Prod.mk.injEq] at hzz
  exact ⟨i, hi, hzz.1, hzz.2.1, hzz.2.2⟩
theorem OwnB.snoc {w : World} {B : Nat} {v : Value} {l : List UInt8} {b : UInt8} (h : w.ownsRow B 5 1 v (l.length + 1) (l.map bytV ++ [bytV b])) : OwnB w B v (l ++ [b]) := by
  unfold OwnB; rw [List.length_append, List.map_append]; exact h
theorem OwnB.cells {w : World} {B : Nat} {v : Value} {l : List UInt8} (h : OwnB w B v l) (h1 : l ≠ []) : ∃ g c, v = .slice (some ⟨g, 0, none⟩) l.length c ∧ ∀ j (hj : j < l.length), w.cell? ((⟨g, 0, none⟩ : Addr).add j) = some (.int .u8 (l[j].toNat : Int)) := by
  have h' : w.ownsRow B 5 1 v l.length (l.map bytV) := h
  obtain ⟨h3, h4⟩ := h
  rcases h4 with ⟨_, h4⟩ | ⟨g, cap, cur, hv, hB, hg, hc, hm, hs, ht⟩
  · exact absurd (List.eq_nil_of_length_eq_zero h4) h1
  · subst hv
    refine ⟨g, cap, rfl, fun j hj => ?_⟩
    rw [Addr.add_lit, Nat.zero_add, h'.cellAt j (by omega), List.getElem?_map, List.getElem?_eq_getElem hj]
    rfl
theorem rets {a b : ByteArray} (h : a = b) : Ending.returned (.string a) = .returned (.string b) := by rw [h]
def txtK (x k : Nat) : List UInt8 := ((List.range k).filter (fun p => x / 2 ^ p % 2 == 1)).map (fun p => (97 + p).toUInt8)
theorem txtK_4 (x : Nat) : txtK x 4 = txtL x := rfl
theorem has_div (x p : Nat) : hasB (x : Int) p = (x / 2 ^ p % 2 == 1) := by
  rw [hasB_nat, Nat.testBit_eq_decide_div_mod_eq]
  cases h : (x / 2 ^ p % 2 == 1) with
  | true => simpa using h
  | false => simpa using h
theorem txtK_yes {x k : Nat} (h : hasB (x : Int) k = true) : txtK x (k + 1) = txtK x k ++ [(97 + k).toUInt8] := by
  rw [has_div] at h
  unfold txtK
  rw [List.range_succ, List.filter_append, List.map_append]
  simp [h]
theorem txtK_no {x k : Nat} (h : hasB (x : Int) k = false) : txtK x (k + 1) = txtK x k := by
  rw [has_div] at h
  unfold txtK
  rw [List.range_succ, List.filter_append, List.map_append]
  simp [h]
theorem txtK_len (x k : Nat) : (txtK x k).length ≤ k := by
  unfold txtK
  rw [List.length_map]
  have := List.length_filter_le (fun p => x / 2 ^ p % 2 == 1) (List.range k)
  rw [List.length_range] at this
  exact this
theorem letter_at {k : Nat} (hk : k < 4) : bytV (97 + k).toUInt8 = .int .u8 ((97 + k : Nat) : Int) := by
  have : k = 0 ∨ k = 1 ∨ k = 2 ∨ k = 3 := by omega
  rcases this with rfl | rfl | rfl | rfl <;> rfl
theorem idxL (k : Nat) (hk : k < 4) (w : World) : (Instr.index 9 (.string { data := #[97, 98, 99, 100] }) (.int .i64 (k : Int))).run Tryz.prog w = .ok (.int .u8 ((97 + k : Nat) : Int)) w := by
  have : k = 0 ∨ k = 1 ∨ k = 2 ∨ k = 3 := by omega
  rcases this with rfl | rfl | rfl | rfl
  · show (Instr.index 9 (.string { data := #[97, 98, 99, 100] }) (.int .i64 0)).run Tryz.prog w = .ok (.int .u8 97) w
    kernel_rfl
  · show (Instr.index 9 (.string { data := #[97, 98, 99, 100] }) (.int .i64 1)).run Tryz.prog w = .ok (.int .u8 98) w
    kernel_rfl
  · show (Instr.index 9 (.string { data := #[97, 98, 99, 100] }) (.int .i64 2)).run Tryz.prog w = .ok (.int .u8 99) w
    kernel_rfl
  · show (Instr.index 9 (.string { data := #[97, 98, 99, 100] }) (.int .i64 3)).run Tryz.prog w = .ok (.int .u8 100) w
    kernel_rfl
set_option maxRecDepth 100000 in
theorem SetText_in (x : Nat) (hx : okX (x : Int) = true) (w : World) :
    Calls Tryz.prog 58 #[.int .i64 (x : Int)] w fun e w' => e = .returned (.string (setT (x : Int))) ∧ Below w.heap.size w w' := by
  obtain ⟨i0, hii, hz0, hz1, hz2⟩ := info_bytes
  have HX := Lib.hid hx; clear hx
  have HST : Hid (OwnB w w.heap.size (.slice none 0 0) (txtK x 0)) := Lib.hid (World.ownsRow_nil _ _ _ _)
  go_enter Tryz.func58, Tryz.ntmps58
  go_wp2_with fail
  refine (pointsOk_val _ true HX.out _).mono ?_
  rintro e w' ⟨rfl, rfl⟩
  go_wp2_with fail
  go_loopw [3, 4, 8] (fun v _ i wr => ∃ (k : Nat) (vo : Value), k ≤ 4 ∧ i = .int .i64 k ∧ vo = v ∧ Hid (OwnB wr w.heap.size vo (txtK x k)) ∧ Hid (Below w.heap.size w wr)) (fun _ _ i _ => 4 - (intOf i).toNat)
  case atStart => exact ⟨0, _, Nat.zero_le _, rfl, rfl, HST, Lib.hid (Below.refl _ _)⟩
  case round =>
    clear HST
    obtain ⟨k, vo, hk, rfl, rfl, HO, HB⟩ := hrel
    by_cases hlt : k < 4
    · have hki : (k : Int) < 4 := by omega
      have hk6 : k ≤ 63 := by omega
      cases hg : hasB (x : Int) k with
      | true =>
        have HG := Lib.hid hg; clear hg
        have hix := fun w => idxL k hlt w
        obtain ⟨l, hl⟩ : ∃ l, txtK x k = l := ⟨_, rfl⟩
        have hlen : l.length ≤ 4 := by have := txtK_len x k; rw [hl] at this; omega
        have HL := Lib.hid hl
        rw [hl] at HO
        clear hl
        go_wp2_with fail
        refine (hasInt_any _ _ true hk6 _ HG.out).mono ?_
        rintro e w' ⟨rfl, rfl⟩
        have k1 := Lib.hid (fun (jj : Nat) (u : Value) (h : [Value.int .u8 ((97 + k : Nat) : Int)][jj]? = some u) => cell_one_new wr (.int .u8 ((97 + k : Nat) : Int)) 5 jj u h)
        have k2 : Hid (∀ u ∈ [Value.int .u8 ((97 + k : Nat) : Int)], u.oneCell' = true) := Lib.hid (by intro u hu; simp only [List.mem_singleton] at hu; subst hu; rfl)
        have k3 : Hid (l.length + 1 ≤ maxLen) := Lib.hid (by unfold maxLen; omega)
        have k4 : Hid ((l.length + 1) * 1 ≤ 140737488355328) := Lib.hid (by omega)
        have k5 : Hid (w.heap.size ≤ (wr.alloc (.cells #[.int .u8 ((97 + k : Nat) : Int)] 5)).heap.size) := Lib.hid (by rw [alloc_size]; have := HB.out.size; omega)
        have HO2 : Hid (wr.ownsRow w.heap.size 5 1 vo l.length (l.map bytV)) := Lib.hid HO.out
        go_wp2_with (at_builtin; refine wpList_append_own _ rfl (.tmp 14) (.tmp 17) 22 rfl w.heap.size 5 i0 (.int .u8 0) 1 1 Tryz.underlying22 hii hz0 hz1 hz2 rfl (by decide) _ _ _ rfl (HO2.out.alloc _) ⟨wr.heap.size, 0, none⟩ 1 1 [.int .u8 ((97 + k : Nat) : Int)] rfl rfl k1.out k2.out k3.out k4.out k5.out ?_)
        intro v5 w5 hown5 hgrow5 _
        have hb5 : Below w.heap.size wr w5 := ((Below.refl w.heap.size wr).alloc HB.out.size _).grown hgrow5 k5.out (fun q hq => (World.ownsRow.lt HO.out q hq).1)
        have hown6 : OwnB w5 w.heap.size v5 (txtK x (k + 1)) := by
          rw [txtK_yes HG.out, HL.out]
          refine OwnB.snoc ?_
          rw [letter_at hlt]; exact hown5
        have HB5 := Lib.hid (HB.out.trans hb5)
        have HO5 := Lib.hid hown6
        clear hown5 hgrow5 hb5 hown6 k1 k2 k3 k4 k5 HO HO2 hix
        go_wp2_with fail
        go_roundw
        case rel => exact ⟨k + 1, _, by omega, by go_num, rfl, HO5, HB5⟩
        case measure => simp [intOf]; omega
      | false =>
        have HG := Lib.hid hg; clear hg
        go_wp2_with fail
        refine (hasInt_any _ _ false hk6 _ HG.out).mono ?_
        rintro e w' ⟨rfl, rfl⟩
        have HO5 : Hid (OwnB wr w.heap.size vo (txtK x (k + 1))) := Lib.hid (by rw [txtK_no HG.out]; exact HO.out)
        go_wp2_with fail
        go_roundw
        case rel => exact ⟨k + 1, _, by omega, by go_num, rfl, HO5, HB⟩
        case measure => simp [intOf]; omega
    · have hki : ¬ (k : Int) < 4 := by omega
      have hkn : k = 4 := by omega
      rw [hkn] at HO
      clear hkn hk
      have hxr := okX_iff.1 HX.out
      have hne : txtK x 4 ≠ [] := txtK_4 x ▸ txt_nonempty (by omega) (by omega)
      obtain ⟨g, c, rfl, hcell⟩ := HO.out.cells hne
      have hcv := fun w1 (hc : ∀ j (hj : j < (txtK x 4).length), w1.cell? ((⟨g, 0, none⟩ : Addr).add j) = some (.int .u8 ((txtK x 4)[j].toNat : Int))) => run_convert_bytes_back (P := Tryz.prog) w1 22 9 5 ⟨g, 0, none⟩ c (txtK x 4) Tryz.underlying22 Tryz.underlying5 Tryz.underlying9 hc
      have hcw := hcv wr hcell
      have hset : setT (x : Int) = ⟨(txtK x 4).toArray⟩ := by
        unfold setT
        rw [setL_yes HX.out, Int.toNat_natCast]; rfl
      have HS := Lib.hid hset
      clear hcv hcell hxr hne hset
      go_wp2_with fail
      go_ret
      exact ⟨rets HS.out.symm, HB.out⟩
set_option maxRecDepth 100000 in
theorem SetText_any (x : Int) (w : World) :
    Calls Tryz.prog 58 #[.int .i64 x] w fun e w' => e = .returned (.string (setT x)) ∧ Below w.heap.size w w' := by
  cases hx : okX x with
  | true =>
    obtain ⟨k, rfl⟩ := Int.eq_ofNat_of_zero_le (by have := okX_iff.1 hx; omega : 0 ≤ x)
    exact SetText_in k hx w
  | false =>
    have HX := Lib.hid hx
    have HE : Hid (setT x = { data := #[] }) := Lib.hid (by unfold setT; rw [setL_no hx]; rfl)
    clear hx
    go_enter Tryz.func58, Tryz.ntmps58
    go_wp2_with fail
    refine (pointsOk_val _ false HX.out _).mono ?_
    rintro e w' ⟨rfl, rfl⟩
    go_wp2_with fail
    go_ret
    exact ⟨rets HE.out.symm, Below.refl _ _⟩
theorem cutL (k : Nat) (hk : k < 4) (w : World) : (Instr.slice 9 (.string { data := #[97, 98, 99, 100] }) (some (.int .i64 (k : Int))) (some (.int .i64 ((k : Int) + 1))) none).run Tryz.prog w = .ok (.string (bs [(97 + k).toUInt8])) w := by
  have : k = 0 ∨ k = 1 ∨ k = 2 ∨ k = 3 := by omega
  rcases this with rfl | rfl | rfl | rfl
  · show (Instr.slice 9 (.string { data := #[97, 98, 99, 100] }) (some (.int .i64 0)) (some (.int .i64 1)) none).run Tryz.prog w = .ok (.string (bs [(97 + 0).toUInt8])) w
    kernel_rfl
  · show (Instr.slice 9 (.string { data := #[97, 98, 99, 100] }) (some (.int .i64 1)) (some (.int .i64 2)) none).run Tryz.prog w = .ok (.string (bs [(97 + 1).toUInt8])) w
    kernel_rfl
  · show (Instr.slice 9 (.string { data := #[97, 98, 99, 100] }) (some (.int .i64 2)) (some (.int .i64 3)) none).run Tryz.prog w = .ok (.string (bs [(97 + 2).toUInt8])) w
    kernel_rfl
  · show (Instr.slice 9 (.string { data := #[97, 98, 99, 100] }) (some (.int .i64 3)) (some (.int .i64 4)) none).run Tryz.prog w = .ok (.string (bs [(97 + 3).toUInt8])) w
    kernel_rfl
set_option maxRecDepth 100000 in
theorem specSetText_in (x : Nat) (hx : okX (x : Int) = true) (w : World) :
    Calls Tryz.prog 28 #[.int .i64 (x : Int)] w fun e w' => e = .returned (.string (setT (x : Int))) ∧ w = w' := by
  have HX := Lib.hid hx
  have HIN := Lib.hid (inB_true (l := 1) (x := (x : Int)) (h := 15) (okX_iff.1 hx).1 (okX_iff.1 hx).2)
  have HX0 : Hid ((0 : Int) ≤ (x : Int)) := Lib.hid (by omega)
  clear hx
  have HST : Hid (({ data := #[] } : ByteArray) = bs (txtK x 0)) := Lib.hid rfl
  go_enter Tryz.func28, Tryz.ntmps28
  go_wp2_with fail
  go_loop [3, 4] (fun v i => ∃ (k : Nat) (o : ByteArray), k ≤ 4 ∧ i = .int .i64 k ∧ v = .string o ∧ o.size ≤ 4 ∧ Hid (o = bs (txtK x k))) (fun _ i => 4 - (intOf i).toNat)
  case atStart => exact ⟨0, _, Nat.zero_le _, rfl, rfl, by decide, HST⟩
  case round =>
    clear HST
    obtain ⟨k, o, hk, rfl, rfl, ho, HO⟩ := hrel
    by_cases hlt : k < 4
    · have hki : (k : Int) < 4 := by omega
      have hk6 : k ≤ 63 := by omega
      cases hg : hasB (x : Int) k with
      | true =>
        have HG := Lib.hid hg; clear hg
        have hsl := fun w => cutL k hlt w
        obtain ⟨c, hc⟩ : ∃ c, bs [(97 + k).toUInt8] = c := ⟨_, rfl⟩
        have hcs : c.size ≤ 1 := by rw [← hc]; exact Nat.le_refl _
        have HN : Hid (o ++ c = bs (txtK x (k + 1))) := Lib.hid (by rw [txtK_yes HG.out, HO.out, ← hc, bs_app])
        have hns : (o ++ c).size ≤ 4 := by
          rw [HN.out, bs_size]
          exact Nat.le_trans (txtK_len x (k + 1)) (by omega)
        have HNS := Lib.hid hns
        rw [hc] at hsl
        clear hc hns
        go_wp2_with fail
        refine (l1In_val _ _ _ true _ HIN.out).mono ?_
        rintro e w' ⟨rfl, rfl⟩
        go_wp2_with fail
        refine (l1Has_val _ _ true _ HG.out hk6 HX0.out).mono ?_
        rintro e w' ⟨rfl, rfl⟩
        go_wp2_with fail
        go_round
        case rel => exact ⟨k + 1, _, by omega, by go_num, rfl, HNS.out, HN⟩
        case measure => simp [intOf]; omega
      | false =>
        have HG := Lib.hid hg; clear hg
        have HN : Hid (o = bs (txtK x (k + 1))) := Lib.hid (by rw [txtK_no HG.out, HO.out])
        go_wp2_with fail
        refine (l1In_val _ _ _ true _ HIN.out).mono ?_
        rintro e w' ⟨rfl, rfl⟩
        go_wp2_with fail
        refine (l1Has_val _ _ false _ HG.out hk6 HX0.out).mono ?_
        rintro e w' ⟨rfl, rfl⟩
        go_wp2_with fail
        go_round
        case rel => exact ⟨k + 1, _, by omega, by go_num, rfl, ho, HN⟩
        case measure => simp [intOf]; omega
    · have hki : ¬ (k : Int) < 4 := by omega
      have hkn : k = 4 := by omega
      rw [hkn] at HO
      have HS : Hid (o = setT (x : Int)) := Lib.hid (by
        unfold setT
        rw [HO.out, setL_yes HX.out, Int.toNat_natCast]; rfl)
      clear hkn hk
      go_wp2_with fail
      go_ret
      exact ⟨rets HS.out, rfl⟩
set_option maxRecDepth 100000 in
theorem specSetText_any (x : Int) (w : World) :
    Calls Tryz.prog 28 #[.int .i64 x] w fun e w' => e = .returned (.string (setT x)) ∧ w = w' := by
  cases hx : okX x with
  | true =>
    obtain ⟨k, rfl⟩ := Int.eq_ofNat_of_zero_le (by have := okX_iff.1 hx; omega : 0 ≤ x)
    exact specSetText_in k hx w
  | false =>
    have HIN := Lib.hid (inB_false (l := 1) (x := x) (h := 15) (okX_no.1 hx))
    have HE : Hid (({ data := #[] } : ByteArray) = setT x) := Lib.hid (by unfold setT; rw [setL_no hx]; rfl)
    clear hx
    go_enter Tryz.func28, Tryz.ntmps28
    go_wp2_with fail
    refine wp_loop_rounds 1 ?_
    rw [rounds_succ]
    go_wp2_with fail
    refine (l1In_val _ _ _ false _ HIN.out).mono ?_
    rintro e w' ⟨rfl, rfl⟩
    go_wp2_with fail
    go_ret
    exact ⟨rets HE.out, rfl⟩
theorem ib_no {l : List UInt8} {c : UInt8} (h : l.contains c = false) : Lib.indexByte l c = -1 := by
  induction l with
  | nil => rfl
  | cons b l ih =>
    rw [List.contains_cons, Bool.or_eq_false_iff] at h
    unfold Lib.indexByte
    rw [BEq.comm, h.1, ih h.2]; rfl
theorem ib_yes {l : List UInt8} {c : UInt8} (h : l.contains c = true) : 0 ≤ Lib.indexByte l c := by
  induction l with
  | nil => cases h
  | cons b l ih =>
    rw [List.contains_cons, Bool.or_eq_true] at h
    unfold Lib.indexByte
    cases hb : (b == c) with
    | true => simp
    | false =>
      rw [BEq.comm, hb] at h
      have := ih (by simpa using h)
      have h2 : (Lib.indexByte l c == -1) = false := by simp; omega
      rw [h2]
      simp
      omega
theorem ib_val {l : List UInt8} {c : UInt8} {v : Bool} (h : l.contains c = v) : decide (0 ≤ Lib.indexByte l c) = v := by
  cases v with
  | true => exact decide_eq_true (ib_yes h)
  | false => exact decide_eq_false (by rw [ib_no h]; decide)
set_option maxRecDepth 100000 in
theorem liteIndexByte_any (s : ByteArray) (c : Int) (w : World) :
    Calls Tryz.prog 130 #[.string s, .int .u8 c] w fun e w' => e = .returned (.int .i64 (Lib.indexByte s.data.toList c.toNat.toUInt8)) ∧ w = w' := by
  go_enter Tryz.func130, Tryz.ntmps130
  go_wp2_with fail
  rw [run_callFunc_extern Tryz.func155 (by kernel_rfl) (by kernel_rfl) (by kernel_rfl) (e := Extern.BytealgIndexByte.indexByte) (by kernel_rfl), Lib.run_indexByteString]
  simp only [Result.andThen]
  rw [Oper.upon_value]
  go_wp2_with fail
  go_ret
  exact ⟨rfl, rfl⟩
theorem IndexByte_any (s : ByteArray) (c : Int) (w : World) :
    Calls Tryz.prog 102 #[.string s, .int .u8 c] w fun e w' => e = .returned (.int .i64 (Lib.indexByte s.data.toList c.toNat.toUInt8)) ∧ w = w' := by
  go_enter Tryz.func102, Tryz.ntmps102
  go_wp2_with fail
  refine (liteIndexByte_any _ _ _).mono ?_
  rintro e w' ⟨rfl, rfl⟩
  go_wp2_with fail
  go_ret
  exact ⟨rfl, rfl⟩
def letG (l : List UInt8) (p : Nat) : Bool := l.contains (97 + p).toUInt8
theorem letG_all : ∀ a b c d : Bool, setOf (fun p => if p = 0 then a else if p = 1 then b else if p = 2 then c else d) 4 = (((((if a then 1 else 0) + (if b then 2 else 0)) + ((if c then 4 else 0) + (if d then 8 else 0)) : Nat)) : Int) := by decide +kernel
theorem letG_set (l : List UInt8) : setOf (letG l) 4 = (letN l : Int) := by
  have h := letG_all (l.contains 97) (l.contains 98) (l.contains 99) (l.contains 100)
  unfold letN
  rw [← h]
  apply setOf_congr
  intro i hi
  have : i = 0 ∨ i = 1 ∨ i = 2 ∨ i = 3 := by omega
  rcases this with rfl | rfl | rfl | rfl <;> rfl
theorem IndexByte_at (s : ByteArray) (k : Nat) (hk : k < 4) (v : Bool) (hv : letG s.data.toList k = v) (w : World) :
    Calls Tryz.prog 102 #[.string s, .int .u8 ((97 + k : Nat) : Int)] w fun e w' => ∃ z : Int, e = .returned (.int .i64 z) ∧ decide (0 ≤ z) = v ∧ w = w' := by
  refine (IndexByte_any s _ w).mono ?_
  rintro e w' ⟨rfl, rfl⟩
  exact ⟨_, rfl, ib_val hv, rfl⟩
theorem eqT {s t : ByteArray} : (s.toList == t.toList) = decide (s.data.toList = t.data.toList) := by
  rw [toList_data', toList_data']
  by_cases h : s.data.toList = t.data.toList
  · rw [decide_eq_true h]; simpa using h
  · rw [decide_eq_false h]; simpa using h
set_option maxRecDepth 100000 in
theorem ReadSet_any (s : ByteArray) (w : World) :
    Calls Tryz.prog 106 #[.string s] w fun e w' => e = .returned (.tuple #[.int .i64 (rdI s.data.toList), .bool (rdB s.data.toList)]) ∧ Below w.heap.size w w' := by
  go_enter Tryz.func106, Tryz.ntmps106
  go_wp2_with fail
  go_loop [4, 5, 6] (fun v _ i => ∃ k : Nat, k ≤ 4 ∧ i = .int .i64 k ∧ v = .int .i64 (setOf (letG s.data.toList) k)) (fun _ _ i => 4 - (intOf i).toNat)
  case atStart => exact ⟨0, Nat.zero_le _, rfl, rfl⟩
  case round =>
    obtain ⟨k, hk, rfl, rfl⟩ := hrel
    by_cases hlt : k < 4
    · have hki : (k : Int) < 4 := by omega
      obtain ⟨hp1, hp2⟩ := pow_bounds k (by omega)
      have hix := fun w => idxL k hlt w
      cases hg : letG s.data.toList k with
      | true =>
        have HG := Lib.hid hg
        have HN := Lib.hid (setOf_yes (letG s.data.toList) k hg)
        clear hg
        go_wp2_with fail
        refine (IndexByte_at s k hlt true HG.out _).mono ?_
        rintro e w' ⟨z, rfl, hz, rfl⟩
        go_wp2_with fail
        go_round
        case rel => exact ⟨k + 1, by omega, by go_num, by rw [HN.out]⟩
        case measure => simp [intOf]; omega
      | false =>
        have HG := Lib.hid hg
        have HN := Lib.hid (setOf_no (letG s.data.toList) k hg)
        clear hg
        go_wp2_with fail
        refine (IndexByte_at s k hlt false HG.out _).mono ?_
        rintro e w' ⟨z, rfl, hz, rfl⟩
        go_wp2_with fail
        go_round
        case rel => exact ⟨k + 1, by omega, by go_num, by rw [HN.out]⟩
        case measure => simp [intOf]; omega
    · have hki : ¬ (k : Int) < 4 := by omega
      have hkn : k = 4 := by omega
      have hy : setOf (letG s.data.toList) k = (letN s.data.toList : Int) := by rw [hkn]; exact letG_set _
      rw [hy]
      have hlt := letN_lt s.data.toList
      obtain ⟨y, hy2⟩ : ∃ y, letN s.data.toList = y := ⟨_, rfl⟩
      rw [hy2] at hlt ⊢
      have HY := Lib.hid hy2
      clear hkn hk hy hy2
      by_cases h0 : y = 0
      · have hb : ((y : Int) == 0) = true := by rw [h0]; rfl
        have HR := Lib.hid (rd_no (rdN_zero (l := s.data.toList) (by rw [HY.out, h0])))
        clear h0
        go_wp2_with fail
        go_ret2
        exact ⟨by rw [HR.out.1, HR.out.2] <;> rfl, Below.refl _ _⟩
      · have hb : ((y : Int) == 0) = false := by simpa using h0
        have hx : okX (y : Int) = true := okX_iff.2 (by omega)
        have e1 : (setT (y : Int)).data.toList = txtL y := by unfold setT; rw [bs_data, setL_yes hx, Int.toNat_natCast]
        by_cases ht : txtL y = s.data.toList
        · have hb2 : ((setT (y : Int)).toList == s.toList) = true := by rw [eqT, e1]; exact decide_eq_true ht
          have e2 : rdN s.data.toList = y := by rw [← HY.out]; exact rdN_let (by rw [HY.out]; exact h0) (by rw [HY.out]; exact ht)
          have HR := Lib.hid (rd_yes (l := s.data.toList) (by rw [e2]; exact h0))
          rw [e2] at HR
          clear h0 ht e1 e2 hx
          go_wp2_with fail
          refine (SetText_any _ _).mono ?_
          rintro e w2 ⟨rfl, hb⟩
          have HB := Lib.hid hb
          clear hb
          go_wp2_with fail
          go_ret2
          exact ⟨by rw [HR.out.1, HR.out.2] <;> rfl, HB.out⟩
        · have hb2 : ((setT (y : Int)).toList == s.toList) = false := by rw [eqT, e1]; exact decide_eq_false ht
          have HR := Lib.hid (rd_no (rdN_no (l := s.data.toList) (by rw [HY.out]; exact ht)))
          clear h0 ht e1 hx
          go_wp2_with fail
          refine (SetText_any _ _).mono ?_
          rintro e w2 ⟨rfl, hb⟩
          have HB := Lib.hid hb
          clear hb
          go_wp2_with fail
          go_ret2
          exact ⟨by rw [HR.out.1, HR.out.2] <;> rfl, HB.out⟩
set_option maxRecDepth 100000 in
theorem specReadSet_any (s : ByteArray) (w : World) :
    Calls Tryz.prog 107 #[.string s] w fun e w' => e = .returned (.tuple #[.int .i64 (rdI s.data.toList), .bool (rdB s.data.toList)]) ∧ w = w' := by
  go_enter Tryz.func107, Tryz.ntmps107
  go_wp2_with fail
  go_loop [4] (fun i => ∃ k : Nat, 1 ≤ k ∧ k ≤ 16 ∧ i = .int .i64 k ∧ Hid (∀ j, 1 ≤ j → j < k → txtL j ≠ s.data.toList)) (fun i => 16 - (intOf i).toNat)
  case atStart => exact ⟨1, Nat.le_refl _, by omega, rfl, Lib.hid (fun j h1 h2 => by omega)⟩
  case round =>
    obtain ⟨k, hk1, hk, rfl, HJ⟩ := hrel
    by_cases hlt : k < 16
    · have hki : (k : Int) < 16 := by omega
      have hx : okX (k : Int) = true := okX_iff.2 (by omega)
      have e1 : (setT (k : Int)).data.toList = txtL k := by unfold setT; rw [bs_data, setL_yes hx, Int.toNat_natCast]
      by_cases ht : txtL k = s.data.toList
      · have hb2 : ((setT (k : Int)).toList == s.toList) = true := by rw [eqT, e1]; exact decide_eq_true ht
        have e2 : rdN s.data.toList = k := (rdN_iff hk1 hlt).1 ht
        have HR := Lib.hid (rd_yes (l := s.data.toList) (by rw [e2]; omega))
        rw [e2] at HR
        clear ht e1 e2 hx
        go_wp2_with fail
        refine (specSetText_any _ _).mono ?_
        rintro e w2 ⟨rfl, rfl⟩
        go_wp2_with fail
        go_ret2
        exact ⟨by rw [HR.out.1, HR.out.2] <;> rfl, rfl⟩
      · have hb2 : ((setT (k : Int)).toList == s.toList) = false := by rw [eqT, e1]; exact decide_eq_false ht
        have HT := Lib.hid ht
        clear ht e1 hx
        go_wp2_with fail
        refine (specSetText_any _ _).mono ?_
        rintro e w2 ⟨rfl, rfl⟩
        go_wp2_with fail
        go_round
        case rel =>
          refine ⟨k + 1, by omega, by omega, by go_num, Lib.hid (fun j h1 h2 => ?_)⟩
          by_cases e : j = k
          · rw [e]; exact HT.out
          · exact HJ.out j h1 (by omega)
        case measure => simp [intOf]; omega
    · have hki : ¬ (k : Int) < 16 := by omega
      have HR : Hid (rdI s.data.toList = -1 ∧ rdB s.data.toList = false) := Lib.hid (by
        apply rd_no
        apply Classical.byContradiction
        intro h
        have := rdN_lt s.data.toList
        exact HJ.out (rdN s.data.toList) (by omega) (by omega) (rdN_text h))
      clear hk hk1
      go_wp2_with fail
      go_ret2
      exact ⟨by rw [HR.out.1, HR.out.2] <;> rfl, rfl⟩
def wordsO : Obj := .cells #[.string { data := #[112, 117, 116] }, .string { data := #[116, 97, 107, 101] }, .string { data := #[112, 111, 105, 110, 116, 115] }, .string { data := #[115, 117, 109, 115] }, .string { data := #[98, 97, 99, 107] }] 9
theorem deedWords_any (w : World) :
    Calls Tryz.prog 56 #[] w fun e w' => e = .returned (.slice (some ⟨w.heap.size, 0, none⟩) 5 5) ∧ w' = w.alloc wordsO := by
  go_enter Tryz.func56, Tryz.ntmps56
  go_wp2_with fail
  go_ret
  exact ⟨rfl, rfl⟩
def WordsAt (w : World) (B : Nat) : Prop := ∀ k, k < 5 → w.cell? ⟨B, k, none⟩ = some (.string (bs (wordL k)))
theorem words_new (w : World) : WordsAt (w.alloc wordsO) w.heap.size := by
  intro k hk
  have h : (w.alloc wordsO).heap[w.heap.size]? = some wordsO := heap_alloc_new w _
  have : k = 0 ∨ k = 1 ∨ k = 2 ∨ k = 3 ∨ k = 4 := by omega
  unfold World.cell?
  rw [h]
  rcases this with rfl | rfl | rfl | rfl | rfl <;> rfl
theorem word_size {k : Nat} (hk : k < 5) : (bs (wordL k)).size ≤ 6 := by
  have : k = 0 ∨ k = 1 ∨ k = 2 ∨ k = 3 ∨ k = 4 := by omega
  rcases this with rfl | rfl | rfl | rfl | rfl <;> decide
set_option maxRecDepth 100000 in
theorem DeedText_in (k : Nat) (hk : k < 5) (x : Int) (w : World) :
    Calls Tryz.prog 15 #[.agg #[.int .i64 (k : Int), .int .i64 x]] w fun e w' => e = .returned (.string (deedT (k : Int) x)) ∧ Below w.heap.size w w' := by
  have hbel := alloc_below w (.cells #[.int .i64 (k : Int), .int .i64 x] 39)
  have hblk := Blk2.new w 39 (.int .i64 (k : Int)) (.int .i64 x)
  obtain ⟨w1, hw1⟩ : ∃ w1, w.alloc (.cells #[.int .i64 (k : Int), .int .i64 x] 39) = w1 := ⟨_, rfl⟩
  have hsz : w1.heap.size = w.heap.size + 1 := by rw [← hw1]; exact alloc_size _ _
  have hbel2 : Below w.heap.size w (w1.alloc wordsO) := by
    have := alloc_below w1 wordsO
    rw [hw1] at hbel
    exact below_onto hbel this
  have hblk2 : Blk2 (w1.alloc wordsO) w.heap.size 39 (.int .i64 (k : Int)) (.int .i64 x) := by
    rw [hw1] at hblk
    exact hblk.kept (alloc_below w1 wordsO) (by omega)
  have hwd := words_new w1 k hk
  obtain ⟨w2, hw2⟩ : ∃ w2, w1.alloc wordsO = w2 := ⟨_, rfl⟩
  obtain ⟨Bw, hBw⟩ : ∃ Bw, w1.heap.size = Bw := ⟨_, rfl⟩
  have HW1 := Lib.hid hw1; have HW2 := Lib.hid hw2; have HBW := Lib.hid hBw
  rw [hw2] at hbel2 hblk2 hwd
  rw [hBw] at hwd
  obtain ⟨wd, hwdd⟩ : ∃ wd, bs (wordL k) = wd := ⟨_, rfl⟩
  have hws : wd.size ≤ 6 := by rw [← hwdd]; exact word_size hk
  rw [hwdd] at hwd
  have HWD := Lib.hid hwdd
  obtain ⟨hq0, hq1⟩ := hblk2.cell
  have HB := Lib.hid hbel2
  have HBL := Lib.hid hblk2
  have hk0 : (0 : Int) ≤ (k : Int) := by omega
  have hk5 : (k : Int) < 5 := by omega
  have hd1 : decide ((k : Int) < 0) = false := decide_eq_false (by omega)
  have hd2 : decide ((5 : Int) ≤ (k : Int)) = false := decide_eq_false (by omega)
  clear hbel hblk hsz hw1 hw2 hBw hwdd hbel2 hblk2
  by_cases hnm : k ≤ 1
  · obtain ⟨b0, hb0⟩ : ∃ b, ((k : Int) == 0) = b := ⟨_, rfl⟩
    have hor : ((k : Int) == 0) = true ∨ (((k : Int) == 0) = false ∧ ((k : Int) == 1) = true) := by
      have : k = 0 ∨ k = 1 := by omega
      rcases this with rfl | rfl
      · exact .inl rfl
      · exact .inr ⟨rfl, rfl⟩
    cases hx : okX x with
    | true =>
      have HX := Lib.hid hx
      have HE : Hid (wd ++ { data := #[32] } ++ setT x = deedT (k : Int) x) := Lib.hid (by
        have hd : dOk (k : Int) x = true := dOk_iff.2 (.inl ⟨by omega, by omega, okX_iff.1 hx⟩)
        unfold deedT deedL setT
        rw [if_pos hd, if_pos (by omega), ← HWD.out, Int.toNat_natCast]
        rw [show ({ data := #[32] } : ByteArray) = bs [32] from rfl, bs_app, bs_app, List.append_assoc]; rfl)
      have hss : (setT x).size ≤ 4 := setL_len x
      obtain ⟨st, hst⟩ : ∃ st, setT x = st := ⟨_, rfl⟩
      rw [hst] at hss
      rw [hst] at HE
      have HST := Lib.hid hst
      clear hx hst hnm hb0
      rcases hor with hb | ⟨hb, hb1⟩
      all_goals
        go_enter Tryz.func15, Tryz.ntmps15
        go_wp2_with fail
        rw [HW1.out]
        refine (deedWords_any _).mono ?_
        rintro e w3 ⟨rfl, rfl⟩
        rw [HW2.out, HBW.out]
        go_wp2_with fail
        go_quiet (fail)
        go_wp2_with fail
        refine (pointsOk_val _ true HX.out _).mono ?_
        rintro e w4 ⟨rfl, rfl⟩
        go_wp2_with fail
        refine (SetText_any _ _).mono ?_
        rintro e w5 ⟨rfl, hb5⟩
        rw [HST.out]
        have HB5 := Lib.hid (below_onto (below_drewN HB.out _) hb5)
        clear hb5
        go_wp2_with fail
        go_ret
        exact ⟨rets HE.out, HB5.out⟩
    | false =>
      have HX := Lib.hid hx
      have HE : Hid (({ data := #[] } : ByteArray) = deedT (k : Int) x) := Lib.hid (by
        have hd : dOk (k : Int) x = false := by
          cases h : dOk (k : Int) x with
          | false => rfl
          | true =>
            have h1 := okX_no.1 hx
            have h2 := dOk_iff.1 h
            omega
        unfold deedT
        rw [deedL_no hd]; rfl)
      clear hx hnm hb0
      rcases hor with hb | ⟨hb, hb1⟩
      all_goals
        go_enter Tryz.func15, Tryz.ntmps15
        go_wp2_with fail
        rw [HW1.out]
        refine (deedWords_any _).mono ?_
        rintro e w3 ⟨rfl, rfl⟩
        rw [HW2.out, HBW.out]
        go_wp2_with fail
        go_quiet (fail)
        go_wp2_with fail
        refine (pointsOk_val _ false HX.out _).mono ?_
        rintro e w4 ⟨rfl, rfl⟩
        go_wp2_with fail
        go_ret
        exact ⟨rets HE.out, below_drewN HB.out _⟩
  · have hb0 : ((k : Int) == 0) = false := by simp; omega
    have hb1 : ((k : Int) == 1) = false := by simp; omega
    by_cases hx : x = 0
    · have hbx : (x == 0) = true := by simpa using hx
      have HE : Hid (wd = deedT (k : Int) x) := Lib.hid (by
        have hd : dOk (k : Int) x = true := dOk_iff.2 (.inr ⟨by omega, by omega, hx⟩)
        unfold deedT deedL
        rw [if_pos hd, if_neg (by omega), ← HWD.out, Int.toNat_natCast])
      clear hx hnm
      go_enter Tryz.func15, Tryz.ntmps15
      go_wp2_with fail
      rw [HW1.out]
      refine (deedWords_any _).mono ?_
      rintro e w3 ⟨rfl, rfl⟩
      rw [HW2.out, HBW.out]
      go_wp2_with fail
      go_quiet (fail)
      go_wp2_with fail
      go_ret
      exact ⟨rets HE.out, below_drewN HB.out _⟩
    · have hbx : (x == 0) = false := by simpa using hx
      have HE : Hid (({ data := #[] } : ByteArray) = deedT (k : Int) x) := Lib.hid (by
        have hd : dOk (k : Int) x = false := by
          cases h : dOk (k : Int) x with
          | false => rfl
          | true => have h2 := dOk_iff.1 h; omega
        unfold deedT
        rw [deedL_no hd]; rfl)
      clear hx hnm
      go_enter Tryz.func15, Tryz.ntmps15
      go_wp2_with fail
      rw [HW1.out]
      refine (deedWords_any _).mono ?_
      rintro e w3 ⟨rfl, rfl⟩
      rw [HW2.out, HBW.out]
      go_wp2_with fail
      go_quiet (fail)
      go_wp2_with fail
      go_ret
      exact ⟨rets HE.out, below_drewN HB.out _⟩
set_option maxRecDepth 100000 in
theorem DeedText_any (k x : Int) (w : World) :
    Calls Tryz.prog 15 #[.agg #[.int .i64 k, .int .i64 x]] w fun e w' => e = .returned (.string (deedT k x)) ∧ Below w.heap.size w w' := by
  by_cases hk : 0 ≤ k ∧ k < 5
  · obtain ⟨n, rfl⟩ := Int.eq_ofNat_of_zero_le hk.1
    exact DeedText_in n (by omega) x w
  · have HE : Hid (({ data := #[] } : ByteArray) = deedT k x) := Lib.hid (by
      have hd : dOk k x = false := by
        cases h : dOk k x with
        | false => rfl
        | true => have h2 := dOk_iff.1 h; omega
      unfold deedT
      rw [deedL_no hd]; rfl)
    have hbel := alloc_below w (.cells #[.int .i64 k, .int .i64 x] 39)
    have hblk := Blk2.new w 39 (.int .i64 k) (.int .i64 x)
    obtain ⟨w1, hw1⟩ : ∃ w1, w.alloc (.cells #[.int .i64 k, .int .i64 x] 39) = w1 := ⟨_, rfl⟩
    have hsz : w1.heap.size = w.heap.size + 1 := by rw [← hw1]; exact alloc_size _ _
    rw [hw1] at hbel hblk
    have hbel2 := below_onto hbel (alloc_below w1 wordsO)
    have hblk2 := hblk.kept (alloc_below w1 wordsO) (show w.heap.size < w1.heap.size by omega)
    obtain ⟨w2, hw2⟩ : ∃ w2, w1.alloc wordsO = w2 := ⟨_, rfl⟩
    have HW1 := Lib.hid hw1; have HW2 := Lib.hid hw2
    rw [hw2] at hbel2 hblk2
    obtain ⟨hq0, hq1⟩ := hblk2.cell
    have HB := Lib.hid hbel2
    clear hbel hblk hsz hw1 hw2 hbel2 hblk2
    by_cases h0 : k < 0
    · have hd1 : decide (k < 0) = true := decide_eq_true h0
      clear h0 hk
      go_enter Tryz.func15, Tryz.ntmps15
      go_wp2_with fail
      rw [HW1.out]
      refine (deedWords_any _).mono ?_
      rintro e w3 ⟨rfl, rfl⟩
      rw [HW2.out]
      go_wp2_with fail
      go_ret
      exact ⟨rets HE.out, HB.out⟩
    · have hd1 : decide (k < 0) = false := decide_eq_false h0
      have hd2 : decide ((5 : Int) ≤ k) = true := decide_eq_true (by omega)
      clear h0 hk
      go_enter Tryz.func15, Tryz.ntmps15
      go_wp2_with fail
      rw [HW1.out]
      refine (deedWords_any _).mono ?_
      rintro e w3 ⟨rfl, rfl⟩
      rw [HW2.out]
      go_wp2_with fail
      go_ret
      exact ⟨rets HE.out, HB.out⟩
theorem eqDeedV (p q p' q' : Int) (w : World) : (binOp .eql 39 (.agg #[.int .i64 p, .int .i64 q]) (.agg #[.int .i64 p', .int .i64 q'])).run Tryz.prog w = .ok (.bool (p == p' && q == q')) w := by
  have u3 := Tryz.underlying3
  have hS : Tryz.prog.underlying 39 = some (.struct (Tryz.prog.fieldsOf 39)) := by kernel_rfl
  have hp : Tryz.prog.stoodInHeld 39 = false := by kernel_rfl
  rw [run_eql_struct, show (10000 : Nat) = 9999 + 1 from rfl, run_equalIn_agg w 9999 39 _ _ hS hp]
  simp only [Program.fieldsOf, Tryz.underlying39]
  go_simp
  by_cases h1 : p = p' <;> by_cases h2 : q = q' <;> simp [h1, h2]
theorem eqDeedV_val (p q p' q' : Int) (v : Bool) (hv : (p == p' && q == q') = v) (w : World) : (binOp .eql 39 (.agg #[.int .i64 p, .int .i64 q]) (.agg #[.int .i64 p', .int .i64 q'])).run Tryz.prog w = .ok (.bool v) w := by
  subst hv; exact eqDeedV p q p' q' w
theorem setT_emp {x : Int} (h : okX x = true) : (setT x).toList.isEmpty = false := by
  rw [toList_data']
  unfold setT
  rw [bs_data]
  cases hl : setL x with
  | nil => exact absurd hl (setL_ne h)
  | cons a l => rfl
theorem setT_emp' {x : Int} (h : okX x = false) : (setT x).toList.isEmpty = true := by
  rw [toList_data']
  unfold setT
  rw [bs_data, setL_no h]; rfl
set_option maxRecDepth 100000 in
theorem specDeedText_any (k x : Int) (w : World) :
    Calls Tryz.prog 99 #[.agg #[.int .i64 k, .int .i64 x]] w fun e w' => e = .returned (.string (deedT k x)) ∧ Below w.heap.size w w' := by
  have hbel := alloc_below w (.cells #[.int .i64 k, .int .i64 x] 39)
  have hblk := Blk2.new w 39 (.int .i64 k) (.int .i64 x)
  obtain ⟨w1, hw1⟩ : ∃ w1, w.alloc (.cells #[.int .i64 k, .int .i64 x] 39) = w1 := ⟨_, rfl⟩
  have HW1 := Lib.hid hw1
  rw [hw1] at hbel hblk
  obtain ⟨hq0, hq1⟩ := hblk.cell
  have HB := Lib.hid hbel
  clear hbel hblk hw1
  have e2 := fun (j : Int) (v : Bool) (hv : (k == j && x == 0) = v) (w : World) => eqDeedV_val k x j 0 v hv w
  have HE2 := Lib.hid e2
  clear e2
  by_cases hd : dOk k x = true
  · have hd2 := dOk_iff.1 hd
    rcases hd2 with ⟨h1, h2, h3, h4⟩ | ⟨h1, h2, h3⟩
    · have hx : okX x = true := okX_iff.2 ⟨h3, h4⟩
      have hss : (setT x).size ≤ 4 := setL_len x
      have hemp := setT_emp hx
      have HE : Hid (bs (wordL k.toNat ++ [32]) ++ setT x = deedT k x) := Lib.hid (by
        unfold deedT deedL setT
        rw [if_pos hd, if_pos (by omega), bs_app, List.append_assoc]; rfl)
      obtain ⟨st, hst⟩ : ∃ st, setT x = st := ⟨_, rfl⟩
      rw [hst] at hss hemp HE
      have HST := Lib.hid hst
      clear hst hx
      have hor : k = 0 ∨ k = 1 := by omega
      clear hd h1 h2 h3 h4
      rcases hor with rfl | rfl
      · go_enter Tryz.func99, Tryz.ntmps99
        go_wp2_with fail
        rw [HW1.out]
        refine (specSetText_any _ _).mono ?_
        rintro e w5 ⟨rfl, rfl⟩
        rw [HST.out]
        go_wp2_with fail
        refine (specSetText_any _ _).mono ?_
        rintro e w5 ⟨rfl, rfl⟩
        rw [HST.out]
        go_wp2_with fail
        go_ret
        exact ⟨rets HE.out, HB.out⟩
      · go_enter Tryz.func99, Tryz.ntmps99
        go_wp2_with fail
        rw [HW1.out]
        refine (specSetText_any _ _).mono ?_
        rintro e w5 ⟨rfl, rfl⟩
        rw [HST.out]
        go_wp2_with fail
        refine (specSetText_any _ _).mono ?_
        rintro e w5 ⟨rfl, rfl⟩
        rw [HST.out]
        go_wp2_with fail
        go_ret
        exact ⟨rets HE.out, HB.out⟩
    · have HE : Hid (bs (wordL k.toNat) = deedT k x) := Lib.hid (by
        unfold deedT deedL
        rw [if_pos hd, if_neg (by omega)])
      have hor : k = 2 ∨ k = 3 ∨ k = 4 := by omega
      clear hd h1 h2
      subst h3
      rcases hor with rfl | rfl | rfl
      · have g2 := HE2.out 2 true rfl
        go_enter Tryz.func99, Tryz.ntmps99
        go_wp2_with fail
        go_ret
        exact ⟨rets HE.out, by rw [HW1.out]; exact HB.out⟩
      · have g2 := HE2.out 2 false rfl
        have g3 := HE2.out 3 true rfl
        go_enter Tryz.func99, Tryz.ntmps99
        go_wp2_with fail
        go_ret
        exact ⟨rets HE.out, by rw [HW1.out]; exact HB.out⟩
      · have g2 := HE2.out 2 false rfl
        have g3 := HE2.out 3 false rfl
        have g4 := HE2.out 4 true rfl
        go_enter Tryz.func99, Tryz.ntmps99
        go_wp2_with fail
        go_ret
        exact ⟨rets HE.out, by rw [HW1.out]; exact HB.out⟩
  · have hd' : dOk k x = false := by simpa using hd
    have hn := fun h => hd (dOk_iff.2 h)
    have HE : Hid (({ data := #[] } : ByteArray) = deedT k x) := Lib.hid (by unfold deedT; rw [deedL_no hd']; rfl)
    have g2 := HE2.out 2 false (by
      rw [Bool.and_eq_false_iff]
      by_cases h : k = 2
      · right; simp; intro e; exact hn (by omega)
      · left; simpa using h)
    have g3 := HE2.out 3 false (by
      rw [Bool.and_eq_false_iff]
      by_cases h : k = 3
      · right; simp; intro e; exact hn (by omega)
      · left; simpa using h)
    have g4 := HE2.out 4 false (by
      rw [Bool.and_eq_false_iff]
      by_cases h : k = 4
      · right; simp; intro e; exact hn (by omega)
      · left; simpa using h)
    by_cases h0 : k = 0
    · have hx : okX x = false := okX_no.2 (fun h => hn (by omega))
      have hemp := setT_emp' hx
      have hb1 : (k == 0) = true := by simpa using h0
      have hb2 : (k == 1) = false := by simp; omega
      clear hd hd' hn h0 hx
      go_enter Tryz.func99, Tryz.ntmps99
      go_wp2_with fail
      rw [HW1.out]
      refine (specSetText_any _ _).mono ?_
      rintro e w5 ⟨rfl, rfl⟩
      go_wp2_with fail
      go_ret
      exact ⟨rets HE.out, HB.out⟩
    · by_cases h1 : k = 1
      · have hx : okX x = false := okX_no.2 (fun h => hn (by omega))
        have hemp := setT_emp' hx
        have hb1 : (k == 0) = false := by simpa using h0
        have hb2 : (k == 1) = true := by simpa using h1
        clear hd hd' hn h0 h1 hx
        go_enter Tryz.func99, Tryz.ntmps99
        go_wp2_with fail
        rw [HW1.out]
        refine (specSetText_any _ _).mono ?_
        rintro e w5 ⟨rfl, rfl⟩
        go_wp2_with fail
        go_ret
        exact ⟨rets HE.out, HB.out⟩
      · have hb1 : (k == 0) = false := by simpa using h0
        have hb2 : (k == 1) = false := by simpa using h1
        clear hd hd' hn h0 h1
        go_enter Tryz.func99, Tryz.ntmps99
        go_wp2_with fail
        go_ret
        exact ⟨rets HE.out, by rw [HW1.out]; exact HB.out⟩
theorem ib_rng (l : List UInt8) (c : UInt8) : -1 ≤ Lib.indexByte l c ∧ Lib.indexByte l c < l.length := by
  refine ⟨Lib.indexByte_ge l c, ?_⟩
  induction l with
  | nil => show (-1 : Int) < 0; omega
  | cons b l ih =>
    unfold Lib.indexByte
    rw [List.length_cons]
    split
    · omega
    · split <;> omega
set_option maxRecDepth 100000 in
/-- the first place of a text of one byte -/
theorem liteIndex_one (s : ByteArray) (c : UInt8) (w : World) :
    Calls Tryz.prog 156 #[.string s, .string { data := #[c] }] w fun e w' => e = .returned (.int .i64 (Lib.indexByte s.data.toList c)) ∧ w = w' := by
  have hix : ∀ w, (Instr.index 9 (.string { data := #[c] }) (.int .i64 0)).run Tryz.prog w = .ok (.int .u8 (c.toNat : Int)) w := fun w => by
    rw [run_index_string (P := Tryz.prog) w 9 _ _ _ Tryz.underlying9, dif_pos ⟨by omega, by show (0 : Int) < 1; omega⟩]
    rfl
  by_cases h : s.data.toList = [c]
  · have hb : (({ data := #[c] } : ByteArray).toList == s.toList) = true := by rw [eqT]; exact decide_eq_true (by rw [h])
    have hb2 : ([c] == s.toList) = true := by rw [toList_data', h]; simp
    have HE : Hid (Lib.indexByte s.data.toList c = 0) := Lib.hid (by rw [h]; simp [Lib.indexByte])
    clear h
    go_enter Tryz.func156, Tryz.ntmps156
    go_wp2_with fail
    go_ret
    exact ⟨reti HE.out.symm, rfl⟩
  · have hb : (({ data := #[c] } : ByteArray).toList == s.toList) = false := by rw [eqT]; exact decide_eq_false (fun e => h e.symm)
    have hb2 : ([c] == s.toList) = false := by
      rw [toList_data']
      cases hh : ([c] == s.data.toList) with
      | false => rfl
      | true => exact absurd (beq_iff_eq.1 hh).symm h
    clear h
    go_enter Tryz.func156, Tryz.ntmps156
    go_wp2_with fail
    refine (liteIndexByte_any _ _ _).mono ?_
    rintro e w' ⟨rfl, rfl⟩
    go_wp2_with fail
    go_ret
    exact ⟨reti (by simp), rfl⟩
theorem cutB1 {s : ByteArray} {i : Nat} (h : Lib.indexByte s.data.toList 32 = i) : s.extract 0 i = bs (cut1 s.data.toList) ∧ s.extract (i + 1) s.size = bs (cut2 s.data.toList) := by
  have h0 : ¬ Lib.indexByte s.data.toList 32 < 0 := by omega
  refine ⟨list_inj ?_, list_inj ?_⟩
  · rw [Lib.extract_data, bs_data]
    unfold cut1
    rw [if_neg h0, h, Int.toNat_natCast, List.drop_zero, Nat.sub_zero]
  · rw [Lib.extract_to_end, bs_data]
    unfold cut2
    rw [if_neg h0, h, Int.toNat_natCast]
def CutEnd (s : ByteArray) (w : World) (e : Ending) (w' : World) : Prop := ∃ b, e = .returned (.tuple #[.string (bs (cut1 s.data.toList)), .string (bs (cut2 s.data.toList)), .bool b]) ∧ Drew w w'
set_option maxRecDepth 100000 in
theorem liteCut_space (s : ByteArray) (hs : s.size ≤ 1099511627776) (w : World) :
    Calls Tryz.prog 132 #[.string s, .string { data := #[32] }] w (CutEnd s w) := by
  have hr := ib_rng s.data.toList 32
  rw [← Lib.size_eq] at hr
  by_cases h0 : Lib.indexByte s.data.toList 32 < 0
  · have hd : decide (0 ≤ Lib.indexByte s.data.toList 32) = false := decide_eq_false (by omega)
    have HE : Hid (s = bs (cut1 s.data.toList) ∧ ({ data := #[] } : ByteArray) = bs (cut2 s.data.toList)) := Lib.hid (by
      unfold cut1 cut2
      rw [if_pos h0, if_pos h0]
      exact ⟨rfl, rfl⟩)
    clear hr h0
    go_enter Tryz.func132, Tryz.ntmps132
    go_wp2_with fail
    refine (liteIndex_one s 32 _).mono ?_
    rintro e w' ⟨rfl, rfl⟩
    go_wp2_with fail
    go_ret3
    exact ⟨false, by rw [← HE.out.1, ← HE.out.2]; rfl, Drew.refl _⟩
  · obtain ⟨i, hi⟩ : ∃ i : Nat, Lib.indexByte s.data.toList 32 = i := ⟨(Lib.indexByte s.data.toList 32).toNat, by omega⟩
    have HE := Lib.hid (cutB1 hi)
    rw [hi] at hr
    have HI := Lib.hid hi
    have c0 : (0 : Int) ≤ (i : Int) := by omega
    have c1 : (i : Int) ≤ (s.size : Int) := by omega
    have c2 : (0 : Int) ≤ (i : Int) + 1 := by omega
    have c3 : (i : Int) + 1 ≤ (s.size : Int) := by omega
    clear hr h0 hi
    go_enter Tryz.func132, Tryz.ntmps132
    go_wp2_with fail
    refine (liteIndex_one s 32 _).mono ?_
    rintro e w' ⟨rfl, rfl⟩
    rw [HI.out]
    go_wp2_with fail
    go_quiet (fail)
    go_wp2_with fail
    go_ret3
    exact ⟨true, by rw [← HE.out.1, ← HE.out.2]; rfl, ⟨_, rfl⟩⟩
theorem Cut_space (s : ByteArray) (hs : s.size ≤ 1099511627776) (w : World) :
    Calls Tryz.prog 104 #[.string s, .string { data := #[32] }] w (CutEnd s w) := by
  go_enter Tryz.func104, Tryz.ntmps104
  go_wp2_with fail
  refine (liteCut_space s hs _).mono ?_
  rintro e w' ⟨b, rfl, hd⟩
  have HD := Lib.hid hd
  clear hd
  go_wp2_with fail
  go_ret3
  exact ⟨b, rfl, HD.out⟩
theorem idxW_at {l : List UInt8} {k : Nat} (hk : k < 5) (h : l = wordL k) : idxW l = k := by
  subst h
  have : k = 0 ∨ k = 1 ∨ k = 2 ∨ k = 3 ∨ k = 4 := by omega
  rcases this with rfl | rfl | rfl | rfl | rfl <;> decide
theorem idxW_none {l : List UInt8} (h : ∀ k, k < 5 → l ≠ wordL k) : idxW l = -1 := by
  unfold idxW
  rw [if_neg (h 0 (by omega)), if_neg (h 1 (by omega)), if_neg (h 2 (by omega)), if_neg (h 3 (by omega)), if_neg (h 4 (by omega))]
set_option maxRecDepth 100000 in
theorem IndexWord_any (B c : Nat) (s : ByteArray) (w : World) (hw : WordsAt w B) :
    Calls Tryz.prog 105 #[.slice (some ⟨B, 0, none⟩) 5 c, .string s] w fun e w' => e = .returned (.int .i64 (idxW s.data.toList)) ∧ w = w' := by
  have HW := Lib.hid hw; clear hw
  go_enter Tryz.func105, Tryz.ntmps105
  go_wp2_with fail
  go_loop [5, 8] (fun _ i => ∃ k : Nat, k ≤ 5 ∧ i = .int .i64 k ∧ Hid (∀ j, j < k → s.data.toList ≠ wordL j)) (fun _ i => 5 - (intOf i).toNat)
  case atStart => exact ⟨0, Nat.zero_le _, rfl, Lib.hid (fun j hj => by omega)⟩
  case round =>
    obtain ⟨k, hk, rfl, HJ⟩ := hrel
    by_cases hlt : k < 5
    · have hki : (k : Int) < 5 := by omega
      have hk0 : (0 : Int) ≤ (k : Int) := by omega
      have hc := HW.out k hlt
      by_cases he : s.data.toList = wordL k
      · have hb : (s.toList == (bs (wordL k)).toList) = true := by rw [eqT]; exact decide_eq_true he
        have HE := Lib.hid (idxW_at hlt he)
        obtain ⟨wd, hwd⟩ : ∃ wd, bs (wordL k) = wd := ⟨_, rfl⟩
        rw [hwd] at hb hc
        clear he hwd
        go_wp2_with fail
        go_ret
        exact ⟨reti HE.out.symm, rfl⟩
      · have hb : (s.toList == (bs (wordL k)).toList) = false := by rw [eqT]; exact decide_eq_false he
        have HE := Lib.hid he
        obtain ⟨wd, hwd⟩ : ∃ wd, bs (wordL k) = wd := ⟨_, rfl⟩
        rw [hwd] at hb hc
        clear he hwd
        go_wp2_with fail
        go_round
        case rel =>
          refine ⟨k + 1, by omega, by go_num, Lib.hid (fun j hj => ?_)⟩
          by_cases e : j = k
          · rw [e]; exact HE.out
          · exact HJ.out j (by omega)
        case measure => simp [intOf]; omega
    · have hki : ¬ (k : Int) < 5 := by omega
      have hkn : k = 5 := by omega
      rw [hkn] at HJ
      have HE := Lib.hid (idxW_none HJ.out)
      clear hkn hk
      go_wp2_with fail
      go_ret
      exact ⟨reti HE.out.symm, rfl⟩
def rdK (l : List UInt8) : Int := match rdD l with | some d => d.1 | none => 0
def rdY (l : List UInt8) : Int := match rdD l with | some d => d.2 | none => 0
def rdDB (l : List UInt8) : Bool := (rdD l).isSome
theorem rdD_is {l : List UInt8} {k x : Int} (h : rdD l = some (k, x)) : rdK l = k ∧ rdY l = x ∧ rdDB l = true := by unfold rdK rdY rdDB; rw [h]; exact ⟨rfl, rfl, rfl⟩
theorem rdD_no {l : List UInt8} (h : rdD l = none) : rdK l = 0 ∧ rdY l = 0 ∧ rdDB l = false := by unfold rdK rdY rdDB; rw [h]; exact ⟨rfl, rfl, rfl⟩
def RdEnd (l : List UInt8) (w : World) (e : Ending) (w' : World) : Prop := e = .returned (.tuple #[.agg #[.int .i64 (rdK l), .int .i64 (rdY l)], .bool (rdDB l)]) ∧ Below w.heap.size w w'
theorem results_deed {fn : Func} {p u : Tmp} (h : fn.results = #[.cell p 39, .tmp u]) (tmps : Array Value) (w : World) (B : Nat) {x y z : Value} (hB : Blk2 w B 39 x y) (hp : tmps.getD p undef = .pointer (some ⟨B, 0, none⟩)) (hu : tmps.getD u undef = z)
    (hi : (Tryz.prog.info? 39).map (·.size) = some 2) :
    (results fn tmps).run Tryz.prog w = .ok (.tuple #[.agg #[x, y], z]) w := by
  rw [results_cell_tmp h, hp, hu]
  simp [asAddr, run_loadVar_row w B _ _ _ _ _ hB Tryz.underlying39 rfl hi, Result.andThen]
set_option maxRecDepth 100000 in
theorem ReadDeed_any (s : ByteArray) (hs : s.size ≤ 1099511627776) (w : World) :
    Calls Tryz.prog 46 #[.string s] w (RdEnd s.data.toList w) := by
  have hbel1 := alloc_below w (.cells #[.int .i64 0, .int .i64 0] 39)
  have hblk1 := Blk2.new w 39 (.int .i64 0) (.int .i64 0)
  have hsz1 := alloc_size w (.cells #[.int .i64 0, .int .i64 0] 39)
  have HBEL := Lib.hid hbel1; have HBLK := Lib.hid hblk1; have HSZ := Lib.hid hsz1
  clear hbel1 hblk1 hsz1
  go_enter Tryz.func46, Tryz.ntmps46
  go_wp2_with fail
  refine (Cut_space s hs _).mono ?_
  rintro e w2 ⟨b0, rfl, hd⟩
  replace HBLK := Lib.hid (HBLK.out.kept hd.below (by rw [alloc_size]; omega))
  replace HBEL := Lib.hid (below_onto HBEL.out hd.below)
  have HSZ2 := Lib.hid (show w2.heap.size = w.heap.size + 1 by obtain ⟨m, rfl⟩ := hd; exact HSZ.out)
  clear hd HSZ
  obtain ⟨c1, hc1⟩ : ∃ c1, bs (cut1 s.data.toList) = c1 := ⟨_, rfl⟩
  obtain ⟨c2, hc2⟩ : ∃ c2, bs (cut2 s.data.toList) = c2 := ⟨_, rfl⟩
  rw [hc1, hc2]
  have HC1 := Lib.hid (show c1.data.toList = cut1 s.data.toList by rw [← hc1]; rfl)
  have HC2 := Lib.hid (show c2.data.toList = cut2 s.data.toList by rw [← hc2]; rfl)
  clear hc1 hc2
  go_wp2_with fail
  refine (deedWords_any _).mono ?_
  rintro e w3 ⟨rfl, hw3⟩
  have HW := Lib.hid (show WordsAt w3 w2.heap.size by rw [hw3]; exact words_new w2)
  have hb3 : Below w2.heap.size w2 w3 := by rw [hw3]; exact alloc_below w2 _
  have HSZ3 := Lib.hid (show w3.heap.size = w.heap.size + 2 by rw [hw3, alloc_size, HSZ2.out])
  replace HBLK := Lib.hid (HBLK.out.kept hb3 HBLK.out.lt)
  replace HBEL := Lib.hid (below_onto HBEL.out hb3)
  clear hw3 hb3
  go_wp2_with fail
  refine (IndexWord_any _ _ c1 _ HW.out).mono ?_
  rintro e w' ⟨rfl, rfl⟩
  rw [HC1.out]
  have HP := Lib.hid (rdD_parts s.data.toList)
  have hzr := idxW_rng (cut1 s.data.toList)
  obtain ⟨z, hz⟩ : ∃ z, idxW (cut1 s.data.toList) = z := ⟨_, rfl⟩
  rw [hz] at HP hzr ⊢
  clear hz
  have hbel4 := alloc_below w3 (.cells #[.int .i64 z, .int .i64 0] 39)
  have HBLA := Lib.hid (Blk2.new w3 39 (.int .i64 z) (.int .i64 0))
  have HSZ4 := Lib.hid (show (w3.alloc (.cells #[.int .i64 z, .int .i64 0] 39)).heap.size = w.heap.size + 3 by rw [alloc_size, HSZ3.out])
  replace HBLK := Lib.hid (HBLK.out.kept hbel4 HBLK.out.lt)
  replace HBEL := Lib.hid (below_onto HBEL.out hbel4)
  obtain ⟨w4, hw4⟩ : ∃ w4, w3.alloc (.cells #[.int .i64 z, .int .i64 0] 39) = w4 := ⟨_, rfl⟩
  obtain ⟨A, hA⟩ : ∃ A, w3.heap.size = A := ⟨_, rfl⟩
  rw [hw4] at HBLA HSZ4 HBLK HBEL
  rw [hA] at HBLA HSZ3
  have HW4 := Lib.hid hw4; have HA := Lib.hid hA
  clear hbel4 hw4 hA HW
  go_wp2_with fail
  rw [HW4.out, HA.out]
  clear HW4 HA HSZ2
  refine (ReadSet_any c2 _).mono ?_
  rintro e w5 ⟨rfl, hb5⟩
  replace HBLK := Lib.hid (HBLK.out.kept hb5 HBLK.out.lt)
  replace HBEL := Lib.hid (below_onto HBEL.out hb5)
  replace HBLA := Lib.hid (HBLA.out.kept hb5 HBLA.out.lt)
  rw [HC2.out]
  have HX : Hid (rdX (cut2 s.data.toList) = if rdB (cut2 s.data.toList) then rdI (cut2 s.data.toList) else 0) := Lib.hid rfl
  clear hb5 HSZ4
  -- the desk's two ways meet: the set is the one that was read, or none
  have HK : Hid (∀ W, Blk2 W A 39 (.int .i64 z) (.int .i64 (rdX (cut2 s.data.toList))) → Blk2 W w.heap.size 39 (.int .i64 0) (.int .i64 0) → Below w.heap.size w W →
      Calls Tryz.prog 15 #[.agg #[.int .i64 z, .int .i64 (rdX (cut2 s.data.toList))]] W fun e w' => e = .returned (.string (deedT z (rdX (cut2 s.data.toList)))) ∧ Blk2 w' A 39 (.int .i64 z) (.int .i64 (rdX (cut2 s.data.toList))) ∧ Blk2 w' w.heap.size 39 (.int .i64 0) (.int .i64 0) ∧ Below w.heap.size w w') := Lib.hid (by
    intro W h1 h2 h3
    refine (DeedText_any _ _ W).mono ?_
    rintro e w' ⟨rfl, hb⟩
    exact ⟨rfl, h1.kept hb h1.lt, h2.kept hb h2.lt, below_onto h3 hb⟩)
  have HNE := Lib.hid (show w.heap.size ≠ A by have := HSZ3.out; omega)
  have HAB := Lib.hid (show w.heap.size ≤ A by have := HSZ3.out; omega)
  have HEQ := Lib.hid (show ((deedT z (rdX (cut2 s.data.toList))).toList == s.toList) = decide (deedL z (rdX (cut2 s.data.toList)) = s.data.toList) from eqT)
  obtain ⟨x, hx⟩ : ∃ x, rdX (cut2 s.data.toList) = x := ⟨_, rfl⟩
  rw [hx] at HP HX HK HEQ
  clear hx
  obtain ⟨r, hr⟩ : ∃ r, rdI (cut2 s.data.toList) = r := ⟨_, rfl⟩
  rw [hr] at HX ⊢
  clear hr HC1 HC2 HSZ3
  cases hb : rdB (cut2 s.data.toList) with
  | false =>
    have hx0 : x = 0 := by rw [HX.out, hb]; rfl
    subst hx0
    obtain ⟨hq0, hq1⟩ := HBLA.out.cell
    clear hb HX
    by_cases h0 : z < 0
    · have hd0 : decide (z < 0) = true := decide_eq_true h0
      have hR : rdD s.data.toList = none := by
        rcases HP.out with h | h
        · exact h.2
        · omega
      have HR := Lib.hid (rdD_no hR)
      have hf0 := HBLK.out.frozen 0; have hf1 := HBLK.out.frozen 1
      obtain ⟨hr0, hr1⟩ := HBLK.out.cell
      clear hR h0
      go_wp2_with fail
      refine bodyPost_ret (results_deed rfl _ _ w.heap.size ((HBLK.out.set0 (.int .i64 0)).set1 (.int .i64 0)) rfl rfl (by kernel_rfl)) rfl ?_
      exact ⟨by rw [HR.out.1, HR.out.2.1, HR.out.2.2] <;> rfl, (HBEL.out.setCell (p := ⟨w.heap.size, 0, none⟩) (Nat.le_refl _) _).setCell (p := ⟨w.heap.size, 1, none⟩) (Nat.le_refl _) _⟩
    · have hd0 : decide (z < 0) = false := decide_eq_false h0
      by_cases ht : deedL z 0 = s.data.toList
      · have hbt : ((deedT z 0).toList == s.toList) = true := by rw [HEQ.out]; exact decide_eq_true ht
        have hR : rdD s.data.toList = some (z, 0) := by
          rcases HP.out with ⟨h | h, _⟩ | h
          · omega
          · exact absurd ht h
          · exact h.2.2
        have HR := Lib.hid (rdD_is hR)
        clear hR h0 ht
        go_wp2_with fail
        refine (HK.out _ HBLA.out HBLK.out HBEL.out).mono ?_
        rintro e w6 ⟨rfl, h1, h2, h3⟩
        have HBLA := Lib.hid h1; have HBLK := Lib.hid h2; have HBEL := Lib.hid h3
        obtain ⟨hq0, hq1⟩ := h1.cell
        obtain ⟨hr0, hr1⟩ := h2.cell
        have hf0 := HBLK.out.frozen 0; have hf1 := HBLK.out.frozen 1
        clear h1 h2 h3
        go_wp2_with fail
        refine bodyPost_ret (results_deed rfl _ _ w.heap.size ((HBLK.out.set0 (.int .i64 z)).set1 (.int .i64 0)) rfl rfl (by kernel_rfl)) rfl ?_
        exact ⟨by rw [HR.out.1, HR.out.2.1, HR.out.2.2] <;> rfl, (HBEL.out.setCell (p := ⟨w.heap.size, 0, none⟩) (Nat.le_refl _) _).setCell (p := ⟨w.heap.size, 1, none⟩) (Nat.le_refl _) _⟩
      · have hbt : ((deedT z 0).toList == s.toList) = false := by rw [HEQ.out]; exact decide_eq_false ht
        have hR : rdD s.data.toList = none := by
          rcases HP.out with h | h
          · exact h.2
          · exact absurd h.2.1 ht
        have HR := Lib.hid (rdD_no hR)
        clear hR h0 ht
        go_wp2_with fail
        refine (HK.out _ HBLA.out HBLK.out HBEL.out).mono ?_
        rintro e w6 ⟨rfl, h1, h2, h3⟩
        have HBLA := Lib.hid h1; have HBLK := Lib.hid h2; have HBEL := Lib.hid h3
        obtain ⟨hr0, hr1⟩ := h2.cell
        have hf0 := HBLK.out.frozen 0; have hf1 := HBLK.out.frozen 1
        clear h1 h2 h3
        go_wp2_with fail
        refine bodyPost_ret (results_deed rfl _ _ w.heap.size ((HBLK.out.set0 (.int .i64 0)).set1 (.int .i64 0)) rfl rfl (by kernel_rfl)) rfl ?_
        exact ⟨by rw [HR.out.1, HR.out.2.1, HR.out.2.2] <;> rfl, (HBEL.out.setCell (p := ⟨w.heap.size, 0, none⟩) (Nat.le_refl _) _).setCell (p := ⟨w.heap.size, 1, none⟩) (Nat.le_refl _) _⟩
  | true =>
    have hx0 : r = x := by rw [HX.out, hb]; rfl
    subst hx0
    obtain ⟨hq0, hq1⟩ := HBLA.out.cell
    have hg0 := HBLA.out.frozen 0; have hg1 := HBLA.out.frozen 1
    have HBLA2 := Lib.hid (HBLA.out.set1 (.int .i64 r))
    have HBLK2 := Lib.hid (HBLK.out.other HNE.out 1 (.int .i64 r))
    have HBEL2 := Lib.hid (HBEL.out.setCell (p := ⟨A, 1, none⟩) HAB.out (.int .i64 r))
    clear hb HX
    by_cases h0 : z < 0
    · have hd0 : decide (z < 0) = true := decide_eq_true h0
      have hR : rdD s.data.toList = none := by
        rcases HP.out with h | h
        · exact h.2
        · omega
      have HR := Lib.hid (rdD_no hR)
      have hf0 := HBLK2.out.frozen 0; have hf1 := HBLK2.out.frozen 1
      obtain ⟨hr0, hr1⟩ := HBLK2.out.cell
      clear hR h0
      go_wp2_with fail
      refine bodyPost_ret (results_deed rfl _ _ w.heap.size ((HBLK2.out.set0 (.int .i64 0)).set1 (.int .i64 0)) rfl rfl (by kernel_rfl)) rfl ?_
      exact ⟨by rw [HR.out.1, HR.out.2.1, HR.out.2.2] <;> rfl, (HBEL2.out.setCell (p := ⟨w.heap.size, 0, none⟩) (Nat.le_refl _) _).setCell (p := ⟨w.heap.size, 1, none⟩) (Nat.le_refl _) _⟩
    · have hd0 : decide (z < 0) = false := decide_eq_false h0
      by_cases ht : deedL z r = s.data.toList
      · have hbt : ((deedT z r).toList == s.toList) = true := by rw [HEQ.out]; exact decide_eq_true ht
        have hR : rdD s.data.toList = some (z, r) := by
          rcases HP.out with ⟨h | h, _⟩ | h
          · omega
          · exact absurd ht h
          · exact h.2.2
        have HR := Lib.hid (rdD_is hR)
        clear hR h0 ht
        go_wp2_with fail
        refine (HK.out _ HBLA2.out HBLK2.out HBEL2.out).mono ?_
        rintro e w6 ⟨rfl, h1, h2, h3⟩
        have HBLA := Lib.hid h1; have HBLK := Lib.hid h2; have HBEL := Lib.hid h3
        obtain ⟨hq0, hq1⟩ := h1.cell
        obtain ⟨hr0, hr1⟩ := h2.cell
        have hf0 := HBLK.out.frozen 0; have hf1 := HBLK.out.frozen 1
        clear h1 h2 h3
        go_wp2_with fail
        refine bodyPost_ret (results_deed rfl _ _ w.heap.size ((HBLK.out.set0 (.int .i64 z)).set1 (.int .i64 r)) rfl rfl (by kernel_rfl)) rfl ?_
        exact ⟨by rw [HR.out.1, HR.out.2.1, HR.out.2.2] <;> rfl, (HBEL.out.setCell (p := ⟨w.heap.size, 0, none⟩) (Nat.le_refl _) _).setCell (p := ⟨w.heap.size, 1, none⟩) (Nat.le_refl _) _⟩
      · have hbt : ((deedT z r).toList == s.toList) = false := by rw [HEQ.out]; exact decide_eq_false ht
        have hR : rdD s.data.toList = none := by
          rcases HP.out with h | h
          · exact h.2
          · exact absurd h.2.1 ht
        have HR := Lib.hid (rdD_no hR)
        clear hR h0 ht
        go_wp2_with fail
        refine (HK.out _ HBLA2.out HBLK2.out HBEL2.out).mono ?_
        rintro e w6 ⟨rfl, h1, h2, h3⟩
        have HBLA := Lib.hid h1; have HBLK := Lib.hid h2; have HBEL := Lib.hid h3
        obtain ⟨hr0, hr1⟩ := h2.cell
        have hf0 := HBLK.out.frozen 0; have hf1 := HBLK.out.frozen 1
        clear h1 h2 h3
        go_wp2_with fail
        refine bodyPost_ret (results_deed rfl _ _ w.heap.size ((HBLK.out.set0 (.int .i64 0)).set1 (.int .i64 0)) rfl rfl (by kernel_rfl)) rfl ?_
        exact ⟨by rw [HR.out.1, HR.out.2.1, HR.out.2.2] <;> rfl, (HBEL.out.setCell (p := ⟨w.heap.size, 0, none⟩) (Nat.le_refl _) _).setCell (p := ⟨w.heap.size, 1, none⟩) (Nat.le_refl _) _⟩
def OwnS (w : World) (B : Nat) (v : Value) (ts : List ByteArray) : Prop := w.ownsRow B 9 1 v ts.length (ts.map Value.string)
theorem OwnS.snoc {w : World} {B : Nat} {v : Value} {ts : List ByteArray} {t : ByteArray} (h : w.ownsRow B 9 1 v (ts.length + 1) (ts.map Value.string ++ [.string t])) : OwnS w B v (ts ++ [t]) := by
  unfold OwnS; rw [List.length_append, List.map_append]; exact h
theorem OwnS.made (w : World) (B : Nat) (hB : B ≤ w.heap.size) : OwnS (w.alloc (.cells #[] 9)) B (.slice (some ⟨w.heap.size, 0, none⟩) 0 0) [] :=
  World.ownsRow_made w #[] 0 hB (Nat.zero_le _) rfl
theorem OwnS.slice {w : World} {B : Nat} {v : Value} {ts : List ByteArray} (h : OwnS w B v ts) : ∃ a c, v = .slice a ts.length c := by
  rcases h.2 with ⟨h1, h2⟩ | ⟨g, cap, cur, hv, _⟩
  · exact ⟨none, 0, by rw [h2]; exact h1⟩
  · exact ⟨_, cap, hv⟩
theorem OwnS.at {w : World} {B : Nat} {v : Value} {ts : List ByteArray} (h : OwnS w B v ts) {i : Nat} (hi : i < ts.length) : ∃ g c, v = .slice (some ⟨g, 0, none⟩) ts.length c ∧ B ≤ g ∧ g < w.heap.size ∧ w.cell? ⟨g, i, none⟩ = some (.string ts[i]) := by
  have hlt := World.ownsRow.lt h
  have h' : w.ownsRow B 9 1 v ts.length (ts.map Value.string) := h
  rcases h.2 with ⟨_, h2⟩ | ⟨g, cap, cur, hv, hB, _⟩
  · omega
  · subst hv
    refine ⟨g, cap, rfl, hB, (hlt g rfl).2, ?_⟩
    rw [h'.cellAt i (by omega), List.getElem?_map, List.getElem?_eq_getElem hi]; rfl
theorem Tryz.infoStr : (Tryz.prog.info? 9).map (fun i => (i.zero, i.size, i.bytes)) = some (some (.string { data := #[] }), 1, 16) := by kernel_rfl
theorem info_str : ∃ i, Tryz.prog.info? 9 = some i ∧ i.zero = some (.string { data := #[] }) ∧ i.size = 1 ∧ i.bytes = 16 := by
  obtain ⟨i, hi, hzz⟩ := Option.map_eq_some_iff.1 Tryz.infoStr
  simp only [Prod.mk.injEq] at hzz
  exact ⟨i, hi, hzz.1, hzz.2.1, hzz.2.2⟩
theorem idxS (s : ByteArray) (k : Nat) (hk : k < s.size) (w : World) : (Instr.index 9 (.string s) (.int .i64 (k : Int))).run Tryz.prog w = .ok (.int .u8 ((s.data.toList.getD k 0).toNat : Int)) w := by
  rw [run_index_string (P := Tryz.prog) w 9 _ _ _ Tryz.underlying9, dif_pos ⟨by omega, by omega⟩]
  have : s[(k : Int).toNat]'(by omega) = s.data.toList.getD k 0 := by
    rw [List.getD_eq_getElem?_getD, List.getElem?_eq_getElem (by rw [← Lib.size_eq]; exact hk)]
    rfl
  rw [this]
theorem cutSl (s : ByteArray) (p k : Nat) (hp : p ≤ k) (hk : k ≤ s.size) (w : World) : (Instr.slice 9 (.string s) (some (.int .i64 (p : Int))) (some (.int .i64 (k : Int))) none).run Tryz.prog w = .ok (.string (s.extract p k)) w := by
  rw [run_slice_string_if (P := Tryz.prog) w 9 s _ _ _ _ Tryz.underlying9, if_pos ⟨by omega, by omega⟩, if_pos ⟨by omega, by omega⟩]
  rfl
theorem endSl (s : ByteArray) (p : Nat) (hp : p ≤ s.size) (w : World) : (Instr.slice 9 (.string s) (some (.int .i64 (p : Int))) none none).run Tryz.prog w = .ok (.string (s.extract p s.size)) w := by
  rw [run_slice_string_l (P := Tryz.prog) (ht := Tryz.underlying9) (kl := .i64) (l := (p : Int)) (h0 := by omega) (h1 := by omega)]
  rfl
def spK (l : List UInt8) (c : UInt8) : Nat → List (List UInt8) × Nat
  | 0 => ([], 0)
  | k + 1 => if l.getD k 0 == c then ((spK l c k).1 ++ [(l.drop (spK l c k).2).take (k - (spK l c k).2)], k + 1) else spK l c k
def spL (l : List UInt8) (c : UInt8) : List (List UInt8) := (spK l c l.length).1 ++ [l.drop (spK l c l.length).2]
theorem spK_le (l : List UInt8) (c : UInt8) (k : Nat) : (spK l c k).2 ≤ k ∧ (spK l c k).1.length ≤ k := by
  induction k with
  | zero => exact ⟨Nat.le_refl _, Nat.le_refl _⟩
  | succ k ih =>
    rw [spK]
    split
    · exact ⟨Nat.le_refl _, by rw [List.length_append]; simp; omega⟩
    · omega
theorem spK_yes {l : List UInt8} {c : UInt8} {k : Nat} (h : (l.getD k 0 == c) = true) : spK l c (k + 1) = ((spK l c k).1 ++ [(l.drop (spK l c k).2).take (k - (spK l c k).2)], k + 1) := by rw [spK, if_pos h]
theorem spK_no {l : List UInt8} {c : UInt8} {k : Nat} (h : (l.getD k 0 == c) = false) : spK l c (k + 1) = spK l c k := by rw [spK, if_neg (by rw [h]; decide)]
theorem byteB {a b : UInt8} {v : Bool} (h : (a == b) = v) : ((a.toNat : Int) == (b.toNat : Int)) = v := by
  subst h
  by_cases e : a = b
  · subst e; simp
  · have h1 : (a == b) = false := by simpa using e
    rw [h1]
    have : ¬ a.toNat = b.toNat := fun h => e (UInt8.toNat_inj.1 h)
    simp; omega
def CutGives (s : ByteArray) (c : UInt8) (w : World) (e : Ending) (w' : World) : Prop := ∃ v, e = .returned v ∧ OwnS w' w.heap.size v ((spL s.data.toList c).map bs) ∧ Below w.heap.size w w'
def CutR (s : ByteArray) (c : UInt8) (w : World) (k : Nat) (p : Int) (vo v : Value) (wr : World) : Prop :=
  p = ((spK s.data.toList c k).2 : Int) ∧ vo = v ∧ OwnS wr w.heap.size vo ((spK s.data.toList c k).1.map bs) ∧ Below w.heap.size w wr
set_option maxRecDepth 100000 in
theorem l1Cut_any (s : ByteArray) (c : UInt8) (hs : s.size ≤ 1048600) (w : World) :
    Calls Tryz.prog 78 #[.string s, .int .u8 (c.toNat : Int)] w (CutGives s c w) := by
  obtain ⟨i0, hii, hz0, hz1, hz2⟩ := info_str
  have HST : Hid (CutR s c w 0 0 (.slice (some ⟨w.heap.size, 0, none⟩) 0 0) (.slice (some ⟨w.heap.size, 0, none⟩) 0 0) (w.alloc (.cells #[] 9))) := Lib.hid ⟨rfl, rfl, OwnS.made w _ (Nat.le_refl _), alloc_below w _⟩
  obtain ⟨cc, hcc⟩ : ∃ cc : Int, (c.toNat : Int) = cc := ⟨_, rfl⟩
  rw [hcc]
  have HCC := Lib.hid hcc; clear hcc
  go_enter Tryz.func78, Tryz.ntmps78
  go_wp2_with fail
  go_loopw [5, 6, 7] (fun v f i wr => ∃ (k : Nat) (p : Int) (vo : Value), k ≤ s.size ∧ i = .int .i64 k ∧ f = .int .i64 p ∧ Hid (CutR s c w k p vo v wr)) (fun _ _ i _ => s.size - (intOf i).toNat)
  case atStart => exact ⟨0, 0, _, Nat.zero_le _, rfl, rfl, HST⟩
  case round =>
    clear HST
    obtain ⟨k, p, vo, hk, rfl, rfl, HR⟩ := hrel
    have HV := Lib.hid HR.out.2.1
    have hle := spK_le s.data.toList c k
    by_cases hlt : k < s.size
    · have hki : (k : Int) < (s.size : Int) := by omega
      have hix := fun w => idxS s k hlt w
      cases hb : (s.data.toList.getD k 0 == c) with
      | true =>
        have hbb := byteB hb
        rw [HCC.out] at hbb
        have HY := Lib.hid (spK_yes hb)
        obtain ⟨b, hbe⟩ : ∃ b : Int, ((s.data.toList.getD k 0).toNat : Int) = b := ⟨_, rfl⟩
        rw [hbe] at hbb hix
        clear hb hbe
        obtain ⟨q, hq⟩ : ∃ q, (spK s.data.toList c k).2 = q := ⟨_, rfl⟩
        obtain ⟨ts, hts⟩ : ∃ ts, (spK s.data.toList c k).1 = ts := ⟨_, rfl⟩
        have hR := HR.out
        unfold CutR at hR
        rw [hq, hts] at hR
        rw [hq, hts] at hle
        rw [hq, hts] at HY
        obtain ⟨hp, hv, hO, hB⟩ := hR
        have hpq : p = (q : Int) := hp
        subst hpq
        subst hv
        have hcut := fun w => cutSl s q k (by omega) (by omega) w
        obtain ⟨t, ht⟩ : ∃ t, s.extract q k = t := ⟨_, rfl⟩
        rw [ht] at hcut
        have HT := Lib.hid (show t = bs ((s.data.toList.drop q).take (k - q)) by rw [← ht]; exact list_inj (by rw [Lib.extract_data, bs_data]))
        have HO := Lib.hid (show wr.ownsRow w.heap.size 9 1 vo ts.length (ts.map (fun x => Value.string (bs x))) by
          have h := hO
          unfold OwnS at h
          rw [List.length_map, List.map_map] at h
          exact h)
        have HB := Lib.hid hB
        have k1 := Lib.hid (fun (jj : Nat) (u : Value) (h : [Value.string t][jj]? = some u) => cell_one_new wr (.string t) 9 jj u h)
        have k2 : Hid (∀ u ∈ [Value.string t], u.oneCell' = true) := Lib.hid (by intro u hu; simp only [List.mem_singleton] at hu; subst hu; rfl)
        have k3 : Hid (ts.length + 1 ≤ maxLen) := Lib.hid (by unfold maxLen; omega)
        have k4 : Hid ((ts.length + 1) * 16 ≤ 140737488355328) := Lib.hid (by omega)
        have k5 : Hid (w.heap.size ≤ (wr.alloc (.cells #[.string t] 9)).heap.size) := Lib.hid (by rw [alloc_size]; have := HB.out.size; omega)
        clear hp hO hB ht hq hts HR HV hle
        go_wp2_with (at_builtin; refine wpList_append_own _ rfl (.tmp 20) (.tmp 25) 48 rfl w.heap.size 9 i0 (.string { data := #[] }) 1 16 Tryz.underlying48 hii hz0 hz1 hz2 rfl (by decide) _ _ _ rfl (HO.out.alloc _) ⟨wr.heap.size, 0, none⟩ 1 1 [.string t] rfl rfl k1.out k2.out k3.out k4.out k5.out ?_)
        intro v5 w5 hown5 hgrow5 _
        have hb5 : Below w.heap.size wr w5 := ((Below.refl w.heap.size wr).alloc HB.out.size _).grown hgrow5 k5.out (fun g hg => (World.ownsRow.lt HO.out g hg).1)
        have HN : Hid (CutR s c w (k + 1) ((k : Int) + 1) v5 v5 w5) := Lib.hid (by
          unfold CutR
          rw [HY.out]
          refine ⟨by show (k : Int) + 1 = ((k + 1 : Nat) : Int); omega, rfl, ?_, HB.out.trans hb5⟩
          unfold OwnS
          rw [List.map_append, List.map_append, List.length_append, List.length_map, List.map_map]
          rw [HT.out] at hown5
          exact hown5)
        clear hown5 hgrow5 hb5 k1 k2 k3 k4 k5 HO hix hcut
        go_wp2_with fail
        go_roundw
        case rel => exact ⟨k + 1, _, v5, by omega, by go_num, rfl, HN⟩
        case measure => simp [intOf]; omega
      | false =>
        have hbb := byteB hb
        rw [HCC.out] at hbb
        have HN : Hid (CutR s c w (k + 1) p vo vo wr) := Lib.hid (by
          have h := HR.out
          unfold CutR at h ⊢
          rw [spK_no hb]
          exact ⟨h.1, rfl, h.2.2.1, h.2.2.2⟩)
        have hv := HV.out
        subst hv
        obtain ⟨b, hbe⟩ : ∃ b : Int, ((s.data.toList.getD k 0).toNat : Int) = b := ⟨_, rfl⟩
        rw [hbe] at hbb hix
        clear hb hbe HR HV hle
        go_wp2_with fail
        go_roundw
        case rel => exact ⟨k + 1, p, vo, by omega, by go_num, rfl, HN⟩
        case measure => simp [intOf]; omega
    · have hki : ¬ (k : Int) < (s.size : Int) := by omega
      have hkn : k = s.data.toList.length := by rw [← Lib.size_eq]; omega
      have hsp : spL s.data.toList c = (spK s.data.toList c k).1 ++ [s.data.toList.drop (spK s.data.toList c k).2] := by unfold spL; rw [← hkn]
      have HSP := Lib.hid hsp
      clear hkn hsp
      obtain ⟨q, hq⟩ : ∃ q, (spK s.data.toList c k).2 = q := ⟨_, rfl⟩
      obtain ⟨ts, hts⟩ : ∃ ts, (spK s.data.toList c k).1 = ts := ⟨_, rfl⟩
      have hR := HR.out
      unfold CutR at hR
      rw [hq, hts] at hR
      rw [hq, hts] at hle
      rw [hq, hts] at HSP
      obtain ⟨hp, hv, hO, hB⟩ := hR
      subst hp
      subst hv
      have hcut := fun w => endSl s q (by omega) w
      obtain ⟨t, ht⟩ : ∃ t, s.extract q s.size = t := ⟨_, rfl⟩
      rw [ht] at hcut
      have HT := Lib.hid (show t = bs (s.data.toList.drop q) by rw [← ht]; exact list_inj (by rw [Lib.extract_to_end, bs_data]))
      have HO := Lib.hid (show wr.ownsRow w.heap.size 9 1 vo ts.length (ts.map (fun x => Value.string (bs x))) by
        have h := hO
        unfold OwnS at h
        rw [List.length_map, List.map_map] at h
        exact h)
      have HB := Lib.hid hB
      have k1 := Lib.hid (fun (jj : Nat) (u : Value) (h : [Value.string t][jj]? = some u) => cell_one_new wr (.string t) 9 jj u h)
      have k2 : Hid (∀ u ∈ [Value.string t], u.oneCell' = true) := Lib.hid (by intro u hu; simp only [List.mem_singleton] at hu; subst hu; rfl)
      have k3 : Hid (ts.length + 1 ≤ maxLen) := Lib.hid (by unfold maxLen; omega)
      have k4 : Hid ((ts.length + 1) * 16 ≤ 140737488355328) := Lib.hid (by omega)
      have k5 : Hid (w.heap.size ≤ (wr.alloc (.cells #[.string t] 9)).heap.size) := Lib.hid (by rw [alloc_size]; have := HB.out.size; omega)
      clear hO hB ht hq hts HR HV hle
      go_wp2_with (at_builtin; refine wpList_append_own _ rfl (.tmp 29) (.tmp 33) 48 rfl w.heap.size 9 i0 (.string { data := #[] }) 1 16 Tryz.underlying48 hii hz0 hz1 hz2 rfl (by decide) _ _ _ rfl (HO.out.alloc _) ⟨wr.heap.size, 0, none⟩ 1 1 [.string t] rfl rfl k1.out k2.out k3.out k4.out k5.out ?_)
      intro v5 w5 hown5 hgrow5 _
      have hb5 : Below w.heap.size wr w5 := ((Below.refl w.heap.size wr).alloc HB.out.size _).grown hgrow5 k5.out (fun g hg => (World.ownsRow.lt HO.out g hg).1)
      have HN : Hid (OwnS w5 w.heap.size v5 ((spL s.data.toList c).map bs)) := Lib.hid (by
        rw [HSP.out]
        unfold OwnS
        rw [List.map_append, List.map_append, List.length_append, List.length_map, List.map_map]
        rw [HT.out] at hown5
        exact hown5)
      have HB5 := Lib.hid (HB.out.trans hb5)
      clear hown5 hgrow5 hb5 k1 k2 k3 k4 k5 HO hcut
      go_wp2_with fail
      go_ret
      exact ⟨_, rfl, HN.out, HB5.out⟩
def cellsD (ds : List (Int × Int)) : List Value := ds.flatMap (fun d => [Value.int .i64 d.1, Value.int .i64 d.2])
theorem cellsD_at {ds : List (Int × Int)} {i : Nat} (hi : i < ds.length) : (cellsD ds)[i * 2]? = some (.int .i64 ds[i].1) ∧ (cellsD ds)[i * 2 + 1]? = some (.int .i64 ds[i].2) := by
  induction ds generalizing i with
  | nil => cases hi
  | cons d ds ih =>
    show ([Value.int .i64 d.1, Value.int .i64 d.2] ++ cellsD ds)[i * 2]? = _ ∧ ([Value.int .i64 d.1, Value.int .i64 d.2] ++ cellsD ds)[i * 2 + 1]? = _
    cases i with
    | zero => exact ⟨rfl, rfl⟩
    | succ i =>
      have := ih (i := i) (by simp at hi; omega)
      rw [List.getElem?_append_right (by simp; omega), List.getElem?_append_right (by simp; omega)]
      have e1 : (i + 1) * 2 - [Value.int .i64 d.1, Value.int .i64 d.2].length = i * 2 := by simp; omega
      have e2 : (i + 1) * 2 + 1 - [Value.int .i64 d.1, Value.int .i64 d.2].length = i * 2 + 1 := by simp; omega
      rw [e1, e2]
      exact this
def OwnD (w : World) (B : Nat) (v : Value) (ds : List (Int × Int)) : Prop := w.ownsRow B 39 2 v ds.length (cellsD ds)
def DRow (w : World) (b o : Nat) (ds : List (Int × Int)) : Prop := ∀ i (hi : i < ds.length), w.cell? ⟨b, o + i * 2, none⟩ = some (.int .i64 ds[i].1) ∧ w.cell? ⟨b, o + i * 2 + 1, none⟩ = some (.int .i64 ds[i].2)
theorem DRow.kept {w w' : World} {b o : Nat} {ds : List (Int × Int)} (h : DRow w b o ds) (hb : Below w.heap.size w w') (hl : b < w.heap.size) : DRow w' b o ds := fun i hi =>
  ⟨(hb.cell (p := ⟨b, o + i * 2, none⟩) hl).trans (h i hi).1, (hb.cell (p := ⟨b, o + i * 2 + 1, none⟩) hl).trans (h i hi).2⟩
theorem OwnD.row {w : World} {B : Nat} {v : Value} {ds : List (Int × Int)} (h : OwnD w B v ds) (h1 : 1 ≤ ds.length) : ∃ g c, v = .slice (some ⟨g, 0, none⟩) ds.length c ∧ B ≤ g ∧ g < w.heap.size ∧ ds.length ≤ c ∧ DRow w g 0 ds := by
  have hlt := World.ownsRow.lt h
  have h' : w.ownsRow B 39 2 v ds.length (cellsD ds) := h
  rcases h.2 with ⟨_, h2⟩ | ⟨g, cap, cur, hv, hB, _, hc, _⟩
  · omega
  · subst hv
    refine ⟨g, cap, rfl, hB, (hlt g rfl).2, hc, fun i hi => ?_⟩
    rw [Nat.zero_add, h'.cellAt _ (by omega), h'.cellAt _ (by omega)]
    exact cellsD_at hi
theorem Tryz.infoDeed : (Tryz.prog.info? 39).map (fun i => (i.zero, i.size, i.bytes)) = some (some (.agg #[.int .i64 0, .int .i64 0]), 2, 16) := by kernel_rfl
theorem info_deed : ∃ i, Tryz.prog.info? 39 = some i ∧ i.zero = some (.agg #[.int .i64 0, .int .i64 0]) ∧ i.size = 2 ∧ i.bytes = 16 := by
  obtain ⟨i, hi, hzz⟩ := Option.map_eq_some_iff.1 Tryz.infoDeed
  simp only [Prod.mk.injEq] at hzz
  exact ⟨i, hi, hzz.1, hzz.2.1, hzz.2.2⟩
def cand3 : List (Int × Int) := [(2, 0), (3, 0), (4, 0)]
def cand5 (y : Int) : List (Int × Int) := [(2, 0), (3, 0), (4, 0), (0, y), (1, y)]
theorem parts_all : deeds.all (fun d => if d.1 ≤ 1 then (spL (deedL d.1 d.2) 32).length == 2 && rdI ((spL (deedL d.1 d.2) 32).getD 1 []) == d.2 else (spL (deedL d.1 d.2) 32).length == 1) = true := by decide +kernel
theorem cand_in {l : List UInt8} {k x : Int} (h : rdD l = some (k, x)) :
    ((spL l 32).length = 2 → (k, x) ∈ cand5 (rdI ((spL l 32).getD 1 []))) ∧ ((spL l 32).length ≠ 2 → (k, x) ∈ cand3) := by
  obtain ⟨h1, h2⟩ := rdD_some h
  have h3 := List.all_eq_true.1 parts_all (k, x) (deeds_mem.2 h1)
  rw [h2] at h3
  have h4 := dOk_iff.1 h1
  by_cases hk : k ≤ 1
  · rw [if_pos hk, Bool.and_eq_true, beq_iff_eq, beq_iff_eq] at h3
    refine ⟨fun _ => ?_, fun hn => absurd h3.1 hn⟩
    rw [h3.2]
    have : k = 0 ∨ k = 1 := by omega
    rcases this with rfl | rfl <;> simp [cand5]
  · rw [if_neg hk, beq_iff_eq] at h3
    have : (k = 2 ∨ k = 3 ∨ k = 4) ∧ x = 0 := by omega
    obtain ⟨hk2, rfl⟩ := this
    refine ⟨fun hn => by omega, fun _ => ?_⟩
    rcases hk2 with rfl | rfl | rfl <;> simp [cand3]
theorem cand_hit {l : List UInt8} {k x : Int} (hl : l ≠ []) (h : deedL k x = l) : rdD l = some (k, x) := by
  have : dOk k x = true := by
    cases hd : dOk k x with
    | true => rfl
    | false => rw [deedL_no hd] at h; exact absurd h.symm hl
  rw [← h]; exact rdD_of this
theorem cand_miss {l : List UInt8} {cs : List (Int × Int)} (hin : ∀ k x, rdD l = some (k, x) → (k, x) ∈ cs) (h : ∀ d ∈ cs, deedL d.1 d.2 ≠ l) : rdD l = none := by
  cases hr : rdD l with
  | none => rfl
  | some d =>
    obtain ⟨k, x⟩ := d
    exact absurd (rdD_some hr).2 (h _ (hin k x hr))
set_option maxRecDepth 100000 in
theorem specReadDeed_any (s : ByteArray) (hs : s.size ≤ 1048600) (w : World) :
    Calls Tryz.prog 47 #[.string s] w (RdEnd s.data.toList w) := by
  obtain ⟨i0, hii, hz0, hz1, hz2⟩ := info_deed
  have HBEL := Lib.hid (alloc_below w (.cells #[.int .i64 0, .int .i64 0] 39))
  have HBLK := Lib.hid (Blk2.new w 39 (.int .i64 0) (.int .i64 0))
  have HSZ := Lib.hid (alloc_size w (.cells #[.int .i64 0, .int .i64 0] 39))
  go_enter Tryz.func47, Tryz.ntmps47
  go_wp2_with fail
  refine (l1Cut_any s 32 hs _).mono ?_
  rintro e w2 ⟨vs, rfl, hO, hb2⟩
  replace HBLK := Lib.hid (HBLK.out.kept hb2 HBLK.out.lt)
  replace HBEL := Lib.hid (below_onto HBEL.out hb2)
  have HO := Lib.hid hO
  have HCI := Lib.hid (fun k x (h : rdD s.data.toList = some (k, x)) => cand_in h)
  have HB2S := Lib.hid hb2.size
  clear hO hb2
  obtain ⟨ps, hps⟩ : ∃ ps, spL s.data.toList 32 = ps := ⟨_, rfl⟩
  rw [hps] at HO HCI
  clear hps
  obtain ⟨av, cv, rfl⟩ := HO.out.slice
  obtain ⟨n, hn⟩ : ∃ n, (ps.map bs).length = n := ⟨_, rfl⟩
  have HN := Lib.hid (show ps.length = n by rw [← hn, List.length_map])
  rw [hn] at HO ⊢
  clear hn
  have hbel3 := alloc_below w2 (.cells #[.int .i64 2, .int .i64 0, .int .i64 3, .int .i64 0, .int .i64 4, .int .i64 0] 39)
  have HO3 : Hid (OwnD (w2.alloc (.cells #[.int .i64 2, .int .i64 0, .int .i64 3, .int .i64 0, .int .i64 4, .int .i64 0] 39)) w.heap.size (.slice (some ⟨w2.heap.size, 0, none⟩) 3 3) cand3) :=
    Lib.hid ⟨rfl, .inr ⟨w2.heap.size, 3, _, rfl, by have := HBEL.out.size; omega, heap_alloc_new w2 _, (show 3 ≤ 3 by omega), (by unfold maxLen; omega), rfl, rfl⟩⟩
  replace HBLK := Lib.hid (HBLK.out.kept hbel3 HBLK.out.lt)
  replace HBEL := Lib.hid (below_onto HBEL.out hbel3)
  have HOK := Lib.hid (fun (hlen : 1 < (ps.map bs).length) => (show OwnS (w2.alloc (.cells #[.int .i64 2, .int .i64 0, .int .i64 3, .int .i64 0, .int .i64 4, .int .i64 0] 39)) (w2.heap.size.min 0) (.slice av (ps.map bs).length cv) (ps.map bs) from by
    have h := HO.out
    rw [show n = (ps.map bs).length by rw [List.length_map, HN.out]] at h
    refine ⟨h.1, ?_⟩
    rcases h.2 with h1 | ⟨g, cap, cur, hv, hB, hg, hr⟩
    · exact .inl h1
    · exact .inr ⟨g, cap, cur, hv, by simp, (hbel3.block g (Array.getElem?_eq_some_iff.1 hg).1).trans hg, hr⟩).at hlen)
  obtain ⟨w3, hw3⟩ : ∃ w3, w2.alloc (.cells #[.int .i64 2, .int .i64 0, .int .i64 3, .int .i64 0, .int .i64 4, .int .i64 0] 39) = w3 := ⟨_, rfl⟩
  obtain ⟨G, hG⟩ : ∃ G, w2.heap.size = G := ⟨_, rfl⟩
  rw [hw3, hG] at HO3
  rw [hw3] at HBLK HBEL HOK
  have HW3 := Lib.hid hw3; have HG := Lib.hid hG
  have HGE := Lib.hid (show w.heap.size < G by rw [← hG]; exact Nat.lt_of_lt_of_le (by have := HSZ.out; omega) HB2S.out)
  clear hbel3 hw3 hG HSZ HO
  by_cases hn2 : n = 2
  · have hb2 : ((n : Int) == 2) = true := by rw [hn2]; rfl
    obtain ⟨gs, cs, hvs, _, hgl, hcell⟩ := HOK.out (by rw [List.length_map, HN.out]; omega)
    rw [List.length_map, HN.out] at hvs
    have HL := Lib.hid (HN.out.trans hn2)
    have hp1 : (ps.map bs)[1]'(by rw [List.length_map, HN.out]; omega) = bs (ps.getD 1 []) := by
      rw [List.getElem_map, List.getD_eq_getElem?_getD, List.getElem?_eq_getElem (by rw [HN.out]; omega : 1 < ps.length)]; rfl
    rw [hp1] at hcell
    injection hvs with e1 _ e3
    subst e1
    subst e3
    obtain ⟨pt, hpt⟩ : ∃ pt, bs (ps.getD 1 []) = pt := ⟨_, rfl⟩
    rw [hpt] at hcell
    have HPT := Lib.hid (show pt.data.toList = ps.getD 1 [] by rw [← hpt]; rfl)
    have hn1 : (1 : Int) < (n : Int) := by omega
    have hnn : (n : Int) = 2 := by omega
    clear hn2 hp1 hpt HOK hnn
    have hw3 := HW3.out; have hG := HG.out
    go_wp2_with fail
    clear hw3 hG
    refine (specReadSet_any pt _).mono ?_
    rintro e w' ⟨rfl, rfl⟩
    rw [HPT.out]
    have HIN := Lib.hid (fun k x (h : rdD s.data.toList = some (k, x)) => (HCI.out k x h).1 HL.out)
    obtain ⟨y, hy⟩ : ∃ y, rdI (ps.getD 1 []) = y := ⟨_, rfl⟩
    rw [hy] at HIN ⊢
    have HO4 : Hid (w3.ownsRow w.heap.size 39 2 (.slice (some ⟨G, 0, none⟩) 3 3) 3 (cellsD cand3)) := Lib.hid HO3.out
    have k1 : Hid (∀ (jj : Nat) (u : Value), [Value.int .i64 0, .int .i64 y, .int .i64 1, .int .i64 y][jj]? = some u → (w3.alloc (.cells #[.int .i64 0, .int .i64 y, .int .i64 1, .int .i64 y] 39)).cell? ((⟨w3.heap.size, 0, none⟩ : Addr).add jj) = some u) := Lib.hid (fun jj u h => by
      have hh : (w3.alloc (.cells #[.int .i64 0, .int .i64 y, .int .i64 1, .int .i64 y] 39)).heap[w3.heap.size]? = some (.cells #[.int .i64 0, .int .i64 y, .int .i64 1, .int .i64 y] 39) := heap_alloc_new w3 _
      rw [Addr.add_lit, Nat.zero_add]
      unfold World.cell?
      rw [hh]
      have h4 : jj < 4 := (List.getElem?_eq_some_iff.1 h).1
      have : jj = 0 ∨ jj = 1 ∨ jj = 2 ∨ jj = 3 := by omega
      rcases this with rfl | rfl | rfl | rfl <;> exact h)
    have k2 : Hid (∀ u ∈ [Value.int .i64 0, .int .i64 y, .int .i64 1, .int .i64 y], u.oneCell' = true) := Lib.hid (by intro u hu; simp only [List.mem_cons, List.not_mem_nil, or_false] at hu; rcases hu with rfl | rfl | rfl | rfl <;> rfl)
    have k3 : Hid (3 + 2 ≤ maxLen) := Lib.hid (by unfold maxLen; omega)
    have k4 : Hid ((3 + 2) * 16 ≤ 140737488355328) := Lib.hid (by omega)
    have k5 : Hid (w.heap.size ≤ (w3.alloc (.cells #[.int .i64 0, .int .i64 y, .int .i64 1, .int .i64 y] 39)).heap.size) := Lib.hid (by rw [alloc_size]; have := HBEL.out.size; omega)
    clear hy HCI HPT
    go_wp2_with (at_builtin; refine wpList_append_own _ rfl (.tmp 25) (.tmp 30) 24 rfl w.heap.size 39 i0 (.agg #[.int .i64 0, .int .i64 0]) 2 16 Tryz.underlying24 hii hz0 hz1 hz2 rfl (by decide) _ _ _ rfl (HO4.out.alloc _) ⟨w3.heap.size, 0, none⟩ 2 2 [.int .i64 0, .int .i64 y, .int .i64 1, .int .i64 y] rfl rfl k1.out k2.out k3.out k4.out k5.out ?_)
    intro v5 w5 hown5 hgrow5 _
    have hgl3 : G < w3.heap.size := (World.ownsRow.lt HO3.out G rfl).2
    have hne : w.heap.size ≠ G := by have := HBLK.out.lt; intro e; have := (World.ownsRow.lt HO3.out G rfl).1; have h9 := HGE.out; omega
    have hB5 : Below w.heap.size w w5 := HBEL.out.trans (((Below.refl w.heap.size w3).alloc HBEL.out.size _).grown hgrow5 k5.out (fun g hg => (World.ownsRow.lt HO3.out g hg).1))
    have hBl5 : Blk2 w5 w.heap.size 39 (.int .i64 0) (.int .i64 0) := ((hgrow5.block _ (by rw [alloc_size]; have := HBLK.out.lt; omega) (fun e => by simp only [Value.ownBlock, Option.some.injEq] at e; exact hne e)).trans (Below.heap_alloc _ _ _ HBLK.out.lt)).trans HBLK.out
    have hown6 : OwnD w5 w.heap.size v5 (cand5 y) := hown5
    obtain ⟨g5, c5, rfl, hg5B, hg5, hc5, hr5⟩ := hown6.row (by show 1 ≤ 5; omega)
    replace HBEL := Lib.hid hB5
    replace HBLK := Lib.hid hBl5
    have HR := Lib.hid hr5
    have HGL := Lib.hid hg5
    clear hown5 hgrow5 hne hB5 hBl5 hown6 hgl3 hg5B hg5 hc5 hr5 k1 k2 k3 k4 k5 HO4 HO3 hcell
    go_wp2_with fail
    obtain ⟨hB5, hBl5⟩ : Below w.heap.size w w5 ∧ Blk2 w5 w.heap.size 39 (.int .i64 0) (.int .i64 0) := ⟨HBEL.out, HBLK.out⟩
    have HB := Lib.hid hB5; have HBl := Lib.hid hBl5
    clear hB5 hBl5 HBEL HBLK
    go_loopw [8] (fun i wr => ∃ k : Nat, k ≤ 5 ∧ i = .int .i64 k ∧ Hid (∀ j (hj : j < (cand5 y).length), j < k → s.data.toList = [] ∨ deedL ((cand5 y)[j]).1 ((cand5 y)[j]).2 ≠ s.data.toList) ∧ Hid (Below w5.heap.size w5 wr)) (fun i _ => 5 - (intOf i).toNat)
    case atStart => exact ⟨0, Nat.zero_le _, rfl, Lib.hid (fun j _ hj => by omega), Lib.hid (Below.refl _ _)⟩
    case round =>
      obtain ⟨k, hk, rfl, HJ, HBR⟩ := hrel
      by_cases hlt : k < 5
      · have hki : (k : Int) < 5 := by omega
        have hk0 : (0 : Int) ≤ (k : Int) := by omega
        have hkl : k < (cand5 y).length := hlt
        by_cases hem : s.data.toList = []
        · have hemb : s.toList.isEmpty = true := by rw [toList_data', hem]; rfl
          have HEM := Lib.hid hem
          clear hem hkl
          go_wp2_with fail
          go_roundw
          case rel => exact ⟨k + 1, by omega, by go_num, Lib.hid (fun j _ _ => .inl HEM.out), HBR⟩
          case measure => simp [intOf]; omega
        · have hemb : s.toList.isEmpty = false := by
            rw [toList_data']
            cases hl : s.data.toList with
            | nil => exact absurd hl hem
            | cons a l => rfl
          have hr := (HR.out.kept HBR.out HGL.out) k hkl
          rw [Nat.zero_add] at hr
          obtain ⟨dk, hdk⟩ : ∃ dk, (cand5 y)[k] = dk := ⟨_, rfl⟩
          rw [hdk] at hr
          obtain ⟨kk, xx⟩ := dk
          dsimp only at hr
          obtain ⟨hc0, hc1⟩ := hr
          have HBB := Lib.hid (HBl.out.kept HBR.out HBl.out.lt)
          have HBT := Lib.hid (below_onto HB.out HBR.out)
          by_cases ht : deedL kk xx = s.data.toList
          · have hbt : ((deedT kk xx).toList == s.toList) = true := by rw [eqT]; exact decide_eq_true ht
            have HRR := Lib.hid (rdD_is (cand_hit hem ht))
            have HCC : Hid (∀ W, Below wr.heap.size wr W → W.cell? ⟨g5, k * 2, none⟩ = some (.int .i64 kk) ∧ W.cell? ⟨g5, k * 2 + 1, none⟩ = some (.int .i64 xx)) := Lib.hid (fun W hW => ⟨(hW.cell (p := ⟨g5, k * 2, none⟩) (Nat.lt_of_lt_of_le HGL.out HBR.out.size)).trans hc0, (hW.cell (p := ⟨g5, k * 2 + 1, none⟩) (Nat.lt_of_lt_of_le HGL.out HBR.out.size)).trans hc1⟩)
            clear ht hdk hem hkl
            go_wp2_with fail
            refine (specDeedText_any _ _ _).mono ?_
            rintro e w6 ⟨rfl, hb6⟩
            replace HBB := Lib.hid (HBB.out.kept hb6 HBB.out.lt)
            replace HBT := Lib.hid (below_onto HBT.out hb6)
            obtain ⟨hr0, hr1⟩ := HBB.out.cell
            have hf0 := HBB.out.frozen 0; have hf1 := HBB.out.frozen 1
            obtain ⟨hd0, hd1⟩ := HCC.out w6 hb6
            clear hb6 hc0 hc1
            go_wp2_with fail
            refine bodyPost_ret (results_deed rfl _ _ w.heap.size ((HBB.out.set0 (.int .i64 kk)).set1 (.int .i64 xx)) rfl rfl (by kernel_rfl)) rfl ?_
            exact ⟨by rw [HRR.out.1, HRR.out.2.1, HRR.out.2.2] <;> rfl, (HBT.out.setCell (p := ⟨w.heap.size, 0, none⟩) (Nat.le_refl _) _).setCell (p := ⟨w.heap.size, 1, none⟩) (Nat.le_refl _) _⟩
          · have hbt : ((deedT kk xx).toList == s.toList) = false := by rw [eqT]; exact decide_eq_false ht
            have HT := Lib.hid ht
            have HD := Lib.hid hdk
            clear ht hdk hem
            go_wp2_with fail
            refine (specDeedText_any _ _ _).mono ?_
            rintro e w6 ⟨rfl, hb6⟩
            have HBR6 := Lib.hid (below_onto HBR.out hb6)
            clear hb6 hc0 hc1
            go_wp2_with fail
            go_roundw
            case rel =>
              refine ⟨k + 1, by omega, by go_num, Lib.hid (fun j hj hjk => ?_), HBR6⟩
              by_cases e : j = k
              · subst e; right; rw [HD.out]; exact HT.out
              · exact HJ.out j hj (by omega)
            case measure => simp [intOf]; omega
      · have hki : ¬ (k : Int) < 5 := by omega
        have hkn : k = 5 := by omega
        have HRR : Hid (rdK s.data.toList = 0 ∧ rdY s.data.toList = 0 ∧ rdDB s.data.toList = false) := Lib.hid (by
          apply rdD_no
          by_cases hem : s.data.toList = []
          · rw [hem]; exact rdD_nil
          · refine cand_miss (cs := cand5 y) (fun k x h => HIN.out k x h) (fun d hd => ?_)
            obtain ⟨j, hj, rfl⟩ := List.getElem_of_mem hd
            rcases HJ.out j hj (by rw [hkn]; exact hj) with h | h
            · exact absurd h hem
            · exact h)
        have HBB := Lib.hid (HBl.out.kept HBR.out HBl.out.lt)
        have HBT := Lib.hid (below_onto HB.out HBR.out)
        obtain ⟨hr0, hr1⟩ := HBB.out.cell
        have hf0 := HBB.out.frozen 0; have hf1 := HBB.out.frozen 1
        clear hkn hk
        go_wp2_with fail
        refine bodyPost_ret (results_deed rfl _ _ w.heap.size ((HBB.out.set0 (.int .i64 0)).set1 (.int .i64 0)) rfl rfl (by kernel_rfl)) rfl ?_
        exact ⟨by rw [HRR.out.1, HRR.out.2.1, HRR.out.2.2] <;> rfl, (HBT.out.setCell (p := ⟨w.heap.size, 0, none⟩) (Nat.le_refl _) _).setCell (p := ⟨w.heap.size, 1, none⟩) (Nat.le_refl _) _⟩
  · have hb2 : ((n : Int) == 2) = false := by simp; omega
    have HIN := Lib.hid (fun k x (h : rdD s.data.toList = some (k, x)) => (HCI.out k x h).2 (by rw [HN.out]; exact hn2))
    obtain ⟨g5, c5, hgv, _, hg5, _, hr5⟩ := HO3.out.row (by show 1 ≤ 3; omega)
    cases hgv
    have HR := Lib.hid hr5
    have HGL := Lib.hid hg5
    clear hn2 HCI HOK HO3 hg5 hr5
    have hw3 := HW3.out; have hG := HG.out
    go_wp2_with fail
    clear hw3 hG
    obtain ⟨hB3, hBl3⟩ : Below w.heap.size w w3 ∧ Blk2 w3 w.heap.size 39 (.int .i64 0) (.int .i64 0) := ⟨HBEL.out, HBLK.out⟩
    have HB := Lib.hid hB3; have HBl := Lib.hid hBl3
    clear hB3 hBl3 HBEL HBLK
    go_loopw [8] (fun i wr => ∃ k : Nat, k ≤ 3 ∧ i = .int .i64 k ∧ Hid (∀ j (hj : j < (cand3).length), j < k → s.data.toList = [] ∨ deedL ((cand3)[j]).1 ((cand3)[j]).2 ≠ s.data.toList) ∧ Hid (Below w3.heap.size w3 wr)) (fun i _ => 3 - (intOf i).toNat)
    case atStart => exact ⟨0, Nat.zero_le _, rfl, Lib.hid (fun j _ hj => by omega), Lib.hid (Below.refl _ _)⟩
    case round =>
      obtain ⟨k, hk, rfl, HJ, HBR⟩ := hrel
      by_cases hlt : k < 3
      · have hki : (k : Int) < 3 := by omega
        have hk0 : (0 : Int) ≤ (k : Int) := by omega
        have hkl : k < (cand3).length := hlt
        by_cases hem : s.data.toList = []
        · have hemb : s.toList.isEmpty = true := by rw [toList_data', hem]; rfl
          have HEM := Lib.hid hem
          clear hem hkl
          go_wp2_with fail
          go_roundw
          case rel => exact ⟨k + 1, by omega, by go_num, Lib.hid (fun j _ _ => .inl HEM.out), HBR⟩
          case measure => simp [intOf]; omega
        · have hemb : s.toList.isEmpty = false := by
            rw [toList_data']
            cases hl : s.data.toList with
            | nil => exact absurd hl hem
            | cons a l => rfl
          have hr := (HR.out.kept HBR.out HGL.out) k hkl
          rw [Nat.zero_add] at hr
          obtain ⟨dk, hdk⟩ : ∃ dk, (cand3)[k] = dk := ⟨_, rfl⟩
          rw [hdk] at hr
          obtain ⟨kk, xx⟩ := dk
          dsimp only at hr
          obtain ⟨hc0, hc1⟩ := hr
          have HBB := Lib.hid (HBl.out.kept HBR.out HBl.out.lt)
          have HBT := Lib.hid (below_onto HB.out HBR.out)
          by_cases ht : deedL kk xx = s.data.toList
          · have hbt : ((deedT kk xx).toList == s.toList) = true := by rw [eqT]; exact decide_eq_true ht
            have HRR := Lib.hid (rdD_is (cand_hit hem ht))
            have HCC : Hid (∀ W, Below wr.heap.size wr W → W.cell? ⟨G, k * 2, none⟩ = some (.int .i64 kk) ∧ W.cell? ⟨G, k * 2 + 1, none⟩ = some (.int .i64 xx)) := Lib.hid (fun W hW => ⟨(hW.cell (p := ⟨G, k * 2, none⟩) (Nat.lt_of_lt_of_le HGL.out HBR.out.size)).trans hc0, (hW.cell (p := ⟨G, k * 2 + 1, none⟩) (Nat.lt_of_lt_of_le HGL.out HBR.out.size)).trans hc1⟩)
            clear ht hdk hem hkl
            go_wp2_with fail
            refine (specDeedText_any _ _ _).mono ?_
            rintro e w6 ⟨rfl, hb6⟩
            replace HBB := Lib.hid (HBB.out.kept hb6 HBB.out.lt)
            replace HBT := Lib.hid (below_onto HBT.out hb6)
            obtain ⟨hr0, hr1⟩ := HBB.out.cell
            have hf0 := HBB.out.frozen 0; have hf1 := HBB.out.frozen 1
            obtain ⟨hd0, hd1⟩ := HCC.out w6 hb6
            clear hb6 hc0 hc1
            go_wp2_with fail
            refine bodyPost_ret (results_deed rfl _ _ w.heap.size ((HBB.out.set0 (.int .i64 kk)).set1 (.int .i64 xx)) rfl rfl (by kernel_rfl)) rfl ?_
            exact ⟨by rw [HRR.out.1, HRR.out.2.1, HRR.out.2.2] <;> rfl, (HBT.out.setCell (p := ⟨w.heap.size, 0, none⟩) (Nat.le_refl _) _).setCell (p := ⟨w.heap.size, 1, none⟩) (Nat.le_refl _) _⟩
          · have hbt : ((deedT kk xx).toList == s.toList) = false := by rw [eqT]; exact decide_eq_false ht
            have HT := Lib.hid ht
            have HD := Lib.hid hdk
            clear ht hdk hem
            go_wp2_with fail
            refine (specDeedText_any _ _ _).mono ?_
            rintro e w6 ⟨rfl, hb6⟩
            have HBR6 := Lib.hid (below_onto HBR.out hb6)
            clear hb6 hc0 hc1
            go_wp2_with fail
            go_roundw
            case rel =>
              refine ⟨k + 1, by omega, by go_num, Lib.hid (fun j hj hjk => ?_), HBR6⟩
              by_cases e : j = k
              · subst e; right; rw [HD.out]; exact HT.out
              · exact HJ.out j hj (by omega)
            case measure => simp [intOf]; omega
      · have hki : ¬ (k : Int) < 3 := by omega
        have hkn : k = 3 := by omega
        have HRR : Hid (rdK s.data.toList = 0 ∧ rdY s.data.toList = 0 ∧ rdDB s.data.toList = false) := Lib.hid (by
          apply rdD_no
          by_cases hem : s.data.toList = []
          · rw [hem]; exact rdD_nil
          · refine cand_miss (cs := cand3) (fun k x h => HIN.out k x h) (fun d hd => ?_)
            obtain ⟨j, hj, rfl⟩ := List.getElem_of_mem hd
            rcases HJ.out j hj (by rw [hkn]; exact hj) with h | h
            · exact absurd h hem
            · exact h)
        have HBB := Lib.hid (HBl.out.kept HBR.out HBl.out.lt)
        have HBT := Lib.hid (below_onto HB.out HBR.out)
        obtain ⟨hr0, hr1⟩ := HBB.out.cell
        have hf0 := HBB.out.frozen 0; have hf1 := HBB.out.frozen 1
        clear hkn hk
        go_wp2_with fail
        refine bodyPost_ret (results_deed rfl _ _ w.heap.size ((HBB.out.set0 (.int .i64 0)).set1 (.int .i64 0)) rfl rfl (by kernel_rfl)) rfl ?_
        exact ⟨by rw [HRR.out.1, HRR.out.2.1, HRR.out.2.2] <;> rfl, (HBT.out.setCell (p := ⟨w.heap.size, 0, none⟩) (Nat.le_refl _) _).setCell (p := ⟨w.heap.size, 1, none⟩) (Nat.le_refl _) _⟩
end Go.Proofs.YthaickihoagnmaaGreatDoor

