import Derived.Test.YthbancphegnpdaaTxA
import Derived.Lib.Bytealg
import Derived.Lib.Walk
import Derived.Lib.Strings
import Derived.BigCall
namespace Go.Proofs.Ythbancphegnpdaa
set_option linter.unusedVariables false
set_option linter.unusedSimpArgs false
open Go.RowKit Go.Maps

/-! ### the model's text of a set -/
theorem cutL (k : Nat) (hk : k < 4) (w : World) : (Instr.slice 9 (.string { data := #[97, 98, 99, 100] }) (some (.int .i64 (k : Int))) (some (.int .i64 ((k : Int) + 1))) none).run Try.prog w = .ok (.string (bs [(97 + k).toUInt8])) w := by
  have : k = 0 ∨ k = 1 ∨ k = 2 ∨ k = 3 := by omega
  rcases this with rfl | rfl | rfl | rfl
  · show (Instr.slice 9 (.string { data := #[97, 98, 99, 100] }) (some (.int .i64 0)) (some (.int .i64 1)) none).run Try.prog w = .ok (.string (bs [(97 + 0).toUInt8])) w
    kernel_rfl
  · show (Instr.slice 9 (.string { data := #[97, 98, 99, 100] }) (some (.int .i64 1)) (some (.int .i64 2)) none).run Try.prog w = .ok (.string (bs [(97 + 1).toUInt8])) w
    kernel_rfl
  · show (Instr.slice 9 (.string { data := #[97, 98, 99, 100] }) (some (.int .i64 2)) (some (.int .i64 3)) none).run Try.prog w = .ok (.string (bs [(97 + 2).toUInt8])) w
    kernel_rfl
  · show (Instr.slice 9 (.string { data := #[97, 98, 99, 100] }) (some (.int .i64 3)) (some (.int .i64 4)) none).run Try.prog w = .ok (.string (bs [(97 + 3).toUInt8])) w
    kernel_rfl

set_option maxRecDepth 100000 in
set_option maxHeartbeats 1600000 in
theorem specSetText_in (x : Nat) (hx : okX (x : Int) = true) (w : World) :
    Calls Try.prog 16 #[.int .i64 (x : Int)] w fun e w' => e = .returned (.string (setT (x : Int))) ∧ w = w' := by
  have HX := Lib.hid hx
  have HIN := Lib.hid (inB_true (l := 1) (x := (x : Int)) (h := 15) (okX_iff.1 hx).1 (okX_iff.1 hx).2)
  have HX0 : Hid ((0 : Int) ≤ (x : Int)) := Lib.hid (by omega)
  clear hx
  have HST : Hid (({ data := #[] } : ByteArray) = bs (txtK x 0)) := Lib.hid rfl
  go_enter Try.func16, Try.ntmps16
  go_wp2_with fail
  go_loop [3, 4] (fun v i => ∃ (k : Nat) (o : ByteArray), k ≤ 4 ∧ i = .int .i64 k ∧ v = .string o ∧ o.size ≤ 4 ∧ Hid (o = bs (txtK x k))) (fun _ i => 4 - (intOf i).toNat)
  case atStart => exact ⟨0, _, Nat.zero_le _, rfl, rfl, by decide, HST⟩
  case round =>
    clear HST
    obtain ⟨k, o, hk, rfl, rfl, ho, HO⟩ := hrel
    by_cases hlt : k < 4
    · have hki : (k : Int) < 4 := by omega
      have hk6 : k ≤ 63 := by omega
      cases hg : hasB (x : Int) k with
      | true =>
        have HG := Lib.hid hg; clear hg
        have hsl := fun w => cutL k hlt w
        obtain ⟨c, hc⟩ : ∃ c, bs [(97 + k).toUInt8] = c := ⟨_, rfl⟩
        have hcs : c.size ≤ 1 := by rw [← hc]; exact Nat.le_refl _
        have HN : Hid (o ++ c = bs (txtK x (k + 1))) := Lib.hid (by rw [txtK_yes HG.out, HO.out, ← hc, bs_app])
        have hns : (o ++ c).size ≤ 4 := by
          rw [HN.out, bs_size]
          exact Nat.le_trans (txtK_len x (k + 1)) (by omega)
        have HNS := Lib.hid hns
        rw [hc] at hsl
        clear hc hns
        go_wp2_with fail
        refine (l1In_val _ _ _ true _ HIN.out).mono ?_
        rintro e w' ⟨rfl, rfl⟩
        go_wp2_with fail
        refine (l1Has_val _ _ true _ HG.out hk6 HX0.out).mono ?_
        rintro e w' ⟨rfl, rfl⟩
        go_wp2_with fail
        go_round
        case rel => exact ⟨k + 1, _, by omega, by go_num, rfl, HNS.out, HN⟩
        case measure => simp [intOf]; omega
      | false =>
        have HG := Lib.hid hg; clear hg
        have HN : Hid (o = bs (txtK x (k + 1))) := Lib.hid (by rw [txtK_no HG.out, HO.out])
        go_wp2_with fail
        refine (l1In_val _ _ _ true _ HIN.out).mono ?_
        rintro e w' ⟨rfl, rfl⟩
        go_wp2_with fail
        refine (l1Has_val _ _ false _ HG.out hk6 HX0.out).mono ?_
        rintro e w' ⟨rfl, rfl⟩
        go_wp2_with fail
        go_round
        case rel => exact ⟨k + 1, _, by omega, by go_num, rfl, ho, HN⟩
        case measure => simp [intOf]; omega
    · have hki : ¬ (k : Int) < 4 := by omega
      have hkn : k = 4 := by omega
      rw [hkn] at HO
      have HS : Hid (o = setT (x : Int)) := Lib.hid (by
        unfold setT
        rw [HO.out, setL_yes HX.out, Int.toNat_natCast]; rfl)
      clear hkn hk
      go_wp2_with fail
      go_ret
      exact ⟨rets HS.out, rfl⟩

set_option maxRecDepth 100000 in
set_option maxHeartbeats 800000 in
theorem specSetText_any (x : Int) (w : World) :
    Calls Try.prog 16 #[.int .i64 x] w fun e w' => e = .returned (.string (setT x)) ∧ w = w' := by
  cases hx : okX x with
  | true =>
    obtain ⟨k, rfl⟩ := Int.eq_ofNat_of_zero_le (by have := okX_iff.1 hx; omega : 0 ≤ x)
    exact specSetText_in k hx w
  | false =>
    have HIN := Lib.hid (inB_false (l := 1) (x := x) (h := 15) (okX_no.1 hx))
    have HE : Hid (({ data := #[] } : ByteArray) = setT x) := Lib.hid (by unfold setT; rw [setL_no hx]; rfl)
    clear hx
    go_enter Try.func16, Try.ntmps16
    go_wp2_with fail
    refine wp_loop_rounds 1 ?_
    rw [rounds_succ]
    go_wp2_with fail
    refine (l1In_val _ _ _ false _ HIN.out).mono ?_
    rintro e w' ⟨rfl, rfl⟩
    go_wp2_with fail
    go_ret
    exact ⟨rets HE.out, rfl⟩

/-! ### the first place of a byte -/
theorem ib_no {l : List UInt8} {c : UInt8} (h : l.contains c = false) : Lib.indexByte l c = -1 := by
  induction l with
  | nil => rfl
  | cons b l ih =>
    rw [List.contains_cons, Bool.or_eq_false_iff] at h
    unfold Lib.indexByte
    rw [BEq.comm, h.1, ih h.2]; rfl
theorem ib_yes {l : List UInt8} {c : UInt8} (h : l.contains c = true) : 0 ≤ Lib.indexByte l c := by
  induction l with
  | nil => cases h
  | cons b l ih =>
    rw [List.contains_cons, Bool.or_eq_true] at h
    unfold Lib.indexByte
    cases hb : (b == c) with
    | true => simp
    | false =>
      rw [BEq.comm, hb] at h
      have := ih (by simpa using h)
      have h2 : (Lib.indexByte l c == -1) = false := by simp; omega
      rw [h2]
      simp
      omega
theorem ib_val {l : List UInt8} {c : UInt8} {v : Bool} (h : l.contains c = v) : decide (0 ≤ Lib.indexByte l c) = v := by
  cases v with
  | true => exact decide_eq_true (ib_yes h)
  | false => exact decide_eq_false (by rw [ib_no h]; decide)

set_option maxRecDepth 100000 in
set_option maxHeartbeats 1000000 in
theorem liteIndexByte_any (s : ByteArray) (c : Int) (w : World) :
    Calls Try.prog 63 #[.string s, .int .u8 c] w fun e w' => e = .returned (.int .i64 (Lib.indexByte s.data.toList c.toNat.toUInt8)) ∧ w = w' := by
  go_enter Try.func63, Try.ntmps63
  go_wp2_with fail
  rw [run_callFunc_extern Try.func73 (by kernel_rfl) (by kernel_rfl) (by kernel_rfl) (e := Extern.BytealgIndexByte.indexByte) (by kernel_rfl), Lib.run_indexByteString]
  simp only [Result.andThen]
  rw [Oper.upon_value]
  go_wp2_with fail
  go_ret
  exact ⟨rfl, rfl⟩
theorem IndexByte_any (s : ByteArray) (c : Int) (w : World) :
    Calls Try.prog 47 #[.string s, .int .u8 c] w fun e w' => e = .returned (.int .i64 (Lib.indexByte s.data.toList c.toNat.toUInt8)) ∧ w = w' := by
  go_enter Try.func47, Try.ntmps47
  go_wp2_with fail
  refine (liteIndexByte_any _ _ _).mono ?_
  rintro e w' ⟨rfl, rfl⟩
  go_wp2_with fail
  go_ret
  exact ⟨rfl, rfl⟩
end Go.Proofs.Ythbancphegnpdaa
