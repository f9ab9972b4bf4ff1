import Derived.Test.YtglnefffkcillaaWcS
namespace Go.Proofs.Ytglnefffkcillaa
set_option linter.unusedVariables false
set_option linter.unusedSimpArgs false
open Go.RowKit Go.Maps

/-- where the parts of a thing come to, of those below b -/
def rnK (f : Nat → Int) (o : Nat → Nat) (a : Nat) : Nat → Int
  | 0 => 0
  | b + 1 => if hasB (f a) b then bits .or .i64 (rnK f o a b) (2 ^ o b) else rnK f o a b
/-- the world behind a things -/
def rnF (f : Nat → Int) (o : Nat → Nat) (n : Nat) : Nat → Nat → Int
  | 0 => fun _ => 0
  | a + 1 => fun i => if i = o a then rnK f o a n else rnF f o n a i
/-- a world with its things in another order -/
def rnL (n : Nat) (f : Nat → Int) (o : Nat → Nat) : List Int := rowL (rnF f o n n) n

set_option maxRecDepth 100000 in
set_option maxHeartbeats 8000000 in
theorem renamed_any (gw ow cw go oo co n : Nat) (f : Nat → Int) (o : Nat → Nat) (h1 : 1 ≤ n) (hn : n ≤ 7) (hf0 : ∀ i, i < n → 0 ≤ f i) (ho : ∀ i, i < n → o i < n) (w : World) (hw : Row w gw ow n f) (hgw : gw < w.heap.size) (hr : Row w go oo n (fun i => (o i : Int))) (hgo : go < w.heap.size) :
    Calls Try.prog 60 #[.slice (some ⟨gw, ow, none⟩) n cw, .slice (some ⟨go, oo, none⟩) n co] w (Gives 3 (rnL n f o) w) := by
  have hmk := run_make_row' (P := Try.prog) 23 3 (.int .i64 0) 8 Try.underlying23 Try.infoInt rfl .i64 .i64 n (by omega) (by omega)
  have hmade : Rw (w.alloc (.cells (madeCells #[.int .i64 0] n) 3)) w.heap.size 3 n n (rnF f o n 0) := World.rowIs_made w (.int .i64 0) n 3
  have hbel := alloc_below w (.cells (madeCells #[.int .i64 0] n) 3)
  have HM := Lib.hid hmade; have HB := Lib.hid hbel
  have HW := Lib.hid hw; have HR := Lib.hid hr; have HF0 := Lib.hid hf0; have HO := Lib.hid ho
  clear hmade hbel hw hr hf0 ho
  go_enter Try.func60, Try.ntmps60
  go_wp2_with fail
  go_loopw [6, 7, 8] (fun a _ _ wr => ∃ k : Nat, k ≤ n ∧ a = .int .i64 k ∧ Hid (Rw wr w.heap.size 3 n n (rnF f o n k)) ∧ Hid (Below w.heap.size w wr)) (fun a _ _ _ => n - (intOf a).toNat)
  case atStart => exact ⟨0, Nat.zero_le _, rfl, HM, HB⟩
  case round =>
    obtain ⟨a, ha, rfl, hrw, hb⟩ := hrel
    clear HM HB
    by_cases hlt : a < n
    · have hai : (a : Int) < (n : Int) := by omega
      have ha0 : (0 : Int) ≤ (a : Int) := by omega
      have hca := HW.out.below hb.out hgw a hlt
      have hoa : wr.cell? ⟨go, oo + a, none⟩ = some (.int .i64 (o a : Int)) := HR.out.below hb.out hgo a hlt
      have hf0 := HF0.out a hlt
      have hol := HO.out a hlt
      have HRR := Lib.hid (HR.out.below hb.out hgo)
      obtain ⟨fa, hfa⟩ : ∃ fa, f a = fa := ⟨_, rfl⟩
      rw [hfa] at hca hf0
      have HFA := Lib.hid hfa
      clear hfa
      go_wp2_with fail
      go_loopw [7, 8] (fun s i wx => ∃ k : Nat, k ≤ n ∧ i = .int .i64 k ∧ s = .int .i64 (rnK f o a k) ∧ wx = wr) (fun _ i _ => n - (intOf i).toNat)
      case atStart => exact ⟨0, Nat.zero_le _, rfl, rfl, rfl⟩
      case round =>
        obtain ⟨b, hbn, rfl, rfl, rfl⟩ := hrel
        by_cases hlb : b < n
        · have hbi : (b : Int) < (n : Int) := by omega
          have hb0 : (0 : Int) ≤ (b : Int) := by omega
          have hob : wr.cell? ⟨go, oo + b, none⟩ = some (.int .i64 (o b : Int)) := HRR.out b hlb
          have hbl := HO.out b hlb
          obtain ⟨ob, hob2⟩ : ∃ ob, o b = ob := ⟨_, rfl⟩
          rw [hob2] at hob hbl
          have ⟨hp1, hp2⟩ := pow_bounds ob (by omega)
          have hwr : IntKind.i64.wrap (2 ^ ob) = 2 ^ ob := wrap_in _ (by unfold I64; omega)
          cases hh : hasB fa b with
          | false =>
            have HS := Lib.hid (show rnK f o a (b + 1) = rnK f o a b by rw [rnK, HFA.out, hh]; rfl)
            have HH := Lib.hid hh
            clear hh hob2
            go_wp2_with fail
            refine (l1Has_val _ b false _ HH.out (by omega) hf0).mono ?_
            rintro e w9 ⟨rfl, rfl⟩
            go_wp2_with fail
            go_roundw
            case rel => exact ⟨b + 1, by omega, by go_num, by rw [HS.out], by first | rfl | trivial⟩
            case measure => simp [intOf]; omega
          | true =>
            have HS := Lib.hid (show rnK f o a (b + 1) = bits .or .i64 (rnK f o a b) (2 ^ ob) by rw [rnK, HFA.out, hh, hob2]; rfl)
            have HH := Lib.hid hh
            clear hh hob2
            go_wp2_with fail
            refine (l1Has_val _ b true _ HH.out (by omega) hf0).mono ?_
            rintro e w9 ⟨rfl, rfl⟩
            go_wp2_with fail
            go_roundw
            case rel => exact ⟨b + 1, by omega, by go_num, by rw [HS.out], by first | rfl | trivial⟩
            case measure => simp [intOf]; omega
        · have hbi : ¬ (b : Int) < (n : Int) := by omega
          have hbe : b = n := by omega
          subst hbe
          obtain ⟨oa, hoa2⟩ : ∃ oa, o a = oa := ⟨_, rfl⟩
          rw [hoa2] at hoa hol
          have HOA := Lib.hid hoa2
          have hcc := hrw.out.cell oa hol
          have hff := hrw.out.frozen oa
          have hoi : (oa : Int) < (b : Int) := by omega
          have ho0 : (0 : Int) ≤ (oa : Int) := by omega
          obtain ⟨S, hS⟩ : ∃ S, rnK f o a b = S := ⟨_, rfl⟩
          have HSS := Lib.hid hS
          rw [hS]
          clear hoa2 hS
          go_wp2_with fail
          go_roundw
          case rel =>
            refine ⟨a + 1, by omega, by go_num, Lib.hid ((hrw.out.set oa S).less (Nat.le_refl _) (fun i hi => ?_)), Lib.hid (hb.out.setCell (p := ⟨w.heap.size, oa, none⟩) (Nat.le_refl _) _)⟩
            show (if i = oa then S else rnF f o b a i) = rnF f o b (a + 1) i
            rw [rnF, HOA.out, HSS.out]
          case measure => simp [intOf]; omega
    · have hai : ¬ (a : Int) < (n : Int) := by omega
      have hae : a = n := by omega
      subst hae
      have hs := hrw.out.cap (i := 0) (by omega)
      go_wp2_with fail
      go_ret
      exact ⟨_, rfl, Rw.own (hrw.out.less (Nat.le_refl _) (fun i hi => (rowL_getD _ _ _ hi).symm)) (rowL_len _ _).symm (Nat.le_refl _) (Nat.le_refl _) (by unfold maxLen; omega), hb.out⟩
end Go.Proofs.Ytglnefffkcillaa
