import Derived.Test.YtdlafcioopclhaaGreatDrawU
import Derived.Test.YtdlafcioopclhaaGreatDrawF
import Derived.Test.YtdlafcioopclhaaGreatFamU
namespace Go.Proofs.YtdlafcioopclhaaGreat
open Go.RowKit Go.Maps

theorem doneL_rng (n : Nat) (f : Nat → Int) (F : Nat → Bool) : (doneL n f F).length ≤ 7 ∧ ∀ y ∈ doneL n f F, I64 y := by
  unfold doneL
  split
  · next h =>
    unfold roomB at h
    rw [Bool.and_eq_true, decide_eq_true_eq] at h
    have hP := famOk_iff.1 h.1
    refine ⟨h.2, fun y hy => ?_⟩
    unfold withL at hy
    rcases List.mem_append.1 hy with hy | hy
    · obtain ⟨k, hk, rfl⟩ := List.mem_map.1 hy
      exact hP.i64 (List.mem_range.1 hk)
    · exact fam_I64 _ (by omega) y hy
  · exact ⟨by simp, by simp⟩
theorem wfL_rng (n : Nat) (f : Nat → Int) : (wfL n f).length ≤ 7 ∧ ∀ y ∈ wfL n f, I64 y := by
  unfold wfL
  split
  · next h =>
    have h7 := (famOk_iff.1 h).hi
    exact ⟨by rw [rowL_len]; exact h7, rowL_mem (P := I64) (fun i _ => wf_I64 n f i)⟩
  · exact ⟨by simp, by simp⟩
theorem OwnX.gives {w : World} {B : Nat} {v : Value} {xs : List Int} (h : OwnX w B 3 v xs) (hl : xs.length ≤ 1000) (h64 : ∀ x ∈ xs, I64 x) :
    ∃ (a : Option Addr) (cap : Nat) (f : Nat → Int), v = .slice a xs.length cap ∧ Ints w a xs.length f ∧ (1 ≤ xs.length → xs.length ≤ cap ∧ cap ≤ 9223372036854775807) := (h.own h64).ints hl

set_option maxRecDepth 100000 in
set_option maxHeartbeats 1600000 in
theorem DrawFamilyOf_any (a : Option Addr) (n cap : Nat) (w : World) (h : BytesIn w a n cap) :
    Calls Tryz.prog 4 #[.slice a n cap] w (DrawnOne w) := by
  have H := Lib.hid h; clear h
  go_enter Tryz.func4, Tryz.ntmps4
  go_wp2_with fail
  refine (open_any _ _ _ _ H.out).mono ?_
  rintro e w1 ⟨rfl, hb1, hr1⟩
  have HB1 := Lib.hid hb1; have HR1 := Lib.hid hr1; clear hb1 hr1
  go_wp2_with fail
  refine (pick_any _ 0 2 (by omega) _ HR1.out).mono ?_
  rintro e w2 ⟨x, rfl, hx, ho2, hr2⟩
  have HB2 := Lib.hid (HB1.out.trans (ho2.below (Nat.le_refl _) HB1.out.size)); have HR2 := Lib.hid hr2
  clear ho2 hr2
  by_cases hx0 : x < 1
  · have hq0 : ((x : Int) == 0) = true := by rw [beq_iff_eq]; omega
    go_wp2_with fail
    refine (full_any _ _ 9 (by omega) (by omega) (by omega) _ HR2.out).mono ?_
    rintro e w3 ⟨v, m, rfl, hm, hown, ho, hr⟩
    obtain ⟨a2, c2, f, rfl, hi, hcap⟩ := hown.ints (by omega)
    have hb3 : Below w.heap.size w w3 := HB2.out.trans (ho.below (Nat.le_refl _) HB2.out.size)
    clear hown ho hr
    go_wp2_with fail
    go_ret
    exact ⟨_, m, _, f, rfl, hm, hi, hb3, hcap⟩
  · have hq0 : ((x : Int) == 0) = false := by rw [beq_eq_false_iff_ne]; omega
    go_wp2_with fail
    refine (sets_any _ _ 14 (by omega) (by omega) (by omega) _ HR2.out).mono ?_
    rintro e w3 ⟨v, m, rfl, hm, hown, ho, hr⟩
    obtain ⟨a3, c3, f, rfl, hi, hcap⟩ := hown.ints (by omega)
    have HB3 := Lib.hid (HB2.out.trans (ho.below (Nat.le_refl _) HB2.out.size)); have HR3 := Lib.hid hr; have HI := Lib.hid hi
    clear hown ho hr hi hcap
    go_wp2_with fail
    refine (specWithPoints_any _ m c3 f _ HI.out).mono ?_
    rintro e w4 ⟨v4, rfl, hown4, hb4⟩
    obtain ⟨hl4, h644⟩ := doneL_rng m f (FP (memS m f))
    obtain ⟨a4, c4, g, rfl, hi4, _⟩ := hown4.gives (by omega) h644
    have HB4 := Lib.hid (below_onto HB3.out hb4); have HR4 := Lib.hid (HR3.out.below hb4); have HI4 := Lib.hid hi4
    obtain ⟨bb, hbb⟩ : ∃ bb, roomB m f (FP (memS m f)) = bb := ⟨_, rfl⟩
    rw [hbb]
    obtain ⟨q, hq⟩ : ∃ q, (doneL m f (FP (memS m f))).length = q := ⟨_, rfl⟩
    rw [hq] at HI4 hl4 ⊢
    clear hown4 hb4 hi4 h644 hbb hq
    cases bb with
    | true =>
      go_wp2_with fail
      refine (specWorldFrom_any _ q c4 g _ HI4.out).mono ?_
      rintro e w5 ⟨v5, rfl, hown5, hb5⟩
      obtain ⟨hl5, h645⟩ := wfL_rng q g
      obtain ⟨a5, c5, f5, rfl, hi5, hcap5⟩ := hown5.gives (by omega) h645
      have hb5' : Below w.heap.size w w5 := below_onto HB4.out hb5
      obtain ⟨q5, hq5⟩ : ∃ q5, (wfL q g).length = q5 := ⟨_, rfl⟩
      rw [hq5] at hi5 hcap5 hl5 ⊢
      clear hown5 hb5 h645 hq5
      go_wp2_with fail
      go_ret
      exact ⟨_, q5, _, f5, rfl, by omega, hi5, hb5', hcap5⟩
    | false =>
      go_wp2_with fail
      refine (world_any _ _ 9 (by omega) (by omega) (by omega) _ HR4.out).mono ?_
      rintro e w5 ⟨v, m5, rfl, hm5, hown5, ho5, hr5⟩
      obtain ⟨a5, c5, f5, rfl, hi5, hcap5⟩ := hown5.ints (by omega)
      have hb5 : Below w.heap.size w w5 := HB4.out.trans (ho5.below (Nat.le_refl _) HB4.out.size)
      clear hown5 ho5 hr5
      go_wp2_with fail
      go_ret
      exact ⟨_, m5, _, f5, rfl, hm5, hi5, hb5, hcap5⟩
end Go.Proofs.YtdlafcioopclhaaGreat
