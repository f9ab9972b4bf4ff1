import Derived.Test.YtdlafcioopclhaaFamS
import Derived.Test.YtdlafcioopclhaaDrawF
import Derived.Test.YtdlafcioopclhaaLawC
namespace Go.Proofs.Ytdlafcioopclhaa
open Go.RowKit

theorem lit_fam (xs : List Int) (n : Nat) (hn : xs.length = n) (h : ∀ x ∈ xs, I64 x) (hl : xs.length ≤ 1000) (cs : Array Value) (hcs : cs = (xs.map (Value.int .i64)).toArray) (v : Bool) (hv : famOkB n (fun i => xs.getD i 0) = v) (w : World) :
    Calls Try.prog 12 #[.slice (some ⟨w.heap.size, 0, none⟩) n n] (w.alloc (.cells cs 3)) fun e w' => e = .returned (.bool v) ∧ Below w.heap.size w w' := by
  subst hn
  refine (FamilyOk_val _ _ _ (fun i => xs.getD i 0) v _ hv (lit_ints w xs h hl cs hcs 3)).mono ?_
  rintro e w' ⟨rfl, hb⟩
  exact ⟨rfl, (alloc_below w (.cells cs 3)).trans (hb.mono (by rw [alloc_size]; omega))⟩
theorem fam_1 : famOkB 1 (fun i => ([1] : List Int).getD i 0) = true := by decide
theorem fam_15 : famOkB 1 (fun i => ([15] : List Int).getD i 0) = true := by decide
theorem fam_11 : famOkB 2 (fun i => ([1, 1] : List Int).getD i 0) = false := by decide
theorem ints_less {w : World} {a : Option Addr} {n k : Nat} {f : Nat → Int} (h : Ints w a n f) (hk : k ≤ n) : Ints w a k f := by
  obtain ⟨⟨h1, h2⟩, h3⟩ := h
  refine ⟨⟨by omega, fun i hi => h2 i (by omega)⟩, ?_⟩
  rcases h3 with h3 | ⟨b, o, h4, h5, h6⟩
  · exact .inl (by omega)
  · exact .inr ⟨b, o, h4, h5, fun i hi => h6 i (by omega)⟩

set_option maxRecDepth 100000 in
set_option maxHeartbeats 8000000 in
theorem lawFamilyOk (a : Option Addr) (n cap : Nat) (w : World) (h : BytesIn w a n cap) :
    Calls Try.prog 3 #[.slice a n cap] w (TrueEnd w) := by
  have hlen := h.len
  have H := Lib.hid h; clear h
  by_cases hn : 1048576 < n
  · go_enter Try.func3, Try.ntmps3
    go_wp2_with fail
    go_ret
    exact ⟨rfl, Below.refl _ _⟩
  · go_enter Try.func3, Try.ntmps3
    go_wp2_with fail
    refine (DrawFamilyOk_any _ _ _ _ H.out).mono ?_
    rintro e w1 ⟨d, m, c, f, rfl, hm, hi, hb1, hcap⟩
    have HI := Lib.hid hi; have HB := Lib.hid hb1
    clear hi hb1
    cases hf : famOkB m f with
    | false =>
      have HF := Lib.hid hf; clear hf hcap
      go_wp2_with fail
      refine (FamilyOk_val _ m c f false _ HF.out HI.out).mono ?_
      rintro e w9 ⟨rfl, hb2⟩
      replace HI := Lib.hid (HI.out.next hb2)
      replace HB := Lib.hid (below_onto HB.out hb2); clear hb2
      go_wp2_with fail
      refine (specFamilyOk_val _ m c f false _ HF.out HI.out).mono ?_
      rintro e w9 ⟨rfl, hd3⟩
      replace HI := Lib.hid (HI.out.drew hd3)
      replace HB := Lib.hid (below_onto HB.out hd3.below); clear hd3
      go_wp2_with fail
      refine (lit_fam [1] 1 rfl (small_I64 (by decide)) (by decide) _ rfl true fam_1 _).mono ?_
      rintro e w9 ⟨rfl, hb2⟩
      replace HI := Lib.hid (HI.out.next hb2)
      replace HB := Lib.hid (below_onto HB.out hb2); clear hb2
      go_wp2_with fail
      refine (lit_fam [15] 1 rfl (small_I64 (by decide)) (by decide) _ rfl true fam_15 _).mono ?_
      rintro e w9 ⟨rfl, hb2⟩
      replace HI := Lib.hid (HI.out.next hb2)
      replace HB := Lib.hid (below_onto HB.out hb2); clear hb2
      go_wp2_with fail
      refine (lit_fam [1, 1] 2 rfl (small_I64 (by decide)) (by decide) _ rfl false fam_11 _).mono ?_
      rintro e w9 ⟨rfl, hb2⟩
      replace HI := Lib.hid (HI.out.next hb2)
      replace HB := Lib.hid (below_onto HB.out hb2); clear hb2
      go_wp2_with fail
      refine (alive_any _).mono ?_
      rintro e w9 ⟨rfl, hb2⟩
      replace HB := Lib.hid (below_onto HB.out hb2); clear hb2
      go_wp2_with fail
      go_ret
      exact ⟨rfl, HB.out⟩
    | true =>
      have hP := famOk_iff.1 hf
      have h1 := hP.lo
      obtain ⟨hcap1, hcap2⟩ := hcap h1
      have HF := Lib.hid hf; clear hf hcap hP
      by_cases hm1 : m = 1
      · subst hm1
        go_wp2_with fail
        refine (FamilyOk_val _ 1 c f true _ HF.out HI.out).mono ?_
        rintro e w9 ⟨rfl, hb2⟩
        replace HI := Lib.hid (HI.out.next hb2)
        replace HB := Lib.hid (below_onto HB.out hb2); clear hb2
        go_wp2_with fail
        refine (specFamilyOk_val _ 1 c f true _ HF.out HI.out).mono ?_
        rintro e w9 ⟨rfl, hd3⟩
        replace HI := Lib.hid (HI.out.drew hd3)
        replace HB := Lib.hid (below_onto HB.out hd3.below); clear hd3
        go_wp2_with fail
        refine (lit_fam [1] 1 rfl (small_I64 (by decide)) (by decide) _ rfl true fam_1 _).mono ?_
        rintro e w9 ⟨rfl, hb2⟩
        replace HI := Lib.hid (HI.out.next hb2)
        replace HB := Lib.hid (below_onto HB.out hb2); clear hb2
        go_wp2_with fail
        refine (lit_fam [15] 1 rfl (small_I64 (by decide)) (by decide) _ rfl true fam_15 _).mono ?_
        rintro e w9 ⟨rfl, hb2⟩
        replace HI := Lib.hid (HI.out.next hb2)
        replace HB := Lib.hid (below_onto HB.out hb2); clear hb2
        go_wp2_with fail
        refine (lit_fam [1, 1] 2 rfl (small_I64 (by decide)) (by decide) _ rfl false fam_11 _).mono ?_
        rintro e w9 ⟨rfl, hb2⟩
        replace HI := Lib.hid (HI.out.next hb2)
        replace HB := Lib.hid (below_onto HB.out hb2); clear hb2
        go_wp2_with fail
        refine (alive_any _).mono ?_
        rintro e w9 ⟨rfl, hb2⟩
        replace HB := Lib.hid (below_onto HB.out hb2); clear hb2
        go_wp2_with fail
        go_ret
        exact ⟨rfl, HB.out⟩
      · have HL := Lib.hid (famOk_less HF.out hm1)
        have hmb : ((m : Int) == 1) = false := by rw [beq_eq_false_iff_ne]; omega
        have hs1 : (0 : Int) ≤ (m : Int) - 1 := by omega
        have hs2 : (m : Int) - 1 ≤ (c : Int) := by omega
        have hs3 : ((m : Int) - 1).toNat = m - 1 := by omega
        obtain ⟨bq, oq, rfl, hbl, hrow⟩ := HI.out.row h1
        clear hrow hm1
        go_wp2_with fail
        refine (FamilyOk_val _ m c f true _ HF.out HI.out).mono ?_
        rintro e w9 ⟨rfl, hb2⟩
        replace HI := Lib.hid (HI.out.next hb2)
        replace HB := Lib.hid (below_onto HB.out hb2); clear hb2
        go_wp2_with fail
        refine (specFamilyOk_val _ m c f true _ HF.out HI.out).mono ?_
        rintro e w9 ⟨rfl, hd3⟩
        replace HI := Lib.hid (HI.out.drew hd3)
        replace HB := Lib.hid (below_onto HB.out hd3.below); clear hd3
        go_wp2_with fail
        refine (lit_fam [1] 1 rfl (small_I64 (by decide)) (by decide) _ rfl true fam_1 _).mono ?_
        rintro e w9 ⟨rfl, hb2⟩
        replace HI := Lib.hid (HI.out.next hb2)
        replace HB := Lib.hid (below_onto HB.out hb2); clear hb2
        go_wp2_with fail
        refine (lit_fam [15] 1 rfl (small_I64 (by decide)) (by decide) _ rfl true fam_15 _).mono ?_
        rintro e w9 ⟨rfl, hb2⟩
        replace HI := Lib.hid (HI.out.next hb2)
        replace HB := Lib.hid (below_onto HB.out hb2); clear hb2
        go_wp2_with fail
        refine (FamilyOk_val _ _ _ f true _ HL.out (ints_less HI.out (by omega))).mono ?_
        rintro e w9 ⟨rfl, hb2⟩
        replace HI := Lib.hid (HI.out.next hb2)
        replace HB := Lib.hid (below_onto HB.out hb2); clear hb2
        go_wp2_with fail
        refine (lit_fam [1, 1] 2 rfl (small_I64 (by decide)) (by decide) _ rfl false fam_11 _).mono ?_
        rintro e w9 ⟨rfl, hb2⟩
        replace HI := Lib.hid (HI.out.next hb2)
        replace HB := Lib.hid (below_onto HB.out hb2); clear hb2
        go_wp2_with fail
        refine (alive_any _).mono ?_
        rintro e w9 ⟨rfl, hb2⟩
        replace HB := Lib.hid (below_onto HB.out hb2); clear hb2
        go_wp2_with fail
        go_ret
        exact ⟨rfl, HB.out⟩
end Go.Proofs.Ytdlafcioopclhaa
