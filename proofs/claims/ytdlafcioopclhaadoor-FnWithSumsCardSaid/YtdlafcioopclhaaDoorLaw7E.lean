import Derived.Test.YtdlafcioopclhaaDoorLaw7M
import Derived.Test.YtdlafcioopclhaaDoorLeast
import Derived.Test.YtdlafcioopclhaaDoorDrawF
import Derived.Test.YtdlafcioopclhaaDoorLawC
import Derived.Deep.RegionHeld3
namespace Go.Proofs.YtdlafcioopclhaaDoor
open Go.RowKit Go.Maps

theorem least_uniq7 {n : Nat} {f : Nat → Int} (hP : WorldP n f) {x : Int} {a b : Nat} (ha : a < n) (hb : b < n) (h1 : leastG n f x a = true) (h2 : leastG n f x b = true) : a = b := by
  have h7 := hP.hi
  unfold leastG at h1 h2
  rw [Bool.and_eq_true, within_iff] at h1 h2
  have e1 := h1.2 b (by omega) h2.1
  have e2 := h2.2 a (by omega) h1.1
  rw [wholesS_bit (by omega), Bool.and_eq_true] at e1 e2
  exact anti_eq hP ha hb e2.2 e1.2
theorem wrap_pow7 : ∀ {a : Nat}, a < 7 → IntKind.i64.wrap (2 ^ a) = 2 ^ a := by decide
theorem least_at7 {n : Nat} {f : Nat → Int} (hP : WorldP n f) {s : Int} (hs : setB n f s = true) {k : Nat} (hk : k < n) (h1 : leastG n f (boundsI n f s) k = true) : leastN n f s = k ∧ leastOk n f s = true := by
  refine least_found hs hk (decide_eq_true (fun a ha => ?_)) h1
  cases e : leastG n f (boundsI n f s) a with
  | false => rfl
  | true => have := least_uniq7 hP (by omega) hk e h1; omega

set_option maxRecDepth 100000 in
set_option maxHeartbeats 8000000 in
theorem lawWithSums (a : Option Addr) (n cap : Nat) (w : World) (h : BytesIn w a n cap) (hT : TabW w) :
    Calls Tryd.prog 3 #[.slice a n cap] w (TrueEnd w) := by
  have hlen := h.len
  have H := Lib.hid h; clear h
  have HT := Lib.hid hT; clear hT
  by_cases hn : 1048576 < n
  · go_enter Tryd.func3, Tryd.ntmps3
    go_wp2_with fail
    go_ret
    exact ⟨rfl, Below.refl _ _⟩
  · go_enter Tryd.func3, Tryd.ntmps3
    go_wp2_with fail
    refine (DrawWithSums_any _ _ _ _ H.out).mono ?_
    rintro e w1 ⟨d, m, c, f, rfl, hm, hi, hb1, hcap⟩
    have HI := Lib.hid hi; have HB := Lib.hid hb1
    clear hi hb1
    cases hr : roomB m f (FS m f) with
    | false =>
      have HDL := Lib.hid (no_room hr); have HRM := Lib.hid hr
      clear hr hcap
      go_wp2_with fail
      refine (WithSums_any _ m c f _ HI.out).mono ?_
      intro e w2 hg
      rw [HDL.out, HRM.out] at hg
      obtain ⟨a2, c2, rfl, hb2⟩ := hg.none
      replace HI := Lib.hid (HI.out.next hb2); replace HB := Lib.hid (below_onto HB.out hb2); clear hg hb2
      go_wp2_with fail
      refine (specWithSums_any _ m c f _ HI.out).mono ?_
      intro e w2 hg
      rw [HDL.out, HRM.out] at hg
      obtain ⟨a3, c3, rfl, hb2⟩ := hg.none
      replace HI := Lib.hid (HI.out.next hb2); replace HB := Lib.hid (below_onto HB.out hb2); clear hg hb2
      go_wp2_with fail
      refine (sameInts_nil _ _ _ _ _).mono ?_
      rintro e w9 ⟨rfl, hd3⟩
      replace HI := Lib.hid (HI.out.drew hd3)
      replace HB := Lib.hid (below_onto HB.out hd3.below); clear hd3
      go_wp2_with fail
      refine (alive_any _).mono ?_
      rintro e w9 ⟨rfl, hb2⟩
      replace HB := Lib.hid (below_onto HB.out hb2); clear hb2
      go_wp2_with fail
      go_ret
      exact ⟨rfl, HB.out⟩
    | true =>
      obtain ⟨hPf, M, G, hdl, hPG, hmM, hmem, hhead⟩ := room_fam hr (fun hf => ⟨fun t ht => FS_sub (famOk_iff.1 hf) ht, fun t ht => (FS_iff.1 ht).1⟩)
      have hcl := FS_closed hmem
      obtain ⟨hag, hagr⟩ := again_done hPG (FS_same hPG hcl)
      have h1M := hPG.lo
      have h7M := hPG.hi
      have hlo := hPf.lo
      have HDL := Lib.hid hdl; have HRM := Lib.hid hr; have HPG := Lib.hid hPG; have HCL := Lib.hid hcl
      have HAG := Lib.hid hag; have HAGR := Lib.hid hagr; have HWL := Lib.hid (wf_list hPG); have HHD := Lib.hid hhead
      have HWW := Lib.hid (wf_world hPG)
      clear hr hcap hPf hdl hPG hmem hag hagr hhead hcl
      go_wp2_with fail
      refine (WithSums_any _ m c f _ HI.out).mono ?_
      intro e w2 hg
      rw [HDL.out, HRM.out] at hg
      obtain ⟨g, cx, rfl, _, hg2, hcx1, hcx2, hrow, hb2⟩ := hg.row h1M
      replace HI := Lib.hid (HI.out.next hb2); replace HB := Lib.hid (below_onto HB.out hb2)
      have HROW := Lib.hid hrow; clear hg hb2 hrow
      go_wp2_with fail
      refine (specWithSums_any _ m c f _ HI.out).mono ?_
      intro e w3 hg
      rw [HDL.out, HRM.out] at hg
      obtain ⟨g3, c3, rfl, _, _, _, _, hrow3, hb2⟩ := hg.row h1M
      replace HI := Lib.hid (HI.out.next hb2); replace HB := Lib.hid (below_onto HB.out hb2)
      replace HROW := Lib.hid (HROW.out.below hb2 hg2)
      have hg4 : g < w3.heap.size := Nat.lt_of_lt_of_le hg2 hb2.size
      clear hg hb2 hg2
      go_wp2_with fail
      refine (sameInts_row _ _ _ _ _ _ _ _ (by omega) _ HROW.out hrow3).mono ?_
      rintro e w4 ⟨rfl, hd3⟩
      replace HI := Lib.hid (HI.out.drew hd3); replace HB := Lib.hid (below_onto HB.out hd3.below)
      replace HROW := Lib.hid (HROW.out.below hd3.below hg4)
      have hg5 : g < w4.heap.size := Nat.lt_of_lt_of_le hg4 hd3.below.size
      have HIX := Lib.hid (ints_row HROW.out hg5 (by omega) (fun i hi => HPG.out.i64 hi))
      clear hd3 hrow3 hg4 hg5
      go_wp2_with fail
      refine (specWorldFrom_any _ M cx G _ HIX.out).mono ?_
      intro e w5 hg
      rw [HWL.out] at hg
      obtain ⟨gw, cw, rfl, _, hgw, hroww, hb2⟩ := hg.row h1M
      replace HI := Lib.hid (HI.out.next hb2); replace HIX := Lib.hid (HIX.out.next hb2); replace HB := Lib.hid (below_onto HB.out hb2)
      have HIW := Lib.hid (ints_row hroww hgw (by omega) (fun i _ => wf_I64 M G i))
      clear hg hb2 hroww hgw HROW
      have HTS := Lib.hid (HT.out.below HB.out)
      obtain ⟨wS, ewS⟩ : ∃ wS, wS = w5 := ⟨_, rfl⟩
      subst ewS
      go_wp2_with fail
      go_loopw [9] (fun i wr => ∃ k : Nat, k ≤ M ∧ i = .int .i64 k ∧ Below wS.heap.size wS wr) (fun i _ => M - (intOf i).toNat)
      case atStart => exact ⟨0, Nat.zero_le _, rfl, Below.refl _ _⟩
      case round =>
        obtain ⟨a, hka, rfl, hbr⟩ := hrel
        have HBR := Lib.hid hbr; clear hbr
        by_cases ha : a < M
        · have hai : (a : Int) < (M : Int) := by omega
          go_wp2_with fail
          go_loopw [10] (fun i wr => ∃ j : Nat, j ≤ M ∧ i = .int .i64 j ∧ Below wS.heap.size wS wr) (fun i _ => M - (intOf i).toNat)
          case atStart => exact ⟨0, Nat.zero_le _, rfl, HBR.out⟩
          case round =>
            clear HBR
            obtain ⟨b, hkb, rfl, hbr⟩ := hrel
            have HBR := Lib.hid hbr; clear hbr
            by_cases hb : b < M
            · have hbi : (b : Int) < (M : Int) := by omega
              obtain ⟨q, hq, eq⟩ := join_at HPG.out HCL.out ha hb
              obtain ⟨hq1, hq2⟩ := least_at7 (wf_P HPG.out) (pair_set HPG.out ha hb) hq (join_least HPG.out ha hb hq eq)
              have HQ1 := Lib.hid hq1; have HQ2 := Lib.hid hq2
              have HWA := Lib.hid (wrap_pow7 (show a < 7 by omega)); have HWB := Lib.hid (wrap_pow7 (show b < 7 by omega))
              have HC := Lib.hid (fun (k : Nat) (hk : k < M) (W : World) (hW : Below wS.heap.size wS W) => (show W.cell? ⟨g, k, none⟩ = some (.int .i64 (G k)) by
                obtain ⟨b', o', e', _, hr'⟩ := (HIX.out.below hW (Nat.le_refl _)).row h1M
                cases e'; have := hr' k hk; rwa [Nat.zero_add] at this))
              have hqi : (q : Int) < (M : Int) := by omega
              have hq0 : ¬ (q : Int) < 0 := by omega
              have hqM : ¬ (M : Int) ≤ (q : Int) := by omega
              have hqd0 : decide ((q : Int) < 0) = false := decide_eq_false hq0
              have hqdM : decide ((M : Int) ≤ (q : Int)) = false := decide_eq_false hqM
              have hqdN : decide (M ≤ q) = false := decide_eq_false (by omega)
              have hqe : (G q != bits .or .i64 (G a) (G b)) = false := by rw [eq]; exact bne_self_eq_false _
              clear hq1 hq2 eq
              go_wp2_with fail
              refine wp_region_noPanic ?_
              refine wp_region_held_drew (S := (fun _ => True)) (by kernel_rfl) ?_ (fun hHeld => ?_)
              · trivial
              refine wpAnyH_take (i := 0) (v := ?_) rfl (by kernel_rfl) (by kernel_rfl) (by kernel_rfl) (fun _ _ _ h => h) (Or.inl ⟨by rfl, ?_⟩) (by assumption) ?_
              rotate_left
              · ((intro w hSw; (try dsimp only at hSw); go_simp) <;> with_reducible rfl)
              try simp only [Act.put, List.setIfInBounds_toArray, List.set_cons_zero, List.set_cons_succ, List.getElem_toArray, List.getElem_cons_zero]
              refine wpAnyH_take (i := 1) (v := ?_) rfl (by kernel_rfl) (by kernel_rfl) (by kernel_rfl) (fun _ _ _ h => h) (Or.inl ⟨by rfl, ?_⟩) (by assumption) ?_
              rotate_left
              · ((intro w hSw; (try dsimp only at hSw); go_simp) <;> with_reducible rfl)
              try simp only [Act.put, List.setIfInBounds_toArray, List.set_cons_zero, List.set_cons_succ, List.getElem_toArray, List.getElem_cons_succ, List.getElem_cons_zero]
              refine wpAnyH_take (i := 2) (v := ?_) rfl (by kernel_rfl) (by kernel_rfl) (by kernel_rfl) (fun _ _ _ h => h) (Or.inl ⟨by rfl, ?_⟩) (by assumption) ?_
              rotate_left
              · ((intro w hSw; (try dsimp only at hSw); go_simp) <;> with_reducible rfl)
              try simp only [Act.put, List.setIfInBounds_toArray, List.set_cons_zero, List.set_cons_succ, List.getElem_toArray, List.getElem_cons_succ, List.getElem_cons_zero]
              refine wpAnyH_take (i := 3) (v := ?_) rfl (by kernel_rfl) (by kernel_rfl) (by kernel_rfl) (fun _ _ _ h => h) (Or.inl ⟨by rfl, ?_⟩) (by assumption) ?_
              rotate_left
              · ((intro w hSw; (try dsimp only at hSw); go_simp) <;> with_reducible rfl)
              try simp only [Act.put, List.setIfInBounds_toArray, List.set_cons_zero, List.set_cons_succ, List.getElem_toArray, List.getElem_cons_succ, List.getElem_cons_zero]
              refine wpAnyH_take (i := 4) (v := ?_) rfl (by kernel_rfl) (by kernel_rfl) (by kernel_rfl) (fun _ _ _ h => h) (Or.inl ⟨by rfl, ?_⟩) (by assumption) ?_
              rotate_left
              · ((intro w hSw; (try dsimp only at hSw); go_simp) <;> with_reducible rfl)
              try simp only [Act.put, List.setIfInBounds_toArray, List.set_cons_zero, List.set_cons_succ, List.getElem_toArray, List.getElem_cons_succ, List.getElem_cons_zero]
              refine wpAnyH_take (i := 5) (v := ?_) rfl (by kernel_rfl) (by kernel_rfl) (by kernel_rfl) (fun _ _ _ h => h) (Or.inl ⟨by rfl, ?_⟩) (by assumption) ?_
              rotate_left
              · ((intro w hSw; (try dsimp only at hSw); go_simp) <;> with_reducible rfl)
              try simp only [Act.put, List.setIfInBounds_toArray, List.set_cons_zero, List.set_cons_succ, List.getElem_toArray, List.getElem_cons_succ, List.getElem_cons_zero]
              refine wpAnyH_ready (rs := [6]) (by kernel_rfl) (by simp) ?_
              refine AllReadyH.cons rfl (fun K hK => ?_) AllReadyH.nil
              go_simp
              rw [HWA.out, HWB.out]
              refine (LeastBound_val _ M cw (wfF M G) (orI (2 ^ a) (2 ^ b)) q true (orI_I64 _ _) _ HQ1.out HQ2.out (HIW.out.below (by first | exact HBR.out | exact HBR.out.drew) (Nat.le_refl _)) (HTS.out.below (by first | exact HBR.out | exact HBR.out.drew))).mono ?_
              rintro e w9 ⟨rfl, hb9⟩
              replace HBR := Lib.hid (by first | exact below_onto HBR.out hb9 | exact below_onto HBR.out.drew hb9 : Below wS.heap.size wS w9); clear hb9
              go_wp2_with fail
              refine hK.out _ _ ?_ (fun hHeld => ?_)
              · trivial
              clear hK K
              try simp only [Act.put, List.setIfInBounds_toArray, List.set_cons_zero, List.set_cons_succ, List.getElem_toArray, List.getElem_cons_succ, List.getElem_cons_zero]
              refine wpAnyH_take (i := 7) (v := ?_) rfl (by kernel_rfl) (by kernel_rfl) (by kernel_rfl) (fun _ _ _ h => h) (Or.inl ⟨by rfl, ?_⟩) (by assumption) ?_
              rotate_left
              · ((intro w hSw; (try dsimp only at hSw); go_simp) <;> with_reducible rfl)
              try simp only [Act.put, List.setIfInBounds_toArray, List.set_cons_zero, List.set_cons_succ, List.getElem_toArray, List.getElem_cons_succ, List.getElem_cons_zero]
              refine wpAnyH_take (i := 8) (v := ?_) rfl (by kernel_rfl) (by kernel_rfl) (by kernel_rfl) (fun _ _ _ h => h) (Or.inl ⟨by rfl, ?_⟩) (by assumption) ?_
              rotate_left
              · ((intro w hSw; (try dsimp only at hSw); go_simp) <;> with_reducible rfl)
              try simp only [Act.put, List.setIfInBounds_toArray, List.set_cons_zero, List.set_cons_succ, List.getElem_toArray, List.getElem_cons_succ, List.getElem_cons_zero]
              refine wpAnyH_take (i := 9) (v := ?_) rfl (by kernel_rfl) (by kernel_rfl) (by kernel_rfl) (fun _ _ _ h => h) (Or.inl ⟨by rfl, ?_⟩) (by assumption) ?_
              rotate_left
              · ((intro w hSw; (try dsimp only at hSw); go_simp) <;> with_reducible rfl)
              try simp only [Act.put, List.setIfInBounds_toArray, List.set_cons_zero, List.set_cons_succ, List.getElem_toArray, List.getElem_cons_succ, List.getElem_cons_zero]
              refine wpAnyH_take (i := 10) (v := ?_) rfl (by kernel_rfl) (by kernel_rfl) (by kernel_rfl) (fun _ _ _ h => h) (Or.inl ⟨by rfl, ?_⟩) (by assumption) ?_
              rotate_left
              · ((intro w hSw; (try dsimp only at hSw); go_simp) <;> with_reducible rfl)
              try simp only [Act.put, List.setIfInBounds_toArray, List.set_cons_zero, List.set_cons_succ, List.getElem_toArray, List.getElem_cons_succ, List.getElem_cons_zero]
              refine wpAnyH_take (i := 11) (v := ?_) rfl (by kernel_rfl) (by kernel_rfl) (by kernel_rfl) (fun _ _ _ h => h) (Or.inl ⟨by rfl, ?_⟩) (by assumption) ?_
              rotate_left
              · ((intro w hSw; (try dsimp only at hSw); go_simp) <;> with_reducible rfl)
              try simp only [Act.put, List.setIfInBounds_toArray, List.set_cons_zero, List.set_cons_succ, List.getElem_toArray, List.getElem_cons_succ, List.getElem_cons_zero]
              refine wpAnyH_done (by kernel_rfl) ?_ _
              refine NoPanic.normal ?_
              go_wp2_with fail
              refine wp_region_noPanic ?_
              refine wp_region_held_drew (S := (fun w' => w'.cell? ⟨g, q, none⟩ = some (.int .i64 (G q)) ∧ w'.cell? ⟨g, a, none⟩ = some (.int .i64 (G a)) ∧ w'.cell? ⟨g, b, none⟩ = some (.int .i64 (G b)))) (by kernel_rfl) ?_ (fun hHeld => ?_)
              · first | exact ⟨HC.out q hq _ HBR.out, HC.out a ha _ HBR.out, HC.out b hb _ HBR.out⟩ | exact ⟨HC.out q hq _ HBR.out.drew, HC.out a ha _ HBR.out.drew, HC.out b hb _ HBR.out.drew⟩
              refine wpAnyH_take (i := 0) (v := ?_) rfl (by kernel_rfl) (by kernel_rfl) (by kernel_rfl) (fun _ _ _ h => h) (Or.inl ⟨by rfl, ?_⟩) (by assumption) ?_
              rotate_left
              · ((intro w hSw; (try dsimp only at hSw); go_simp) <;> with_reducible rfl)
              try simp only [Act.put, List.setIfInBounds_toArray, List.set_cons_zero, List.set_cons_succ, List.getElem_toArray, List.getElem_cons_zero]
              refine wpAnyH_take (i := 1) (v := ?_) rfl (by kernel_rfl) (by kernel_rfl) (by kernel_rfl) (fun _ _ _ h => h) (Or.inl ⟨by rfl, ?_⟩) (by assumption) ?_
              rotate_left
              · ((intro w hSw; (try dsimp only at hSw); go_simp) <;> with_reducible rfl)
              try simp only [Act.put, List.setIfInBounds_toArray, List.set_cons_zero, List.set_cons_succ, List.getElem_toArray, List.getElem_cons_succ, List.getElem_cons_zero]
              refine wpAnyH_take (i := 2) (v := ?_) rfl (by kernel_rfl) (by kernel_rfl) (by kernel_rfl) (fun _ _ _ h => h) (Or.inl ⟨by rfl, ?_⟩) (by assumption) ?_
              rotate_left
              · ((intro w hSw; (try dsimp only at hSw); go_simp) <;> with_reducible rfl)
              try simp only [Act.put, List.setIfInBounds_toArray, List.set_cons_zero, List.set_cons_succ, List.getElem_toArray, List.getElem_cons_succ, List.getElem_cons_zero]
              refine wpAnyH_take (i := 3) (v := ?_) rfl (by kernel_rfl) (by kernel_rfl) (by kernel_rfl) (fun _ _ _ h => h) (Or.inl ⟨by rfl, ?_⟩) (by assumption) ?_
              rotate_left
              · ((intro w hSw; (try dsimp only at hSw); go_simp) <;> with_reducible rfl)
              try simp only [Act.put, List.setIfInBounds_toArray, List.set_cons_zero, List.set_cons_succ, List.getElem_toArray, List.getElem_cons_succ, List.getElem_cons_zero]
              refine wpAnyH_take (i := 4) (v := ?_) rfl (by kernel_rfl) (by kernel_rfl) (by kernel_rfl) (fun _ _ _ h => h) (Or.inl ⟨by rfl, ?_⟩) (by assumption) ?_
              rotate_left
              · ((intro w hSw; (try dsimp only at hSw); go_simp) <;> with_reducible rfl)
              try simp only [Act.put, List.setIfInBounds_toArray, List.set_cons_zero, List.set_cons_succ, List.getElem_toArray, List.getElem_cons_succ, List.getElem_cons_zero]
              refine wpAnyH_take (i := 5) (v := ?_) rfl (by kernel_rfl) (by kernel_rfl) (by kernel_rfl) (fun _ _ _ h => h) (Or.inl ⟨by rfl, ?_⟩) (by assumption) ?_
              rotate_left
              · ((intro w hSw; (try dsimp only at hSw); go_simp) <;> with_reducible rfl)
              try simp only [Act.put, List.setIfInBounds_toArray, List.set_cons_zero, List.set_cons_succ, List.getElem_toArray, List.getElem_cons_succ, List.getElem_cons_zero]
              refine wpAnyH_take (i := 6) (v := ?_) rfl (by kernel_rfl) (by kernel_rfl) (by kernel_rfl) (fun _ _ _ h => h) (Or.inl ⟨by rfl, ?_⟩) (by assumption) ?_
              rotate_left
              · ((intro w hSw; (try dsimp only at hSw); go_simp) <;> with_reducible rfl)
              try simp only [Act.put, List.setIfInBounds_toArray, List.set_cons_zero, List.set_cons_succ, List.getElem_toArray, List.getElem_cons_succ, List.getElem_cons_zero]
              refine wpAnyH_take (i := 7) (v := ?_) rfl (by kernel_rfl) (by kernel_rfl) (by kernel_rfl) (fun _ _ _ h => h) (Or.inl ⟨by rfl, ?_⟩) (by assumption) ?_
              rotate_left
              · ((intro w hSw; (try dsimp only at hSw); go_simp) <;> with_reducible rfl)
              try simp only [Act.put, List.setIfInBounds_toArray, List.set_cons_zero, List.set_cons_succ, List.getElem_toArray, List.getElem_cons_succ, List.getElem_cons_zero]
              refine wpAnyH_take (i := 8) (v := ?_) rfl (by kernel_rfl) (by kernel_rfl) (by kernel_rfl) (fun _ _ _ h => h) (Or.inl ⟨by rfl, ?_⟩) (by assumption) ?_
              rotate_left
              · ((intro w hSw; (try dsimp only at hSw); go_simp) <;> with_reducible rfl)
              try simp only [Act.put, List.setIfInBounds_toArray, List.set_cons_zero, List.set_cons_succ, List.getElem_toArray, List.getElem_cons_succ, List.getElem_cons_zero]
              refine wpAnyH_take (i := 9) (v := ?_) rfl (by kernel_rfl) (by kernel_rfl) (by kernel_rfl) (fun _ _ _ h => h) (Or.inl ⟨by rfl, ?_⟩) (by assumption) ?_
              rotate_left
              · ((intro w hSw; (try dsimp only at hSw); go_simp) <;> with_reducible rfl)
              try simp only [Act.put, List.setIfInBounds_toArray, List.set_cons_zero, List.set_cons_succ, List.getElem_toArray, List.getElem_cons_succ, List.getElem_cons_zero]
              refine wpAnyH_take (i := 10) (v := ?_) rfl (by kernel_rfl) (by kernel_rfl) (by kernel_rfl) (fun _ _ _ h => h) (Or.inl ⟨by rfl, ?_⟩) (by assumption) ?_
              rotate_left
              · ((intro w hSw; (try dsimp only at hSw); go_simp) <;> with_reducible rfl)
              try simp only [Act.put, List.setIfInBounds_toArray, List.set_cons_zero, List.set_cons_succ, List.getElem_toArray, List.getElem_cons_succ, List.getElem_cons_zero]
              refine wpAnyH_take (i := 11) (v := ?_) rfl (by kernel_rfl) (by kernel_rfl) (by kernel_rfl) (fun _ _ _ h => h) (Or.inl ⟨by rfl, ?_⟩) (by assumption) ?_
              rotate_left
              · ((intro w hSw; (try dsimp only at hSw); go_simp) <;> with_reducible rfl)
              try simp only [Act.put, List.setIfInBounds_toArray, List.set_cons_zero, List.set_cons_succ, List.getElem_toArray, List.getElem_cons_succ, List.getElem_cons_zero]
              refine wpAnyH_take (i := 12) (v := ?_) rfl (by kernel_rfl) (by kernel_rfl) (by kernel_rfl) (fun _ _ _ h => h) (Or.inl ⟨by rfl, ?_⟩) (by assumption) ?_
              rotate_left
              · ((intro w hSw; (try dsimp only at hSw); go_simp) <;> with_reducible rfl)
              try simp only [Act.put, List.setIfInBounds_toArray, List.set_cons_zero, List.set_cons_succ, List.getElem_toArray, List.getElem_cons_succ, List.getElem_cons_zero]
              refine wpAnyH_take (i := 13) (v := ?_) rfl (by kernel_rfl) (by kernel_rfl) (by kernel_rfl) (fun _ _ _ h => h) (Or.inl ⟨by rfl, ?_⟩) (by assumption) ?_
              rotate_left
              · ((intro w hSw; (try dsimp only at hSw); go_simp) <;> with_reducible rfl)
              try simp only [Act.put, List.setIfInBounds_toArray, List.set_cons_zero, List.set_cons_succ, List.getElem_toArray, List.getElem_cons_succ, List.getElem_cons_zero]
              refine wpAnyH_take (i := 14) (v := ?_) rfl (by kernel_rfl) (by kernel_rfl) (by kernel_rfl) (fun _ _ _ h => h) (Or.inl ⟨by rfl, ?_⟩) (by assumption) ?_
              rotate_left
              · ((intro w hSw; (try dsimp only at hSw); go_simp) <;> with_reducible rfl)
              try simp only [Act.put, List.setIfInBounds_toArray, List.set_cons_zero, List.set_cons_succ, List.getElem_toArray, List.getElem_cons_succ, List.getElem_cons_zero]
              refine wpAnyH_take (i := 15) (v := ?_) rfl (by kernel_rfl) (by kernel_rfl) (by kernel_rfl) (fun _ _ _ h => h) (Or.inl ⟨by rfl, ?_⟩) (by assumption) ?_
              rotate_left
              · ((intro w hSw; (try dsimp only at hSw); go_simp) <;> with_reducible rfl)
              try simp only [Act.put, List.setIfInBounds_toArray, List.set_cons_zero, List.set_cons_succ, List.getElem_toArray, List.getElem_cons_succ, List.getElem_cons_zero]
              refine wpAnyH_take (i := 16) (v := ?_) rfl (by kernel_rfl) (by kernel_rfl) (by kernel_rfl) (fun _ _ _ h => h) (Or.inl ⟨by rfl, ?_⟩) (by assumption) ?_
              rotate_left
              · ((intro w hSw; (try dsimp only at hSw); go_simp) <;> with_reducible rfl)
              try simp only [Act.put, List.setIfInBounds_toArray, List.set_cons_zero, List.set_cons_succ, List.getElem_toArray, List.getElem_cons_succ, List.getElem_cons_zero]
              refine wpAnyH_take (i := 17) (v := ?_) rfl (by kernel_rfl) (by kernel_rfl) (by kernel_rfl) (fun _ _ _ h => h) (Or.inl ⟨by rfl, ?_⟩) (by assumption) ?_
              rotate_left
              · ((intro w hSw; (try dsimp only at hSw); go_simp) <;> with_reducible rfl)
              try simp only [Act.put, List.setIfInBounds_toArray, List.set_cons_zero, List.set_cons_succ, List.getElem_toArray, List.getElem_cons_succ, List.getElem_cons_zero]
              refine wpAnyH_take (i := 18) (v := ?_) rfl (by kernel_rfl) (by kernel_rfl) (by kernel_rfl) (fun _ _ _ h => h) (Or.inl ⟨by rfl, ?_⟩) (by assumption) ?_
              rotate_left
              · ((intro w hSw; (try dsimp only at hSw); go_simp) <;> with_reducible rfl)
              try simp only [Act.put, List.setIfInBounds_toArray, List.set_cons_zero, List.set_cons_succ, List.getElem_toArray, List.getElem_cons_succ, List.getElem_cons_zero]
              refine wpAnyH_take (i := 19) (v := ?_) rfl (by kernel_rfl) (by kernel_rfl) (by kernel_rfl) (fun _ _ _ h => h) (Or.inl ⟨by rfl, ?_⟩) (by assumption) ?_
              rotate_left
              · ((intro w hSw; (try dsimp only at hSw); go_simp) <;> with_reducible rfl)
              try simp only [Act.put, List.setIfInBounds_toArray, List.set_cons_zero, List.set_cons_succ, List.getElem_toArray, List.getElem_cons_succ, List.getElem_cons_zero]
              refine wpAnyH_take (i := 20) (v := ?_) rfl (by kernel_rfl) (by kernel_rfl) (by kernel_rfl) (fun _ _ _ h => h) (Or.inl ⟨by rfl, ?_⟩) (by assumption) ?_
              rotate_left
              · ((intro w hSw; (try dsimp only at hSw); go_simp) <;> with_reducible rfl)
              try simp only [Act.put, List.setIfInBounds_toArray, List.set_cons_zero, List.set_cons_succ, List.getElem_toArray, List.getElem_cons_succ, List.getElem_cons_zero]
              refine wpAnyH_take (i := 21) (v := ?_) rfl (by kernel_rfl) (by kernel_rfl) (by kernel_rfl) (fun _ _ _ h => h) (Or.inl ⟨by rfl, ?_⟩) (by assumption) ?_
              rotate_left
              · ((intro w hSw; (try dsimp only at hSw); go_simp) <;> with_reducible rfl)
              try simp only [Act.put, List.setIfInBounds_toArray, List.set_cons_zero, List.set_cons_succ, List.getElem_toArray, List.getElem_cons_succ, List.getElem_cons_zero]
              refine wpAnyH_take (i := 22) (v := ?_) rfl (by kernel_rfl) (by kernel_rfl) (by kernel_rfl) (fun _ _ _ h => h) (Or.inl ⟨by rfl, ?_⟩) (by assumption) ?_
              rotate_left
              · ((intro w hSw; (try dsimp only at hSw); go_simp) <;> with_reducible rfl)
              try simp only [Act.put, List.setIfInBounds_toArray, List.set_cons_zero, List.set_cons_succ, List.getElem_toArray, List.getElem_cons_succ, List.getElem_cons_zero]
              refine wpAnyH_take (i := 23) (v := ?_) rfl (by kernel_rfl) (by kernel_rfl) (by kernel_rfl) (fun _ _ _ h => h) (Or.inl ⟨by rfl, ?_⟩) (by assumption) ?_
              rotate_left
              · ((intro w hSw; (try dsimp only at hSw); go_simp) <;> with_reducible rfl)
              try simp only [Act.put, List.setIfInBounds_toArray, List.set_cons_zero, List.set_cons_succ, List.getElem_toArray, List.getElem_cons_succ, List.getElem_cons_zero]
              refine wpAnyH_take (i := 24) (v := ?_) rfl (by kernel_rfl) (by kernel_rfl) (by kernel_rfl) (fun _ _ _ h => h) (Or.inl ⟨by rfl, ?_⟩) (by assumption) ?_
              rotate_left
              · ((intro w hSw; (try dsimp only at hSw); go_simp) <;> with_reducible rfl)
              try simp only [Act.put, List.setIfInBounds_toArray, List.set_cons_zero, List.set_cons_succ, List.getElem_toArray, List.getElem_cons_succ, List.getElem_cons_zero]
              refine wpAnyH_take (i := 25) (v := ?_) rfl (by kernel_rfl) (by kernel_rfl) (by kernel_rfl) (fun _ _ _ h => h) (Or.inl ⟨by rfl, ?_⟩) (by assumption) ?_
              rotate_left
              · ((intro w hSw; (try dsimp only at hSw); go_simp) <;> with_reducible rfl)
              try simp only [Act.put, List.setIfInBounds_toArray, List.set_cons_zero, List.set_cons_succ, List.getElem_toArray, List.getElem_cons_succ, List.getElem_cons_zero]
              refine wpAnyH_take (i := 26) (v := ?_) rfl (by kernel_rfl) (by kernel_rfl) (by kernel_rfl) (fun _ _ _ h => h) (Or.inl ⟨by rfl, ?_⟩) (by assumption) ?_
              rotate_left
              · ((intro w hSw; (try dsimp only at hSw); go_simp) <;> with_reducible rfl)
              try simp only [Act.put, List.setIfInBounds_toArray, List.set_cons_zero, List.set_cons_succ, List.getElem_toArray, List.getElem_cons_succ, List.getElem_cons_zero]
              refine wpAnyH_take (i := 27) (v := ?_) rfl (by kernel_rfl) (by kernel_rfl) (by kernel_rfl) (fun _ _ _ h => h) (Or.inl ⟨by rfl, ?_⟩) (by assumption) ?_
              rotate_left
              · ((intro w hSw; (try dsimp only at hSw); go_simp) <;> with_reducible rfl)
              try simp only [Act.put, List.setIfInBounds_toArray, List.set_cons_zero, List.set_cons_succ, List.getElem_toArray, List.getElem_cons_succ, List.getElem_cons_zero]
              refine wpAnyH_done (by kernel_rfl) ?_ _
              refine NoPanic.normal ?_
              go_wp2_with fail
              go_roundw
              case rel => exact ⟨b + 1, by omega, by go_num, by first | exact HBR.out | exact HBR.out.drew⟩
              case measure => simp [intOf]; omega
            · have hbi : ¬ (b : Int) < (M : Int) := by omega
              go_wp2_with fail
              go_roundw
              case rel => exact ⟨a + 1, by omega, by go_num, HBR.out⟩
              case measure => simp [intOf]; omega
        · have hai : ¬ (a : Int) < (M : Int) := by omega
          replace HI := Lib.hid (HI.out.below HBR.out (Nat.le_refl _)); replace HIX := Lib.hid (HIX.out.below HBR.out (Nat.le_refl _)); replace HIW := Lib.hid (HIW.out.below HBR.out (Nat.le_refl _))
          replace HB := Lib.hid (HB.out.trans (HBR.out.mono HB.out.size)); clear HBR
          have hs1 : (0 : Int) ≤ (m : Int) := by omega
          have hs2 : (m : Int) ≤ (cx : Int) := by omega
          have hs3 : ((m : Int)).toNat = m := by omega
          go_wp2_with fail
          refine (WithSums_any _ M cx G _ HIX.out).mono ?_
          intro e w9 hg
          rw [HAG.out, HAGR.out] at hg
          obtain ⟨ga, ca, rfl, _, hga, _, _, hrowa, hb2⟩ := hg.row h1M
          replace HI := Lib.hid (HI.out.next hb2); replace HIX := Lib.hid (HIX.out.next hb2); replace HIW := Lib.hid (HIW.out.next hb2)
          replace HB := Lib.hid (below_onto HB.out hb2)
          have HRA := Lib.hid hrowa
          clear hg hb2 hrowa
          obtain ⟨bx, ox, ebx, hbx, hrx⟩ := HIX.out.row h1M
          cases ebx
          have HRX := Lib.hid hrx
          obtain ⟨bl, ol, rfl, hbl, hrl⟩ := HI.out.row hlo
          have HRL := Lib.hid hrl
          clear hrx hrl
          go_wp2_with fail
          refine (sameInts_row _ _ _ _ _ _ _ _ (by omega) _ HRA.out HRX.out).mono ?_
          rintro e w11 ⟨rfl, hd3⟩
          replace HRX := Lib.hid (HRX.out.below hd3.below hbx); replace HRL := Lib.hid (HRL.out.below hd3.below hbl)
          replace HB := Lib.hid (below_onto HB.out hd3.below)
          clear hd3
          go_wp2_with fail
          refine (sameInts_row _ _ _ _ _ _ m f (by omega) _ (row_same (row_less HRX.out hmM) HHD.out) HRL.out).mono ?_
          rintro e w12 ⟨rfl, hd3⟩
          replace HB := Lib.hid (below_onto HB.out hd3.below)
          clear hd3
          go_wp2_with fail
          go_ret
          exact ⟨rfl, HB.out⟩
end Go.Proofs.YtdlafcioopclhaaDoor
