import Derived.Test.YtncgcopdpoaagaaDrawO
import Derived.Deep.RegionHeld
namespace Go.Proofs.Ytncgcopdpoaagaa
open Go.RowKit

set_option maxRecDepth 100000 in
set_option maxHeartbeats 6400000 in
theorem DrawThingOk_any (a : Option Addr) (n cap : Nat) (w : World) (h : BytesIn w a n cap) :
    Calls Try.prog 21 #[.slice a n cap] w (DrawnPair w) := by
  have H := Lib.hid h; clear h
  go_enter Try.func21, Try.ntmps21
  go_wp2_with fail
  refine (open_any _ _ _ _ H.out).mono ?_
  rintro e w1 ⟨rfl, hb1, hr1⟩
  have HB1 := Lib.hid hb1; have HR1 := Lib.hid hr1; clear hb1 hr1
  go_wp2_with fail
  refine (ground_any _ 0 9 (by omega) (by omega) (by omega) _ HR1.out).mono ?_
  rintro e w2 ⟨v, m, rfl, hm, hown, ho, hr⟩
  obtain ⟨a2, c2, rfl⟩ := hown.slice
  obtain ⟨rb, hrz⟩ : ∃ rb, rb = w.heap.size := ⟨_, rfl⟩
  rw [← hrz] at HR1 ho hr ⊢
  have hrb : rb < w1.heap.size := HR1.out.1
  have HRB := Lib.hid hrb
  have HOW := Lib.hid hown; have HO := Lib.hid ho; have HR := Lib.hid hr; have HRZ := Lib.hid hrz
  clear hown ho hr hrz hrb HR1
  go_wp2_with fail
  refine wp_region_noPanic ?_
  refine wp_region_held_drew (S := (fun _ => True)) (by kernel_rfl) ?_ (fun hHeld => ?_)
  · trivial
  refine wpAnyH_take (i := 0) (v := ?_) rfl (by kernel_rfl) (by kernel_rfl) (by kernel_rfl) (fun _ _ _ h => h) (Or.inl ⟨by rfl, ?_⟩) (by assumption) ?_
  rotate_left
  · ((intro w hSw; (try dsimp only at hSw); go_simp) <;> with_reducible rfl)
  try simp only [Act.put, List.setIfInBounds_toArray, List.set_cons_zero, List.set_cons_succ, List.getElem_toArray, List.getElem_cons_zero]
  refine wpAnyH_take (i := 1) (v := ?_) rfl (by kernel_rfl) (by kernel_rfl) (by kernel_rfl) (fun _ _ _ h => h) (Or.inl ⟨by rfl, ?_⟩) (by assumption) ?_
  rotate_left
  · ((intro w hSw; (try dsimp only at hSw); go_simp) <;> with_reducible rfl)
  try simp only [Act.put, List.setIfInBounds_toArray, List.set_cons_zero, List.set_cons_succ, List.getElem_toArray, List.getElem_cons_succ, List.getElem_cons_zero]
  refine wpAnyH_take (i := 2) (v := ?_) rfl (by kernel_rfl) (by kernel_rfl) (by kernel_rfl) (fun _ _ _ h => h) (Or.inl ⟨by rfl, ?_⟩) (by assumption) ?_
  rotate_left
  · ((intro w hSw; (try dsimp only at hSw); go_simp) <;> with_reducible rfl)
  try simp only [Act.put, List.setIfInBounds_toArray, List.set_cons_zero, List.set_cons_succ, List.getElem_toArray, List.getElem_cons_succ, List.getElem_cons_zero]
  refine wpAnyH_take (i := 4) (v := ?_) rfl (by kernel_rfl) (by kernel_rfl) (by kernel_rfl) (fun _ _ _ h => h) (Or.inl ⟨by rfl, ?_⟩) (by assumption) ?_
  rotate_left
  · ((intro w hSw; (try dsimp only at hSw); go_simp) <;> with_reducible rfl)
  try simp only [Act.put, List.setIfInBounds_toArray, List.set_cons_zero, List.set_cons_succ, List.getElem_toArray, List.getElem_cons_succ, List.getElem_cons_zero]
  refine wpAnyH_take (i := 8) (v := ?_) rfl (by kernel_rfl) (by kernel_rfl) (by kernel_rfl) (fun _ _ _ h => h) (Or.inl ⟨by rfl, ?_⟩) (by assumption) ?_
  rotate_left
  · ((intro w hSw; (try dsimp only at hSw); go_simp) <;> with_reducible rfl)
  try simp only [Act.put, List.setIfInBounds_toArray, List.set_cons_zero, List.set_cons_succ, List.getElem_toArray, List.getElem_cons_succ, List.getElem_cons_zero]
  refine wpAnyH_ready (rs := [3]) (by kernel_rfl) (by simp) ?_
  refine AllReadyH.cons rfl (fun K hK => ?_) AllReadyH.nil
  go_simp
  refine (thing_any rb _ a2 m c2 hm (by omega) _ HR.out.dr8).mono ?_
  rintro e w3 ⟨x, rfl, hx, ho, hr⟩
  replace HOW := Lib.hid (HOW.out.lift ((only_dr8 _ _).trans ho) HRB.out); replace HO := Lib.hid (HO.out.trans ((only_dr8 _ _).trans ho)); replace HR := Lib.hid hr
  have HX := Lib.hid hx; clear hx ho hr
  go_wp2_with fail
  refine hK.out _ _ ?_ (fun hHeld => ?_)
  · trivial
  clear hK K
  try simp only [Act.put, List.setIfInBounds_toArray, List.set_cons_zero, List.set_cons_succ, List.getElem_toArray, List.getElem_cons_succ, List.getElem_cons_zero]
  refine wpAnyH_ready (rs := [5]) (by kernel_rfl) (by simp) ?_
  refine AllReadyH.cons rfl (fun K hK => ?_) AllReadyH.nil
  go_simp
  refine (pick_any rb _ 140 (by omega) _ HR.out).mono ?_
  rintro e w4 ⟨z, rfl, hz, ho, hr⟩
  replace HOW := Lib.hid (HOW.out.lift ho HRB.out); replace HO := Lib.hid (HO.out.trans ho); replace HR := Lib.hid hr
  clear hz ho hr
  go_wp2_with fail
  refine hK.out _ _ ?_ (fun hHeld => ?_)
  · trivial
  clear hK K
  try simp only [Act.put, List.setIfInBounds_toArray, List.set_cons_zero, List.set_cons_succ, List.getElem_toArray, List.getElem_cons_succ, List.getElem_cons_zero]
  refine wpAnyH_take (i := 6) (v := ?_) rfl (by kernel_rfl) (by kernel_rfl) (by kernel_rfl) (fun _ _ _ h => h) (Or.inl ⟨by rfl, ?_⟩) (by assumption) ?_
  rotate_left
  · ((intro w hSw; (try dsimp only at hSw); go_simp) <;> with_reducible rfl)
  try simp only [Act.put, List.setIfInBounds_toArray, List.set_cons_zero, List.set_cons_succ, List.getElem_toArray, List.getElem_cons_succ, List.getElem_cons_zero]
  obtain ⟨Z, hZ⟩ : ∃ Z, IntKind.i64.wrap ((z : Int) - 2) = Z := ⟨_, rfl⟩
  have HZ := Lib.hid (show I64 Z by rw [← hZ]; exact wrap_I64 _)
  rw [hZ]
  clear hZ
  have hxs : ∀ t ∈ ([x, Z] : List Int), I64 t := by
    intro t ht
    simp only [List.mem_cons, List.not_mem_nil, or_false] at ht
    rcases ht with rfl | rfl
    · exact HX.out
    · exact HZ.out
  have HXS := Lib.hid hxs; clear hxs
  refine wpAnyH_ready (rs := [7, 9]) (by kernel_rfl) (by simp) ?_
  refine AllReadyH.cons rfl (fun K hK => ?_) (AllReadyH.cons rfl (fun K hK => ?_) AllReadyH.nil)
  · go_simp
    refine hK.out _ _ trivial (fun hHeld => ?_)
    clear hK K
    try simp only [Act.put, List.setIfInBounds_toArray, List.set_cons_zero, List.set_cons_succ, List.getElem_toArray, List.getElem_cons_succ, List.getElem_cons_zero]
    have HL := Lib.hid (OwnI.lit w4 w1.heap.size (Nat.le_trans HO.out.size (Nat.le_refl _)) [x, Z] HXS.out (by show 2 ≤ 1000; omega) _ rfl)
    have hba := alloc_below w4 (.cells #[.int .i64 x, .int .i64 Z] 3)
    replace HOW := Lib.hid (HOW.out.kept hba); replace HO := Lib.hid (HO.out.alloc (.cells #[.int .i64 x, .int .i64 Z] 3)); replace HR := Lib.hid (HR.out.below hba)
    obtain ⟨W, hW⟩ : ∃ W, W = w4.heap.size := ⟨_, rfl⟩
    rw [← hW] at HL ⊢
    obtain ⟨w5, hw⟩ : ∃ w', w4.alloc (.cells #[.int .i64 x, .int .i64 Z] 3) = w' := ⟨_, rfl⟩
    simp only [List.map_cons, List.map_nil] at HL
    rw [hw] at HL HOW HO HR ⊢
    clear hw hW hba
    refine wpAnyH_ready (rs := [9]) (by kernel_rfl) (by simp) ?_
    refine AllReadyH.cons rfl (fun K hK => ?_) AllReadyH.nil
    go_simp
    refine (pick_any rb _ 2 (by omega) _ HR.out).mono ?_
    rintro e w6 ⟨q, rfl, hq, ho, hr⟩
    have hq2 : q < 2 := by omega
    have hqi : (q : Int) < 2 := by omega
    replace HOW := Lib.hid (HOW.out.lift ho HRB.out); replace HO := Lib.hid (HO.out.trans ho); replace HR := Lib.hid hr
    replace HL := Lib.hid (HL.out.lift ho HRB.out)
    clear hq ho hr
    go_wp2_with fail
    refine hK.out _ _ ?_ (fun hHeld => ?_)
    · trivial
    clear hK K
    try simp only [Act.put, List.setIfInBounds_toArray, List.set_cons_zero, List.set_cons_succ, List.getElem_toArray, List.getElem_cons_succ, List.getElem_cons_zero]
    obtain ⟨g, cp, F, hv, _, _, _, _, hrow, h64, _⟩ := HL.out.shape (by show 1 ≤ 2; omega)
    injection hv with hv1 hv2 hv3
    injection hv1 with hv1
    injection hv1 with hv1
    subst hv1
    have hc := hrow q hq2
    rw [Nat.zero_add] at hc
    have HF := Lib.hid (h64 q hq2)
    clear hrow h64 hv2 hv3 HL
    refine wpAnyH_take (i := 12) (v := ?_) rfl (by kernel_rfl) (by kernel_rfl) (by kernel_rfl) (fun _ _ _ h => h) (Or.inl ⟨by rfl, ?_⟩) (by assumption) ?_
    rotate_left
    · ((intro w hSw; (try dsimp only at hSw); go_simp) <;> with_reducible rfl)
    try simp only [Act.put, List.setIfInBounds_toArray, List.set_cons_zero, List.set_cons_succ, List.getElem_toArray, List.getElem_cons_succ, List.getElem_cons_zero]
    refine wpAnyH_take (i := 10) (v := ?_) rfl (by kernel_rfl) (by kernel_rfl) (by kernel_rfl) (fun _ _ _ h => h) (Or.inl ⟨by rfl, ?_⟩) (by assumption) ?_
    rotate_left
    · ((intro w hSw; (try dsimp only at hSw); go_simp) <;> with_reducible rfl)
    try simp only [Act.put, List.setIfInBounds_toArray, List.set_cons_zero, List.set_cons_succ, List.getElem_toArray, List.getElem_cons_succ, List.getElem_cons_zero]
    refine wpAnyH_ready (rs := [11]) (by kernel_rfl) (by simp) ?_
    refine AllReadyH.cons rfl (fun K hK => ?_) AllReadyH.nil
    go_simp
    refine hK.out _ _ trivial (fun hHeld => ?_)
    clear hK K
    try simp only [Act.put, List.setIfInBounds_toArray, List.set_cons_zero, List.set_cons_succ, List.getElem_toArray, List.getElem_cons_succ, List.getElem_cons_zero]
    refine wpAnyH_take (i := 13) (v := ?_) rfl (by kernel_rfl) (by kernel_rfl) (by kernel_rfl) (fun _ _ _ h => h) (Or.inl ⟨by rfl, ?_⟩) (by assumption) ?_
    rotate_left
    · ((intro w hSw; (try dsimp only at hSw); go_simp) <;> with_reducible rfl)
    try simp only [Act.put, List.setIfInBounds_toArray, List.set_cons_zero, List.set_cons_succ, List.getElem_toArray, List.getElem_cons_succ, List.getElem_cons_zero]
    refine wpAnyH_done (by kernel_rfl) ?_ _
    refine NoPanic.normal ?_
    obtain ⟨a3, c3, f, hv, hi, _⟩ := HOW.out.ints (by omega)
    injection hv with hv1 hv2 hv3
    subst hv1
    subst hv3
    have hb2 := HB1.out.trans (HO.out.below (show w.heap.size ≤ rb by rw [HRZ.out]; exact Nat.le_refl _) HB1.out.size)
    clear hv2 hc
    go_wp2_with fail
    go_ret2
    exact ⟨_, m, _, f, _, rfl, hm, HF.out, hi, hb2⟩
  · go_simp
    refine (pick_any rb _ 2 (by omega) _ HR.out).mono ?_
    rintro e w6 ⟨q, rfl, hq, ho, hr⟩
    have hq2 : q < 2 := by omega
    have hqi : (q : Int) < 2 := by omega
    replace HOW := Lib.hid (HOW.out.lift ho HRB.out); replace HO := Lib.hid (HO.out.trans ho); replace HR := Lib.hid hr
    clear hq ho hr
    go_wp2_with fail
    refine hK.out _ _ trivial (fun hHeld => ?_)
    clear hK K
    try simp only [Act.put, List.setIfInBounds_toArray, List.set_cons_zero, List.set_cons_succ, List.getElem_toArray, List.getElem_cons_succ, List.getElem_cons_zero]
    refine wpAnyH_take (i := 12) (v := ?_) rfl (by kernel_rfl) (by kernel_rfl) (by kernel_rfl) (fun _ _ _ h => h) (Or.inl ⟨by rfl, ?_⟩) (by assumption) ?_
    rotate_left
    · ((intro w hSw; (try dsimp only at hSw); go_simp) <;> with_reducible rfl)
    try simp only [Act.put, List.setIfInBounds_toArray, List.set_cons_zero, List.set_cons_succ, List.getElem_toArray, List.getElem_cons_succ, List.getElem_cons_zero]
    refine wpAnyH_ready (rs := [7]) (by kernel_rfl) (by simp) ?_
    refine AllReadyH.cons rfl (fun K hK => ?_) AllReadyH.nil
    go_simp
    refine hK.out _ _ trivial (fun hHeld => ?_)
    clear hK K
    try simp only [Act.put, List.setIfInBounds_toArray, List.set_cons_zero, List.set_cons_succ, List.getElem_toArray, List.getElem_cons_succ, List.getElem_cons_zero]
    have HL := Lib.hid (OwnI.lit w6 w1.heap.size (Nat.le_trans HO.out.size (Nat.le_refl _)) [x, Z] HXS.out (by show 2 ≤ 1000; omega) _ rfl)
    have hba := alloc_below w6 (.cells #[.int .i64 x, .int .i64 Z] 3)
    replace HOW := Lib.hid (HOW.out.kept hba); replace HO := Lib.hid (HO.out.alloc (.cells #[.int .i64 x, .int .i64 Z] 3)); replace HR := Lib.hid (HR.out.below hba)
    obtain ⟨W, hW⟩ : ∃ W, W = w6.heap.size := ⟨_, rfl⟩
    rw [← hW] at HL ⊢
    obtain ⟨w7, hw⟩ : ∃ w', w6.alloc (.cells #[.int .i64 x, .int .i64 Z] 3) = w' := ⟨_, rfl⟩
    simp only [List.map_cons, List.map_nil] at HL
    rw [hw] at HL HOW HO HR ⊢
    clear hw hW hba
    obtain ⟨g, cp, F, hv, _, _, _, _, hrow, h64, _⟩ := HL.out.shape (by show 1 ≤ 2; omega)
    injection hv with hv1 hv2 hv3
    injection hv1 with hv1
    injection hv1 with hv1
    subst hv1
    have hc := hrow q hq2
    rw [Nat.zero_add] at hc
    have HF := Lib.hid (h64 q hq2)
    clear hrow h64 hv2 hv3 HL
    refine wpAnyH_take (i := 10) (v := ?_) rfl (by kernel_rfl) (by kernel_rfl) (by kernel_rfl) (fun _ _ _ h => h) (Or.inl ⟨by rfl, ?_⟩) (by assumption) ?_
    rotate_left
    · ((intro w hSw; (try dsimp only at hSw); go_simp) <;> with_reducible rfl)
    try simp only [Act.put, List.setIfInBounds_toArray, List.set_cons_zero, List.set_cons_succ, List.getElem_toArray, List.getElem_cons_succ, List.getElem_cons_zero]
    refine wpAnyH_ready (rs := [11]) (by kernel_rfl) (by simp) ?_
    refine AllReadyH.cons rfl (fun K hK => ?_) AllReadyH.nil
    go_simp
    refine hK.out _ _ trivial (fun hHeld => ?_)
    clear hK K
    try simp only [Act.put, List.setIfInBounds_toArray, List.set_cons_zero, List.set_cons_succ, List.getElem_toArray, List.getElem_cons_succ, List.getElem_cons_zero]
    refine wpAnyH_take (i := 13) (v := ?_) rfl (by kernel_rfl) (by kernel_rfl) (by kernel_rfl) (fun _ _ _ h => h) (Or.inl ⟨by rfl, ?_⟩) (by assumption) ?_
    rotate_left
    · ((intro w hSw; (try dsimp only at hSw); go_simp) <;> with_reducible rfl)
    try simp only [Act.put, List.setIfInBounds_toArray, List.set_cons_zero, List.set_cons_succ, List.getElem_toArray, List.getElem_cons_succ, List.getElem_cons_zero]
    refine wpAnyH_done (by kernel_rfl) ?_ _
    refine NoPanic.normal ?_
    obtain ⟨a3, c3, f, hv, hi, _⟩ := HOW.out.ints (by omega)
    injection hv with hv1 hv2 hv3
    subst hv1
    subst hv3
    have hb2 := HB1.out.trans (HO.out.below (show w.heap.size ≤ rb by rw [HRZ.out]; exact Nat.le_refl _) HB1.out.size)
    clear hv2 hc
    go_wp2_with fail
    go_ret2
    exact ⟨_, m, _, f, _, rfl, hm, HF.out, hi, hb2⟩
end Go.Proofs.Ytncgcopdpoaagaa
