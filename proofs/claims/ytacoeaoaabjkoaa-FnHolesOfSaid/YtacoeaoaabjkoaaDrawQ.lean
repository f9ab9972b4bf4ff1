import Derived.Test.YtacoeaoaabjkoaaDrawO
import Derived.Test.YtacoeaoaabjkoaaPcT
import Derived.Deep.RegionHeld
namespace Go.Proofs.Ytacoeaoaabjkoaa
open Go.RowKit

set_option maxHeartbeats 800000 in
theorem DrawTogetherOk_any (a : Option Addr) (n cap : Nat) (w : World) (h : BytesIn w a n cap) :
    Calls Try.prog 13 #[.slice a n cap] w (DrawnPair w) := by
  have H := Lib.hid h; clear h
  go_enter Try.func13, Try.ntmps13
  go_wp2_with fail
  refine (DrawBorderOf_any _ _ _ _ H.out).mono ?_
  rintro e w2 ⟨a2, m, c2, f, x, rfl, hm, hx, hi, hb⟩
  go_wp2_with fail
  go_ret2
  exact ⟨_, m, _, f, x, rfl, hm, hx, hi, hb⟩

set_option maxHeartbeats 800000 in
theorem DrawPiecesOf_any (a : Option Addr) (n cap : Nat) (w : World) (h : BytesIn w a n cap) :
    Calls Try.prog 19 #[.slice a n cap] w (DrawnPair w) := by
  have H := Lib.hid h; clear h
  go_enter Try.func19, Try.ntmps19
  go_wp2_with fail
  refine (DrawBorderOf_any _ _ _ _ H.out).mono ?_
  rintro e w2 ⟨a2, m, c2, f, x, rfl, hm, hx, hi, hb⟩
  go_wp2_with fail
  go_ret2
  exact ⟨_, m, _, f, x, rfl, hm, hx, hi, hb⟩

set_option maxHeartbeats 800000 in
theorem DrawHolesOf_any (a : Option Addr) (n cap : Nat) (w : World) (h : BytesIn w a n cap) :
    Calls Try.prog 24 #[.slice a n cap] w (DrawnPair w) := by
  have H := Lib.hid h; clear h
  go_enter Try.func24, Try.ntmps24
  go_wp2_with fail
  refine (DrawBorderOf_any _ _ _ _ H.out).mono ?_
  rintro e w2 ⟨a2, m, c2, f, x, rfl, hm, hx, hi, hb⟩
  go_wp2_with fail
  go_ret2
  exact ⟨_, m, _, f, x, rfl, hm, hx, hi, hb⟩

set_option maxHeartbeats 800000 in
theorem DrawFilledOf_any (a : Option Addr) (n cap : Nat) (w : World) (h : BytesIn w a n cap) :
    Calls Try.prog 29 #[.slice a n cap] w (DrawnPair w) := by
  have H := Lib.hid h; clear h
  go_enter Try.func29, Try.ntmps29
  go_wp2_with fail
  refine (DrawBorderOf_any _ _ _ _ H.out).mono ?_
  rintro e w2 ⟨a2, m, c2, f, x, rfl, hm, hx, hi, hb⟩
  go_wp2_with fail
  go_ret2
  exact ⟨_, m, _, f, x, rfl, hm, hx, hi, hb⟩

theorem pcV_ne {n : Nat} {f : Nat → Int} {a : Int} (h64 : ∀ i, i < n → I64 (f i)) (ha : I64 a) (h : thingB n f a = true) : 1 ≤ (pcV n f a).length := by
  obtain ⟨hT, h1⟩ := th_of h64 ha h
  obtain ⟨i, hi, hb⟩ := some_bit8 hT.g.hi ⟨h1, hT.hi⟩
  obtain ⟨q, hq, hl, _⟩ := ld_of hT i hb
  have hm : pcI n f a q ∈ pcV n f a := by
    unfold pcV
    rw [if_pos h]
    exact pcs_mem.2 ⟨q, by omega, hl, rfl⟩
  cases hc : pcV n f a with
  | nil => rw [hc] at hm; cases hm
  | cons _ _ => simp

theorem own_ints {w : World} {B n cap : Nat} {a : Option Addr} (h : OwnI w B (.slice a n cap) n) (hn : n ≤ 1000) : ∃ f : Nat → Int, Ints w a n f ∧ ∀ (w' : World) (rb : Nat), rb < B → Only rb w w' → Ints w' a n f := by
  by_cases h1 : 1 ≤ n
  · obtain ⟨g, cp, f, hv, hB, hlt, _, _, hr, h64, _⟩ := h.shape h1
    injection hv with e1 e2 e3
    subst e1
    exact ⟨f, ⟨⟨by omega, h64⟩, .inr ⟨g, 0, rfl, hlt, hr⟩⟩, fun w' rb hrb ho => ⟨⟨by omega, h64⟩, .inr ⟨g, 0, rfl, Nat.lt_of_lt_of_le hlt ho.size, hr.only ho hlt (by omega)⟩⟩⟩
  · exact ⟨fun _ => 0, ⟨⟨by omega, fun i hi => by omega⟩, .inl (by omega)⟩, fun _ _ _ _ => ⟨⟨by omega, fun i hi => by omega⟩, .inl (by omega)⟩⟩

set_option maxRecDepth 100000 in
set_option maxHeartbeats 6400000 in
theorem DrawCutAt_any (a : Option Addr) (n cap : Nat) (w : World) (h : BytesIn w a n cap) :
    Calls Try.prog 32 #[.slice a n cap] w (DrawnPair w) := by
  have H := Lib.hid h; clear h
  go_enter Try.func32, Try.ntmps32
  go_wp2_with fail
  refine (open_any _ _ _ _ H.out).mono ?_
  rintro e w1 ⟨rfl, hb1, hr1⟩
  have HB1 := Lib.hid hb1; have HR1 := Lib.hid hr1; clear hb1 hr1
  go_wp2_with fail
  refine (ground_any _ 0 12 (by omega) (by omega) (by omega) _ HR1.out).mono ?_
  rintro e w2 ⟨v, m, rfl, hm, hown, ho, hr⟩
  obtain ⟨a2, c2, rfl⟩ := hown.slice
  have HOW := Lib.hid hown; have HO := Lib.hid ho; have HR := Lib.hid hr
  clear hown ho hr
  go_wp2_with fail
  refine (thing_any _ _ a2 m c2 hm (by omega) _ HR.out).mono ?_
  rintro e w3 ⟨x, rfl, hx, ho, hr⟩
  obtain ⟨f, hi, hk⟩ := own_ints (HOW.out.lift ho HR1.out.1) (by omega)
  replace HO := Lib.hid (HO.out.trans ho); replace HR := Lib.hid hr
  have HX := Lib.hid hx; have HI := Lib.hid hi; have HK := Lib.hid (fun w' ho => hk w' w.heap.size HR1.out.1 ho)
  clear ho hr hx hi hk HOW
  cases ht : thingB m f x with
  | false =>
    have HT := Lib.hid ht; clear ht
    go_wp2_with fail
    refine (specThingOk_val _ m _ f x false HX.out _ HT.out HI.out).mono ?_
    rintro e w4 ⟨rfl, hd⟩
    have hb2 : Below w.heap.size w w4 := HB1.out.trans ((HO.out.trans (Only.of_drew hd)).below (Nat.le_refl _) HB1.out.size)
    replace HI := Lib.hid (HI.out.drew hd)
    clear hd
    go_wp2_with fail
    go_ret2
    exact ⟨_, m, _, f, x, rfl, hm, HX.out, HI.out, hb2⟩
  | true =>
    have HT := Lib.hid ht; clear ht
    go_wp2_with fail
    refine (specThingOk_val _ m _ f x true HX.out _ HT.out HI.out).mono ?_
    rintro e w4 ⟨rfl, hd⟩
    have HD := Lib.hid (Only.of_drew (rb := w.heap.size) hd); replace HR := Lib.hid (HR.out.below hd.below)
    clear hd
    go_wp2_with fail
    refine (pick_any _ _ 2 (by omega) _ HR.out).mono ?_
    rintro e w5 ⟨u, rfl, hu, ho, hr⟩
    have HI5 := Lib.hid (HK.out w5 (HD.out.trans ho))
    have HB5 := Lib.hid (show Below w.heap.size w w5 from HB1.out.trans (((HO.out.trans HD.out).trans ho).below (Nat.le_refl _) HB1.out.size))
    clear ho hr hu HI HR HD
    cases hub : ((u : Int) == 0) with
    | false =>
      go_wp2_with fail
      go_ret2
      exact ⟨_, m, _, f, x, rfl, hm, HX.out, HI5.out, HB5.out⟩
    | true =>
      obtain ⟨ys, hys⟩ : ∃ ys, pcV m f x = ys := ⟨_, rfl⟩
      have HNE := Lib.hid (show 1 ≤ ys.length by rw [← hys]; exact pcV_ne HI5.out.i64 HX.out HT.out); have HL := Lib.hid (show ys.length ≤ 1000 by rw [← hys]; have := pcV_7 (n := m) (f := f) (a := x); omega); have H64 := Lib.hid (show ∀ y ∈ ys, I64 y by rw [← hys]; exact pcV_64 HI5.out.i64 HX.out)
      have HYS := Lib.hid hys
      clear hys
      have HI5d := Lib.hid (show Ints w5.drew a2 m f from HI5.out.drewN 1)
      have hmx : Try.prog.follows .mixedOrders = true := by kernel_rfl
      go_wp2_with fail
      refine wp_region_noPanic ?_
      refine wp_region_held_drew (S := (fun _ => True)) (by kernel_rfl) ?_ (fun hHeld => ?_)
      · trivial
      refine wpAnyH_take (i := 0) (v := ?_) rfl (by kernel_rfl) (by kernel_rfl) (by kernel_rfl) (fun _ _ _ h => h) (Or.inl ⟨by rfl, ?_⟩) (by assumption) ?_
      rotate_left
      · ((intro w hSw; (try dsimp only at hSw); go_simp) <;> with_reducible rfl)
      try simp only [Act.put, List.setIfInBounds_toArray, List.set_cons_zero, List.set_cons_succ, List.getElem_toArray, List.getElem_cons_zero]
      refine wpAnyH_take (i := 1) (v := ?_) rfl (by kernel_rfl) (by kernel_rfl) (by kernel_rfl) (fun _ _ _ h => h) (Or.inl ⟨by rfl, ?_⟩) (by assumption) ?_
      rotate_left
      · ((intro w hSw; (try dsimp only at hSw); go_simp) <;> with_reducible rfl)
      try simp only [Act.put, List.setIfInBounds_toArray, List.set_cons_zero, List.set_cons_succ, List.getElem_toArray, List.getElem_cons_succ, List.getElem_cons_zero]
      refine wpAnyH_take (i := 2) (v := ?_) rfl (by kernel_rfl) (by kernel_rfl) (by kernel_rfl) (fun _ _ _ h => h) (Or.inl ⟨by rfl, ?_⟩) (by assumption) ?_
      rotate_left
      · ((intro w hSw; (try dsimp only at hSw); go_simp) <;> with_reducible rfl)
      try simp only [Act.put, List.setIfInBounds_toArray, List.set_cons_zero, List.set_cons_succ, List.getElem_toArray, List.getElem_cons_succ, List.getElem_cons_zero]
      refine wpAnyH_ready (rs := [3]) (by kernel_rfl) (by simp) ?_
      refine AllReadyH.cons rfl (fun K hK => ?_) AllReadyH.nil
      go_simp
      refine (specPiecesOf_any a2 m _ f x ys HYS.out HX.out _ HI5d.out).mono ?_
      rintro e w6 ⟨v6, rfl, ho6, hb6⟩
      obtain ⟨g6, c6, rfl, _, _, _, _, hr6, _⟩ := ho6.shape HNE.out
      have hc6 := hr6 0 (by have := HNE.out; omega)
      have hne6 : 0 < ys.length := HNE.out
      have HI6 := Lib.hid (HI5d.out.below hb6 (Nat.le_refl _)); have HB6 := Lib.hid (HB5.out.trans (((below_drewN (Below.refl _ w5) 1).trans hb6).mono HB5.out.size)); have HY6 := Lib.hid (H64.out _ (getD_mem (xs := ys) (i := 0) HNE.out))
      rw [Nat.zero_add] at hc6
      obtain ⟨z6, hz6⟩ : ∃ z, ys.getD 0 0 = z := ⟨_, rfl⟩
      simp only [hz6] at hc6 HY6
      clear hz6
      clear hr6 ho6 hb6
      go_wp2_with fail
      refine hK.out _ _ ?_ (fun hHeld => ?_)
      · trivial
      clear hK K
      try simp only [Act.put, List.setIfInBounds_toArray, List.set_cons_zero, List.set_cons_succ, List.getElem_toArray, List.getElem_cons_succ, List.getElem_cons_zero]
      refine wpAnyH_take (i := 6) (v := ?_) rfl (by kernel_rfl) (by kernel_rfl) (by kernel_rfl) (fun _ _ _ h => h) (Or.inl ⟨by rfl, ?_⟩) (by assumption) ?_
      rotate_left
      · ((intro w hSw; (try dsimp only at hSw); go_simp) <;> with_reducible rfl)
      try simp only [Act.put, List.setIfInBounds_toArray, List.set_cons_zero, List.set_cons_succ, List.getElem_toArray, List.getElem_cons_succ, List.getElem_cons_zero]
      refine wpAnyH_take (i := 4) (v := ?_) rfl (by kernel_rfl) (by kernel_rfl) (by kernel_rfl) (fun _ _ _ h => h) (Or.inl ⟨by rfl, ?_⟩) (by assumption) ?_
      rotate_left
      · ((intro w hSw; (try dsimp only at hSw); go_simp) <;> with_reducible rfl)
      try simp only [Act.put, List.setIfInBounds_toArray, List.set_cons_zero, List.set_cons_succ, List.getElem_toArray, List.getElem_cons_succ, List.getElem_cons_zero]
      refine wpAnyH_ready (rs := [5]) (by kernel_rfl) (by simp) ?_
      refine AllReadyH.cons rfl (fun K hK => ?_) AllReadyH.nil
      go_simp
      refine hK.out _ _ trivial (fun hHeld => ?_)
      clear hK K
      try simp only [Act.put, List.setIfInBounds_toArray, List.set_cons_zero, List.set_cons_succ, List.getElem_toArray, List.getElem_cons_succ, List.getElem_cons_zero]
      refine wpAnyH_take (i := 7) (v := ?_) rfl (by kernel_rfl) (by kernel_rfl) (by kernel_rfl) (fun _ _ _ h => h) (Or.inl ⟨by rfl, ?_⟩) (by assumption) ?_
      rotate_left
      · ((intro w hSw; (try dsimp only at hSw); go_simp) <;> with_reducible rfl)
      try simp only [Act.put, List.setIfInBounds_toArray, List.set_cons_zero, List.set_cons_succ, List.getElem_toArray, List.getElem_cons_succ, List.getElem_cons_zero]
      refine wpAnyH_done (by kernel_rfl) ?_ _
      refine NoPanic.normal ?_
      go_wp2_with fail
      go_ret2
      exact ⟨_, m, _, f, _, rfl, hm, HY6.out, HI6.out, HB6.out⟩
end Go.Proofs.Ytacoeaoaabjkoaa
