import Derived.Test.YtacoeaoaabjkoaaGrdB
namespace Go.Proofs.Ytacoeaoaabjkoaa
open Go.RowKit Go.Maps

theorem groundOf_any (a : Option Addr) (n cap : Nat) (f : Nat → Int) (w : World) (hi : Ints w a n f) :
    Calls Try.prog 59 #[.slice a n cap] w (GroundEnd n f w) := by
  obtain ⟨⟨hm, h64⟩, hi⟩ := hi
  by_cases h : n < 1 ∨ 7 < n
  · exact groundOf_no a n cap f h hm w
  · rcases hi with hi | ⟨b, o, rfl, hlt, hr⟩
    · omega
    · exact groundOf_in b o n cap f (by omega) (by omega) w hr hlt

/-- the function that a ground hands back -/
def arV (n g cap : Nat) : Value := .func (.func 61) #[.agg #[.int .i64 (2 ^ n - 1), .slice (some ⟨g, 0, none⟩) n cap]] #[]

/-- the ground's method is handed back, if all of these are things of it -/
def AroundEnd (n : Nat) (f : Nat → Int) (m : Nat) (G : Nat → Int) (w : World) (e : Ending) (w' : World) : Prop :=
  Below w.heap.size w w' ∧ (((grdB n f && thsB n m G) = true ∧ ∃ g cap, e = .returned (.tuple #[.func (.func 61) #[.agg #[.int .i64 (2 ^ n - 1), .slice (some ⟨g, 0, none⟩) n cap]] #[], .bool true]) ∧ g < w'.heap.size ∧ Row w' g 0 n f)
    ∨ ((grdB n f && thsB n m G) = false ∧ e = .returned (.tuple #[.nilFunc, .bool false])))

set_option maxRecDepth 100000 in
set_option maxHeartbeats 3200000 in
theorem aroundOn_any (a : Option Addr) (n cap : Nat) (f : Nat → Int) (gb : Option Addr) (m mc : Nat) (G : Nat → Int) (hm : m ≤ 1000) (w : World) (hi : Ints w a n f) (hg : Ints w gb m G) :
    Calls Try.prog 40 #[.slice a n cap, .slice gb m mc] w (AroundEnd n f m G w) := by
  have HG := Lib.hid hg; clear hg
  go_enter Try.func40, Try.ntmps40
  go_wp2_with fail
  refine (groundOf_any a n cap f w hi).mono ?_
  rintro e w1 ⟨hb1, ⟨hgd, g, c9, rfl, hBg, hgl, hrow⟩ | ⟨hgd, rfl⟩⟩
  · have HGD := Lib.hid hgd; have HROW := Lib.hid (hrow.below (alloc_below w1 (.cells #[.int .i64 (2 ^ n - 1), .slice (some ⟨g, 0, none⟩) n c9] 55)) hgl)
    have HBI := Lib.hid (Blk2.new w1 55 (.int .i64 (2 ^ n - 1)) (.slice (some ⟨g, 0, none⟩) n c9))
    have HB := Lib.hid (below_onto hb1 (alloc_below w1 (.cells #[.int .i64 (2 ^ n - 1), .slice (some ⟨g, 0, none⟩) n c9] 55)))
    replace HG := Lib.hid (HG.out.below HB.out (Nat.le_refl _))
    have hgl2 : g < (w1.alloc (.cells #[.int .i64 (2 ^ n - 1), .slice (some ⟨g, 0, none⟩) n c9] 55)).heap.size := by rw [alloc_size]; omega
    have HGL := Lib.hid hgl2
    obtain ⟨I, hI⟩ : ∃ I, I = w1.heap.size := ⟨_, rfl⟩
    rw [← hI] at HBI
    clear hgd hrow hb1 hgl2
    go_wp2_with fail
    obtain ⟨w2, hw2⟩ : ∃ w2, w1.alloc (.cells #[.int .i64 (2 ^ n - 1), .slice (some ⟨g, 0, none⟩) n c9] 55) = w2 := ⟨_, rfl⟩
    rw [hw2] at HROW HBI HB HG HGL ⊢
    try rw [← hI]
    clear hw2 hI hgl hBg
    have HE := Lib.hid (enters_of (P := Try.prog) Try.func61 (by kernel_rfl) rfl)
    go_loopw [19] (fun i wr => ∃ k : Nat, k ≤ m ∧ i = .int .i64 k ∧ Hid (∀ i, i < k → thB n (G i) = true) ∧ w2 = wr) (fun i _ => m - (intOf i).toNat)
    case atStart => exact ⟨0, Nat.zero_le _, rfl, (fun a ha => absurd ha (Nat.not_lt_zero _)), rfl⟩
    case round =>
      obtain ⟨k, hk, rfl, hall, rfl⟩ := hrel
      obtain ⟨hcell0, hcell1⟩ := HBI.out.cell
      by_cases hlt : k < m
      · have hki : (k : Int) < (m : Int) := by omega
        obtain ⟨bg, og, rfl, hbgl, hrowg⟩ := HG.out.row (by omega)
        have hc := hrowg k hlt
        clear hrowg hbgl
        cases h0 : (G k == 0) with
        | true =>
          have HF := Lib.hid (show (grdB n f && thsB n m G) = false by
            rw [show thsB n m G = false from decide_eq_false (fun h => by have := h k hlt; unfold thB at this; rw [h0] at this; cases this)]; simp)
          go_wp2_with fail
          go_ret2
          exact ⟨HB.out, .inr ⟨HF.out, rfl⟩⟩
        | false =>
          cases hwi : withinB (G k) (2 ^ n - 1) with
          | false =>
            have HF := Lib.hid (show (grdB n f && thsB n m G) = false by
              rw [show thsB n m G = false from decide_eq_false (fun h => by have := h k hlt; unfold thB at this; rw [h0, hwi] at this; cases this)]; simp)
            have HW := Lib.hid hwi; clear hwi
            go_wp2_with fail
            refine (withinP_val _ _ false _ HW.out).mono ?_
            rintro e w' ⟨rfl, rfl⟩
            go_wp2_with fail
            go_ret2
            exact ⟨HB.out, .inr ⟨HF.out, rfl⟩⟩
          | true =>
            have HT := Lib.hid (show thB n (G k) = true by unfold thB; rw [h0, hwi]; rfl)
            have HW := Lib.hid hwi; clear hwi
            go_wp2_with fail
            refine (withinP_val _ _ true _ HW.out).mono ?_
            rintro e w' ⟨rfl, rfl⟩
            go_wp2_with fail
            go_roundw
            case rel => exact ⟨k + 1, by omega, by go_num, (fun a ha => by
              by_cases hak : a = k
              · subst hak; exact HT.out
              · exact hall a (by omega)), by first | rfl | trivial⟩
            case measure => simp [intOf]; omega
      · have hki : ¬ (k : Int) < (m : Int) := by omega
        have HF := Lib.hid (show (grdB n f && thsB n m G) = true by
          rw [HGD.out, show thsB n m G = true from decide_eq_true (fun a ha => hall a (by omega))]; rfl)
        have hmf : ∀ (fn : Fn) (first cap : Array Value) (w : World), (Instr.makeFunc fn first cap).run Try.prog w = .ok (.func fn first cap) w := fun _ _ _ _ => rfl
        go_wp2_with fail
        go_ret2
        exact ⟨HB.out, .inl ⟨HF.out, g, c9, rfl, HGL.out, HROW.out⟩⟩
  · have HF := Lib.hid (show (grdB n f && thsB n m G) = false by rw [hgd]; rfl)
    have hb2 := alloc_below w1 (.cells #[.int .i64 0, .slice none 0 0] 55)
    have HB := Lib.hid (below_onto hb1 hb2); clear hgd hb1 hb2
    go_wp2_with fail
    go_ret2
    exact ⟨HB.out, .inr ⟨HF.out, rfl⟩⟩
end Go.Proofs.Ytacoeaoaabjkoaa
