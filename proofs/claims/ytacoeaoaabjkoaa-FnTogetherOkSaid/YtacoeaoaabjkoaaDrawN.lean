import Derived.Test.YtacoeaoaabjkoaaDraws
import Derived.Test.YtacoeaoaabjkoaaGrdS
import Derived.StillTailTactics
namespace Go.Proofs.Ytacoeaoaabjkoaa
open Go.RowKit

/-- the ground that is drawn: m numbers in the block G -/
def GrR (rb P G m : Nat) (w wr : World) : Prop :=
  OwnI wr w.heap.size (.slice (some ⟨G, 0, none⟩) m m) m ∧ Only rb w wr ∧ Rdr wr rb P
theorem GrR.mono {rb P Q G m : Nat} {w wr : World} (h : GrR rb P G m w wr) (hPQ : P ≤ Q) : GrR rb Q G m w wr := ⟨h.1, h.2.1, h.2.2.mono hPQ⟩
theorem GrR.lift {rb P Q G m : Nat} {w wr w' : World} (h : GrR rb P G m w wr) (ho : Only rb wr w') (hrb : rb < w.heap.size) (hr : Rdr w' rb Q) : GrR rb Q G m w w' :=
  ⟨h.1.lift ho hrb, h.2.1.trans ho, hr⟩
theorem GrR.cells {rb P G m : Nat} {w wr : World} (h : GrR rb P G m w wr) (hm : 1 ≤ m) : w.heap.size ≤ G ∧ ∃ f : Nat → Int, (∀ i, i < m → wr.cell? ⟨G, i, none⟩ = some (.int .i64 (f i)) ∧ I64 (f i)) ∧ ∀ j, wr.frozen? ⟨G, j, none⟩ = false := by
  obtain ⟨g, cp, f, hv, hB, _, _, _, hrow, h64, hfr⟩ := h.1.shape hm
  injection hv with h1 h2 h3
  injection h1 with h1
  injection h1 with h1
  subst h1
  exact ⟨hB, f, fun i hi => ⟨by have := hrow i hi; rwa [Nat.zero_add] at this, h64 i hi⟩, hfr⟩
theorem GrR.put {rb P G m : Nat} {w wr : World} (h : GrR rb P G m w wr) (hrb : rb < w.heap.size) (hB : w.heap.size ≤ G) (j : Nat) {s : Int} (hs : I64 s) : GrR rb P G m w (wr.setCell ⟨G, j, none⟩ (.int .i64 s)) :=
  ⟨h.1.put hs, h.2.1.fresh hB j _, h.2.2.belowB ((Below.refl w.heap.size wr).setCell hB _) hrb⟩
theorem GrR.drew {rb P G m : Nat} {w wr : World} (h : GrR rb P G m w wr) : GrR rb P G m w wr.drew :=
  ⟨h.1.kept (Below.refl _ _).drew, h.2.1.below_then (Below.refl _ _).drew, h.2.2.below (Below.refl _ _).drew⟩

theorem made_list (m : Nat) (h2 : 2 ≤ m) (h7 : m ≤ 7) : madeCells #[.int .i64 0] m = ((List.replicate m (0 : Int)).map (Value.int .i64)).toArray := by
  rcases (show m = 2 ∨ m = 3 ∨ m = 4 ∨ m = 5 ∨ m = 6 ∨ m = 7 by omega) with rfl | rfl | rfl | rfl | rfl | rfl <;> kernel_rfl

set_option maxRecDepth 100000 in
set_option maxHeartbeats 8000000 in
theorem ground_any (rb P : Nat) (n : Int) (hn : 1 ≤ n) (hn2 : n ≤ 100) (hP : P ≤ 100000) (w : World) (h : Rdr w rb P) :
    Calls Try.prog 53 #[.pointer (some ⟨rb, 0, none⟩), .int .i64 n] w (DrawnW rb P w) := by
  have hrb : rb < w.heap.size := h.1
  have H0 := Lib.hid h; clear h
  go_enter Try.func53, Try.ntmps53
  go_wp2_with fail
  refine (pick_any rb P 6 (by omega) _ H0.out).mono ?_
  rintro e w1 ⟨y, rfl, hy, ho, hr⟩
  obtain ⟨m, hm⟩ : ∃ m : Nat, 2 + y = m := ⟨_, rfl⟩
  have hm2 : 2 ≤ m := by omega
  have hm7 : m ≤ 7 := by omega
  have hmi : (2 : Int) + (y : Int) = (m : Int) := by omega
  have hmk := run_make_row' (P := Try.prog) 23 3 (.int .i64 0) 8 Try.underlying23 Try.infoInt rfl .i64 .i64 m (by omega) (by omega)
  have hst : GrR rb (P + 1) w1.heap.size m w (w1.alloc (.cells (madeCells #[.int .i64 0] m) 3)) := by
    have hlit := OwnI.lit w1 w.heap.size ho.size (List.replicate m 0) (fun x hx => by rw [(List.mem_replicate.1 hx).2]; exact I64_zero) (by rw [List.length_replicate]; omega) _ (made_list m hm2 hm7)
    rw [List.length_replicate] at hlit
    exact ⟨hlit, ho.alloc _, hr.below (alloc_below _ _)⟩
  have HST := Lib.hid hst
  clear H0 hy ho hr hst hm
  go_wp2_with fail
  refine (pick_any rb (P + 1) 4 (by omega) _ HST.out.2.2).mono ?_
  rintro e w2 ⟨z, rfl, hz, ho, hr⟩
  have hz4 : z < 4 := by omega
  have hst2 := HST.out.lift ho hrb hr
  obtain ⟨G, hG⟩ : ∃ G, G = w1.heap.size := ⟨_, rfl⟩
  rw [← hG] at hst2 ⊢
  clear HST hz ho hr hmk hG
  go_wp2_with fail
  go_loopw [8] (fun i wr => ∃ p : Nat, p ≤ m ∧ i = .int .i64 p ∧ GrR rb (P + 2 + 7 * p) G m w wr) (fun i _ => m - (intOf i).toNat)
  case atStart => exact ⟨0, Nat.zero_le _, rfl, hst2.mono (by omega)⟩
  case round =>
    clear hst2
    obtain ⟨p, hp, rfl, hg⟩ := hrel
    by_cases hpm : p < m
    · have hpi : (p : Int) < (m : Int) := by omega
      go_wp2_with fail
      go_loopw [9] (fun i wr => ∃ q : Nat, q ≤ p ∧ i = .int .i64 q ∧ GrR rb (P + 2 + 7 * p + q) G m w wr) (fun i _ => p - (intOf i).toNat)
      case atStart => exact ⟨0, Nat.zero_le _, rfl, hg⟩
      case round =>
        clear hg
        obtain ⟨q, hq, rfl, hg⟩ := hrel
        by_cases hqp : q < p
        · have hqi : (q : Int) < (p : Int) := by omega
          have hqm : q < m := by omega
          have HG := Lib.hid hg; clear hg
          go_wp2_with fail
          refine (pick_any rb _ 3 (by omega) _ HG.out.2.2).mono ?_
          rintro e w3 ⟨x, rfl, hx, ho, hr⟩
          have HG3 := Lib.hid (HG.out.lift ho hrb hr)
          clear hx ho hr HG
          go_upto_block 4 with fail
          go_cut [10] (fun s wx => ∃ b : Bool, s = .bool b ∧ wx = w3)
          case first =>
            by_cases hz0 : z < 1
            · have hq0 : ((z : Int) == 0) = true := by rw [beq_iff_eq]; omega
              go_wp2_with fail
              go_meet
              exact ⟨_, rfl, rfl⟩
            · have hq0 : ((z : Int) == 0) = false := by rw [beq_eq_false_iff_ne]; omega
              by_cases hz1 : z < 2
              · have hq1 : ((z : Int) == 1) = true := by rw [beq_iff_eq]; omega
                cases hb1 : ((p : Int) == (q : Int) + 1) <;> cases hb2 : ((p : Int) == (m : Int) - 1) <;> cases hb3 : ((q : Int) == 0) <;> (go_wp2_with fail; go_meet; exact ⟨_, rfl, rfl⟩)
              · have hq1 : ((z : Int) == 1) = false := by rw [beq_eq_false_iff_ne]; omega
                by_cases hz2 : z < 3
                · have hq2 : ((z : Int) == 2) = true := by rw [beq_iff_eq]; omega
                  cases hb1 : ((p : Int) == (q : Int) + 2) <;> cases hb2 : ((p : Int) == (q : Int) + 1) <;> (go_wp2_with fail; go_meet; exact ⟨_, rfl, rfl⟩)
                · have hq2 : ((z : Int) == 2) = false := by rw [beq_eq_false_iff_ne]; omega
                  go_wp2_with fail
                  go_meet
                  exact ⟨_, rfl, rfl⟩
          case rest =>
            obtain ⟨b, rfl, rfl⟩ := hcut
            cases b with
            | false =>
              go_wp2_with fail
              go_roundw
              case rel => exact ⟨q + 1, by omega, by go_num, HG3.out.mono (by omega)⟩
              case measure => simp [intOf]; omega
            | true =>
              have ⟨hp1, hp2⟩ := pow_bounds q (by omega)
              have ⟨hp3, hp4⟩ := pow_bounds p (by omega)
              have hG4 := HG3.out.drew
              obtain ⟨wx, hwx⟩ : ∃ wx, wc.drew = wx := ⟨_, rfl⟩
              rw [hwx] at hG4
              have HWX := Lib.hid hwx
              clear hwx
              obtain ⟨HB, f, hcf, hfr⟩ := HG3.out.cells (by omega)
              have hcp := (hcf p hpm).1
              clear hcf hfr
              go_wp2_with fail
              go_still_tail 10, (by kernel_rfl)
              change wpList _ _ _ _ _ wc.drew
              rw [HWX.out]
              clear hcp HWX
              obtain ⟨_, f2, hcf2, hfr2⟩ := hG4.cells (by omega)
              have hold := (hcf2 p hpm).1
              have hfz := hfr2 p
              have HG4 := Lib.hid (hG4.put hrb HB p (show I64 (bits .or .i64 (f p) (2 ^ q)) from orI_I64 (f p) (2 ^ q)))
              clear hG4 hcf2 hfr2
              go_wp2_with fail
              clear hold hfz
              obtain ⟨w5, hwn⟩ : ∃ w', wx.setCell ⟨G, p, none⟩ (.int .i64 (bits .or .i64 (f p) (2 ^ q))) = w' := ⟨_, rfl⟩
              rw [hwn] at HG4 ⊢
              clear hwn
              have hG5 := HG4.out.drew
              obtain ⟨wy, hwy⟩ : ∃ wx, w5.drew = wx := ⟨_, rfl⟩
              rw [hwy] at hG5
              have HWY := Lib.hid hwy
              clear hwy
              obtain ⟨HB, f, hcf, hfr⟩ := HG4.out.cells (by omega)
              have hcp := (hcf q hqm).1
              clear hcf hfr
              go_wp2_with fail
              go_still_tail 10, (by kernel_rfl)
              change wpList _ _ _ _ _ w5.drew
              rw [HWY.out]
              clear hcp HWY
              obtain ⟨_, f2, hcf2, hfr2⟩ := hG5.cells (by omega)
              have hold := (hcf2 q hqm).1
              have hfz := hfr2 q
              have HG5 := Lib.hid (hG5.put hrb HB q (show I64 (bits .or .i64 (f q) (2 ^ p)) from orI_I64 (f q) (2 ^ p)))
              clear hG5 hcf2 hfr2
              go_wp2_with fail
              go_roundw
              case rel => exact ⟨q + 1, by omega, by go_num, HG5.out.mono (by omega)⟩
              case measure => simp [intOf]; omega
        · go_wp2_with fail
          go_roundw
          case rel => exact ⟨p + 1, by omega, by go_num, hg.mono (by omega)⟩
          case measure => simp [intOf]; omega
    · have hpi : ¬ (p : Int) < (m : Int) := by omega
      have hg2 := hg.mono (show P + 2 + 7 * p ≤ P + 60 by omega)
      have HG := Lib.hid hg2; clear hg hg2 hpm
      go_wp2_with fail
      refine (odd_any rb _ n hn hn2 (by omega) _ HG.out.2.2).mono ?_
      rintro e w3 ⟨b, rfl, ho, hr⟩
      have HG3 := Lib.hid (HG.out.lift ho hrb hr)
      clear HG ho hr
      cases b with
      | false =>
        go_wp2_with fail
        go_ret
        exact ⟨_, m, rfl, by omega, HG3.out.1, HG3.out.2.1, HG3.out.2.2.mono (by omega)⟩
      | true =>
        go_wp2_with fail
        refine (pick_any rb _ 3 (by omega) _ HG3.out.2.2).mono ?_
        rintro e w4 ⟨x, rfl, hx, ho, hr⟩
        have HG4 := Lib.hid (HG3.out.lift ho hrb hr)
        have hx3 : x < 3 := by omega
        clear HG3 ho hr hx
        obtain ⟨HB, f, hcf, hfr⟩ := HG4.out.cells (by omega)
        by_cases hx0 : x < 1
        · have hq0 : ((x : Int) == 0) = true := by rw [beq_iff_eq]; omega
          have hl := OwnI.lit w4 w.heap.size HG4.out.2.1.size [] (fun x hx => by simp at hx) (by decide) _ rfl
          have HL := Lib.hid hl; clear hl hcf hfr
          go_wp2_with fail
          go_ret
          exact ⟨_, 0, rfl, by omega, HL.out, HG4.out.2.1.alloc _, (HG4.out.2.2.below (alloc_below _ _)).mono (by omega)⟩
        by_cases hx1 : x < 2
        · have hq0 : ((x : Int) == 0) = false := by rw [beq_eq_false_iff_ne]; omega
          have hq1 : ((x : Int) == 1) = true := by rw [beq_iff_eq]; omega
          have hm0 : (0 : Int) < (m : Int) := by omega
          have hc0 := (hcf 0 (by omega)).1
          have hf0 := hfr 0
          have HP := Lib.hid (HG4.out.put hrb HB 0 (show I64 (bits .or .i64 (f 0) 1) from orI_I64 (f 0) 1))
          clear hcf hfr
          go_wp2_with fail
          go_ret
          exact ⟨_, m, rfl, by omega, HP.out.1, HP.out.2.1, HP.out.2.2.mono (by omega)⟩
        · have hq0 : ((x : Int) == 0) = false := by rw [beq_eq_false_iff_ne]; omega
          have hq1 : ((x : Int) == 1) = false := by rw [beq_eq_false_iff_ne]; omega
          have hm0 : (0 : Int) < (m : Int) := by omega
          have hm1 : (1 : Int) < (m : Int) := by omega
          have hc0 := (hcf 0 (by omega)).1
          have hc1 := (hcf 1 (by omega)).1
          have hf0 := hfr 0
          have hf1 := hfr 1
          have HP := Lib.hid ((HG4.out.put hrb HB 1 I64_zero).put hrb HB 0 (show I64 2 by unfold I64; omega))
          clear hcf hfr
          go_wp2_with fail
          go_ret
          exact ⟨_, m, rfl, by omega, HP.out.1, HP.out.2.1, HP.out.2.2.mono (by omega)⟩
end Go.Proofs.Ytacoeaoaabjkoaa
