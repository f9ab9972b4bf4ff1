import Derived.Test.YtdbmgejjpafhoaaDeepMath
import Derived.Test.YtdbmgejjpafhoaaExactB
import Derived.StillTailTactics
namespace Go.Proofs.Ytdbmgejjpafhoaa
open Go.RowKit

def cells (d : Nat → Int) (i : Nat) : Value := .int .i64 (d i)

theorem cells_set {w : World} {b t n : Nat} {d : Nat → Int} (h : w.rowIs b t n (cells d)) (k : Nat) (v : Int) : (w.setCell ⟨b, k, none⟩ (.int .i64 v)).rowIs b t n (cells (upd d k v)) := by
  refine (h.set k (.int .i64 v)).congr fun i _ => ?_
  unfold cells upd
  by_cases e : i = k
  · rw [if_pos e, if_pos e]
  · rw [if_neg e, if_neg e]

theorem rowIs_drewN {w : World} {b t n : Nat} {g : Nat → Value} (h : w.rowIs b t n g) (m : Nat) : (w.drewN m).rowIs b t n g := h.of_block (by rfl)

/-- the world of the loops: the deep row, and all below as it was -/
structure Sd (w wr : World) (bk off n : Nat) (f d : Nat → Int) : Prop where
  row : wr.rowIs w.heap.size 3 n (cells d)
  bel : Below w.heap.size w wr
  src : Row wr bk off n f

theorem Sd.store {w wr : World} {bk off n : Nat} {f d : Nat → Int} (h : Sd w wr bk off n f d) (hbk : bk < w.heap.size) (k : Nat) (v : Int) : Sd w (wr.setCell ⟨w.heap.size, k, none⟩ (.int .i64 v)) bk off n f (upd d k v) :=
  ⟨cells_set h.row k v, h.bel.setCell (p := ⟨w.heap.size, k, none⟩) (Nat.le_refl _) (.int .i64 v), h.src.below (Below.setCell (Below.refl w.heap.size wr) (p := ⟨w.heap.size, k, none⟩) (Nat.le_refl _) (.int .i64 v)) hbk⟩

theorem Sd.drew {w wr : World} {bk off n : Nat} {f d : Nat → Int} (h : Sd w wr bk off n f d) : Sd w wr.drew bk off n f d :=
  ⟨h.row.drew, h.bel.drew, fun i hi => h.src i hi⟩

set_option maxHeartbeats 4000000 in
theorem specDeep_in (bk off n cap : Nat) (f : Nat → Int) (hW : Hid (worldB n f = true)) (h1 : 1 ≤ n) (hn : n ≤ 7) (hP : Hid (WorldP n f)) (w : World) (hi : Hid (Ints w (some ⟨bk, off, none⟩) n f)) (hr : Row w bk off n f) (hbk : bk < w.heap.size) :
    Calls Try.prog 39 #[.slice (some ⟨bk, off, none⟩) n cap] w fun e w' => e = .returned (.int .i64 (deepI n f)) ∧ Below w.heap.size w w' := by
  have hmk := run_make_row' (P := Try.prog) 23 3 (.int .i64 0) 8 Try.underlying23 Try.infoInt rfl .i64 .i64 n (by omega) (by omega)
  have hdn : ∀ b, b < n → dep n f b ≤ 7 := fun b hb => by have := dep_le hP.out hb; omega
  have HD := Lib.hid hdn; clear hdn
  go_enter Try.func39, Try.ntmps39
  go_wp2_with fail
  refine (specWorldOk_val _ _ _ f true _ hW.out hi.out).mono ?_
  rintro e w' ⟨rfl, m0, rfl⟩
  have hst : Sd w ((w.drewN m0).alloc (.cells (madeCells #[.int .i64 0] n) 3)) bk off n f (fun _ => 0) := by
    have hb0 : Below w.heap.size w ((w.drewN m0).alloc (.cells (madeCells #[.int .i64 0] n) 3)) := (below_drewN (Below.refl _ _) m0).alloc (Nat.le_refl _) _
    exact ⟨World.rowIs_made (w.drewN m0) (.int .i64 0) n 3, hb0, hr.below hb0 hbk⟩
  go_wp2_with fail
  clear hmk
  go_loopw [4, 5] (fun v i wr => ∃ (r : Nat) (d : Nat → Int) (best : Int), r ≤ n ∧ i = .int .i64 r ∧ v = .int .i64 best ∧ DP n f r 0 d best ∧ Sd w wr bk off n f d) (fun _ i _ => n - (intOf i).toNat)
  case atStart => exact ⟨0, fun _ => 0, 1, Nat.zero_le _, rfl, rfl, DP.start hP.out, hst⟩
  case round =>
    clear hst
    obtain ⟨r, d, best, hr1, rfl, rfl, hdp, hsd⟩ := hrel
    by_cases hlt : r < n
    · go_wp2_with fail
      clear hr
      obtain ⟨wo, rfl⟩ : ∃ wo : World, wo = wr := ⟨_, rfl⟩
      go_loopw [4, 6] (fun v i wr => ∃ (k : Nat) (d : Nat → Int) (best : Int), k ≤ n ∧ i = .int .i64 k ∧ v = .int .i64 best ∧ DP n f r k d best ∧ Sd w wr bk off n f d) (fun _ i _ => n - (intOf i).toNat)
      case atStart => exact ⟨0, d, best, Nat.zero_le _, rfl, rfl, hdp, hsd⟩
      case round =>
        clear hdp hsd
        obtain ⟨k, d, best, hk1, rfl, rfl, hdp, hsd⟩ := hrel
        by_cases hltk : k < n
        · have hold := hsd.row.cell hltk
          have hfr := hsd.row.frozen k
          unfold cells at hold
          by_cases hd1 : d k < 1
          · have hin := hdp.enter hP.out hltk (1) (by omega)
            have hs2 : Sd w (wr.setCell ⟨w.heap.size, k, none⟩ (.int .i64 (1))) bk off n f (upd d k (1)) := by
              have hb0 := hsd.bel.setCell (p := ⟨w.heap.size, k, none⟩) (Nat.le_refl _) (.int .i64 (1))
              exact ⟨cells_set hsd.row k _, hb0, (hsd.src.below (Below.setCell (Below.refl w.heap.size wr) (p := ⟨w.heap.size, k, none⟩) (Nat.le_refl _) (.int .i64 (1))) hbk)⟩
            have hdk := HD.out k hltk
            go_wp2_with fail
            clear hold hfr hsd hdp hd1
            generalize wr.setCell ⟨w.heap.size, k, none⟩ (.int .i64 (1)) = w2 at hs2 ⊢
            generalize upd d k (1) = d2 at hin hs2
            go_loopw [7] (fun i wr => ∃ (j : Nat) (d : Nat → Int), j ≤ n ∧ i = .int .i64 j ∧ DPin n f r k j d best ∧ Sd w wr bk off n f d) (fun i _ => n - (intOf i).toNat)
            case atStart => exact ⟨0, d2, Nat.zero_le _, rfl, hin, hs2⟩
            case round =>
              clear hin hs2
              obtain ⟨j, d, hj, rfl, hin, hsd⟩ := hrel
              by_cases hltj : j < n
              · have hck := hsd.src k hltk
                have hnn := (hP.out.rng k hltk).1
                by_cases hjk : j = k
                · have hjk2 : ((j : Int) != (k : Int)) = false := by rw [hjk]; simp
                  have hno : neHas (f k) j k = false := by unfold neHas; rw [hjk]; simp
                  have HN := Lib.hid hno; clear hno hjk
                  go_wp2_with fail
                  go_roundw
                  case rel => exact ⟨j + 1, d, by omega, by go_num, hin.no HN.out, hsd⟩
                  case measure => simp [intOf]; omega
                · have hjk2 : ((j : Int) != (k : Int)) = true := by rw [bne_iff_ne]; omega
                  cases hh : hasB (f k) j with
                  | false =>
                    have hno : neHas (f k) j k = false := by unfold neHas; rw [hh]; simp
                    have HN := Lib.hid hno; have HH := Lib.hid hh; clear hno hh
                    go_wp2_with fail
                    refine (l1Has_val _ _ false _ HH.out (by omega) hnn).mono ?_
                    rintro e w' ⟨rfl, rfl⟩
                    go_wp2_with fail
                    go_roundw
                    case rel => exact ⟨j + 1, d, by omega, by go_num, hin.no HN.out, hsd⟩
                    case measure => simp [intOf]; omega
                  | true =>
                    have hyes : neHas (f k) j k = true := by unfold neHas; rw [hh, decide_eq_true hjk]; rfl
                    have HY := Lib.hid hyes; have HH := Lib.hid hh; clear hyes hh
                    have hvk := (hin.all k hltk)
                    have hvj := (hin.all j hltj)
                    have hdj := HD.out j hltj
                    have hc1 := hsd.row.cell hltk
                    have hc2 := hsd.row.cell hltj
                    have hfr := hsd.row.frozen k
                    unfold cells at hc1 hc2
                    have b1 : 0 ≤ d j ∧ d j ≤ 7 := by omega
                    have b2 : 0 ≤ d k ∧ d k ≤ 7 := by omega
                    have hki : (k : Int) < (n : Int) := by omega
                    have hji : (j : Int) < (n : Int) := by omega
                    have HIN := Lib.hid hin; clear hin hvk hvj hdj
                    go_wp2_with fail
                    refine (l1Has_val _ _ true _ HH.out (by omega) hnn).mono ?_
                    rintro e w' ⟨rfl, rfl⟩
                    go_wp2_with fail
                    go_region
                    go_wp2_with fail
                    go_roundw
                    case rel => exact ⟨j + 1, upd d k _, by omega, by go_num, HIN.out.yes hP.out hltk hltj HY.out _ (by split <;> omega), (hsd.store hbk k _).drew⟩
                    case measure => simp [intOf]; omega
              · have hc1 := hsd.row.cell hltk
                unfold cells at hc1
                have hjn : j = n := by omega
                have hlv := fun v hv => (show DPin n f r k n d best from hjn ▸ hin).leave hP.out hltk v hv
                have HL := Lib.hid hlv; clear hlv hin hjn
                go_wp2_with fail
                go_roundw
                case rel => exact ⟨k + 1, d, _, by omega, by go_num, rfl, HL.out _ (by split <;> omega), hsd⟩
                case measure => simp [intOf]; omega
          · have hin := hdp.enter hP.out hltk (d k) (by omega)
            have hs2 : Sd w (wr.setCell ⟨w.heap.size, k, none⟩ (.int .i64 (d k))) bk off n f (upd d k (d k)) := by
              have hb0 := hsd.bel.setCell (p := ⟨w.heap.size, k, none⟩) (Nat.le_refl _) (.int .i64 (d k))
              exact ⟨cells_set hsd.row k _, hb0, (hsd.src.below (Below.setCell (Below.refl w.heap.size wr) (p := ⟨w.heap.size, k, none⟩) (Nat.le_refl _) (.int .i64 (d k))) hbk)⟩
            have hdk := HD.out k hltk
            go_wp2_with fail
            clear hold hfr hsd hdp hd1
            generalize wr.setCell ⟨w.heap.size, k, none⟩ (.int .i64 (d k)) = w2 at hs2 ⊢
            generalize upd d k (d k) = d2 at hin hs2
            go_loopw [7] (fun i wr => ∃ (j : Nat) (d : Nat → Int), j ≤ n ∧ i = .int .i64 j ∧ DPin n f r k j d best ∧ Sd w wr bk off n f d) (fun i _ => n - (intOf i).toNat)
            case atStart => exact ⟨0, d2, Nat.zero_le _, rfl, hin, hs2⟩
            case round =>
              clear hin hs2
              obtain ⟨j, d, hj, rfl, hin, hsd⟩ := hrel
              by_cases hltj : j < n
              · have hck := hsd.src k hltk
                have hnn := (hP.out.rng k hltk).1
                by_cases hjk : j = k
                · have hjk2 : ((j : Int) != (k : Int)) = false := by rw [hjk]; simp
                  have hno : neHas (f k) j k = false := by unfold neHas; rw [hjk]; simp
                  have HN := Lib.hid hno; clear hno hjk
                  go_wp2_with fail
                  go_roundw
                  case rel => exact ⟨j + 1, d, by omega, by go_num, hin.no HN.out, hsd⟩
                  case measure => simp [intOf]; omega
                · have hjk2 : ((j : Int) != (k : Int)) = true := by rw [bne_iff_ne]; omega
                  cases hh : hasB (f k) j with
                  | false =>
                    have hno : neHas (f k) j k = false := by unfold neHas; rw [hh]; simp
                    have HN := Lib.hid hno; have HH := Lib.hid hh; clear hno hh
                    go_wp2_with fail
                    refine (l1Has_val _ _ false _ HH.out (by omega) hnn).mono ?_
                    rintro e w' ⟨rfl, rfl⟩
                    go_wp2_with fail
                    go_roundw
                    case rel => exact ⟨j + 1, d, by omega, by go_num, hin.no HN.out, hsd⟩
                    case measure => simp [intOf]; omega
                  | true =>
                    have hyes : neHas (f k) j k = true := by unfold neHas; rw [hh, decide_eq_true hjk]; rfl
                    have HY := Lib.hid hyes; have HH := Lib.hid hh; clear hyes hh
                    have hvk := (hin.all k hltk)
                    have hvj := (hin.all j hltj)
                    have hdj := HD.out j hltj
                    have hc1 := hsd.row.cell hltk
                    have hc2 := hsd.row.cell hltj
                    have hfr := hsd.row.frozen k
                    unfold cells at hc1 hc2
                    have b1 : 0 ≤ d j ∧ d j ≤ 7 := by omega
                    have b2 : 0 ≤ d k ∧ d k ≤ 7 := by omega
                    have hki : (k : Int) < (n : Int) := by omega
                    have hji : (j : Int) < (n : Int) := by omega
                    have HIN := Lib.hid hin; clear hin hvk hvj hdj
                    go_wp2_with fail
                    refine (l1Has_val _ _ true _ HH.out (by omega) hnn).mono ?_
                    rintro e w' ⟨rfl, rfl⟩
                    go_wp2_with fail
                    go_region
                    go_wp2_with fail
                    go_roundw
                    case rel => exact ⟨j + 1, upd d k _, by omega, by go_num, HIN.out.yes hP.out hltk hltj HY.out _ (by split <;> omega), (hsd.store hbk k _).drew⟩
                    case measure => simp [intOf]; omega
              · have hc1 := hsd.row.cell hltk
                unfold cells at hc1
                have hjn : j = n := by omega
                have hlv := fun v hv => (show DPin n f r k n d best from hjn ▸ hin).leave hP.out hltk v hv
                have HL := Lib.hid hlv; clear hlv hin hjn
                go_wp2_with fail
                go_roundw
                case rel => exact ⟨k + 1, d, _, by omega, by go_num, rfl, HL.out _ (by split <;> omega), hsd⟩
                case measure => simp [intOf]; omega
        · go_wp2_with fail
          go_roundw
          case rel => exact ⟨r + 1, d, best, by omega, by go_num, rfl, by
            have : k = n := by omega
            subst this; exact hdp.round, hsd⟩
          case measure => simp [intOf]; omega
    · have hfin : best = deepI n f := by
        have : r = n := by omega
        subst this; exact hdp.fin hP.out
      have HF := Lib.hid hfin; clear hfin
      have hb := hsd.bel
      go_wp2_with fail
      go_ret
      exact ⟨reti HF.out, hb⟩

theorem specDeepOf_any (a : Option Addr) (n cap : Nat) (f : Nat → Int) (w : World) (hi : Ints w a n f) :
    Calls Try.prog 39 #[.slice a n cap] w fun e w' => e = .returned (.int .i64 (deepB n f)) ∧ Below w.heap.size w w' := by
  cases hwb : worldB n f with
  | true =>
    obtain ⟨h1, h7⟩ := worldB_7 hwb
    have hfin : deepB n f = deepI n f := by unfold deepB; rw [if_pos hwb]
    obtain ⟨b, o, rfl, hlt, hr⟩ := hi.row h1
    rw [hfin]
    exact specDeep_in b o n cap f (Lib.hid hwb) h1 h7 (Lib.hid (world_of hi hwb)) w (Lib.hid hi) hr hlt
  | false =>
    have hfin : deepB n f = -1 := by unfold deepB; rw [if_neg (by rw [hwb]; decide)]
    have HF := Lib.hid hfin; have HW := Lib.hid hwb; have HN := Lib.hid hi; clear hfin hwb hi
    have hn := HN.out.1.1
    go_enter Try.func39, Try.ntmps39
    go_wp2_with fail
    refine (specWorldOk_val _ _ _ f false _ HW.out HN.out).mono ?_
    rintro e w' ⟨rfl, m, rfl⟩
    go_wp2_with fail
    go_ret
    exact ⟨reti HF.out.symm, below_drewN (Below.refl _ _) m⟩
end Go.Proofs.Ytdbmgejjpafhoaa
