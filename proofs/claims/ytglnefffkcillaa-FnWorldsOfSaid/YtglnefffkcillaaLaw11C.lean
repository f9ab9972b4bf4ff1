import Derived.Test.YtglnefffkcillaaWdF
import Derived.Test.YtglnefffkcillaaDrawR
import Derived.Test.YtglnefffkcillaaLawC
import Derived.Test.YtglnefffkcillaaSameX
import Derived.Deep.QuietTactic
import Derived.Deep.RegionHeld3
namespace Go.Proofs.Ytglnefffkcillaa
set_option linter.unusedVariables false
set_option linter.unusedSimpArgs false
open Go.RowKit Go.Maps

theorem ships_nil {w : World} {B n : Nat} {v : Value} {rs : List (Nat × Nat)} (h : Ships w B n v [] rs) : ∃ a c, v = .slice a 0 c := by
  obtain ⟨_, ⟨hv, _⟩ | ⟨g, cap, cur, hv, _⟩⟩ := h.own
  · exact ⟨none, 0, hv⟩
  · exact ⟨_, cap, hv⟩
/-- two rows differ first upward -/
def upB (n : Nat) (P Q : List Nat) : Bool := (List.range n).any (fun p => (List.range p).all (fun i => Q.getD i 0 == P.getD i 0) && decide (P.getD p 0 < Q.getD p 0))
def upA (n : Nat) (PP : List (List Nat)) : Bool := (List.range (PP.length - 1)).all (fun k => upB n (PP.getD k []) (PP.getD (k + 1) []))
theorem up_123 : upA 1 (wlN 1) = true ∧ upA 2 (wlN 2) = true ∧ upA 3 (wlN 3) = true := ⟨by decide +kernel, by decide +kernel, by decide +kernel⟩
theorem ws_up {n k : Nat} (h1 : 1 ≤ n) (h3 : n ≤ 3) (hk : k + 1 < (wlL n).length) : ∃ p, p < n ∧ (∀ i, i < p → rv ((wlL n).getD (k + 1) []) i = rv ((wlL n).getD k []) i) ∧ rv ((wlL n).getD k []) p < rv ((wlL n).getD (k + 1) []) p := by
  have hA : upA n (wlN n) = true := by
    have hc : n = 1 ∨ n = 2 ∨ n = 3 := by omega
    rcases hc with rfl | rfl | rfl
    · exact up_123.1
    · exact up_123.2.1
    · exact up_123.2.2
  have he := wl_nat n h1 (by omega)
  rw [he] at hk ⊢
  rw [List.length_map] at hk
  have hg : ∀ i, i < (wlN n).length → ((wlN n).map cst).getD i [] = cst ((wlN n).getD i []) := by
    intro i hi
    rw [List.getD_eq_getElem?_getD, List.getD_eq_getElem?_getD, List.getElem?_map, List.getElem?_eq_getElem hi]
    rfl
  rw [hg k (by omega), hg (k + 1) hk]
  have h := List.all_eq_true.1 hA k (List.mem_range.2 (by omega))
  obtain ⟨p, hp, hpp⟩ := List.any_eq_true.1 h
  rw [Bool.and_eq_true, decide_eq_true_eq] at hpp
  refine ⟨p, List.mem_range.1 hp, fun i hi => ?_, ?_⟩
  · rw [cst_getD, cst_getD]
    have := List.all_eq_true.1 hpp.1 i (List.mem_range.2 hi)
    rw [beq_iff_eq] at this
    rw [this]
  · rw [cst_getD, cst_getD]
    have := hpp.2
    omega
theorem lit19_cell (w : World) (n : Nat) (h1 : 1 ≤ n) (h3 : n ≤ 3) : (w.alloc (.cells #[.int .i64 0, .int .i64 1, .int .i64 3, .int .i64 19] 3)).cell? ⟨w.heap.size, n, none⟩ = some (.int .i64 ((wlL n).length : Nat)) := by
  obtain ⟨k1, k2, k3⟩ := wl_count
  have hc : n = 1 ∨ n = 2 ∨ n = 3 := by omega
  rcases hc with rfl | rfl | rfl
  · rw [k1]; exact cell_of_row _ _ 1 _ _ _ (heap_alloc_new w _)
  · rw [k2]; exact cell_of_row _ _ 2 _ _ _ (heap_alloc_new w _)
  · rw [k3]; exact cell_of_row _ _ 3 _ _ _ (heap_alloc_new w _)

set_option maxRecDepth 100000 in
set_option maxHeartbeats 8000000 in
theorem lawWorldsOf (a : Option Addr) (n cap : Nat) (w : World) (h : BytesIn w a n cap) :
    Calls Try.prog 4 #[.slice a n cap] w (TrueEnd w) := by
  have hlen := h.len
  have H := Lib.hid h; clear h
  by_cases hn : 1048576 < n
  · go_enter Try.func4, Try.ntmps4
    go_wp2_with fail
    go_ret
    exact ⟨rfl, Below.refl _ _⟩
  · go_enter Try.func4, Try.ntmps4
    go_wp2_with fail
    refine (DrawWorldsOf_any _ _ _ _ H.out).mono ?_
    rintro e w1 ⟨t, rfl, ht, hb1⟩
    have HT := Lib.hid ht.out
    have HB := Lib.hid hb1
    clear ht hb1
    by_cases hin : 1 ≤ t ∧ t ≤ 3
    · obtain ⟨m, rfl⟩ : ∃ m : Nat, t = m := ⟨t.toNat, by omega⟩
      have hm1 : 1 ≤ m := by omega
      have hm3 : m ≤ 3 := by omega
      have HM := Lib.hid (And.intro hm1 hm3)
      have HL := Lib.hid (show wsL (m : Int) = wlL m by unfold wsL; rw [if_pos hin]; rfl)
      have HNT := Lib.hid (show ntN (m : Int) = m by unfold ntN; rw [if_pos hin]; rfl)
      obtain ⟨q, hq⟩ : ∃ q, (wlL m).length = q := ⟨_, rfl⟩
      have hq1 : 1 ≤ q := by
        obtain ⟨k1, k2, k3⟩ := wl_count
        have hc : m = 1 ∨ m = 2 ∨ m = 3 := by omega
        rcases hc with rfl | rfl | rfl <;> omega
      have hq19 : q ≤ 19 := by
        obtain ⟨k1, k2, k3⟩ := wl_count
        have hc : m = 1 ∨ m = 2 ∨ m = 3 := by omega
        rcases hc with rfl | rfl | rfl <;> omega
      obtain ⟨FF, hFF⟩ : ∃ FF : Nat → Nat → Int, FF = fun k => rv ((wlL m).getD k []) := ⟨_, rfl⟩
      have HFF := Lib.hid (show ∀ j, j < q → (wlL m).getD j [] = rowL (FF j) m ∧ worldB m (FF j) = true ∧ ∀ i, i < m → I64 (FF j i) from fun j hj => by
        have hmem : (wlL m).getD j [] ∈ wlL m := by
          rw [List.getD_eq_getElem?_getD, List.getElem?_eq_getElem (by omega)]
          exact List.getElem_mem _
        obtain ⟨e1, e2, e3, e4⟩ := wl_facts hm1 (by omega) hmem
        rw [hFF]
        exact ⟨e4.symm, e2, fun i hi => e3 _ (getD_mem (by omega))⟩)
      have HUP := Lib.hid (show ∀ k, k + 1 < q → ∃ p, p < m ∧ (∀ i, i < p → FF (k + 1) i = FF k i) ∧ FF k p < FF (k + 1) p from fun k hk => by
        rw [hFF]; exact ws_up hm1 hm3 (by omega))
      have HLE := Lib.hid hq
      have hqz : ((q : Int) == 0) = false := by rw [beq_eq_false_iff_ne]; omega
      have hne : ((q : Int) != (q : Int)) = false := by simp
      obtain ⟨m1, hmm⟩ : ∃ m1, m = m1 + 1 := ⟨m - 1, by omega⟩
      have hwm : IntKind.i64.wrap ((m : Int) - 1) = (m1 : Int) := by rw [wrap_in _ (by unfold I64; omega)]; omega
      have HMM := Lib.hid hmm
      have HWM := Lib.hid hwm
      clear hin hq hFF hmm HT hwm hm1 hm3
      go_wp2_with fail
      refine (WorldsOf_rows _ _).mono ?_
      rintro e w9 ⟨vs, rs, rfl, hsh, hb2⟩
      rw [HL.out, HNT.out] at hsh
      replace HB := Lib.hid (below_onto HB.out hb2)
      obtain ⟨gs, cs, rfl⟩ := hsh.shape (by have := HLE.out; omega)
      have HSA := Lib.hid hsh
      rw [HLE.out]
      clear hsh hb2
      go_wp2_with fail
      refine (specWorldsOf_rows _ _).mono ?_
      rintro e w9 ⟨vs, rw_, rfl, hsh, hb2⟩
      rw [HL.out, HNT.out] at hsh
      have hsa := HSA.out.kept hb2
      replace HB := Lib.hid (below_onto HB.out hb2)
      obtain ⟨gw, cw, rfl⟩ := hsh.shape (by have := HLE.out; omega)
      have hall : ∀ W, Below w9.heap.size w9 W → ∀ j, j < q →
          (W.cell? ⟨gs, j, none⟩ = some (.slice (some ⟨(rs.getD j (0, 0)).1, 0, none⟩) m (rs.getD j (0, 0)).2) ∧ Row W (rs.getD j (0, 0)).1 0 m (FF j) ∧ (rs.getD j (0, 0)).1 < W.heap.size) ∧
          (W.cell? ⟨gw, j, none⟩ = some (.slice (some ⟨(rw_.getD j (0, 0)).1, 0, none⟩) m (rw_.getD j (0, 0)).2) ∧ Row W (rw_.getD j (0, 0)).1 0 m (FF j)) := by
        intro W hW j hj
        have k1 := hsa.kept hW
        have k2 := hsh.kept hW
        have hjl : j < (wlL m).length := by rw [HLE.out]; exact hj
        exact ⟨⟨k1.cell hjl, k1.rowAt hjl HM.out.1 (HFF.out j hj).1, (World.ownsRow.lt (k1.row j hjl).1 _ rfl).2⟩, k2.cell hjl, k2.rowAt hjl HM.out.1 (HFF.out j hj).1⟩
      have HALL := Lib.hid hall
      have HW := Lib.hid (show ∀ j, j < q → worldB m (FF j) = true ∧ ∀ i, i < m → I64 (FF j i) from fun j hj => (HFF.out j hj).2)
      rw [HLE.out]
      obtain ⟨wS, hwS⟩ : ∃ wS, w9 = wS := ⟨_, rfl⟩
      clear hsa hsh hall HSA hb2 HL HFF HNT
      subst hwS
      go_wp2_with fail
      go_loopw [6] (fun i wr => ∃ j : Nat, j ≤ q ∧ i = .int .i64 j ∧ Below w9.heap.size w9 wr) (fun i _ => q - (intOf i).toNat)
      case atStart => exact ⟨0, Nat.zero_le _, rfl, Below.refl _ _⟩
      case round =>
        obtain ⟨j, hj, rfl, hbr⟩ := hrel
        by_cases hlt : j < q
        · have hji : (j : Int) < (q : Int) := by omega
          have hj0 : (0 : Int) ≤ (j : Int) := by omega
          have HC1 := Lib.hid (fun W (hW : Below w9.heap.size w9 W) => ((HALL.out W hW) j hlt).1.1)
          have HC2 := Lib.hid (fun W (hW : Below w9.heap.size w9 W) => ((HALL.out W hW) j hlt).2.1)
          have HR1 := Lib.hid (fun W (hW : Below w9.heap.size w9 W) => ((HALL.out W hW) j hlt).1.2.1)
          have HR2 := Lib.hid (fun W (hW : Below w9.heap.size w9 W) => ((HALL.out W hW) j hlt).2.2)
          have HI1 := Lib.hid (fun W (hW : Below w9.heap.size w9 W) => ints_row ((HALL.out W hW) j hlt).1.2.1 ((HALL.out W hW) j hlt).1.2.2 (by have := HM.out; omega) (HW.out j hlt).2)
          have HV := Lib.hid (HW.out j hlt).1
          have HBR := Lib.hid hbr
          obtain ⟨⟨b1, q1⟩, hb1⟩ : ∃ r, rs.getD j (0, 0) = r := ⟨_, rfl⟩
          obtain ⟨⟨b2, q2⟩, hb2⟩ : ∃ r, rw_.getD j (0, 0) = r := ⟨_, rfl⟩
          rw [hb1] at HC1 HR1 HI1
          rw [hb2] at HC2 HR2
          clear hb1 hb2 hbr
          go_wp2_with fail
          go_region_held3 (fun w' => w'.cell? ⟨gs, j, none⟩ = some (.slice (some ⟨b1, 0, none⟩) m q1) ∧ w'.cell? ⟨gw, j, none⟩ = some (.slice (some ⟨b2, 0, none⟩) m q2)) (first | exact ⟨HC1.out _ HBR.out, HC2.out _ HBR.out⟩ | exact ⟨HC1.out _ (below_drewN HBR.out _), HC2.out _ (below_drewN HBR.out _)⟩ | go_keep)
            (first | (go_at_call 19; refine (sameInts_row b1 0 q1 b2 0 q2 m (FF j) (by have := HM.out; omega) _ (HR1.out _ (by first | exact HBR.out | exact below_drewN HBR.out _)) (HR2.out _ (by first | exact HBR.out | exact below_drewN HBR.out _))).mono ?_; rintro e w8 ⟨rfl, hd8⟩; replace HBR := Lib.hid (by first | exact below_onto HBR.out hd8.below | exact below_onto (below_drewN HBR.out _) hd8.below : Below w9.heap.size w9 w8); clear hd8) | (go_at_call 20; refine (WorldOk_val _ m q1 (FF j) true _ HV.out (HI1.out _ (by first | exact HBR.out | exact below_drewN HBR.out _))).mono ?_; rintro e w8 ⟨rfl, hb8⟩; replace HBR := Lib.hid (by first | exact below_onto HBR.out hb8 | exact below_onto (below_drewN HBR.out _) hb8 : Below w9.heap.size w9 w8); clear hb8))
          all_goals
            go_wp2_with fail
            go_roundw
            case rel => exact ⟨j + 1, by omega, by go_num, by first | exact HBR.out | exact below_drewN HBR.out _⟩
            case measure => simp [intOf]; omega
        · have hji : ¬ (j : Int) < (q : Int) := by omega
          have HBR := Lib.hid hbr; clear hbr
          go_wp2_with fail
          go_loopw [7, 8] (fun i _ wr => ∃ j : Nat, 1 ≤ j ∧ j ≤ q ∧ i = .int .i64 j ∧ Below w9.heap.size w9 wr) (fun i _ _ => q - (intOf i).toNat)
          case atStart => exact ⟨1, Nat.le_refl _, hq1, rfl, HBR.out⟩
          case round =>
            clear HBR hji hlt hj
            obtain ⟨j, hj1, hj, rfl, hbr⟩ := hrel
            by_cases hlt : j < q
            · obtain ⟨k, hk⟩ : ∃ k, j = k + 1 := ⟨j - 1, by omega⟩
              have hji : (j : Int) < (q : Int) := by omega
              have hj0 : (0 : Int) ≤ (j : Int) := by omega
              have hk0 : (0 : Int) ≤ (k : Int) := by omega
              have hki : (k : Int) < (q : Int) := by omega
              have hwj : IntKind.i64.wrap ((j : Int) - 1) = (k : Int) := by rw [wrap_in _ (by unfold I64; omega)]; omega
              obtain ⟨p, hpm, hpe, hpl⟩ := HUP.out k (by omega)
              rw [← hk] at hpe hpl
              have HC1 := Lib.hid (fun W (hW : Below w9.heap.size w9 W) => ((HALL.out W hW) k (by omega)).2)
              have HC2 := Lib.hid (fun W (hW : Below w9.heap.size w9 W) => ((HALL.out W hW) j hlt).2)
              obtain ⟨⟨b1, q1⟩, hb1⟩ : ∃ r, rw_.getD k (0, 0) = r := ⟨_, rfl⟩
              obtain ⟨⟨b2, q2⟩, hb2⟩ : ∃ r, rw_.getD j (0, 0) = r := ⟨_, rfl⟩
              rw [hb1] at HC1
              rw [hb2] at HC2
              have HBR := Lib.hid hbr
              have HPE := Lib.hid hpe
              have HPL := Lib.hid hpl
              have HPM := Lib.hid hpm
              have hwm := HWM.out
              clear hb1 hb2 hbr hpe hpl hpm hk
              go_wp2_with fail
              go_loopw [8] (fun i wr => ∃ s : Nat, s ≤ p ∧ i = .int .i64 s ∧ Below w9.heap.size w9 wr) (fun i _ => p - (intOf i).toNat)
              case atStart => exact ⟨0, Nat.zero_le _, rfl, HBR.out⟩
              case round =>
                clear HBR
                obtain ⟨s, hs, rfl, hbr⟩ := hrel
                have HBR := Lib.hid hbr
                have hc1 := (HC1.out _ hbr).1
                have hc2 := (HC2.out _ hbr).1
                have hr1 := (HC1.out _ hbr).2 s (by have := HPM.out; omega)
                have hr2 := (HC2.out _ hbr).2 s (by have := HPM.out; omega)
                rw [Nat.zero_add] at hr1 hr2
                have hsm : s < m := by have := HPM.out; omega
                have hs3 : s ≤ 3 := by have := HM.out; omega
                have hsi : (s : Int) < (m : Int) := by omega
                have hs0 : (0 : Int) ≤ (s : Int) := by omega
                by_cases hsp : s < p
                · have hlt1 : (s : Int) < (m1 : Int) := by have := HPM.out; have := HMM.out; omega
                  obtain ⟨x, hx⟩ : ∃ x, FF k s = x := ⟨_, rfl⟩
                  have hy : FF j s = x := by rw [HPE.out s hsp]; exact hx
                  rw [hx] at hr1
                  rw [hy] at hr2
                  have hxx : (x == x) = true := by simp
                  clear hbr hx hy
                  go_wp2_with fail
                  go_quiet (fail)
                  go_wp2_with fail
                  go_roundw
                  case rel => exact ⟨s + 1, by omega, by go_num, below_drewN HBR.out _⟩
                  case measure => simp [intOf]; omega
                · have hsp' : s = p := by omega
                  obtain ⟨x, hx⟩ : ∃ x, FF k s = x := ⟨_, rfl⟩
                  obtain ⟨y, hy⟩ : ∃ y, FF j s = y := ⟨_, rfl⟩
                  have hxy : x < y := by rw [← hx, ← hy, hsp']; exact HPL.out
                  rw [hx] at hr1
                  rw [hy] at hr2
                  have hyx : (y == x) = false := by rw [beq_eq_false_iff_ne]; omega
                  have hle : decide (y ≤ x) = false := decide_eq_false (by omega)
                  clear hbr hx hy hsp' hsp
                  by_cases hlt1 : (s : Int) < (m1 : Int)
                  · go_wp2_with fail
                    go_quiet (fail)
                    go_wp2_with fail
                    go_quiet (fail)
                    go_wp2_with fail
                    go_roundw
                    case rel => exact ⟨j + 1, by omega, by omega, by go_num, below_drewN HBR.out _⟩
                    case measure => simp [intOf]; omega
                  · have he : m1 = s := by have := HPM.out; have := HMM.out; omega
                    subst he
                    have hlt2 : decide ((m1 : Int) < (m1 : Int)) = false := by simp
                    clear hlt1
                    go_wp2_with fail
                    go_quiet (fail)
                    go_wp2_with fail
                    go_quiet (fail)
                    go_wp2_with fail
                    go_roundw
                    case rel => exact ⟨j + 1, by omega, by omega, by go_num, below_drewN HBR.out _⟩
                    case measure => simp [intOf]; omega
            · have hji : ¬ (j : Int) < (q : Int) := by omega
              have HB2 := Lib.hid (below_onto HB.out hbr)
              have hmi : (m : Int) < 4 := by have := HM.out; omega
              have hm4 : m < 4 := by have := HM.out; omega
              clear hbr
              replace HB2 := Lib.hid (HB2.out.alloc HB2.out.size (.cells #[.int .i64 0, .int .i64 1, .int .i64 3, .int .i64 19] 3))
              have hcl := lit19_cell wr m HM.out.1 HM.out.2
              rw [HLE.out] at hcl
              obtain ⟨wL, hwL⟩ : ∃ wL, wr.alloc (.cells #[.int .i64 0, .int .i64 1, .int .i64 3, .int .i64 19] 3) = wL := ⟨_, rfl⟩
              rw [hwL] at HB2 hcl
              go_wp2_with fail
              go_ret
              exact ⟨rfl, HB2.out⟩
    · have HL := Lib.hid (show wsL t = [] by unfold wsL; rw [if_neg hin])
      have hc : t = -1 ∨ t = 0 ∨ t = 4 := by have := HT.out; omega
      clear hin HT
      rcases hc with rfl | rfl | rfl
      all_goals
        go_wp2_with fail
        refine (WorldsOf_rows _ _).mono ?_
        rintro e w9 ⟨vs, rs, rfl, hsh, hb2⟩
        rw [HL.out] at hsh
        replace HB := Lib.hid (below_onto HB.out hb2)
        obtain ⟨sa, sc, rfl⟩ := ships_nil hsh
        clear hsh hb2
        go_wp2_with fail
        refine (specWorldsOf_rows _ _).mono ?_
        rintro e w9 ⟨vs, rs, rfl, hsh, hb2⟩
        rw [HL.out] at hsh
        replace HB := Lib.hid (below_onto HB.out hb2)
        obtain ⟨sa2, sc2, rfl⟩ := ships_nil hsh
        clear hsh hb2
        go_wp2_with fail
        go_loopw [6] (fun i wr => i = .int .i64 0 ∧ Hid (Below w.heap.size w wr)) (fun _ _ => 0)
        case atStart => exact ⟨rfl, HB⟩
        case round =>
          clear HB
          obtain ⟨rfl, HB⟩ := hrel
          go_wp2_with fail
          go_loopw [7, 8] (fun i _ wr => i = .int .i64 1 ∧ Hid (Below w.heap.size w wr)) (fun _ _ _ => 0)
          case atStart => exact ⟨rfl, HB⟩
          case round =>
            clear HB
            obtain ⟨rfl, HB⟩ := hrel
            go_wp2_with fail
            refine (alive_any _).mono ?_
            rintro e w9 ⟨rfl, hb2⟩
            replace HB := Lib.hid (below_onto HB.out hb2); clear hb2
            go_wp2_with fail
            go_ret
            exact ⟨rfl, HB.out⟩
end Go.Proofs.Ytglnefffkcillaa
