import Derived.Test.YtndcnfbncepihaaClassM
import Derived.Test.YtndcnfbncepihaaOwnX
import Derived.Maps.AppendAt
import Derived.Maps.Own
import Derived.Maps.OwnOps
namespace Go.Proofs.Ytndcnfbncepihaa
open Go.RowKit Go.Maps

theorem withinInt_any (x y : Int) (w : World) :
    Calls Try.prog 108 #[.int .i64 x, .int .i64 y] w fun e w' => e = .returned (.bool (withinB x y)) ∧ w = w' := by
  go_enter Try.func108, Try.ntmps108
  go_wp2
  go_ret
  exact ⟨rfl, rfl⟩
theorem withinInt_val (x y : Int) (v : Bool) (w : World) (hv : withinB x y = v) :
    Calls Try.prog 108 #[.int .i64 x, .int .i64 y] w fun e w' => e = .returned (.bool v) ∧ w = w' := by subst hv; exact withinInt_any x y w

theorem subs_full1 : subsL 1 2 = rowL (fun i => (i : Int) + 1) 1 := by kernel_rfl
theorem subs_full3 : subsL 3 4 = rowL (fun i => (i : Int) + 1) 3 := by kernel_rfl
theorem subs_full7 : subsL 7 8 = rowL (fun i => (i : Int) + 1) 7 := by kernel_rfl
theorem subs_full {N : Nat} (h : N = 1 ∨ N = 3 ∨ N = 7) : subsL N (N + 1) = rowL (fun i => (i : Int) + 1) N := by
  rcases h with rfl | rfl | rfl
  · exact subs_full1
  · exact subs_full3
  · exact subs_full7

set_option maxRecDepth 100000 in
set_option maxHeartbeats 800000 in
theorem partsAmong_any (a : Option Addr) (n cap : Nat) (w : World) :
    Calls Try.prog 89 #[.slice a n cap] w fun e w' => e = .returned (.func (.func 107) #[] #[.pointer (some ⟨w.heap.size, 0, none⟩)]) ∧ w' = w.alloc (.cells #[.slice a n cap] 23) := by
  have hmf : ∀ (fn : Fn) (first cap : Array Value) (w : World), (Instr.makeFunc fn first cap).run Try.prog w = .ok (.func fn first cap) w := fun _ _ _ _ => rfl
  go_enter Try.func89, Try.ntmps89
  go_wp2_with fail
  go_ret
  exact ⟨rfl, rfl⟩

set_option maxRecDepth 100000 in
set_option maxHeartbeats 1600000 in
theorem partsC_any (p g o N cap : Nat) (f : Nat → Int) (y : Int) (hN : N ≤ 7) (w : World) (hr : Row w g o N f) (hp : w.cell? ⟨p, 0, none⟩ = some (.slice (some ⟨g, o, none⟩) N cap)) :
    Calls Try.prog 107 #[.int .i64 y, .pointer (some ⟨p, 0, none⟩)] w fun e w' => e = .returned (.int .i64 (setOf (fun b => withinB (f b) y) N)) ∧ w = w' := by
  go_enter Try.func107, Try.ntmps107
  go_wp2_with fail
  go_loopw [4, 9] (fun v i wr => ∃ k : Nat, k ≤ N ∧ i = .int .i64 k ∧ v = .int .i64 (setOf (fun b => withinB (f b) y) k) ∧ w = wr) (fun _ i _ => N - (intOf i).toNat)
  case atStart => exact ⟨0, Nat.zero_le _, rfl, rfl, rfl⟩
  case round =>
    obtain ⟨k, hk, rfl, rfl, rfl⟩ := hrel
    by_cases hlt : k < N
    · have hc := hr k hlt
      have hki : (k : Int) < (N : Int) := by omega
      have ⟨hp1, hp2⟩ := pow_bounds k (by omega)
      cases hg : withinB (f k) y with
      | true =>
        have HS := Lib.hid (setOf_yes (fun b => withinB (f b) y) k hg); have HG := Lib.hid hg; clear hg
        go_wp2_with fail
        refine (withinInt_val _ _ true _ HG.out).mono ?_
        rintro e w' ⟨rfl, rfl⟩
        go_wp2_with fail
        go_roundw
        case rel => exact ⟨k + 1, by omega, by go_num, by rw [HS.out], by first | rfl | trivial⟩
        case measure => simp [intOf]; omega
      | false =>
        have HS := Lib.hid (setOf_no (fun b => withinB (f b) y) k hg); have HG := Lib.hid hg; clear hg
        go_wp2_with fail
        refine (withinInt_val _ _ false _ HG.out).mono ?_
        rintro e w' ⟨rfl, rfl⟩
        go_wp2_with fail
        go_roundw
        case rel => exact ⟨k + 1, by omega, by go_num, by rw [HS.out], by first | rfl | trivial⟩
        case measure => simp [intOf]; omega
    · have hkn : k = N := by omega
      subst hkn
      go_wp2_with fail
      go_ret
      exact ⟨rfl, rfl⟩

set_option maxRecDepth 100000 in
set_option maxHeartbeats 3200000 in
theorem worldAmong_any (g o N cap : Nat) (f : Nat → Int) (hN7 : N ≤ 7) (w : World) (hr : Row w g o N f) (hgl : g < w.heap.size) :
    Calls Try.prog 61 #[.slice (some ⟨g, o, none⟩) N cap] w (Gives 3 (rowL (wfF N f) N) w) := by
  obtain ⟨i0, hi, hz0, hz1, hz2⟩ := info_parts Try.infoInt
  have HROW := Lib.hid hr; clear hr
  go_enter Try.func61, Try.ntmps61
  go_wp2_with fail
  refine (partsAmong_any _ _ _ _).mono ?_
  rintro e w2 ⟨rfl, hw2⟩
  have hb2 : Below w.heap.size w w2 := by rw [hw2]; exact alloc_below w _
  have hcell : w2.cell? ⟨w.heap.size, 0, none⟩ = some (.slice (some ⟨g, o, none⟩) N cap) := by rw [hw2]; exact (cell_new w _ _).1
  have hs2 : w2.heap.size = w.heap.size + 1 := by rw [hw2, alloc_size]
  have HB2 := Lib.hid hb2; have HC := Lib.hid hcell; have HS2 := Lib.hid hs2; have HR2 := Lib.hid (HROW.out.below hb2 hgl)
  have HE := Lib.hid (enters_of (P := Try.prog) Try.func107 (by kernel_rfl) rfl)
  clear hb2 hcell hs2 hw2
  obtain ⟨w3, hmk, hown3, hgr3⟩ := run_make_own (P := Try.prog) w2 w2.heap.size 23 3 i0 (.int .i64 0) 1 Try.underlying23 hi hz0 hz1 .i64 .i64 N (by rw [hz2]; omega) (by unfold maxLen; omega) (Nat.le_refl _)
  have hb3 : Below w2.heap.size w2 w3 := (Below.refl _ _).grown hgr3 (Nat.le_refl _) (fun q hq => by cases hq)
  have hst : OwnX w3 w2.heap.size 3 (.slice (some ⟨w2.heap.size, 0, none⟩) 0 N) (rowL (wfF N f) 0) := hown3
  have hsb := hb3
  clear hown3 hgr3 hb3
  go_wp2_with fail
  go_loopw [4, 14] (fun v i wr => ∃ k : Nat, k ≤ N ∧ i = .int .i64 k ∧ OwnX wr w2.heap.size 3 v (rowL (wfF N f) k) ∧ Below w2.heap.size w2 wr) (fun _ i _ => N - (intOf i).toNat)
  case atStart => exact ⟨0, Nat.zero_le _, rfl, hst, hsb⟩
  case round =>
    clear hst hsb
    obtain ⟨k, hk, rfl, hown, hbel⟩ := hrel
    obtain ⟨a9, c9, rfl⟩ := hown.slice
    by_cases hlt : k < N
    · have hki : (k : Int) < (N : Int) := by omega
      have hgl2 : g < w2.heap.size := by have := HS2.out; omega
      have hpl2 : w.heap.size < w2.heap.size := by have := HS2.out; omega
      have hr := HR2.out.below hbel hgl2
      have hc := hr k hlt
      have hcp : wr.cell? ⟨w.heap.size, 0, none⟩ = some (.slice (some ⟨g, o, none⟩) N cap) := (hbel.cell (p := ⟨w.heap.size, 0, none⟩) hpl2).trans HC.out
      have HR := Lib.hid hr; have HCP := Lib.hid hcp
      have HS := Lib.hid (rowL_succ (wfF N f) k)
      have HL := Lib.hid (show (rowL (wfF N f) k).length ≤ 1000 by rw [rowL_len]; omega)
      have HSZ := Lib.hid hbel.size; have HB := Lib.hid hbel
      have HO : Hid (wr.ownsRow w2.heap.size 3 1 (.slice a9 (rowL (wfF N f) k).length c9) (rowL (wfF N f) k).length ((rowL (wfF N f) k).map (Value.int .i64))) := Lib.hid hown
      clear hown hbel hr hcp
      have hen := HE.out
      go_wp2_with fail
      refine (partsC_any _ g o N cap f _ hN7 _ HR.out HCP.out).mono ?_
      rintro e w' ⟨rfl, rfl⟩
      have k1 := Lib.hid (fun (j : Nat) (u : Value) (h : [Value.int .i64 (setOf (fun b => withinB (f b) (f k)) N)][j]? = some u) => cell_one_new wr (.int .i64 (setOf (fun b => withinB (f b) (f k)) N)) 3 j u h)
      have k2 : Hid (∀ u ∈ [Value.int .i64 (setOf (fun b => withinB (f b) (f k)) N)], u.oneCell' = true) := Lib.hid (by intro u hu; simp at hu; subst hu; rfl)
      have k3 : Hid ((rowL (wfF N f) k).length + 1 ≤ maxLen) := Lib.hid (by have := HL.out; unfold maxLen; omega)
      have k4 : Hid (((rowL (wfF N f) k).length + 1) * 8 ≤ 140737488355328) := Lib.hid (by have := HL.out; omega)
      have k5 : Hid (w2.heap.size ≤ (wr.alloc (.cells #[.int .i64 (setOf (fun b => withinB (f b) (f k)) N)] 3)).heap.size) := Lib.hid (by rw [alloc_size]; have := HSZ.out; omega)
      go_wp2_with (at_builtin; refine wpList_append_own _ rfl (.tmp 18) (.tmp 22) 23 rfl w2.heap.size 3 i0 (.int .i64 0) 1 8 Try.underlying23 hi hz0 hz1 hz2 rfl (by decide) _ _ _ rfl (HO.out.alloc _) ⟨wr.heap.size, 0, none⟩ 1 1 [.int .i64 (setOf (fun b => withinB (f b) (f k)) N)] rfl rfl k1.out k2.out k3.out k4.out k5.out ?_)
      intro v' w5 hown' hgrow _
      have hg5 : Below w2.heap.size wr w5 := ((Below.refl w2.heap.size wr).alloc HSZ.out _).grown hgrow (by have := HSZ.out; rw [alloc_size]; omega) (fun q hq => (HO.out.lt q hq).1)
      have ho5 := OwnX.snoc hown'
      clear hown' hgrow k1 k2 k3 k4 k5
      have HO5 := Lib.hid ho5; have HG5 := Lib.hid hg5; clear ho5 hg5
      go_wp2_with fail
      go_roundw
      case rel => exact ⟨k + 1, by omega, by go_num, by rw [HS.out]; exact HO5.out, HB.out.trans HG5.out⟩
      case measure => simp [intOf]; omega
    · have hki : ¬ (k : Int) < (N : Int) := by omega
      have hkn : k = N := by omega
      subst hkn
      have HO := Lib.hid hown; have HB := Lib.hid hbel; clear hown hbel
      go_wp2_with fail
      go_ret
      exact ⟨_, rfl, HO.out.base HB2.out.size, below_onto HB2.out HB.out⟩

/-- the world of all sets of so many atoms -/
def clsL (x : Int) : List Int := if x = 1 then rowL (clsF 1) 1 else if x = 2 then rowL (clsF 3) 3 else if x = 3 then rowL (clsF 7) 7 else []
theorem clsL_no {x : Int} (h : ¬ (1 ≤ x ∧ x ≤ 3)) : clsL x = [] := by
  unfold clsL; rw [if_neg (by omega), if_neg (by omega), if_neg (by omega)]
/-- the number of things of a classical world of k atoms -/
def Full (k N : Nat) : Prop := (k = 1 ∧ N = 1) ∨ (k = 2 ∧ N = 3) ∨ (k = 3 ∧ N = 7)
theorem full_of {x : Int} (h : 1 ≤ x ∧ x ≤ 3) : ∃ k N : Nat, x = k ∧ Full k N := by
  rcases (show x = 1 ∨ x = 2 ∨ x = 3 by omega) with rfl | rfl | rfl
  · exact ⟨1, 1, rfl, .inl ⟨rfl, rfl⟩⟩
  · exact ⟨2, 3, rfl, .inr (.inl ⟨rfl, rfl⟩)⟩
  · exact ⟨3, 7, rfl, .inr (.inr ⟨rfl, rfl⟩)⟩
theorem Full.list {k N : Nat} (h : Full k N) : clsL k = rowL (clsF N) N := by
  rcases h with ⟨rfl, rfl⟩ | ⟨rfl, rfl⟩ | ⟨rfl, rfl⟩ <;> rfl
theorem Full.pow {k N : Nat} (h : Full k N) : (2 : Int) ^ k = N + 1 ∧ 1 ≤ k ∧ k ≤ 3 ∧ 1 ≤ N ∧ N ≤ 7 := by
  rcases h with ⟨rfl, rfl⟩ | ⟨rfl, rfl⟩ | ⟨rfl, rfl⟩ <;> (refine ⟨by decide, ?_⟩; omega)
theorem Full.all {k N : Nat} (h : Full k N) : N = 1 ∨ N = 3 ∨ N = 7 := by
  rcases h with ⟨rfl, rfl⟩ | ⟨rfl, rfl⟩ | ⟨rfl, rfl⟩ <;> simp

end Go.Proofs.Ytndcnfbncepihaa
