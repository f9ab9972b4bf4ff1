import Derived.Test.YtndcnfbncepihaaTxAE
import Derived.Test.YtndcnfbncepihaaTxU
import Derived.RangeFuncBox
namespace Go.Proofs.Ytndcnfbncepihaa
set_option linter.unusedVariables false
set_option linter.unusedSimpArgs false
open Go.RowKit Go.Maps

theorem OwnD.only {w w' : World} {B rb : Nat} {v : Value} {ds : List (Int × Int)} (h : OwnD w B v ds) (ho : Only rb w w') (hrb : rb < B) : OwnD w' B v ds := by
  refine ⟨h.1, ?_⟩
  rcases h.2 with h1 | ⟨g, cap, cur, hv, hBg, hg, hr⟩
  · exact .inl h1
  · exact .inr ⟨g, cap, cur, hv, hBg, (ho.block g (Array.getElem?_eq_some_iff.1 hg).1 (by omega)).trans hg, hr⟩
def I64D (ds : List (Int × Int)) : Prop := ∀ d ∈ ds, I64 d.1 ∧ I64 d.2
theorem I64D.nil : I64D [] := fun d hd => by cases hd
theorem I64D.snoc {ds : List (Int × Int)} {k x : Int} (h : I64D ds) (hk : I64 k) (hx : I64 x) : I64D (ds ++ [(k, x)]) := by
  intro d hd
  rcases List.mem_append.1 hd with hd | hd
  · exact h d hd
  · rw [List.mem_singleton] at hd; subst hd; exact ⟨hk, hx⟩
theorem new_deed (w : World) (k x : Int) : ∀ (jj : Nat) (u : Value), [Value.int .i64 k, .int .i64 x][jj]? = some u → (w.alloc (.cells #[.int .i64 k, .int .i64 x] 38)).cell? ((⟨w.heap.size, 0, none⟩ : Addr).add jj) = some u := fun jj u h => by
  have hh : (w.alloc (.cells #[.int .i64 k, .int .i64 x] 38)).heap[w.heap.size]? = some (.cells #[.int .i64 k, .int .i64 x] 38) := heap_alloc_new w _
  rw [Addr.add_lit, Nat.zero_add]
  unfold World.cell?
  rw [hh]
  have h4 : jj < 2 := (List.getElem?_eq_some_iff.1 h).1
  have : jj = 0 ∨ jj = 1 := by omega
  rcases this with rfl | rfl <;> exact h
theorem one_deed (k x : Int) : ∀ u ∈ [Value.int .i64 k, .int .i64 x], u.oneCell' = true := by
  intro u hu; simp only [List.mem_cons, List.not_mem_nil, or_false] at hu; rcases hu with rfl | rfl <;> rfl

/-- deeds are drawn -/
def DeedsDrawn (rb P : Nat) (w : World) (e : Ending) (w' : World) : Prop :=
  ∃ (v : Value) (ds : List (Int × Int)), e = .returned v ∧ ds.length ≤ 5 ∧ I64D ds ∧ OwnD w' w.heap.size v ds ∧ Only rb w w' ∧ Rdr w' rb (P + 100)
def DsR (rb P : Nat) (w : World) (v i : Value) (wr : World) : Prop :=
  ∃ (j : Nat) (ds : List (Int × Int)), i = .int .i64 j ∧ ds.length + j ≤ 5 ∧ I64D ds ∧ OwnD wr w.heap.size v ds ∧ Only rb w wr ∧ Rdr wr rb (P + 1 + 10 * ds.length)

set_option maxRecDepth 100000 in
set_option maxHeartbeats 3200000 in
theorem deeds_any (rb P : Nat) (a : Option Addr) (m cap : Nat) (hP : P ≤ 50000) (w : World) (h : Rdr w rb P) (hl : LstR w rb a m) :
    Calls Try.prog 63 #[.pointer (some ⟨rb, 0, none⟩), .slice a m cap] w (DeedsDrawn rb P w) := by
  obtain ⟨i0, hii, hz0, hz1, hz2⟩ := info_deed
  have hrb : rb < w.heap.size := h.1
  have HR := Lib.hid (h.al (.cells #[] 38))
  have HO0 := Lib.hid ((Only.refl rb w).alloc (.cells #[] 38))
  have HOW := Lib.hid (OwnD.made w w.heap.size (Nat.le_refl _))
  have HL := Lib.hid hl
  clear h hl
  go_enter Try.func63, Try.ntmps63
  go_wp2_with fail
  refine (pick_any rb _ 6 (by omega) _ HR.out).mono ?_
  rintro e w1 ⟨y, rfl, hy, ho, hr⟩
  have hst : DsR rb P w (.slice (some ⟨w.heap.size, 0, none⟩) 0 0) (.int .i64 (y : Int)) w1 := ⟨y, [], rfl, by simp; omega, I64D.nil, HOW.out.only ho hrb, HO0.out.trans ho, hr.mono (by simp)⟩
  clear hy ho hr HR HO0 HOW
  go_wp2_with fail
  go_loopw [5, 6] (fun v i wr => DsR rb P w v i wr) (fun _ i _ => (intOf i).toNat)
  case atStart => exact hst
  case round =>
    clear hst
    obtain ⟨j, ds, rfl, hj, h64, hown, hon, hrd⟩ := hrel
    obtain ⟨a5, c5, rfl⟩ := hown.slice
    have HON := Lib.hid hon; have HRD := Lib.hid hrd; have HOWN := Lib.hid hown; have H64 := Lib.hid h64
    clear hon hrd hown h64
    by_cases hj0 : 0 < j
    · have hjb : decide ((0 : Int) < (j : Int)) = true := by simp; omega
      go_wp2_with fail
      refine (deedR_any rb _ a m cap (by omega) _ HRD.out (HL.out.only HON.out)).mono ?_
      rintro e w4 ⟨k, x, rfl, hk0, hk9, hx, ho, hr⟩
      have HON4 := Lib.hid (HON.out.trans ho)
      have HOW4 : Hid (w4.ownsRow w.heap.size 38 2 (.slice a5 ds.length c5) ds.length (cellsD ds)) := Lib.hid (HOWN.out.only ho hrb)
      have HR4 := Lib.hid hr
      have HN64 := Lib.hid (H64.out.snoc (k := k) (x := x) (by unfold I64; omega) hx)
      have HSZ := Lib.hid HON4.out.size
      clear ho hr hx hk0 hk9 HON HRD HOWN H64
      have k1 := Lib.hid (new_deed w4 k x)
      have k2 := Lib.hid (one_deed k x)
      have k3 : Hid (ds.length + 1 ≤ maxLen) := Lib.hid (by unfold maxLen; omega)
      have k4 : Hid ((ds.length + 1) * 16 ≤ 140737488355328) := Lib.hid (by omega)
      have k5 : Hid (w.heap.size ≤ (w4.alloc (.cells #[.int .i64 k, .int .i64 x] 38)).heap.size) := Lib.hid (by rw [alloc_size]; have := HSZ.out; omega)
      go_wp2_with (at_builtin; refine wpList_append_own _ rfl (.tmp 14) (.tmp 18) 43 rfl w.heap.size 38 i0 (.agg #[.int .i64 0, .int .i64 0]) 2 16 Try.underlying43 hii hz0 hz1 hz2 rfl (by decide) _ _ _ rfl (HOW4.out.alloc _) ⟨w4.heap.size, 0, none⟩ 1 1 [.int .i64 k, .int .i64 x] rfl rfl k1.out k2.out k3.out k4.out k5.out ?_)
      intro v8 w8 hown8 hgrow8 _
      have hb8 : Below w.heap.size w4 w8 := ((Below.refl w.heap.size w4).alloc HSZ.out _).grown hgrow8 k5.out (fun g hg => (World.ownsRow.lt HOW4.out g hg).1)
      have hlen : (ds ++ [(k, x)]).length = ds.length + 1 := by simp
      have HN : Hid (DsR rb P w v8 (.int .i64 ((j - 1 : Nat) : Int)) w8) := Lib.hid ⟨j - 1, ds ++ [(k, x)], rfl, by omega, HN64.out, OwnD.snoc hown8, HON4.out.below_then hb8, (HR4.out.belowB hb8 hrb).mono (by omega)⟩
      obtain ⟨g8, c8, rfl⟩ := ownsRow_succ hown8
      have hji : (j : Int) - 1 = ((j - 1 : Nat) : Int) := by omega
      clear hown8 hgrow8 hb8 k1 k2 k3 k4 k5 HOW4 hlen
      go_wp2_with fail
      go_roundw
      case rel => first | exact HN.out | (rw [hji]; exact HN.out)
      case measure => simp [intOf]; omega
    · have hjb : decide ((0 : Int) < (j : Int)) = false := by simp; omega
      go_wp2_with fail
      go_ret
      exact ⟨_, ds, rfl, by omega, H64.out, HOWN.out, HON.out, HRD.out.mono (by omega)⟩
end Go.Proofs.Ytndcnfbncepihaa
