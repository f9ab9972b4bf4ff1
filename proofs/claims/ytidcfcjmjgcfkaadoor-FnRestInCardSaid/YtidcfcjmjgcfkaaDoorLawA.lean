import Derived.Test.YtidcfcjmjgcfkaaDoorDrawX
import Derived.Test.YtidcfcjmjgcfkaaDoorExactB
namespace Go.Proofs.YtidcfcjmjgcfkaaDoor
open Go.RowKit

theorem WorldOk_val (a : Option Addr) (n cap : Nat) (f : Nat → Int) (v : Bool) (w : World) (hv : worldB n f = v) (hi : Ints w a n f) :
    Calls Tryd.prog 9 #[.slice a n cap] w fun e w' => e = .returned (.bool v) ∧ Below w.heap.size w w' := by
  subst hv; exact WorldOk_any a n cap f w hi
theorem PartOk_val (a : Option Addr) (n cap : Nat) (f : Nat → Int) (x y : Int) (v : Bool) (w : World) (hv : partB n f x y = v) (hi : Ints w a n f) :
    Calls Tryd.prog 16 #[.slice a n cap, .int .i64 x, .int .i64 y] w fun e w' => e = .returned (.bool v) ∧ Below w.heap.size w w' := by
  subst hv; exact PartOk_any a n cap f x y w hi
theorem ProperOk_val (a : Option Addr) (n cap : Nat) (f : Nat → Int) (x y : Int) (v : Bool) (w : World) (hv : properB n f x y = v) (hi : Ints w a n f) :
    Calls Tryd.prog 11 #[.slice a n cap, .int .i64 x, .int .i64 y] w fun e w' => e = .returned (.bool v) ∧ Below w.heap.size w w' := by
  subst hv; exact ProperOk_any a n cap f x y w hi
theorem OverlapOk_val (a : Option Addr) (n cap : Nat) (f : Nat → Int) (x y : Int) (v : Bool) (w : World) (hv : overB n f x y = v) (hi : Ints w a n f) :
    Calls Tryd.prog 17 #[.slice a n cap, .int .i64 x, .int .i64 y] w fun e w' => e = .returned (.bool v) ∧ Below w.heap.size w w' := by
  subst hv; exact OverlapOk_any a n cap f x y w hi
theorem lit_ints (w : World) (xs : List Int) (h : ∀ x ∈ xs, I64 x) (hl : xs.length ≤ 1000) (cs : Array Value) (hcs : cs = (xs.map (Value.int .i64)).toArray) (t : TypeId) :
    Ints (w.alloc (.cells cs t)) (some ⟨w.heap.size, 0, none⟩) xs.length (fun i => xs.getD i 0) := by
  refine ⟨⟨by omega, ?_⟩, .inr ⟨w.heap.size, 0, rfl, by rw [alloc_size]; omega, lit_row w xs cs hcs xs.length (Nat.le_refl _) t⟩⟩
  intro i hi
  show I64 (xs.getD i 0)
  rw [List.getD_eq_getElem?_getD, List.getElem?_eq_getElem hi]
  exact h _ (List.getElem_mem _)

theorem world_1 : worldB 1 (fun i => ([1] : List Int).getD i 0) = true := by decide
theorem world_0 : worldB 1 (fun i => ([0] : List Int).getD i 0) = false := by decide

set_option maxHeartbeats 800000 in
theorem alive_any (w : World) : Calls Tryd.prog 13 #[] w (TrueEnd w) := by
  have hi1 := lit_ints w [1] (small_I64 (by decide)) (by decide) _ rfl 3
  have hb0 := alloc_below w (.cells (([1] : List Int).map (Value.int .i64)).toArray 3)
  go_enter Tryd.func13, Tryd.ntmps13
  go_wp2_with fail
  refine (WorldOk_val _ 1 1 (fun i => ([1] : List Int).getD i 0) true _ world_1 hi1).mono ?_
  rintro e w1 ⟨rfl, hb1⟩
  have hbb : Below w.heap.size w w1 := hb0.trans (hb1.mono (by rw [alloc_size]; omega))
  have hi2 := lit_ints w1 [0] (small_I64 (by decide)) (by decide) _ rfl 3
  have hb2 := alloc_below w1 (.cells (([0] : List Int).map (Value.int .i64)).toArray 3)
  clear hi1 hb0 hb1
  go_wp2_with fail
  refine (WorldOk_val _ 1 1 (fun i => ([0] : List Int).getD i 0) false _ world_0 hi2).mono ?_
  rintro e w2 ⟨rfl, hb3⟩
  have hbc : Below w.heap.size w w2 := (hbb.trans (hb2.mono hbb.size)).trans (hb3.mono (by rw [alloc_size]; have := hbb.size; omega))
  clear hi2 hb2 hb3 hbb
  go_wp2_with fail
  go_ret
  exact ⟨rfl, hbc⟩

/-- bytes that came in, as the shell of a proof says it -/
theorem bytes_of {w : World} {a : Option Addr} {len cap : Nat} {zs : List Int} (h : (a = none ∧ len = 0 ∧ cap = 0 ∧ zs = []) ∨
    ∃ x, a = some x ∧ len ≤ cap ∧ cap ≤ maxLen ∧ zs.length = cap ∧ (∀ i, i < zs.length → w.cell? (x.add i) = some (.int .u8 (zs.getD i 0))) ∧ ∀ n ∈ zs, (Lit.int .u8 n).wf = true) :
    BytesIn w a len cap := by
  rcases h with ⟨rfl, rfl, rfl, rfl⟩ | ⟨x, rfl, hl, hm, hz, hc, hwf⟩
  · exact ⟨Nat.le_refl _, by omega, .inl rfl⟩
  · unfold maxLen at hm
    refine ⟨hl, by omega, ?_⟩
    by_cases h0 : len = 0
    · exact .inl h0
    · right
      obtain ⟨b, o, rfl, hcell⟩ := ints_at hc (by omega)
      have h1 := hcell 0 (by omega)
      refine ⟨b, o, fun i => zs.getD i 0, rfl, World.block_lt_of_cell? w _ h1, fun i hi => ⟨hcell i (by omega), ?_⟩⟩
      have hm2 : zs.getD i 0 ∈ zs := by
        rw [List.getD_eq_getElem?_getD, List.getElem?_eq_getElem (by omega : i < zs.length)]
        exact List.getElem_mem _
      exact bounds_u8 (hwf _ hm2)

theorem BytesIn.len {w : World} {a : Option Addr} {n cap : Nat} (h : BytesIn w a n cap) : n ≤ 9223372036854775807 := Nat.le_trans h.1 h.2.1

theorem proper_self (n : Nat) (f : Nat → Int) (x : Int) : properB n f x x = false := by
  unfold properB; rw [decide_eq_false (fun h => h rfl)]; simp
theorem proper_part {n : Nat} {f : Nat → Int} {x y : Int} (h : properB n f x y = true) : partB n f x y = true := by
  unfold properB at h; rw [Bool.and_eq_true] at h; exact h.1
theorem part_facts {n : Nat} {f : Nat → Int} {x y : Int} (h : partB n f x y = true) : worldB n f = true ∧ (0 ≤ x ∧ x < n) ∧ (0 ≤ y ∧ y < n) ∧ hasB (f y.toNat) x.toNat = true := by
  unfold partB at h; rw [Bool.and_eq_true, good2_iff] at h; exact ⟨h.1.1, h.1.2.1, h.1.2.2, h.2⟩
theorem part_anti {n : Nat} {f : Nat → Int} (h64 : ∀ i, i < n → I64 (f i)) {x y : Int} (h : partB n f x y = true) (hne : x ≠ y) : partB n f y x = false := by
  obtain ⟨hw, hx, hy, hh⟩ := part_facts h
  have hP := (worldB_iff n f h64).1 hw
  have h2 := hP.anti y.toNat (by omega) x.toNat (by omega) (by omega) hh
  unfold partB; rw [h2]; simp
theorem proper_anti {n : Nat} {f : Nat → Int} (h64 : ∀ i, i < n → I64 (f i)) {x y : Int} (h : properB n f x y = true) : properB n f y x = false := by
  have hne : x ≠ y := by
    intro e; subst e; rw [proper_self] at h; cases h
  unfold properB; rw [part_anti h64 (proper_part h) hne]; rfl

end Go.Proofs.YtidcfcjmjgcfkaaDoor
