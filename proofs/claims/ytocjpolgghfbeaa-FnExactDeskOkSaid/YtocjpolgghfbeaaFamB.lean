import Derived.Test.YtocjpolgghfbeaaFamJ
import Derived.Deep.RegionHeld3
namespace Go.Proofs.Ytocjpolgghfbeaa
open Go.RowKit Go.Maps

theorem search_empty (a : Option Addr) (cap : Nat) (x : Int) (w : World) :
    Calls Try.prog 94 #[.slice a 0 cap, .int .i64 x] w (PlaceEnd 0 false w) := by
  go_enter Try.func94, Try.ntmps94
  go_wp2_with fail
  go_loopw [7, 8] (fun s7 s8 wr => s7 = .int .i64 0 ∧ s8 = .int .i64 0 ∧ w = wr) (fun _ _ _ => 0)
  case atStart => exact ⟨rfl, rfl, rfl⟩
  case round =>
    obtain ⟨rfl, rfl, rfl⟩ := hrel
    go_wp2_with fail
    go_ret2
    exact ⟨by first | rfl | trivial, Drew.refl _⟩

theorem search_own (B : Nat) (a : Option Addr) (n cap p : Nat) (xs : List Int) (x : Int) (v : Bool) (w : World) (hn : xs.length = n) (ho : OwnX w B 3 (.slice a n cap) xs) (hl : n ≤ 1000) (hp : p ≤ n)
    (hlo : ∀ i, i < p → xs.getD i 0 < x) (hhi : ∀ i, p ≤ i → i < n → x ≤ xs.getD i 0) (hv : (decide (p < n) && (xs.getD p 0 == x)) = v) :
    Calls Try.prog 94 #[.slice a n cap, .int .i64 x] w (PlaceEnd p v w) := by
  subst hn
  by_cases h0 : xs.length = 0
  · have hp0 : p = 0 := by omega
    subst hp0
    have : v = false := by rw [← hv, decide_eq_false (by omega), Bool.false_and]
    subst this
    rw [h0]
    exact search_empty a cap x w
  · obtain ⟨g, c, e1, _, _, _, _, hrow, _⟩ := ho.shape (by omega)
    injection e1 with e2 _ e3
    subst e2; subst e3
    exact search_any g xs.length cap p (fun i => xs.getD i 0) x v hp hl w hrow hlo hhi hv

/-- a family in its variable -/
structure FamAt (w : World) (B p : Nat) (v : Value) (S : Nat → Bool) : Prop where
  cell : w.cell? ⟨p, 0, none⟩ = some v
  own : OwnX w B 3 v (fam S 16)
  fz : w.frozen? ⟨p, 0, none⟩ = false
  ne : v.ownBlock ≠ some p
  base : B ≤ p

theorem FamAt.lt {w : World} {B p : Nat} {v : Value} {S : Nat → Bool} (h : FamAt w B p v S) : p < w.heap.size := World.block_lt_of_cell? w _ h.cell
theorem FamAt.upon {w w' : World} {B p : Nat} {v : Value} {S : Nat → Bool} (h : FamAt w B p v S) {F : Nat → Prop} (u : Upon F w w') (hp : ¬ F p) (hv : ∀ g, v.ownBlock = some g → ¬ F g) : FamAt w' B p v S :=
  ⟨u.cell h.cell hp, u.ownX h.own hv, (u.frozen (a := ⟨p, 0, none⟩) h.lt hp).trans h.fz, h.ne, h.base⟩
theorem FamAt.next {w w' : World} {B p : Nat} {v : Value} {S : Nat → Bool} (h : FamAt w B p v S) (hb : Below w.heap.size w w') : FamAt w' B p v S :=
  h.upon (F := fun _ => False) (Upon.of_below hb) (fun e => e) (fun _ _ e => e)
theorem FamAt.slice {w : World} {B p : Nat} {v : Value} {S : Nat → Bool} (h : FamAt w B p v S) : ∃ (a : Option Addr) (cap : Nat), v = .slice a (fam S 16).length cap := h.own.slice

/-- the blocks of a family's variable -/
def Mine (p : Nat) (v : Value) (k : Nat) : Prop := k = p ∨ v.ownBlock = some k
theorem FamAt.mine {w : World} {B p : Nat} {v : Value} {S : Nat → Bool} (h : FamAt w B p v S) : ∀ k, Mine p v k → B ≤ k := by
  rintro k (rfl | hk)
  · exact h.base
  · exact (h.own.lt hk).1
/-- a set was put -/
def PutEnd (B p : Nat) (v : Value) (S : Nat → Bool) (x : Nat) (w : World) (e : Ending) (w' : World) : Prop :=
  e = .returned (.bool (!S x)) ∧ ∃ v', FamAt w' B p v' (addS S x) ∧ Upon (Mine p v) w w' ∧ NewOr w v v'

theorem fam_put {S : Nat → Bool} {x k : Nat} (hx : x < k) (hn : S x = false) : putL (fam S k) (fam S x).length x = fam (addS S x) k := by
  obtain ⟨R, h1, h2, _⟩ := fam_add hx hn
  unfold putL
  rw [h1, h2, List.take_left, List.drop_left]

set_option maxRecDepth 100000 in
set_option maxHeartbeats 3200000 in
theorem put_any (B p : Nat) (v : Value) (S : Nat → Bool) (x : Nat) (hx : x < 16) (w : World) (hB : B ≤ w.heap.size) (h : FamAt w B p v S) :
    Calls Try.prog 77 #[.pointer (some ⟨p, 0, none⟩), .int .i64 x] w (PutEnd B p v S x w) := by
  obtain ⟨hp1, hp2, hp3, hp4⟩ := fam_place S x 16 hx
  obtain ⟨a, cap, rfl⟩ := h.slice
  have hplt := h.lt
  obtain ⟨n, hn⟩ : ∃ n, (fam S 16).length = n := ⟨_, rfl⟩
  obtain ⟨q, hq⟩ : ∃ q, (fam S x).length = q := ⟨_, rfl⟩
  have hn16 : n ≤ 16 := by rw [← hn]; exact fam_len_le _ _
  rw [hn] at hp1 hp3 hp4 h ⊢
  rw [hq] at hp1 hp2 hp3 hp4
  have HLO := Lib.hid hp2; have HHI := Lib.hid hp3; have HN := Lib.hid hn; have HQ := Lib.hid hq; have HH := Lib.hid h
  have hcell := h.cell
  have hqi : (q : Int) ≤ (n : Int) := by omega
  cases hs : S x with
  | true =>
    have HV := Lib.hid (hp4.trans hs); have HSX := Lib.hid hs
    clear hp2 hp3 hp4 hn hq h hs
    go_enter Try.func77, Try.ntmps77
    go_wp2_with fail
    refine (search_own B a n cap q (fam S 16) x true _ HN.out HH.out.own (by omega) hp1 HLO.out HHI.out HV.out).mono ?_
    rintro e w1 ⟨rfl, hd⟩
    go_wp2_with fail
    go_ret
    refine ⟨by rw [HSX.out]; rfl, _, ?_, Upon.of_below hd.below, .inl rfl⟩
    rw [addS_have HSX.out]
    exact HH.out.next hd.below
  | false =>
    have HV := Lib.hid (hp4.trans hs); have HSX := Lib.hid hs
    clear hp2 hp3 hp4 hn hq h hs
    go_enter Try.func77, Try.ntmps77
    go_wp2_with fail
    refine (search_own B a n cap q (fam S 16) x false _ HN.out HH.out.own (by omega) hp1 HLO.out HHI.out HV.out).mono ?_
    rintro e w1 ⟨rfl, hd⟩
    have hb1 := hd.below
    have H1 := HH.out.next hb1
    have hc1 := H1.cell
    have hplt1 := H1.lt
    have hal := alloc_below w1 (.cells #[.int .i64 x] 3)
    have H2 := H1.next hal
    have HB2 := Lib.hid (below_onto hb1 hal)
    have HVB := Lib.hid (heap_alloc_new w1 (.cells #[.int .i64 x] 3) : (w1.alloc (.cells #[.int .i64 x] 3)).heap[w1.heap.size]? = some (.cells #[.int .i64 x] 3 (0, 0)))
    have HNE := Lib.hid (show (Value.slice a n cap).ownBlock ≠ some w1.heap.size by
      intro e
      have := (H1.own.lt e).2
      omega)
    have HH2 := Lib.hid H2
    have HSZ := Lib.hid (show B ≤ (w1.alloc (.cells #[.int .i64 x] 3)).heap.size by have := hb1.size; have := hal.size; omega)
    have HSW := Lib.hid (show w.heap.size ≤ (w1.alloc (.cells #[.int .i64 x] 3)).heap.size by have := hb1.size; have := hal.size; omega)
    clear hd hb1 H1 hal H2
    go_wp2_with fail
    refine (insert_any B w1.heap.size _ (fam S 16) x q (by rw [HN.out]; exact hp1) (by rw [HN.out]; omega) _ HSZ.out HH2.out.own HVB.out HNE.out).mono ?_
    rintro e w3 ⟨v', rfl, hown, hup, hnew⟩
    have hc3 := hup.cell HH2.out.cell (fun e => HH2.out.ne e)
    have hf3 : w3.frozen? ⟨p, 0, none⟩ = false := (hup.frozen (a := ⟨p, 0, none⟩) HH2.out.lt (fun e => HH2.out.ne e)).trans HH2.out.fz
    rw [show putL (fam S 16) q x = fam (addS S x) 16 by rw [← HQ.out]; exact fam_put hx HSX.out] at hown
    obtain ⟨a3, c3, rfl⟩ := hown.slice
    have hne3 : (Value.slice a3 (fam (addS S x) 16).length c3).ownBlock ≠ some p := by
      rcases hnew with h | ⟨g, h, hg⟩
      · rw [h]; exact HH2.out.ne
      · rw [h]; intro e; injection e with e; have := HH2.out.lt; omega
    have hfin : PutEnd B p (.slice a n cap) S x w (.returned (.bool true)) (w3.setCell ⟨p, 0, none⟩ (.slice a3 (fam (addS S x) 16).length c3)) := by
      refine ⟨by rw [HSX.out]; rfl, _, ⟨World.cell?_setCell_same _ _ _ hc3, ?_, by rw [World.frozen?_setCell]; exact hf3, hne3, HH2.out.base⟩, ?_, ?_⟩
      · exact hown.other (fun g hg _ _ => Below.heap_setCell w3 ⟨p, 0, none⟩ _ g (by show g ≠ p; intro e; subst e; exact hne3 hg))
      · exact ((Upon.of_below HB2.out).trans (F := Mine p (.slice a n cap)) (hup.mono (G := Mine p (.slice a n cap)) (fun k _ e => .inr e)) (fun _ _ e => e)).put (.inl rfl) 0 _
      · rcases hnew with h | ⟨g, h, hg⟩
        · exact .inl h
        · exact .inr ⟨g, h, Nat.le_trans HSW.out hg⟩
    have HF := Lib.hid hfin
    clear hfin hown hup hnew hne3
    go_wp2_with fail
    go_ret
    exact HF.out

/-- a set was put, and whether it was new is known -/
def PutV (r : Bool) (B p : Nat) (v : Value) (S : Nat → Bool) (x : Nat) (w : World) (e : Ending) (w' : World) : Prop :=
  e = .returned (.bool r) ∧ ∃ v', FamAt w' B p v' (addS S x) ∧ Upon (Mine p v) w w' ∧ NewOr w v v'
theorem put_old (B p : Nat) (v : Value) (S : Nat → Bool) (x : Nat) (hx : x < 16) (w : World) (hB : B ≤ w.heap.size) (h : FamAt w B p v S) (hs : S x = true) :
    Calls Try.prog 77 #[.pointer (some ⟨p, 0, none⟩), .int .i64 x] w (PutV false B p v S x w) :=
  (put_any B p v S x hx w hB h).mono fun e w' k => by unfold PutEnd at k; rw [hs] at k; exact k
theorem put_new (B p : Nat) (v : Value) (S : Nat → Bool) (x : Nat) (hx : x < 16) (w : World) (hB : B ≤ w.heap.size) (h : FamAt w B p v S) (hs : S x = false) :
    Calls Try.prog 77 #[.pointer (some ⟨p, 0, none⟩), .int .i64 x] w (PutV true B p v S x w) :=
  (put_any B p v S x hx w hB h).mono fun e w' k => by unfold PutEnd at k; rw [hs] at k; exact k
end Go.Proofs.Ytocjpolgghfbeaa
