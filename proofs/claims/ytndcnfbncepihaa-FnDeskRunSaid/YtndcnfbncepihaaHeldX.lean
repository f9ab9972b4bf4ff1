import Derived.Test.YtndcnfbncepihaaOwnX
import Derived.Test.YtndcnfbncepihaaBaseB
namespace Go.Proofs.Ytndcnfbncepihaa
open Go.RowKit Go.Maps

/-- nothing has changed but blocks from B to T -/
structure Betw (B T : Nat) (w w' : World) : Prop where
  os : w'.os = w.os
  tape : w'.tape = w.tape
  output : w'.output = w.output
  size : w.heap.size ≤ w'.heap.size
  block : ∀ k, k < w.heap.size → (k < B ∨ T ≤ k) → w'.heap[k]? = w.heap[k]?
theorem Betw.refl (B T : Nat) (w : World) : Betw B T w w := ⟨rfl, rfl, rfl, Nat.le_refl _, fun _ _ _ => rfl⟩
theorem Betw.below {B T : Nat} {w w' : World} (h : Betw B T w w') {C : Nat} (hC : C ≤ B) (hs : C ≤ w.heap.size) : Below C w w' := ⟨h.os, h.tape, h.output, h.size, fun k hk => h.block k (by omega) (.inl (by omega))⟩
theorem Betw.put {B T : Nat} {w w' : World} (h : Betw B T w w') {g : Nat} (h1 : B ≤ g) (h2 : g < T) (j : Nat) (v : Value) : Betw B T w (w'.setCell ⟨g, j, none⟩ v) :=
  ⟨h.os, h.tape, h.output, by rw [show (w'.setCell ⟨g, j, none⟩ v).heap.size = w'.heap.size by simp [World.setCell]]; exact h.size, fun k hk hn => (Below.heap_setCell w' ⟨g, j, none⟩ v k (by show k ≠ g; omega)).trans (h.block k hk hn)⟩

/-- a slice that holds xs, in a block from B to T -/
def HasIn (w : World) (B T : Nat) (a : Option Addr) (xs : List Int) : Prop :=
  xs.length ≤ 1048576 ∧ (∀ x ∈ xs, I64 x) ∧ (xs.length = 0 ∨ ∃ g, a = some ⟨g, 0, none⟩ ∧ B ≤ g ∧ g < T ∧ g < w.heap.size ∧ Row w g 0 xs.length (fun i => xs.getD i 0) ∧ ∀ j, w.frozen? ⟨g, j, none⟩ = false)
theorem Has.within {w : World} {B : Nat} {a : Option Addr} {xs : List Int} (h : Has w B a xs) : HasIn w B w.heap.size a xs := by
  obtain ⟨h1, h2, h3⟩ := h
  refine ⟨by omega, h2, ?_⟩
  rcases h3 with h3 | ⟨g, h4, h5, h6, h7, h8⟩
  · exact .inl h3
  · exact .inr ⟨g, h4, h5, h6, h6, h7, h8⟩
theorem HasIn.ints {w : World} {B T : Nat} {a : Option Addr} {xs : List Int} (h : HasIn w B T a xs) : Ints w a xs.length (fun i => xs.getD i 0) := by
  obtain ⟨h1, h2, h3⟩ := h
  refine ⟨⟨by omega, fun i hi => h2 _ (getD_mem hi)⟩, ?_⟩
  rcases h3 with h3 | ⟨g, h4, _, _, h5, h6, _⟩
  · exact .inl h3
  · exact .inr ⟨g, 0, h4, h5, h6⟩
theorem HasIn.same {w w' : World} {B T : Nat} {a : Option Addr} {xs : List Int} (h : HasIn w B T a xs) (hs : w.heap.size ≤ w'.heap.size) (hb : ∀ g, B ≤ g → g < T → g < w.heap.size → w'.heap[g]? = w.heap[g]?) : HasIn w' B T a xs := by
  obtain ⟨h1, h2, h3⟩ := h
  refine ⟨h1, h2, ?_⟩
  rcases h3 with h3 | ⟨g, h4, hB, hT, h5, h6, h7⟩
  · exact .inl h3
  · have e := hb g hB hT h5
    exact .inr ⟨g, h4, hB, hT, Nat.lt_of_lt_of_le h5 hs, fun i hi => (World.cell?_of_block e).trans (h6 i hi), fun j => (World.frozen?_of_block e).trans (h7 j)⟩
theorem HasIn.next {w w' : World} {B T : Nat} {a : Option Addr} {xs : List Int} (h : HasIn w B T a xs) (hb : Below w.heap.size w w') : HasIn w' B T a xs := h.same hb.size (fun g _ _ hl => hb.block g hl)
theorem HasIn.apart {w w' : World} {B T B2 T2 : Nat} {a : Option Addr} {xs : List Int} (h : HasIn w B T a xs) (hb : Betw B2 T2 w w') (hd : T ≤ B2 ∨ T2 ≤ B) : HasIn w' B T a xs := h.same hb.size (fun g hB hT hl => hb.block g hl (by omega))

theorem Row.put {w : World} {g n i : Nat} {F : Nat → Int} (h : Row w g 0 n F) (hi : i < n) (x : Int) : Row (w.setCell ⟨g, i, none⟩ (.int .i64 x)) g 0 n (fun j => if j = i then x else F j) := by
  intro j hj
  rw [Nat.zero_add]
  have hj' := h j hj
  rw [Nat.zero_add] at hj'
  by_cases e : j = i
  · subst e; simp only [if_true]; exact World.cell?_setCell_same _ _ _ hj'
  · simp only [if_neg e]; rw [World.cell?_setCell_other _ _ _ _ (by simp)]; exact hj'
theorem Row.congr {w : World} {b o n : Nat} {F G : Nat → Int} (h : Row w b o n F) (e : ∀ i, i < n → F i = G i) : Row w b o n G := fun i hi => by rw [← e i hi]; exact h i hi

/-- 1, 2, 3 .. -/
def onesL (n : Nat) : List Int := rowL (fun i => (i : Int) + 1) n
theorem onesL_len (n : Nat) : (onesL n).length = n := rowL_len _ n

set_option maxRecDepth 100000 in
set_option maxHeartbeats 1600000 in
theorem mark_row (B T g n cap : Nat) (F : Nat → Int) (hn : n ≤ 1048576) (w : World) (h1 : B ≤ g) (h2 : g < T) (hr : Row w g 0 n F) (hf : ∀ j, w.frozen? ⟨g, j, none⟩ = false) :
    Calls Try.prog 35 #[.slice (some ⟨g, 0, none⟩) n cap, .int .i64 1] w fun e w' => e = .returned (.int .i64 ((n : Int) + 1)) ∧ Betw B T w w' ∧ Row w' g 0 n (fun i => (i : Int) + 1) ∧ ∀ j, w'.frozen? ⟨g, j, none⟩ = false := by
  have HR := Lib.hid (Row.congr (G := fun j => if j < 0 then (j : Int) + 1 else F j) hr (fun i _ => by rw [if_neg (by omega)])); have HF := Lib.hid hf; clear hr hf
  go_enter Try.func35, Try.ntmps35
  go_wp2_with fail
  go_loopw [1, 5] (fun v i wr => ∃ k : Nat, k ≤ n ∧ i = .int .i64 k ∧ v = .int .i64 ((k : Int) + 1) ∧ Row wr g 0 n (fun j => if j < k then (j : Int) + 1 else F j) ∧ (∀ j, wr.frozen? ⟨g, j, none⟩ = false) ∧ Betw B T w wr) (fun _ i _ => n - (intOf i).toNat)
  case atStart => exact ⟨0, Nat.zero_le _, rfl, rfl, HR.out, HF.out, Betw.refl _ _ _⟩
  case round =>
    clear HR HF
    obtain ⟨k, hk, rfl, rfl, hr, hf, hb⟩ := hrel
    by_cases hlt : k < n
    · have hki : (k : Int) < (n : Int) := by omega
      have hold := hr k hlt
      rw [Nat.zero_add] at hold
      have hfr := hf k
      have HR := Lib.hid (Row.congr (G := fun j => if j < k + 1 then (j : Int) + 1 else F j) (hr.put hlt ((k : Int) + 1)) (fun j _ => by
        by_cases e : j = k
        · subst e; rw [if_pos rfl, if_pos (by omega)]
        · rw [if_neg e]
          by_cases e2 : j < k
          · rw [if_pos e2, if_pos (by omega)]
          · rw [if_neg e2, if_neg (by omega)]))
      have HF := Lib.hid (show ∀ j, (wr.setCell ⟨g, k, none⟩ (.int .i64 ((k : Int) + 1))).frozen? ⟨g, j, none⟩ = false by intro j; rw [← hf j]; go_simp)
      have HB := Lib.hid (hb.put h1 h2 k (.int .i64 ((k : Int) + 1)))
      clear hr hf hb
      go_wp2_with fail
      go_roundw
      case rel => exact ⟨k + 1, by omega, by go_num, by go_num, HR.out, HF.out, HB.out⟩
      case measure => simp [intOf]; omega
    · have hki : ¬ (k : Int) < (n : Int) := by omega
      have hkn : k = n := by omega
      subst hkn
      have HR := Lib.hid (Row.congr (G := fun j => (j : Int) + 1) hr (fun j hj => by rw [if_pos hj])); have HF := Lib.hid hf; have HB := Lib.hid hb
      clear hr hf hb
      go_wp2_with fail
      go_ret
      exact ⟨rfl, HB.out, HR.out, HF.out⟩

set_option maxRecDepth 100000 in
set_option maxHeartbeats 1600000 in
theorem mark_nil (a : Option Addr) (cap : Nat) (w : World) :
    Calls Try.prog 35 #[.slice a 0 cap, .int .i64 1] w fun e w' => e = .returned (.int .i64 1) ∧ w = w' := by
  go_enter Try.func35, Try.ntmps35
  go_wp2_with fail
  go_loopw [1, 5] (fun v i wr => i = .int .i64 0 ∧ v = .int .i64 1 ∧ w = wr) (fun _ _ _ => 0)
  case atStart => exact ⟨rfl, rfl, rfl⟩
  case round =>
    obtain ⟨rfl, rfl, rfl⟩ := hrel
    go_wp2_with fail
    go_ret
    exact ⟨rfl, rfl⟩

theorem row_getD {w : World} {g n : Nat} {F : Nat → Int} (h : Row w g 0 n F) : Row w g 0 n (fun i => (rowL F n).getD i 0) := h.congr (fun _ hi => (rowL_getD _ _ _ hi).symm)
theorem onesL_I64 {n : Nat} (hn : n ≤ 1048576) : ∀ x ∈ onesL n, I64 x := rowL_mem (P := I64) (fun _ hi => by unfold I64; omega)

theorem mark_any (B T : Nat) (a : Option Addr) (n cap : Nat) (xs : List Int) (hn : xs.length = n) (w : World) (h : HasIn w B T a xs) :
    Calls Try.prog 35 #[.slice a n cap, .int .i64 1] w fun e w' => e = .returned (.int .i64 ((n : Int) + 1)) ∧ Betw B T w w' ∧ HasIn w' B T a (onesL n) := by
  subst hn
  obtain ⟨h1, h2, h3⟩ := h
  by_cases h0 : xs.length = 0
  · rw [h0]
    exact (mark_nil a cap w).mono fun e w' ⟨h4, h5⟩ => by
      subst h5
      exact ⟨h4, Betw.refl _ _ _, by rw [onesL_len]; omega, onesL_I64 (by omega), .inl (onesL_len 0)⟩
  · rcases h3 with h3 | ⟨g, rfl, h4, h5, h6, h7, h8⟩
    · exact absurd h3 h0
    · exact (mark_row B T g xs.length cap _ h1 w h4 h5 h7 h8).mono fun e w' ⟨k1, k2, k3, k4⟩ =>
        ⟨k1, k2, by rw [onesL_len]; exact h1, onesL_I64 h1, .inr ⟨g, rfl, h4, h5, Nat.lt_of_lt_of_le h6 k2.size, by rw [onesL_len]; exact row_getD k3, k4⟩⟩

set_option maxRecDepth 100000 in
set_option maxHeartbeats 1600000 in
theorem held_row (g n cap : Nat) (hn : n ≤ 1048576) (w : World) (hr : Row w g 0 n (fun i => (i : Int) + 1)) :
    Calls Try.prog 69 #[.slice (some ⟨g, 0, none⟩) n cap, .int .i64 1] w fun e w' => e = .returned (.int .i64 ((n : Int) + 1)) ∧ w = w' := by
  go_enter Try.func69, Try.ntmps69
  go_wp2_with fail
  go_loopw [1, 5] (fun v i wr => ∃ k : Nat, k ≤ n ∧ i = .int .i64 k ∧ v = .int .i64 ((k : Int) + 1) ∧ w = wr) (fun _ i _ => n - (intOf i).toNat)
  case atStart => exact ⟨0, Nat.zero_le _, rfl, rfl, rfl⟩
  case round =>
    obtain ⟨k, hk, rfl, rfl, rfl⟩ := hrel
    by_cases hlt : k < n
    · have hki : (k : Int) < (n : Int) := by omega
      have hold := hr k hlt
      rw [Nat.zero_add] at hold
      have hne : (((k : Int) + 1) != ((k : Int) + 1)) = false := by simp
      go_wp2_with fail
      go_roundw
      case rel => exact ⟨k + 1, by omega, by go_num, by go_num, by first | rfl | trivial⟩
      case measure => simp [intOf]; omega
    · have hki : ¬ (k : Int) < (n : Int) := by omega
      have hkn : k = n := by omega
      subst hkn
      go_wp2_with fail
      go_ret
      exact ⟨rfl, rfl⟩

set_option maxRecDepth 100000 in
set_option maxHeartbeats 1600000 in
theorem held_nil (a : Option Addr) (cap : Nat) (w : World) :
    Calls Try.prog 69 #[.slice a 0 cap, .int .i64 1] w fun e w' => e = .returned (.int .i64 1) ∧ w = w' := by
  go_enter Try.func69, Try.ntmps69
  go_wp2_with fail
  go_loopw [1, 5] (fun v i wr => i = .int .i64 0 ∧ v = .int .i64 1 ∧ w = wr) (fun _ _ _ => 0)
  case atStart => exact ⟨rfl, rfl, rfl⟩
  case round =>
    obtain ⟨rfl, rfl, rfl⟩ := hrel
    go_wp2_with fail
    go_ret
    exact ⟨rfl, rfl⟩

theorem held_any (B T : Nat) (a : Option Addr) (n cap : Nat) (w : World) (h : HasIn w B T a (onesL n)) :
    Calls Try.prog 69 #[.slice a n cap, .int .i64 1] w fun e w' => e = .returned (.int .i64 ((n : Int) + 1)) ∧ w = w' := by
  obtain ⟨h1, h2, h3⟩ := h
  rw [onesL_len] at h1 h3
  by_cases h0 : n = 0
  · subst h0
    exact held_nil a cap w
  · rcases h3 with h3 | ⟨g, rfl, _, _, _, h7, _⟩
    · exact absurd h3 h0
    · exact held_row g n cap h1 w (h7.congr (fun _ hi => rowL_getD _ _ _ hi))

theorem eqIntS_has (a1 a2 : Option Addr) (n c1 c2 : Nat) (B1 T1 B2 T2 : Nat) (xs : List Int) (hn : xs.length = n) (w : World) (h1 : HasIn w B1 T1 a1 xs) (h2 : HasIn w B2 T2 a2 xs) :
    Calls Try.prog 34 #[.slice a1 n c1, .slice a2 n c2] w fun e w' => e = .returned (.bool true) ∧ Drew w w' := by
  subst hn
  exact eqIntS_any a1 a2 c1 c2 _ _ (by have := h1.1; omega) w h1.ints h2.ints

theorem Gives.has {t : TypeId} {xs : List Int} {w w' : World} {e : Ending} (h : Gives t xs w e w') (hl : xs.length ≤ 1000) (h64 : ∀ x ∈ xs, I64 x) :
    ∃ (a : Option Addr) (cap : Nat), e = .returned (.slice a xs.length cap) ∧ HasIn w' w.heap.size w'.heap.size a xs ∧ Below w.heap.size w w' := by
  obtain ⟨v, rfl, h1, h2⟩ := h
  obtain ⟨a, cap, rfl, h3⟩ := h1.has hl h64
  exact ⟨a, cap, rfl, h3.within, h2⟩

set_option maxRecDepth 100000 in
set_option maxHeartbeats 1600000 in
theorem toIntF_row (bk off n cap : Nat) (f : Nat → Int) (hn : n ≤ 1048576) (w : World) (hr : Row w bk off n f) (hbk : bk < w.heap.size) :
    Calls Try.prog 33 #[.slice (some ⟨bk, off, none⟩) n cap] w fun e w' => Fresh w w' e n f ∧ ∀ j, w'.frozen? ⟨w.heap.size, j, none⟩ = false := by
  have hmk := run_make_row' (P := Try.prog) 23 3 (.int .i64 0) 8 Try.underlying23 Try.infoInt rfl .i64 .i64 n (by omega) (by omega)
  have hmade := World.rowIs_made w (.int .i64 0) n 3
  have hbel : Below w.heap.size w (w.alloc (.cells (madeCells #[.int .i64 0] n) 3)) := (Below.refl _ _).alloc (Nat.le_refl _) _
  go_enter Try.func33, Try.ntmps33
  go_wp2_with fail
  go_loopw [4] (fun i wr => ∃ k : Nat, k ≤ n ∧ i = .int .i64 k ∧ wr.rowIs w.heap.size 3 n (fill f k) ∧ Below w.heap.size w wr) (fun i _ => n - (intOf i).toNat)
  case atStart => exact ⟨0, Nat.zero_le _, rfl, hmade, hbel⟩
  case round =>
    obtain ⟨k, hk, rfl, hrow, hb⟩ := hrel
    have hr' := hr.below hb hbk
    by_cases hlt : k < n
    · have hc := hr' k hlt
      have hold := hrow.cell hlt
      have hfr := hrow.frozen k
      go_wp2_with fail
      go_roundw
      case rel => exact ⟨k + 1, by omega, by go_num, fill_step hrow, hb.setCell (Nat.le_refl _) _⟩
      case measure => simp [intOf]; omega
    · have hown : Row wr w.heap.size 0 n f := row_of_is hrow (fun i hi => by unfold fill; rw [if_pos (by omega)])
      have hsz : w.heap.size < wr.heap.size := hrow.lt
      have hfz : ∀ j, wr.frozen? ⟨w.heap.size, j, none⟩ = false := fun j => hrow.frozen j
      go_wp2_with fail
      go_ret
      exact ⟨⟨hb, rfl, hsz, hown⟩, hfz⟩

/-- a copy is made -/
def Copied (n : Nat) (f : Nat → Int) (w : World) (e : Ending) (w' : World) : Prop :=
  e = .returned (.slice (some ⟨w.heap.size, 0, none⟩) n n) ∧ Below w.heap.size w w' ∧ Ints w' (some ⟨w.heap.size, 0, none⟩) n f ∧ HasIn w' w.heap.size w'.heap.size (some ⟨w.heap.size, 0, none⟩) (rowL f n)
theorem toIntF_any (a : Option Addr) (n cap : Nat) (f : Nat → Int) (hn : n ≤ 1048576) (w : World) (hi : Ints w a n f) :
    Calls Try.prog 33 #[.slice a n cap] w (Copied n f w) := by
  have h0 := hi.1
  obtain ⟨_, h | ⟨b, o, rfl, hlt, hr⟩⟩ := hi
  · subst h
    exact (toIntS_nil a cap f w).mono fun e w' h => ⟨h.2.1, h.1, h.ints h0, by rw [rowL_len]; omega, by unfold rowL; simp, .inl (rowL_len f 0)⟩
  · exact (toIntF_row b o n cap f hn w hr hlt).mono fun e w' ⟨h, hz⟩ => ⟨h.2.1, h.1, h.ints h0, by rw [rowL_len]; exact hn, rowL_mem (P := I64) h0.2, .inr ⟨w.heap.size, rfl, Nat.le_refl _, h.2.2.1, h.2.2.1, by rw [rowL_len]; exact row_getD h.2.2.2, hz⟩⟩

end Go.Proofs.Ytndcnfbncepihaa
