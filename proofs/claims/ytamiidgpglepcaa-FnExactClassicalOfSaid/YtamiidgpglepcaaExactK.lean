import Derived.Test.YtamiidgpglepcaaClassS
namespace Go.Proofs.Ytamiidgpglepcaa
open Go.RowKit Go.Maps

/-- nothing has changed but blocks from B to T -/
structure Betw (B T : Nat) (w w' : World) : Prop where
  os : w'.os = w.os
  tape : w'.tape = w.tape
  output : w'.output = w.output
  size : w.heap.size ≤ w'.heap.size
  block : ∀ k, k < w.heap.size → (k < B ∨ T ≤ k) → w'.heap[k]? = w.heap[k]?
theorem Betw.refl (B T : Nat) (w : World) : Betw B T w w := ⟨rfl, rfl, rfl, Nat.le_refl _, fun _ _ _ => rfl⟩
theorem Betw.below {B T : Nat} {w w' : World} (h : Betw B T w w') {C : Nat} (hC : C ≤ B) (hs : C ≤ w.heap.size) : Below C w w' := ⟨h.os, h.tape, h.output, h.size, fun k hk => h.block k (by omega) (.inl (by omega))⟩
theorem Betw.put {B T : Nat} {w w' : World} (h : Betw B T w w') {g : Nat} (h1 : B ≤ g) (h2 : g < T) (j : Nat) (v : Value) : Betw B T w (w'.setCell ⟨g, j, none⟩ v) :=
  ⟨h.os, h.tape, h.output, by rw [show (w'.setCell ⟨g, j, none⟩ v).heap.size = w'.heap.size by simp [World.setCell]]; exact h.size, fun k hk hn => (Below.heap_setCell w' ⟨g, j, none⟩ v k (by show k ≠ g; omega)).trans (h.block k hk hn)⟩

/-- a slice that holds xs, in a block from B to T -/
def HasIn (w : World) (B T : Nat) (a : Option Addr) (xs : List Int) : Prop :=
  xs.length ≤ 1048576 ∧ (∀ x ∈ xs, I64 x) ∧ (xs.length = 0 ∨ ∃ g, a = some ⟨g, 0, none⟩ ∧ B ≤ g ∧ g < T ∧ g < w.heap.size ∧ Row w g 0 xs.length (fun i => xs.getD i 0) ∧ ∀ j, w.frozen? ⟨g, j, none⟩ = false)
theorem Has.within {w : World} {B : Nat} {a : Option Addr} {xs : List Int} (h : Has w B a xs) : HasIn w B w.heap.size a xs := by
  obtain ⟨h1, h2, h3⟩ := h
  refine ⟨by omega, h2, ?_⟩
  rcases h3 with h3 | ⟨g, h4, h5, h6, h7, h8⟩
  · exact .inl h3
  · exact .inr ⟨g, h4, h5, h6, h6, h7, h8⟩
theorem HasIn.ints {w : World} {B T : Nat} {a : Option Addr} {xs : List Int} (h : HasIn w B T a xs) : Ints w a xs.length (fun i => xs.getD i 0) := by
  obtain ⟨h1, h2, h3⟩ := h
  refine ⟨⟨by omega, fun i hi => h2 _ (getD_mem hi)⟩, ?_⟩
  rcases h3 with h3 | ⟨g, h4, _, _, h5, h6, _⟩
  · exact .inl h3
  · exact .inr ⟨g, 0, h4, h5, h6⟩
theorem HasIn.same {w w' : World} {B T : Nat} {a : Option Addr} {xs : List Int} (h : HasIn w B T a xs) (hs : w.heap.size ≤ w'.heap.size) (hb : ∀ g, B ≤ g → g < T → g < w.heap.size → w'.heap[g]? = w.heap[g]?) : HasIn w' B T a xs := by
  obtain ⟨h1, h2, h3⟩ := h
  refine ⟨h1, h2, ?_⟩
  rcases h3 with h3 | ⟨g, h4, hB, hT, h5, h6, h7⟩
  · exact .inl h3
  · have e := hb g hB hT h5
    exact .inr ⟨g, h4, hB, hT, Nat.lt_of_lt_of_le h5 hs, fun i hi => (World.cell?_of_block e).trans (h6 i hi), fun j => (World.frozen?_of_block e).trans (h7 j)⟩
theorem HasIn.next {w w' : World} {B T : Nat} {a : Option Addr} {xs : List Int} (h : HasIn w B T a xs) (hb : Below w.heap.size w w') : HasIn w' B T a xs := h.same hb.size (fun g _ _ hl => hb.block g hl)
theorem HasIn.apart {w w' : World} {B T B2 T2 : Nat} {a : Option Addr} {xs : List Int} (h : HasIn w B T a xs) (hb : Betw B2 T2 w w') (hd : T ≤ B2 ∨ T2 ≤ B) : HasIn w' B T a xs := h.same hb.size (fun g hB hT hl => hb.block g hl (by omega))

theorem Row.put {w : World} {g n i : Nat} {F : Nat → Int} (h : Row w g 0 n F) (hi : i < n) (x : Int) : Row (w.setCell ⟨g, i, none⟩ (.int .i64 x)) g 0 n (fun j => if j = i then x else F j) := by
  intro j hj
  rw [Nat.zero_add]
  have hj' := h j hj
  rw [Nat.zero_add] at hj'
  by_cases e : j = i
  · subst e; simp only [if_true]; exact World.cell?_setCell_same _ _ _ hj'
  · simp only [if_neg e]; rw [World.cell?_setCell_other _ _ _ _ (by simp)]; exact hj'
theorem Row.congr {w : World} {b o n : Nat} {F G : Nat → Int} (h : Row w b o n F) (e : ∀ i, i < n → F i = G i) : Row w b o n G := fun i hi => by rw [← e i hi]; exact h i hi

/-- 1, 2, 3 .. -/
def onesL (n : Nat) : List Int := rowL (fun i => (i : Int) + 1) n
theorem onesL_len (n : Nat) : (onesL n).length = n := rowL_len _ n

set_option maxRecDepth 100000 in
set_option maxHeartbeats 1600000 in
theorem mark_row (B T g n cap : Nat) (F : Nat → Int) (hn : n ≤ 1048576) (w : World) (h1 : B ≤ g) (h2 : g < T) (hr : Row w g 0 n F) (hf : ∀ j, w.frozen? ⟨g, j, none⟩ = false) :
    Calls Try.prog 21 #[.slice (some ⟨g, 0, none⟩) n cap, .int .i64 1] w fun e w' => e = .returned (.int .i64 ((n : Int) + 1)) ∧ Betw B T w w' ∧ Row w' g 0 n (fun i => (i : Int) + 1) ∧ ∀ j, w'.frozen? ⟨g, j, none⟩ = false := by
  have HR := Lib.hid (Row.congr (G := fun j => if j < 0 then (j : Int) + 1 else F j) hr (fun i _ => by rw [if_neg (by omega)])); have HF := Lib.hid hf; clear hr hf
  go_enter Try.func21, Try.ntmps21
  go_wp2_with fail
  go_loopw [1, 5] (fun v i wr => ∃ k : Nat, k ≤ n ∧ i = .int .i64 k ∧ v = .int .i64 ((k : Int) + 1) ∧ Row wr g 0 n (fun j => if j < k then (j : Int) + 1 else F j) ∧ (∀ j, wr.frozen? ⟨g, j, none⟩ = false) ∧ Betw B T w wr) (fun _ i _ => n - (intOf i).toNat)
  case atStart => exact ⟨0, Nat.zero_le _, rfl, rfl, HR.out, HF.out, Betw.refl _ _ _⟩
  case round =>
    clear HR HF
    obtain ⟨k, hk, rfl, rfl, hr, hf, hb⟩ := hrel
    by_cases hlt : k < n
    · have hki : (k : Int) < (n : Int) := by omega
      have hold := hr k hlt
      rw [Nat.zero_add] at hold
      have hfr := hf k
      have HR := Lib.hid (Row.congr (G := fun j => if j < k + 1 then (j : Int) + 1 else F j) (hr.put hlt ((k : Int) + 1)) (fun j _ => by
        by_cases e : j = k
        · subst e; rw [if_pos rfl, if_pos (by omega)]
        · rw [if_neg e]
          by_cases e2 : j < k
          · rw [if_pos e2, if_pos (by omega)]
          · rw [if_neg e2, if_neg (by omega)]))
      have HF := Lib.hid (show ∀ j, (wr.setCell ⟨g, k, none⟩ (.int .i64 ((k : Int) + 1))).frozen? ⟨g, j, none⟩ = false by intro j; rw [← hf j]; go_simp)
      have HB := Lib.hid (hb.put h1 h2 k (.int .i64 ((k : Int) + 1)))
      clear hr hf hb
      go_wp2_with fail
      go_roundw
      case rel => exact ⟨k + 1, by omega, by go_num, by go_num, HR.out, HF.out, HB.out⟩
      case measure => simp [intOf]; omega
    · have hki : ¬ (k : Int) < (n : Int) := by omega
      have hkn : k = n := by omega
      subst hkn
      have HR := Lib.hid (Row.congr (G := fun j => (j : Int) + 1) hr (fun j hj => by rw [if_pos hj])); have HF := Lib.hid hf; have HB := Lib.hid hb
      clear hr hf hb
      go_wp2_with fail
      go_ret
      exact ⟨rfl, HB.out, HR.out, HF.out⟩

set_option maxRecDepth 100000 in
set_option maxHeartbeats 1600000 in
theorem mark_nil (a : Option Addr) (cap : Nat) (w : World) :
    Calls Try.prog 21 #[.slice a 0 cap, .int .i64 1] w fun e w' => e = .returned (.int .i64 1) ∧ w = w' := by
  go_enter Try.func21, Try.ntmps21
  go_wp2_with fail
  go_loopw [1, 5] (fun v i wr => i = .int .i64 0 ∧ v = .int .i64 1 ∧ w = wr) (fun _ _ _ => 0)
  case atStart => exact ⟨rfl, rfl, rfl⟩
  case round =>
    obtain ⟨rfl, rfl, rfl⟩ := hrel
    go_wp2_with fail
    go_ret
    exact ⟨rfl, rfl⟩

theorem row_getD {w : World} {g n : Nat} {F : Nat → Int} (h : Row w g 0 n F) : Row w g 0 n (fun i => (rowL F n).getD i 0) := h.congr (fun _ hi => (rowL_getD _ _ _ hi).symm)
theorem onesL_I64 {n : Nat} (hn : n ≤ 1048576) : ∀ x ∈ onesL n, I64 x := rowL_mem (P := I64) (fun _ hi => by unfold I64; omega)

theorem mark_any (B T : Nat) (a : Option Addr) (n cap : Nat) (xs : List Int) (hn : xs.length = n) (w : World) (h : HasIn w B T a xs) :
    Calls Try.prog 21 #[.slice a n cap, .int .i64 1] w fun e w' => e = .returned (.int .i64 ((n : Int) + 1)) ∧ Betw B T w w' ∧ HasIn w' B T a (onesL n) := by
  subst hn
  obtain ⟨h1, h2, h3⟩ := h
  by_cases h0 : xs.length = 0
  · rw [h0]
    exact (mark_nil a cap w).mono fun e w' ⟨h4, h5⟩ => by
      subst h5
      exact ⟨h4, Betw.refl _ _ _, by rw [onesL_len]; omega, onesL_I64 (by omega), .inl (onesL_len 0)⟩
  · rcases h3 with h3 | ⟨g, rfl, h4, h5, h6, h7, h8⟩
    · exact absurd h3 h0
    · exact (mark_row B T g xs.length cap _ h1 w h4 h5 h7 h8).mono fun e w' ⟨k1, k2, k3, k4⟩ =>
        ⟨k1, k2, by rw [onesL_len]; exact h1, onesL_I64 h1, .inr ⟨g, rfl, h4, h5, Nat.lt_of_lt_of_le h6 k2.size, by rw [onesL_len]; exact row_getD k3, k4⟩⟩

set_option maxRecDepth 100000 in
set_option maxHeartbeats 1600000 in
theorem held_row (g n cap : Nat) (hn : n ≤ 1048576) (w : World) (hr : Row w g 0 n (fun i => (i : Int) + 1)) :
    Calls Try.prog 22 #[.slice (some ⟨g, 0, none⟩) n cap, .int .i64 1] w fun e w' => e = .returned (.int .i64 ((n : Int) + 1)) ∧ w = w' := by
  go_enter Try.func22, Try.ntmps22
  go_wp2_with fail
  go_loopw [1, 5] (fun v i wr => ∃ k : Nat, k ≤ n ∧ i = .int .i64 k ∧ v = .int .i64 ((k : Int) + 1) ∧ w = wr) (fun _ i _ => n - (intOf i).toNat)
  case atStart => exact ⟨0, Nat.zero_le _, rfl, rfl, rfl⟩
  case round =>
    obtain ⟨k, hk, rfl, rfl, rfl⟩ := hrel
    by_cases hlt : k < n
    · have hki : (k : Int) < (n : Int) := by omega
      have hold := hr k hlt
      rw [Nat.zero_add] at hold
      have hne : (((k : Int) + 1) != ((k : Int) + 1)) = false := by simp
      go_wp2_with fail
      go_roundw
      case rel => exact ⟨k + 1, by omega, by go_num, by go_num, by first | rfl | trivial⟩
      case measure => simp [intOf]; omega
    · have hki : ¬ (k : Int) < (n : Int) := by omega
      have hkn : k = n := by omega
      subst hkn
      go_wp2_with fail
      go_ret
      exact ⟨rfl, rfl⟩

set_option maxRecDepth 100000 in
set_option maxHeartbeats 1600000 in
theorem held_nil (a : Option Addr) (cap : Nat) (w : World) :
    Calls Try.prog 22 #[.slice a 0 cap, .int .i64 1] w fun e w' => e = .returned (.int .i64 1) ∧ w = w' := by
  go_enter Try.func22, Try.ntmps22
  go_wp2_with fail
  go_loopw [1, 5] (fun v i wr => i = .int .i64 0 ∧ v = .int .i64 1 ∧ w = wr) (fun _ _ _ => 0)
  case atStart => exact ⟨rfl, rfl, rfl⟩
  case round =>
    obtain ⟨rfl, rfl, rfl⟩ := hrel
    go_wp2_with fail
    go_ret
    exact ⟨rfl, rfl⟩

theorem held_any (B T : Nat) (a : Option Addr) (n cap : Nat) (w : World) (h : HasIn w B T a (onesL n)) :
    Calls Try.prog 22 #[.slice a n cap, .int .i64 1] w fun e w' => e = .returned (.int .i64 ((n : Int) + 1)) ∧ w = w' := by
  obtain ⟨h1, h2, h3⟩ := h
  rw [onesL_len] at h1 h3
  by_cases h0 : n = 0
  · subst h0
    exact held_nil a cap w
  · rcases h3 with h3 | ⟨g, rfl, _, _, _, h7, _⟩
    · exact absurd h3 h0
    · exact held_row g n cap h1 w (h7.congr (fun _ hi => rowL_getD _ _ _ hi))

theorem eqIntS_has (a1 a2 : Option Addr) (n c1 c2 : Nat) (B1 T1 B2 T2 : Nat) (xs : List Int) (hn : xs.length = n) (w : World) (h1 : HasIn w B1 T1 a1 xs) (h2 : HasIn w B2 T2 a2 xs) :
    Calls Try.prog 19 #[.slice a1 n c1, .slice a2 n c2] w fun e w' => e = .returned (.bool true) ∧ Drew w w' := by
  subst hn
  exact eqIntS_any a1 a2 c1 c2 _ _ (by have := h1.1; omega) w h1.ints h2.ints

theorem Gives.has {t : TypeId} {xs : List Int} {w w' : World} {e : Ending} (h : Gives t xs w e w') (hl : xs.length ≤ 1000) (h64 : ∀ x ∈ xs, I64 x) :
    ∃ (a : Option Addr) (cap : Nat), e = .returned (.slice a xs.length cap) ∧ HasIn w' w.heap.size w'.heap.size a xs ∧ Below w.heap.size w w' := by
  obtain ⟨v, rfl, h1, h2⟩ := h
  obtain ⟨a, cap, rfl, h3⟩ := h1.has hl h64
  exact ⟨a, cap, rfl, h3.within, h2⟩

theorem clsL_I64 (x : Int) : (clsL x).length ≤ 1000 ∧ ∀ y ∈ clsL x, I64 y := by
  unfold clsL
  split
  · exact ⟨by rw [rowL_len]; omega, rowL_mem (P := I64) (fun i _ => clsF_I64 _ _)⟩
  · split
    · exact ⟨by rw [rowL_len]; omega, rowL_mem (P := I64) (fun i _ => clsF_I64 _ _)⟩
    · split
      · exact ⟨by rw [rowL_len]; omega, rowL_mem (P := I64) (fun i _ => clsF_I64 _ _)⟩
      · exact ⟨by simp, by simp⟩

set_option maxRecDepth 100000 in
set_option maxHeartbeats 3200000 in
theorem exactClassicalOf (x : Int) (w : World) : Calls Try.prog 5 #[.int .i64 x] w (TrueEnd w) := by
  have hnot : ∀ (x : Bool) (w : World), (Op.unary .not (.bool x)).run Try.prog w = .ok (.bool (!x)) w := fun _ _ => rfl
  obtain ⟨hl, h64⟩ := clsL_I64 x
  obtain ⟨n, hn⟩ : ∃ n, (clsL x).length = n := ⟨_, rfl⟩
  have HN := Lib.hid hn; have HL := Lib.hid hl; have H64 := Lib.hid h64
  have hn1 : ¬ ((n : Int) + 1 < 0) := by omega
  have hne : (((n : Int) + 1) != ((n : Int) + 1)) = false := by simp
  clear hn hl h64
  go_enter Try.func5, Try.ntmps5
  go_wp2_with fail
  refine (specClassicalOf_any x _).mono ?_
  intro e w1 hg
  obtain ⟨a1, c1, rfl, h1, hb1⟩ := hg.has HL.out H64.out
  rw [HN.out]
  have H1 := Lib.hid h1; have HB1 := Lib.hid hb1; have HS1 := Lib.hid hb1.size; clear hg h1 hb1
  go_wp2_with fail
  refine (ClassicalOf_any x _).mono ?_
  intro e w2 hg
  obtain ⟨a2, c2, rfl, h2, hb2⟩ := hg.has HL.out H64.out
  rw [HN.out]
  have H2 := Lib.hid h2; replace H1 := Lib.hid (H1.out.next hb2); replace HB1 := Lib.hid (below_onto HB1.out hb2)
  have hs12 := hb2.size
  clear hg h2 hb2
  go_wp2_with fail
  refine (eqIntS_has _ _ n _ _ _ _ _ _ _ HN.out _ H2.out H1.out).mono ?_
  rintro e w3 ⟨rfl, hd⟩
  replace H1 := Lib.hid (H1.out.next hd.below); replace H2 := Lib.hid (H2.out.next hd.below); replace HB1 := Lib.hid (below_onto HB1.out hd.below)
  clear hd
  go_wp2_with fail
  refine (mark_any _ _ _ n _ _ HN.out _ H2.out).mono ?_
  rintro e w4 ⟨rfl, hb, h2⟩
  replace H1 := Lib.hid (H1.out.apart hb (.inl (Nat.le_refl _))); replace H2 := Lib.hid h2
  have hsb : w.heap.size ≤ w1.heap.size := HS1.out
  replace HB1 := Lib.hid (HB1.out.trans (hb.below (C := w.heap.size) hsb (Nat.le_trans HB1.out.size (Nat.le_refl _))))
  clear hb h2
  go_wp2_with fail
  refine (held_any _ _ _ n _ _ H2.out).mono ?_
  rintro e w' ⟨rfl, rfl⟩
  go_wp2_with fail
  refine (ClassicalOf_any x _).mono ?_
  intro e w5 hg
  obtain ⟨a5, c5, rfl, h5, hb5⟩ := hg.has HL.out H64.out
  rw [HN.out]
  have H5 := Lib.hid h5; replace H1 := Lib.hid (H1.out.next hb5); replace H2 := Lib.hid (H2.out.next hb5); replace HB1 := Lib.hid (below_onto HB1.out hb5)
  clear hg h5 hb5
  go_wp2_with fail
  refine (eqIntS_has _ _ n _ _ _ _ _ _ _ HN.out _ H5.out H1.out).mono ?_
  rintro e w6 ⟨rfl, hd⟩
  replace H2 := Lib.hid (H2.out.next hd.below); replace HB1 := Lib.hid (below_onto HB1.out hd.below)
  clear hd
  go_wp2_with fail
  refine (held_any _ _ _ n _ _ H2.out).mono ?_
  rintro e w' ⟨rfl, rfl⟩
  go_wp2_with fail
  go_ret
  exact ⟨rfl, HB1.out⟩

theorem namesL_I64 {n : Nat} {f : Nat → Int} (h64 : ∀ i, i < n → I64 (f i)) : (namesL n f).length ≤ 1000 ∧ ∀ y ∈ namesL n f, I64 y := by
  unfold namesL
  split
  · next hc =>
    have h7 := (worldB_7 (class_world hc)).2
    exact ⟨by rw [rowL_len]; omega, rowL_mem (P := I64) (fun i hi => by
      obtain ⟨z, h1, h2⟩ := name_lt h64 hc hi
      rw [h2]; unfold I64; omega)⟩
  · exact ⟨by simp, by simp⟩

set_option maxRecDepth 100000 in
set_option maxHeartbeats 1600000 in
theorem toIntF_row (bk off n cap : Nat) (f : Nat → Int) (hn : n ≤ 1048576) (w : World) (hr : Row w bk off n f) (hbk : bk < w.heap.size) :
    Calls Try.prog 18 #[.slice (some ⟨bk, off, none⟩) n cap] w fun e w' => Fresh w w' e n f ∧ ∀ j, w'.frozen? ⟨w.heap.size, j, none⟩ = false := by
  have hmk := run_make_row' (P := Try.prog) 23 3 (.int .i64 0) 8 Try.underlying23 Try.infoInt rfl .i64 .i64 n (by omega) (by omega)
  have hmade := World.rowIs_made w (.int .i64 0) n 3
  have hbel : Below w.heap.size w (w.alloc (.cells (madeCells #[.int .i64 0] n) 3)) := (Below.refl _ _).alloc (Nat.le_refl _) _
  go_enter Try.func18, Try.ntmps18
  go_wp2_with fail
  go_loopw [4] (fun i wr => ∃ k : Nat, k ≤ n ∧ i = .int .i64 k ∧ wr.rowIs w.heap.size 3 n (fill f k) ∧ Below w.heap.size w wr) (fun i _ => n - (intOf i).toNat)
  case atStart => exact ⟨0, Nat.zero_le _, rfl, hmade, hbel⟩
  case round =>
    obtain ⟨k, hk, rfl, hrow, hb⟩ := hrel
    have hr' := hr.below hb hbk
    by_cases hlt : k < n
    · have hc := hr' k hlt
      have hold := hrow.cell hlt
      have hfr := hrow.frozen k
      go_wp2_with fail
      go_roundw
      case rel => exact ⟨k + 1, by omega, by go_num, fill_step hrow, hb.setCell (Nat.le_refl _) _⟩
      case measure => simp [intOf]; omega
    · have hown : Row wr w.heap.size 0 n f := row_of_is hrow (fun i hi => by unfold fill; rw [if_pos (by omega)])
      have hsz : w.heap.size < wr.heap.size := hrow.lt
      have hfz : ∀ j, wr.frozen? ⟨w.heap.size, j, none⟩ = false := fun j => hrow.frozen j
      go_wp2_with fail
      go_ret
      exact ⟨⟨hb, rfl, hsz, hown⟩, hfz⟩

/-- a copy is made -/
def Copied (n : Nat) (f : Nat → Int) (w : World) (e : Ending) (w' : World) : Prop :=
  e = .returned (.slice (some ⟨w.heap.size, 0, none⟩) n n) ∧ Below w.heap.size w w' ∧ Ints w' (some ⟨w.heap.size, 0, none⟩) n f ∧ HasIn w' w.heap.size w'.heap.size (some ⟨w.heap.size, 0, none⟩) (rowL f n)
theorem toIntF_any (a : Option Addr) (n cap : Nat) (f : Nat → Int) (hn : n ≤ 1048576) (w : World) (hi : Ints w a n f) :
    Calls Try.prog 18 #[.slice a n cap] w (Copied n f w) := by
  have h0 := hi.1
  obtain ⟨_, h | ⟨b, o, rfl, hlt, hr⟩⟩ := hi
  · subst h
    exact (toIntS_nil a cap f w).mono fun e w' h => ⟨h.2.1, h.1, h.ints h0, by rw [rowL_len]; omega, by unfold rowL; simp, .inl (rowL_len f 0)⟩
  · exact (toIntF_row b o n cap f hn w hr hlt).mono fun e w' ⟨h, hz⟩ => ⟨h.2.1, h.1, h.ints h0, by rw [rowL_len]; exact hn, rowL_mem (P := I64) h0.2, .inr ⟨w.heap.size, rfl, Nat.le_refl _, h.2.2.1, h.2.2.1, by rw [rowL_len]; exact row_getD h.2.2.2, hz⟩⟩

set_option maxRecDepth 100000 in
set_option maxHeartbeats 6400000 in
theorem exactNamesOf_in (a : Option Addr) (n cap : Nat) (f : Nat → Int) (hn : n ≤ 1048576) (w : World) (hi : Ints w a n f) :
    Calls Try.prog 6 #[.slice a n cap] w (TrueEnd w) := by
  have hnot : ∀ (x : Bool) (w : World), (Op.unary .not (.bool x)).run Try.prog w = .ok (.bool (!x)) w := fun _ _ => rfl
  obtain ⟨hl, h64⟩ := namesL_I64 hi.i64
  obtain ⟨m, hm⟩ : ∃ m, (namesL n f).length = m := ⟨_, rfl⟩
  have HM := Lib.hid hm; have HL := Lib.hid hl; have H64 := Lib.hid h64; have HI := Lib.hid hi
  have hm1 : ¬ ((m : Int) + 1 < 0) := by omega
  have hn1 : ¬ ((n : Int) + 1 < 0) := by omega
  have hne : (((m : Int) + 1) != ((m : Int) + 1)) = false := by simp
  clear hm hl h64 hi
  go_enter Try.func6, Try.ntmps6
  go_wp2_with fail
  refine (toIntF_any a n cap f hn _ HI.out).mono ?_
  rintro e w1 ⟨rfl, hb1, hi1, _⟩
  have HB := Lib.hid hb1; have HI1 := Lib.hid hi1; have HS1 := Lib.hid hb1.size; clear hb1 hi1
  go_wp2_with fail
  refine (specNamesOf_any _ n n f _ HI1.out).mono ?_
  intro e w2 hg
  obtain ⟨a1, c1, rfl, h1, hb2⟩ := hg.has HL.out H64.out
  rw [HM.out]
  have H1 := Lib.hid h1; have HS2 := Lib.hid hb2.size; replace HB := Lib.hid (below_onto HB.out hb2); clear hg h1 hb2 HI1
  go_wp2_with fail
  refine (toIntF_any a n cap f hn _ (HI.out.below HB.out (Nat.le_refl _))).mono ?_
  rintro e w3 ⟨rfl, hb3, hi3, hx3⟩
  have HI3 := Lib.hid hi3; have HX := Lib.hid hx3; have HS3 := Lib.hid hb3.size; replace H1 := Lib.hid (H1.out.next hb3); replace HB := Lib.hid (below_onto HB.out hb3); clear hb3 hi3 hx3
  go_wp2_with fail
  refine (NamesOf_any _ n n f _ HI3.out).mono ?_
  intro e w4 hg
  obtain ⟨a2, c2, rfl, h2, hb4⟩ := hg.has HL.out H64.out
  rw [HM.out]
  have H2 := Lib.hid h2; have HS4 := Lib.hid hb4.size; replace H1 := Lib.hid (H1.out.next hb4); replace HX := Lib.hid (HX.out.next hb4); replace HI3 := Lib.hid (HI3.out.next hb4); replace HB := Lib.hid (below_onto HB.out hb4); clear hg h2 hb4
  go_wp2_with fail
  refine (eqIntS_has _ _ m _ _ _ _ _ _ _ HM.out _ H2.out H1.out).mono ?_
  rintro e w5 ⟨rfl, hd⟩
  replace H1 := Lib.hid (H1.out.next hd.below); replace H2 := Lib.hid (H2.out.next hd.below); replace HX := Lib.hid (HX.out.next hd.below); replace HI3 := Lib.hid (HI3.out.next hd.below); replace HB := Lib.hid (below_onto HB.out hd.below)
  clear hd
  go_wp2_with fail
  refine (toIntF_any a n cap f hn _ (HI.out.below HB.out (Nat.le_refl _))).mono ?_
  rintro e w6 ⟨rfl, hb6, hi6, _⟩
  have HI6 := Lib.hid hi6; replace H1 := Lib.hid (H1.out.next hb6); replace H2 := Lib.hid (H2.out.next hb6); replace HX := Lib.hid (HX.out.next hb6); replace HI3 := Lib.hid (HI3.out.next hb6); replace HB := Lib.hid (below_onto HB.out hb6)
  clear hb6 hi6
  go_wp2_with fail
  refine (eqIntS_any _ _ _ _ n f hn _ HI3.out HI6.out).mono ?_
  rintro e w7 ⟨rfl, hd⟩
  replace H1 := Lib.hid (H1.out.next hd.below); replace H2 := Lib.hid (H2.out.next hd.below); replace HX := Lib.hid (HX.out.next hd.below); replace HB := Lib.hid (below_onto HB.out hd.below)
  clear hd HI3 HI6
  go_wp2_with fail
  refine (mark_any _ _ _ n _ _ (rowL_len f n) _ HX.out).mono ?_
  rintro e w8 ⟨rfl, hb, _⟩
  replace H1 := Lib.hid (H1.out.apart hb (.inl (Nat.le_refl _))); replace H2 := Lib.hid (H2.out.apart hb (.inr (Nat.le_refl _)))
  replace HB := Lib.hid (HB.out.trans (hb.below (C := w.heap.size) (Nat.le_trans HS1.out HS2.out) HB.out.size))
  clear hb HX
  go_wp2_with fail
  refine (eqIntS_has _ _ m _ _ _ _ _ _ _ HM.out _ H2.out H1.out).mono ?_
  rintro e w9 ⟨rfl, hd⟩
  replace H1 := Lib.hid (H1.out.next hd.below); replace H2 := Lib.hid (H2.out.next hd.below); replace HB := Lib.hid (below_onto HB.out hd.below)
  clear hd
  go_wp2_with fail
  refine (mark_any _ _ _ m _ _ HM.out _ H2.out).mono ?_
  rintro e w10 ⟨rfl, hb, h2⟩
  replace H1 := Lib.hid (H1.out.apart hb (.inl HS3.out)); replace H2 := Lib.hid h2
  replace HB := Lib.hid (HB.out.trans (hb.below (C := w.heap.size) (Nat.le_trans HS1.out (Nat.le_trans HS2.out HS3.out)) HB.out.size))
  clear hb h2
  go_wp2_with fail
  refine (held_any _ _ _ m _ _ H2.out).mono ?_
  rintro e w' ⟨rfl, rfl⟩
  go_wp2_with fail
  refine (toIntF_any a n cap f hn _ (HI.out.below HB.out (Nat.le_refl _))).mono ?_
  rintro e w11 ⟨rfl, hb11, hi11, _⟩
  have HI11 := Lib.hid hi11; replace H1 := Lib.hid (H1.out.next hb11); replace H2 := Lib.hid (H2.out.next hb11); replace HB := Lib.hid (below_onto HB.out hb11)
  clear hb11 hi11
  go_wp2_with fail
  refine (NamesOf_any _ n n f _ HI11.out).mono ?_
  intro e w12 hg
  obtain ⟨a5, c5, rfl, h5, hb12⟩ := hg.has HL.out H64.out
  rw [HM.out]
  have H5 := Lib.hid h5; replace H1 := Lib.hid (H1.out.next hb12); replace H2 := Lib.hid (H2.out.next hb12); replace HB := Lib.hid (below_onto HB.out hb12)
  clear hg h5 hb12
  go_wp2_with fail
  refine (eqIntS_has _ _ m _ _ _ _ _ _ _ HM.out _ H5.out H1.out).mono ?_
  rintro e w13 ⟨rfl, hd⟩
  replace H2 := Lib.hid (H2.out.next hd.below); replace HB := Lib.hid (below_onto HB.out hd.below)
  clear hd
  go_wp2_with fail
  refine (held_any _ _ _ m _ _ H2.out).mono ?_
  rintro e w' ⟨rfl, rfl⟩
  go_wp2_with fail
  go_ret
  exact ⟨rfl, HB.out⟩

set_option maxRecDepth 100000 in
set_option maxHeartbeats 800000 in
theorem exactNamesOf_big (a : Option Addr) (n cap : Nat) (hn : 1048576 < n) (hm : n ≤ 9223372036854775807) (w : World) :
    Calls Try.prog 6 #[.slice a n cap] w (TrueEnd w) := by
  go_enter Try.func6, Try.ntmps6
  go_wp2_with fail
  go_ret
  exact ⟨rfl, Below.refl _ _⟩

theorem exactNamesOf (a : Option Addr) (n cap : Nat) (f : Nat → Int) (w : World) (hi : Ints w a n f) :
    Calls Try.prog 6 #[.slice a n cap] w (TrueEnd w) := by
  by_cases hn : n ≤ 1048576
  · exact exactNamesOf_in a n cap f hn w hi
  · exact exactNamesOf_big a n cap (by omega) hi.1.1 w


set_option maxRecDepth 100000 in
set_option maxHeartbeats 1600000 in
theorem exactClassicalOk_in (a : Option Addr) (n cap : Nat) (f : Nat → Int) (hn : n ≤ 1048576) (w : World) (hi : Ints w a n f) :
    Calls Try.prog 4 #[.slice a n cap] w (TrueEnd w) := by
  have h64 := Lib.hid hi.1
  go_enter Try.func4, Try.ntmps4
  go_wp2_with fail
  refine (toIntS_any a n cap f hn _ hi).mono ?_
  intro e w1 hf1
  have hi1 := hf1.ints h64.out
  obtain ⟨hb1, rfl, hs1, hr1⟩ := hf1
  replace hi := hi.next hb1
  clear hr1
  go_wp2_with fail
  refine (specClassicalOk_any _ n n f  _ hi1).mono ?_
  rintro e w2 ⟨rfl, hd2⟩
  clear hi1
  replace hi := hi.drew hd2
  replace hb1 := below_onto hb1 hd2.below
  go_wp2_with fail
  refine (toIntS_any a n cap f hn _ hi).mono ?_
  intro e w3 hf3
  have hi3 := hf3.ints h64.out
  obtain ⟨hb3, rfl, hs3, hr3⟩ := hf3
  replace hi := hi.next hb3
  replace hb1 := below_onto hb1 hb3
  clear hr3
  go_wp2_with fail
  refine (ClassicalOk_any _ n n f  _ hi3).mono ?_
  rintro e w4 ⟨rfl, hb4⟩
  replace hi := hi.next hb4
  replace hi3 := hi3.next hb4
  replace hb1 := below_onto hb1 hb4
  have hne : (classB n f != classB n f) = false := by simp
  go_wp2_with fail
  refine (toIntS_any a n cap f hn _ hi).mono ?_
  intro e w5 hf5
  have hi5 := hf5.ints h64.out
  obtain ⟨hb5, rfl, hs5, hr5⟩ := hf5
  replace hi3 := hi3.next hb5
  replace hb1 := below_onto hb1 hb5
  clear hr5
  go_wp2_with fail
  refine (eqIntS_any _ _ _ _ n f hn _ hi3 hi5).mono ?_
  rintro e w6 ⟨rfl, hd6⟩
  go_wp2_with fail
  go_ret
  exact ⟨rfl, below_onto hb1 hd6.below⟩

set_option maxRecDepth 100000 in
set_option maxHeartbeats 800000 in
theorem exactClassicalOk_big (a : Option Addr) (n cap : Nat) (hn : 1048576 < n) (hm : n ≤ 9223372036854775807) (w : World) :
    Calls Try.prog 4 #[.slice a n cap] w (TrueEnd w) := by
  go_enter Try.func4, Try.ntmps4
  go_wp2_with fail
  go_ret
  exact ⟨rfl, Below.refl _ _⟩

theorem exactClassicalOk (a : Option Addr) (n cap : Nat) (f : Nat → Int) (w : World) (hi : Ints w a n f) :
    Calls Try.prog 4 #[.slice a n cap] w (TrueEnd w) := by
  by_cases hn : n ≤ 1048576
  · exact exactClassicalOk_in a n cap f  hn w hi
  · exact exactClassicalOk_big a n cap  (by omega) hi.1.1 w
end Go.Proofs.Ytamiidgpglepcaa
