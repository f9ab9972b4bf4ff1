import Derived.Test.YtacoeaoaabjkoaaPcI
import Derived.Test.YtacoeaoaabjkoaaLaw8V
namespace Go.Proofs.Ytacoeaoaabjkoaa
open Go.RowKit Go.Maps

theorem th_of {n : Nat} {f : Nat → Int} {a : Int} (h64 : ∀ i, i < n → I64 (f i)) (ha : I64 a) (h : thingB n f a = true) : ThP n f a ∧ 1 ≤ a := by
  have h1 := thing_rng ha h
  exact ⟨⟨(grd_iff h64).1 (thing_grd h), by omega, h1.2⟩, h1.1⟩

/-- what the five functions answer -/
def tgV (n : Nat) (f : Nat → Int) (a : Int) : Bool := thingB n f a && tgB n f a
def pcV (n : Nat) (f : Nat → Int) (a : Int) : List Int := if thingB n f a then pcsL n f a else []
/-- what a thing leaves -/
def rsI (n : Nat) (a : Int) : Int := bits .andNot .i64 (2 ^ n - 1) a
def hoV (n : Nat) (f : Nat → Int) (a : Int) : List Int := if thingB n f a then evL (pcV n f (rsI n a)) else []
def fiL (a : Int) (xs : List Int) : Int := xs.foldl (fun x y => bits .or .i64 x y) a
def fiV (n : Nat) (f : Nat → Int) (a : Int) : Int := if thingB n f a then fiL a (hoV n f a) else -1
/-- one place alone -/
def oneB (a : Int) : Bool := bits .and .i64 a (a - 1) == 0
def cuV (n : Nat) (f : Nat → Int) (a : Int) : Int := if (thingB n f a && !oneB a && tgB n f a) = true then ctI n f a n else -1

theorem pcV_len (n : Nat) (f : Nat → Int) (a : Int) (hn : n ≤ 7) : (pcV n f a).length ≤ 7 := by
  unfold pcV
  split
  · have := pcsK_len (n := n) (f := f) (a := a) n
    unfold pcsL; omega
  · simp
theorem pcV_64 {n : Nat} {f : Nat → Int} {a : Int} (h64 : ∀ i, i < n → I64 (f i)) (ha : I64 a) : ∀ x ∈ pcV n f a, I64 x := by
  intro x hx
  unfold pcV at hx
  split at hx
  · rename_i h
    obtain ⟨hT, _⟩ := th_of h64 ha h
    obtain ⟨p, hp, _, rfl⟩ := pcs_mem.1 hx
    exact pc_I64 hp hT.g.hi
  · cases hx
theorem pcV_7 {n : Nat} {f : Nat → Int} {a : Int} : (pcV n f a).length ≤ 7 := by
  by_cases h : thingB n f a = true
  · exact pcV_len n f a (grd_7 (thing_grd h)).2
  · unfold pcV; rw [if_neg h]; simp
theorem evL_len (xs : List Int) : (evL xs).length ≤ xs.length := List.length_filter_le _ _
theorem evL_mem {xs : List Int} {x : Int} : x ∈ evL xs ↔ x ∈ xs ∧ hasB x 0 = false := by
  unfold evL
  rw [List.mem_filter, Bool.not_eq_true']
theorem hoV_7 {n : Nat} {f : Nat → Int} {a : Int} : (hoV n f a).length ≤ 7 := by
  unfold hoV
  split
  · have := evL_len (pcV n f (rsI n a))
    have := pcV_7 (n := n) (f := f) (a := rsI n a)
    omega
  · simp
theorem hoV_64 {n : Nat} {f : Nat → Int} {a : Int} (h64 : ∀ i, i < n → I64 (f i)) : ∀ x ∈ hoV n f a, I64 x := by
  intro x hx
  unfold hoV at hx
  split at hx
  · exact pcV_64 h64 (andNot_I64 _ _) x (evL_mem.1 hx).1
  · cases hx
theorem fiL_snoc (a : Int) (xs : List Int) (x : Int) : fiL a (xs ++ [x]) = bits .or .i64 (fiL a xs) x := by
  unfold fiL; rw [List.foldl_append]; rfl

def oneA : Bool := (List.range 128).all (fun a => Nat.beq a 0 || ((Nat.land a (a - 1) == 0) == Nat.beq ((List.range 7).countP (fun i => a.testBit i)) 1))
theorem one_all : oneA = true := by kernel_rfl
theorem one_nat {A : Nat} (h1 : 1 ≤ A) (hA : A < 128) : oneB (A : Int) = Nat.beq ((List.range 7).countP (fun i => A.testBit i)) 1 := by
  have hk := one_all
  unfold oneA at hk
  rw [List.all_eq_true] at hk
  have h2 := hk A (List.mem_range.2 hA)
  rw [Bool.or_eq_true] at h2
  rcases h2 with h2 | h2
  · have := Nat.eq_of_beq_eq_true h2; omega
  · rw [beq_iff_eq] at h2
    rw [← h2]
    unfold oneB
    have e : ((A : Int) - 1) = ((A - 1 : Nat) : Int) := by omega
    have e2 : bits .and .i64 (A : Int) ((A : Int) - 1) = ((A &&& (A - 1) : Nat) : Int) := by rw [e]; exact and_nat9 hA
    rw [e2, Bool.eq_iff_iff, beq_iff_eq, beq_iff_eq]
    show _ ↔ A &&& (A - 1) = 0
    omega
theorem countP_two {p : Nat → Bool} : ∀ (l : List Nat), l.Nodup → (2 ≤ l.countP p ↔ ∃ i j, i ∈ l ∧ j ∈ l ∧ i ≠ j ∧ p i = true ∧ p j = true)
  | [], _ => by simp
  | x :: l, h => by
    have hx := (List.nodup_cons.1 h).1
    have ih := countP_two (p := p) l (List.nodup_cons.1 h).2
    rw [List.countP_cons]
    constructor
    · intro h2
      cases hp : p x with
      | true =>
        have h3 : 1 ≤ l.countP p := by rw [hp] at h2; simpa using h2
        obtain ⟨y, hy, hpy⟩ := List.countP_pos_iff.1 h3
        exact ⟨x, y, by simp, by simp [hy], fun e => hx (e ▸ hy), hp, hpy⟩
      | false =>
        rw [hp] at h2
        obtain ⟨i, j, hi, hj, r⟩ := ih.1 (by simpa using h2)
        exact ⟨i, j, by simp [hi], by simp [hj], r⟩
    · rintro ⟨i, j, hi, hj, hij, hpi, hpj⟩
      rw [List.mem_cons] at hi hj
      rcases hi with rfl | hi
      · rcases hj with rfl | hj
        · exact absurd rfl hij
        · have := List.countP_pos_iff.2 ⟨j, hj, hpj⟩
          simp only [hpi, if_true]; omega
      · rcases hj with rfl | hj
        · have := List.countP_pos_iff.2 ⟨i, hi, hpi⟩
          simp only [hpj, if_true]; omega
        · have := ih.2 ⟨i, j, hi, hj, hij, hpi, hpj⟩
          omega
theorem two_iff {n : Nat} {f : Nat → Int} {a : Int} (hT : ThP n f a) (h1 : 1 ≤ a) : oneB a = false ↔ Two a := by
  have h7 := hT.g.hi
  have hp := pow_bounds n h7
  obtain ⟨A, rfl⟩ := Int.eq_ofNat_of_zero_le hT.lo
  have hA : A < 128 := by have := hT.hi; omega
  obtain ⟨i0, hi0, hb0⟩ := some_bit8 h7 ⟨h1, hT.hi⟩
  have hpos : 1 ≤ (List.range 7).countP (fun i => A.testBit i) := List.countP_pos_iff.2 ⟨i0, List.mem_range.2 (by omega), by rw [← hasB_nat]; exact hb0⟩
  rw [one_nat (by omega) hA]
  have h2 := countP_two (p := fun i => A.testBit i) (List.range 7) List.nodup_range
  constructor
  · intro hne
    have hc1 : (List.range 7).countP (fun i => A.testBit i) ≠ 1 := fun e => by rw [e] at hne; cases hne
    obtain ⟨i, j, _, _, hij, hpi, hpj⟩ := h2.1 (by omega)
    exact ⟨i, j, hij, by rw [hasB_nat]; exact hpi, by rw [hasB_nat]; exact hpj⟩
  · rintro ⟨i, j, hij, hpi, hpj⟩
    have hin := hT.lt hpi
    have hjn := hT.lt hpj
    rw [hasB_nat] at hpi hpj
    have := h2.2 ⟨i, j, List.mem_range.2 (by omega), List.mem_range.2 (by omega), hij, hpi, hpj⟩
    rw [Bool.eq_false_iff]
    intro hb
    have := Nat.eq_of_beq_eq_true hb
    omega
end Go.Proofs.Ytacoeaoaabjkoaa

namespace Go.Proofs.Ytacoeaoaabjkoaa
open Go.RowKit Go.Maps

theorem single_any (a : Int) (h0 : 0 ≤ a) (h1 : a < 128) (w : World) :
    Calls Try.prog 56 #[.int .i64 a] w fun e w' => e = .returned (.bool (oneB a)) ∧ w = w' := by
  have hw : IntKind.i64.wrap (a - 1) = a - 1 := wrap_in _ (by unfold I64; omega)
  go_enter Try.func56, Try.ntmps56
  go_wp2_with fail
  go_ret
  exact ⟨rfl, rfl⟩
theorem single_val (a : Int) (v : Bool) (h0 : 0 ≤ a) (h1 : a < 128) (w : World) (hv : oneB a = v) :
    Calls Try.prog 56 #[.int .i64 a] w fun e w' => e = .returned (.bool v) ∧ w = w' := by
  subst hv; exact single_any a h0 h1 w

set_option maxRecDepth 100000 in
set_option maxHeartbeats 800000 in
theorem TogetherOk_any (a : Option Addr) (n cap : Nat) (f : Nat → Int) (x : Int) (hx : I64 x) (w : World) (hi : Ints w a n f) :
    Calls Try.prog 14 #[.slice a n cap, .int .i64 x] w fun e w' => e = .returned (.bool (tgV n f x)) ∧ Below w.heap.size w w' := by
  have HI := Lib.hid hi; have HX := Lib.hid hx; clear hi hx
  go_enter Try.func14, Try.ntmps14
  go_wp2_with fail
  refine (on1_any a n cap f x HX.out w HI.out).mono ?_
  rintro e w1 ⟨hb, ⟨hg, g, c9, rfl, hgl, hrow⟩ | ⟨hg, rfl⟩⟩
  · have HT := Lib.hid (th_of HI.out.i64 HX.out hg)
    have HF := Lib.hid (show tgV n f x = tgB n f x by unfold tgV; rw [hg]; rfl); clear hg
    go_wp2_with fail
    refine (together_any g n c9 f x HT.out.1 HT.out.2 _ hrow hgl).mono ?_
    rintro e w2 ⟨rfl, hb2⟩
    go_wp2_with fail
    go_ret
    exact ⟨retb HF.out.symm, below_onto hb hb2⟩
  · have HF := Lib.hid (show tgV n f x = false by unfold tgV; rw [hg]; rfl); clear hg
    go_wp2_with fail
    go_ret
    exact ⟨retb HF.out.symm, hb⟩
theorem TogetherOk_val (a : Option Addr) (n cap : Nat) (f : Nat → Int) (x : Int) (v : Bool) (hx : I64 x) (w : World) (hv : tgV n f x = v) (hi : Ints w a n f) :
    Calls Try.prog 14 #[.slice a n cap, .int .i64 x] w fun e w' => e = .returned (.bool v) ∧ Below w.heap.size w w' := by
  subst hv; exact TogetherOk_any a n cap f x hx w hi

theorem Gives.onto {t : TypeId} {xs : List Int} {w w1 : World} {e : Ending} {w' : World} (hb : Below w.heap.size w w1) (h : Gives t xs w1 e w') : Gives t xs w e w' := by
  obtain ⟨v, h1, h2, h3⟩ := h
  exact ⟨v, h1, h2.base hb.size, below_onto hb h3⟩

set_option maxRecDepth 100000 in
set_option maxHeartbeats 800000 in
theorem PiecesOf_any (a : Option Addr) (n cap : Nat) (f : Nat → Int) (x : Int) (xs : List Int) (hxs : pcV n f x = xs) (hx : I64 x) (w : World) (hi : Ints w a n f) :
    Calls Try.prog 20 #[.slice a n cap, .int .i64 x] w (Gives 3 xs w) := by
  have HI := Lib.hid hi; have HX := Lib.hid hx; have HXS := Lib.hid hxs; clear hi hx hxs
  go_enter Try.func20, Try.ntmps20
  go_wp2_with fail
  refine (on1_any a n cap f x HX.out w HI.out).mono ?_
  rintro e w1 ⟨hb, ⟨hg, g, c9, rfl, hgl, hrow⟩ | ⟨hg, rfl⟩⟩
  · have HT := Lib.hid (th_of HI.out.i64 HX.out hg)
    have HF := Lib.hid (show pcsL n f x = xs by rw [← HXS.out]; unfold pcV; rw [if_pos hg]); clear hg
    go_wp2_with fail
    refine (pieces_any g n c9 f x HT.out.1 _ hrow hgl).mono ?_
    rintro e w2 ⟨v, rfl, ho, hb2⟩
    rw [HF.out] at ho
    obtain ⟨a2, c2, rfl⟩ := ho.slice
    go_wp2_with fail
    go_ret
    exact Gives.onto hb ⟨_, rfl, ho, hb2⟩
  · have HF := Lib.hid (show [] = xs by rw [← HXS.out]; unfold pcV; rw [if_neg (by rw [hg]; decide)]); clear hg
    go_wp2_with fail
    go_ret
    exact ⟨_, rfl, by rw [← HF.out]; exact OwnX.nil _ _ _, hb⟩

set_option maxRecDepth 100000 in
set_option maxHeartbeats 800000 in
theorem CutAt_any (a : Option Addr) (n cap : Nat) (f : Nat → Int) (x : Int) (hx : I64 x) (w : World) (hi : Ints w a n f) :
    Calls Try.prog 33 #[.slice a n cap, .int .i64 x] w fun e w' => e = .returned (.int .i64 (cuV n f x)) ∧ Below w.heap.size w w' := by
  have HI := Lib.hid hi; have HX := Lib.hid hx; clear hi hx
  go_enter Try.func33, Try.ntmps33
  go_wp2_with fail
  refine (on1_any a n cap f x HX.out w HI.out).mono ?_
  rintro e w1 ⟨hb, ⟨hg, g, c9, rfl, hgl, hrow⟩ | ⟨hg, rfl⟩⟩
  · have HT := Lib.hid (th_of HI.out.i64 HX.out hg)
    have HR := Lib.hid (show 0 ≤ x ∧ x < 128 by have := HT.out.2; have := HT.out.1.hi; have := pow_bounds n HT.out.1.g.hi; omega)
    have HG := Lib.hid hg; clear hg
    cases h1 : oneB x with
    | true =>
      have HF := Lib.hid (show cuV n f x = -1 by unfold cuV; rw [if_neg (by rw [h1]; simp)])
      have H1 := Lib.hid h1; clear h1
      go_wp2_with fail
      refine (single_val x true HR.out.1 HR.out.2 _ H1.out).mono ?_
      rintro e w2 ⟨rfl, rfl⟩
      go_wp2_with fail
      go_ret
      exact ⟨reti HF.out.symm, hb⟩
    | false =>
      cases h2 : tgB n f x with
      | true =>
        have HF := Lib.hid (show cuV n f x = ctI n f x n by unfold cuV; rw [if_pos (by rw [h1, h2, HG.out]; rfl)])
        have H1 := Lib.hid h1; have H2 := Lib.hid h2; clear h1 h2
        have HR2 := Lib.hid hrow; have HGL := Lib.hid hgl; clear hrow hgl
        go_wp2_with fail
        refine (single_val x false HR.out.1 HR.out.2 _ H1.out).mono ?_
        rintro e w2 ⟨rfl, rfl⟩
        go_wp2_with fail
        refine (together_val g n c9 f x true H2.out HT.out.1 HT.out.2 _ HR2.out HGL.out).mono ?_
        rintro e w2 ⟨rfl, hb2⟩
        go_wp2_with fail
        refine (cutAt_any g n c9 f x HT.out.1 ((two_iff HT.out.1 HT.out.2).1 H1.out) _ (HR2.out.below hb2 HGL.out) (Nat.lt_of_lt_of_le HGL.out hb2.size)).mono ?_
        rintro e w3 ⟨rfl, hb3⟩
        go_wp2_with fail
        go_ret
        exact ⟨reti HF.out.symm, below_onto (below_onto hb hb2) hb3⟩
      | false =>
        have HF := Lib.hid (show cuV n f x = -1 by unfold cuV; rw [if_neg (by rw [h2]; simp)])
        have H1 := Lib.hid h1; have H2 := Lib.hid h2; clear h1 h2
        go_wp2_with fail
        refine (single_val x false HR.out.1 HR.out.2 _ H1.out).mono ?_
        rintro e w2 ⟨rfl, rfl⟩
        go_wp2_with fail
        refine (together_val g n c9 f x false H2.out HT.out.1 HT.out.2 _ hrow hgl).mono ?_
        rintro e w2 ⟨rfl, hb2⟩
        go_wp2_with fail
        go_ret
        exact ⟨reti HF.out.symm, below_onto hb hb2⟩
  · have HF := Lib.hid (show cuV n f x = -1 by unfold cuV; rw [if_neg (by rw [hg]; simp)]); clear hg
    go_wp2_with fail
    go_ret
    exact ⟨reti HF.out.symm, hb⟩

set_option maxRecDepth 100000 in
set_option maxHeartbeats 800000 in
theorem HolesOf_any (a : Option Addr) (n cap : Nat) (f : Nat → Int) (x : Int) (xs : List Int) (hxs : hoV n f x = xs) (hx : I64 x) (w : World) (hi : Ints w a n f) :
    Calls Try.prog 25 #[.slice a n cap, .int .i64 x] w (Gives 3 xs w) := by
  cases hg : thingB n f x with
  | true =>
    have h7 := (grd_7 (thing_grd hg)).2
    have ⟨hp1, hp2⟩ := low_bounds n (grd_7 (thing_grd hg)).1 h7
    have HF := Lib.hid (show evL (pcV n f (rsI n x)) = xs by rw [← hxs]; unfold hoV; rw [if_pos hg])
    have HI := Lib.hid hi; have HX := Lib.hid hx; have HG := Lib.hid hg; clear hi hx hxs hg
    go_enter Try.func25, Try.ntmps25
    go_wp2_with fail
    refine (ThingOk_val a n cap f x true HX.out w HG.out HI.out).mono ?_
    rintro e w1 ⟨rfl, hb1⟩
    go_wp2_with fail
    refine (PiecesOf_any a n cap f (rsI n x) _ rfl (andNot_I64 _ _) w1 (HI.out.below hb1 (Nat.le_refl _))).mono ?_
    rintro e w2 ⟨v, rfl, ho, hb2⟩
    go_wp2_with fail
    refine (deleteFunc_any w1.heap.size v (pcV n f (rsI n x)) (by have := pcV_7 (n := n) (f := f) (a := rsI n x); omega) (pcV_64 HI.out.i64 (andNot_I64 _ _)) w2 hb2.size ho).mono ?_
    rintro e w3 ⟨v3, rfl, ho3, hb3⟩
    rw [HF.out] at ho3
    obtain ⟨a2, c2, rfl⟩ := ho3.slice
    go_wp2_with fail
    go_ret
    exact Gives.onto hb1 ⟨_, rfl, ho3, hb2.trans hb3⟩
  | false =>
    have HF := Lib.hid (show [] = xs by rw [← hxs]; unfold hoV; rw [if_neg (by rw [hg]; decide)])
    have HI := Lib.hid hi; have HX := Lib.hid hx; have HG := Lib.hid hg; clear hi hx hxs hg
    go_enter Try.func25, Try.ntmps25
    go_wp2_with fail
    refine (ThingOk_val a n cap f x false HX.out w HG.out HI.out).mono ?_
    rintro e w1 ⟨rfl, hb1⟩
    go_wp2_with fail
    go_ret
    exact ⟨_, rfl, by rw [← HF.out]; exact OwnX.nil _ _ _, hb1⟩

set_option maxRecDepth 100000 in
set_option maxHeartbeats 800000 in
theorem FilledOf_any (a : Option Addr) (n cap : Nat) (f : Nat → Int) (x : Int) (hx : I64 x) (w : World) (hi : Ints w a n f) :
    Calls Try.prog 30 #[.slice a n cap, .int .i64 x] w fun e w' => e = .returned (.int .i64 (fiV n f x)) ∧ Below w.heap.size w w' := by
  cases hg : thingB n f x with
  | true =>
    have HF := Lib.hid (show fiV n f x = fiL x (hoV n f x) by unfold fiV; rw [if_pos hg])
    have HI := Lib.hid hi; have HX := Lib.hid hx; have HG := Lib.hid hg; clear hi hx hg
    go_enter Try.func30, Try.ntmps30
    go_wp2_with fail
    refine (ThingOk_val a n cap f x true HX.out w HG.out HI.out).mono ?_
    rintro e w1 ⟨rfl, hb1⟩
    go_wp2_with fail
    refine (HolesOf_any a n cap f x _ rfl HX.out w1 (HI.out.below hb1 (Nat.le_refl _))).mono ?_
    rintro e w2 ⟨v, rfl, ho, hb2⟩
    obtain ⟨xs, hxs⟩ : ∃ xs, hoV n f x = xs := ⟨_, rfl⟩
    have hl := hoV_7 (n := n) (f := f) (a := x)
    have h64 := hoV_64 (n := n) (f := f) (a := x) HI.out.i64
    rw [hxs] at ho hl h64 HF
    obtain ⟨a2, c2, rfl, hh⟩ := ho.has (by omega) h64
    have HH := Lib.hid hh.ints
    have HB := Lib.hid (below_onto hb1 hb2)
    clear ho hh h64 hxs hb1 hb2
    obtain ⟨m, hm⟩ : ∃ m, xs.length = m := ⟨_, rfl⟩
    rw [hm] at HH hl ⊢
    have HM := Lib.hid hm; clear hm
    go_wp2_with fail
    go_loopw [5, 7, 17] (fun s _ i wr => ∃ k : Nat, k ≤ m ∧ i = .int .i64 k ∧ s = .int .i64 (fiL x (xs.take k)) ∧ w2 = wr) (fun _ _ i _ => m - (intOf i).toNat)
    case atStart => exact ⟨0, Nat.zero_le _, rfl, rfl, rfl⟩
    case round =>
      obtain ⟨k, hk, rfl, rfl, rfl⟩ := hrel
      by_cases hlt : k < m
      · have hki : (k : Int) < (m : Int) := by omega
        have hk0 : (0 : Int) ≤ (k : Int) := by omega
        obtain ⟨b, o, rfl, hbl, hrow⟩ := HH.out.row (by omega)
        have hc := hrow k hlt
        have HS := Lib.hid (show fiL x (xs.take (k + 1)) = bits .or .i64 (fiL x (xs.take k)) (xs.getD k 0) by rw [take_next (by rw [HM.out]; exact hlt), fiL_snoc])
        obtain ⟨z, hz⟩ : ∃ z, xs.getD k 0 = z := ⟨_, rfl⟩
        obtain ⟨y, hy⟩ : ∃ y, fiL x (xs.take k) = y := ⟨_, rfl⟩
        simp only [hz, hy] at hc HS ⊢
        clear hrow hbl hz hy
        go_wp2_with fail
        go_roundw
        case rel => exact ⟨k + 1, by omega, by go_num, by rw [HS.out], by first | rfl | trivial⟩
        case measure => simp [intOf]; omega
      · have hki : ¬ (k : Int) < (m : Int) := by omega
        have hkn : k = m := by omega
        subst hkn
        have HT := Lib.hid (show fiV n f x = fiL x (xs.take k) by rw [HF.out, List.take_of_length_le (by rw [HM.out]; exact Nat.le_refl _)])
        go_wp2_with fail
        go_ret
        exact ⟨reti HT.out.symm, HB.out⟩
  | false =>
    have HF := Lib.hid (show fiV n f x = -1 by unfold fiV; rw [if_neg (by rw [hg]; decide)])
    have HI := Lib.hid hi; have HX := Lib.hid hx; have HG := Lib.hid hg; clear hi hx hg
    go_enter Try.func30, Try.ntmps30
    go_wp2_with fail
    refine (ThingOk_val a n cap f x false HX.out w HG.out HI.out).mono ?_
    rintro e w1 ⟨rfl, hb1⟩
    go_wp2_with fail
    go_ret
    exact ⟨reti HF.out.symm, hb1⟩
end Go.Proofs.Ytacoeaoaabjkoaa
