import Derived.Test.YtamiidgpglepcaaGreatDoorClassS
import Derived.Test.YtamiidgpglepcaaGreatDoorOcA
import Derived.Test.YtamiidgpglepcaaGreatDoorRestA
import Derived.Test.YtamiidgpglepcaaGreatDoorLeast
namespace Go.Proofs.YtamiidgpglepcaaGreatDoor
open Go.RowKit Go.Maps

/-- the one number of a set -/
def onlyOk (x : Nat) : Bool := popc 7 x == 1
def onlyN (x : Nat) : Int := if onlyOk x then firstI x else -1

set_option maxRecDepth 100000 in
set_option maxHeartbeats 800000 in
theorem only_any (x : Nat) (hx : x < 128) (w : World) (hT : TabW w) :
    Calls Tryz.prog 21 #[.int .i64 x] w fun e w' => e = .returned (.tuple #[.int .i64 (onlyN x), .bool (onlyOk x)]) ∧ w = w' := by
  have HT := Lib.hid hT; clear hT
  cases ho : onlyOk x with
  | true =>
    have HN := Lib.hid (show onlyN x = firstI x by unfold onlyN; rw [if_pos ho])
    have h1 : popc 7 x = 1 := by unfold onlyOk at ho; exact beq_iff_eq.1 ho
    have HB := Lib.hid (show ((x : Int) != 0) = true by
      rw [bne_iff_ne]; intro e
      have : x = 0 := by omega
      subst this
      rw [popc_zero] at h1; cases h1)
    have h2 : (((popc 7 x : Nat) : Int) != 1) = false := by rw [h1]; rfl
    clear ho h1
    go_enter Tryz.func21, Tryz.ntmps21
    go_wp2_with fail
    refine (count_any x hx _).mono ?_
    rintro e w' ⟨rfl, rfl⟩
    go_wp2_with fail
    refine (first_any x hx _ HT.out).mono ?_
    rintro e w' ⟨rfl, rfl⟩
    go_wp2_with fail
    go_ret2
    exact ⟨by rw [HN.out, HB.out]; rfl, rfl⟩
  | false =>
    have HN := Lib.hid (show onlyN x = -1 by unfold onlyN; rw [if_neg (by rw [ho]; decide)])
    have h2 : (((popc 7 x : Nat) : Int) != 1) = true := by
      rw [bne_iff_ne]; intro e
      unfold onlyOk at ho
      rw [beq_eq_false_iff_ne] at ho
      omega
    clear ho
    go_enter Tryz.func21, Tryz.ntmps21
    go_wp2_with fail
    refine (count_any x hx _).mono ?_
    rintro e w' ⟨rfl, rfl⟩
    go_wp2_with fail
    go_ret2
    exact ⟨by rw [HN.out]; rfl, rfl⟩

/-- the things whose atoms are just s -/
def thingS (n : Nat) (f : Nat → Int) (s : Int) : Int := setOf (fun a => ainI n f a == s) n
def thingOk (n : Nat) (f : Nat → Int) (s : Int) : Bool := worldB n f && onlyOk (thingS n f s).toNat
def thingN (n : Nat) (f : Nat → Int) (s : Int) : Int := if worldB n f then onlyN (thingS n f s).toNat else -1
theorem thingS_nat {n : Nat} {f : Nat → Int} {s : Int} (h7 : n ≤ 7) : ∃ X : Nat, thingS n f s = X ∧ X < 128 := by
  have h := setOf_rng (fun a => ainI n f a == s) n (by omega)
  have hp := (pow_bounds n h7).2
  obtain ⟨X, e⟩ := Int.eq_ofNat_of_zero_le h.1
  exact ⟨X, e, by omega⟩

/-- those of a world with its atoms, in the block b: what is asked may ask for the atoms -/
theorem thoseJ_any (K : Nat) (a : Option Addr) (n cap : Nat) (p1 p2 : Value) (g : Nat → Bool) (J : World → Prop) (hn : n ≤ 7) (w : World) (hJ : J w)
    (hE : ∀ (args : Array Value) (w : World), Sem.run Tryz.prog (callFunc K args) w = .ok (.enter K args) w)
    (hF : Hid (∀ (wr : World) (b : Nat), b < n → J wr → Calls Tryz.prog K #[.int .i64 b, p1, p2] wr fun e w' => e = .returned (.bool (g b)) ∧ J w')) :
    Calls Tryz.prog 37 #[.slice a n cap, .func (.func K) #[] #[p1, p2]] w fun e w' => e = .returned (.int .i64 (setOf g n)) ∧ J w' := by
  have HJ := Lib.hid hJ; have HE := Lib.hid hE; clear hJ hE
  have hen := HE.out
  go_enter Tryz.func37, Tryz.ntmps37
  go_wp2_with fail
  go_loopw [5, 9] (fun v i wr => ∃ k : Nat, k ≤ n ∧ i = .int .i64 k ∧ v = .int .i64 (setOf g k) ∧ Hid (J wr)) (fun _ i _ => n - (intOf i).toNat)
  case atStart => exact ⟨0, Nat.zero_le _, rfl, rfl, HJ⟩
  case round =>
    clear HJ
    obtain ⟨k, hk, rfl, rfl, HJ⟩ := hrel
    by_cases hlt : k < n
    · have hki : (k : Int) < (n : Int) := by omega
      have ⟨hp1, hp2⟩ := pow_bounds k (by omega)
      cases hg : g k with
      | true =>
        have HS := Lib.hid (setOf_yes g k hg); have HG := Lib.hid hg; clear hg
        go_wp2_with fail
        refine (hF.out _ k hlt HJ.out).mono ?_
        rintro e w' ⟨rfl, hj⟩
        rw [HG.out]
        replace HJ := Lib.hid hj; clear hj
        go_wp2_with fail
        go_roundw
        case rel => exact ⟨k + 1, by omega, by go_num, by rw [HS.out], HJ⟩
        case measure => simp [intOf]; omega
      | false =>
        have HS := Lib.hid (setOf_no g k hg); have HG := Lib.hid hg; clear hg
        go_wp2_with fail
        refine (hF.out _ k hlt HJ.out).mono ?_
        rintro e w' ⟨rfl, hj⟩
        rw [HG.out]
        replace HJ := Lib.hid hj; clear hj
        go_wp2_with fail
        go_roundw
        case rel => exact ⟨k + 1, by omega, by go_num, by rw [HS.out], HJ⟩
        case measure => simp [intOf]; omega
    · have hkn : k = n := by omega
      subst hkn
      have hki : ¬ ((k : Int) < (k : Int)) := by omega
      go_wp2_with fail
      go_ret
      exact ⟨rfl, HJ.out⟩

set_option maxRecDepth 100000 in
set_option maxHeartbeats 1600000 in
theorem withC_any (b p q g n cap : Nat) (f : Nat → Int) (s : Int) (a : Nat) (hn : n ≤ 7) (ha : a < n) (w : World) (h : AtomW w b g n cap f)
    (hp : w.cell? ⟨p, 0, none⟩ = some (.pointer (some ⟨b, 0, none⟩))) (hq : w.cell? ⟨q, 0, none⟩ = some (.int .i64 s)) (hpb : p ≠ b) (hpl : p < w.heap.size) (hqb : q ≠ b) (hql : q < w.heap.size) :
    Calls Tryz.prog 39 #[.int .i64 a, .pointer (some ⟨p, 0, none⟩), .pointer (some ⟨q, 0, none⟩)] w (AtomEnd b g n cap f (.bool (ainI n f a == s)) w) := by
  have HA := Lib.hid h; clear h
  have HO := Lib.hid (Only.refl b w)
  have HP := Lib.hid (show ∀ W, Only b w W → W.cell? ⟨p, 0, none⟩ = some (.pointer (some ⟨b, 0, none⟩)) from fun W o => (World.cell?_of_block (o.block p hpl hpb)).trans hp)
  have HQ := Lib.hid (show ∀ W, Only b w W → W.cell? ⟨q, 0, none⟩ = some (.int .i64 s) from fun W o => (World.cell?_of_block (o.block q hql hqb)).trans hq)
  go_enter Tryz.func39, Tryz.ntmps39
  go_wp2_with fail
  go_region_held3 (fun w' => w'.cell? ⟨p, 0, none⟩ = some (.pointer (some ⟨b, 0, none⟩)) ∧ w'.cell? ⟨q, 0, none⟩ = some (.int .i64 s)) (first | exact ⟨HP.out _ HO.out, HQ.out _ HO.out⟩ | go_keep)
    (first | (go_at_call 40; refine (atomsIn_any b g n cap f _ hn (by assumption) _ (by first | exact HA.out | exact HA.out.drewN _)).mono ?_; rintro e w2 ⟨rfl, h2, o2⟩; replace HA := Lib.hid h2; replace HO := Lib.hid (by first | exact HO.out.trans o2 | exact (HO.out.drewN _).trans o2 : Only b w w2); clear h2 o2))
  all_goals
    go_wp2_with fail
    go_ret
    exact ⟨rfl, by first | exact HA.out | exact HA.out.drewN _, by first | exact HO.out | exact HO.out.drewN _⟩

set_option maxRecDepth 100000 in
set_option maxHeartbeats 1600000 in
theorem withAtoms_any (b g n cap : Nat) (f : Nat → Int) (s : Int) (hn : n ≤ 7) (w : World) (h : AtomW w b g n cap f) :
    Calls Tryz.prog 20 #[.pointer (some ⟨b, 0, none⟩), .int .i64 s] w (AtomEnd b g n cap f (.int .i64 (thingS n f s)) w) := by
  have hmf : ∀ (fn : Fn) (first cap : Array Value) (w : World), (Instr.makeFunc fn first cap).run Tryz.prog w = .ok (.func fn first cap) w := fun _ _ _ _ => rfl
  have HE := Lib.hid (enters_of (P := Tryz.prog) Tryz.func39 (by kernel_rfl) rfl)
  obtain ⟨hc1, hc2, hbel⟩ := two_cells w (.pointer (some ⟨b, 0, none⟩)) (.int .i64 s) 35 38
  have hbl := h.lt
  obtain ⟨w1, hw1⟩ : ∃ w1, w1 = (w.alloc (.cells #[.pointer (some ⟨b, 0, none⟩)] 35)).alloc (.cells #[.int .i64 s] 38) := ⟨_, rfl⟩
  have hs1 : w1.heap.size = w.heap.size + 2 := by rw [hw1, alloc_size, alloc_size]
  rw [← hw1] at hc1 hc2 hbel
  have ha := h.below hbel
  have h0 := ha.c0
  have HA := Lib.hid ha; have H1 := Lib.hid hc1; have H2 := Lib.hid hc2; have HB := Lib.hid hbel; have HW := Lib.hid hw1
  clear h ha hc2 hbel hw1
  go_enter Tryz.func20, Tryz.ntmps20
  go_wp2_with (rw [← HW.out])
  refine (thoseJ_any _ _ n _ _ _ (fun a => ainI n f a == s) (fun wr => AtomW wr b g n cap f ∧ Only b w1 wr) hn _ ⟨HA.out, Only.refl _ _⟩ HE.out ?_).mono ?_
  · rintro wr x hx ⟨ha, ho⟩
    exact (withC_any b w.heap.size (w.heap.size + 1) g n cap f s x hn hx wr ha ((World.cell?_of_block (ho.block w.heap.size (by omega) (by omega))).trans H1.out) ((World.cell?_of_block (ho.block (w.heap.size + 1) (by omega) (by omega))).trans H2.out) (by omega) (by have := ho.size; omega) (by omega) (by have := ho.size; omega)).mono fun _ _ ⟨h1, h2, h3⟩ => ⟨h1, h2, ho.trans h3⟩
  · rintro e w2 ⟨rfl, ha2, ho2⟩
    have HA2 := Lib.hid ha2; have HO2 := Lib.hid ((Only.of_below (rb := b) HB.out).trans ho2); clear ha2 ho2
    go_wp2_with fail
    go_ret
    exact ⟨rfl, HA2.out, HO2.out⟩

set_option maxRecDepth 100000 in
set_option maxHeartbeats 1600000 in
theorem ThingOf_any (a : Option Addr) (n cap : Nat) (f : Nat → Int) (s : Int) (w : World) (hi : Ints w a n f) (hT : TabW w) :
    Calls Tryz.prog 9 #[.slice a n cap, .int .i64 s] w (TwoEnd (thingN n f s) (thingOk n f s) w) := by
  have HI := Lib.hid hi; have HT := Lib.hid hT; clear hi hT
  have hnot : ∀ (x : Bool) (w : World), (Op.unary .not (.bool x)).run Tryz.prog w = .ok (.bool (!x)) w := fun _ _ => rfl
  go_enter Tryz.func9, Tryz.ntmps9
  go_wp2_with fail
  refine (atomWorld0 a n cap f _ HI.out).mono ?_
  rintro e w1 ⟨hbel, ⟨hg, b, g, rfl, haw, hbb⟩ | ⟨hg, rfl⟩⟩
  · have h7 := (worldB_7 hg).2
    obtain ⟨X, hX, hX7⟩ := thingS_nat (f := f) (s := s) h7
    have HN := Lib.hid (show thingN n f s = onlyN X by unfold thingN; rw [if_pos hg, hX, Int.toNat_natCast])
    have HK := Lib.hid (show thingOk n f s = onlyOk X by unfold thingOk; rw [hg, hX, Int.toNat_natCast, Bool.true_and])
    have HX := Lib.hid hX; have HA := Lib.hid haw; have HB := Lib.hid hbel; have HBB := Lib.hid hbb
    clear haw hg hbel hbb hX
    go_wp2_with fail
    refine (withAtoms_any b g n n f s h7 _ HA.out).mono ?_
    rintro e w2 ⟨rfl, h2, o2⟩
    have HB2 := Lib.hid (only_onto HB.out o2 HBB.out)
    clear h2 o2
    go_wp2_with fail
    rw [HX.out]
    refine (only_any X hX7 _ (HT.out.below HB2.out)).mono ?_
    rintro e w' ⟨rfl, rfl⟩
    go_wp2_with fail
    go_ret2
    exact ⟨by rw [HN.out, HK.out]; rfl, HB2.out⟩
  · have HN := Lib.hid (show thingN n f s = -1 by unfold thingN; rw [if_neg (by rw [hg]; decide)])
    have HK := Lib.hid (show thingOk n f s = false by unfold thingOk; rw [hg, Bool.false_and])
    have HB := Lib.hid hbel; clear hg hbel
    go_wp2_with fail
    go_ret2
    exact ⟨by rw [HN.out, HK.out]; rfl, HB.out⟩
theorem ThingOf_val (a : Option Addr) (n cap : Nat) (f : Nat → Int) (s : Int) (i : Int) (v : Bool) (w : World) (h1 : thingN n f s = i) (h2 : thingOk n f s = v) (hi : Ints w a n f) (hT : TabW w) :
    Calls Tryz.prog 9 #[.slice a n cap, .int .i64 s] w (TwoEnd i v w) := by subst h1; subst h2; exact ThingOf_any a n cap f s w hi hT

/-! ### the model: what is found -/

def twoOk (X : Nat) : Bool := (List.range 7).all (fun i => !X.testBit i || (onlyOk X == (List.range 7).all (fun j => i == j || !X.testBit j)))
theorem two_all : (List.range 128).all twoOk = true := by kernel_rfl
theorem two_at {X i : Nat} (hX : X < 128) (hi : i < 7) (h : X.testBit i = true) : onlyOk X = true ↔ ∀ j, j < 7 → X.testBit j = true → i = j := by
  have h1 := List.all_eq_true.1 two_all X (List.mem_range.2 hX)
  unfold twoOk at h1
  have h2 := List.all_eq_true.1 h1 i (List.mem_range.2 hi)
  rw [h, Bool.not_true, Bool.false_or, beq_iff_eq] at h2
  rw [h2, List.all_eq_true]
  constructor
  · intro h3 j hj hb
    have := h3 j (List.mem_range.2 hj)
    rw [hb] at this
    simpa using this
  · intro h3 j hj
    cases hb : X.testBit j with
    | true => rw [h3 j (List.mem_range.1 hj) hb]; simp
    | false => simp

def noneT (g : Nat → Bool) (k : Nat) : Bool := decide (∀ a, a < k → g a = false)
theorem noneT_zero (g : Nat → Bool) : noneT g 0 = true := decide_eq_true (fun _ h => absurd h (Nat.not_lt_zero _))
theorem noneT_step {g : Nat → Bool} {k : Nat} (h : noneT g k = true) (hg : g k = false) : noneT g (k + 1) = true := by
  unfold noneT at h ⊢; rw [decide_eq_true_eq] at h ⊢
  intro a ha
  by_cases e : a = k
  · subst e; exact hg
  · exact h a (by omega)
/-- j is the only one of the first k -/
def oneT (g : Nat → Bool) (j k : Nat) : Bool := decide (j < k ∧ g j = true ∧ ∀ a, a < k → g a = true → a = j)
theorem oneT_new {g : Nat → Bool} {k : Nat} (h : noneT g k = true) (hg : g k = true) : oneT g k (k + 1) = true := by
  unfold noneT at h; rw [decide_eq_true_eq] at h
  refine decide_eq_true ⟨by omega, hg, fun a ha hh => ?_⟩
  by_cases e : a = k
  · exact e
  · rw [h a (by omega)] at hh; cases hh
theorem oneT_step {g : Nat → Bool} {j k : Nat} (h : oneT g j k = true) (hg : g k = false) : oneT g j (k + 1) = true := by
  unfold oneT at h; rw [decide_eq_true_eq] at h
  refine decide_eq_true ⟨by omega, h.2.1, fun a ha hh => ?_⟩
  by_cases e : a = k
  · subst e; rw [hg] at hh; cases hh
  · exact h.2.2 a (by omega) hh

theorem set_nat (g : Nat → Bool) {n : Nat} (h7 : n ≤ 7) : ∃ X : Nat, setOf g n = X ∧ X < 128 ∧ ∀ i, i < 64 → X.testBit i = (decide (i < n) && g i) := by
  have h := setOf_rng g n (by omega)
  have hp := (pow_bounds n h7).2
  obtain ⟨X, e⟩ := Int.eq_ofNat_of_zero_le h.1
  exact ⟨X, e, by omega, fun i hi => by rw [← hasB_nat, ← e, setOf_bit _ _ _ hi]⟩
theorem only_none {g : Nat → Bool} {n : Nat} (h : noneT g n = true) : onlyOk (setOf g n).toNat = false := by
  unfold noneT at h; rw [decide_eq_true_eq] at h
  have : setOf g n = 0 := by
    refine ext64 _ _ (setOf_I64 _ _) I64_zero (fun i hi => ?_)
    rw [hasB_zero, setOf_bit _ _ _ hi]
    by_cases hin : i < n
    · rw [h i hin]; simp
    · rw [decide_eq_false hin]; rfl
  rw [this]; rfl
theorem only_one {g : Nat → Bool} {n j : Nat} (h7 : n ≤ 7) (h : oneT g j n = true) : onlyOk (setOf g n).toNat = true ∧ onlyN (setOf g n).toNat = j := by
  unfold oneT at h; rw [decide_eq_true_eq] at h
  obtain ⟨hj, hgj, hone⟩ := h
  obtain ⟨X, e, hX, hb⟩ := set_nat g h7
  have hbj : X.testBit j = true := by rw [hb j (by omega), decide_eq_true hj, hgj]; rfl
  have hiff := (two_at hX (by omega) hbj).2 (fun i hi hbi => by
    rw [hb i (by omega), Bool.and_eq_true, decide_eq_true_eq] at hbi
    exact (hone i hbi.1 hbi.2).symm)
  rw [e, Int.toNat_natCast]
  refine ⟨hiff, ?_⟩
  unfold onlyN; rw [if_pos hiff]
  have hlow : ∀ i, i < j → X.testBit i = false := fun i hi => by
    cases hbi : X.testBit i with
    | false => rfl
    | true =>
      rw [hb i (by omega), Bool.and_eq_true, decide_eq_true_eq] at hbi
      have := hone i hbi.1 hbi.2; omega
  obtain ⟨h3, _⟩ := ctz_at hX hbj hlow
  have h4 : X ≠ 0 := by intro e0; subst e0; simp at hbj
  unfold firstI
  rw [if_neg (by omega), Int.toNat_natCast, h3]
theorem only_two {g : Nat → Bool} {n i j : Nat} (h7 : n ≤ 7) (hi : i < n) (hj : j < n) (hij : i ≠ j) (h1 : g i = true) (h2 : g j = true) : onlyOk (setOf g n).toNat = false := by
  obtain ⟨X, e, hX, hb⟩ := set_nat g h7
  rw [e, Int.toNat_natCast]
  cases ho : onlyOk X with
  | false => rfl
  | true =>
    have hbi : X.testBit i = true := by rw [hb i (by omega), decide_eq_true hi, h1]; rfl
    have hbj : X.testBit j = true := by rw [hb j (by omega), decide_eq_true hj, h2]; rfl
    exact absurd ((two_at hX (by omega) hbi).1 ho j (by omega) hbj) hij
theorem only_off {x : Nat} (h : onlyOk x = false) : onlyN x = -1 := by unfold onlyN; rw [if_neg (by rw [h]; decide)]

/-- what has been found behind k things -/
def FoundR (g : Nat → Bool) (k : Nat) (v : Value) : Prop := (v = .int .i64 (-1) ∧ noneT g k = true) ∨ ∃ j : Nat, v = .int .i64 j ∧ oneT g j k = true

end Go.Proofs.YtamiidgpglepcaaGreatDoor
