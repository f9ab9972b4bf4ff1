import Derived.Test.YtidcfcjmjgcfkaaDoorRestA
import Derived.Test.YtidcfcjmjgcfkaaDoorSpecWholes
namespace Go.Proofs.YtidcfcjmjgcfkaaDoor
open Go.RowKit

def restOk (n : Nat) (f : Nat → Int) (x y : Int) : Bool := good2 n f x y && (restsI n f x.toNat y.toNat != 0)
def restN (n : Nat) (f : Nat → Int) (x y : Int) : Int := if good2 n f x y then firstI (restsI n f x.toNat y.toNat) else -1

theorem rests_rng {n : Nat} {f : Nat → Int} (hP : WorldP n f) {a b : Nat} (ha : a < n) : 0 ≤ restsI n f a b ∧ restsI n f a b < 2 ^ n :=
  lt_of_bits _ n (by have := hP.hi; omega) (by unfold restsI; exact andNot_I64 _ _) (fun i hi hni => by
    cases h : hasB (restsI n f a b) i with
    | false => rfl
    | true => have := rests_out hP ha h hi; omega)

theorem rests_nat {n : Nat} {f : Nat → Int} (hP : WorldP n f) {a b : Nat} (ha : a < n) : ∃ X : Nat, restsI n f a b = X ∧ X < 128 := by
  have h := rests_rng hP (b := b) ha
  have hp := (pow_bounds n hP.hi).2
  obtain ⟨X, e⟩ := Int.eq_ofNat_of_zero_le h.1
  exact ⟨X, e, by omega⟩

def RestEnd (i : Int) (v : Bool) (w : World) (e : Ending) (w' : World) : Prop := e = .returned (.tuple #[.int .i64 i, .bool v]) ∧ Below w.heap.size w w'

set_option maxHeartbeats 1600000 in
theorem RestIn_any (a : Option Addr) (n cap : Nat) (f : Nat → Int) (x y : Int) (w : World) (hi : Ints w a n f) (hT : TabW w) :
    Calls Tryd.prog 10 #[.slice a n cap, .int .i64 x, .int .i64 y] w (RestEnd (restN n f x y) (restOk n f x y) w) := by
  have hnot : ∀ (x : Bool) (w : World), (Op.unary .not (.bool x)).run Tryd.prog w = .ok (.bool (!x)) w := fun _ _ => rfl
  by_cases hg : good2 n f x y = true
  · obtain ⟨hwb, ⟨hx0, hx1⟩, hy0, hy1⟩ := (good2_iff n f x y).1 hg
    have h7 := (worldB_7 hwb).2
    have hP := world_of hi hwb
    obtain ⟨X, rfl⟩ := Int.eq_ofNat_of_zero_le hx0
    obtain ⟨Y, rfl⟩ := Int.eq_ofNat_of_zero_le hy0
    have hX : X < n := by omega
    have hY : Y < n := by omega
    obtain ⟨R, hR, hR7⟩ := rests_nat hP (b := Y) hX
    have hf1 : restN n f X Y = firstI (R : Int) := by unfold restN; rw [if_pos hg, Int.toNat_natCast, Int.toNat_natCast, hR]
    have hf2 : restOk n f X Y = ((R : Int) != 0) := by unfold restOk; rw [hg, Int.toNat_natCast, Int.toNat_natCast, hR, Bool.true_and]
    have HF1 := Lib.hid hf1; have HF2 := Lib.hid hf2; have HR := Lib.hid hR; have HG := Lib.hid hg; have HT := Lib.hid hT; have HI := Lib.hid hi
    clear hf1 hf2 hR hg hwb hx0 hy0 hx1 hy1 hT hi hP
    go_enter Tryd.func10, Tryd.ntmps10
    go_wp2_with fail
    refine (with2 a n cap f X Y w HI.out _).mono ?_
    rintro e w' ⟨hbel, ⟨hb, rfl, hr⟩ | ⟨hb, rfl⟩⟩
    · have hlt := World.block_lt_of_cell? w' _ (hr 0 (by omega))
      clear hb
      go_wp2_with fail
      refine (rests_val _ _ _ X Y f R h7 hX hY _ HR.out hr hlt).mono ?_
      rintro e w2 ⟨rfl, hb2⟩
      replace HT := Lib.hid ((HT.out.below hbel).below hb2)
      go_wp2_with fail
      refine (first_any R hR7 _ HT.out).mono ?_
      rintro e w3 ⟨rfl, rfl⟩
      go_wp2_with fail
      go_ret2
      exact ⟨by rw [HF1.out, HF2.out]; rfl, below_onto hbel hb2⟩
    · rw [HG.out] at hb; cases hb
  · have hf1 : restN n f x y = -1 := by unfold restN; rw [if_neg hg]
    have hf2 : restOk n f x y = false := by unfold restOk; rw [show good2 n f x y = false by simpa using hg]; rfl
    have HF1 := Lib.hid hf1; have HF2 := Lib.hid hf2; have HG := Lib.hid hg; have HI := Lib.hid hi; clear hf1 hf2 hg hT hi
    go_enter Tryd.func10, Tryd.ntmps10
    go_wp2_with fail
    refine (with2 a n cap f x y w HI.out _).mono ?_
    rintro e w' ⟨hbel, ⟨hb, rfl, hr⟩ | ⟨hb, rfl⟩⟩
    · exact absurd hb HG.out
    · clear hb
      go_wp2_with fail
      go_ret2
      exact ⟨by rw [HF1.out, HF2.out]; rfl, hbel⟩

theorem RestIn_val (a : Option Addr) (n cap : Nat) (f : Nat → Int) (x y : Int) (i : Int) (v : Bool) (w : World) (h1 : restN n f x y = i) (h2 : restOk n f x y = v) (hi : Ints w a n f) (hT : TabW w) :
    Calls Tryd.prog 10 #[.slice a n cap, .int .i64 x, .int .i64 y] w (RestEnd i v w) := by
  subst h1; subst h2; exact RestIn_any a n cap f x y w hi hT

/-- none of the first k parts of a is apart from b -/
theorem rest_found {n : Nat} {f : Nat → Int} (hP : WorldP n f) {X Y k : Nat} (hX : X < n) (hg : good2 n f X Y = true) (hk : k < n) (h0 : apB f X Y k = false) (h1 : hasB (f X) k = true) (h2 : (andI (f k) (f Y) == 0) = true) :
    restN n f X Y = k ∧ restOk n f X Y = true := by
  have h7 := hP.hi
  obtain ⟨R, hR, hR7⟩ := rests_nat hP (b := Y) hX
  have hbit : ∀ i, i < n → R.testBit i = (hasB (f X) i && (andI (f i) (f Y) == 0)) := fun i hi => by
    rw [← hasB_nat, ← hR, rests_bit n f X Y i hi h7]
  have hlow : ∀ i, i < k → R.testBit i = false := fun i hi => by
    rw [hbit i (by omega)]
    cases e1 : hasB (f X) i with
    | false => rfl
    | true =>
      cases e2 : (andI (f i) (f Y) == 0) with
      | false => rfl
      | true =>
        exfalso
        unfold apB at h0
        rw [decide_eq_false_iff_not] at h0
        exact h0 ⟨i, hi, e1, e2⟩
  have hk2 : R.testBit k = true := by rw [hbit k hk, h1, h2]; rfl
  obtain ⟨h3, _⟩ := ctz_at hR7 hk2 hlow
  have h4 : R ≠ 0 := by intro e; subst e; simp at hk2
  constructor
  · unfold restN firstI
    rw [if_pos hg, Int.toNat_natCast, Int.toNat_natCast, hR, if_neg (by omega), Int.toNat_natCast, h3]
  · unfold restOk
    rw [hg, Int.toNat_natCast, Int.toNat_natCast, hR, Bool.true_and, bne_iff_ne]; omega

theorem rest_none {n : Nat} {f : Nat → Int} (hP : WorldP n f) {X Y : Nat} (hX : X < n) (hg : good2 n f X Y = true) (h0 : apB f X Y n = false) : restN n f X Y = -1 ∧ restOk n f X Y = false := by
  have h := rests_ne hP (b := Y) hX
  rw [h0] at h
  have h2 : restsI n f X Y = 0 := by rw [bne_eq_false_iff_eq] at h; exact h
  constructor
  · unfold restN firstI; rw [if_pos hg, Int.toNat_natCast, Int.toNat_natCast, h2, if_pos rfl]
  · unfold restOk; rw [Int.toNat_natCast, Int.toNat_natCast, h2]; simp

def RestDrew (i : Int) (v : Bool) (w : World) (e : Ending) (w' : World) : Prop := e = .returned (.tuple #[.int .i64 i, .bool v]) ∧ Drew w w'

theorem part_self_of {n : Nat} {f : Nat → Int} {w : World} {a : Option Addr} (hi : Ints w a n f) {X : Int} (hw : worldB n f = true) (h0 : 0 ≤ X) (h1 : X < n) : partB n f X X = true := by
  rw [partB_self n f X hi.i64]; exact (good1_iff n f X).2 ⟨hw, h0, h1⟩

set_option maxRecDepth 100000 in
set_option maxHeartbeats 3200000 in
theorem specRestIn_in (b o n cap : Nat) (f : Nat → Int) (X Y : Nat) (hw : worldB n f = true) (hX : X < n) (hY : Y < n) (w : World) (hi : Ints w (some ⟨b, o, none⟩) n f) (hr : Row w b o n f) :
    Calls Tryd.prog 15 #[.slice (some ⟨b, o, none⟩) n cap, .int .i64 X, .int .i64 Y] w (RestDrew (restN n f X Y) (restOk n f X Y) w) := by
  have h7 := (worldB_7 hw).2
  have hP := world_of hi hw
  have hg : good2 n f X Y = true := (good2_iff n f X Y).2 ⟨hw, ⟨by omega, by omega⟩, by omega, by omega⟩
  have HPX := Lib.hid (part_self_of hi hw (X := X) (by omega) (by omega))
  have HPY := Lib.hid (part_self_of hi hw (X := Y) (by omega) (by omega))
  have HP := Lib.hid hP; have HG := Lib.hid hg; have HN := Lib.hid hi; have HR := Lib.hid hr; clear hw hP hg hi hr
  go_enter Tryd.func15, Tryd.ntmps15
  go_wp2_with fail
  go_loopw [8] (fun i wr => ∃ k : Nat, k ≤ n ∧ i = .int .i64 k ∧ Hid (apB f X Y k = false) ∧ Drew w wr) (fun i _ => n - (intOf i).toNat)
  case atStart => exact ⟨0, Nat.zero_le _, rfl, apB_zero f X Y, Drew.refl _⟩
  case round =>
    obtain ⟨k, hk, rfl, hap, hd⟩ := hrel
    by_cases hlt : k < n
    · have hki : (k : Int) < (n : Int) := by omega
      go_wp2_with fail
      refine (specPartOk_val _ _ _ f X X true _ HPX.out (HN.out.drew hd)).mono ?_
      rintro e w1 ⟨rfl, m1, rfl⟩
      replace hd := hd.more m1
      go_wp2_with fail
      refine (specPartOk_val _ _ _ f Y Y true _ HPY.out (HN.out.drew hd)).mono ?_
      rintro e w2 ⟨rfl, m2, rfl⟩
      replace hd := hd.more m2
      obtain ⟨w3, e3⟩ : ∃ w3, w3 = (wr.drewN m1).drewN m2 := ⟨_, rfl⟩
      rw [← e3] at hd ⊢
      clear e3
      have hrr : Row w3 b o n f := by obtain ⟨m, rfl⟩ := hd; exact HR.out.drewN m
      have cX := hrr X hX
      have cY := hrr Y hY
      have ck := hrr k hlt
      have hXi : (X : Int) < (n : Int) := by omega
      have hYi : (Y : Int) < (n : Int) := by omega
      have hnn := (HP.out.rng X hX).1
      clear hrr
      cases hh : hasB (f X) k with
      | false =>
        have HS := Lib.hid (apB_not hap.out hh); have HH := Lib.hid hh; clear hh
        go_wp2_with fail
        go_quiet ((go_at_call 24; exact quiet_left (l1Has_val _ _ false _ HH.out (by omega) hnn)))
        go_wp2_with fail
        go_roundw
        case rel => exact ⟨k + 1, by omega, by go_num, HS.out, hd.more _⟩
        case measure => simp [intOf]; omega
      | true =>
        cases hz : (andI (f k) (f Y) == 0) with
        | true =>
          have HF := Lib.hid (rest_found HP.out hX HG.out hlt hap.out hh hz); have HH := Lib.hid hh; clear hh
          have hz2 : (bits .and .i64 (f k) (f Y) == 0) = true := hz
          go_wp2_with fail
          go_quiet ((go_at_call 24; exact quiet_left (l1Has_val _ _ true _ HH.out (by omega) hnn)))
          go_wp2_with fail
          go_ret2
          exact ⟨by rw [HF.out.1, HF.out.2]; rfl, hd.more _⟩
        | false =>
          have HS := Lib.hid (apB_meets hap.out hz); have HH := Lib.hid hh; clear hh
          have hz2 : (bits .and .i64 (f k) (f Y) == 0) = false := hz
          go_wp2_with fail
          go_quiet ((go_at_call 24; exact quiet_left (l1Has_val _ _ true _ HH.out (by omega) hnn)))
          go_wp2_with fail
          clear hz hz2
          go_roundw
          case rel => exact ⟨k + 1, by omega, by go_num, HS.out, hd.more _⟩
          case measure => simp [intOf]; omega
    · have hkn : k = n := by omega
      subst hkn
      have HF := Lib.hid (rest_none HP.out hX HG.out hap.out)
      go_wp2_with fail
      go_ret2
      exact ⟨by rw [HF.out.1, HF.out.2]; rfl, hd⟩
end Go.Proofs.YtidcfcjmjgcfkaaDoor
