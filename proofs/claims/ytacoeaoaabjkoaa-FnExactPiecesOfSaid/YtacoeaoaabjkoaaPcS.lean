import Derived.Test.YtacoeaoaabjkoaaPcJ
namespace Go.Proofs.Ytacoeaoaabjkoaa
open Go.RowKit Go.Maps

theorem pcK_rng {n : Nat} {f : Nat → Int} {a : Int} {p : Nat} (hT : ThP n f a) (hp : hasB a p = true) (k : Nat) : 0 ≤ pcK n f a p k ∧ pcK n f a p k < 2 ^ n := by
  have h7 := hT.g.hi
  have hpn := hT.lt hp
  exact lt_of_bits _ n (by omega) (pcK_I64 (by omega) k) (fun i hi hni => by
    rw [Bool.eq_false_iff]
    intro hb
    have := hT.lt (pcK_in hp k i hi hb)
    omega)

set_option maxRecDepth 100000 in
set_option maxHeartbeats 800000 in
theorem specPiece_any (a : Option Addr) (n cap : Nat) (f : Nat → Int) (x : Int) (p : Nat) (hT : ThP n f x) (hp : hasB x p = true) (w : World) (hi : Ints w a n f) :
    Calls Try.prog 43 #[.slice a n cap, .int .i64 x, .int .i64 p] w fun e w' => e = .returned (.int .i64 (pcI n f x p)) ∧ w = w' := by
  have h7 := hT.g.hi
  obtain ⟨b, o, rfl, hbl, hrow⟩ := hi.row hT.g.lo
  have hpn := hT.lt hp
  have ⟨hp1, hp2⟩ := pow_bounds p (by omega)
  have hwr : IntKind.i64.wrap (2 ^ p) = 2 ^ p := wrap_in _ (by unfold I64; omega)
  have HS := Lib.hid (fun k => show pcK n f x p (k + 1) = bits .and .i64 (arS f (pcK n f x p k) n) x by
    rw [pcK, gwI, ← arS_eq f (pcK_I64 (by omega) k) n]; rfl)
  have HG := Lib.hid (fun k => (pcK_rng hT hp k).1)
  have HR := Lib.hid hrow
  clear hrow hbl hi
  go_enter Try.func43, Try.ntmps43
  go_wp2_with fail
  go_loopw [7, 8] (fun v i wr => ∃ k : Nat, k ≤ n ∧ i = .int .i64 k ∧ v = .int .i64 (pcK n f x p k) ∧ w = wr) (fun _ i _ => n - (intOf i).toNat)
  case atStart => exact ⟨0, Nat.zero_le _, rfl, rfl, rfl⟩
  case round =>
    obtain ⟨k, hk, rfl, rfl, rfl⟩ := hrel
    by_cases hlt : k < n
    · have hki : (k : Int) < (n : Int) := by omega
      have HSk := Lib.hid (HS.out k)
      have HGk := Lib.hid (HG.out k)
      obtain ⟨y, hy⟩ : ∃ y, pcK n f x p k = y := ⟨_, rfl⟩
      rw [hy] at HSk HGk ⊢
      clear hy
      go_wp2_with fail
      refine (l8Around_any b o n cap f y HGk.out h7 w HR.out).mono ?_
      rintro e w' ⟨rfl, rfl⟩
      go_wp2_with fail
      go_roundw
      case rel => exact ⟨k + 1, by omega, by go_num, by rw [HSk.out], by first | rfl | trivial⟩
      case measure => simp [intOf]; omega
    · have hki : ¬ (k : Int) < (n : Int) := by omega
      have hkn : k = n := by omega
      subst hkn
      go_wp2_with fail
      go_ret
      exact ⟨rfl, rfl⟩

set_option maxRecDepth 100000 in
set_option maxHeartbeats 1600000 in
theorem specTogetherOk_any (a : Option Addr) (n cap : Nat) (f : Nat → Int) (x : Int) (hx : I64 x) (w : World) (hi : Ints w a n f) :
    Calls Try.prog 15 #[.slice a n cap, .int .i64 x] w fun e w' => e = .returned (.bool (tgV n f x)) ∧ Drew w w' := by
  cases hg : thingB n f x with
  | true =>
    have HT := Lib.hid (th_of hi.i64 hx hg)
    have HF := Lib.hid (show tgV n f x = tgB n f x by unfold tgV; rw [hg]; rfl)
    have h7 := HT.out.1.g.hi
    have HI := Lib.hid hi; have HX := Lib.hid hx; have HG := Lib.hid hg; have HX0 := Lib.hid HT.out.1.lo; clear hi hx hg
    go_enter Try.func15, Try.ntmps15
    go_wp2_with fail
    go_loopw [5] (fun i wr => ∃ k : Nat, k ≤ n ∧ i = .int .i64 k ∧ Hid (∀ i, i < k → hasB x i = false) ∧ Drew w wr) (fun i _ => n - (intOf i).toNat)
    case atStart => exact ⟨0, Nat.zero_le _, rfl, Lib.hid (fun i hi => absurd hi (Nat.not_lt_zero _)), Drew.refl _⟩
    case round =>
      obtain ⟨k, hk, rfl, hall, hd⟩ := hrel
      by_cases hlt : k < n
      · have hki : (k : Int) < (n : Int) := by omega
        have hk6 : k ≤ 63 := by omega
        cases hv : hasB x k with
        | true =>
          have HV := Lib.hid hv
          have HF2 := Lib.hid (show tgV n f x = (pcI n f x k == x) by rw [HF.out, tg_one HT.out.1 hv]); clear hv
          go_wp2_with fail
          refine (specThingOk_val a n cap f x true HX.out _ HG.out (HI.out.drew hd)).mono ?_
          rintro e w1 ⟨rfl, hd1⟩
          replace hd := hd.on2 hd1
          clear hd1
          go_wp2_with fail
          refine (l1Has_val _ _ true _ HV.out hk6 HX0.out).mono ?_
          rintro e w' ⟨rfl, rfl⟩
          go_wp2_with fail
          refine (specPiece_any a n cap f x k HT.out.1 HV.out _ (HI.out.drew hd)).mono ?_
          rintro e w' ⟨rfl, rfl⟩
          go_wp2_with fail
          go_ret
          exact ⟨retb HF2.out.symm, hd⟩
        | false =>
          have HV := Lib.hid hv; clear hv
          go_wp2_with fail
          refine (specThingOk_val a n cap f x true HX.out _ HG.out (HI.out.drew hd)).mono ?_
          rintro e w1 ⟨rfl, hd1⟩
          replace hd := hd.on2 hd1
          clear hd1
          go_wp2_with fail
          refine (l1Has_val _ _ false _ HV.out hk6 HX0.out).mono ?_
          rintro e w' ⟨rfl, rfl⟩
          go_wp2_with fail
          go_roundw
          case rel => exact ⟨k + 1, by omega, by go_num, Lib.hid (fun i hi => by
            by_cases e : i = k
            · subst e; exact HV.out
            · exact hall.out i (by omega)), hd⟩
          case measure => simp [intOf]; omega
      · exfalso
        obtain ⟨i, hi, hb⟩ := some_bit8 h7 ⟨HT.out.2, HT.out.1.hi⟩
        have := hall.out i (by omega)
        rw [hb] at this; cases this
  | false =>
    have HF := Lib.hid (show tgV n f x = false by unfold tgV; rw [hg]; rfl)
    have HI := Lib.hid hi; have HX := Lib.hid hx; have HG := Lib.hid hg; clear hi hx hg
    go_enter Try.func15, Try.ntmps15
    go_wp2_with fail
    go_loopw [5] (fun i wr => i = .int .i64 (0 : Nat) ∧ w = wr) (fun _ _ => 0)
    case atStart => exact ⟨rfl, rfl⟩
    case round =>
      obtain ⟨rfl, rfl⟩ := hrel
      by_cases hlt : 0 < n
      · have hki : (0 : Int) < (n : Int) := by omega
        go_wp2_with fail
        refine (specThingOk_val a n cap f x false HX.out _ HG.out HI.out).mono ?_
        rintro e w1 ⟨rfl, hd1⟩
        go_wp2_with fail
        go_ret
        exact ⟨retb HF.out.symm, hd1⟩
      · have hn0 : n = 0 := by omega
        subst hn0
        go_wp2_with fail
        go_ret
        exact ⟨retb HF.out.symm, Drew.refl _⟩
theorem specTogetherOk_val (a : Option Addr) (n cap : Nat) (f : Nat → Int) (x : Int) (v : Bool) (hx : I64 x) (w : World) (hv : tgV n f x = v) (hi : Ints w a n f) :
    Calls Try.prog 15 #[.slice a n cap, .int .i64 x] w fun e w' => e = .returned (.bool v) ∧ Drew w w' := by
  subst hv; exact specTogetherOk_any a n cap f x hx w hi

/-- how many of the first k bits are set -/
def pop9 : Nat → Nat → Nat
  | 0, _ => 0
  | k + 1, x => x % 2 + pop9 k (x / 2)
theorem pop9_zero : ∀ k, pop9 k 0 = 0
  | 0 => rfl
  | k + 1 => by rw [pop9]; simp [pop9_zero k]
def SizeR9 (x : Nat) (s c : Value) : Prop := ∃ k s' c' : Nat, s' < 2 ^ k ∧ k ≤ 7 ∧ s = .int .i64 s' ∧ c = .int .i64 c' ∧ c' + pop9 k s' = pop9 7 x ∧ c' + k ≤ 7
set_option maxHeartbeats 800000 in
theorem l1Size9_any (x : Nat) (hx : x < 128) (w : World) :
    Calls Try.prog 58 #[.int .i64 x] w fun e w' => e = .returned (.int .i64 (pop9 7 x)) ∧ w = w' := by
  go_enter Try.func58, Try.ntmps58
  go_wp2_with fail
  go_loop [0, 3] (fun s c => SizeR9 x s c) (fun s _ => (intOf s).toNat)
  case atStart => exact ⟨7, x, 0, by omega, by omega, rfl, rfl, by omega, by omega⟩
  case round =>
    obtain ⟨k, s, c, hs, hk, rfl, rfl, hsum, hck⟩ := hrel
    have hs128 : s < 128 := Nat.lt_of_lt_of_le hs (Nat.pow_le_pow_right (by decide) hk)
    by_cases h0 : 0 < s
    · obtain ⟨k', rfl⟩ : ∃ k', k = k' + 1 := by
        cases k with
        | zero => simp at hs; omega
        | succ k' => exact ⟨k', rfl⟩
      rw [pop9] at hsum
      rw [Nat.pow_succ] at hs
      have HS := Lib.hid hsum; clear hsum
      have h0i : (0 : Int) < (s : Int) := by omega
      go_wp2_with fail
      go_round
      case rel => exact ⟨k', s / 2, c + s % 2, by omega, by omega, by go_num, by go_num, by have := HS.out; omega, by omega⟩
      case measure => simp [intOf]; omega
    · have hs0 : s = 0 := by omega
      subst hs0
      rw [pop9_zero] at hsum
      have HS := Lib.hid hsum; clear hsum
      go_wp2_with fail
      go_ret
      exact ⟨reti (by have := HS.out; omega), rfl⟩
def popA : Bool := (List.range 128).all (fun a => Nat.beq a 0 || (Nat.blt (pop9 7 a) 2 == (Nat.land a (a - 1) == 0)))
theorem pop_all : popA = true := by kernel_rfl
theorem pop_one {A : Nat} (h1 : 1 ≤ A) (hA : A < 128) : decide ((pop9 7 A : Int) < 2) = oneB (A : Int) := by
  have hk := pop_all
  unfold popA at hk
  rw [List.all_eq_true] at hk
  have h2 := hk A (List.mem_range.2 hA)
  rw [Bool.or_eq_true] at h2
  rcases h2 with h2 | h2
  · have := Nat.eq_of_beq_eq_true h2; omega
  · rw [beq_iff_eq] at h2
    have e : ((A : Int) - 1) = ((A - 1 : Nat) : Int) := by omega
    have e2 : oneB (A : Int) = (Nat.land A (A - 1) == 0) := by
      unfold oneB
      have e2 : bits .and .i64 (A : Int) ((A : Int) - 1) = ((A &&& (A - 1) : Nat) : Int) := by rw [e]; exact and_nat9 hA
      rw [e2, Bool.eq_iff_iff, beq_iff_eq, beq_iff_eq]
      show _ ↔ A &&& (A - 1) = 0
      omega
    rw [e2, ← h2, Bool.eq_iff_iff, decide_eq_true_eq]
    show _ ↔ Nat.ble (pop9 7 A + 1) 2 = true
    rw [Nat.ble_eq]
    omega

theorem less_sub {n : Nat} {f : Nat → Int} {s : Int} (hT : ThP n f s) {p : Nat} (hp : hasB s p = true) : s - 2 ^ p = bits .andNot .i64 s (2 ^ p) := by
  have h7 := hT.g.hi
  have hpn := hT.lt hp
  have h2 := pow7 hpn
  have hpb := pow_bounds n h7
  obtain ⟨h3, h4⟩ := sub_bit (n := n) (a := s) (s := 2 ^ p) h7 ⟨hT.lo, hT.hi⟩ ⟨by omega, h2.2⟩ (fun i hi hb => by
    rw [hasB_pow8, decide_eq_true_eq] at hb
    subst hb; exact hp)
  have := hT.hi
  refine ext64 _ _ (by unfold I64; omega) (andNot_I64 _ _) (fun i hi => ?_)
  rw [h4 i hi, andNot_bit _ _ _ hi]
theorem tgV_less {n : Nat} {f : Nat → Int} {s : Int} (h64 : ∀ i, i < n → I64 (f i)) (hT : ThP n f s) (h2 : Two s) (p : Nat) : tgV n f (bits .andNot .i64 s (2 ^ p)) = tgB n f (bits .andNot .i64 s (2 ^ p)) := by
  unfold tgV
  rw [(thing_iff h64 (andNot_I64 _ _)).2 ⟨hT.g, less_pos hT h2 p, (th_less hT p).hi⟩, Bool.true_and]

set_option maxRecDepth 100000 in
set_option maxHeartbeats 1600000 in
theorem specCutAt_any (a : Option Addr) (n cap : Nat) (f : Nat → Int) (x : Int) (hx : I64 x) (w : World) (hi : Ints w a n f) :
    Calls Try.prog 34 #[.slice a n cap, .int .i64 x] w fun e w' => e = .returned (.int .i64 (cuV n f x)) ∧ Drew w w' := by
  cases hv : tgV n f x with
  | true =>
    have hg : thingB n f x = true ∧ tgB n f x = true := by unfold tgV at hv; rwa [Bool.and_eq_true] at hv
    obtain ⟨hT, hx1⟩ := th_of hi.i64 hx hg.1
    have h7 := hT.g.hi
    have hpb := pow_bounds n h7
    obtain ⟨X, rfl⟩ := Int.eq_ofNat_of_zero_le hT.lo
    have hX7 : X < 128 := by have := hT.hi; omega
    have hpop := pop_one (A := X) (by omega) hX7
    cases h1 : oneB X with
    | true =>
      have HF := Lib.hid (show cuV n f X = -1 by unfold cuV; rw [if_neg (by rw [h1]; simp)])
      rw [h1] at hpop
      have HV := Lib.hid hv; have HI := Lib.hid hi; have HX := Lib.hid hx; clear hv hi hx hT hg h1 hpb
      go_enter Try.func34, Try.ntmps34
      go_wp2_with fail
      refine (specTogetherOk_val a n cap f X true HX.out w HV.out HI.out).mono ?_
      rintro e w1 ⟨rfl, hd1⟩
      go_wp2_with fail
      refine (l1Size9_any X hX7 _).mono ?_
      rintro e w' ⟨rfl, rfl⟩
      go_wp2_with fail
      go_ret
      exact ⟨reti HF.out.symm, hd1⟩
    | false =>
      have h2 := (two_iff hT hx1).1 h1
      have HF := Lib.hid (show cuV n f X = ctI n f X n by unfold cuV; rw [if_pos (by rw [h1, hg.1, hg.2]; rfl)])
      rw [h1] at hpop
      have HV := Lib.hid hv; have HI := Lib.hid hi; have HX := Lib.hid hx; have HT := Lib.hid hT; have H2 := Lib.hid h2; have HX0 := Lib.hid hT.lo; have HXU := Lib.hid hT.hi; have HPB := Lib.hid hpb
      clear hv hi hx hT hg h1 h2 hx1 hpb
      go_enter Try.func34, Try.ntmps34
      go_wp2_with fail
      refine (specTogetherOk_val a n cap f X true HX.out w HV.out HI.out).mono ?_
      rintro e w1 ⟨rfl, hd1⟩
      go_wp2_with fail
      refine (l1Size9_any X hX7 _).mono ?_
      rintro e w' ⟨rfl, rfl⟩
      go_wp2_with fail
      clear hpop
      go_loopw [5, 6] (fun v i wr => ∃ k : Nat, k ≤ n ∧ i = .int .i64 k ∧ v = .int .i64 (ctI n f X k) ∧ Drew w wr) (fun _ i _ => n - (intOf i).toNat)
      case atStart => exact ⟨0, Nat.zero_le _, rfl, rfl, hd1⟩
      case round =>
        clear hd1
        obtain ⟨k, hk, rfl, rfl, hd⟩ := hrel
        by_cases hlt : k < n
        · have hki : (k : Int) < (n : Int) := by omega
          have hk6 : k ≤ 63 := by omega
          have ⟨hp1, hp2⟩ := pow_bounds k (by omega)
          have hwr : IntKind.i64.wrap (2 ^ k) = 2 ^ k := wrap_in _ (by unfold I64; omega)
          cases hb : hasB (X : Int) k with
          | false =>
            have HS := Lib.hid (show ctI n f X (k + 1) = ctI n f X k from setOf_no _ k (by rw [hb]; rfl))
            have HB := Lib.hid hb; clear hb
            go_wp2_with fail
            refine (l1Has_val _ _ false _ HB.out hk6 HX0.out).mono ?_
            rintro e w' ⟨rfl, rfl⟩
            go_wp2_with fail
            go_roundw
            case rel => exact ⟨k + 1, by omega, by go_num, by rw [HS.out], hd⟩
            case measure => simp [intOf]; omega
          | true =>
            have hsub := less_sub HT.out hb
            have hws : IntKind.i64.wrap ((X : Int) - 2 ^ k) = bits .andNot .i64 (X : Int) (2 ^ k) := by
              rw [← hsub]; exact wrap_in _ (by unfold I64; have := HXU.out; have := HPB.out; omega)
            have htl := tgV_less HI.out.i64 HT.out H2.out k
            cases ht : tgB n f (bits .andNot .i64 (X : Int) (2 ^ k)) with
            | true =>
              have HS := Lib.hid (show ctI n f X (k + 1) = ctI n f X k from setOf_no _ k (by rw [ht]; simp))
              rw [ht] at htl
              have HB := Lib.hid hb; have HTL := Lib.hid htl; clear hb htl ht hsub
              obtain ⟨y, hy⟩ : ∃ y, bits .andNot .i64 (X : Int) (2 ^ k) = y := ⟨_, rfl⟩
              have HY := Lib.hid (show I64 y by rw [← hy]; exact andNot_I64 _ _)
              rw [hy] at hws HTL
              clear hy
              go_wp2_with fail
              refine (l1Has_val _ _ true _ HB.out hk6 HX0.out).mono ?_
              rintro e w' ⟨rfl, rfl⟩
              go_wp2_with fail
              refine (specTogetherOk_val a n cap f y true HY.out _ HTL.out (HI.out.drew hd)).mono ?_
              rintro e w2 ⟨rfl, hd2⟩
              replace hd := hd.on2 hd2
              clear hd2
              go_wp2_with fail
              go_roundw
              case rel => exact ⟨k + 1, by omega, by go_num, by rw [HS.out], hd⟩
              case measure => simp [intOf]; omega
            | false =>
              have HS := Lib.hid (show ctI n f X (k + 1) = bits .or .i64 (ctI n f X k) (2 ^ k) from setOf_yes _ k (by rw [hb, ht]; rfl))
              rw [ht] at htl
              have HB := Lib.hid hb; have HTL := Lib.hid htl; clear hb htl ht hsub
              obtain ⟨y, hy⟩ : ∃ y, bits .andNot .i64 (X : Int) (2 ^ k) = y := ⟨_, rfl⟩
              have HY := Lib.hid (show I64 y by rw [← hy]; exact andNot_I64 _ _)
              rw [hy] at hws HTL
              clear hy
              go_wp2_with fail
              refine (l1Has_val _ _ true _ HB.out hk6 HX0.out).mono ?_
              rintro e w' ⟨rfl, rfl⟩
              go_wp2_with fail
              refine (specTogetherOk_val a n cap f y false HY.out _ HTL.out (HI.out.drew hd)).mono ?_
              rintro e w2 ⟨rfl, hd2⟩
              replace hd := hd.on2 hd2
              clear hd2
              go_wp2_with fail
              go_roundw
              case rel => exact ⟨k + 1, by omega, by go_num, by rw [HS.out], hd⟩
              case measure => simp [intOf]; omega
        · have hki : ¬ (k : Int) < (n : Int) := by omega
          have hkn : k = n := by omega
          subst hkn
          go_wp2_with fail
          go_ret
          exact ⟨reti HF.out.symm, hd⟩
  | false =>
    have HF := Lib.hid (show cuV n f x = -1 by
      unfold cuV; rw [if_neg]
      intro h
      rw [Bool.and_eq_true, Bool.and_eq_true] at h
      unfold tgV at hv
      rw [h.1.1, h.2] at hv; cases hv)
    have HV := Lib.hid hv; have HI := Lib.hid hi; have HX := Lib.hid hx; clear hv hi hx
    go_enter Try.func34, Try.ntmps34
    go_wp2_with fail
    refine (specTogetherOk_val a n cap f x false HX.out w HV.out HI.out).mono ?_
    rintro e w1 ⟨rfl, hd1⟩
    go_wp2_with fail
    go_ret
    exact ⟨reti HF.out.symm, hd1⟩
end Go.Proofs.Ytacoeaoaabjkoaa
