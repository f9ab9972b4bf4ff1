import Derived.Test.YtdbmgejjpafhoaaLawA
import Derived.Test.YtdbmgejjpafhoaaSpecWholes
namespace Go.Proofs.Ytdbmgejjpafhoaa
open Go.RowKit

/-- what a law asks of a set: that it has a number -/
def hbB (s a : Int) : Bool := decide (0 ≤ s) && decide (0 ≤ a) && hasB s a.toNat

set_option maxHeartbeats 800000 in
theorem hasBit_any (s : Int) (k : Nat) (hk : k ≤ 63) (hs : I64 s) (w : World) :
    Calls Try.prog 20 #[.int .i64 s, .int .i64 k] w fun e w' => e = .returned (.bool (hbB s k)) ∧ w = w' := by
  obtain ⟨hs1, hs2⟩ := hs
  by_cases h0 : 0 ≤ s
  · have hq : 0 ≤ s / 2 ^ k := Int.ediv_nonneg h0 (Int.le_of_lt (Int.pow_pos (by decide)))
    have hfin : hbB s k = hasB s k := by unfold hbB; rw [decide_eq_true h0, decide_eq_true (by omega)]; rfl
    have HF := Lib.hid hfin; clear hfin
    go_enter Try.func20, Try.ntmps20
    go_wp2_with fail
    go_ret
    exact ⟨retb HF.out.symm, rfl⟩
  · have hfin : hbB s k = false := by unfold hbB; rw [decide_eq_false h0]; rfl
    have HF := Lib.hid hfin; clear hfin
    go_enter Try.func20, Try.ntmps20
    go_wp2_with fail
    go_ret
    exact ⟨retb HF.out.symm, rfl⟩

theorem hasBit_val (s : Int) (k : Nat) (v : Bool) (hv : hbB s k = v) (hk : k ≤ 63) (hs : I64 s) (w : World) :
    Calls Try.prog 20 #[.int .i64 s, .int .i64 k] w fun e w' => e = .returned (.bool v) ∧ w = w' := by
  subst hv; exact hasBit_any s k hk hs w

theorem WholesOf_val (a : Option Addr) (n cap : Nat) (f : Nat → Int) (x v : Int) (w : World) (hv : wholesB n f x = v) (hi : Ints w a n f) :
    Calls Try.prog 32 #[.slice a n cap, .int .i64 x] w fun e w' => e = .returned (.int .i64 v) ∧ Below w.heap.size w w' := by
  subst hv; exact WholesOf_any a n cap f x w hi
theorem specWholesOf_val (a : Option Addr) (n cap : Nat) (f : Nat → Int) (x v : Int) (w : World) (hv : wholesB n f x = v) (hi : Ints w a n f) :
    Calls Try.prog 33 #[.slice a n cap, .int .i64 x] w fun e w' => e = .returned (.int .i64 v) ∧ Drew w w' := by
  subst hv; exact specWholesOf_any a n cap f x w hi
theorem MeetingSet_val (a : Option Addr) (n cap : Nat) (f : Nat → Int) (x v : Int) (w : World) (hv : meetB n f x = v) (hi : Ints w a n f) :
    Calls Try.prog 35 #[.slice a n cap, .int .i64 x] w fun e w' => e = .returned (.int .i64 v) ∧ Below w.heap.size w w' := by
  subst hv; exact MeetingSet_any a n cap f x w hi
theorem specMeetingSet_val (a : Option Addr) (n cap : Nat) (f : Nat → Int) (x v : Int) (w : World) (hv : meetB n f x = v) (hi : Ints w a n f) :
    Calls Try.prog 36 #[.slice a n cap, .int .i64 x] w fun e w' => e = .returned (.int .i64 v) ∧ Drew w w' := by
  subst hv; exact specMeetingSet_any a n cap f x w hi

theorem wholes_rng (n : Nat) (f : Nat → Int) (x : Nat) (hn : n ≤ 7) : 0 ≤ wholesI n f x ∧ wholesI n f x ≤ 128 := by
  have := setOf_rng (fun b => hasB (f b) x) n (by omega)
  have := pow_bounds n hn
  unfold wholesI; omega
theorem meet_rng (n : Nat) (f : Nat → Int) (x : Nat) (hn : n ≤ 7) : 0 ≤ meetI n f x ∧ meetI n f x ≤ 128 := by
  have := setOf_rng (fun b => andI (f x) (f b) != 0) n (by omega)
  have := pow_bounds n hn
  unfold meetI; omega
theorem rng_I64 {x : Int} (h : 0 ≤ x ∧ x ≤ 128) : I64 x := by unfold I64; omega

theorem wholes_bit (n : Nat) (f : Nat → Int) (x i : Nat) (hi : i < 64) : hasB (wholesI n f x) i = (decide (i < n) && hasB (f i) x) := setOf_bit _ n i hi
theorem meet_bit (n : Nat) (f : Nat → Int) (x i : Nat) (hi : i < 64) : hasB (meetI n f x) i = (decide (i < n) && (andI (f x) (f i) != 0)) := setOf_bit _ n i hi

theorem wholesB_in {n : Nat} {f : Nat → Int} {x : Nat} (h : good1 n f x = true) : wholesB n f x = wholesI n f x := by unfold wholesB; rw [if_pos h]; rfl
theorem meetB_in {n : Nat} {f : Nat → Int} {x : Nat} (h : good1 n f x = true) : meetB n f x = meetI n f x := by unfold meetB; rw [if_pos h]; rfl

/-- the wholes of a whole are among the wholes -/
theorem wholes_in {n : Nat} {f : Nat → Int} (hP : WorldP n f) {x b : Nat} (hb : b < n) (h : hasB (f b) x = true) : bits .or .i64 (wholesI n f b) (wholesI n f x) = wholesI n f x := by
  apply ext64 _ _ (orI_I64 _ _) (rng_I64 (wholes_rng n f x hP.hi))
  intro i hi
  show hasB (orI _ _) i = _
  rw [or_bit _ _ _ hi, wholes_bit n f b i hi, wholes_bit n f x i hi]
  by_cases hin : i < n
  · rw [decide_eq_true hin]
    cases h1 : hasB (f i) b with
    | false => simp
    | true => rw [hP.trans i hin b hb h1 x h]; rfl
  · rw [decide_eq_false hin]; rfl

theorem hb_in {s : Int} {k : Nat} (hs : 0 ≤ s) : hbB s k = hasB s k := by
  unfold hbB; rw [decide_eq_true hs, decide_eq_true (by omega)]; rfl

set_option maxHeartbeats 8000000 in
theorem lawWholesOf (a : Option Addr) (n cap : Nat) (w : World) (h : BytesIn w a n cap) :
    Calls Try.prog 7 #[.slice a n cap] w (TrueEnd w) := by
  have hlen := h.len
  have H := Lib.hid h; clear h
  by_cases hn : 1048576 < n
  · go_enter Try.func7, Try.ntmps7
    go_wp2_with fail
    go_ret
    exact ⟨rfl, Below.refl _ _⟩
  · go_enter Try.func7, Try.ntmps7
    go_wp2_with fail
    refine (DrawWholesOf_any _ _ _ _ H.out).mono ?_
    rintro e w1 ⟨d, m, c, f, x, rfl, hm, hx64, hi, hb1⟩
    have h64 := Lib.hid hi.i64
    obtain ⟨hx1, hx2⟩ := hx64
    cases hg : good1 m f x with
    | false =>
      have hfin : wholesB m f x = -1 := by unfold wholesB; rw [if_neg (by rw [hg]; decide)]
      have HV := Lib.hid hfin; clear hfin hg
      go_wp2_with fail
      refine (WholesOf_val _ _ _ f x (-1) _ HV.out hi).mono ?_
      rintro e w9 ⟨rfl, hb2⟩
      replace hi := hi.next hb2; replace hb1 := below_onto hb1 hb2; clear hb2
      go_wp2_with fail
      refine (specWholesOf_val _ _ _ f x (-1) _ HV.out hi).mono ?_
      rintro e w9 ⟨rfl, hd3⟩
      replace hi := hi.drew hd3; replace hb1 := below_onto hb1 hd3.below; clear hd3
      go_wp2_with fail
      refine (alive_any _).mono ?_
      rintro e w9 ⟨rfl, hb2⟩
      replace hb1 := below_onto hb1 hb2; clear hb2
      go_wp2_with fail
      go_ret
      exact ⟨rfl, hb1⟩
    | true =>
      obtain ⟨hwb, hx0, hx1'⟩ := (good1_iff m f x).1 hg
      have hP := Lib.hid ((worldB_iff m f h64.out).1 hwb)
      have h7 := (worldB_7 hwb).2
      obtain ⟨X, rfl⟩ := Int.eq_ofNat_of_zero_le hx0
      have hfin := wholesB_in hg
      have hrg := wholes_rng m f X h7
      have HSX := Lib.hid (show wholesI m f X = wholesI m f X from rfl)
      have HG := Lib.hid hg
      have HV := Lib.hid hfin
      clear hfin hg hwb hx0
      obtain ⟨hr0, hr1⟩ := hrg
      go_wp2_with fail
      refine (WholesOf_val _ _ _ f X _ _ HV.out hi).mono ?_
      rintro e w9 ⟨rfl, hb2⟩
      replace hi := hi.next hb2; replace hb1 := below_onto hb1 hb2; clear hb2
      go_wp2_with fail
      refine (specWholesOf_val _ _ _ f X _ _ HV.out hi).mono ?_
      rintro e w9 ⟨rfl, hd3⟩
      replace hi := hi.drew hd3; replace hb1 := below_onto hb1 hd3.below; clear hd3
      go_wp2_with fail
      go_loopw [6] (fun i wr => ∃ k : Nat, k ≤ m ∧ i = .int .i64 k ∧ Ints wr d m f ∧ Below w.heap.size w wr) (fun i _ => m - (intOf i).toNat)
      case atStart => exact ⟨0, Nat.zero_le _, rfl, hi, hb1⟩
      case round =>
        clear hi hb1
        obtain ⟨k, hk, rfl, hi, hb1⟩ := hrel
        by_cases hlt : k < m
        · have hgk : good1 m f k = true := (good1_iff m f k).2 ⟨((good1_iff m f X).1 HG.out).1, by omega, by omega⟩
          cases hb : hasB (f k) X with
          | true =>
            have hbit : hbB (wholesI m f X) k = true := by rw [hb_in hr0, wholes_bit m f X k (by omega), decide_eq_true hlt, hb]; rfl
            have hor := wholes_in hP.out hlt hb
            have hne : (bits .or .i64 (wholesI m f k) (wholesI m f X) != wholesI m f X) = false := by rw [bne_eq_false_iff_eq]; exact hor
            have HB := Lib.hid hb; have HBT := Lib.hid hbit; have HGK := Lib.hid hgk
            clear hb hbit hor hgk
            by_cases hkx : k = X
            · have hq : ((k : Int) != (X : Int)) = false := by rw [bne_eq_false_iff_eq, hkx]
              have HK := Lib.hid hkx; clear hkx
              go_wp2_with fail
              refine (hasBit_val _ k true HBT.out (by omega) (rng_I64 ⟨hr0, hr1⟩) _).mono ?_
              rintro e w9 ⟨rfl, rfl⟩
              go_wp2_with fail
              refine (WholesOf_val _ _ _ f k _ _ (wholesB_in HGK.out) hi).mono ?_
              rintro e w9 ⟨rfl, hb2⟩
              replace hi := hi.next hb2; replace hb1 := below_onto hb1 hb2; clear hb2
              go_wp2_with fail
              go_roundw
              case rel => exact ⟨k + 1, by omega, by go_num, hi, hb1⟩
              case measure => simp [intOf]; omega
            · have hq : ((k : Int) != (X : Int)) = true := by rw [bne_iff_ne]; omega
              have hpr : properB m f X k = true := by
                unfold properB partB
                rw [(good2_iff m f X k).2 ⟨((good1_iff m f X).1 HG.out).1, by omega, by omega⟩, Int.toNat_natCast, Int.toNat_natCast, HB.out, decide_eq_true (by omega)]; rfl
              have HPR := Lib.hid hpr; clear hpr
              go_wp2_with fail
              refine (hasBit_val _ k true HBT.out (by omega) (rng_I64 ⟨hr0, hr1⟩) _).mono ?_
              rintro e w9 ⟨rfl, rfl⟩
              go_wp2_with fail
              refine (WholesOf_val _ _ _ f k _ _ (wholesB_in HGK.out) hi).mono ?_
              rintro e w9 ⟨rfl, hb2⟩
              replace hi := hi.next hb2; replace hb1 := below_onto hb1 hb2; clear hb2
              go_wp2_with fail
              refine (ProperOk_val _ _ _ f X k true _ HPR.out hi).mono ?_
              rintro e w9 ⟨rfl, hb2⟩
              replace hi := hi.next hb2; replace hb1 := below_onto hb1 hb2; clear hb2
              go_wp2_with fail
              go_roundw
              case rel => exact ⟨k + 1, by omega, by go_num, hi, hb1⟩
              case measure => simp [intOf]; omega
          | false =>
            have hbit : hbB (wholesI m f X) k = false := by rw [hb_in hr0, wholes_bit m f X k (by omega), hb]; simp
            have HBT := Lib.hid hbit; clear hbit hb
            go_wp2_with fail
            refine (hasBit_val _ k false HBT.out (by omega) (rng_I64 ⟨hr0, hr1⟩) _).mono ?_
            rintro e w9 ⟨rfl, rfl⟩
            go_wp2_with fail
            go_roundw
            case rel => exact ⟨k + 1, by omega, by go_num, hi, hb1⟩
            case measure => simp [intOf]; omega
        · have hbit : hbB (wholesI m f X) X = true := by rw [hb_in hr0, wholes_bit m f X X (by omega), decide_eq_true (by omega), hP.out.self X (by omega)]; rfl
          have HBT := Lib.hid hbit; clear hbit
          go_wp2_with fail
          refine (hasBit_val _ X true HBT.out (by omega) (rng_I64 ⟨hr0, hr1⟩) _).mono ?_
          rintro e w9 ⟨rfl, rfl⟩
          go_wp2_with fail
          go_ret
          exact ⟨rfl, hb1⟩
end Go.Proofs.Ytdbmgejjpafhoaa
