import Derived.Test.YtidcfcjmjgcfkaaDoorLawA
import Derived.Test.YtidcfcjmjgcfkaaDoorRestC
import Derived.Test.YtidcfcjmjgcfkaaDoorDrawY3
namespace Go.Proofs.YtidcfcjmjgcfkaaDoor
open Go.RowKit

theorem WeakOk_val (a : Option Addr) (n cap : Nat) (f : Nat → Int) (v : Bool) (w : World) (hv : weakB n f = v) (hi : Ints w a n f) :
    Calls Tryd.prog 7 #[.slice a n cap] w fun e w' => e = .returned (.bool v) ∧ Below w.heap.size w w' := by
  subst hv; exact WeakOk_any a n cap f w hi
theorem specWeakOk_val (a : Option Addr) (n cap : Nat) (f : Nat → Int) (v : Bool) (w : World) (hv : weakB n f = v) (hi : Ints w a n f) :
    Calls Tryd.prog 8 #[.slice a n cap] w fun e w' => e = .returned (.bool v) ∧ Drew w w' := by
  subst hv; exact specWeakOk_any a n cap f w hi
theorem StrongOk_val (a : Option Addr) (n cap : Nat) (f : Nat → Int) (v : Bool) (w : World) (hv : strongB n f = v) (hi : Ints w a n f) :
    Calls Tryd.prog 12 #[.slice a n cap] w fun e w' => e = .returned (.bool v) ∧ Below w.heap.size w w' := by
  subst hv; exact StrongOk_any a n cap f w hi
theorem specRestIn_val (a : Option Addr) (n cap : Nat) (f : Nat → Int) (x y : Int) (i : Int) (v : Bool) (w : World) (h1 : restN n f x y = i) (h2 : restOk n f x y = v) (hi : Ints w a n f) :
    Calls Tryd.prog 15 #[.slice a n cap, .int .i64 x, .int .i64 y] w (RestDrew i v w) := by
  subst h1; subst h2; exact specRestIn_any a n cap f x y w hi

theorem rest_off {n : Nat} {f : Nat → Int} {x y : Int} (h : restOk n f x y = false) : restN n f x y = -1 := by
  unfold restN
  cases hg : good2 n f x y with
  | false => rfl
  | true =>
    unfold restOk at h
    rw [hg, Bool.true_and, bne_eq_false_iff_eq] at h
    rw [if_pos rfl, h]; rfl

theorem ap_least {f : Nat → Int} {X Y : Nat} : ∀ n, apB f X Y n = true → ∃ k, k < n ∧ apB f X Y k = false ∧ hasB (f X) k = true ∧ (andI (f k) (f Y) == 0) = true
  | 0, h => by rw [apB_zero] at h; cases h
  | n + 1, h => by
    cases e : apB f X Y n with
    | true =>
      obtain ⟨k, h1, h2⟩ := ap_least n e
      exact ⟨k, by omega, h2⟩
    | false =>
      refine ⟨n, by omega, e, ?_, ?_⟩
      · cases h1 : hasB (f X) n with
        | true => rfl
        | false => rw [apB_not e h1] at h; cases h
      · cases h1 : (andI (f n) (f Y) == 0) with
        | true => rfl
        | false => rw [apB_meets e h1] at h; cases h

theorem rest_on {n : Nat} {f : Nat → Int} (h64 : ∀ i, i < n → I64 (f i)) {x y : Int} (h : restOk n f x y = true) :
    ∃ C : Nat, C < n ∧ restN n f x y = C ∧ partB n f C x = true ∧ overB n f C y = false ∧ partB n f x y = false := by
  unfold restOk at h
  rw [Bool.and_eq_true] at h
  obtain ⟨hg, hr⟩ := h
  obtain ⟨hwb, ⟨hx0, hx1⟩, hy0, hy1⟩ := (good2_iff n f x y).1 hg
  have hP := (worldB_iff n f h64).1 hwb
  obtain ⟨X, rfl⟩ := Int.eq_ofNat_of_zero_le hx0
  obtain ⟨Y, rfl⟩ := Int.eq_ofNat_of_zero_le hy0
  have hX : X < n := by omega
  have hY : Y < n := by omega
  rw [Int.toNat_natCast, Int.toNat_natCast, rests_ne hP hX] at hr
  obtain ⟨k, hk, h1, h2, h3⟩ := ap_least n hr
  have h4 := beq_iff_eq.1 h3
  refine ⟨k, hk, (rest_found hP hX hg hk h1 h2 h3).1, ?_, ?_, ?_⟩
  · unfold partB
    rw [(good2_iff n f k X).2 ⟨hwb, ⟨by omega, by omega⟩, by omega, by omega⟩, Int.toNat_natCast, Int.toNat_natCast, h2]; rfl
  · unfold overB
    rw [Int.toNat_natCast, Int.toNat_natCast, h4]; simp
  · cases e : partB n f X Y with
    | false => rfl
    | true =>
      have h5 := (part_facts e).2.2.2
      rw [Int.toNat_natCast, Int.toNat_natCast] at h5
      exact (apart_not hP h4 hk (hP.self k hk) (hP.trans Y hY X hX h5 k h2)).elim

set_option maxHeartbeats 8000000 in
theorem lawRestIn (a : Option Addr) (n cap : Nat) (w : World) (h : BytesIn w a n cap) (hT : TabW w) :
    Calls Tryd.prog 4 #[.slice a n cap] w (TrueEnd w) := by
  have hlen := h.len
  have H := Lib.hid h; have HT := Lib.hid hT; clear h hT
  by_cases hn : 1048576 < n
  · go_enter Tryd.func4, Tryd.ntmps4
    go_wp2_with fail
    go_ret
    exact ⟨rfl, Below.refl _ _⟩
  · go_enter Tryd.func4, Tryd.ntmps4
    go_wp2_with fail
    refine (DrawRestIn_any _ _ _ _ H.out).mono ?_
    rintro e w1 ⟨d, m, c, f, x, y, rfl, hm, hx64, hy64, hi, hb1⟩
    have h64 := Lib.hid hi.i64
    obtain ⟨hx1, hx2⟩ := hx64
    obtain ⟨hy1, hy2⟩ := hy64
    have HT1 := Lib.hid (HT.out.below hb1)
    cases hr : restOk m f x y with
    | false =>
      have HR := Lib.hid hr; have HN := Lib.hid (rest_off hr); clear hr
      go_wp2_with fail
      refine (RestIn_val _ _ _ f x y (-1) false _ HN.out HR.out hi HT1.out).mono ?_
      rintro e w9 ⟨rfl, hb2⟩
      replace hi := hi.next hb2; replace hb1 := below_onto hb1 hb2; clear hb2
      go_wp2_with fail
      refine (specRestIn_val _ _ _ f x y (-1) false _ HN.out HR.out hi).mono ?_
      rintro e w9 ⟨rfl, hd3⟩
      replace hi := hi.drew hd3; replace hb1 := below_onto hb1 hd3.below; clear hd3
      go_wp2_with fail
      refine (alive_any _).mono ?_
      rintro e w9 ⟨rfl, hb2⟩
      replace hb1 := below_onto hb1 hb2; clear hb2
      go_wp2_with fail
      go_ret
      exact ⟨rfl, hb1⟩
    | true =>
      obtain ⟨C, hC, h1, h2, h3, h4⟩ := rest_on h64.out hr
      have HR := Lib.hid hr; have HN := Lib.hid h1; have HP := Lib.hid h2; have HO := Lib.hid h3; have HQ := Lib.hid h4; clear hr h1 h2 h3 h4
      have hne : ((C : Int) != (C : Int)) = false := by simp
      go_wp2_with fail
      refine (RestIn_val _ _ _ f x y C true _ HN.out HR.out hi HT1.out).mono ?_
      rintro e w9 ⟨rfl, hb2⟩
      replace hi := hi.next hb2; replace hb1 := below_onto hb1 hb2; clear hb2
      go_wp2_with fail
      refine (specRestIn_val _ _ _ f x y C true _ HN.out HR.out hi).mono ?_
      rintro e w9 ⟨rfl, hd3⟩
      replace hi := hi.drew hd3; replace hb1 := below_onto hb1 hd3.below; clear hd3
      go_wp2_with fail
      refine (PartOk_val _ _ _ f C x true _ HP.out hi).mono ?_
      rintro e w9 ⟨rfl, hb2⟩
      replace hi := hi.next hb2; replace hb1 := below_onto hb1 hb2; clear hb2
      go_wp2_with fail
      refine (OverlapOk_val _ _ _ f C y false _ HO.out hi).mono ?_
      rintro e w9 ⟨rfl, hb2⟩
      replace hi := hi.next hb2; replace hb1 := below_onto hb1 hb2; clear hb2
      go_wp2_with fail
      refine (PartOk_val _ _ _ f x y false _ HQ.out hi).mono ?_
      rintro e w9 ⟨rfl, hb2⟩
      replace hi := hi.next hb2; replace hb1 := below_onto hb1 hb2; clear hb2
      go_wp2_with fail
      go_ret
      exact ⟨rfl, hb1⟩

/-- of each pair before (k, j), the second index first -/
def preB (n : Nat) (f : Nat → Int) (k j : Nat) : Bool := decide (∀ a, a < n → ∀ b, b < n → (a < k ∨ (a = k ∧ b < j)) → weakG n f a b = true)
theorem pre_start (n : Nat) (f : Nat → Int) : preB n f 0 0 = true := decide_eq_true (fun a _ b _ h => by omega)
theorem pre_row (n : Nat) (f : Nat → Int) (k : Nat) : preB n f k n = preB n f (k + 1) 0 := by
  unfold preB; rw [decide_eq_decide]
  exact ⟨fun h a ha b hb hab => h a ha b hb (by omega), fun h a ha b hb hab => h a ha b hb (by omega)⟩
theorem pre_no {n : Nat} {f : Nat → Int} {k j : Nat} (h : preB n f k j = false) : preB n f k (j + 1) = false := by
  unfold preB at h ⊢; rw [decide_eq_false_iff_not] at h ⊢
  exact fun e => h (fun a ha b hb hab => e a ha b hb (by omega))
theorem pre_yes {n : Nat} {f : Nat → Int} {k j : Nat} {v : Bool} (hk : k < n) (hj : j < n) (h : preB n f k j = true) (hv : weakG n f k j = v) : preB n f k (j + 1) = v := by
  unfold preB at h ⊢; rw [decide_eq_true_eq] at h
  cases v with
  | true =>
    rw [decide_eq_true_eq]
    intro a ha b hb hab
    by_cases hab2 : a = k ∧ b = j
    · obtain ⟨rfl, rfl⟩ := hab2; exact hv
    · exact h a ha b hb (by omega)
  | false =>
    rw [decide_eq_false_iff_not]
    intro e
    have := e k hk j hj (by omega)
    rw [hv] at this; cases this
theorem pre_end {n : Nat} {f : Nat → Int} (hw : worldB n f = true) : preB n f n 0 = weakB n f := by
  unfold preB weakB eachB
  rw [hw, Bool.true_and, decide_eq_decide]
  constructor
  · exact fun h a ha c hc _ => h a ha c hc (by omega)
  · intro h a ha b hb hab
    by_cases e : a = b
    · subst e; exact weakG_same n f a
    · exact h a ha b hb e

theorem proper_neHas {n : Nat} {f : Nat → Int} (hw : worldB n f = true) {a b : Nat} (ha : a < n) (hb : b < n) : properB n f (b : Int) (a : Int) = neHas (f a) b a := by
  unfold properB partB neHas
  rw [(good2_iff n f b a).2 ⟨hw, ⟨by omega, by omega⟩, by omega, by omega⟩, Int.toNat_natCast, Int.toNat_natCast, Bool.true_and, Bool.and_comm]
  congr 1
  rw [decide_eq_decide]; omega
theorem restOk_at {n : Nat} {f : Nat → Int} (hw : worldB n f = true) {a b : Nat} (ha : a < n) (hb : b < n) : restOk n f (a : Int) (b : Int) = (restsI n f a b != 0) := by
  unfold restOk
  rw [(good2_iff n f a b).2 ⟨hw, ⟨by omega, by omega⟩, by omega, by omega⟩, Int.toNat_natCast, Int.toNat_natCast, Bool.true_and]
theorem weakG_of {n : Nat} {f : Nat → Int} (hw : worldB n f = true) {a b : Nat} (ha : a < n) (hb : b < n) : weakG n f a b = (!properB n f (b : Int) (a : Int) || restOk n f (a : Int) (b : Int)) := by
  rw [proper_neHas hw ha hb, restOk_at hw ha hb]; rfl

set_option maxHeartbeats 8000000 in
theorem lawWeakOk (a : Option Addr) (n cap : Nat) (w : World) (h : BytesIn w a n cap) (hT : TabW w) :
    Calls Tryd.prog 3 #[.slice a n cap] w (TrueEnd w) := by
  have hlen := h.len
  have H := Lib.hid h; have HT := Lib.hid hT; clear h hT
  by_cases hn : 1048576 < n
  · go_enter Tryd.func3, Tryd.ntmps3
    go_wp2_with fail
    go_ret
    exact ⟨rfl, Below.refl _ _⟩
  · go_enter Tryd.func3, Tryd.ntmps3
    go_wp2_with fail
    refine (DrawWeakOk_any _ _ _ _ H.out).mono ?_
    rintro e w1 ⟨d, m, c, f, rfl, hm, hi, hb1, hcap⟩
    have h64 := Lib.hid hi.i64
    clear hcap
    cases hw : worldB m f with
    | false =>
      have hwk : weakB m f = false := by unfold weakB; rw [hw]; rfl
      have hst : strongB m f = false := by unfold strongB; rw [hw]; rfl
      have hro : ∀ x y : Int, restOk m f x y = false := fun x y => by unfold restOk good2; rw [hw]; rfl
      have HW := Lib.hid hw; have HK := Lib.hid hwk; have HS := Lib.hid hst; have HR := Lib.hid hro; clear hw hwk hst hro
      go_wp2_with fail
      refine (WeakOk_val _ _ _ f false _ HK.out hi).mono ?_
      rintro e w9 ⟨rfl, hb2⟩
      replace hi := hi.next hb2; replace hb1 := below_onto hb1 hb2; clear hb2
      go_wp2_with fail
      refine (specWeakOk_val _ _ _ f false _ HK.out hi).mono ?_
      rintro e w9 ⟨rfl, hd3⟩
      replace hi := hi.drew hd3; replace hb1 := below_onto hb1 hd3.below; clear hd3
      go_wp2_with fail
      refine (WorldOk_val _ _ _ f false _ HW.out hi).mono ?_
      rintro e w9 ⟨rfl, hb2⟩
      replace hi := hi.next hb2; replace hb1 := below_onto hb1 hb2; clear hb2
      go_wp2_with fail
      go_loopw [5, 6] (fun v i wr => ∃ k : Nat, k ≤ m ∧ i = .int .i64 k ∧ v = .bool false ∧ Ints wr d m f ∧ Below w.heap.size w wr) (fun _ i _ => m - (intOf i).toNat)
      case atStart => exact ⟨0, Nat.zero_le _, rfl, rfl, hi, hb1⟩
      case round =>
        clear hi hb1
        obtain ⟨k, hk, rfl, rfl, hi, hb1⟩ := hrel
        by_cases hlt : k < m
        · go_wp2_with fail
          go_loopw [5, 7] (fun v i wr => ∃ j : Nat, j ≤ m ∧ i = .int .i64 j ∧ v = .bool false ∧ Ints wr d m f ∧ Below w.heap.size w wr) (fun _ i _ => m - (intOf i).toNat)
          case atStart => exact ⟨0, Nat.zero_le _, rfl, rfl, hi, hb1⟩
          case round =>
            clear hi hb1
            obtain ⟨j, hj, rfl, rfl, hi, hb1⟩ := hrel
            by_cases hjm : j < m
            · have HT1 := Lib.hid (HT.out.below hb1)
              go_wp2_with fail
              refine (RestIn_val _ _ _ f k j (-1) false _ (rest_off (HR.out _ _)) (HR.out _ _) hi HT1.out).mono ?_
              rintro e w9 ⟨rfl, hb2⟩
              replace hi := hi.next hb2; replace hb1 := below_onto hb1 hb2; clear hb2
              go_wp2_with fail
              go_roundw
              case rel => exact ⟨j + 1, by omega, by go_num, rfl, hi, hb1⟩
              case measure => simp [intOf]; omega
            · go_wp2_with fail
              go_roundw
              case rel => exact ⟨k + 1, by omega, by go_num, rfl, hi, hb1⟩
              case measure => simp [intOf]; omega
        · go_wp2_with fail
          refine (StrongOk_val _ _ _ f false _ HS.out hi).mono ?_
          rintro e w9 ⟨rfl, hb2⟩
          replace hi := hi.next hb2; replace hb1 := below_onto hb1 hb2; clear hb2
          go_wp2_with fail
          refine (alive_any _).mono ?_
          rintro e w9 ⟨rfl, hb2⟩
          replace hb1 := below_onto hb1 hb2; clear hb2
          go_wp2_with fail
          go_ret
          exact ⟨rfl, hb1⟩
    | true =>
      have h7 := (worldB_7 hw).2
      have HW := Lib.hid hw; clear hw
      cases hwk : weakB m f with
      | true =>
        have HK := Lib.hid hwk; have HE := Lib.hid ((pre_end HW.out).trans hwk); clear hwk
        go_wp2_with fail
        refine (WeakOk_val _ _ _ f true _ HK.out hi).mono ?_
        rintro e w9 ⟨rfl, hb2⟩
        replace hi := hi.next hb2; replace hb1 := below_onto hb1 hb2; clear hb2
        go_wp2_with fail
        refine (specWeakOk_val _ _ _ f true _ HK.out hi).mono ?_
        rintro e w9 ⟨rfl, hd3⟩
        replace hi := hi.drew hd3; replace hb1 := below_onto hb1 hd3.below; clear hd3
        go_wp2_with fail
        refine (WorldOk_val _ _ _ f true _ HW.out hi).mono ?_
        rintro e w9 ⟨rfl, hb2⟩
        replace hi := hi.next hb2; replace hb1 := below_onto hb1 hb2; clear hb2
        go_wp2_with fail
        go_loopw [5, 6] (fun v i wr => ∃ k : Nat, k ≤ m ∧ i = .int .i64 k ∧ v = .bool (preB m f k 0) ∧ Ints wr d m f ∧ Below w.heap.size w wr) (fun _ i _ => m - (intOf i).toNat)
        case atStart => exact ⟨0, Nat.zero_le _, rfl, by rw [pre_start], hi, hb1⟩
        case round =>
          clear hi hb1
          obtain ⟨k, hk, rfl, rfl, hi, hb1⟩ := hrel
          by_cases hlt : k < m
          · go_wp2_with fail
            go_loopw [5, 7] (fun v i wr => ∃ j : Nat, j ≤ m ∧ i = .int .i64 j ∧ v = .bool (preB m f k j) ∧ Ints wr d m f ∧ Below w.heap.size w wr) (fun _ i _ => m - (intOf i).toNat)
            case atStart => exact ⟨0, Nat.zero_le _, rfl, rfl, hi, hb1⟩
            case round =>
              clear hi hb1
              obtain ⟨j, hj, rfl, rfl, hi, hb1⟩ := hrel
              by_cases hjm : j < m
              · have hg := weakG_of HW.out hlt hjm
                obtain ⟨i0, hi0⟩ : ∃ i0, restN m f (k : Int) (j : Int) = i0 := ⟨_, rfl⟩
                have HI0 := Lib.hid hi0; clear hi0
                have HT1 := Lib.hid (HT.out.below hb1)
                cases hpre : preB m f k j with
                | false =>
                  obtain ⟨v0, hv0⟩ : ∃ v0, restOk m f (k : Int) (j : Int) = v0 := ⟨_, rfl⟩
                  have HV0 := Lib.hid hv0; have HX := Lib.hid (pre_no hpre); clear hv0 hpre hg
                  go_wp2_with fail
                  refine (RestIn_val _ _ _ f k j i0 v0 _ HI0.out HV0.out hi HT1.out).mono ?_
                  rintro e w9 ⟨rfl, hb2⟩
                  replace hi := hi.next hb2; replace hb1 := below_onto hb1 hb2; clear hb2
                  go_wp2_with fail
                  go_roundw
                  case rel => exact ⟨j + 1, by omega, by go_num, by rw [HX.out], hi, hb1⟩
                  case measure => simp [intOf]; omega
                | true =>
                  cases hv0 : restOk m f (k : Int) (j : Int) with
                  | true =>
                    cases hp : properB m f (j : Int) (k : Int) with
                    | true =>
                      have HX := Lib.hid (pre_yes hlt hjm hpre (show weakG m f k j = true by rw [hg, hv0, hp]; rfl))
                      have HV0 := Lib.hid hv0; have HP := Lib.hid hp; clear hv0 hp hpre hg
                      go_wp2_with fail
                      refine (RestIn_val _ _ _ f k j i0 true _ HI0.out HV0.out hi HT1.out).mono ?_
                      rintro e w9 ⟨rfl, hb2⟩
                      replace hi := hi.next hb2; replace hb1 := below_onto hb1 hb2; clear hb2
                      go_wp2_with fail
                      refine (ProperOk_val _ _ _ f j k true _ HP.out hi).mono ?_
                      rintro e w9 ⟨rfl, hb2⟩
                      replace hi := hi.next hb2; replace hb1 := below_onto hb1 hb2; clear hb2
                      go_wp2_with fail
                      go_roundw
                      case rel => exact ⟨j + 1, by omega, by go_num, by rw [HX.out], hi, hb1⟩
                      case measure => simp [intOf]; omega
                    | false =>
                      have HX := Lib.hid (pre_yes hlt hjm hpre (show weakG m f k j = true by rw [hg, hv0, hp]; rfl))
                      have HV0 := Lib.hid hv0; have HP := Lib.hid hp; clear hv0 hp hpre hg
                      go_wp2_with fail
                      refine (RestIn_val _ _ _ f k j i0 true _ HI0.out HV0.out hi HT1.out).mono ?_
                      rintro e w9 ⟨rfl, hb2⟩
                      replace hi := hi.next hb2; replace hb1 := below_onto hb1 hb2; clear hb2
                      go_wp2_with fail
                      refine (ProperOk_val _ _ _ f j k false _ HP.out hi).mono ?_
                      rintro e w9 ⟨rfl, hb2⟩
                      replace hi := hi.next hb2; replace hb1 := below_onto hb1 hb2; clear hb2
                      go_wp2_with fail
                      go_roundw
                      case rel => exact ⟨j + 1, by omega, by go_num, by rw [HX.out], hi, hb1⟩
                      case measure => simp [intOf]; omega
                  | false =>
                    cases hp : properB m f (j : Int) (k : Int) with
                    | true =>
                      have HX := Lib.hid (pre_yes hlt hjm hpre (show weakG m f k j = false by rw [hg, hv0, hp]; rfl))
                      have HV0 := Lib.hid hv0; have HP := Lib.hid hp; clear hv0 hp hpre hg
                      go_wp2_with fail
                      refine (RestIn_val _ _ _ f k j i0 false _ HI0.out HV0.out hi HT1.out).mono ?_
                      rintro e w9 ⟨rfl, hb2⟩
                      replace hi := hi.next hb2; replace hb1 := below_onto hb1 hb2; clear hb2
                      go_wp2_with fail
                      refine (ProperOk_val _ _ _ f j k true _ HP.out hi).mono ?_
                      rintro e w9 ⟨rfl, hb2⟩
                      replace hi := hi.next hb2; replace hb1 := below_onto hb1 hb2; clear hb2
                      go_wp2_with fail
                      go_roundw
                      case rel => exact ⟨j + 1, by omega, by go_num, by rw [HX.out], hi, hb1⟩
                      case measure => simp [intOf]; omega
                    | false =>
                      have HX := Lib.hid (pre_yes hlt hjm hpre (show weakG m f k j = true by rw [hg, hv0, hp]; rfl))
                      have HV0 := Lib.hid hv0; have HP := Lib.hid hp; clear hv0 hp hpre hg
                      go_wp2_with fail
                      refine (RestIn_val _ _ _ f k j i0 false _ HI0.out HV0.out hi HT1.out).mono ?_
                      rintro e w9 ⟨rfl, hb2⟩
                      replace hi := hi.next hb2; replace hb1 := below_onto hb1 hb2; clear hb2
                      go_wp2_with fail
                      refine (ProperOk_val _ _ _ f j k false _ HP.out hi).mono ?_
                      rintro e w9 ⟨rfl, hb2⟩
                      replace hi := hi.next hb2; replace hb1 := below_onto hb1 hb2; clear hb2
                      go_wp2_with fail
                      go_roundw
                      case rel => exact ⟨j + 1, by omega, by go_num, by rw [HX.out], hi, hb1⟩
                      case measure => simp [intOf]; omega
              · have hjm : j = m := by omega
                subst hjm
                have HX := Lib.hid (pre_row j f k)
                go_wp2_with fail
                go_roundw
                case rel => exact ⟨k + 1, by omega, by go_num, by rw [HX.out], hi, hb1⟩
                case measure => simp [intOf]; omega
          · have hkm : k = m := by omega
            subst hkm
            rw [HE.out]
            cases hst : strongB k f with
            | true =>
              have HS := Lib.hid hst; clear hst
              go_wp2_with fail
              refine (StrongOk_val _ _ _ f true _ HS.out hi).mono ?_
              rintro e w9 ⟨rfl, hb2⟩
              replace hi := hi.next hb2; replace hb1 := below_onto hb1 hb2; clear hb2
              go_wp2_with fail
              refine (alive_any _).mono ?_
              rintro e w9 ⟨rfl, hb2⟩
              replace hb1 := below_onto hb1 hb2; clear hb2
              go_wp2_with fail
              go_ret
              exact ⟨rfl, hb1⟩
            | false =>
              have HS := Lib.hid hst; clear hst
              go_wp2_with fail
              refine (StrongOk_val _ _ _ f false _ HS.out hi).mono ?_
              rintro e w9 ⟨rfl, hb2⟩
              replace hi := hi.next hb2; replace hb1 := below_onto hb1 hb2; clear hb2
              go_wp2_with fail
              refine (alive_any _).mono ?_
              rintro e w9 ⟨rfl, hb2⟩
              replace hb1 := below_onto hb1 hb2; clear hb2
              go_wp2_with fail
              go_ret
              exact ⟨rfl, hb1⟩
      | false =>
        have HK := Lib.hid hwk; have HE := Lib.hid ((pre_end HW.out).trans hwk); clear hwk
        go_wp2_with fail
        refine (WeakOk_val _ _ _ f false _ HK.out hi).mono ?_
        rintro e w9 ⟨rfl, hb2⟩
        replace hi := hi.next hb2; replace hb1 := below_onto hb1 hb2; clear hb2
        go_wp2_with fail
        refine (specWeakOk_val _ _ _ f false _ HK.out hi).mono ?_
        rintro e w9 ⟨rfl, hd3⟩
        replace hi := hi.drew hd3; replace hb1 := below_onto hb1 hd3.below; clear hd3
        go_wp2_with fail
        refine (WorldOk_val _ _ _ f true _ HW.out hi).mono ?_
        rintro e w9 ⟨rfl, hb2⟩
        replace hi := hi.next hb2; replace hb1 := below_onto hb1 hb2; clear hb2
        go_wp2_with fail
        go_loopw [5, 6] (fun v i wr => ∃ k : Nat, k ≤ m ∧ i = .int .i64 k ∧ v = .bool (preB m f k 0) ∧ Ints wr d m f ∧ Below w.heap.size w wr) (fun _ i _ => m - (intOf i).toNat)
        case atStart => exact ⟨0, Nat.zero_le _, rfl, by rw [pre_start], hi, hb1⟩
        case round =>
          clear hi hb1
          obtain ⟨k, hk, rfl, rfl, hi, hb1⟩ := hrel
          by_cases hlt : k < m
          · go_wp2_with fail
            go_loopw [5, 7] (fun v i wr => ∃ j : Nat, j ≤ m ∧ i = .int .i64 j ∧ v = .bool (preB m f k j) ∧ Ints wr d m f ∧ Below w.heap.size w wr) (fun _ i _ => m - (intOf i).toNat)
            case atStart => exact ⟨0, Nat.zero_le _, rfl, rfl, hi, hb1⟩
            case round =>
              clear hi hb1
              obtain ⟨j, hj, rfl, rfl, hi, hb1⟩ := hrel
              by_cases hjm : j < m
              · have hg := weakG_of HW.out hlt hjm
                obtain ⟨i0, hi0⟩ : ∃ i0, restN m f (k : Int) (j : Int) = i0 := ⟨_, rfl⟩
                have HI0 := Lib.hid hi0; clear hi0
                have HT1 := Lib.hid (HT.out.below hb1)
                cases hpre : preB m f k j with
                | false =>
                  obtain ⟨v0, hv0⟩ : ∃ v0, restOk m f (k : Int) (j : Int) = v0 := ⟨_, rfl⟩
                  have HV0 := Lib.hid hv0; have HX := Lib.hid (pre_no hpre); clear hv0 hpre hg
                  go_wp2_with fail
                  refine (RestIn_val _ _ _ f k j i0 v0 _ HI0.out HV0.out hi HT1.out).mono ?_
                  rintro e w9 ⟨rfl, hb2⟩
                  replace hi := hi.next hb2; replace hb1 := below_onto hb1 hb2; clear hb2
                  go_wp2_with fail
                  go_roundw
                  case rel => exact ⟨j + 1, by omega, by go_num, by rw [HX.out], hi, hb1⟩
                  case measure => simp [intOf]; omega
                | true =>
                  cases hv0 : restOk m f (k : Int) (j : Int) with
                  | true =>
                    cases hp : properB m f (j : Int) (k : Int) with
                    | true =>
                      have HX := Lib.hid (pre_yes hlt hjm hpre (show weakG m f k j = true by rw [hg, hv0, hp]; rfl))
                      have HV0 := Lib.hid hv0; have HP := Lib.hid hp; clear hv0 hp hpre hg
                      go_wp2_with fail
                      refine (RestIn_val _ _ _ f k j i0 true _ HI0.out HV0.out hi HT1.out).mono ?_
                      rintro e w9 ⟨rfl, hb2⟩
                      replace hi := hi.next hb2; replace hb1 := below_onto hb1 hb2; clear hb2
                      go_wp2_with fail
                      refine (ProperOk_val _ _ _ f j k true _ HP.out hi).mono ?_
                      rintro e w9 ⟨rfl, hb2⟩
                      replace hi := hi.next hb2; replace hb1 := below_onto hb1 hb2; clear hb2
                      go_wp2_with fail
                      go_roundw
                      case rel => exact ⟨j + 1, by omega, by go_num, by rw [HX.out], hi, hb1⟩
                      case measure => simp [intOf]; omega
                    | false =>
                      have HX := Lib.hid (pre_yes hlt hjm hpre (show weakG m f k j = true by rw [hg, hv0, hp]; rfl))
                      have HV0 := Lib.hid hv0; have HP := Lib.hid hp; clear hv0 hp hpre hg
                      go_wp2_with fail
                      refine (RestIn_val _ _ _ f k j i0 true _ HI0.out HV0.out hi HT1.out).mono ?_
                      rintro e w9 ⟨rfl, hb2⟩
                      replace hi := hi.next hb2; replace hb1 := below_onto hb1 hb2; clear hb2
                      go_wp2_with fail
                      refine (ProperOk_val _ _ _ f j k false _ HP.out hi).mono ?_
                      rintro e w9 ⟨rfl, hb2⟩
                      replace hi := hi.next hb2; replace hb1 := below_onto hb1 hb2; clear hb2
                      go_wp2_with fail
                      go_roundw
                      case rel => exact ⟨j + 1, by omega, by go_num, by rw [HX.out], hi, hb1⟩
                      case measure => simp [intOf]; omega
                  | false =>
                    cases hp : properB m f (j : Int) (k : Int) with
                    | true =>
                      have HX := Lib.hid (pre_yes hlt hjm hpre (show weakG m f k j = false by rw [hg, hv0, hp]; rfl))
                      have HV0 := Lib.hid hv0; have HP := Lib.hid hp; clear hv0 hp hpre hg
                      go_wp2_with fail
                      refine (RestIn_val _ _ _ f k j i0 false _ HI0.out HV0.out hi HT1.out).mono ?_
                      rintro e w9 ⟨rfl, hb2⟩
                      replace hi := hi.next hb2; replace hb1 := below_onto hb1 hb2; clear hb2
                      go_wp2_with fail
                      refine (ProperOk_val _ _ _ f j k true _ HP.out hi).mono ?_
                      rintro e w9 ⟨rfl, hb2⟩
                      replace hi := hi.next hb2; replace hb1 := below_onto hb1 hb2; clear hb2
                      go_wp2_with fail
                      go_roundw
                      case rel => exact ⟨j + 1, by omega, by go_num, by rw [HX.out], hi, hb1⟩
                      case measure => simp [intOf]; omega
                    | false =>
                      have HX := Lib.hid (pre_yes hlt hjm hpre (show weakG m f k j = true by rw [hg, hv0, hp]; rfl))
                      have HV0 := Lib.hid hv0; have HP := Lib.hid hp; clear hv0 hp hpre hg
                      go_wp2_with fail
                      refine (RestIn_val _ _ _ f k j i0 false _ HI0.out HV0.out hi HT1.out).mono ?_
                      rintro e w9 ⟨rfl, hb2⟩
                      replace hi := hi.next hb2; replace hb1 := below_onto hb1 hb2; clear hb2
                      go_wp2_with fail
                      refine (ProperOk_val _ _ _ f j k false _ HP.out hi).mono ?_
                      rintro e w9 ⟨rfl, hb2⟩
                      replace hi := hi.next hb2; replace hb1 := below_onto hb1 hb2; clear hb2
                      go_wp2_with fail
                      go_roundw
                      case rel => exact ⟨j + 1, by omega, by go_num, by rw [HX.out], hi, hb1⟩
                      case measure => simp [intOf]; omega
              · have hjm : j = m := by omega
                subst hjm
                have HX := Lib.hid (pre_row j f k)
                go_wp2_with fail
                go_roundw
                case rel => exact ⟨k + 1, by omega, by go_num, by rw [HX.out], hi, hb1⟩
                case measure => simp [intOf]; omega
          · have hkm : k = m := by omega
            subst hkm
            rw [HE.out]
            cases hst : strongB k f with
            | true => have := strong_weak h64.out hst; rw [HK.out] at this; cases this
            | false =>
              have HS := Lib.hid hst; clear hst
              go_wp2_with fail
              refine (StrongOk_val _ _ _ f false _ HS.out hi).mono ?_
              rintro e w9 ⟨rfl, hb2⟩
              replace hi := hi.next hb2; replace hb1 := below_onto hb1 hb2; clear hb2
              go_wp2_with fail
              refine (alive_any _).mono ?_
              rintro e w9 ⟨rfl, hb2⟩
              replace hb1 := below_onto hb1 hb2; clear hb2
              go_wp2_with fail
              go_ret
              exact ⟨rfl, hb1⟩
end Go.Proofs.YtidcfcjmjgcfkaaDoor
