import Derived.Test.YtidcfcjmjgcfkaaDoorAxiomV
namespace Go.Proofs.YtidcfcjmjgcfkaaDoor
open Go.RowKit

/-- among the first k parts of a one is apart from b -/
def apB (f : Nat → Int) (a b k : Nat) : Bool := decide (∃ c, c < k ∧ hasB (f a) c = true ∧ (andI (f c) (f b) == 0) = true)

theorem apB_zero (f : Nat → Int) (a b : Nat) : apB f a b 0 = false := decide_eq_false (fun ⟨_, h, _⟩ => absurd h (Nat.not_lt_zero _))
theorem apB_old {f : Nat → Int} {a b k : Nat} (h : apB f a b k = true) : apB f a b (k + 1) = true := by
  unfold apB at h ⊢; rw [decide_eq_true_eq] at h ⊢
  obtain ⟨c, h1, h2⟩ := h; exact ⟨c, by omega, h2⟩
theorem apB_new {f : Nat → Int} {a b k : Nat} (h1 : hasB (f a) k = true) (h2 : (andI (f k) (f b) == 0) = true) : apB f a b (k + 1) = true := by
  unfold apB; rw [decide_eq_true_eq]; exact ⟨k, by omega, h1, h2⟩
theorem apB_not {f : Nat → Int} {a b k : Nat} (h : apB f a b k = false) (h1 : hasB (f a) k = false) : apB f a b (k + 1) = false := by
  unfold apB at h ⊢; rw [decide_eq_false_iff_not] at h ⊢
  rintro ⟨c, h2, h3, h4⟩
  by_cases hc : c = k
  · subst hc; rw [h1] at h3; cases h3
  · exact h ⟨c, by omega, h3, h4⟩
theorem apB_meets {f : Nat → Int} {a b k : Nat} (h : apB f a b k = false) (h1 : (andI (f k) (f b) == 0) = false) : apB f a b (k + 1) = false := by
  unfold apB at h ⊢; rw [decide_eq_false_iff_not] at h ⊢
  rintro ⟨c, h2, h3, h4⟩
  by_cases hc : c = k
  · subst hc; rw [h1] at h4; cases h4
  · exact h ⟨c, by omega, h3, h4⟩

theorem nonzero_iff (x : Int) (hx : I64 x) : (x != 0) = true ↔ ∃ i, i < 64 ∧ hasB x i = true := by
  rw [bne_iff_ne]
  constructor
  · intro h
    apply Classical.byContradiction; intro hn
    apply h
    apply ext64 _ _ hx I64_zero
    intro i hi
    rw [hasB_zero]
    cases e : hasB x i with
    | false => rfl
    | true => exact absurd ⟨i, hi, e⟩ hn
  · rintro ⟨i, _, h⟩ e
    rw [e, hasB_zero] at h; cases h

theorem andI_swap (x y : Int) : andI x y = andI y x :=
  ext64 _ _ (andI_I64 _ _) (andI_I64 _ _) (fun i hi => by rw [and_bit _ _ _ hi, and_bit _ _ _ hi, Bool.and_comm])

theorem rests_bit (n : Nat) (f : Nat → Int) (a b i : Nat) (hi : i < n) (hn : n ≤ 7) : hasB (restsI n f a b) i = (hasB (f a) i && (andI (f i) (f b) == 0)) := by
  unfold restsI meetI
  rw [andNot_bit _ _ _ (by omega), setOf_bit _ _ _ (by omega), decide_eq_true hi, Bool.true_and, andI_swap (f b) (f i)]
  congr 1
  simp [bne]

theorem rests_out {n : Nat} {f : Nat → Int} (hP : WorldP n f) {a b i : Nat} (ha : a < n) (hi : hasB (restsI n f a b) i = true) (h64 : i < 64) : i < n := by
  unfold restsI at hi
  rw [andNot_bit _ _ _ h64, Bool.and_eq_true] at hi
  exact hasB_lt (hP.rng a ha) hi.1

theorem rests_ne {n : Nat} {f : Nat → Int} (hP : WorldP n f) {a b : Nat} (ha : a < n) : (restsI n f a b != 0) = apB f a b n := by
  have hn := hP.hi
  rw [Bool.eq_iff_iff, nonzero_iff _ (by unfold restsI; exact andNot_I64 _ _)]
  unfold apB; rw [decide_eq_true_eq]
  constructor
  · rintro ⟨i, hi, h⟩
    have hin := rests_out hP ha h hi
    rw [rests_bit n f a b i hin hn, Bool.and_eq_true] at h
    exact ⟨i, hin, h.1, h.2⟩
  · rintro ⟨i, hin, h1, h2⟩
    exact ⟨i, by omega, by rw [rests_bit n f a b i hin hn, h1, h2]; rfl⟩

theorem each_of {n : Nat} {g : Nat → Nat → Bool} (h : ∀ a, a < n → ∀ c, c < n → g a c = true) : eachB n g = true := decide_eq_true (fun a ha c hc _ => h a ha c hc)
theorem each_no {n : Nat} {g : Nat → Nat → Bool} {a c : Nat} (ha : a < n) (hc : c < n) (hac : a ≠ c) (h : g a c = false) : eachB n g = false :=
  decide_eq_false (fun e => by have := e a ha c hc hac; rw [h] at this; cases this)
theorem each_iff {n : Nat} {g : Nat → Nat → Bool} : eachB n g = true ↔ ∀ a, a < n → ∀ c, c < n → a ≠ c → g a c = true := by
  unfold eachB; rw [decide_eq_true_eq]

theorem weakG_same (n : Nat) (f : Nat → Int) (a : Nat) : weakG n f a a = true := by unfold weakG neHas; rw [decide_eq_false (fun h => h rfl)]; rfl
theorem weakG_no {n : Nat} {f : Nat → Int} {a b : Nat} (h : hasB (f a) b = false) : weakG n f a b = true := by unfold weakG neHas; rw [h]; simp
theorem weakG_ap {n : Nat} {f : Nat → Int} (hP : WorldP n f) {a b : Nat} {v : Bool} (ha : a < n) (hab : b ≠ a) (h : hasB (f a) b = true) (hv : apB f a b n = v) : weakG n f a b = v := by
  unfold weakG neHas; rw [h, decide_eq_true hab, rests_ne hP ha, hv]; simp
theorem strongG_yes {n : Nat} {f : Nat → Int} {a b : Nat} (h : hasB (f b) a = true) : strongG n f a b = true := by unfold strongG; rw [h]; simp
theorem strongG_ap {n : Nat} {f : Nat → Int} (hP : WorldP n f) {a b : Nat} {v : Bool} (ha : a < n) (h : hasB (f b) a = false) (hv : apB f a b n = v) : strongG n f a b = v := by
  unfold strongG; rw [h, rests_ne hP ha, hv]; simp

theorem weakB_no {n : Nat} {f : Nat → Int} {a c : Nat} (_ : worldB n f = true) (ha : a < n) (hc : c < n) (hac : a ≠ c) (h : weakG n f a c = false) : weakB n f = false := by
  unfold weakB; rw [each_no ha hc hac h, Bool.and_false]
theorem weakB_of {n : Nat} {f : Nat → Int} (hw : worldB n f = true) (h : ∀ a, a < n → ∀ c, c < n → weakG n f a c = true) : weakB n f = true := by
  unfold weakB; rw [hw, each_of h]; rfl

set_option maxRecDepth 100000 in
set_option maxHeartbeats 3200000 in
theorem specWeakOk_in (b o n cap : Nat) (f : Nat → Int) (hg : worldB n f = true) (w : World) (hi : Ints w (some ⟨b, o, none⟩) n f) (hr : Row w b o n f) :
    Calls Tryd.prog 8 #[.slice (some ⟨b, o, none⟩) n cap] w fun e w' => e = .returned (.bool (weakB n f)) ∧ Drew w w' := by
  have h7 := (worldB_7 hg).2
  have HPW := Lib.hid (world_of hi hg)
  have HG := Lib.hid hg; have HN := Lib.hid hi; have HR := Lib.hid hr; clear hg hi hr
  go_enter Tryd.func8, Tryd.ntmps8
  go_wp2_with fail
  refine (specWorldOk_val _ _ _ f true _ HG.out HN.out).mono ?_
  rintro e w0 ⟨rfl, hd0⟩
  go_wp2_with fail
  go_loopw [3] (fun i wr => ∃ k : Nat, k ≤ n ∧ i = .int .i64 k ∧ Hid (∀ a, a < k → ∀ c, c < n → weakG n f a c = true) ∧ Drew w wr) (fun i _ => n - (intOf i).toNat)
  case atStart => exact ⟨0, Nat.zero_le _, rfl, fun a ha => absurd ha (Nat.not_lt_zero _), hd0⟩
  case round =>
    clear hd0
    obtain ⟨k, hk, rfl, hall, hd⟩ := hrel
    by_cases hlt : k < n
    · go_wp2_with fail
      go_loopw [4] (fun i wr => ∃ j : Nat, j ≤ n ∧ i = .int .i64 j ∧ Hid (∀ c, c < j → weakG n f k c = true) ∧ Drew w wr) (fun i _ => n - (intOf i).toNat)
      case atStart => exact ⟨0, Nat.zero_le _, rfl, fun a ha => absurd ha (Nat.not_lt_zero _), hd⟩
      case round =>
        clear hd
        obtain ⟨j, hj, rfl, hin, hd⟩ := hrel
        by_cases hjn : j < n
        · have hrr0 : Row wr b o n f := by obtain ⟨m, rfl⟩ := hd; exact HR.out.drewN m
          have ck0 := hrr0 k hlt
          have cj0 := hrr0 j hjn
          have hnn0 := (HPW.out.rng k hlt).1
          clear hrr0
          by_cases hjk : j = k
          · subst hjk
            have heq : ((j : Int) == (j : Int)) = true := by simp
            have HG2 := Lib.hid (weakG_same n f j)
            clear ck0 cj0
            go_wp2_with fail
            go_roundw
            case rel => exact ⟨j + 1, by omega, by go_num, fun c hc => by
              by_cases hcj : c = j
              · subst hcj; exact HG2.out
              · exact hin c (by omega), hd⟩
            case measure => simp [intOf]; omega
          · have heq : ((j : Int) == (k : Int)) = false := by rw [beq_eq_false_iff_ne]; omega
            have hnot : ∀ (x : Bool) (w : World), (Op.unary .not (.bool x)).run Tryd.prog w = .ok (.bool (!x)) w := fun _ _ => rfl
            cases hh : hasB (f k) j with
            | false =>
              have HH := Lib.hid hh; clear hh
              have HG2 := Lib.hid (weakG_no (n := n) HH.out)
              go_wp2_with fail
              refine (l1Has_val _ _ false _ HH.out (by omega) hnn0).mono ?_
              rintro e w' ⟨rfl, rfl⟩
              go_wp2_with fail
              go_roundw
              case rel => exact ⟨j + 1, by omega, by go_num, fun c hc => by
                by_cases hcj : c = j
                · subst hcj; exact HG2.out
                · exact hin c (by omega), hd⟩
              case measure => simp [intOf]; omega
            | true =>
              have hhX := Lib.hid hh; clear hh
              go_wp2_with fail
              refine (l1Has_val _ _ true _ hhX.out (by omega) hnn0).mono ?_
              rintro e w' ⟨rfl, rfl⟩
              go_wp2_with fail
              clear ck0 cj0 hnn0 heq hnot
              have HJ := Lib.hid hd; clear hd
              go_loopw [5, 6] (fun v i wr => ∃ m : Nat, m ≤ n ∧ i = .int .i64 m ∧ v = .bool (apB f k j m) ∧ Drew w wr) (fun _ i _ => n - (intOf i).toNat)
              case atStart => exact ⟨0, Nat.zero_le _, rfl, by rw [apB_zero], HJ.out⟩
              case round =>
                clear HJ
                obtain ⟨m, hm, rfl, rfl, hd⟩ := hrel
                by_cases hmn : m < n
                · have hrr : Row wr b o n f := by obtain ⟨m, rfl⟩ := hd; exact HR.out.drewN m
                  have ck := hrr k hlt
                  have cj := hrr j hjn
                  have cm := hrr m hmn
                  have hkn : (k : Int) < (n : Int) := by omega
                  have hjn' : (j : Int) < (n : Int) := by omega
                  have hmn' : (m : Int) < (n : Int) := by omega
                  have hnn := (HPW.out.rng k hlt).1
                  clear hrr
                  cases hap : apB f k j m with
                  | true =>
                    have HS := Lib.hid (apB_old hap); clear hap
                    go_wp2_with fail
                    go_quiet (fail)
                    go_wp2_with fail
                    go_roundw
                    case rel => exact ⟨m + 1, by omega, by go_num, by rw [HS.out], hd.more _⟩
                    case measure => simp [intOf]; omega
                  | false =>
                    cases hh : hasB (f k) m with
                    | false =>
                      have HS := Lib.hid (apB_not hap hh); have HH := Lib.hid hh; clear hap hh
                      go_wp2_with fail
                      go_quiet ((go_at_call 24; exact quiet_left (l1Has_val _ _ false _ HH.out (by omega) hnn)))
                      go_wp2_with fail
                      go_roundw
                      case rel => exact ⟨m + 1, by omega, by go_num, by rw [HS.out], hd.more _⟩
                      case measure => simp [intOf]; omega
                    | true =>
                      cases hz : (andI (f m) (f j) == 0) with
                      | true =>
                        have HS := Lib.hid (apB_new hh hz); have HH := Lib.hid hh; have HZ := Lib.hid hz; clear hap hh hz
                        go_wp2_with fail
                        go_quiet ((go_at_call 24; exact quiet_left (l1Has_val _ _ true _ HH.out (by omega) hnn)))
                        go_wp2_with fail
                        go_roundw
                        case rel => exact ⟨m + 1, by omega, by go_num, by rw [HS.out]; exact congrArg Value.bool HZ.out, hd.more _⟩
                        case measure => simp [intOf]; omega
                      | false =>
                        have HS := Lib.hid (apB_meets hap hz); have HH := Lib.hid hh; have HZ := Lib.hid hz; clear hap hh hz
                        go_wp2_with fail
                        go_quiet ((go_at_call 24; exact quiet_left (l1Has_val _ _ true _ HH.out (by omega) hnn)))
                        go_wp2_with fail
                        go_roundw
                        case rel => exact ⟨m + 1, by omega, by go_num, by rw [HS.out]; exact congrArg Value.bool HZ.out, hd.more _⟩
                        case measure => simp [intOf]; omega
                · have hme : m = n := by omega
                  subst hme
                  cases hap : apB f k j m with
                  | true =>
                    have HG2 := Lib.hid (weakG_ap HPW.out hlt hjk hhX.out hap); clear hap
                    go_wp2_with fail
                    go_roundw
                    case rel => exact ⟨j + 1, by omega, by go_num, fun c hc => by
                      by_cases hcj : c = j
                      · subst hcj; exact HG2.out
                      · exact hin c (by omega), hd⟩
                    case measure => simp [intOf]; omega
                  | false =>
                    have HF := Lib.hid (weakB_no HG.out hlt hjn (fun e => hjk e.symm) (weakG_ap HPW.out hlt hjk hhX.out hap)); clear hap
                    go_wp2_with fail
                    go_ret
                    exact ⟨retb HF.out.symm, hd⟩
        · go_wp2_with fail
          go_roundw
          case rel => exact ⟨k + 1, by omega, by go_num, fun a ha c hc => by
            by_cases hak : a = k
            · subst hak; exact hin c (by omega)
            · exact hall a (by omega) c hc, hd⟩
          case measure => simp [intOf]; omega
    · have HF := Lib.hid (weakB_of HG.out (fun a ha c hc => hall a (by omega) c hc))
      go_wp2_with fail
      go_ret
      exact ⟨retb HF.out.symm, hd⟩

theorem specWeakOk_any (a : Option Addr) (n cap : Nat) (f : Nat → Int) (w : World) (hi : Ints w a n f) :
    Calls Tryd.prog 8 #[.slice a n cap] w fun e w' => e = .returned (.bool (weakB n f)) ∧ Drew w w' := by
  cases hg : worldB n f with
  | true =>
    obtain ⟨b, o, rfl, hlt, hr⟩ := hi.row (worldB_7 hg).1
    exact specWeakOk_in b o n cap f hg w hi hr
  | false =>
    have hfin : weakB n f = false := by unfold weakB; rw [hg]; rfl
    have HF := Lib.hid hfin; have HG := Lib.hid hg; have HN := Lib.hid hi; clear hfin hg hi
    have hn := HN.out.1.1
    go_enter Tryd.func8, Tryd.ntmps8
    go_wp2_with fail
    refine (specWorldOk_val _ _ _ f false _ HG.out HN.out).mono ?_
    rintro e w' ⟨rfl, m0, rfl⟩
    go_wp2_with fail
    go_ret
    exact ⟨retb HF.out.symm, _, rfl⟩

theorem strongB_no {n : Nat} {f : Nat → Int} {a c : Nat} (_ : worldB n f = true) (ha : a < n) (hc : c < n) (hac : a ≠ c) (h : strongG n f a c = false) : strongB n f = false := by
  unfold strongB; rw [each_no ha hc hac h, Bool.and_false]
theorem strongB_of {n : Nat} {f : Nat → Int} (hw : worldB n f = true) (h : ∀ a, a < n → ∀ c, c < n → strongG n f a c = true) : strongB n f = true := by
  unfold strongB; rw [hw, each_of h]; rfl

end Go.Proofs.YtidcfcjmjgcfkaaDoor
