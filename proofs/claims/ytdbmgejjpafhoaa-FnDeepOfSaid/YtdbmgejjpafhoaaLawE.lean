import Derived.Test.YtdbmgejjpafhoaaLawA
import Derived.Test.YtdbmgejjpafhoaaSpecDeep
import Derived.Test.YtdbmgejjpafhoaaSpecWholes
namespace Go.Proofs.Ytdbmgejjpafhoaa
open Go.RowKit

theorem card_full (x : Int) (k : Nat) (h : card x k = k) : ∀ i, i < k → hasB x i = true := by
  induction k with
  | zero => intro i hi; omega
  | succ k ih =>
    rw [card] at h
    have h1 := card_le x k
    by_cases hx : hasB x k = true
    · rw [if_pos hx] at h
      intro i hi
      by_cases e : i = k
      · subst e; exact hx
      · exact ih (by omega) i (by omega)
    · rw [if_neg hx] at h; omega

theorem card_all (x : Int) (k : Nat) (h : ∀ i, i < k → hasB x i = true) : card x k = k := by
  induction k with
  | zero => rfl
  | succ k ih => rw [card, ih (fun i hi => h i (by omega)), if_pos (h k (by omega))]

/-- one number more at most -/
theorem card_one (x y : Int) (b k : Nat) (h : ∀ i, i < k → hasB y i = true → hasB x i = true ∨ i = b) : card y k ≤ card x k + (if b < k then 1 else 0) := by
  induction k with
  | zero => exact Nat.le_add_right _ _
  | succ k ih =>
    have := ih (fun i hi => h i (by omega))
    rw [card, card]
    by_cases hy : hasB y k = true
    · rw [if_pos hy]
      rcases h k (by omega) hy with hx | e
      · rw [if_pos hx]
        split at this <;> split <;> omega
      · subst e
        rw [if_neg (Nat.lt_irrefl _)] at this
        rw [if_pos (Nat.lt_succ_self _)]
        omega
    · rw [if_neg hy]
      split at this <;> (repeat' split) <;> omega

theorem card_zero (k : Nat) : card 0 k = 0 := by
  induction k with
  | zero => rfl
  | succ k ih => rw [card, ih, hasB_zero]; rfl

theorem exists_max (p : Nat → Prop) (g : Nat → Nat) (n : Nat) (h : ∃ i, i < n ∧ p i) : ∃ i, i < n ∧ p i ∧ ∀ j, j < n → p j → g j ≤ g i := by
  induction n with
  | zero => obtain ⟨i, hi, _⟩ := h; omega
  | succ n ih =>
    by_cases hn : ∃ i, i < n ∧ p i
    · obtain ⟨i, hi, hp, hm⟩ := ih hn
      by_cases hpn : p n
      · by_cases hg : g i ≤ g n
        · refine ⟨n, by omega, hpn, fun j hj hpj => ?_⟩
          by_cases e : j = n
          · subst e; exact Nat.le_refl _
          · exact Nat.le_trans (hm j (by omega) hpj) hg
        · refine ⟨i, by omega, hp, fun j hj hpj => ?_⟩
          by_cases e : j = n
          · subst e; omega
          · exact hm j (by omega) hpj
      · refine ⟨i, by omega, hp, fun j hj hpj => ?_⟩
        by_cases e : j = n
        · subst e; exact absurd hpj hpn
        · exact hm j (by omega) hpj
    · obtain ⟨i, hi, hp⟩ := h
      have hin : i = n := by
        apply Classical.byContradiction; intro e; exact hn ⟨i, by omega, hp⟩
      subst hin
      refine ⟨i, by omega, hp, fun j hj hpj => ?_⟩
      by_cases e : j = i
      · subst e; exact Nat.le_refl _
      · exact absurd ⟨j, by omega, hpj⟩ hn

theorem flat_iff {n : Nat} {f : Nat → Int} (hP : WorldP n f) : deepI n f = 1 ↔ ∀ a, a < n → ∀ b, b < n → neHas (f b) a b = false := by
  constructor
  · intro h a ha b hb
    cases hn : neHas (f b) a b with
    | false => rfl
    | true =>
      have h1 := dep_step hP ha hb hn
      have h2 := dep_pos hP ha
      have h3 := dep_deepI (n := n) (f := f) hb
      omega
  · intro h
    obtain ⟨b, hb, he⟩ := deepI_has hP
    have h1 := dep_pos hP hb
    by_cases h2 : 2 ≤ dep n f b
    · obtain ⟨a, ha, hab, _⟩ := dep_from hP hb h2
      rw [h a ha b hb] at hab; cases hab
    · omega

theorem chain_down {n : Nat} {f : Nat → Int} (hP : WorldP n f) (m : Nat) : ∀ b, b < n → card (f b) n ≤ m → dep n f b = card (f b) n →
    ∀ i, i < n → ∀ j, j < n → hasB (f b) i = true → hasB (f b) j = true → hasB (f j) i = true ∨ hasB (f i) j = true := by
  induction m with
  | zero =>
    intro b hb hm
    have := card_lt 0 (f b) n b hb (fun i _ h => by rw [hasB_zero] at h; cases h) (hasB_zero b) (hP.self b hb)
    omega
  | succ m ih =>
    intro b hb hm hd i hi j hj hbi hbj
    by_cases ei : i = b
    · subst ei; exact .inr hbj
    by_cases ej : j = b
    · subst ej; exact .inl hbi
    have hni : neHas (f b) i b = true := (neHas_iff _ _ _).2 ⟨ei, hbi⟩
    have h2 : 2 ≤ dep n f b := by
      have := dep_step hP hi hb hni
      have := dep_pos hP hi
      omega
    obtain ⟨a, ha, hab, he⟩ := dep_from hP hb h2
    have hca := card_proper hP ha hb hab
    have hda := dep_card hP _ a ha (Nat.le_refl _)
    have hina : ∀ q, q < n → hasB (f b) q = true → q ≠ b → hasB (f a) q = true := by
      intro q hq hbq hqb
      apply Classical.byContradiction; intro hno
      have hno' : hasB (f a) q = false := by simpa using hno
      obtain ⟨_, hba⟩ := (neHas_iff _ _ _).1 hab
      -- the set of the part, and q, and b
      have h1 : card (f a) n < card (orI (f a) (2 ^ q)) n := card_lt _ _ n q hq (fun r hr h => by rw [or_bit _ _ _ (by have := hP.hi; omega), h]; rfl) hno' (by rw [or_bit _ _ _ (by have := hP.hi; omega), hasB_pow]; simp)
      have h2 : card (orI (f a) (2 ^ q)) n < card (f b) n := by
        refine card_lt _ _ n b hb (fun r hr h => ?_) ?_ (hP.self b hb)
        · rw [or_bit _ _ _ (by have := hP.hi; omega), hasB_pow, Bool.or_eq_true] at h
          rcases h with h | h
          · exact hP.trans b hb a ha hba r h
          · have : q = r := by simpa using h
            subst this; exact hbq
        · rw [or_bit _ _ _ (by have := hP.hi; omega), hasB_pow]
          have hab2 := ((neHas_iff _ _ _).1 hab).1
          rw [hP.anti b hb a ha (fun e => hab2 e.symm) hba]
          simp; exact hqb
      omega
    exact ih a ha (by omega) (by omega) i hi j hj (hina i hi hbi ei) (hina j hj hbj ej)

theorem chain_up {n : Nat} {f : Nat → Int} (hP : WorldP n f) (ht : ∀ a, a < n → ∀ b, b < n → hasB (f b) a = true ∨ hasB (f a) b = true) (m : Nat) : ∀ b, b < n → card (f b) n ≤ m → (card (f b) n : Int) ≤ dep n f b := by
  induction m with
  | zero => intro b hb hm; have := dep_pos hP hb; omega
  | succ m ih =>
    intro b hb hm
    by_cases hex : ∃ a, a < n ∧ neHas (f b) a b = true
    · obtain ⟨a, ha, hab, hmax⟩ := exists_max (fun a => neHas (f b) a b = true) (fun a => card (f a) n) n hex
      have hin : ∀ i, i < n → hasB (f b) i = true → hasB (f a) i = true ∨ i = b := by
        intro i hi hbi
        by_cases e : i = b
        · exact .inr e
        · left
          have hib : neHas (f b) i b = true := (neHas_iff _ _ _).2 ⟨e, hbi⟩
          rcases ht i hi a ha with h | h
          · exact h
          · by_cases e2 : a = i
            · subst e2; exact hP.self a ha
            · have := card_proper hP ha hi ((neHas_iff _ _ _).2 ⟨e2, h⟩)
              have := hmax i hi hib
              omega
      have h1 := card_one (f a) (f b) b n hin
      rw [if_pos hb] at h1
      have h2 := card_proper hP ha hb hab
      have h3 := ih a ha (by omega)
      have h4 := dep_step hP ha hb hab
      omega
    · have h1 := card_one 0 (f b) b n (fun i hi hbi => by
        right
        apply Classical.byContradiction; intro e
        exact hex ⟨i, hi, (neHas_iff _ _ _).2 ⟨e, hbi⟩⟩)
      rw [if_pos hb, card_zero] at h1
      have := dep_pos hP hb
      omega

theorem chain_iff {n : Nat} {f : Nat → Int} (hP : WorldP n f) : deepI n f = n ↔ ∀ a, a < n → ∀ b, b < n → (hasB (f b) a || hasB (f a) b) = true := by
  constructor
  · intro h a ha b hb
    obtain ⟨t, ht, he⟩ := deepI_has hP
    have h1 := dep_card hP _ t ht (Nat.le_refl _)
    have h2 := card_le (f t) n
    have hfull := card_full (f t) n (by omega)
    have := chain_down hP _ t ht (Nat.le_refl _) (by omega) a ha b hb (hfull a ha) (hfull b hb)
    rw [Bool.or_eq_true]; exact this
  · intro h
    have ht : ∀ a, a < n → ∀ b, b < n → hasB (f b) a = true ∨ hasB (f a) b = true := fun a ha b hb => by
      have := h a ha b hb; rw [Bool.or_eq_true] at this; exact this
    obtain ⟨t, htn, _, hmax⟩ := exists_max (fun _ => True) (fun a => card (f a) n) n ⟨0, hP.lo, trivial⟩
    have hall : ∀ i, i < n → hasB (f t) i = true := by
      intro i hi
      rcases ht i hi t htn with h | h
      · exact h
      · by_cases e : t = i
        · subst e; exact hP.self t htn
        · have := card_proper hP htn hi ((neHas_iff _ _ _).2 ⟨e, h⟩)
          have := hmax i hi trivial
          omega
    have h1 := chain_up hP ht _ t htn (Nat.le_refl _)
    rw [card_all _ _ hall] at h1
    have h2 := dep_deepI (n := n) (f := f) htn
    have h3 := deepI_le (n := n) (f := f) n (by omega) (fun b hb => dep_le hP hb)
    omega

/-- what has been asked so far -/
def FlatR (m : Nat) (f : Nat → Int) (k j : Nat) (bb : Bool) : Prop :=
  bb = true ↔ (∀ a, a < k → ∀ b, b < m → neHas (f b) a b = false) ∧ ∀ b, b < j → neHas (f b) k b = false
def ChainR (m : Nat) (f : Nat → Int) (k j : Nat) (bb : Bool) : Prop :=
  bb = true ↔ (∀ a, a < k → ∀ b, b < m → (hasB (f b) a || hasB (f a) b) = true) ∧ ∀ b, b < j → (hasB (f b) k || hasB (f k) b) = true

theorem FlatR.start (m : Nat) (f : Nat → Int) : FlatR m f 0 0 true := ⟨fun _ => ⟨fun _ ha => absurd ha (Nat.not_lt_zero _), fun _ hb => absurd hb (Nat.not_lt_zero _)⟩, fun _ => rfl⟩
theorem ChainR.start (m : Nat) (f : Nat → Int) : ChainR m f 0 0 true := ⟨fun _ => ⟨fun _ ha => absurd ha (Nat.not_lt_zero _), fun _ hb => absurd hb (Nat.not_lt_zero _)⟩, fun _ => rfl⟩
theorem FlatR.next {m k : Nat} {f : Nat → Int} {bb : Bool} (h : FlatR m f k m bb) : FlatR m f (k + 1) 0 bb := by
  refine h.trans ⟨fun ⟨h1, h2⟩ => ⟨fun a ha b hb => ?_, fun b hb => absurd hb (Nat.not_lt_zero _)⟩, fun ⟨h1, _⟩ => ⟨fun a ha => h1 a (by omega), fun b hb => h1 k (by omega) b hb⟩⟩
  by_cases e : a = k
  · subst e; exact h2 b hb
  · exact h1 a (by omega) b hb
theorem ChainR.next {m k : Nat} {f : Nat → Int} {bb : Bool} (h : ChainR m f k m bb) : ChainR m f (k + 1) 0 bb := by
  refine h.trans ⟨fun ⟨h1, h2⟩ => ⟨fun a ha b hb => ?_, fun b hb => absurd hb (Nat.not_lt_zero _)⟩, fun ⟨h1, _⟩ => ⟨fun a ha => h1 a (by omega), fun b hb => h1 k (by omega) b hb⟩⟩
  by_cases e : a = k
  · subst e; exact h2 b hb
  · exact h1 a (by omega) b hb
theorem FlatR.step {m k j : Nat} {f : Nat → Int} {bb : Bool} (h : FlatR m f k j bb) (v : Bool) (hv : neHas (f j) k j = v) : FlatR m f k (j + 1) (bb && !v) := by
  constructor
  · intro hb
    rw [Bool.and_eq_true] at hb
    obtain ⟨h1, h2⟩ := h.1 hb.1
    refine ⟨h1, fun b hbj => ?_⟩
    by_cases e : b = j
    · subst e; rw [hv]; simpa using hb.2
    · exact h2 b (by omega)
  · rintro ⟨h1, h2⟩
    rw [Bool.and_eq_true]
    refine ⟨h.2 ⟨h1, fun b hb => h2 b (by omega)⟩, ?_⟩
    have := h2 j (by omega)
    rw [hv] at this; rw [this]; rfl
theorem ChainR.step {m k j : Nat} {f : Nat → Int} {bb : Bool} (h : ChainR m f k j bb) (v : Bool) (hv : (hasB (f j) k || hasB (f k) j) = v) : ChainR m f k (j + 1) (bb && v) := by
  constructor
  · intro hb
    rw [Bool.and_eq_true] at hb
    obtain ⟨h1, h2⟩ := h.1 hb.1
    refine ⟨h1, fun b hbj => ?_⟩
    by_cases e : b = j
    · subst e; rw [hv]; exact hb.2
    · exact h2 b (by omega)
  · rintro ⟨h1, h2⟩
    rw [Bool.and_eq_true]
    refine ⟨h.2 ⟨h1, fun b hb => h2 b (by omega)⟩, ?_⟩
    have := h2 j (by omega)
    rw [hv] at this; exact this

theorem DeepOf_val (a : Option Addr) (n cap : Nat) (f : Nat → Int) (v : Int) (w : World) (hv : deepB n f = v) (hi : Ints w a n f) :
    Calls Try.prog 38 #[.slice a n cap] w fun e w' => e = .returned (.int .i64 v) ∧ Below w.heap.size w w' := by
  subst hv; exact DeepOf_any a n cap f w hi
theorem specDeepOf_val (a : Option Addr) (n cap : Nat) (f : Nat → Int) (v : Int) (w : World) (hv : deepB n f = v) (hi : Ints w a n f) :
    Calls Try.prog 39 #[.slice a n cap] w fun e w' => e = .returned (.int .i64 v) ∧ Below w.heap.size w w' := by
  subst hv; exact specDeepOf_any a n cap f w hi

theorem part_at {n : Nat} {f : Nat → Int} (hw : worldB n f = true) {x y : Nat} (hx : x < n) (hy : y < n) : partB n f x y = hasB (f y) x := by
  unfold partB; rw [(good2_iff n f x y).2 ⟨hw, by omega, by omega⟩]; rfl
theorem proper_at {n : Nat} {f : Nat → Int} (hw : worldB n f = true) {x y : Nat} (hx : x < n) (hy : y < n) : properB n f x y = neHas (f y) x y := by
  unfold properB neHas; rw [part_at hw hx hy, Bool.and_comm]; congr 1; apply decide_eq_decide.2; omega

set_option maxHeartbeats 8000000 in
theorem lawDeepOf (a : Option Addr) (n cap : Nat) (w : World) (h : BytesIn w a n cap) :
    Calls Try.prog 9 #[.slice a n cap] w (TrueEnd w) := by
  have hlen := h.len
  have H := Lib.hid h; clear h
  by_cases hn : 1048576 < n
  · go_enter Try.func9, Try.ntmps9
    go_wp2_with fail
    go_ret
    exact ⟨rfl, Below.refl _ _⟩
  · go_enter Try.func9, Try.ntmps9
    go_wp2_with fail
    refine (DrawDeepOf_any _ _ _ _ H.out).mono ?_
    rintro e w1 ⟨d, m, c, f, rfl, hm, hi, hb1, hcap⟩
    have h64 := Lib.hid hi.i64
    cases hw : worldB m f with
    | false =>
      have hfin : deepB m f = -1 := by unfold deepB; rw [if_neg (by rw [hw]; decide)]
      have HV := Lib.hid hfin; have HW := Lib.hid hw; clear hfin hw
      go_wp2_with fail
      refine (DeepOf_val _ _ _ f (-1) _ HV.out hi).mono ?_
      rintro e w9 ⟨rfl, hb2⟩
      replace hi := hi.next hb2; replace hb1 := below_onto hb1 hb2; clear hb2
      go_wp2_with fail
      refine (specDeepOf_val _ _ _ f (-1) _ HV.out hi).mono ?_
      rintro e w9 ⟨rfl, hb2⟩
      replace hi := hi.next hb2; replace hb1 := below_onto hb1 hb2; clear hb2
      go_wp2_with fail
      refine (WorldOk_val _ _ _ f false _ HW.out hi).mono ?_
      rintro e w9 ⟨rfl, hb2⟩
      replace hi := hi.next hb2; replace hb1 := below_onto hb1 hb2; clear hb2
      go_wp2_with fail
      refine (alive_any _).mono ?_
      rintro e w9 ⟨rfl, hb2⟩
      replace hb1 := below_onto hb1 hb2; clear hb2
      go_wp2_with fail
      go_ret
      exact ⟨rfl, hb1⟩
    | true =>
      obtain ⟨h1, h7⟩ := worldB_7 hw
      have hP := Lib.hid ((worldB_iff m f h64.out).1 hw)
      have hfin : deepB m f = deepI m f := by unfold deepB; rw [if_pos hw]
      obtain ⟨D, hD⟩ : ∃ D, D = deepI m f := ⟨_, rfl⟩
      have hD0 : 1 ≤ D ∧ D ≤ 7 := by
        obtain ⟨t, ht, he⟩ := deepI_has hP.out
        have := dep_pos hP.out ht
        have := dep_le hP.out ht
        omega
      obtain ⟨hD1, hD2⟩ := hD0
      rw [← hD] at hfin
      have HV := Lib.hid hfin; have HW := Lib.hid hw; have HD := Lib.hid hD; clear hfin hw hD hcap
      go_wp2_with fail
      refine (DeepOf_val _ _ _ f D _ HV.out hi).mono ?_
      rintro e w9 ⟨rfl, hb2⟩
      replace hi := hi.next hb2; replace hb1 := below_onto hb1 hb2; clear hb2
      go_wp2_with fail
      refine (specDeepOf_val _ _ _ f D _ HV.out hi).mono ?_
      rintro e w9 ⟨rfl, hb2⟩
      replace hi := hi.next hb2; replace hb1 := below_onto hb1 hb2; clear hb2
      go_wp2_with fail
      go_loopw [5, 6, 7] (fun s t i wr => ∃ (k : Nat) (bf bc : Bool), k ≤ m ∧ i = .int .i64 k ∧ s = .bool bf ∧ t = .bool bc ∧ FlatR m f k 0 bf ∧ ChainR m f k 0 bc ∧ Ints wr d m f ∧ Below w.heap.size w wr) (fun _ _ i _ => m - (intOf i).toNat)
      case atStart => exact ⟨0, true, true, Nat.zero_le _, rfl, rfl, rfl, FlatR.start m f, ChainR.start m f, hi, hb1⟩
      case round =>
        clear hi hb1
        obtain ⟨k, bf, bc, hk, rfl, rfl, rfl, hfl, hch, hi, hb1⟩ := hrel
        by_cases hlt : k < m
        · go_wp2_with fail
          go_loopw [5, 6, 8] (fun s t i wr => ∃ (j : Nat) (bf bc : Bool), j ≤ m ∧ i = .int .i64 j ∧ s = .bool bf ∧ t = .bool bc ∧ FlatR m f k j bf ∧ ChainR m f k j bc ∧ Ints wr d m f ∧ Below w.heap.size w wr) (fun _ _ i _ => m - (intOf i).toNat)
          case atStart => exact ⟨0, bf, bc, Nat.zero_le _, rfl, rfl, rfl, hfl, hch, hi, hb1⟩
          case round =>
            clear hi hb1 hfl hch
            obtain ⟨j, bf, bc, hj, rfl, rfl, rfl, hfl, hch, hi, hb1⟩ := hrel
            by_cases hltj : j < m
            · have HPA := Lib.hid (proper_at HW.out hlt hltj)
              have HA := Lib.hid (part_at HW.out hlt hltj)
              have HB := Lib.hid (part_at HW.out hltj hlt)
              cases bf with
              | false =>
                cases bc with
                | false =>
                  go_wp2_with fail
                  go_roundw
                  case rel => exact ⟨j + 1, _, _, by omega, by go_num, rfl, rfl, hfl.step _ rfl, hch.step _ rfl, hi, hb1⟩
                  case measure => simp [intOf]; omega
                | true =>
                  cases h1 : hasB (f j) k with
                  | true =>
                    have HPK := Lib.hid (HA.out.trans h1)
                    have hcs : ChainR m f k (j + 1) true := hch.step true (by rw [h1]; rfl)
                    clear h1
                    go_wp2_with fail
                    refine (PartOk_val _ _ _ f k j true _ HPK.out hi).mono ?_
                    rintro e w9 ⟨rfl, hb2⟩
                    replace hi := hi.next hb2; replace hb1 := below_onto hb1 hb2; clear hb2
                    go_wp2_with fail
                    go_roundw
                    case rel => exact ⟨j + 1, _, _, by omega, by go_num, rfl, rfl, hfl.step _ rfl, hcs, hi, hb1⟩
                    case measure => simp [intOf]; omega
                  | false =>
                    cases h2 : hasB (f k) j with
                    | true =>
                      have HPK := Lib.hid (HA.out.trans h1); have HPJ := Lib.hid (HB.out.trans h2)
                      have hcs : ChainR m f k (j + 1) true := hch.step true (by rw [h1, h2]; rfl)
                      clear h1 h2
                      go_wp2_with fail
                      refine (PartOk_val _ _ _ f k j false _ HPK.out hi).mono ?_
                      rintro e w9 ⟨rfl, hb2⟩
                      replace hi := hi.next hb2; replace hb1 := below_onto hb1 hb2; clear hb2
                      go_wp2_with fail
                      refine (PartOk_val _ _ _ f j k true _ HPJ.out hi).mono ?_
                      rintro e w9 ⟨rfl, hb2⟩
                      replace hi := hi.next hb2; replace hb1 := below_onto hb1 hb2; clear hb2
                      go_wp2_with fail
                      go_roundw
                      case rel => exact ⟨j + 1, _, _, by omega, by go_num, rfl, rfl, hfl.step _ rfl, hcs, hi, hb1⟩
                      case measure => simp [intOf]; omega
                    | false =>
                      have HPK := Lib.hid (HA.out.trans h1); have HPJ := Lib.hid (HB.out.trans h2)
                      have hcs : ChainR m f k (j + 1) false := hch.step false (by rw [h1, h2]; rfl)
                      clear h1 h2
                      go_wp2_with fail
                      refine (PartOk_val _ _ _ f k j false _ HPK.out hi).mono ?_
                      rintro e w9 ⟨rfl, hb2⟩
                      replace hi := hi.next hb2; replace hb1 := below_onto hb1 hb2; clear hb2
                      go_wp2_with fail
                      refine (PartOk_val _ _ _ f j k false _ HPJ.out hi).mono ?_
                      rintro e w9 ⟨rfl, hb2⟩
                      replace hi := hi.next hb2; replace hb1 := below_onto hb1 hb2; clear hb2
                      go_wp2_with fail
                      go_roundw
                      case rel => exact ⟨j + 1, _, _, by omega, by go_num, rfl, rfl, hfl.step _ rfl, hcs, hi, hb1⟩
                      case measure => simp [intOf]; omega
              | true =>
                cases h0 : neHas (f j) k j with
                | true =>
                  have HPR := Lib.hid (HPA.out.trans h0)
                  have hfs : FlatR m f k (j + 1) false := hfl.step true h0
                  clear h0
                  cases bc with
                  | false =>
                    go_wp2_with fail
                    refine (ProperOk_val _ _ _ f k j true _ HPR.out hi).mono ?_
                    rintro e w9 ⟨rfl, hb2⟩
                    replace hi := hi.next hb2; replace hb1 := below_onto hb1 hb2; clear hb2
                    go_wp2_with fail
                    go_roundw
                    case rel => exact ⟨j + 1, _, _, by omega, by go_num, rfl, rfl, hfs, hch.step _ rfl, hi, hb1⟩
                    case measure => simp [intOf]; omega
                  | true =>
                    cases h1 : hasB (f j) k with
                    | true =>
                      have HPK := Lib.hid (HA.out.trans h1)
                      have hcs : ChainR m f k (j + 1) true := hch.step true (by rw [h1]; rfl)
                      clear h1
                      go_wp2_with fail
                      refine (ProperOk_val _ _ _ f k j true _ HPR.out hi).mono ?_
                      rintro e w9 ⟨rfl, hb2⟩
                      replace hi := hi.next hb2; replace hb1 := below_onto hb1 hb2; clear hb2
                      go_wp2_with fail
                      refine (PartOk_val _ _ _ f k j true _ HPK.out hi).mono ?_
                      rintro e w9 ⟨rfl, hb2⟩
                      replace hi := hi.next hb2; replace hb1 := below_onto hb1 hb2; clear hb2
                      go_wp2_with fail
                      go_roundw
                      case rel => exact ⟨j + 1, _, _, by omega, by go_num, rfl, rfl, hfs, hcs, hi, hb1⟩
                      case measure => simp [intOf]; omega
                    | false =>
                      cases h2 : hasB (f k) j with
                      | true =>
                        have HPK := Lib.hid (HA.out.trans h1); have HPJ := Lib.hid (HB.out.trans h2)
                        have hcs : ChainR m f k (j + 1) true := hch.step true (by rw [h1, h2]; rfl)
                        clear h1 h2
                        go_wp2_with fail
                        refine (ProperOk_val _ _ _ f k j true _ HPR.out hi).mono ?_
                        rintro e w9 ⟨rfl, hb2⟩
                        replace hi := hi.next hb2; replace hb1 := below_onto hb1 hb2; clear hb2
                        go_wp2_with fail
                        refine (PartOk_val _ _ _ f k j false _ HPK.out hi).mono ?_
                        rintro e w9 ⟨rfl, hb2⟩
                        replace hi := hi.next hb2; replace hb1 := below_onto hb1 hb2; clear hb2
                        go_wp2_with fail
                        refine (PartOk_val _ _ _ f j k true _ HPJ.out hi).mono ?_
                        rintro e w9 ⟨rfl, hb2⟩
                        replace hi := hi.next hb2; replace hb1 := below_onto hb1 hb2; clear hb2
                        go_wp2_with fail
                        go_roundw
                        case rel => exact ⟨j + 1, _, _, by omega, by go_num, rfl, rfl, hfs, hcs, hi, hb1⟩
                        case measure => simp [intOf]; omega
                      | false =>
                        have HPK := Lib.hid (HA.out.trans h1); have HPJ := Lib.hid (HB.out.trans h2)
                        have hcs : ChainR m f k (j + 1) false := hch.step false (by rw [h1, h2]; rfl)
                        clear h1 h2
                        go_wp2_with fail
                        refine (ProperOk_val _ _ _ f k j true _ HPR.out hi).mono ?_
                        rintro e w9 ⟨rfl, hb2⟩
                        replace hi := hi.next hb2; replace hb1 := below_onto hb1 hb2; clear hb2
                        go_wp2_with fail
                        refine (PartOk_val _ _ _ f k j false _ HPK.out hi).mono ?_
                        rintro e w9 ⟨rfl, hb2⟩
                        replace hi := hi.next hb2; replace hb1 := below_onto hb1 hb2; clear hb2
                        go_wp2_with fail
                        refine (PartOk_val _ _ _ f j k false _ HPJ.out hi).mono ?_
                        rintro e w9 ⟨rfl, hb2⟩
                        replace hi := hi.next hb2; replace hb1 := below_onto hb1 hb2; clear hb2
                        go_wp2_with fail
                        go_roundw
                        case rel => exact ⟨j + 1, _, _, by omega, by go_num, rfl, rfl, hfs, hcs, hi, hb1⟩
                        case measure => simp [intOf]; omega
                | false =>
                  have HPR := Lib.hid (HPA.out.trans h0)
                  have hfs : FlatR m f k (j + 1) true := hfl.step false h0
                  clear h0
                  cases bc with
                  | false =>
                    go_wp2_with fail
                    refine (ProperOk_val _ _ _ f k j false _ HPR.out hi).mono ?_
                    rintro e w9 ⟨rfl, hb2⟩
                    replace hi := hi.next hb2; replace hb1 := below_onto hb1 hb2; clear hb2
                    go_wp2_with fail
                    go_roundw
                    case rel => exact ⟨j + 1, _, _, by omega, by go_num, rfl, rfl, hfs, hch.step _ rfl, hi, hb1⟩
                    case measure => simp [intOf]; omega
                  | true =>
                    cases h1 : hasB (f j) k with
                    | true =>
                      have HPK := Lib.hid (HA.out.trans h1)
                      have hcs : ChainR m f k (j + 1) true := hch.step true (by rw [h1]; rfl)
                      clear h1
                      go_wp2_with fail
                      refine (ProperOk_val _ _ _ f k j false _ HPR.out hi).mono ?_
                      rintro e w9 ⟨rfl, hb2⟩
                      replace hi := hi.next hb2; replace hb1 := below_onto hb1 hb2; clear hb2
                      go_wp2_with fail
                      refine (PartOk_val _ _ _ f k j true _ HPK.out hi).mono ?_
                      rintro e w9 ⟨rfl, hb2⟩
                      replace hi := hi.next hb2; replace hb1 := below_onto hb1 hb2; clear hb2
                      go_wp2_with fail
                      go_roundw
                      case rel => exact ⟨j + 1, _, _, by omega, by go_num, rfl, rfl, hfs, hcs, hi, hb1⟩
                      case measure => simp [intOf]; omega
                    | false =>
                      cases h2 : hasB (f k) j with
                      | true =>
                        have HPK := Lib.hid (HA.out.trans h1); have HPJ := Lib.hid (HB.out.trans h2)
                        have hcs : ChainR m f k (j + 1) true := hch.step true (by rw [h1, h2]; rfl)
                        clear h1 h2
                        go_wp2_with fail
                        refine (ProperOk_val _ _ _ f k j false _ HPR.out hi).mono ?_
                        rintro e w9 ⟨rfl, hb2⟩
                        replace hi := hi.next hb2; replace hb1 := below_onto hb1 hb2; clear hb2
                        go_wp2_with fail
                        refine (PartOk_val _ _ _ f k j false _ HPK.out hi).mono ?_
                        rintro e w9 ⟨rfl, hb2⟩
                        replace hi := hi.next hb2; replace hb1 := below_onto hb1 hb2; clear hb2
                        go_wp2_with fail
                        refine (PartOk_val _ _ _ f j k true _ HPJ.out hi).mono ?_
                        rintro e w9 ⟨rfl, hb2⟩
                        replace hi := hi.next hb2; replace hb1 := below_onto hb1 hb2; clear hb2
                        go_wp2_with fail
                        go_roundw
                        case rel => exact ⟨j + 1, _, _, by omega, by go_num, rfl, rfl, hfs, hcs, hi, hb1⟩
                        case measure => simp [intOf]; omega
                      | false =>
                        have HPK := Lib.hid (HA.out.trans h1); have HPJ := Lib.hid (HB.out.trans h2)
                        have hcs : ChainR m f k (j + 1) false := hch.step false (by rw [h1, h2]; rfl)
                        clear h1 h2
                        go_wp2_with fail
                        refine (ProperOk_val _ _ _ f k j false _ HPR.out hi).mono ?_
                        rintro e w9 ⟨rfl, hb2⟩
                        replace hi := hi.next hb2; replace hb1 := below_onto hb1 hb2; clear hb2
                        go_wp2_with fail
                        refine (PartOk_val _ _ _ f k j false _ HPK.out hi).mono ?_
                        rintro e w9 ⟨rfl, hb2⟩
                        replace hi := hi.next hb2; replace hb1 := below_onto hb1 hb2; clear hb2
                        go_wp2_with fail
                        refine (PartOk_val _ _ _ f j k false _ HPJ.out hi).mono ?_
                        rintro e w9 ⟨rfl, hb2⟩
                        replace hi := hi.next hb2; replace hb1 := below_onto hb1 hb2; clear hb2
                        go_wp2_with fail
                        go_roundw
                        case rel => exact ⟨j + 1, _, _, by omega, by go_num, rfl, rfl, hfs, hcs, hi, hb1⟩
                        case measure => simp [intOf]; omega
            · have hjm : j = m := by omega
              have HJ := Lib.hid hjm; clear hjm
              go_wp2_with fail
              go_roundw
              case rel => exact ⟨k + 1, bf, bc, by omega, by go_num, rfl, rfl, by
                have := HJ.out; subst this; exact hfl.next, by
                have := HJ.out; subst this; exact hch.next, hi, hb1⟩
              case measure => simp [intOf]; omega
        · have hkm : k = m := by omega
          have e1 : (D == 1) = bf := by
            rw [Bool.eq_iff_iff, beq_iff_eq, HD.out, flat_iff hP.out]
            subst hkm
            exact ⟨fun h => hfl.2 ⟨h, fun b hb => absurd hb (Nat.not_lt_zero _)⟩, fun h => (hfl.1 h).1⟩
          have e2 : (D == (m : Int)) = bc := by
            rw [Bool.eq_iff_iff, beq_iff_eq, HD.out, chain_iff hP.out]
            subst hkm
            exact ⟨fun h => hch.2 ⟨h, fun b hb => absurd hb (Nat.not_lt_zero _)⟩, fun h => (hch.1 h).1⟩
          clear hkm
          cases bf with
          | true =>
            cases bc with
            | true =>
              go_wp2_with fail
              go_ret
              exact ⟨rfl, hb1⟩
            | false =>
              go_wp2_with fail
              go_ret
              exact ⟨rfl, hb1⟩
          | false =>
            cases bc with
            | true =>
              go_wp2_with fail
              go_ret
              exact ⟨rfl, hb1⟩
            | false =>
              go_wp2_with fail
              go_ret
              exact ⟨rfl, hb1⟩
end Go.Proofs.Ytdbmgejjpafhoaa
