import Derived.Test.YtdbmgejjpafhoaaLawC
namespace Go.Proofs.Ytdbmgejjpafhoaa
open Go.RowKit

theorem meet_part {n : Nat} {f : Nat → Int} (hP : WorldP n f) {x b : Nat} (hx : x < n) (hb : b < n) (h : hasB (f b) x = true) : bits .or .i64 (meetI n f b) (meetI n f x) = meetI n f b := by
  refine (or_eq_iff _ _ (rng_I64 (meet_rng n f b hP.hi))).2 ?_
  intro i hi h1
  rw [meet_bit n f x i hi, Bool.and_eq_true, bne_iff_ne, decide_eq_true_eq] at h1
  rw [meet_bit n f b i hi, decide_eq_true h1.1, Bool.true_and, bne_iff_ne]
  intro h0
  apply h1.2
  rw [and_zero_iff] at h0 ⊢
  intro j hj hxj
  exact h0 j hj (hP.trans b hb x hx h j hxj)

theorem meet_parts {n : Nat} {f : Nat → Int} (hP : WorldP n f) {x : Nat} (hx : x < n) : bits .or .i64 (meetI n f x) (f x) = meetI n f x := by
  refine (or_eq_iff _ _ (rng_I64 (meet_rng n f x hP.hi))).2 ?_
  intro i hi h1
  have hin := hasB_lt (hP.rng x hx) h1
  rw [meet_bit n f x i hi, decide_eq_true hin, Bool.true_and, bne_iff_ne]
  intro h0
  rw [and_zero_iff] at h0
  have := h0 i hi h1
  rw [hP.self i hin] at this; cases this

theorem meet_wholes {n : Nat} {f : Nat → Int} (hP : WorldP n f) {x : Nat} (hx : x < n) : bits .or .i64 (meetI n f x) (wholesI n f x) = meetI n f x := by
  refine (or_eq_iff _ _ (rng_I64 (meet_rng n f x hP.hi))).2 ?_
  intro i hi h1
  rw [wholes_bit n f x i hi, Bool.and_eq_true, decide_eq_true_eq] at h1
  rw [meet_bit n f x i hi, decide_eq_true h1.1, Bool.true_and, bne_iff_ne]
  intro h0
  rw [and_zero_iff] at h0
  have := h0 x (by have := hP.hi; omega) (hP.self x hx)
  rw [h1.2] at this; cases this

set_option maxHeartbeats 8000000 in
theorem lawMeetingSet (a : Option Addr) (n cap : Nat) (w : World) (h : BytesIn w a n cap) :
    Calls Try.prog 8 #[.slice a n cap] w (TrueEnd w) := by
  have hlen := h.len
  have H := Lib.hid h; clear h
  by_cases hn : 1048576 < n
  · go_enter Try.func8, Try.ntmps8
    go_wp2_with fail
    go_ret
    exact ⟨rfl, Below.refl _ _⟩
  · go_enter Try.func8, Try.ntmps8
    go_wp2_with fail
    refine (DrawMeetingSet_any _ _ _ _ H.out).mono ?_
    rintro e w1 ⟨d, m, c, f, x, rfl, hm, hx64, hi, hb1⟩
    have h64 := Lib.hid hi.i64
    obtain ⟨hx1, hx2⟩ := hx64
    cases hg : good1 m f x with
    | false =>
      have hfin : meetB m f x = -1 := by unfold meetB; rw [if_neg (by rw [hg]; decide)]
      have HV := Lib.hid hfin; clear hfin hg
      go_wp2_with fail
      refine (MeetingSet_val _ _ _ f x (-1) _ HV.out hi).mono ?_
      rintro e w9 ⟨rfl, hb2⟩
      replace hi := hi.next hb2; replace hb1 := below_onto hb1 hb2; clear hb2
      go_wp2_with fail
      refine (specMeetingSet_val _ _ _ f x (-1) _ HV.out hi).mono ?_
      rintro e w9 ⟨rfl, hd3⟩
      replace hi := hi.drew hd3; replace hb1 := below_onto hb1 hd3.below; clear hd3
      go_wp2_with fail
      refine (alive_any _).mono ?_
      rintro e w9 ⟨rfl, hb2⟩
      replace hb1 := below_onto hb1 hb2; clear hb2
      go_wp2_with fail
      go_ret
      exact ⟨rfl, hb1⟩
    | true =>
      obtain ⟨hwb, hx0, hx1'⟩ := (good1_iff m f x).1 hg
      have hP := Lib.hid ((worldB_iff m f h64.out).1 hwb)
      have h7 := (worldB_7 hwb).2
      obtain ⟨X, rfl⟩ := Int.eq_ofNat_of_zero_le hx0
      have hfin := meetB_in hg
      have hrg := meet_rng m f X h7
      have HG := Lib.hid hg
      have HV := Lib.hid hfin
      have HM := Lib.hid (meet_parts hP.out (show X < m by omega))
      have HMW := Lib.hid (meet_wholes hP.out (show X < m by omega))
      clear hfin hg hwb hx0
      obtain ⟨hr0, hr1⟩ := hrg
      go_wp2_with fail
      refine (MeetingSet_val _ _ _ f X _ _ HV.out hi).mono ?_
      rintro e w9 ⟨rfl, hb2⟩
      replace hi := hi.next hb2; replace hb1 := below_onto hb1 hb2; clear hb2
      go_wp2_with fail
      refine (specMeetingSet_val _ _ _ f X _ _ HV.out hi).mono ?_
      rintro e w9 ⟨rfl, hd3⟩
      replace hi := hi.drew hd3; replace hb1 := below_onto hb1 hd3.below; clear hd3
      go_wp2_with fail
      go_loopw [6] (fun i wr => ∃ k : Nat, k ≤ m ∧ i = .int .i64 k ∧ Ints wr d m f ∧ Below w.heap.size w wr) (fun i _ => m - (intOf i).toNat)
      case atStart => exact ⟨0, Nat.zero_le _, rfl, hi, hb1⟩
      case round =>
        clear hi hb1
        obtain ⟨k, hk, rfl, hi, hb1⟩ := hrel
        by_cases hlt : k < m
        · have hgk : good1 m f k = true := (good1_iff m f k).2 ⟨((good1_iff m f X).1 HG.out).1, by omega, by omega⟩
          have hpe : partB m f X k = hasB (f k) X := by
            unfold partB; rw [(good2_iff m f X k).2 ⟨((good1_iff m f X).1 HG.out).1, by omega, by omega⟩]; rfl
          cases hb : hasB (f k) X with
          | true =>
            have hor := meet_part hP.out (show X < m by omega) hlt hb
            have hne : (bits .or .i64 (meetI m f k) (meetI m f X) != meetI m f k) = false := by rw [bne_eq_false_iff_eq]; exact hor
            have HPT := Lib.hid (hpe.trans hb); have HGK := Lib.hid hgk
            clear hb hor hgk hpe
            go_wp2_with fail
            refine (PartOk_val _ _ _ f X k true _ HPT.out hi).mono ?_
            rintro e w9 ⟨rfl, hb2⟩
            replace hi := hi.next hb2; replace hb1 := below_onto hb1 hb2; clear hb2
            go_wp2_with fail
            refine (MeetingSet_val _ _ _ f k _ _ (meetB_in HGK.out) hi).mono ?_
            rintro e w9 ⟨rfl, hb2⟩
            replace hi := hi.next hb2; replace hb1 := below_onto hb1 hb2; clear hb2
            go_wp2_with fail
            refine (MeetingSet_val _ _ _ f k _ _ (meetB_in HGK.out) hi).mono ?_
            rintro e w9 ⟨rfl, hb2⟩
            replace hi := hi.next hb2; replace hb1 := below_onto hb1 hb2; clear hb2
            go_wp2_with fail
            go_roundw
            case rel => exact ⟨k + 1, by omega, by go_num, hi, hb1⟩
            case measure => simp [intOf]; omega
          | false =>
            have HPT := Lib.hid (hpe.trans hb)
            clear hb hgk hpe
            go_wp2_with fail
            refine (PartOk_val _ _ _ f X k false _ HPT.out hi).mono ?_
            rintro e w9 ⟨rfl, hb2⟩
            replace hi := hi.next hb2; replace hb1 := below_onto hb1 hb2; clear hb2
            go_wp2_with fail
            go_roundw
            case rel => exact ⟨k + 1, by omega, by go_num, hi, hb1⟩
            case measure => simp [intOf]; omega
        · obtain ⟨bq, oq, hd, hbl, hrow⟩ := hi.row (by omega)
          subst hd
          have hc := hrow X (by omega)
          have hXm : (X : Int) < (m : Int) := by omega
          have he1 : (bits .or .i64 (meetI m f X) (f X) == meetI m f X) = true := by rw [beq_iff_eq]; exact HM.out
          have he2 : (bits .or .i64 (meetI m f X) (wholesI m f X) == meetI m f X) = true := by rw [beq_iff_eq]; exact HMW.out
          clear hrow
          go_wp2_with fail
          refine (WholesOf_val _ _ _ f X _ _ (wholesB_in HG.out) hi).mono ?_
          rintro e w9 ⟨rfl, hb2⟩
          replace hi := hi.next hb2; replace hb1 := below_onto hb1 hb2; clear hb2
          go_wp2_with fail
          go_ret
          exact ⟨rfl, hb1⟩

theorem hasBit_int (s y : Int) (v : Bool) (hv : hbB s y = v) (h0 : 0 ≤ y) (h1 : y ≤ 63) (hs : I64 s) (w : World) :
    Calls Try.prog 20 #[.int .i64 s, .int .i64 y] w fun e w' => e = .returned (.bool v) ∧ w = w' := by
  obtain ⟨k, rfl⟩ := Int.eq_ofNat_of_zero_le h0
  exact hasBit_val s k v hv (by omega) hs w

theorem lit_world (xs : List Int) (n : Nat) (hn : xs.length = n) (h : ∀ x ∈ xs, I64 x) (hl : xs.length ≤ 1000) (cs : Array Value) (hcs : cs = (xs.map (Value.int .i64)).toArray) (hv : worldB n (fun i => xs.getD i 0) = true) (w : World) :
    Calls Try.prog 18 #[.slice (some ⟨w.heap.size, 0, none⟩) n n] (w.alloc (.cells cs 3)) fun e w' => e = .returned (.bool true) ∧ Below w.heap.size w w' := by
  subst hn
  refine (WorldOk_val _ _ _ (fun i => xs.getD i 0) true _ hv (lit_ints w xs h hl cs hcs 3)).mono ?_
  rintro e w' ⟨rfl, hb⟩
  exact ⟨rfl, (alloc_below w (.cells cs 3)).trans (hb.mono (by rw [alloc_size]; omega))⟩

theorem world_12 : worldB 2 (fun i => ([1, 2] : List Int).getD i 0) = true := by decide
theorem world_124 : worldB 3 (fun i => ([1, 2, 4] : List Int).getD i 0) = true := by decide
theorem world_1248 : worldB 4 (fun i => ([1, 2, 4, 8] : List Int).getD i 0) = true := by decide

/-- a world without its last thing, if that is a part of no other, is one -/
theorem world_less {l : Nat} {f : Nat → Int} (hP : WorldP (l + 1) f) (h1 : 1 ≤ l) (h : ∀ j, j < l → hasB (f j) l = false) : WorldP l f := by
  have h7 := hP.hi
  refine ⟨h1, by omega, ?_, fun a ha => hP.self a (by omega), fun a ha b hb => hP.anti a (by omega) b (by omega), fun a ha b hb => hP.trans a (by omega) b (by omega)⟩
  intro a ha
  have hr := hP.rng a (by omega)
  have hp := pow_bounds (l + 1) h7
  refine lt_of_bits (f a) l (by omega) (by unfold I64; omega) ?_
  intro i _ hli
  by_cases e : i = l
  · subst e; exact h a ha
  · exact hasB_big (f a) (l + 1) hr.1 hr.2 i (by omega)

theorem Ints.less {w : World} {a : Option Addr} {n k : Nat} {f : Nat → Int} (h : Ints w a n f) (hk : k ≤ n) : Ints w a k f := by
  obtain ⟨⟨hm, h64⟩, h⟩ := h
  refine ⟨⟨by omega, fun i hi => h64 i (by omega)⟩, ?_⟩
  rcases h with h | ⟨b, o, ha, hb, hr⟩
  · exact .inl (by omega)
  · exact .inr ⟨b, o, ha, hb, fun i hi => hr i (by omega)⟩

/-- the last thing is a part of none of the first ones, if it is said -/
def AloneR (m : Nat) (f : Nat → Int) (k : Nat) (bb : Bool) : Prop := bb = true → 1 < m ∧ ∀ j, j < k → hbB (f j) ((m : Int) - 1) = false

set_option maxHeartbeats 8000000 in
theorem lawWorldOk (a : Option Addr) (n cap : Nat) (w : World) (h : BytesIn w a n cap) :
    Calls Try.prog 3 #[.slice a n cap] w (TrueEnd w) := by
  have hlen := h.len
  have H := Lib.hid h; clear h
  by_cases hn : 1048576 < n
  · go_enter Try.func3, Try.ntmps3
    go_wp2_with fail
    go_ret
    exact ⟨rfl, Below.refl _ _⟩
  · go_enter Try.func3, Try.ntmps3
    go_wp2_with fail
    refine (DrawWorldOk_any _ _ _ _ H.out).mono ?_
    rintro e w1 ⟨d, m, c, f, rfl, hm, hi, hb1, hcap⟩
    have h64 := Lib.hid hi.i64
    cases hw : worldB m f with
    | false =>
      have HW := Lib.hid hw; clear hw
      go_wp2_with fail
      refine (WorldOk_val _ _ _ f false _ HW.out hi).mono ?_
      rintro e w9 ⟨rfl, hb2⟩
      replace hi := hi.next hb2; replace hb1 := below_onto hb1 hb2; clear hb2
      go_wp2_with fail
      refine (specWorldOk_val _ _ _ f false _ HW.out hi).mono ?_
      rintro e w9 ⟨rfl, hd3⟩
      replace hi := hi.drew hd3; replace hb1 := below_onto hb1 hd3.below; clear hd3
      go_wp2_with fail
      go_loop [6, 7] (fun s i => ∃ (k : Nat) (bb : Bool), (k = 0 ∨ k < m) ∧ i = .int .i64 k ∧ s = .bool bb) (fun _ i => m - (intOf i).toNat)
      case atStart => exact ⟨0, _, .inl rfl, rfl, rfl⟩
      case round =>
        obtain ⟨k, bb, hk, rfl, rfl⟩ := hrel
        by_cases hlt : k + 1 < m
        · have h1m : 1 ≤ m := by omega
          obtain ⟨bq, oq, hd, hbl, hrow⟩ := hi.row h1m
          subst hd
          have hc := hrow k (by omega)
          have h6k := h64.out k (by omega)
          have HROW := Lib.hid hrow; clear hrow
          have hk2 : (k : Int) < (m : Int) - 1 := by omega
          clear hk
          cases bb with
          | true =>
            go_wp2_with fail
            refine (hasBit_int _ _ _ rfl (by omega) (by omega) h6k _).mono ?_
            rintro e w9 ⟨rfl, rfl⟩
            go_wp2_with fail
            go_round
            case rel => exact ⟨k + 1, _, by omega, by go_num, rfl⟩
            case measure => simp [intOf]; omega
          | false =>
            go_wp2_with fail
            go_round
            case rel => exact ⟨k + 1, _, by omega, by go_num, rfl⟩
            case measure => simp [intOf]; omega
        · have hk2 : ¬ (k : Int) < (m : Int) - 1 := by omega
          go_wp2_with fail
          refine (lit_world [1] 1 rfl (small_I64 (by decide)) (by decide) _ rfl world_1 _).mono ?_
          rintro e w9 ⟨rfl, hb2⟩
          replace hi := hi.next hb2; replace hb1 := below_onto hb1 hb2; clear hb2
          go_wp2_with fail
          refine (lit_world [1, 2] 2 rfl (small_I64 (by decide)) (by decide) _ rfl world_12 _).mono ?_
          rintro e w9 ⟨rfl, hb2⟩
          replace hi := hi.next hb2; replace hb1 := below_onto hb1 hb2; clear hb2
          go_wp2_with fail
          refine (lit_world [1, 2, 4] 3 rfl (small_I64 (by decide)) (by decide) _ rfl world_124 _).mono ?_
          rintro e w9 ⟨rfl, hb2⟩
          replace hi := hi.next hb2; replace hb1 := below_onto hb1 hb2; clear hb2
          go_wp2_with fail
          refine (lit_world [1, 2, 4, 8] 4 rfl (small_I64 (by decide)) (by decide) _ rfl world_1248 _).mono ?_
          rintro e w9 ⟨rfl, hb2⟩
          replace hi := hi.next hb2; replace hb1 := below_onto hb1 hb2; clear hb2
          go_wp2_with fail
          refine (alive_any _).mono ?_
          rintro e w9 ⟨rfl, hb2⟩
          replace hb1 := below_onto hb1 hb2; clear hb2
          go_wp2_with fail
          go_ret
          exact ⟨rfl, hb1⟩
    | true =>
      obtain ⟨h1, h7⟩ := worldB_7 hw
      obtain ⟨hcap1, hcap2⟩ := hcap h1
      have hP := Lib.hid ((worldB_iff m f h64.out).1 hw)
      have HW := Lib.hid hw; clear hw hcap
      go_wp2_with fail
      refine (WorldOk_val _ _ _ f true _ HW.out hi).mono ?_
      rintro e w9 ⟨rfl, hb2⟩
      replace hi := hi.next hb2; replace hb1 := below_onto hb1 hb2; clear hb2
      go_wp2_with fail
      refine (specWorldOk_val _ _ _ f true _ HW.out hi).mono ?_
      rintro e w9 ⟨rfl, hd3⟩
      replace hi := hi.drew hd3; replace hb1 := below_onto hb1 hd3.below; clear hd3
      go_wp2_with fail
      go_loop [6, 7] (fun s i => ∃ (k : Nat) (bb : Bool), k < m ∧ i = .int .i64 k ∧ s = .bool bb ∧ AloneR m f k bb) (fun _ i => m - (intOf i).toNat)
      case atStart => exact ⟨0, _, by omega, rfl, rfl, by
        intro hb
        exact ⟨by simp at hb; omega, fun j hj => absurd hj (Nat.not_lt_zero _)⟩⟩
      case round =>
        obtain ⟨k, bb, hk, rfl, rfl, hal⟩ := hrel
        by_cases hlt : k + 1 < m
        · obtain ⟨bq, oq, hd, hbl, hrow⟩ := hi.row h1
          subst hd
          have hc := hrow k (by omega)
          have h6k := h64.out k (by omega)
          have HROW := Lib.hid hrow; clear hrow
          have hk2 : (k : Int) < (m : Int) - 1 := by omega
          cases bb with
          | true =>
            cases hv : hbB (f k) ((m : Int) - 1) with
            | true =>
              have HV := Lib.hid hv; clear hv
              go_wp2_with fail
              refine (hasBit_int _ _ true HV.out (by omega) (by omega) h6k _).mono ?_
              rintro e w9 ⟨rfl, rfl⟩
              go_wp2_with fail
              go_round
              case rel => exact ⟨k + 1, _, by omega, by go_num, rfl, fun h => by simp at h⟩
              case measure => simp [intOf]; omega
            | false =>
              have HV := Lib.hid hv; clear hv
              go_wp2_with fail
              refine (hasBit_int _ _ false HV.out (by omega) (by omega) h6k _).mono ?_
              rintro e w9 ⟨rfl, rfl⟩
              go_wp2_with fail
              go_round
              case rel => exact ⟨k + 1, _, by omega, by go_num, rfl, fun _ => ⟨(hal rfl).1, fun j hj => by
                by_cases e : j = k
                · subst e; exact HV.out
                · exact (hal rfl).2 j (by omega)⟩⟩
              case measure => simp [intOf]; omega
          | false =>
            go_wp2_with fail
            go_round
            case rel => exact ⟨k + 1, _, by omega, by go_num, rfl, fun h => by cases h⟩
            case measure => simp [intOf]; omega
        · have hk2 : ¬ (k : Int) < (m : Int) - 1 := by omega
          cases bb with
          | true =>
            obtain ⟨hm1, hno⟩ := hal rfl
            have hlw : worldB (m - 1) f = true := by
              obtain ⟨l, rfl⟩ : ∃ l, m = l + 1 := ⟨m - 1, by omega⟩
              rw [Nat.add_sub_cancel]
              refine (worldB_iff l f (fun i hi => h64.out i (by omega))).2 (world_less hP.out (by omega) (fun j hj => ?_))
              have := hno j (by omega)
              have e : ((l + 1 : Nat) : Int) - 1 = (l : Int) := by omega
              rw [e, hb_in (hP.out.rng j (by omega)).1] at this
              exact this
            have HL := Lib.hid hlw
            clear hlw hno hal
            have hs1 : (0 : Int) ≤ (m : Int) - 1 := by omega
            have hs2 : ((m : Int) - 1) ≤ (c : Int) := by omega
            have hs3 : ((m : Int) - 1).toNat = m - 1 := by omega
            go_wp2_with fail
            refine (lit_world [1] 1 rfl (small_I64 (by decide)) (by decide) _ rfl world_1 _).mono ?_
            rintro e w9 ⟨rfl, hb2⟩
            replace hi := hi.next hb2; replace hb1 := below_onto hb1 hb2; clear hb2
            go_wp2_with fail
            refine (lit_world [1, 2] 2 rfl (small_I64 (by decide)) (by decide) _ rfl world_12 _).mono ?_
            rintro e w9 ⟨rfl, hb2⟩
            replace hi := hi.next hb2; replace hb1 := below_onto hb1 hb2; clear hb2
            go_wp2_with fail
            refine (lit_world [1, 2, 4] 3 rfl (small_I64 (by decide)) (by decide) _ rfl world_124 _).mono ?_
            rintro e w9 ⟨rfl, hb2⟩
            replace hi := hi.next hb2; replace hb1 := below_onto hb1 hb2; clear hb2
            go_wp2_with fail
            refine (lit_world [1, 2, 4, 8] 4 rfl (small_I64 (by decide)) (by decide) _ rfl world_1248 _).mono ?_
            rintro e w9 ⟨rfl, hb2⟩
            replace hi := hi.next hb2; replace hb1 := below_onto hb1 hb2; clear hb2
            go_wp2_with fail
            refine (WorldOk_val _ _ _ f true _ HL.out (hi.less (by omega))).mono ?_
            rintro e w9 ⟨rfl, hb2⟩
            replace hi := hi.next hb2; replace hb1 := below_onto hb1 hb2; clear hb2
            go_wp2_with fail
            refine (alive_any _).mono ?_
            rintro e w9 ⟨rfl, hb2⟩
            replace hb1 := below_onto hb1 hb2; clear hb2
            go_wp2_with fail
            go_ret
            exact ⟨rfl, hb1⟩
          | false =>
            go_wp2_with fail
            refine (lit_world [1] 1 rfl (small_I64 (by decide)) (by decide) _ rfl world_1 _).mono ?_
            rintro e w9 ⟨rfl, hb2⟩
            replace hi := hi.next hb2; replace hb1 := below_onto hb1 hb2; clear hb2
            go_wp2_with fail
            refine (lit_world [1, 2] 2 rfl (small_I64 (by decide)) (by decide) _ rfl world_12 _).mono ?_
            rintro e w9 ⟨rfl, hb2⟩
            replace hi := hi.next hb2; replace hb1 := below_onto hb1 hb2; clear hb2
            go_wp2_with fail
            refine (lit_world [1, 2, 4] 3 rfl (small_I64 (by decide)) (by decide) _ rfl world_124 _).mono ?_
            rintro e w9 ⟨rfl, hb2⟩
            replace hi := hi.next hb2; replace hb1 := below_onto hb1 hb2; clear hb2
            go_wp2_with fail
            refine (lit_world [1, 2, 4, 8] 4 rfl (small_I64 (by decide)) (by decide) _ rfl world_1248 _).mono ?_
            rintro e w9 ⟨rfl, hb2⟩
            replace hi := hi.next hb2; replace hb1 := below_onto hb1 hb2; clear hb2
            go_wp2_with fail
            refine (alive_any _).mono ?_
            rintro e w9 ⟨rfl, hb2⟩
            replace hb1 := below_onto hb1 hb2; clear hb2
            go_wp2_with fail
            go_ret
            exact ⟨rfl, hb1⟩
end Go.Proofs.Ytdbmgejjpafhoaa
