import Derived.Test.YtdlafcioopclhaaGreatClassS
namespace Go.Proofs.YtdlafcioopclhaaGreat
open Go.RowKit Go.Maps

/-- a row of one's own whose n numbers are below N -/
def OwnQ (N : Nat) (w : World) (B : Nat) (v : Value) (n : Nat) : Prop := ∃ xs : List Int, xs.length = n ∧ (∀ x ∈ xs, 0 ≤ x ∧ x < N) ∧ OwnX w B 3 v xs
theorem OwnQ.lift {N : Nat} {w w' : World} {B rb n : Nat} {v : Value} (h : OwnQ N w B v n) (hb : Only rb w w') (hB : rb < B) : OwnQ N w' B v n := by
  obtain ⟨xs, h1, h2, h3⟩ := h; exact ⟨xs, h1, h2, h3.lift hb hB⟩
theorem OwnQ.kept {N : Nat} {w w' : World} {B n : Nat} {v : Value} (h : OwnQ N w B v n) (hb : Below w.heap.size w w') : OwnQ N w' B v n := by
  obtain ⟨xs, h1, h2, h3⟩ := h; exact ⟨xs, h1, h2, h3.kept hb⟩
theorem OwnQ.slice {N : Nat} {w : World} {B n : Nat} {v : Value} (h : OwnQ N w B v n) : ∃ (a : Option Addr) (cap : Nat), v = .slice a n cap := by
  obtain ⟨xs, h1, _, h3⟩ := h; rw [← h1]; exact h3.slice
theorem OwnQ.shape {N : Nat} {w : World} {B n : Nat} {v : Value} (h : OwnQ N w B v n) (h1 : 1 ≤ n) :
    ∃ (g cap : Nat) (F : Nat → Nat), v = .slice (some ⟨g, 0, none⟩) n cap ∧ B ≤ g ∧ g < w.heap.size ∧ Row w g 0 n (fun i => (F i : Int)) ∧ (∀ i, i < n → F i < N) ∧ ∀ j, w.frozen? ⟨g, j, none⟩ = false := by
  obtain ⟨xs, rfl, h2, h3⟩ := h
  obtain ⟨g, cap, hv, hB, hg, _, _, hr, hf⟩ := h3.shape h1
  have hb : ∀ i, i < xs.length → 0 ≤ xs.getD i 0 ∧ xs.getD i 0 < N := fun i hi => h2 _ (getD_mem hi)
  refine ⟨g, cap, fun i => (xs.getD i 0).toNat, hv, hB, hg, fun i hi => ?_, fun i hi => ?_, hf⟩
  · rw [hr i hi]
    show some (Value.int .i64 (xs.getD i 0)) = some (Value.int .i64 ((xs.getD i 0).toNat : Int))
    rw [Int.toNat_of_nonneg (hb i hi).1]
  · have := hb i hi
    show (xs.getD i 0).toNat < N
    omega
theorem OwnQ.put {N : Nat} {w : World} {B n g cap j : Nat} {s : Int} (h : OwnQ N w B (.slice (some ⟨g, 0, none⟩) n cap) n) (hs : 0 ≤ s ∧ s < N) : OwnQ N (w.setCell ⟨g, j, none⟩ (.int .i64 s)) B (.slice (some ⟨g, 0, none⟩) n cap) n := by
  obtain ⟨xs, rfl, hq, hown⟩ := h
  refine ⟨xs.set j s, by simp, ?_, ?_⟩
  · intro x hx
    rcases List.mem_or_eq_of_mem_set hx with h | h
    · exact hq x h
    · rw [h]; exact hs
  · have := (World.ownsRow.stored hown j (.int .i64 s)).1
    unfold OwnX
    rw [List.map_set, List.length_set]
    exact this
theorem OwnQ.snoc {N : Nat} {w : World} {B : Nat} {v : Value} {xs : List Int} {s : Int} (h : OwnX w B 3 v (xs ++ [s])) (hx : ∀ x ∈ xs, 0 ≤ x ∧ x < N) (hs : 0 ≤ s ∧ s < N) : OwnQ N w B v (xs.length + 1) :=
  ⟨xs ++ [s], by simp, fun x hm => by rcases List.mem_append.1 hm with h | h; exact hx x h; rw [List.mem_singleton.1 h]; exact hs, h⟩
theorem OwnX.at {w : World} {B : Nat} {v : Value} {xs : List Int} (h : OwnX w B 3 v xs) (h1 : 1 ≤ xs.length) : ∃ a cap, v = .slice (some ⟨a, 0, none⟩) xs.length cap := by
  obtain ⟨g, c, hv, _⟩ := h.shape h1; exact ⟨g, c, hv⟩

/-- what a draw of a shuffled world leaves -/
def Shuffled (rb P N : Nat) (w : World) (e : Ending) (w' : World) : Prop := ∃ v, e = .returned v ∧ OwnI w' w.heap.size v N ∧ Only rb w w' ∧ Rdr w' rb P
/-- the state of the first loop -/
def ShufR (rb P N : Nat) (w : World) (v i : Value) (wr : World) : Prop := ∃ k : Nat, k ≤ N ∧ i = .int .i64 k ∧ OwnQ N wr w.heap.size v k ∧ Only rb w wr ∧ Rdr wr rb (P + k)
def ShufIn (rb P N y k : Nat) (v : Value) (w : World) (i : Value) (wr : World) : Prop := ∃ q : Nat, y ≤ q ∧ q ≤ k ∧ i = .int .i64 q ∧ OwnQ N wr w.heap.size v (k + 1) ∧ Only rb w wr ∧ Rdr wr rb P

set_option maxRecDepth 100000 in
set_option maxHeartbeats 6400000 in
theorem shuffled_any (rb P g cap N : Nat) (F : Nat → Int) (hN1 : 1 ≤ N) (hN7 : N ≤ 7) (hP : P ≤ 10000) (hF : ∀ i, i < N → 0 ≤ F i) (w : World) (h : Rdr w rb P) (hr : Row w g 0 N F) (hg : g < w.heap.size) (hgr : g ≠ rb) :
    Calls Tryz.prog 31 #[.pointer (some ⟨rb, 0, none⟩), .slice (some ⟨g, 0, none⟩) N cap] w (Shuffled rb (P + 10) N w) := by
  have hrb : rb < w.heap.size := h.1
  obtain ⟨i0, hi, hz0, hz1, hz2⟩ := info_parts Tryz.infoInt
  have hst : ShufR rb P N w (.slice (some ⟨w.heap.size, 0, none⟩) 0 0) (.int .i64 0) (w.alloc (.cells #[] 3)) :=
    ⟨0, Nat.zero_le _, rfl, ⟨[], rfl, by simp, OwnX.made w _ (Nat.le_refl _) _⟩, (Only.refl rb w).alloc _, h.below (alloc_below w _)⟩
  have HROW := Lib.hid hr; have HF := Lib.hid hF
  clear h hr hF
  go_enter Tryz.func31, Tryz.ntmps31
  go_wp2_with fail
  go_loopw [5, 6] (fun v i wr => ShufR rb P N w v i wr) (fun _ i _ => N - (intOf i).toNat)
  case atStart => exact hst
  case round =>
    clear hst
    obtain ⟨k, hk, rfl, hown, hon, hrd⟩ := hrel
    obtain ⟨xs, rfl, hxs, hown⟩ := hown
    obtain ⟨a9, c9, rfl⟩ := hown.slice
    by_cases hlt : xs.length < N
    · have hki : (xs.length : Int) < (N : Int) := by omega
      have HOW := Lib.hid hown; have HON := Lib.hid hon; have HRD := Lib.hid hrd; have HXS := Lib.hid hxs
      clear hown hon hrd hxs
      go_wp2_with fail
      refine (pick_any rb (P + xs.length) _ (by omega) _ HRD.out).mono ?_
      rintro e w2 ⟨y, rfl, hy, ho2, hr2⟩
      have hyk : y ≤ xs.length := by omega
      have hw2 : w.heap.size ≤ w2.heap.size := Nat.le_trans HON.out.size ho2.size
      have HON2 := Lib.hid (HON.out.trans ho2); have HRD2 := Lib.hid hr2
      have HO : Hid (w2.ownsRow w.heap.size 3 1 (.slice a9 xs.length c9) xs.length (xs.map (Value.int .i64))) := Lib.hid (HOW.out.lift ho2 hrb)
      have HL := Lib.hid (show xs.length ≤ 1000 by omega)
      have HSZ := Lib.hid hw2
      clear ho2 hr2 hy
      have k1 := Lib.hid (fun (j : Nat) (u : Value) (h : [Value.int .i64 (xs.length : Int)][j]? = some u) => cell_one_new w2 (.int .i64 (xs.length : Int)) 3 j u h)
      have k2 : Hid (∀ u ∈ [Value.int .i64 (xs.length : Int)], u.oneCell' = true) := Lib.hid (by intro u hu; simp at hu; subst hu; rfl)
      have k3 : Hid ((xs).length + 1 ≤ maxLen) := Lib.hid (by have := HL.out; unfold maxLen; omega)
      have k4 : Hid (((xs).length + 1) * 8 ≤ 140737488355328) := Lib.hid (by have := HL.out; omega)
      have k5 : Hid (w.heap.size ≤ (w2.alloc (.cells #[.int .i64 (xs.length : Int)] 3)).heap.size) := Lib.hid (by rw [alloc_size]; have := HSZ.out; omega)
      go_wp2_with (at_builtin; refine wpList_append_own _ rfl (.tmp 24) (.tmp 26) 23 rfl w.heap.size 3 i0 (.int .i64 0) 1 8 Tryz.underlying23 hi hz0 hz1 hz2 rfl (by decide) _ _ _ rfl (HO.out.alloc _) ⟨w2.heap.size, 0, none⟩ 1 1 [.int .i64 (xs.length : Int)] rfl rfl k1.out k2.out k3.out k4.out k5.out ?_)
      intro v' w5 hown' hgrow _
      have hg5 : Below w.heap.size w2 w5 := ((Below.refl w.heap.size w2).alloc HSZ.out _).grown hgrow (by have := HSZ.out; rw [alloc_size]; omega) (fun q hq => (HO.out.lt q hq).1)
      have ho5 := OwnX.snoc hown'
      clear hown' hgrow k1 k2 k3 k4 k5
      have hq5 : OwnQ N w5 w.heap.size v' (xs.length + 1) := OwnQ.snoc ho5 HXS.out ⟨by omega, by omega⟩
      obtain ⟨g5, c5, F5, rfl, hB5, _, _, _, _⟩ := hq5.shape (by omega)
      have hst2 : ShufIn rb (P + xs.length + 1) N y xs.length (.slice (some ⟨g5, 0, none⟩) (xs.length + 1) c5) w (.int .i64 (xs.length : Int)) w5 := ⟨xs.length, hyk, Nat.le_refl _, rfl, hq5, HON2.out.belowB hg5 (Nat.le_refl _), HRD2.out.belowB hg5 hrb⟩
      clear ho5 hg5 hq5
      obtain ⟨k, hkk⟩ : ∃ k, xs.length = k := ⟨_, rfl⟩
      have hgrb : g5 ≠ rb := by omega
      rw [hkk] at hst2 hlt hki hyk hk
      rw [hkk]
      have HKK := Lib.hid hkk
      clear HOW HON HRD HXS HON2 HRD2 HO HL hkk
      go_wp2_with fail
      go_loopw [8] (fun i wr => ShufIn rb (P + k + 1) N y k (.slice (some ⟨g5, 0, none⟩) (k + 1) c5) w i wr) (fun i _ => (intOf i).toNat)
      case atStart => exact hst2
      case round =>
        clear hst2
        obtain ⟨q, hyq, hqk, rfl, hown, hon, hrd⟩ := hrel
        obtain ⟨g6, c6, F6, hv6, hB6, hl6, hr6, hF6, hf6⟩ := hown.shape (by omega)
        injection hv6 with e1 e2 e3
        injection e1 with e1
        injection e1 with e1
        subst e1; subst e3
        by_cases hq : y < q
        · obtain ⟨p, rfl⟩ : ∃ p, q = p + 1 := ⟨q - 1, by omega⟩
          have hgt : ((p : Int) + 1) > (y : Int) := by omega
          have hc1 : wr.cell? ⟨g5, p, none⟩ = some (.int .i64 (F6 p : Int)) := by have := hr6 p (by omega); rwa [Nat.zero_add] at this
          have hc2 : wr.cell? ⟨g5, p + 1, none⟩ = some (.int .i64 (F6 (p + 1) : Int)) := by have := hr6 (p + 1) (by omega); rwa [Nat.zero_add] at this
          have hfz := hf6 (p + 1)
          have hpk : (p : Int) < (k : Int) + 1 := by omega
          have hpk2 : (p : Int) + 1 < (k : Int) + 1 := by omega
          have hFp := hF6 p (by omega)
          have HPUT := Lib.hid (OwnQ.put (j := p + 1) (s := (F6 p : Int)) hown ⟨by omega, by omega⟩)
          have HON := Lib.hid (hon.fresh hB6 (p + 1) (.int .i64 (F6 p : Int))); have HRD := Lib.hid (hrd.belowB (show Below w.heap.size wr (wr.setCell ⟨g5, p + 1, none⟩ (.int .i64 (F6 p : Int))) from (Below.refl w.heap.size wr).setCell hB6 _) hrb)
          clear hown hon hrd hr6 hF6 hf6
          go_wp2_with fail
          go_roundw
          case rel => exact ⟨p, by omega, by omega, by go_num, HPUT.out, HON.out, HRD.out⟩
          case measure => first | (simp [intOf]; done) | (simp [intOf]; omega)
        · have hqy : q = y := by omega
          subst hqy
          have hgt : ¬ ((q : Int) > (q : Int)) := by omega
          have hc2 : wr.cell? ⟨g5, q, none⟩ = some (.int .i64 (F6 q : Int)) := by have := hr6 q (by omega); rwa [Nat.zero_add] at this
          have hfz := hf6 q
          have hqk2 : (q : Int) < (k : Int) + 1 := by omega
          have HPUT := Lib.hid (OwnQ.put (j := q) (s := (k : Int)) hown ⟨by omega, by omega⟩)
          have HON := Lib.hid (hon.fresh hB6 q (.int .i64 (k : Int))); have HRD := Lib.hid (hrd.belowB (show Below w.heap.size wr (wr.setCell ⟨g5, q, none⟩ (.int .i64 (k : Int))) from (Below.refl w.heap.size wr).setCell hB6 _) hrb)
          clear hown hon hrd hr6 hF6 hf6
          go_wp2_with fail
          go_roundw
          case rel => exact ⟨k + 1, by omega, by go_num, HPUT.out, HON.out, HRD.out⟩
          case measure => have := HKK.out; simp [intOf]; omega
    · have hxN : xs.length = N := by omega
      have hown2 : OwnQ N wr w.heap.size (.slice a9 xs.length c9) N := ⟨xs, hxN, hxs, hown⟩
      obtain ⟨go, co, Fo, hv, hBo, hgo, hro, hFo, _⟩ := hown2.shape hN1
      injection hv with e1 e2 e3
      subst e1; subst e3
      rw [hxN]
      have HRO := Lib.hid hro; have HFO := Lib.hid hFo; have HON := Lib.hid hon; have HRD := Lib.hid hrd
      have hgw : g < wr.heap.size := by have := hon.size; omega
      have HRG := Lib.hid (HROW.out.only hon hg hgr)
      have HSW := Lib.hid hon.size
      have hst2 : OwnI (wr.alloc (.cells #[] 3)) wr.heap.size (.slice (some ⟨wr.heap.size, 0, none⟩) 0 0) 0 := OwnI.lit wr wr.heap.size (Nat.le_refl _) [] (fun x hx => by simp at hx) (by decide) _ rfl
      have hsb2 := alloc_below wr (.cells #[] 3)
      have hki : ¬ ((N : Int) < (N : Int)) := by omega
      obtain ⟨wc, hwc⟩ : ∃ wc : World, wc = wr := ⟨_, rfl⟩
      subst hwc
      clear hown hown2 hon hrd hro hFo hxs
      go_wp2_with fail
      go_loopw [9, 10] (fun v i wr => ∃ k : Nat, k ≤ N ∧ i = .int .i64 k ∧ OwnI wr wc.heap.size v k ∧ Below wc.heap.size wc wr) (fun _ i _ => N - (intOf i).toNat)
      case atStart => exact ⟨0, Nat.zero_le _, rfl, hst2, hsb2⟩
      case round =>
        clear hst2 hsb2
        obtain ⟨k, hk, rfl, hown, hbel⟩ := hrel
        obtain ⟨xs, rfl, h64, hown⟩ := hown
        obtain ⟨a8, c8, rfl⟩ := (show OwnX wr wc.heap.size 3 _ xs from hown).slice
        by_cases hlt : xs.length < N
        · have hki : (xs.length : Int) < (N : Int) := by omega
          have HOW := Lib.hid (show OwnX wr wc.heap.size 3 _ xs from hown); have HB := Lib.hid hbel; have H64 := Lib.hid h64
          clear hown hbel h64
          go_wp2_with fail
          obtain ⟨wo, hwo⟩ : ∃ wo : World, wo = wr := ⟨_, rfl⟩
          subst hwo
          go_loopw [11, 12] (fun v i wr => ∃ (j : Nat) (s : Int), j ≤ N ∧ i = .int .i64 j ∧ v = .int .i64 s ∧ I64 s ∧ Drew wo wr) (fun _ i _ => N - (intOf i).toNat)
          case atStart => exact ⟨0, 0, Nat.zero_le _, rfl, rfl, I64_zero, Drew.refl _⟩
          case round =>
            obtain ⟨j, s, hj, rfl, rfl, hs, hd⟩ := hrel
            by_cases hjn : j < N
            · have hji : (j : Int) < (N : Int) := by omega
              have hbw := HB.out.trans (hd.below.mono HB.out.size)
              have hrow := HRO.out.below hbw hgo
              have hrg := HRG.out.below hbw hgw
              obtain ⟨p, hp⟩ : ∃ p, Fo xs.length = p := ⟨_, rfl⟩
              obtain ⟨q, hq⟩ : ∃ q, Fo j = q := ⟨_, rfl⟩
              have hpN : p < N := by rw [← hp]; exact HFO.out _ hlt
              have hqN : q < N := by rw [← hq]; exact HFO.out _ hjn
              have hc1 : wr.cell? ⟨go, xs.length, none⟩ = some (.int .i64 (p : Int)) := by have := hrow xs.length hlt; rw [Nat.zero_add] at this; rw [← hp]; exact this
              have hc2 : wr.cell? ⟨go, j, none⟩ = some (.int .i64 (q : Int)) := by have := hrow j hjn; rw [Nat.zero_add] at this; rw [← hq]; exact this
              obtain ⟨y, hy⟩ : ∃ y, F p = y := ⟨_, rfl⟩
              have hc3 : wr.cell? ⟨g, p, none⟩ = some (.int .i64 y) := by have := hrg p hpN; rw [Nat.zero_add] at this; rw [← hy]; exact this
              have hy0 : 0 ≤ y := by rw [← hy]; exact HF.out p hpN
              have hpi : (p : Int) < (N : Int) := by omega
              have ⟨hp1, hp2⟩ := pow_bounds j (by omega)
              have HD := Lib.hid hd
              clear hrow hrg hp hq hy hbw hd
              cases hb : hasB y q with
              | true =>
                have HH := Lib.hid hb; clear hb
                go_wp2_with fail
                go_quiet ((go_at_call 26; exact quiet_left (l1Has_val _ _ true _ HH.out (by omega) hy0)))
                go_wp2_with fail
                go_roundw
                case rel => exact ⟨j + 1, _, by omega, by go_num, rfl, orI_I64 s (2 ^ j), HD.out.more _⟩
                case measure => simp [intOf]; omega
              | false =>
                have HH := Lib.hid hb; clear hb
                go_wp2_with fail
                go_quiet ((go_at_call 26; exact quiet_left (l1Has_val _ _ false _ HH.out (by omega) hy0)))
                go_wp2_with fail
                go_roundw
                case rel => exact ⟨j + 1, s, by omega, by go_num, rfl, hs, HD.out.more _⟩
                case measure => simp [intOf]; omega
            · have hjN : j = N := by omega
              subst hjN
              have hji : ¬ ((j : Int) < (j : Int)) := by omega
              have HO : Hid (wr.ownsRow wc.heap.size 3 1 (.slice a8 xs.length c8) xs.length (xs.map (Value.int .i64))) := Lib.hid (HOW.out.kept hd.below)
              have HBW := Lib.hid (HB.out.trans (hd.below.mono HB.out.size))
              have HL := Lib.hid (show xs.length ≤ 1000 by omega)
              have HSZ := Lib.hid HBW.out.size
              have HS64 := Lib.hid hs
              clear hd hs
              have k1 := Lib.hid (fun (j : Nat) (u : Value) (h : [Value.int .i64 s][j]? = some u) => cell_one_new wr (.int .i64 s) 3 j u h)
              have k2 : Hid (∀ u ∈ [Value.int .i64 s], u.oneCell' = true) := Lib.hid (by intro u hu; simp at hu; subst hu; rfl)
              have k3 : Hid ((xs).length + 1 ≤ maxLen) := Lib.hid (by have := HL.out; unfold maxLen; omega)
              have k4 : Hid (((xs).length + 1) * 8 ≤ 140737488355328) := Lib.hid (by have := HL.out; omega)
              have k5 : Hid (wc.heap.size ≤ (wr.alloc (.cells #[.int .i64 s] 3)).heap.size) := Lib.hid (by rw [alloc_size]; have := HSZ.out; omega)
              go_wp2_with (at_builtin; refine wpList_append_own _ rfl (.tmp 75) (.tmp 77) 23 rfl wc.heap.size 3 i0 (.int .i64 0) 1 8 Tryz.underlying23 hi hz0 hz1 hz2 rfl (by decide) _ _ _ rfl (HO.out.alloc _) ⟨wr.heap.size, 0, none⟩ 1 1 [.int .i64 s] rfl rfl k1.out k2.out k3.out k4.out k5.out ?_)
              intro v' w5 hown' hgrow _
              have hg5 : Below wc.heap.size wr w5 := ((Below.refl wc.heap.size wr).alloc HSZ.out _).grown hgrow (by have := HSZ.out; rw [alloc_size]; omega) (fun q hq => (HO.out.lt q hq).1)
              have ho5 := OwnX.snoc hown'
              clear hown' hgrow k1 k2 k3 k4 k5
              have h5 := OwnX.own ho5 (fun x hm => by rcases List.mem_append.1 hm with h | h; exact H64.out x h; rw [List.mem_singleton.1 h]; exact HS64.out)
              rw [List.length_append] at h5
              have HO5 := Lib.hid (show OwnI w5 wc.heap.size v' (xs.length + 1) from h5)
              have HG5 := Lib.hid hg5; clear ho5 hg5 h5
              go_wp2_with fail
              go_roundw
              case rel => exact ⟨xs.length + 1, by omega, by go_num, HO5.out, HBW.out.trans HG5.out⟩
              case measure => simp [intOf]; omega
        · have hxN2 : xs.length = N := by omega
          have hki : ¬ ((N : Int) < (N : Int)) := by omega
          rw [hxN2]
          have HOW := Lib.hid (show OwnI wr wc.heap.size (.slice a8 xs.length c8) xs.length from ⟨xs, rfl, h64, hown⟩); rw [hxN2] at HOW
          have HB := Lib.hid hbel
          clear hown hbel h64
          go_wp2_with fail
          go_ret
          exact ⟨_, rfl, HOW.out.base HSW.out, HON.out.belowB HB.out HSW.out, (HRD.out.belowB HB.out (by omega)).mono (by omega)⟩

/-- what a draw of a world leaves that is often classical -/
def FullD (rb : Nat) (w : World) (e : Ending) (w' : World) : Prop := ∃ v m, e = .returned v ∧ m ≤ 8 ∧ OwnI w' w.heap.size v m ∧ Only rb w w' ∧ Rdr w' rb 5000

set_option maxRecDepth 100000 in
set_option maxHeartbeats 1600000 in
theorem full_any (rb P : Nat) (n : Int) (hn : 1 ≤ n) (hn2 : n ≤ 100) (hP : P ≤ 1000) (w : World) (h : Rdr w rb P) :
    Calls Tryz.prog 14 #[.pointer (some ⟨rb, 0, none⟩), .int .i64 n] w (FullD rb w) := by
  have hrb := h.1
  have H := Lib.hid h; clear h
  go_enter Tryz.func14, Tryz.ntmps14
  go_wp2_with fail
  refine (pick_any rb P 3 (by omega) _ H.out).mono ?_
  rintro e w1 ⟨x, rfl, hx, ho1, hr1⟩
  have HO1 := Lib.hid ho1; have HR1 := Lib.hid hr1; have HS1 := Lib.hid ho1.size; clear ho1 hr1
  by_cases hx0 : x < 1
  · have hq0 : ((x : Int) == 0) = true := by rw [beq_iff_eq]; omega
    go_wp2_with fail
    refine (world_any rb _ n hn hn2 (by omega) _ HR1.out).mono ?_
    rintro e w2 ⟨v, m, rfl, hm, hown, ho2, hr2⟩
    have HW := Lib.hid (hown.base HS1.out); have HO2 := Lib.hid (HO1.out.trans ho2); have HR2 := Lib.hid hr2; clear hown ho2 hr2
    go_wp2_with fail
    go_ret
    exact ⟨_, m, rfl, hm, HW.out, HO2.out, HR2.out.mono (by omega)⟩
  · have hq0 : ((x : Int) == 0) = false := by rw [beq_eq_false_iff_ne]; omega
    go_wp2_with fail
    refine (pick_any rb _ 3 (by omega) _ HR1.out).mono ?_
    rintro e w2 ⟨y, rfl, hy, ho2, hr2⟩
    obtain ⟨k, N, hk, hF⟩ := full_of (x := 1 + (y : Int)) (by omega)
    obtain ⟨_, _, _, hN1, hN7⟩ := hF.pow
    have HO2 := Lib.hid (HO1.out.trans ho2); have HR2 := Lib.hid hr2; have HK := Lib.hid hk; have HF := Lib.hid hF; clear ho2 hr2 hk hF
    go_wp2_with fail
    rw [HK.out]
    refine (specClassicalOf_in k N HF.out _).mono ?_
    rintro e w3 ⟨v, rfl, hown, hb3⟩
    obtain ⟨g, c, rfl, hg2, hgl, _, _, hrow, _⟩ := hown.shape (by rw [rowL_len]; exact hN1)
    rw [rowL_len]
    have HROW := Lib.hid (row_of_list hrow); have HO3 := Lib.hid (HO2.out.trans (Only.of_below hb3)); have HR3 := Lib.hid (HR2.out.below hb3)
    have hgr : g ≠ rb := by have := HO2.out.size; omega
    clear hown hrow hb3
    go_wp2_with fail
    refine (shuffled_any rb _ g c N _ hN1 hN7 (by omega) (fun i hi => (clsF_rng N i hN7).1) _ HR3.out HROW.out hgl hgr).mono ?_
    rintro e w4 ⟨v, rfl, hown, ho4, hr4⟩
    have HW := Lib.hid (hown.base HO3.out.size); have HO4 := Lib.hid (HO3.out.trans ho4); have HR4 := Lib.hid hr4; clear hown ho4 hr4
    go_wp2_with fail
    go_ret
    exact ⟨_, N, rfl, by omega, HW.out, HO4.out, HR4.out.mono (by omega)⟩

end Go.Proofs.YtdlafcioopclhaaGreat
