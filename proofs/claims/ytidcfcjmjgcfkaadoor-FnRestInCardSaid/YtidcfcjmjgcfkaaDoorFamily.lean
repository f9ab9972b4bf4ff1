import Derived.Test.YtidcfcjmjgcfkaaDoorDraw
namespace Go.Proofs.YtidcfcjmjgcfkaaDoor
open Go.RowKit

/-- a slice of n numbers in memory from block B on -/
def OwnI (w : World) (B : Nat) (v : Value) (n : Nat) : Prop :=
  ∃ xs : List Int, xs.length = n ∧ (∀ x ∈ xs, I64 x) ∧ w.ownsRow B 3 1 v n (xs.map (Value.int .i64))

theorem OwnI.kept {w w' : World} {B n : Nat} {v : Value} (h : OwnI w B v n) (hb : Below w.heap.size w w') : OwnI w' B v n := by
  obtain ⟨xs, h1, h2, h3, h4⟩ := h
  refine ⟨xs, h1, h2, h3, ?_⟩
  rcases h4 with h4 | ⟨g, cap, cur, hv, hB, hg, hr⟩
  · exact .inl h4
  · refine .inr ⟨g, cap, cur, hv, hB, ?_, hr⟩
    have hlt : g < w.heap.size := by
      rcases Nat.lt_or_ge g w.heap.size with h | h
      · exact h
      · rw [Array.getElem?_eq_none h] at hg; cases hg
    rw [hb.block g hlt]; exact hg

theorem OwnI.drewN {w : World} {B n : Nat} {v : Value} (h : OwnI w B v n) (m : Nat) : OwnI (w.drewN m) B v n := h.kept (below_drewN (Below.refl _ _) m)

theorem OwnI.shape {w : World} {B n : Nat} {v : Value} (h : OwnI w B v n) (h1 : 1 ≤ n) :
    ∃ (g cap : Nat) (f : Nat → Int), v = .slice (some ⟨g, 0, none⟩) n cap ∧ B ≤ g ∧ g < w.heap.size ∧ n ≤ cap ∧ cap ≤ 9223372036854775807 ∧ Row w g 0 n f ∧ (∀ i, i < n → I64 (f i)) ∧ ∀ j, w.frozen? ⟨g, j, none⟩ = false := by
  obtain ⟨xs, hl, h64, hown⟩ := h
  have hown2 := hown
  obtain ⟨h3, h4⟩ := hown
  rcases h4 with ⟨_, h4⟩ | ⟨g, cap, cur, hv, hB, hg, hc, hm, _⟩
  · omega
  · subst hv
    have hlt : g < w.heap.size := by
      rcases Nat.lt_or_ge g w.heap.size with h | h
      · exact h
      · rw [Array.getElem?_eq_none h] at hg; cases hg
    unfold maxLen at hm
    refine ⟨g, cap, fun i => xs.getD i 0, rfl, hB, hlt, hc, hm, ?_, ?_, fun j => hown2.frozenAt j⟩
    · intro i hi
      rw [Nat.zero_add, hown2.cellAt i (by omega)]
      show _ = some (Value.int .i64 (xs.getD i 0))
      rw [List.getElem?_map, List.getD_eq_getElem?_getD, List.getElem?_eq_getElem (by omega : i < xs.length)]
      rfl
    · intro i hi
      show I64 (xs.getD i 0)
      rw [List.getD_eq_getElem?_getD, List.getElem?_eq_getElem (by omega : i < xs.length)]
      exact h64 _ (List.getElem_mem _)

/-- a slice of its own is made -/
def Made (n : Nat) (w : World) (e : Ending) (w' : World) : Prop := ∃ v, e = .returned v ∧ OwnI w' w.heap.size v n ∧ Below w.heap.size w w'

theorem Row.drew {w w' : World} {b o n : Nat} {f : Nat → Int} (h : Row w b o n f) (hd : Drew w w') : Row w' b o n f := by
  obtain ⟨m, rfl⟩ := hd; exact h.drewN m

theorem pow20 (k : Nat) (hk : k < 20) : (1 : Int) ≤ 2 ^ k ∧ (2 : Int) ^ k ≤ 1048576 := by
  have h1 := Nat.one_le_two_pow (n := k)
  have h2 : 2 ^ k ≤ 2 ^ 20 := Nat.pow_le_pow_right (by decide) (by omega)
  have h3 : ((2 ^ k : Nat) : Int) = 2 ^ k := by simp
  omega

/-- one number is put behind an owned slice -/
theorem own_snoc {w' : World} {B : Nat} {v' : Value} {xs : List Int} {s : Int} (hl : ∀ x ∈ xs, I64 x) (hs : I64 s) (h : w'.ownsRow B 3 1 v' (xs.length + 1) (xs.map (Value.int .i64) ++ [.int .i64 s])) : OwnI w' B v' (xs.length + 1) :=
  ⟨xs ++ [s], by simp, fun x hx => by rcases List.mem_append.1 hx with h | h; exact hl x h; rw [List.mem_singleton.1 h]; exact hs, by simpa using h⟩

theorem grown_only {w w1 w2 : World} {B : Nat} {v : Value} {xs : List Value} {n : Nat} (hg : w1.grownBy w2 v.ownBlock) (hown : w1.ownsRow B 3 1 v n xs) (h : Below B w w1) (hB : B ≤ w1.heap.size) : Below B w w2 :=
  h.grown hg hB (fun k hk => (hown.lt k hk).1)

set_option maxHeartbeats 1600000 in
theorem family_any (bk off n cap : Nat) (f : Nat → Int) (hn : n ≤ 20) (w : World) (hr : Row w bk off n f) (hbk : bk < w.heap.size) :
    Calls Tryd.prog 35 #[.slice (some ⟨bk, off, none⟩) n cap] w (Made n w) := by
  obtain ⟨i0, hi, hz0, hz1, hz2⟩ := info_parts Tryd.infoInt
  have hst : OwnI (w.alloc (.cells #[] 3)) w.heap.size (.slice (some ⟨w.heap.size, 0, none⟩) 0 0) 0 := ⟨[], rfl, fun x hx => by simp at hx, World.ownsRow_made w #[] 0 (Nat.le_refl _) (by unfold maxLen; omega) rfl⟩
  have hsb : Below w.heap.size w (w.alloc (.cells #[] 3)) := (Below.refl _ _).alloc (Nat.le_refl _) _
  go_enter Tryd.func35, Tryd.ntmps35
  go_wp2_with fail
  go_loopw [3, 4] (fun v i wr => ∃ k : Nat, k ≤ n ∧ i = .int .i64 k ∧ OwnI wr w.heap.size v k ∧ Below w.heap.size w wr) (fun _ i _ => n - (intOf i).toNat)
  case atStart => exact ⟨0, Nat.zero_le _, rfl, hst, hsb⟩
  case round =>
    clear hst hsb
    obtain ⟨k, hk, rfl, hown, hbel⟩ := hrel
    by_cases hlt : k < n
    · go_wp2_with fail
      obtain ⟨wo, rfl⟩ : ∃ wo : World, wo = wr := ⟨_, rfl⟩
      go_loopw [5, 6] (fun v i wr => ∃ (j : Nat) (s : Int), j ≤ n ∧ i = .int .i64 j ∧ v = .int .i64 s ∧ I64 s ∧ Drew wo wr) (fun _ i _ => n - (intOf i).toNat)
      case atStart => exact ⟨0, 0, Nat.zero_le _, rfl, rfl, I64_zero, Drew.refl _⟩
      case round =>
        obtain ⟨j, s, hj, rfl, rfl, hs, hd⟩ := hrel
        have hrr : Row wr bk off n f := (hr.below hbel hbk).drew hd
        by_cases hjn : j < n
        · have hck := hrr k hlt
          have hcj := hrr j hjn
          have hki : (k : Int) < (n : Int) := by omega
          have hji : (j : Int) < (n : Int) := by omega
          have ⟨hp1, hp2⟩ := pow20 j (by omega)
          cases hor : (bits .or .i64 (f k) (f j) == f k) with
          | true =>
            go_wp2_with fail
            go_quiet (fail)
            go_wp2_with fail
            go_roundw
            case rel => exact ⟨j + 1, _, by omega, by go_num, rfl, orI_I64 s (2 ^ j), hd.more _⟩
            case measure => simp [intOf]; omega
          | false =>
            go_wp2_with fail
            go_quiet (fail)
            go_wp2_with fail
            go_roundw
            case rel => exact ⟨j + 1, s, by omega, by go_num, rfl, hs, hd.more _⟩
            case measure => simp [intOf]; omega
        · have hown2 := hown.kept hd.below
          have hbel2 : Below w.heap.size w wr := hbel.trans (hd.below.mono hbel.size)
          obtain ⟨xs, hxl, hx64, hrow⟩ := hown2
          have hB := hbel2.size
          have HX := Lib.hid hxl; have HO := Lib.hid hrow; have HB := Lib.hid hbel2
          clear hxl hrow hbel2 hown hbel hrr hd
          have hkn : k < 20 := by omega
          go_wp2_with (at_builtin; refine wpList_append_own _ rfl (.tmp 38) (.tmp 40) 23 rfl w.heap.size 3 i0 (.int .i64 0) 1 8 Tryd.underlying23 hi hz0 hz1 hz2 rfl (by decide) _ _ _ rfl (HO.out.alloc _) ⟨wr.heap.size, 0, none⟩ 1 1 [.int .i64 s] rfl rfl ?c1 ?c2 ?c3 ?c4 ?c5 ?_)
          case c1 =>
            intro j u hj
            match j, hj with
            | 0, hj => simp at hj; subst hj; simp [Addr.add]
          case c2 => intro u hu; simp at hu; subst hu; rfl
          case c3 => unfold maxLen; omega
          case c4 => omega
          case c5 => simp; omega
          · intro v' w1 hown' hgrow _
            have hb1 : Below w.heap.size w w1 := (HB.out.alloc hB _).grown hgrow (by show _ ≤ (wr.heap.push _).size; rw [Array.size_push]; omega) (fun q hq => (HO.out.lt q hq).1)
            have ho1 : OwnI w1 w.heap.size v' (k + 1) := by
              have := HX.out; subst this
              exact own_snoc hx64 hs hown'
            clear hown' hgrow
            go_wp2_with fail
            go_roundw
            case rel => exact ⟨k + 1, by omega, by go_num, ho1, hb1⟩
            case measure => simp [intOf]; omega
    · have hkn : k = n := by omega
      subst hkn
      go_wp2_with fail
      go_ret
      exact ⟨_, rfl, hown, hbel⟩
end Go.Proofs.YtidcfcjmjgcfkaaDoor
