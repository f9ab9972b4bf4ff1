import Derived.Test.YtibjdmmcnhlgnaaPlG
namespace Go.Proofs.Ytibjdmmcnhlgnaa
set_option linter.unusedVariables false
set_option linter.unusedSimpArgs false
open Go.RowKit Go.Maps

theorem inL {v : Int} {L : List Int} : inF v L.length (fun i => L.getD i 0) = L.contains v := by
  rw [Bool.eq_iff_iff, inF_iff, List.contains_iff_mem]
  constructor
  · rintro ⟨k, hk, e⟩
    rw [← e]; exact getD_mem hk
  · intro h
    obtain ⟨k, hk, e⟩ := List.getElem_of_mem h
    exact ⟨k, hk, by show L.getD k 0 = v; rw [List.getD_eq_getElem?_getD, List.getElem?_eq_getElem hk]; exact e⟩
theorem all_cnt {n m : Nat} {f g : Nat → Int} : (List.range n).all (fun k => inF (f k) m g) = decide (cntF n f m g = n) := by
  rw [Bool.eq_iff_iff, List.all_eq_true, decide_eq_true_eq, cnt_all]
  exact ⟨fun h k hk => h k (List.mem_range.2 hk), fun h k hk => h k (List.mem_range.1 hk)⟩
theorem ty_len (n : Nat) (f P Q : Nat → Int) (m : Nat) : (tyL n f P Q m).length ≤ 20 := by
  unfold tyL
  cases h : syB n f m with
  | false => simp
  | true =>
    have h2 := of_decide_eq_true (Bool.and_eq_true_iff.1 h).2
    have := dn_len n f P Q m
    rw [if_pos rfl, tk_len]; omega
theorem out_rng {n : Nat} {f P Q : Nat → Int} {k : Nat} (hs : shipB n f = true) (h : goB n f P Q k = true) : 0 ≤ outI n f P Q k ∧ outI n f P Q k ≤ 99 := by
  obtain ⟨h1, h2, _⟩ := okC_iff.1 h
  exact ship_pk (now_ship hs k) (by omega)
theorem ty_64 {n : Nat} {f P Q : Nat → Int} {m : Nat} : ∀ x ∈ tyL n f P Q m, I64 x := by
  intro x hx
  unfold tyL at hx
  cases h : syB n f m with
  | false => rw [h] at hx; cases hx
  | true =>
    rw [h, if_pos rfl] at hx
    unfold tkL at hx
    obtain ⟨k, hk, rfl⟩ := List.mem_map.1 hx
    have := out_rng (Bool.and_eq_true_iff.1 h).1 (List.mem_filter.1 hk).2
    unfold outI at this
    unfold I64; omega
theorem bu_no {n : Nat} {f P Q : Nat → Int} {m : Nat} (h : syB n f m = false) : buB n f P Q m = false := by
  unfold buB; rw [show (shipB n f && decide (m ≤ 20)) = false from h]; rfl
theorem bu_yes {n : Nat} {f P Q : Nat → Int} {m : Nat} (h : syB n f m = true) : buB n f P Q m = decide (cntF n f (tyL n f P Q m).length (fun i => (tyL n f P Q m).getD i 0) = n) := by
  rw [← all_cnt]
  unfold buB
  rw [show (shipB n f && decide (m ≤ 20)) = true from h, Bool.true_and]
  have : tyL n f P Q m = tkL n f P Q m := by unfold tyL; rw [h]; rfl
  rw [this]
  congr 1
  funext k
  rw [inL]

set_option maxRecDepth 100000 in
set_option maxHeartbeats 1600000 in
theorem BuiltAgain_any (a b : Option Addr) (n c m c2 : Nat) (f P Q : Nat → Int) (hc : n ≤ c) (w : World) (hi : Ints w a n f) (hp : Prs w b m P Q) :
    Calls Try.prog 39 #[.slice a n c, .slice b m c2] w fun e w' => e = .returned (.bool (buB n f P Q m)) ∧ Below w.heap.size w w' := by
  have HI := Lib.hid hi; have HP := Lib.hid hp; have hm := hp.1.1; have hn := hi.1.1
  clear hi hp
  cases hs : syB n f m with
  | false =>
    have HS := Lib.hid hs; have HB := Lib.hid (bu_no (P := P) (Q := Q) hs); clear hs
    go_enter Try.func39, Try.ntmps39
    go_wp2_with fail
    refine (storyOk_val _ _ _ _ _ _ _ false HS.out hc hm _ HI.out).mono ?_
    rintro e w' ⟨rfl, rfl⟩
    go_wp2_with fail
    go_ret
    exact ⟨retb HB.out.symm, Below.refl _ _⟩
  | true =>
    have HS := Lib.hid hs; have HB := Lib.hid (bu_yes (P := P) (Q := Q) hs); clear hs
    have hl := ty_len n f P Q m
    have H64 := Lib.hid (ty_64 (n := n) (f := f) (P := P) (Q := Q) (m := m))
    go_enter Try.func39, Try.ntmps39
    go_wp2_with fail
    refine (storyOk_val _ _ _ _ _ _ _ true HS.out hc hm _ HI.out).mono ?_
    rintro e w' ⟨rfl, rfl⟩
    go_wp2_with fail
    refine (TakenOut_any a b n c m c2 f P Q hc _ HI.out HP.out).mono ?_
    rintro e w2 ⟨v, rfl, hown, hb2⟩
    obtain ⟨L, hL⟩ : ∃ L, tyL n f P Q m = L := ⟨_, rfl⟩
    rw [hL] at hown hl H64 HB
    clear hL
    obtain ⟨a2, cap2, rfl, hh⟩ := hown.has (by omega) H64.out
    have HJ := Lib.hid hh.ints
    have HB2 := Lib.hid hb2
    replace HI := Lib.hid (HI.out.next hb2)
    clear hown hh hb2
    go_wp2_with fail
    refine (countAmong_any _ _ _ _ _ _ _ _ _ HI.out HJ.out).mono ?_
    rintro e w3 ⟨rfl, rfl⟩
    have hle := cntF_le n f L.length (fun i => L.getD i 0)
    obtain ⟨s, hs⟩ : ∃ s, cntF n f L.length (fun i => L.getD i 0) = s := ⟨_, rfl⟩
    rw [hs] at HB hle ⊢
    clear hs
    go_wp2_with fail
    go_ret
    refine ⟨retb ?_, HB2.out⟩
    rw [HB.out]
    by_cases e : s = n
    · rw [decide_eq_true e, e]; simp
    · rw [decide_eq_false e]; simp; omega
end Go.Proofs.Ytibjdmmcnhlgnaa
