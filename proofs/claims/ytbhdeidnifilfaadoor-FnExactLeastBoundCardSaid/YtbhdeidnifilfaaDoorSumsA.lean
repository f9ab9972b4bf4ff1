import Derived.Test.YtbhdeidnifilfaaDoorSumsS
namespace Go.Proofs.YtbhdeidnifilfaaDoor
open Go.RowKit

theorem within_val (x y : Int) (v : Bool) (w : World) (hv : withinB x y = v) :
    Calls Tryd.prog 30 #[.int .i64 x, .int .i64 y] w fun e w' => e = .returned (.bool v) ∧ w = w' := by
  subst hv; exact within_any x y w
theorem has_val (x : Int) (a : Nat) (v : Bool) (w : World) (hv : hasB x a = v) (ha : a ≤ 63) :
    Calls Tryd.prog 34 #[.int .i64 x, .int .i64 a] w fun e w' => e = .returned (.bool v) ∧ w = w' := by
  subst hv; exact has_any x a ha w

/-- what worldWithSet hands back -/
def SetEnd (n : Nat) (f : Nat → Int) (s : Int) (w : World) (e : Ending) (w' : World) : Prop :=
  Below w.heap.size w w' ∧ ((setB n f s = true ∧ e = .returned (.tuple #[.slice (some ⟨w.heap.size, 0, none⟩) n n, .int .i64 s, .bool true]) ∧ w.heap.size < w'.heap.size ∧ Row w' w.heap.size 0 n f)
    ∨ (setB n f s = false ∧ e = .returned (.tuple #[.slice none 0 0, .int .i64 0, .bool false])))

set_option maxHeartbeats 1600000 in
theorem worldWithSet_any (a : Option Addr) (n cap : Nat) (f : Nat → Int) (s : Int) (hs64 : I64 s) (w : World) (hi : Ints w a n f) :
    Calls Tryd.prog 17 #[.slice a n cap, .int .i64 s] w (SetEnd n f s w) := by
  have he := setB_eq (n := n) (f := f) hs64
  have HN := Lib.hid hi; clear hi
  cases h0 : (s == 0) with
  | true =>
    have HF := Lib.hid (show setB n f s = false by rw [he, h0]; simp)
    clear he
    go_enter Tryd.func17, Tryd.ntmps17
    go_wp2_with fail
    refine (worldOf_end a n cap f w HN.out).mono ?_
    rintro e w' ⟨hbel, ⟨hb, rfl, hs, hr⟩ | ⟨hb, rfl⟩⟩
    · clear hb hr
      go_wp2_with fail
      go_ret3
      exact ⟨hbel, .inr ⟨HF.out, rfl⟩⟩
    · clear hb
      go_wp2_with fail
      go_ret3
      exact ⟨hbel, .inr ⟨HF.out, rfl⟩⟩
  | false =>
    cases hx : withinB s (2 ^ n - 1) with
    | true =>
      have HF := Lib.hid (show setB n f s = worldB n f by rw [he, h0, hx]; simp)
      have HX := Lib.hid hx
      clear he hx
      go_enter Tryd.func17, Tryd.ntmps17
      go_wp2_with fail
      refine (worldOf_end a n cap f w HN.out).mono ?_
      rintro e w' ⟨hbel, ⟨hb, rfl, hs, hr⟩ | ⟨hb, rfl⟩⟩
      · have hfin := Lib.hid (HF.out.trans hb)
        have h7 := (worldB_7 hb).2
        have HR := Lib.hid hr
        clear hb hr
        go_wp2_with fail
        refine (all_any _ _ _ h7 _).mono ?_
        rintro e w2 ⟨rfl, rfl⟩
        go_wp2_with fail
        refine (within_val s (2 ^ n - 1) true _ HX.out).mono ?_
        rintro e w2 ⟨rfl, rfl⟩
        go_wp2_with fail
        go_ret3
        exact ⟨hbel, .inl ⟨hfin.out, rfl, hs, HR.out⟩⟩
      · have hfin := Lib.hid (HF.out.trans hb)
        clear hb
        go_wp2_with fail
        go_ret3
        exact ⟨hbel, .inr ⟨hfin.out, rfl⟩⟩
    | false =>
      have HF := Lib.hid (show setB n f s = false by rw [he, h0, hx]; simp)
      have HX := Lib.hid hx
      clear he hx
      go_enter Tryd.func17, Tryd.ntmps17
      go_wp2_with fail
      refine (worldOf_end a n cap f w HN.out).mono ?_
      rintro e w' ⟨hbel, ⟨hb, rfl, hs, hr⟩ | ⟨hb, rfl⟩⟩
      · have h7 := (worldB_7 hb).2
        clear hb hr
        go_wp2_with fail
        refine (all_any _ _ _ h7 _).mono ?_
        rintro e w2 ⟨rfl, rfl⟩
        go_wp2_with fail
        refine (within_val s (2 ^ n - 1) false _ HX.out).mono ?_
        rintro e w2 ⟨rfl, rfl⟩
        go_wp2_with fail
        go_ret3
        exact ⟨hbel, .inr ⟨HF.out, rfl⟩⟩
      · clear hb
        go_wp2_with fail
        go_ret3
        exact ⟨hbel, .inr ⟨HF.out, rfl⟩⟩

set_option maxHeartbeats 1600000 in
theorem met_any (bk n cap : Nat) (f : Nat → Int) (s : Int) (hn : n ≤ 7) (w : World) (hr : Row w bk 0 n f) (hlt : bk < w.heap.size) :
    Calls Tryd.prog 40 #[.slice (some ⟨bk, 0, none⟩) n cap, .int .i64 s] w fun e w' => e = .returned (.int .i64 (metI n f s)) ∧ Below w.heap.size w w' := by
  have HR := Lib.hid hr; clear hr
  go_enter Tryd.func40, Tryd.ntmps40
  go_wp2_with fail
  go_loopw [5, 9] (fun v i wr => ∃ k : Nat, k ≤ n ∧ i = .int .i64 k ∧ v = .int .i64 (metK n f s k) ∧ Below w.heap.size w wr) (fun _ i _ => n - (intOf i).toNat)
  case atStart => exact ⟨0, Nat.zero_le _, rfl, rfl, Below.refl _ _⟩
  case round =>
    obtain ⟨k, hk, rfl, rfl, hd⟩ := hrel
    by_cases hk2 : k < n
    · have hki : (k : Int) < (n : Int) := by omega
      have hk63 : k ≤ 63 := by omega
      cases hb : hasB s k with
      | true =>
        have HS := Lib.hid (metK_yes (n := n) (f := f) hb); have HB := Lib.hid hb; clear hb
        go_wp2_with fail
        refine (has_val s k true _ HB.out hk63).mono ?_
        rintro e w1 ⟨rfl, rfl⟩
        go_wp2_with fail
        refine (meeting_any bk n cap k f hn hk2 _ (HR.out.below hd hlt) (Nat.lt_of_lt_of_le hlt hd.size)).mono ?_
        rintro e w1 ⟨rfl, hb1⟩
        replace hd := hd.trans (hb1.mono hd.size)
        clear hb1
        go_wp2_with fail
        go_roundw
        case rel => exact ⟨k + 1, by omega, by go_num, by rw [HS.out], hd⟩
        case measure => simp [intOf]; omega
      | false =>
        have HS := Lib.hid (metK_no (n := n) (f := f) hb); have HB := Lib.hid hb; clear hb
        go_wp2_with fail
        refine (has_val s k false _ HB.out hk63).mono ?_
        rintro e w1 ⟨rfl, rfl⟩
        go_wp2_with fail
        go_roundw
        case rel => exact ⟨k + 1, by omega, by go_num, by rw [HS.out], hd⟩
        case measure => simp [intOf]; omega
    · have hkn : k = n := by omega
      subst hkn
      go_wp2_with fail
      go_ret
      exact ⟨rfl, hd⟩

set_option maxHeartbeats 800000 in
theorem boundsC_any (bk n cap p q : Nat) (b : Nat) (f : Nat → Int) (s : Int) (hb : b < n) (w : World) (hr : Row w bk 0 n f)
    (hp : w.cell? ⟨p, 0, none⟩ = some (.int .i64 s)) (hq : w.cell? ⟨q, 0, none⟩ = some (.slice (some ⟨bk, 0, none⟩) n cap)) :
    Calls Tryd.prog 37 #[.int .i64 b, .pointer (some ⟨p, 0, none⟩), .pointer (some ⟨q, 0, none⟩)] w fun e w' => e = .returned (.bool (withinB s (f b))) ∧ Drew w w' := by
  have hc := hr b hb
  rw [Nat.zero_add] at hc
  have hbi : (b : Int) < (n : Int) := by omega
  cases hg : withinB s (f b) with
  | true =>
    have HG := Lib.hid hg; clear hg
    go_enter Tryd.func37, Tryd.ntmps37
    go_wp2_with fail
    go_quiet ((go_at_call 30; exact quiet_left (within_val _ _ true _ HG.out)))
    go_wp2_with fail
    go_ret
    exact ⟨rfl, _, rfl⟩
  | false =>
    have HG := Lib.hid hg; clear hg
    go_enter Tryd.func37, Tryd.ntmps37
    go_wp2_with fail
    go_quiet ((go_at_call 30; exact quiet_left (within_val _ _ false _ HG.out)))
    go_wp2_with fail
    go_ret
    exact ⟨rfl, _, rfl⟩

set_option maxHeartbeats 800000 in
theorem bounds_any (bk n cap : Nat) (f : Nat → Int) (s : Int) (hn : n ≤ 7) (w : World) (hr : Row w bk 0 n f) (hlt : bk < w.heap.size) :
    Calls Tryd.prog 19 #[.slice (some ⟨bk, 0, none⟩) n cap, .int .i64 s] w fun e w' => e = .returned (.int .i64 (boundsI n f s)) ∧ Below w.heap.size w w' := by
  obtain ⟨hc1, hc2, hbel⟩ := two_cells w (.slice (some ⟨bk, 0, none⟩) n cap) (.int .i64 s) 39 40
  replace hr := hr.below hbel hlt
  have hE : ∀ (args : Array Value) (w : World), Sem.run Tryd.prog (callFunc 37 args) w = .ok (.enter 37 args) w := enters_of Tryd.func37 (by kernel_rfl) rfl
  have H1 := Lib.hid hc1; have H2 := Lib.hid hc2; have HE := Lib.hid hE; clear hc1 hc2 hE
  go_enter Tryd.func19, Tryd.ntmps19
  go_wp2_with fail
  refine (those_any _ _ _ _ _ _ (fun b => withinB s (f b)) hn _ HE.out ?_).mono ?_
  · rintro wr b hb ⟨m, rfl⟩
    exact boundsC_any bk n cap _ _ b f s hb _ (hr.drewN m) (by rw [World.cell?_drewN]; exact H2.out) (by rw [World.cell?_drewN]; exact H1.out)
  · rintro e w' ⟨rfl, m, rfl⟩
    go_wp2_with fail
    go_ret
    exact ⟨rfl, below_drewN hbel m⟩

end Go.Proofs.YtbhdeidnifilfaaDoor
