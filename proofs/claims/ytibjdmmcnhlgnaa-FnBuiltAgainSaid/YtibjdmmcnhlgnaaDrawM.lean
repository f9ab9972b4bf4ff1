import Derived.Test.YtibjdmmcnhlgnaaDrawL
namespace Go.Proofs.Ytibjdmmcnhlgnaa
set_option linter.unusedVariables false
set_option linter.unusedSimpArgs false
open Go.RowKit Go.Maps

theorem OwnX.drawn {w : World} {B : Nat} {v : Value} {xs : List Int} (h : OwnX w B 3 v xs) (hl : xs.length ≤ 7) (h64 : ∀ x ∈ xs, I64 x) :
    ∃ a cap, v = .slice a xs.length cap ∧ xs.length ≤ cap ∧ Ints w a xs.length (fun i => xs.getD i 0) := by
  obtain ⟨a, cap, hv, hh⟩ := h.has (by omega) h64
  refine ⟨a, cap, hv, ?_, hh.ints⟩
  by_cases h1 : 1 ≤ xs.length
  · obtain ⟨g, c2, hv2, _, _, hc, _⟩ := h.shape h1
    rw [hv] at hv2
    cases hv2
    exact hc
  · omega
/-- a ship -/
def ShipD (w : World) (e : Ending) (w' : World) : Prop := ∃ a n cap f, e = .returned (.slice a n cap) ∧ n ≤ 7 ∧ n ≤ cap ∧ Ints w' a n f ∧ Below w.heap.size w w'
/-- two ships -/
def ShipsD (w : World) (e : Ending) (w' : World) : Prop := ∃ a n cap f b m c2 g, e = .returned (.tuple #[.slice a n cap, .slice b m c2]) ∧ (n ≤ 7 ∧ m ≤ 7) ∧ (n ≤ cap ∧ m ≤ c2) ∧ Ints w' a n f ∧ Ints w' b m g ∧ Below w.heap.size w w'
/-- two ships and a number -/
def ShipsI (w : World) (e : Ending) (w' : World) : Prop := ∃ a n cap f b m c2 g x, e = .returned (.tuple #[.slice a n cap, .slice b m c2, .int .i64 x]) ∧ (n ≤ 7 ∧ m ≤ 7) ∧ (n ≤ cap ∧ m ≤ c2) ∧ Hid (-5 ≤ x ∧ x ≤ 5) ∧ Ints w' a n f ∧ Ints w' b m g ∧ Below w.heap.size w w'
/-- a ship and a change -/
def ShipC (w : World) (e : Ending) (w' : World) : Prop := ∃ a n cap f p q, e = .returned (.tuple #[.slice a n cap, .agg #[.int .i64 p, .int .i64 q]]) ∧ n ≤ 7 ∧ n ≤ cap ∧ Hid (I64 p ∧ I64 q) ∧ Ints w' a n f ∧ Below w.heap.size w w'
/-- a ship and changes -/
def ShipL (w : World) (e : Ending) (w' : World) : Prop := ∃ a n cap f b m c2 P Q, e = .returned (.tuple #[.slice a n cap, .slice b m c2]) ∧ (n ≤ 7 ∧ m ≤ 21) ∧ (n ≤ cap ∧ m ≤ c2) ∧ Ints w' a n f ∧ Prs w' b m P Q ∧ Below w.heap.size w w'

set_option maxHeartbeats 800000 in
theorem DrawShipOk_any (a : Option Addr) (n cap : Nat) (w : World) (h : BytesIn w a n cap) :
    Calls Try.prog 17 #[.slice a n cap] w (ShipD w) := by
  have H := Lib.hid h; clear h
  go_enter Try.func17, Try.ntmps17
  go_wp2_with fail
  refine (open_any _ _ _ _ H.out).mono ?_
  rintro e w1 ⟨rfl, hb1, hr1⟩
  have HB := Lib.hid hb1; have HR := Lib.hid hr1; clear hb1 hr1
  go_wp2_with fail
  refine (ship_any _ 0 2 (by omega) (by omega) (by omega) _ HR.out).mono ?_
  rintro e w2 ⟨v, xs, rfl, hl, h64, hown, ho, _⟩
  obtain ⟨b, c, rfl, hc, hi⟩ := hown.drawn hl h64
  have HI := Lib.hid hi; have HB2 := Lib.hid (HB.out.trans (ho.below (Nat.le_refl _) HB.out.size)); clear hi hown ho
  go_wp2_with fail
  go_ret
  exact ⟨_, _, _, _, rfl, hl, hc, HI.out, HB2.out⟩

set_option maxHeartbeats 800000 in
theorem DrawCommonIn_any (a : Option Addr) (n cap : Nat) (w : World) (h : BytesIn w a n cap) :
    Calls Try.prog 21 #[.slice a n cap] w (ShipsD w) := by
  have H := Lib.hid h; clear h
  go_enter Try.func21, Try.ntmps21
  go_wp2_with fail
  refine (open_any _ _ _ _ H.out).mono ?_
  rintro e w1 ⟨rfl, hb1, hr1⟩
  have HB := Lib.hid hb1; have HR := Lib.hid hr1; clear hb1 hr1
  go_wp2_with fail
  refine (ships_any _ 0 (by omega) _ HR.out).mono ?_
  rintro e w2 ⟨v1, xs, v2, ys, rfl, hl, h64, hown1, hown2, ho, _⟩
  obtain ⟨b, c, rfl, hc, hi⟩ := hown1.drawn hl.1 h64.1
  obtain ⟨b2, c2, rfl, hc2, hi2⟩ := hown2.drawn hl.2 h64.2
  have HI := Lib.hid hi; have HI2 := Lib.hid hi2; have HB2 := Lib.hid (HB.out.trans (ho.below (Nat.le_refl _) HB.out.size)); clear hi hi2 hown1 hown2 ho
  go_wp2_with fail
  go_ret2
  exact ⟨_, _, _, _, _, _, _, _, rfl, hl, ⟨hc, hc2⟩, HI.out, HI2.out, HB2.out⟩

theorem tdiv_small (x d : Nat) (hd : 1 ≤ d) : ((x : Int).tdiv (d : Int)) = ((x / d : Nat) : Int) := by
  rw [Int.tdiv_eq_ediv_of_nonneg (by omega)]; rfl

set_option maxRecDepth 100000 in
set_option maxHeartbeats 1600000 in
theorem DrawMostlyOk_any (a : Option Addr) (n cap : Nat) (w : World) (h : BytesIn w a n cap) :
    Calls Try.prog 24 #[.slice a n cap] w (ShipsI w) := by
  have H := Lib.hid h; clear h
  go_enter Try.func24, Try.ntmps24
  go_wp2_with fail
  refine (open_any _ _ _ _ H.out).mono ?_
  rintro e w1 ⟨rfl, hb1, hr1⟩
  have HB := Lib.hid hb1; have HR := Lib.hid hr1; clear hb1 hr1
  go_wp2_with fail
  refine (ships_any _ 0 (by omega) _ HR.out).mono ?_
  rintro e w2 ⟨v1, xs, v2, ys, rfl, hl, h64, hown1, hown2, ho, hr⟩
  have HO1 := Lib.hid hown1; have HO2 := Lib.hid hown2; have HO := Lib.hid ho; have HR2 := Lib.hid hr; have H64 := Lib.hid h64
  obtain ⟨a1, c1, rfl⟩ := HO1.out.slice
  obtain ⟨a2, c2, rfl⟩ := HO2.out.slice
  clear hown1 hown2 ho hr h64
  go_wp2_with fail
  refine (pick_any _ _ 4 (by omega) _ HR2.out).mono ?_
  rintro e w3 ⟨x, rfl, hx, ho3, hr3⟩
  have hx4 : x < 4 := by omega
  have HO3 := Lib.hid ho3; have HR3 := Lib.hid hr3; clear ho3 hr3 hx
  go_wp2_with fail
  refine (pick_any _ _ 20 (by omega) _ HR3.out).mono ?_
  rintro e w4 ⟨y, rfl, hy, ho4, _⟩
  have hy20 : y < 20 := by omega
  have hOO := HO3.out.trans ho4
  obtain ⟨b1, d1, e1, hc1, hi1⟩ := (HO1.out.lift hOO HR.out.1).drawn hl.1 H64.out.1
  obtain ⟨b2, d2, e2, hc2, hi2⟩ := (HO2.out.lift hOO HR.out.1).drawn hl.2 H64.out.2
  cases e1; cases e2
  have HI := Lib.hid hi1; have HI2 := Lib.hid hi2; have HB2 := Lib.hid (HB.out.trans ((HO.out.trans hOO).below (Nat.le_refl _) HB.out.size))
  have hq : (y : Int).tdiv 19 = ((y / 19 : Nat) : Int) := tdiv_small y 19 (by omega)
  have hyq : y / 19 ≤ 1 := by omega
  clear hi1 hi2 hOO ho4 hy
  go_wp2_with fail
  go_ret3
  exact ⟨_, _, _, _, _, _, _, _, _, rfl, hl, ⟨hc1, hc2⟩, Lib.hid (by omega), HI.out, HI2.out, HB2.out⟩

theorem results_tmp_change {fn : Func} {p u : Tmp} (h : fn.results = #[.tmp u, .cell p 36]) (tmps : Array Value) (w : World) (B : Nat) {x y z : Value} (hB : Blk2 w B 36 x y) (hp : tmps.getD p undef = .pointer (some ⟨B, 0, none⟩)) (hu : tmps.getD u undef = z)
    (hi : (Try.prog.info? 36).map (·.size) = some 2) :
    (results fn tmps).run Try.prog w = .ok (.tuple #[z, .agg #[x, y]]) w := by
  have hp' : tmps[p]?.getD undef = .pointer (some ⟨B, 0, none⟩) := by simpa using hp
  have hu' : tmps[u]?.getD undef = z := by simpa using hu
  simp [results, h, hp', hu', asAddr, run_loadVar_row w B 36 36 #[x, y] (0, 0) _ hB Try.underlying36 rfl hi]

set_option maxRecDepth 100000 in
set_option maxHeartbeats 3200000 in
theorem DrawChangedOf_any (a : Option Addr) (n cap : Nat) (w : World) (h : BytesIn w a n cap) :
    Calls Try.prog 27 #[.slice a n cap] w (ShipC w) := by
  have hab := alloc_below w (.cells #[.int .i64 0, .int .i64 0] 36)
  have hk0 := Blk2.new w 36 (.int .i64 0) (.int .i64 0)
  have hsz : (w.alloc (.cells #[.int .i64 0, .int .i64 0] 36)).heap.size = w.heap.size + 1 := alloc_size _ _
  have H := Lib.hid (show BytesIn (w.alloc (.cells #[.int .i64 0, .int .i64 0] 36)) a n cap by
    obtain ⟨h1, h2, h3⟩ := h
    refine ⟨h1, h2, ?_⟩
    rcases h3 with h3 | ⟨b, o, g, e, hl, hby⟩
    · exact .inl h3
    · exact .inr ⟨b, o, g, e, by rw [hsz]; omega, fun i hi => ⟨(hab.cell (p := ⟨b, o + i, none⟩) hl).trans (hby i hi).1, (hby i hi).2⟩⟩)
  have HAB := Lib.hid hab; have HK := Lib.hid hk0; have HSZ := Lib.hid hsz
  clear h hab hk0 hsz
  obtain ⟨w0, hw0⟩ : ∃ w0, w.alloc (.cells #[.int .i64 0, .int .i64 0] 36) = w0 := ⟨_, rfl⟩
  rw [hw0] at H HAB HK HSZ
  go_enter Try.func27, Try.ntmps27
  go_wp2_with fail
  refine (open_any _ _ _ _ H.out).mono ?_
  rintro e w1 ⟨rfl, hb1, hr1⟩
  have HB := Lib.hid hb1; have HR := Lib.hid hr1
  replace HK := Lib.hid (HK.out.kept hb1 (by have := HSZ.out; omega))
  clear hb1 hr1 hw0
  go_wp2_with fail
  refine (ship_any _ 0 12 (by omega) (by omega) (by omega) _ HR.out).mono ?_
  rintro e w2 ⟨v, xs, rfl, hl, h64, hown, ho, hr⟩
  have HO1 := Lib.hid hown; have HO := Lib.hid ho; have HR2 := Lib.hid hr; have H64 := Lib.hid h64
  obtain ⟨a1, c1, rfl⟩ := HO1.out.slice
  clear hown ho hr h64
  go_wp2_with fail
  refine (pick_any _ _ 7 (by omega) _ HR2.out).mono ?_
  rintro e w3 ⟨x, rfl, hx, ho3, hr3⟩
  have hx7 : x < 7 := by omega
  replace HO := Lib.hid (HO.out.trans ho3); replace HO1 := Lib.hid (HO1.out.lift ho3 HR.out.1); have HR3 := Lib.hid hr3; clear ho3 hr3 hx HR2
  go_wp2_with fail
  refine (pick_any _ _ 20 (by omega) _ HR3.out).mono ?_
  rintro e w4 ⟨y, rfl, hy, ho4, hr4⟩
  have hy20 : y < 20 := by omega
  have hq : (y : Int).tdiv 19 = ((y / 19 : Nat) : Int) := tdiv_small y 19 (by omega)
  have hyq : y / 19 ≤ 1 := by omega
  replace HO := Lib.hid (HO.out.trans ho4); replace HO1 := Lib.hid (HO1.out.lift ho4 HR.out.1); have HR4 := Lib.hid hr4; clear ho4 hr4 hy HR3
  go_wp2_with fail
  refine (pick_any _ _ 20 (by omega) _ HR4.out).mono ?_
  rintro e w5 ⟨u, rfl, hu, ho5, hr5⟩
  have hu20 : u < 20 := by omega
  replace HO := Lib.hid (HO.out.trans ho5); replace HO1 := Lib.hid (HO1.out.lift ho5 HR.out.1); have HR5 := Lib.hid hr5; clear ho5 hr5 hu HR4
  go_wp2_with fail
  refine (pick_any _ _ 30 (by omega) _ HR5.out).mono ?_
  rintro e w6 ⟨v, rfl, hv, ho6, hr6⟩
  have hv30 : v < 30 := by omega
  have hq2 : (v : Int).tdiv 29 = ((v / 29 : Nat) : Int) := tdiv_small v 29 (by omega)
  have hvq : v / 29 ≤ 1 := by omega
  replace HO := Lib.hid (HO.out.trans ho6); replace HO1 := Lib.hid (HO1.out.lift ho6 HR.out.1); clear ho6 hr6 hv HR5
  have HKB := Lib.hid (show Blk2 w6 w.heap.size 36 (.int .i64 0) (.int .i64 0) from (HO.out.block _ (by have := HB.out.size; have := HSZ.out; omega) (by have := HSZ.out; omega)).trans HK.out)
  obtain ⟨hk1, hk2⟩ := HKB.out.cell
  have hkf0 := HKB.out.frozen 0
  have hkf1 := HKB.out.frozen 1
  go_wp2_with fail
  have hb6 : Below w.heap.size w w6 := HAB.out.trans ((HB.out.mono (by have := HSZ.out; omega)).trans (HO.out.below (by have := HSZ.out; omega) (by have := HB.out.size; have := HSZ.out; omega)))
  have hOn : ∀ (W : World) (i : Nat) (z : Value), Only w.heap.size W (W.setCell ⟨w.heap.size, i, none⟩ z) := fun W i z => (Only.refl w.heap.size W).setCell i z
  have hO2 : OwnX ((w6.setCell ⟨w.heap.size, 0, none⟩ (.int .i64 ((x : Int) - (y : Int) / 19))).setCell ⟨w.heap.size, 1, none⟩ (.int .i64 ((u : Int) + (v : Int) / 29 * 90))) w1.heap.size 3 (.slice a1 xs.length c1) xs :=
    (HO1.out.lift (hOn _ _ _) (by have := HB.out.size; have := HSZ.out; omega)).lift (hOn _ _ _) (by have := HB.out.size; have := HSZ.out; omega)
  obtain ⟨b1, d1, e1, hc1, hi1⟩ := hO2.drawn hl H64.out
  cases e1
  refine bodyPost_ret (results_tmp_change rfl _ _ w.heap.size ((HKB.out.set0 _).set1 _) rfl rfl (by kernel_rfl)) rfl ?_
  exact ⟨_, _, _, _, _, _, rfl, hl, hc1, Lib.hid (by unfold I64; omega), hi1, (hb6.setCell (p := ⟨w.heap.size, 0, none⟩) (Nat.le_refl _) _).setCell (p := ⟨w.heap.size, 1, none⟩) (Nat.le_refl _) _⟩

set_option maxRecDepth 100000 in
set_option maxHeartbeats 1600000 in
theorem DrawStoryOf_any (a : Option Addr) (n cap : Nat) (w : World) (h : BytesIn w a n cap) :
    Calls Try.prog 31 #[.slice a n cap] w (ShipL w) := by
  have H := Lib.hid h; clear h
  go_enter Try.func31, Try.ntmps31
  go_wp2_with fail
  refine (open_any _ _ _ _ H.out).mono ?_
  rintro e w1 ⟨rfl, hb1, hr1⟩
  have HB := Lib.hid hb1; have HR := Lib.hid hr1; clear hb1 hr1
  go_wp2_with fail
  refine (ship_any _ 0 12 (by omega) (by omega) (by omega) _ HR.out).mono ?_
  rintro e w2 ⟨v, xs, rfl, hl, h64, hown, ho, hr⟩
  have HO1 := Lib.hid hown; have HO := Lib.hid ho; have HR2 := Lib.hid hr; have H64 := Lib.hid h64
  obtain ⟨a1, c1, rfl⟩ := HO1.out.slice
  clear hown ho hr h64
  go_wp2_with fail
  refine (changes_any _ _ (by omega) _ HR2.out).mono ?_
  rintro e w3 ⟨b, m, c2, F, G, rfl, hm, hc2, hp, ho3, _⟩
  obtain ⟨b1, d1, e1, hc1, hi1⟩ := (HO1.out.lift ho3 HR.out.1).drawn hl H64.out
  cases e1
  have HI := Lib.hid hi1; have HP := Lib.hid hp; have HB2 := Lib.hid (HB.out.trans ((HO.out.trans ho3).below (Nat.le_refl _) HB.out.size))
  clear hi1 hp ho3
  go_wp2_with fail
  go_ret2
  exact ⟨_, _, _, _, _, _, _, _, _, rfl, ⟨hl, hm⟩, ⟨hc1, hc2⟩, HI.out, HP.out, HB2.out⟩

set_option maxHeartbeats 800000 in
theorem DrawTakenOut_any (a : Option Addr) (n cap : Nat) (w : World) (h : BytesIn w a n cap) :
    Calls Try.prog 34 #[.slice a n cap] w (ShipL w) := by
  have H := Lib.hid h; clear h
  go_enter Try.func34, Try.ntmps34
  go_wp2_with fail
  refine (DrawStoryOf_any _ _ _ _ H.out).mono ?_
  rintro e w2 ⟨a2, n2, c2, f, b, m, c3, P, Q, rfl, hl, hc, hi, hp, hb⟩
  have HI := Lib.hid hi; have HP := Lib.hid hp; have HB := Lib.hid hb
  clear hi hp hb
  go_wp2_with fail
  go_ret2
  exact ⟨_, _, _, _, _, _, _, _, _, rfl, hl, hc, HI.out, HP.out, HB.out⟩

set_option maxHeartbeats 800000 in
theorem DrawBuiltAgain_any (a : Option Addr) (n cap : Nat) (w : World) (h : BytesIn w a n cap) :
    Calls Try.prog 38 #[.slice a n cap] w (ShipL w) := by
  have H := Lib.hid h; clear h
  go_enter Try.func38, Try.ntmps38
  go_wp2_with fail
  refine (DrawStoryOf_any _ _ _ _ H.out).mono ?_
  rintro e w2 ⟨a2, n2, c2, f, b, m, c3, P, Q, rfl, hl, hc, hi, hp, hb⟩
  have HI := Lib.hid hi; have HP := Lib.hid hp; have HB := Lib.hid hb
  clear hi hp hb
  go_wp2_with fail
  go_ret2
  exact ⟨_, _, _, _, _, _, _, _, _, rfl, hl, hc, HI.out, HP.out, HB.out⟩
end Go.Proofs.Ytibjdmmcnhlgnaa
