import Derived.Test.YtacoeaoaabjkoaaPcB
import Derived.Test.YtacoeaoaabjkoaaGrdD
namespace Go.Proofs.Ytacoeaoaabjkoaa
open Go.RowKit Go.Shelf Go.Maps
attribute [local go_sem] Oper.semAt_some

/-- what rests on blocks below B abides whatever comes from B on -/
theorem ownFrom_of {β : Type} {B : Nat} {K : β → World → Prop} (hK : ∀ s X Y, K s X → Below B X Y → K s Y) (hs : ∀ s X, K s X → B ≤ X.heap.size) : OwnFrom B K := fun s X Y row hk hg hr =>
  hK s X Y hk ⟨hg.os, hg.tape, hg.output, hg.size, fun k hkB => hg.block k (by have := hs s X hk; omega) (fun e => by have := (hr k e.symm).1; omega)⟩
theorem boxed_below {W W' : World} {B C : Nat} {t : TypeId} {v : Value} (h : Boxed W B t v) (hb : Below C W W') (hlt : B < C) : Boxed W' B t v := (hb.block B hlt).trans h
theorem boxed_only {W W' : World} {B C : Nat} {t : TypeId} {v : Value} (h : Boxed W B t v) (hb : Only C W W') (hne : B ≠ C) : Boxed W' B t v := (hb.block B h.lt hne).trans h
theorem Arr7.only {W W' : World} {B C : Nat} {t : TypeId} {g : Nat → Int} (h : Arr7 W B t g) (hb : Only C W W') (hne : B ≠ C) : Arr7 W' B t g := (hb.block B h.lt hne).trans h
theorem keepsFrom_below {B C : Nat} {W X Y : World} (h : KeepsFrom B W X) (hb : Below C X Y) (hC : W.heap.size ≤ C) : KeepsFrom B W Y :=
  ⟨Nat.le_trans h.size hb.size, fun k o hk hw ho => (hb.block k (by have := (Array.getElem?_eq_some_iff.1 hw).1; omega)).trans (h.same k o hk hw ho)⟩

theorem KeptC.only {Bp U : Nat} {A B : World} (h : Only U A B) (hB : Bp < A.heap.size) (hne : Bp ≠ U) : KeptC Bp A B := World.cell?_of_block (w := A) (a := ⟨Bp, 0, none⟩) (h.block Bp hB hne)
theorem below_of_drew {W w' : World} (h : Below W.drew.heap.size W.drew w') : Below W.heap.size W w' := (below_drewN (Below.refl _ W) 1).trans h
/-- the neighbours, within the set, of a place of it -/
theorem ar_one {n : Nat} {f : Nat → Int} {s : Int} {p i : Nat} (hp : p < n) (hi : i < 64) : hasB (bits .and .i64 s (arI f (2 ^ p) n)) i = (hasB s i && hasB (f p) i) := by
  show hasB (andI _ _) i = _
  rw [and_bit _ _ _ hi]
  congr 1
  rw [Bool.eq_iff_iff, arI_bit _ _ _ _ hi]
  constructor
  · rintro ⟨j, _, h1, h2⟩
    rw [hasB_pow8, decide_eq_true_eq] at h1
    subst h1; exact h2
  · intro h
    exact ⟨p, hp, pw_self p, h⟩

/-- what united's own variables hold -/
structure UnP (n g cap R U : Nat) (f : Nat → Int) (s : Int) (D : Nat → Nat → Prop) (w W : World) : Prop where
  up : ∃ u : Nat → Nat, Arr7 W U 66 (fun j => (u j : Int)) ∧ UfP n f s u D
  ar : Boxed W R 36 (.func (.func 61) #[.agg #[.int .i64 (2 ^ n - 1), .slice (some ⟨g, 0, none⟩) n cap]] #[])
  st : Boxed W (R + 1) 40 (.int .i64 s)
  re : Arr7 W (R + 1 + 1) 66 (fun _ => 0)
  bel : Below R w W
theorem UnP.kept {n g cap R U C : Nat} {f : Nat → Int} {s : Int} {D : Nat → Nat → Prop} {w X Y : World} (h : UnP n g cap R U f s D w X) (hb : Below C X Y) (hU : U < C) (hR : R + 1 + 1 < C) : UnP n g cap R U f s D w Y := by
  obtain ⟨u, h1, h2⟩ := h.up
  exact ⟨⟨u, h1.kept hb hU, h2⟩, boxed_below h.ar hb (by omega), boxed_below h.st hb (by omega), h.re.kept hb (by omega), h.bel.trans (hb.mono (by omega))⟩
theorem UnP.mono {n g cap R U : Nat} {f : Nat → Int} {s : Int} {D D' : Nat → Nat → Prop} {w X : World} (h : UnP n g cap R U f s D w X) (hd : ∀ i j, D' i j → D i j) : UnP n g cap R U f s D' w X := by
  obtain ⟨u, h1, h2⟩ := h.up
  exact ⟨⟨u, h1, h2.mono hd⟩, h.ar, h.st, h.re, h.bel⟩
/-- the edges of the places that have come -/
def EdgO (n : Nat) (f : Nat → Int) (s : Int) (pre : List (Pl s)) (i j : Nat) : Prop := Edg n f s i j ∧ ∃ x, x ∈ pre ∧ x.1 = i
def EdgI (n : Nat) (f : Nat → Int) (s : Int) (pre : List (Pl s)) (x : Nat) {s2 : Int} (pre2 : List (Pl s2)) (i j : Nat) : Prop := EdgO n f s pre i j ∨ (i = x ∧ ∃ y, y ∈ pre2 ∧ y.1 = j)

set_option maxRecDepth 100000 in
set_option maxHeartbeats 4000000 in
theorem united_any (g n cap : Nat) (f : Nat → Int) (s : Int) (hT : ThP n f s) (w : World) (hr : Row w g 0 n f) (hg : g < w.heap.size) :
    Calls Try.prog 66 #[.func (.func 61) #[.agg #[.int .i64 (2 ^ n - 1), .slice (some ⟨g, 0, none⟩) n cap]] #[], .int .i64 s] w fun e w' =>
      (∃ u : Nat → Nat, UfP n f s u (Edg n f s) ∧ e = .returned (.agg #[.int .i64 (u 0), .int .i64 (u 1), .int .i64 (u 2), .int .i64 (u 3), .int .i64 (u 4), .int .i64 (u 5), .int .i64 (u 6)])) ∧ Below w.heap.size w w' := by
  have HR := Lib.hid hr; have HT := Lib.hid hT; clear hr hT
  refine (callsIn_wide (n := 19)).1 ?_
  refine callsIn_of_wp_marks Try.func66 rfl trivial ?_ rfl
  simp only [Try.ntmps66, List.size_toArray, List.length_cons, List.length_nil, Nat.reduceAdd, Nat.reduceSub, Array.replicate_succ, Array.replicate_zero, List.push_toArray, List.append_toArray, List.nil_append, List.cons_append]
  gi_wp2_with fail
  have b0 := (Boxed.new w 36 (.func (.func 61) #[.agg #[.int .i64 (2 ^ n - 1), .slice (some ⟨g, 0, none⟩) n cap]] #[])).alloc (.cells #[.int .i64 s] 40)
  have b1 := Boxed.new (w.alloc (.cells #[.func (.func 61) #[.agg #[.int .i64 (2 ^ n - 1), .slice (some ⟨g, 0, none⟩) n cap]] #[]] 36)) 40 (.int .i64 s)
  have b2 := Arr7.new ((w.alloc (.cells #[.func (.func 61) #[.agg #[.int .i64 (2 ^ n - 1), .slice (some ⟨g, 0, none⟩) n cap]] #[]] 36)).alloc (.cells #[.int .i64 s] 40)) 66 (fun _ => 0)
  replace b0 := b0.alloc (.cells #[.int .i64 0, .int .i64 0, .int .i64 0, .int .i64 0, .int .i64 0, .int .i64 0, .int .i64 0] 66)
  replace b1 := b1.alloc (.cells #[.int .i64 0, .int .i64 0, .int .i64 0, .int .i64 0, .int .i64 0, .int .i64 0, .int .i64 0] 66)
  have hB0 : Below w.heap.size w (((w.alloc (.cells #[.func (.func 61) #[.agg #[.int .i64 (2 ^ n - 1), .slice (some ⟨g, 0, none⟩) n cap]] #[]] 36)).alloc (.cells #[.int .i64 s] 40)).alloc (.cells #[.int .i64 0, .int .i64 0, .int .i64 0, .int .i64 0, .int .i64 0, .int .i64 0, .int .i64 0] 66)) :=
    (((Below.refl _ w).alloc (Nat.le_refl _) _).alloc (by simp) _).alloc (by simp; omega) _
  simp only [World.size_alloc] at b1 b2
  obtain ⟨w3, hw3⟩ : ∃ w3, ((w.alloc (.cells #[.func (.func 61) #[.agg #[.int .i64 (2 ^ n - 1), .slice (some ⟨g, 0, none⟩) n cap]] #[]] 36)).alloc (.cells #[.int .i64 s] 40)).alloc (.cells #[.int .i64 0, .int .i64 0, .int .i64 0, .int .i64 0, .int .i64 0, .int .i64 0, .int .i64 0] 66) = w3 := ⟨_, rfl⟩
  rw [hw3] at b0 b1 b2 hB0 ⊢
  clear hw3
  obtain ⟨R, hR⟩ : ∃ R, w.heap.size = R := ⟨_, rfl⟩
  rw [hR] at b0 b1 b2 hB0 hg ⊢
  have HRZ := Lib.hid hR; clear hR
  refine ⟨trivial, (callsIn_wide.2 (parentsApart_any w3)).mono ?_⟩
  rintro e w4 ⟨rfl, hb4⟩
  replace b0 := (boxed_below b0 hb4 b0.lt).alloc (.cells #[.int .i64 0, .int .i64 0, .int .i64 0, .int .i64 0, .int .i64 0, .int .i64 0, .int .i64 0] 66)
  replace b1 := (boxed_below b1 hb4 b1.lt).alloc (.cells #[.int .i64 0, .int .i64 0, .int .i64 0, .int .i64 0, .int .i64 0, .int .i64 0, .int .i64 0] 66)
  have h3s := b2.lt
  have hlt2 : R + 1 + 1 < w4.heap.size := Nat.lt_of_lt_of_le b2.lt hb4.size
  have b3 := Arr7.new w4 66 (fun _ => 0)
  replace b2 := (b2.kept hb4 b2.lt).kept (alloc_below w4 (.cells #[.int .i64 0, .int .i64 0, .int .i64 0, .int .i64 0, .int .i64 0, .int .i64 0, .int .i64 0] 66)) hlt2
  replace hB0 := (hB0.trans (hb4.mono (by omega))).trans ((alloc_below w4 (.cells #[.int .i64 0, .int .i64 0, .int .i64 0, .int .i64 0, .int .i64 0, .int .i64 0, .int .i64 0] 66)).mono (by omega))
  have hsz5 : (w4.alloc (.cells #[.int .i64 0, .int .i64 0, .int .i64 0, .int .i64 0, .int .i64 0, .int .i64 0, .int .i64 0] 66)).heap.size = w4.heap.size + 1 := by rw [alloc_size]
  clear hb4
  gi_wp2_with (refine wpListIn_store7 rfl 66 (.tmp 5) (.tmp 8) rfl w4.heap.size 66 b3 (fun j => (j : Int)) (by kernel_rfl) rfl rfl ?_)
  intro w5 b5 ho5 _
  obtain ⟨U, hU⟩ : ∃ U, w4.heap.size = U := ⟨_, rfl⟩
  rw [hU] at b5 ho5 hlt2 hsz5 ⊢
  replace b0 := boxed_only b0 ho5 (by omega)
  replace b1 := boxed_only b1 ho5 (by omega)
  replace b2 := b2.only ho5 (by omega)
  replace hB0 := hB0.trans (ho5.below (show R ≤ U by omega) (by omega))
  have hU5 := b5.lt
  have hc1 := b1.cell
  have HU := Lib.hid hU; clear hU b3 hsz5 ho5
  gi_wp2_with fail
  refine ⟨trivial, (callsIn_wide.2 (each_any s w5)).mono ?_⟩
  rintro e w6 ⟨rfl, rfl⟩
  gi_wp2_with fail
  have bV := Boxed.new w5 40 (.int .i64 s)
  have hUn : UnP n g cap R U f s (EdgO n f s []) w (w5.alloc (.cells #[.int .i64 s] 40)) :=
    ⟨⟨fun i => i, (b5.kept (alloc_below w5 _) hU5), UfP.start.mono (fun i j h => by obtain ⟨_, x, hx, _⟩ := h; cases hx)⟩, b0.alloc _, b1.alloc _, b2.kept (alloc_below w5 _) b2.lt, hB0.trans ((alloc_below w5 _).mono (by omega))⟩
  obtain ⟨V, hV⟩ : ∃ V, w5.heap.size = V := ⟨_, rfl⟩
  obtain ⟨W0, hW0⟩ : ∃ W0, w5.alloc (.cells #[.int .i64 s] 40) = W0 := ⟨_, rfl⟩
  have hsz : W0.heap.size = V + 1 := by rw [← hW0, alloc_size, hV]
  rw [hV] at bV hU5 ⊢
  rw [hW0] at bV hUn ⊢
  clear b0 b1 b2 b5 hB0 hc1 hV hW0
  refine wpIn_rangeFunc_ownH rfl (by omega) (gf := 81) (lb := #[.pointer (some ⟨V, 0, none⟩)]) rfl trivial (enters_of Try.func81 (by kernel_rfl) rfl)
    (eachC_stops _ V s W0 bV.lt bV.cell)
    (fun h k => KeptC.on h k) (keptC_b bV.lt) (Below.refl _ _) (fun _ => rfl)
    (fun pre W => UnP n g cap R U f s (EdgO n f s pre) w W ∧ V + 1 ≤ W.heap.size)
    (fun _ _ _ => False)
    (ownFrom_of (fun _ X Y h hb => ⟨h.1.kept hb (by omega) (by omega), Nat.le_trans h.2 hb.size⟩) (fun _ X h => by omega))
    (fun _ _ _ _ _ hs _ _ => hs)
    ⟨hUn, by omega⟩
    (fun x a' W => ∃ Bx, V < Bx ∧ Boxed W Bx 3 (.int .i64 (x.1 : Int)) ∧ a' = { tmps := #[.func (.func 61) #[.agg #[.int .i64 (2 ^ n - 1), .slice (some ⟨g, 0, none⟩) n cap]] #[], .int .i64 s,
      .pointer (some ⟨R, 0, none⟩), .pointer (some ⟨R + 1, 0, none⟩), .pointer (some ⟨R + 1 + 1, 0, none⟩), .pointer (some ⟨U, 0, none⟩), .pointer (some ⟨Bx, 0, none⟩), undef,
      .agg #[.int .i64 0, .int .i64 1, .int .i64 2, .int .i64 3, .int .i64 4, .int .i64 5, .int .i64 6], .int .i64 s, .func (.func 81) #[] #[.pointer (some ⟨V, 0, none⟩)], .int .i64 (x.1 : Int),
      undef, undef, undef, undef, undef, undef, undef, undef, undef, undef, undef, undef], defers := [] })
    (fun x a' _ X Y row hs hg hr => by obtain ⟨Bx, h1, h2, h3⟩ := hs; exact ⟨Bx, h1, boxed_own Bx 3 (fun (_ : Unit) => Value.int .i64 (x.1 : Int)) () X Y row h2 hg (fun r e => (hr r e).2), h3⟩)
    ?assign ?body ?done ?stop
  case assign =>
    rintro l pre x W K ⟨hi, hs⟩ hK
    gi_wp2_with fail
    exact hK _ _ ((KeepsOthers.alloc _ _).from _) (KeptC.below (alloc_below W _) (by omega)) ⟨hi.kept (alloc_below W _) (by omega) (by omega), by rw [alloc_size]; omega⟩ ⟨W.heap.size, by omega, Boxed.new W 3 _, rfl⟩
  case body =>
    rintro l pre x a' W hl ⟨r, hr⟩ ⟨hi, hs⟩ ⟨Bx, hBx, bX, rfl⟩ hlt
    have hen := arE
    have h7 := HT.out.g.hi
    have c0 := hi.ar.cell
    have c1 := hi.st.cell
    have cX := bX.cell
    have hmx : Try.prog.follows .mixedOrders = true := by kernel_rfl
    have HI := Lib.hid hi; have HX := Lib.hid bX
    clear hi bX
    have hx7 := x.2.1
    have ⟨hp1, hp2⟩ := pow_bounds x.1 (by omega)
    have hwr : IntKind.i64.wrap (2 ^ x.1) = 2 ^ x.1 := wrap_in _ (by unfold I64; omega)
    have HRD : Hid (Row W.drew g 0 n f) := Lib.hid ((HR.out.below HI.out.bel hg).drewN 1)
    have HGL : Hid (g < W.drew.heap.size) := Lib.hid (by show g < W.heap.size; omega)
    have HC := Lib.hid (show (R + 1 < W.drew.heap.size) ∧ W.drew.cell? ⟨R + 1, 0, none⟩ = some (.int .i64 s) from ⟨by show R + 1 < W.heap.size; omega, c1⟩)
    have HS := Lib.hid (show V + 1 ≤ W.heap.size ∧ U < V ∧ R + 1 + 1 < U ∧ W0.heap.size = V + 1 ∧ V < Bx ∧ Bx < W.heap.size from ⟨hs, hU5, hlt2, hsz, hBx, HX.out.lt⟩)
    have HRR := Lib.hid hr
    clear hs hsz hr hUn bV
    gi_wp2_with fail
    rename_i Q8 K8 hK8
    have HK : Hid (∀ w7, Below W.heap.size W w7 → K8 { tmps := #[.func (.func 61) #[.agg #[.int .i64 (2 ^ n - 1), .slice (some ⟨g, 0, none⟩) n cap]] #[], .int .i64 s,
      .pointer (some ⟨R, 0, none⟩), .pointer (some ⟨R + 1, 0, none⟩), .pointer (some ⟨R + 1 + 1, 0, none⟩), .pointer (some ⟨U, 0, none⟩), .pointer (some ⟨Bx, 0, none⟩), undef,
      .agg #[.int .i64 0, .int .i64 1, .int .i64 2, .int .i64 3, .int .i64 4, .int .i64 5, .int .i64 6], .int .i64 s, .func (.func 81) #[] #[.pointer (some ⟨V, 0, none⟩)], .int .i64 (x.1 : Int),
      .int .i64 s, .func (.func 61) #[.agg #[.int .i64 (2 ^ n - 1), .slice (some ⟨g, 0, none⟩) n cap]] #[], .int .i64 (x.1 : Int), .int .i64 (2 ^ x.1), .int .i64 (arI f (2 ^ x.1) n), .int .i64 (bits .and .i64 s (arI f (2 ^ x.1) n)),
      .func (.func 81) #[] #[.pointer (some ⟨w7.heap.size, 0, none⟩)], undef, undef, undef, undef, undef], defers := [] } (w7.alloc (.cells #[.int .i64 (bits .and .i64 s (arI f (2 ^ x.1) n))] 40))) := Lib.hid (by
      intro w7 hb7
      refine hK8 _ _ ?_
      clear hK8 c0 c1 cX
      obtain ⟨hS1, hS2, hS3, hS4, hS5, hS6⟩ := HS.out
      have hxs := x.2.2
      have hxn := HT.out.lt hxs
      have bQ := Boxed.new w7 40 (.int .i64 (bits .and .i64 s (arI f (2 ^ x.1) n)))
      have hbit : ∀ i, i < 64 → hasB (bits .and .i64 s (arI f (2 ^ x.1) n)) i = (hasB s i && hasB (f x.1) i) := fun i hi => ar_one hxn hi
      have hb8 := hb7.trans ((alloc_below w7 (.cells #[.int .i64 (bits .and .i64 s (arI f (2 ^ x.1) n))] 40)).mono hb7.size)
      have hsz8 : (w7.alloc (.cells #[.int .i64 (bits .and .i64 s (arI f (2 ^ x.1) n))] 40)).heap.size = w7.heap.size + 1 := by rw [alloc_size]
      have hsz7 := hb7.size
      obtain ⟨s2, hs2⟩ : ∃ s2, bits .and .i64 s (arI f (2 ^ x.1) n) = s2 := ⟨_, rfl⟩
      rw [hs2] at bQ hbit hb8 hsz8 ⊢
      have HS2 := Lib.hid hs2; clear hs2
      obtain ⟨W2, hW2⟩ : ∃ W2, w7.alloc (.cells #[.int .i64 s2] 40) = W2 := ⟨_, rfl⟩
      rw [hW2] at bQ hb8 hsz8 ⊢
      clear hW2
      have hr' : W2.heap[l]? = some (.loop r) := (hb8.block l (Array.getElem?_eq_some_iff.1 HRR.out).1).trans HRR.out
      have HBIT := Lib.hid hbit; clear hbit
      gi_wp2_with fail
      refine wpIn_rangeFunc_ownN (l₀ := l) (r₀ := r) rfl hr' (by omega) (gf := 81) (lb := #[.pointer (some ⟨w7.heap.size, 0, none⟩)]) rfl trivial (enters_of Try.func81 (by kernel_rfl) rfl)
        ((eachC_stops _ w7.heap.size s2 W2 bQ.lt bQ.cell).inRound l)
        (fun h k => KeptC.on h k) (keptC_b bQ.lt) (Below.refl _ _) (fun _ => rfl)
        (fun pre2 W' => (UnP n g cap R U f s (EdgI n f s pre x.1 pre2) w W' ∧ Boxed W' Bx 3 (.int .i64 (x.1 : Int))) ∧ (KeptC V W W' ∧ KeepsFrom W0.heap.size W W') ∧ W2.heap.size ≤ W'.heap.size)
        (fun _ _ _ => False)
        (ownFrom_of (fun _ X Y h hb => ⟨⟨h.1.1.kept hb (by omega) (by omega), boxed_below h.1.2 hb (by omega)⟩, ⟨h.2.1.1.on (KeptC.below hb (by omega)), keepsFrom_below h.2.1.2 hb (by omega)⟩, Nat.le_trans h.2.2 hb.size⟩) (fun _ X h => h.2.2))
        (fun _ _ _ _ _ hs _ _ => hs)
        ⟨⟨(HI.out.kept hb8 (by omega) (by omega)).mono (fun i j h => by
            rcases h with h | ⟨_, y, hy, _⟩
            · exact h
            · cases hy), boxed_below HX.out hb8 (by omega)⟩, ⟨KeptC.below hb8 (by omega), keepsFrom_below (KeepsFrom.refl _ _) hb8 (Nat.le_refl _)⟩, Nat.le_refl _⟩
        (fun y a'' _ => a'' = { tmps := #[.func (.func 61) #[.agg #[.int .i64 (2 ^ n - 1), .slice (some ⟨g, 0, none⟩) n cap]] #[], .int .i64 s,
      .pointer (some ⟨R, 0, none⟩), .pointer (some ⟨R + 1, 0, none⟩), .pointer (some ⟨R + 1 + 1, 0, none⟩), .pointer (some ⟨U, 0, none⟩), .pointer (some ⟨Bx, 0, none⟩), .int .i64 (y.1 : Int),
      .agg #[.int .i64 0, .int .i64 1, .int .i64 2, .int .i64 3, .int .i64 4, .int .i64 5, .int .i64 6], .int .i64 s, .func (.func 81) #[] #[.pointer (some ⟨V, 0, none⟩)], .int .i64 (x.1 : Int),
      .int .i64 s, .func (.func 61) #[.agg #[.int .i64 (2 ^ n - 1), .slice (some ⟨g, 0, none⟩) n cap]] #[], .int .i64 (x.1 : Int), .int .i64 (2 ^ x.1), .int .i64 (arI f (2 ^ x.1) n), .int .i64 s2,
      .func (.func 81) #[] #[.pointer (some ⟨w7.heap.size, 0, none⟩)], .int .i64 (y.1 : Int), undef, undef, undef, undef], defers := [] })
        (fun _ _ _ _ _ _ hs _ _ => hs)
        ?assign2 ?body2 ?done2 ?stop2
      case assign2 =>
        intro l2 pre2 y W' K hi2 hK2
        gi_wp2_with fail
        exact hK2 _ _ (KeepsFrom.refl _ _) (KeptC.refl _ _) hi2 rfl
      case body2 =>
        rintro l2 pre2 y a'' W' _ _ ⟨⟨hi2, bX2⟩, ⟨hkp, hkf⟩, hs9⟩ rfl _
        obtain ⟨u, hu1, hu2⟩ := hi2.up
        have cX2 := bX2.cell
        have hy7 := y.2.1
        have hyb := y.2.2
        rw [HBIT.out y.1 (by omega), Bool.and_eq_true] at hyb
        have HU2 := Lib.hid hu2; have HA2 := Lib.hid hu1; have HI2 := Lib.hid hi2; have HB2 := Lib.hid bX2
        have HKP := Lib.hid hkp; have HKF := Lib.hid hkf; have HYB := Lib.hid hyb; have HS9 := Lib.hid hs9; have HS0 := Lib.hid hS4
        clear hu1 hu2 hi2 bX2 hkp hkf hyb hs9 hr' hb8 hb7 bQ
        gi_wp2_with fail
        refine ⟨trivial, (CallsIn.inRound l2 (CallsIn.inRound l (callsIn_wide.2 (unite_any U _ u HU2.out.up x.1 y.1 hx7 hy7 W' HA2.out)))).mono ?_⟩
        rintro e w' ⟨rfl, rfl⟩
        gi_wp2_with fail
        have hrx := rt_le u x.1
        have hry := rt_le u y.1
        have hM : max (rtU u x.1) (rtU u y.1) < 7 := by omega
        have ho := (Only.refl U W').setCell (max (rtU u x.1) (rtU u y.1)) (.int .i64 (min (rtU u x.1) (rtU u y.1) : Nat))
        have hc : Cn n f s x.1 y.1 := (Cn.refl HT.out hxs).step HT.out HYB.out.1 HYB.out.2
        refine ⟨(KeepsOthers.setCell _ _ _).from _, KeptC.only ho (by have := HS9.out; omega) (by omega), ⟨⟨⟨uniU u x.1 y.1, ?_, ?_⟩, boxed_only HI2.out.ar ho (by omega), boxed_only HI2.out.st ho (by omega), HI2.out.re.only ho (by omega), HI2.out.bel.trans (ho.below (by omega) (by have := HS9.out; omega))⟩, boxed_only HB2.out ho (by omega)⟩, ⟨HKP.out.on (KeptC.only ho (by have := HS9.out; omega) (by omega)), HKF.out.trans ((KeepsOthers.setCell _ _ _).from _)⟩, Nat.le_trans HS9.out ho.size⟩
        · refine (HA2.out.set _ hM _).congr (fun i _ => ?_)
          unfold uniU setU
          by_cases e : i = max (rtU u x.1) (rtU u y.1)
          · rw [if_pos e, if_pos e]
          · rw [if_neg e, if_neg e]
        · refine (HU2.out.unite HT.out hx7 hy7 hc).mono (fun i j h => ?_)
          rcases h with h | ⟨rfl, z, hz, rfl⟩
          · exact .inl (.inl h)
          · rw [List.mem_append, List.mem_singleton] at hz
            rcases hz with hz | rfl
            · exact .inl (.inr ⟨rfl, z, hz, rfl⟩)
            · exact .inr ⟨rfl, rfl⟩
      case done2 =>
        rintro ys W' hys ⟨⟨hi2, bX2⟩, ⟨hkp, hkf⟩, hs9⟩
        gi_wp2_with fail
        refine ⟨hkf, hkp, hi2.mono (fun i j h => ?_), by omega⟩
        obtain ⟨hE, z, hz, rfl⟩ := h
        rw [List.mem_append, List.mem_singleton] at hz
        rcases hz with hz | rfl
        · exact .inl ⟨hE, z, hz, rfl⟩
        · have hjn := HT.out.lt hE.2.1
          exact .inr ⟨rfl, hys.mem (by omega) (by rw [HBIT.out j (by omega), hE.2.1, hE.2.2]; rfl)⟩
      case stop2 =>
        rintro c pre2 W' _ h
        exact h.elim)
    clear hK8
    gi_region_with_o (first | (refine ⟨trivial, (CallsIn.inRound l (callsIn_wide.2 (around_any g n cap f _ h7 _ HRD.out HGL.out))).mono ?_⟩; rintro e w7 ⟨rfl, hb7⟩; have c1e := (hb7.cell (p := ⟨R + 1, 0, none⟩) HC.out.1).trans HC.out.2) | (refine ⟨trivial, (CallsIn.inRound l (callsIn_wide.2 (each_any _ _))).mono ?_⟩; rintro e w8 ⟨rfl, rfl⟩))
    all_goals exact HK.out _ (below_of_drew (by assumption))
  case done =>
    rintro D xs W hD hxs ⟨hi, hs⟩ hK
    obtain ⟨u, hu1, hu2⟩ := hi.up
    have d0 := hu1.cell 0 (by omega)
    have d1 := hu1.cell 1 (by omega)
    have d2 := hu1.cell 2 (by omega)
    have d3 := hu1.cell 3 (by omega)
    have d4 := hu1.cell 4 (by omega)
    have d5 := hu1.cell 5 (by omega)
    have d6 := hu1.cell 6 (by omega)
    have HI := Lib.hid hi; have HU2 := Lib.hid hu2
    clear hi hu1 hu2 hUn bV
    gi_wp2_with (refine wpListIn_store7 rfl 66 (.tmp 4) (.tmp 23) rfl (R + 1 + 1) 66 HI.out.re (fun j => (u j : Int)) (by kernel_rfl) rfl rfl ?_)
    intro w9 hA9 ho9 hko9
    have hK9 := hko9.same D _ hK rfl
    gi_wp2_with fail
    refine ⟨by simp, .inl ⟨_, _, rfl, run_takeDeferred hK9, ?_⟩⟩
    have hb9 := (HI.out.bel.trans (ho9.below (show R ≤ R + 1 + 1 by omega) (by omega))).trans (belowK_b (n₀ := R) (w := W0) (by omega) w9 D _ (.deferred none) hD hK9 rfl rfl)
    have hA10 : Arr7 (w9.putObj D (.deferred none)) (R + 1 + 1) 66 (fun j => (u j : Int)) := (World.putObj_heap_other (by omega)).trans hA9
    refine ⟨_, results_arr rfl _ _ (R + 1 + 1) hA10 rfl Try.underlying66 (by kernel_rfl), ⟨u, HU2.out.mono (fun i j h => ?_), rfl⟩, ?_⟩
    · have := HT.out.lt h.1
      have h7 := HT.out.g.hi
      obtain ⟨x, hx1, hx2⟩ := hxs.mem (show i < 7 by omega) h.1
      exact ⟨h, x, hx1, hx2⟩
    · rw [HRZ.out]; exact hb9
  case stop =>
    rintro D c pre W _ _ h _
    exact h.elim
end Go.Proofs.Ytacoeaoaabjkoaa
