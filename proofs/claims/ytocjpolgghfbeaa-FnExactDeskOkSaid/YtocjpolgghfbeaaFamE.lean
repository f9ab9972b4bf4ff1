import Derived.Test.YtocjpolgghfbeaaFamD
namespace Go.Proofs.Ytocjpolgghfbeaa
open Go.RowKit Go.Maps

/-- the worklist's state -/
structure CloS (S F : Nat → Bool) (L : Nat → List Int) (p : Nat) (w : World) (va : Value) (T : Nat → Bool) (ws : List Int) (vw : Value) (wr : World) : Prop where
  fa : FamAt wr w.heap.size p va T
  wk : WorkX wr w.heap.size vw ws
  wp : vw.ownBlock ≠ some p
  wa : NoMeet vw va
  bel : Below w.heap.size w wr
  len : ws.length ≤ (fam T 16).length
  sub : ∀ t, S t = true → T t = true
  top : ∀ t, T t = true → F t = true
  inn : ∀ y ∈ ws, ∃ t : Nat, y = t ∧ T t = true
def CloR (S F : Nat → Bool) (L : Nat → List Int) (p : Nat) (w : World) (vw : Value) (wr : World) : Prop :=
  ∃ (va : Value) (T : Nat → Bool) (ws : List Int), CloS S F L p w va T ws vw wr ∧ ∀ t : Nat, T t = true → (t : Int) ∈ ws ∨ ∀ m : Nat, (m : Int) ∈ L t → T m = true

/-- .. while what follows from s is put -/
structure InS (S F : Nat → Bool) (L : Nat → List Int) (p : Nat) (w : World) (s : Nat) (vl : Value) (A0 W0 k : Nat) (va : Value) (T : Nat → Bool) (ws : List Int) (vw : Value) (wr : World) : Prop where
  clo : CloS S F L p w va T ws vw wr
  own : OwnX wr w.heap.size 3 vl (L s)
  lp : vl.ownBlock ≠ some p
  la : NoMeet vl va
  lw : NoMeet vl vw
  bal : ws.length + A0 = (fam T 16).length + W0
  mono : A0 ≤ (fam T 16).length
  slf : T s = true
  clos : ∀ t : Nat, T t = true → (t : Int) ∈ ws ∨ t = s ∨ ∀ m : Nat, (m : Int) ∈ L t → T m = true
  upto : ∀ j, j < k → ∀ m : Nat, (L s).getD j 0 = m → T m = true
def InR (S F : Nat → Bool) (L : Nat → List Int) (p : Nat) (w : World) (s : Nat) (vl : Value) (A0 W0 : Nat) (vw i : Value) (wr : World) : Prop :=
  ∃ (k : Nat) (va : Value) (T : Nat → Bool) (ws : List Int), k ≤ (L s).length ∧ i = .int .i64 k ∧ InS S F L p w s vl A0 W0 k va T ws vw wr

section
variable {S F : Nat → Bool} {L : Nat → List Int} {p : Nat} {w : World} {s : Nat} {vl : Value} {A0 W0 k m : Nat} {va vw : Value} {T : Nat → Bool} {ws : List Int} {wr : World}

theorem InS.done (h : InS S F L p w s vl A0 W0 (L s).length va T ws vw wr) : CloR S F L p w vw wr := by
  refine ⟨va, T, ws, h.clo, fun t ht => ?_⟩
  rcases h.clos t ht with h1 | rfl | h1
  · exact .inl h1
  · right
    intro m hm
    obtain ⟨j, hj, e⟩ := List.getElem_of_mem hm
    exact h.upto j hj m (by rw [List.getD_eq_getElem?_getD, List.getElem?_eq_getElem hj]; exact e)
  · exact .inr h1
theorem InS.measure (h : InS S F L p w s vl A0 W0 k va T ws vw wr) : lenOfV vw + A0 = lenAt wr p + W0 ∧ lenAt wr p ≤ 16 ∧ A0 ≤ lenAt wr p := by
  rw [h.clo.fa.len, h.clo.wk.len]
  exact ⟨h.bal, fam_len_le _ _, h.mono⟩
theorem CloS.mine (h : CloS S F L p w va T ws vw wr) : ∀ g, vw.ownBlock = some g → ¬ Mine p va g := fun g hg e => by
  rcases e with e | e
  · subst e; exact h.wp hg
  · exact h.wa g hg e
theorem InS.mine (h : InS S F L p w s vl A0 W0 k va T ws vw wr) : ∀ g, vl.ownBlock = some g → ¬ Mine p va g := fun g hg e => by
  rcases e with e | e
  · subst e; exact h.lp hg
  · exact h.la g hg e

/-- an element that was there already -/
theorem InS.old (h : InS S F L p w s vl A0 W0 k va T ws vw wr) (hm : (L s).getD k 0 = m) (hT : T m = true) {v' : Value} {w' : World} (hf' : FamAt w' w.heap.size p v' (addS T m)) (hu : Upon (Mine p va) wr w') (hn : NewOr wr va v') :
    InS S F L p w s vl A0 W0 (k + 1) v' T ws vw w' := by
  rw [addS_have hT] at hf'
  have c := h.clo
  exact ⟨⟨hf', c.wk.upon hu c.mine, c.wp, c.wa.new hn (fun g hg => (c.wk.lt hg).2), c.bel.trans (hu.below c.fa.mine c.bel.size), c.len, c.sub, c.top, c.inn⟩,
    hu.ownX h.own h.mine, h.lp, h.la.new hn (fun g hg => (h.own.lt hg).2), h.lw, h.bal, h.mono, h.slf, h.clos, fun j hj m' e => by
      by_cases e2 : j = k
      · subst e2; rw [hm] at e
        have : m = m' := by omega
        subst this; exact hT
      · exact h.upto j (by omega) m' e⟩

/-- an element that is new -/
theorem InS.new (h : InS S F L p w s vl A0 W0 k va T ws vw wr) (hm16 : m < 16) (hm : (L s).getD k 0 = m) (hT : T m = false) (hFm : F m = true) {v' vw' : Value} {w' w'' : World} (hf' : FamAt w' w.heap.size p v' (addS T m)) (hu : Upon (Mine p va) wr w') (hn : NewOr wr va v')
    (hw' : WorkX w'' w.heap.size vw' (ws ++ [(m : Int)])) (hu2 : Upon (fun g => vw.ownBlock = some g) w' w'') (hn2 : NewOr w' vw vw') :
    InS S F L p w s vl A0 W0 (k + 1) v' (addS T m) (ws ++ [(m : Int)]) vw' w'' := by
  have c := h.clo
  have hwa : NoMeet vw v' := c.wa.new hn (fun g hg => (c.wk.lt hg).2)
  have hla : NoMeet vl v' := h.la.new hn (fun g hg => (h.own.lt hg).2)
  have hpl : p < w'.heap.size := hf'.lt
  have hpw : ¬ vw.ownBlock = some p := c.wp
  have hbel : Below w.heap.size w w' := c.bel.trans (hu.below c.fa.mine c.bel.size)
  have hwl : ∀ g, vw.ownBlock = some g → w.heap.size ≤ g := fun g hg => (c.wk.lt hg).1
  have hlen := fam_add_len hm16 hT
  refine ⟨⟨hf'.upon hu2 hpw (fun g hg e => hwa g e hg), hw', hn2.ne hpl c.wp, ?_, hbel.trans (hu2.below hwl hbel.size), ?_, fun t ht => addS_sub (c.sub t ht), fun t ht => ?_, fun y hy => ?_⟩,
    hu2.ownX (hu.ownX h.own h.mine) (fun g hg e => h.lw g hg e), h.lp, hla, ?_, ?_, by rw [hlen]; have := h.mono; omega, addS_sub h.slf, fun t ht => ?_, fun j hj m' e => ?_⟩
  · exact (hwa.swap.new hn2 (fun g hg => (hf'.own.lt hg).2)).swap
  · rw [hlen, List.length_append]; have := c.len; simp; omega
  · rcases addS_iff.1 ht with h1 | rfl
    · exact c.top t h1
    · exact hFm
  · rcases List.mem_append.1 hy with h1 | h1
    · obtain ⟨t, e, h2⟩ := c.inn y h1
      exact ⟨t, e, addS_sub h2⟩
    · exact ⟨m, List.mem_singleton.1 h1, addS_self T m⟩
  · refine h.lw.new hn2 (fun g hg => ?_)
    have := (h.own.lt hg).2
    have := hu.size
    omega
  · rw [hlen, List.length_append]; have := h.bal; simp; omega
  · rcases addS_iff.1 ht with h1 | rfl
    · rcases h.clos t h1 with h2 | h2 | h2
      · exact .inl (List.mem_append.2 (.inl h2))
      · exact .inr (.inl h2)
      · exact .inr (.inr (fun m' hm' => addS_sub (h2 m' hm')))
    · exact .inl (List.mem_append.2 (.inr (List.mem_singleton.2 rfl)))
  · by_cases e2 : j = k
    · subst e2; rw [hm] at e
      have : m = m' := by omega
      subst this; exact addS_self T m
    · exact addS_sub (h.upto j (by omega) m' e)
end

theorem run_tail (g o m c : Nat) (W : World) : (Instr.slice 69 (.slice (some ⟨g, o, none⟩) (m + 1) c) (some (.int .i64 1)) none none).run Try.prog W = .ok (.slice (some ⟨g, if c = 1 then o else o + 1, none⟩) m (c - 1)) W := by
  have hz : ∀ w, (Go.sizeOf 3).run Try.prog w = .ok 1 w := fun w => by kernel_rfl
  have h1 : (1 : Int) ≤ (m : Int) + 1 := by omega
  by_cases hc : c = 1
  · subst hc
    simp [Instr.slice, Instr.sliceBounds, Instr.sliceBound, run_underlying Try.underlying69, asIntOf, hz, h1]
  · have hc' : ¬ c = 1 := hc
    simp [Instr.slice, Instr.sliceBounds, Instr.sliceBound, run_underlying Try.underlying69, asIntOf, hz, h1, hc', Addr.add_lit]
theorem WorkX.none {w : World} {B : Nat} {v : Value} (h : WorkX w B v []) : ∃ (a : Option Addr) (cap : Nat), v = .slice a 0 cap := by
  obtain ⟨g, o, cap, e, _⟩ := h; exact ⟨_, _, e⟩
theorem WorkX.some {w : World} {B : Nat} {v : Value} {y : Int} {xs : List Int} (h : WorkX w B v (y :: xs)) :
    ∃ g o cap, v = .slice (Option.some ⟨g, o, Option.none⟩) (xs.length + 1) cap ∧ w.cell? ⟨g, o, Option.none⟩ = Option.some (.int .i64 y) ∧ 1 ≤ cap ∧ cap ≤ 9223372036854775807 ∧ xs.length + 1 ≤ cap := by
  obtain ⟨g, o, cap, e, _, _, hc, hm, _, _, h4⟩ := h
  refine ⟨g, o, cap, e, ?_, by simp at hc; omega, hm, hc⟩
  have := h4 0 (by simp)
  simpa using this

set_option maxRecDepth 100000 in
set_option maxHeartbeats 12800000 in
theorem closure_any (K g n cap : Nat) (S F : Nat → Bool) (L : Nat → List Int) (hn : (fam S 16).length = n) (h1 : 1 ≤ n) (hC : Clos S L F) (w : World) (hr : Row w g 0 n (fun i => (fam S 16).getD i 0)) (hg : g < w.heap.size)
    (hE : ∀ (args : Array Value) (w : World), Sem.run Try.prog (callFunc K args) w = .ok (.enter K args) w)
    (hF : Hid (∀ (wr : World) (s : Nat), 1 ≤ s → s < 16 → Row wr g 0 n (fun i => (fam S 16).getD i 0) → g < wr.heap.size → Calls Try.prog K #[.slice (some ⟨g, 0, none⟩) n cap, .int .i64 s] wr (Gives 3 (L s) wr))) :
    Calls Try.prog 127 #[.slice (some ⟨g, 0, none⟩) n cap, .func (.func K) #[] #[]] w (Gives 3 (fam F 16) w) := by
  have hn16 : n ≤ 16 := by rw [← hn]; exact fam_len_le _ _
  have HR := Lib.hid hr; have HC := Lib.hid hC; have HN := Lib.hid hn
  clear hr hC hn
  go_enter Try.func127, Try.ntmps127
  go_wp2_with fail
  refine (cloneF_any g 0 n cap _ h1 (by omega) _ HR.out hg).mono ?_
  rintro e w1 ⟨v1, rfl, hown1, hb1⟩
  rw [show rowL (fun i => (fam S 16).getD i 0) n = fam S 16 by rw [← HN.out]; exact rowL_self _] at hown1
  obtain ⟨a1, c1, rfl⟩ := hown1.slice
  rw [HN.out] at hown1
  rw [HN.out]
  have HO1 := Lib.hid hown1; have HB1 := Lib.hid hb1
  have hb2 : Below w.heap.size w (w1.alloc (.cells #[.slice a1 n c1] 69)) := below_onto hb1 (alloc_below _ _)
  have HB2 := Lib.hid hb2
  have HR2 := Lib.hid (HR.out.below hb2 hg)
  have hg2 : g < (w1.alloc (.cells #[.slice a1 n c1] 69)).heap.size := Nat.lt_of_lt_of_le hg hb2.size
  clear hown1 hb1 hb2
  go_wp2_with fail
  refine (cloneF_any g 0 n cap _ h1 (by omega) _ HR2.out hg2).mono ?_
  rintro e w3 ⟨v2, rfl, hown2, hb3⟩
  rw [show rowL (fun i => (fam S 16).getD i 0) n = fam S 16 by rw [← HN.out]; exact rowL_self _] at hown2
  have hsz : (w1.alloc (.cells #[.slice a1 n c1] 69)).heap.size = w1.heap.size + 1 := alloc_size _ _
  have hst : CloR S F L w1.heap.size w v2 w3 := by
    have hf2 : FamAt (w1.alloc (.cells #[.slice a1 n c1] 69)) w.heap.size w1.heap.size (.slice a1 n c1) S :=
      ⟨(cell_new w1 _ _).1, HO1.out.kept (alloc_below _ _), World.frozen?_alloc_at _ _ w1.heap.size 0 rfl, fun e => by have := (HO1.out.lt e).2; omega, HB1.out.size⟩
    refine ⟨_, S, fam S 16, ⟨hf2.next hb3, (hown2.base HB2.out.size).work (by rw [HN.out]; exact h1), fun e => ?_, fun q h1 h2 => ?_, below_onto HB2.out hb3, Nat.le_refl _, fun _ h => h, fun t h => HC.out.sub t h, fun y hy => ?_⟩, fun t ht => .inl ?_⟩
    · have := (hown2.lt e).1; omega
    · have := (hown2.lt h1).1; have := (HO1.out.lt h2).2; omega
    · obtain ⟨t, _, h2, rfl⟩ := fam_mem.1 hy; exact ⟨t, rfl, h2⟩
    · exact fam_mem.2 ⟨t, (HC.out.pos t (HC.out.sub t ht)).2, ht, rfl⟩
  obtain ⟨a2, c2, rfl⟩ := hown2.slice
  clear hown2 hb3 hsz HR2 HB2 HB1 HO1 hg2
  obtain ⟨p, hp⟩ : ∃ p, w1.heap.size = p := ⟨_, rfl⟩
  rw [hp] at hst ⊢
  clear hp
  rw [HN.out] at hst ⊢
  go_wp2_with fail
  go_loopw [6] (fun v wr => CloR S F L p w v wr) (fun v wr => lenOfV v + 2 * (16 - lenAt wr p))
  case atStart => exact hst
  case round =>
    clear hst
    obtain ⟨va, T, ws, hc, hcl⟩ := hrel
    have HCC := Lib.hid hc; have HCL := Lib.hid hcl
    have hcell := hc.fa.cell
    clear hc hcl
    cases ws with
    | nil =>
      obtain ⟨aw, cw, rfl⟩ := HCC.out.wk.none
      have HFIN : Hid (OwnX wr w.heap.size 3 va (fam F 16)) := Lib.hid (by
        have h := HCC.out.fa.own
        rwa [fam_congr 16 (fun t _ => by
          rw [Bool.eq_iff_iff]
          exact ⟨HCC.out.top t, HC.out.least T HCC.out.sub HCC.out.top (fun t ht m hm => by
            rcases HCL.out t ht with h2 | h2
            · cases h2
            · exact h2 m hm) t⟩ : ∀ t, t < 16 → T t = F t)] at h)
      obtain ⟨a5, c5, rfl⟩ := HFIN.out.slice
      go_wp2_with fail
      go_ret
      exact ⟨_, rfl, HFIN.out, HCC.out.bel⟩
    | cons y rest =>
      obtain ⟨s, rfl, hTs⟩ := HCC.out.inn y List.mem_cons_self
      obtain ⟨gw, ow, cw, rfl, hcw, hcw1, hcw2, hcw3⟩ := HCC.out.wk.some
      have hs1 := HC.out.pos s (HCC.out.top s hTs)
      obtain ⟨hs0, hs16⟩ := hs1
      obtain ⟨m, hm⟩ : ∃ m, rest.length = m := ⟨_, rfl⟩
      have HM := Lib.hid hm
      obtain ⟨o1, ho1⟩ : ∃ o1, (if cw = 1 then ow else ow + 1) = o1 := ⟨_, rfl⟩
      obtain ⟨c1, hc1⟩ : ∃ c1, cw - 1 = c1 := ⟨_, rfl⟩
      have HPOP := Lib.hid HCC.out.wk.pop
      rw [ho1, hc1, hm] at HPOP
      rw [hm] at hcw3 HCC
      rw [hm]
      have hsl : ∀ W : World, (Instr.slice 69 (.slice (some ⟨gw, ow, none⟩) (m + 1) cw) (some (.int .i64 1)) none none).run Try.prog W = .ok (.slice (some ⟨gw, o1, none⟩) m c1) W := fun W => by
        rw [← ho1, ← hc1]; exact run_tail gw ow m cw W
      have HL0 := Lib.hid HCC.out.fa.len
      clear hm ho1 hc1
      have hrw := HR.out.below HCC.out.bel hg
      have HRW := Lib.hid hrw
      have hgw : g < wr.heap.size := Nat.lt_of_lt_of_le hg HCC.out.bel.size
      clear hrw
      have HTS := Lib.hid hTs
      clear hTs
      go_wp2_with fail
      refine (hF.out wr s hs0 hs16 HRW.out hgw).mono ?_
      rintro e w4 ⟨vl, rfl, hownl, hb4⟩
      obtain ⟨ll, hll⟩ : ∃ ll, (L s).length = ll := ⟨_, rfl⟩
      have hll16 : ll ≤ 16 := by rw [← hll]; exact (HC.out.rng s hs0 hs16).1
      have HLL := Lib.hid hll
      obtain ⟨al, cl, rfl⟩ := hownl.slice
      rw [hll] at hownl
      rw [hll]
      have hup4 : Upon (fun _ => False) wr w4 := Upon.of_below hb4
      have hin : InR S F L p w s (.slice al ll cl) (fam T 16).length m (.slice (some ⟨gw, o1, none⟩) m c1) (.int .i64 0) w4 := by
        have c := HCC.out
        have hnl : ∀ q, (Value.slice al ll cl).ownBlock = some q → wr.heap.size ≤ q := fun q hq => (hownl.lt hq).1
        refine ⟨0, va, T, rest, Nat.zero_le _, rfl, ⟨⟨c.fa.next hb4, HPOP.out.upon hup4 (fun _ _ e => e), c.wp, c.wa, below_onto c.bel hb4, ?_, c.sub, c.top, fun z hz => c.inn z (List.mem_cons_of_mem _ hz)⟩, hownl.base c.bel.size, fun e => ?_, fun q h1 h2 => ?_, fun q h1 h2 => ?_, ?_, Nat.le_refl _, HTS.out, fun t ht => ?_, fun j hj => absurd hj (Nat.not_lt_zero _)⟩⟩
        · have := c.len; rw [List.length_cons] at this; omega
        · have := hnl _ e; have := c.fa.lt; omega
        · have := hnl _ h1; have := (c.fa.own.lt h2).2; omega
        · have := hnl _ h1; have := (HPOP.out.lt h2).2; omega
        · have := HM.out; omega
        · rcases HCL.out t ht with h2 | h2
          · rcases List.mem_cons.1 h2 with h3 | h3
            · exact .inr (.inl (by omega))
            · exact .inl h3
          · exact .inr (.inr h2)
      have HL1 := Lib.hid (HCC.out.fa.len)
      have hA0 : (fam T 16).length ≤ 16 := fam_len_le _ _
      obtain ⟨A0, hA⟩ : ∃ A0, (fam T 16).length = A0 := ⟨_, rfl⟩
      rw [hA] at hin HL1 hA0
      clear hownl hb4 hup4 hll hcell hcw HPOP HRW HL0 hA HCL
      go_wp2_with fail
      go_loopw [6, 27] (fun v i wq => InR S F L p w s (.slice al ll cl) A0 m v i wq) (fun _ i _ => ll - (intOf i).toNat)
      case atStart => exact hin
      case round =>
        clear hin hsl
        obtain ⟨k, va, T, ws, hk, rfl, h⟩ := hrel
        rw [HLL.out] at hk
        have HH := Lib.hid h
        by_cases hlt : k < ll
        · have hki : (k : Int) < (ll : Int) := by omega
          obtain ⟨gl, cl', e1, _, _, _, _, hrowl, _⟩ := h.own.shape (by rw [HLL.out]; omega)
          rw [HLL.out] at e1 hrowl
          injection e1 with e2 _ e3
          subst e2; subst e3
          have hc := hrowl k hlt
          rw [Nat.zero_add] at hc
          have hmem := getD_in (xs := L s) (i := k) (by rw [HLL.out]; exact hlt)
          obtain ⟨q, hq1, hq16, hq⟩ := (HC.out.rng s hs0 hs16).2 _ hmem
          have HFq := Lib.hid (HC.out.step s (h.clo.top s h.slf) q (by rw [← hq]; exact hmem))
          have hc2 : wr.cell? ⟨gl, k, none⟩ = some (.int .i64 q) := by rw [hc]; show some (Value.int .i64 ((L s).getD k 0)) = _; rw [hq]
          have HQ := Lib.hid hq
          have hBq := h.clo.bel.size
          clear hc hmem hq hrowl h
          cases hT : T q with
          | true =>
            have HT := Lib.hid hT
            clear hT
            go_wp2_with fail
            refine (put_old w.heap.size p va T q hq16 _ hBq HH.out.clo.fa HT.out).mono ?_
            rintro e w5 ⟨rfl, v', hf', hu, hnw⟩
            have HNX := Lib.hid (HH.out.old HQ.out HT.out hf' hu hnw)
            clear hf' hu hnw
            go_wp2_with fail
            go_roundw
            case rel => exact ⟨k + 1, _, _, _, by rw [HLL.out]; omega, by go_num, HNX.out⟩
            case measure => simp [intOf]; omega
          | false =>
            have HT := Lib.hid hT
            clear hT
            go_wp2_with fail
            refine (put_new w.heap.size p va T q hq16 _ hBq HH.out.clo.fa HT.out).mono ?_
            rintro e w5 ⟨rfl, v', hf', hu, hnw⟩
            have hwk5 := HH.out.clo.wk.upon hu HH.out.clo.mine
            have hal := alloc_below w5 (.cells #[.int .i64 q] 3)
            have hB5 : w.heap.size ≤ w5.heap.size := Nat.le_trans hBq hu.size
            have hwl : ws.length ≤ 1000 := by have := HH.out.clo.len; have := fam_len_le T 16; omega
            obtain ⟨vw', w6, hr6, hwk6, hu6, hn6⟩ := work_append w.heap.size w5.heap.size _ ws q _ (Nat.le_trans hB5 hal.size) (hwk5.upon (F := fun _ => False) (Upon.of_below hal) (fun _ _ e => e)) hwl (cell_new w5 (.int .i64 q) 3).1
            have hnn := hn6.up hal.size
            have HNX := Lib.hid (HH.out.new hq16 HQ.out HT.out HFq.out hf' hu hnw hwk6 ((Upon.of_below hal).trans hu6 (fun _ _ e => e)) hnn)
            have HR6 := Lib.hid hr6
            clear hf' hu hnw hwk5 hal hB5 hwl hr6 hwk6 hu6 hn6 hnn
            go_wp2_with (at_builtin; refine Lib.wpList_append_run _ rfl _ _ _ _ rfl _ _ rfl rfl _ _ HR6.out ?_)
            go_roundw
            case rel => exact ⟨k + 1, _, _, _, by rw [HLL.out]; omega, by go_num, HNX.out⟩
            case measure => simp [intOf]; omega
        · have hki : ¬ (k : Int) < (ll : Int) := by omega
          have hkn : k = ll := by omega
          subst hkn
          have HD := Lib.hid (show CloR S F L p w _ wr by
            have := HH.out
            rw [← HLL.out] at this
            exact this.done)
          have HME := Lib.hid HH.out.measure
          clear h
          go_wp2_with fail
          go_roundw
          case rel => exact HD.out
          case measure =>
            have h1 := HME.out
            have h2 := HL1.out
            show lenOfV _ + 2 * (16 - lenAt _ p) < lenOfV _ + 2 * (16 - lenAt _ p)
            rw [h2]
            show _ < (m + 1) + _
            omega
end Go.Proofs.Ytocjpolgghfbeaa
