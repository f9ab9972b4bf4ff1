import Derived.Test.YtacoeaoaabjkoaaPcC
namespace Go.Proofs.Ytacoeaoaabjkoaa
open Go.RowKit Go.Shelf Go.Maps

/-- the places that have come -/
def inP {s : Int} (pre : List (Pl s)) (i : Nat) : Bool := decide (∃ x, x ∈ pre ∧ x.1 = i)
theorem inP_nil {s : Int} (i : Nat) : inP ([] : List (Pl s)) i = false := decide_eq_false (fun ⟨x, h, _⟩ => by cases h)
theorem inP_snoc {s : Int} (pre : List (Pl s)) (x : Pl s) (i : Nat) : inP (pre ++ [x]) i = (inP pre i || decide (x.1 = i)) := by
  unfold inP
  rw [Bool.eq_iff_iff, Bool.or_eq_true, decide_eq_true_eq, decide_eq_true_eq, decide_eq_true_eq]
  constructor
  · rintro ⟨y, hy, rfl⟩
    rw [List.mem_append, List.mem_singleton] at hy
    rcases hy with hy | rfl
    · exact .inl ⟨y, hy, rfl⟩
    · exact .inr rfl
  · rintro (⟨y, hy, rfl⟩ | rfl)
    · exact ⟨y, List.mem_append.2 (.inl hy), rfl⟩
    · exact ⟨x, List.mem_append.2 (.inr (List.mem_singleton.2 rfl)), rfl⟩
theorem inP_all {s : Int} {xs : List (Pl s)} (h : CameP s 7 xs) (i : Nat) (hi : i < 7) : inP xs i = hasB s i := by
  unfold inP
  rw [Bool.eq_iff_iff, decide_eq_true_eq]
  constructor
  · rintro ⟨x, _, rfl⟩; exact x.2.2
  · intro hb; exact h.mem hi hb
/-- what stands for k, of the places that have come -/
def stP {s : Int} (u : Nat → Nat) (pre : List (Pl s)) (k : Nat) : Int := setOf (fun i => inP pre i && (rtU u i == k)) 7
theorem stP_nil {s : Int} (u : Nat → Nat) (k : Nat) : stP u ([] : List (Pl s)) k = 0 := by
  apply ext64 _ _ (setOf_I64 _ _) I64_zero
  intro i hi
  show hasB (setOf _ 7) i = _
  rw [setOf_bit _ _ _ hi, hasB_zero, inP_nil]
  simp
theorem stP_snoc {s : Int} (u : Nat → Nat) (pre : List (Pl s)) (x : Pl s) (k : Nat) : stP u (pre ++ [x]) k = if k = rtU u x.1 then bits .or .i64 (stP u pre k) (2 ^ x.1) else stP u pre k := by
  have hx7 := x.2.1
  split
  · rename_i h
    apply ext64 _ _ (setOf_I64 _ _) (orI_I64 _ _)
    intro i hi
    show hasB (setOf _ 7) i = hasB (orI (setOf _ 7) _) i
    rw [or_bit _ _ _ hi, setOf_bit _ _ _ hi, setOf_bit _ _ _ hi, hasB_pow8, inP_snoc]
    by_cases e : x.1 = i
    · subst e
      rw [decide_eq_true rfl, decide_eq_true hx7, ← h]
      simp
    · rw [decide_eq_false e]; simp
  · rename_i h
    apply ext64 _ _ (setOf_I64 _ _) (setOf_I64 _ _)
    intro i hi
    show hasB (setOf _ 7) i = hasB (setOf _ 7) i
    rw [setOf_bit _ _ _ hi, setOf_bit _ _ _ hi, inP_snoc]
    by_cases e : x.1 = i
    · subst e
      have : (rtU u x.1 == k) = false := by rw [beq_eq_false_iff_ne]; omega
      rw [this]; simp
    · rw [decide_eq_false e]; simp
theorem stP_all {s : Int} {u : Nat → Nat} {xs : List (Pl s)} (h : CameP s 7 xs) (k : Nat) : stP u xs k = stI s u k := by
  apply ext64 _ _ (setOf_I64 _ _) (setOf_I64 _ _)
  intro i hi
  show hasB (setOf (fun i => inP xs i && (rtU u i == k)) 7) i = hasB (setOf (fun i => hasB s i && (rtU u i == k)) 7) i
  rw [setOf_bit _ _ _ hi, setOf_bit _ _ _ hi]
  by_cases h7 : i < 7
  · rw [inP_all h i h7]
  · rw [decide_eq_false h7]; rfl

theorem idx7 (h : Nat → Int) (k : Nat) (hk : k < 7) (w : World) : (Instr.index 65 (.agg #[.int .i64 (h 0), .int .i64 (h 1), .int .i64 (h 2), .int .i64 (h 3), .int .i64 (h 4), .int .i64 (h 5), .int .i64 (h 6)]) (.int .i64 k)).run Try.prog w = .ok (.int .i64 (h k)) w := by
  rcases lt7 hk with rfl | rfl | rfl | rfl | rfl | rfl | rfl <;> kernel_rfl
end Go.Proofs.Ytacoeaoaabjkoaa

namespace Go.Proofs.Ytacoeaoaabjkoaa
open Go.RowKit Go.Shelf Go.Maps
attribute [local go_sem] Oper.semAt_some

set_option maxRecDepth 100000 in
set_option maxHeartbeats 4000000 in
theorem pieces_any (g n cap : Nat) (f : Nat → Int) (s : Int) (hT : ThP n f s) (w : World) (hr : Row w g 0 n f) (hg : g < w.heap.size) :
    Calls Try.prog 48 #[.func (.func 61) #[.agg #[.int .i64 (2 ^ n - 1), .slice (some ⟨g, 0, none⟩) n cap]] #[], .int .i64 s] w (Gives 3 (pcsL n f s) w) := by
  have HT := Lib.hid hT; clear hT
  have HU := Lib.hid (united_any g n cap f s HT.out w hr hg)
  clear hr hg
  refine (callsIn_wide (n := 19)).1 ?_
  refine callsIn_of_wp_marks Try.func48 rfl trivial ?_ rfl
  simp only [Try.ntmps48, List.size_toArray, List.length_cons, List.length_nil, Nat.reduceAdd, Nat.reduceSub, Array.replicate_succ, Array.replicate_zero, List.push_toArray, List.append_toArray, List.nil_append, List.cons_append]
  gi_wp2_with fail
  refine ⟨trivial, (callsIn_wide.2 HU.out).mono ?_⟩
  rintro e w4 ⟨⟨u, hu, rfl⟩, hb4⟩
  have hup := hu.up
  have HUF := Lib.hid hu; have HUP := Lib.hid hup; clear hu hup HU
  have b3 := Arr7.new w4 66 (fun _ => 0)
  have hB0 := hb4.trans ((alloc_below w4 (.cells #[.int .i64 0, .int .i64 0, .int .i64 0, .int .i64 0, .int .i64 0, .int .i64 0, .int .i64 0] 66)).mono hb4.size)
  have hsz4 := hb4.size
  clear hb4
  gi_wp2_with (refine wpListIn_store7 rfl 66 (.tmp 5) (.tmp 13) rfl w4.heap.size 66 b3 (fun j => (u j : Int)) (by kernel_rfl) rfl rfl ?_)
  intro w5 b5 ho5 _
  obtain ⟨U, hU⟩ : ∃ U, w4.heap.size = U := ⟨_, rfl⟩
  rw [hU] at b5 ho5 hsz4 ⊢
  replace hB0 := hB0.trans (ho5.below hsz4 (by rw [alloc_size]; omega))
  have hU5 := b5.lt
  clear hU b3 ho5
  gi_wp2_with fail
  refine ⟨trivial, (callsIn_wide.2 (each_any s _)).mono ?_⟩
  rintro e w6 ⟨rfl, rfl⟩
  have c5 := Arr7.new w5 65 (fun _ => 0)
  replace hB0 := (hB0.trans ((alloc_below w5 (.cells #[.int .i64 0, .int .i64 0, .int .i64 0, .int .i64 0, .int .i64 0, .int .i64 0, .int .i64 0] 65)).mono hB0.size)).trans ((alloc_below (w5.alloc (.cells #[.int .i64 0, .int .i64 0, .int .i64 0, .int .i64 0, .int .i64 0, .int .i64 0, .int .i64 0] 65)) (.cells #[.int .i64 s] 40)).mono (by have := hB0.size; rw [alloc_size]; omega))
  gi_wp2_with fail
  have b6 := b5.kept ((alloc_below w5 (.cells #[.int .i64 0, .int .i64 0, .int .i64 0, .int .i64 0, .int .i64 0, .int .i64 0, .int .i64 0] 65)).trans ((alloc_below (w5.alloc (.cells #[.int .i64 0, .int .i64 0, .int .i64 0, .int .i64 0, .int .i64 0, .int .i64 0, .int .i64 0] 65)) (.cells #[.int .i64 s] 40)).mono (by rw [alloc_size]; omega))) hU5
  have c6 := c5.kept (alloc_below (w5.alloc (.cells #[.int .i64 0, .int .i64 0, .int .i64 0, .int .i64 0, .int .i64 0, .int .i64 0, .int .i64 0] 65)) (.cells #[.int .i64 s] 40)) c5.lt
  have bV := Boxed.new (w5.alloc (.cells #[.int .i64 0, .int .i64 0, .int .i64 0, .int .i64 0, .int .i64 0, .int .i64 0, .int .i64 0] 65)) 40 (.int .i64 s)
  rw [alloc_size] at bV
  obtain ⟨W0, hW0⟩ : ∃ W0, (w5.alloc (.cells #[.int .i64 0, .int .i64 0, .int .i64 0, .int .i64 0, .int .i64 0, .int .i64 0, .int .i64 0] 65)).alloc (.cells #[.int .i64 s] 40) = W0 := ⟨_, rfl⟩
  have hsz : W0.heap.size = w5.heap.size + 2 := by rw [← hW0, alloc_size, alloc_size]
  rw [hW0] at bV b6 c6 hB0 ⊢
  clear hW0 b5 c5
  obtain ⟨V, hV⟩ : ∃ V, w5.heap.size = V := ⟨_, rfl⟩
  rw [hV] at bV c6 hsz hU5 ⊢
  clear hV
  have hBR := hB0.size
  refine wpIn_rangeFunc_ownF rfl (by omega) (gf := 81) (lb := #[.pointer (some ⟨V + 1, 0, none⟩)]) rfl trivial (enters_of Try.func81 (by kernel_rfl) rfl)
    (eachC_stops _ (V + 1) s W0 bV.lt bV.cell)
    (fun h k => KeptC.on h k) (keptC_b bV.lt) (Below.refl _ _) (fun _ => rfl)
    (fun pre W => (Arr7 W U 66 (fun j => (u j : Int)) ∧ Arr7 W V 65 (stP u pre)) ∧ Below w.heap.size w W ∧ V + 2 ≤ W.heap.size)
    (fun _ _ _ => False)
    (ownFrom_of (fun _ X Y h hb => ⟨⟨h.1.1.kept hb (by omega), h.1.2.kept hb (by omega)⟩, h.2.1.trans (hb.mono (by omega)), Nat.le_trans h.2.2 hb.size⟩) (fun _ X h => by omega))
    (fun _ _ _ _ _ hs _ _ => hs)
    ⟨⟨b6, c6.congr (fun i _ => (stP_nil u i).symm)⟩, hB0, by omega⟩
    (fun x => { tmps := #[.func (.func 61) #[.agg #[.int .i64 (2 ^ n - 1), .slice (some ⟨g, 0, none⟩) n cap]] #[], .int .i64 s, undef, undef, .slice none 0 0, .pointer (some ⟨U, 0, none⟩),
        .pointer (some ⟨V, 0, none⟩), .int .i64 (x.1 : Int), undef, undef, undef, .func (.func 61) #[.agg #[.int .i64 (2 ^ n - 1), .slice (some ⟨g, 0, none⟩) n cap]] #[], .int .i64 s,
        .agg #[.int .i64 (u 0), .int .i64 (u 1), .int .i64 (u 2), .int .i64 (u 3), .int .i64 (u 4), .int .i64 (u 5), .int .i64 (u 6)], .int .i64 s, .func (.func 81) #[] #[.pointer (some ⟨V + 1, 0, none⟩)],
        .int .i64 (x.1 : Int), undef, undef, undef, undef, undef, undef, undef, undef, undef, undef, undef, undef, undef, undef, undef, undef, undef, undef, undef, undef], defers := [] }) ?assign ?body ?done ?stop
  case assign =>
    intro l x W K hK
    gi_wp2_with fail
    exact hK
  case body =>
    rintro l pre x W ⟨⟨hA, hS⟩, hB, hs⟩ _
    have hx7 := x.2.1
    have ⟨hp1, hp2⟩ := pow_bounds x.1 (by omega)
    have hwr : IntKind.i64.wrap (2 ^ x.1) = 2 ^ x.1 := wrap_in _ (by unfold I64; omega)
    have hmx : Try.prog.follows .mixedOrders = true := by kernel_rfl
    have hRT := root_any U 66 u HUP.out x.1 hx7 W.drew hA
    have hq7 : rtU u x.1 < 7 := by have := rt_le u x.1; omega
    have hst := fun k => stP_snoc u pre x k
    obtain ⟨q, hq⟩ : ∃ q, rtU u x.1 = q := ⟨_, rfl⟩
    rw [hq] at hRT hq7
    simp only [hq] at hst
    have HRT := Lib.hid hRT; have HST := Lib.hid hst
    clear hRT hst hq
    have hc : W.drew.cell? ⟨V, q, none⟩ = some (.int .i64 (stP u pre q)) := hS.cell q hq7
    have hf : W.drew.frozen? ⟨V, q, none⟩ = false := hS.frozen q
    have hq0 : (0 : Int) ≤ (q : Int) := by omega
    have hq77 : (q : Int) < 7 := by omega
    have HA := Lib.hid hA; have HS := Lib.hid hS; have HB := Lib.hid hB
    clear hA hS hB
    gi_wp2_with fail
    gi_region_with_o (refine ⟨trivial, (CallsIn.inRound l (callsIn_wide.2 HRT.out)).mono ?_⟩; rintro e w7 ⟨rfl, rfl⟩)
    all_goals gi_wp2_with fail
    all_goals
      have ho := ((Only.refl V W).drewN 1).setCell q (.int .i64 (bits .or .i64 (stP u pre q) (2 ^ x.1)))
      refine ⟨(KeepsOthers.drew W).trans (KeepsOthers.setCell _ _ _), KeptC.only ho (by omega) (by omega), ⟨HA.out.only ho (by omega), ((show Arr7 W.drew V 65 (stP u pre) from HS.out).set q hq7 _).congr (fun i _ => ?_)⟩, HB.out.trans (ho.below (by omega) (by omega)), Nat.le_trans hs ho.size⟩
      rw [HST.out i]
      by_cases e : i = q
      · subst e; rfl
      · rw [if_neg e, if_neg e]
  case done =>
    rintro D xs W hD hxs ⟨⟨hA, hS⟩, hB, hs⟩ hK
    have hS2 := hS.congr (g' := fun k => stI s u k) (fun i _ => stP_all hxs i)
    have HB := Lib.hid hB
    clear hA hS hB b6 c6 bV
    have d0 := hS2.cell 0 (by omega)
    have d1 := hS2.cell 1 (by omega)
    have d2 := hS2.cell 2 (by omega)
    have d3 := hS2.cell 3 (by omega)
    have d4 := hS2.cell 4 (by omega)
    have d5 := hS2.cell 5 (by omega)
    have d6 := hS2.cell 6 (by omega)
    clear hS2
    gi_wp2_with fail
    have hix := fun (k : Nat) (hk : k < 7) (w : World) => idx7 (stI s u) k hk w
    have HIX := Lib.hid hix; clear hix d0 d1 d2 d3 d4 d5 d6
    obtain ⟨i0, hi, hz0, hz1, hz2⟩ := info_parts Try.infoInt
    gi_loopw [8, 10, 26] (fun v _ i wr => ∃ k : Nat, k ≤ 7 ∧ i = .int .i64 k ∧ OwnX wr W.heap.size 3 v (pcsK n f s k) ∧ Below W.heap.size W wr) (fun _ _ i _ => 7 - (intOf i).toNat)
    case atStart => exact ⟨0, Nat.zero_le _, rfl, OwnX.nil _ _ _, Below.refl _ _⟩
    case round =>
      obtain ⟨k, hk, rfl, hown, hbel⟩ := hrel
      have HB2 := Lib.hid hbel; have HO1 := Lib.hid hown
      clear hbel hown
      by_cases hk2 : k < 7
      · have hki : (k : Int) < 7 := by omega
        have hi7 := HIX.out k hk2
        cases hl : ldB n f s k with
        | true =>
          have hst : stI s u k = pcI n f s k := st_yes HT.out HUF.out hl
          have hpc := pc_rng HT.out ((ld_iff HT.out).1 hl).1
          have hb0 : (pcI n f s k == 0) = false := by rw [beq_eq_false_iff_ne]; omega
          have HY := Lib.hid (pcsK_yes hl)
          rw [hst] at hi7
          obtain ⟨a9, c9, rfl⟩ := HO1.out.slice
          have HO : Hid (wr.ownsRow W.heap.size 3 1 (.slice a9 (pcsK n f s k).length c9) (pcsK n f s k).length ((pcsK n f s k).map (Value.int .i64))) := Lib.hid HO1.out
          have HSZ : Hid (W.heap.size ≤ wr.heap.size) := Lib.hid HB2.out.size
          have HL := Lib.hid (show (pcsK n f s k).length ≤ 1000 by have := pcsK_len (n := n) (f := f) (a := s) k; omega)
          clear hl hst hpc
          obtain ⟨z, hz⟩ : ∃ z, pcI n f s k = z := ⟨_, rfl⟩
          rw [hz] at hi7 hb0 HY
          clear hz
          have k1 := Lib.hid (fun (j : Nat) (u : Value) (h : [Value.int .i64 z][j]? = some u) => cell_one_new wr (.int .i64 z) 3 j u h)
          have k2 : Hid (∀ u ∈ [Value.int .i64 z], u.oneCell' = true) := Lib.hid (by intro u hu; simp at hu; subst hu; rfl)
          have k3 : Hid ((pcsK n f s k).length + 1 ≤ maxLen) := Lib.hid (by have := HL.out; unfold maxLen; omega)
          have k4 : Hid (((pcsK n f s k).length + 1) * 8 ≤ 140737488355328) := Lib.hid (by have := HL.out; omega)
          have k5 : Hid (W.heap.size ≤ (wr.alloc (.cells #[.int .i64 z] 3)).heap.size) := Lib.hid (by rw [alloc_size]; have := HSZ.out; omega)
          gi_wp2_with (gi_at_builtin; refine wpListIn_append_own _ rfl (.tmp 31) (.tmp 33) 23 rfl W.heap.size 3 i0 (.int .i64 0) 1 8 Try.underlying23 hi hz0 hz1 hz2 rfl (by decide) _ _ _ rfl (HO.out.alloc _) ⟨wr.heap.size, 0, none⟩ 1 1 [.int .i64 z] rfl rfl k1.out k2.out k3.out k4.out k5.out ?_)
          intro v' w5 hown' hgrow _
          have hg5 : Below W.heap.size wr w5 := ((Below.refl W.heap.size wr).alloc HSZ.out _).grown hgrow (by have := HSZ.out; rw [alloc_size]; omega) (fun q hq => (HO.out.lt q hq).1)
          have ho5 := OwnX.snoc hown'
          rw [← HY.out] at ho5
          obtain ⟨a5, c5, rfl⟩ := ho5.slice
          have HO5 := Lib.hid ho5; have HB5 := Lib.hid (HB2.out.trans hg5)
          clear hown' hgrow k1 k2 k3 k4 k5 ho5 hg5
          gi_wp2_with fail
          go_roundw
          case rel => exact ⟨k + 1, by omega, by go_num, HO5.out, HB5.out⟩
          case measure => simp [intOf]; omega
        | false =>
          have hst : stI s u k = 0 := st_no HT.out HUF.out hk2 hl
          have HN := Lib.hid (pcsK_no hl)
          rw [hst] at hi7
          clear hl hst
          gi_wp2_with fail
          go_roundw
          case rel => exact ⟨k + 1, by omega, by go_num, by rw [HN.out]; exact HO1.out, HB2.out⟩
          case measure => simp [intOf]; omega
      · have hki : ¬ (k : Int) < 7 := by omega
        have hkn : k = 7 := by omega
        subst hkn
        gi_wp2_with fail
        have hDW : D < W.heap.size := (Array.getElem?_eq_some_iff.1 hK).1
        have hK9 := (HB2.out.block D hDW).trans hK
        refine ⟨by simp, .inl ⟨_, _, rfl, run_takeDeferred hK9, ?_⟩⟩
        have h7 := HT.out.g.hi
        have ho9 := HO1.out
        rw [pcsK_top HT.out 7 h7] at ho9
        refine ⟨_, results_tmp rfl _ _ _, _, rfl, ?_, ?_⟩
        · exact (ho9.other (w' := wr.putObj D (.deferred none)) (fun q _ hBq _ => World.putObj_heap_other (by omega))).base HB.out.size
        · exact (HB.out.trans (HB2.out.mono HB.out.size)).trans (belowK_b (n₀ := w.heap.size) (w := W0) hBR wr D _ (.deferred none) hD hK9 rfl rfl)
  case stop =>
    rintro D c pre W _ _ h _
    exact h.elim
end Go.Proofs.Ytacoeaoaabjkoaa
