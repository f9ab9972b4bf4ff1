import Derived.Test.YtncgcopdpoaagaaLaw8V
import Derived.Test.YtncgcopdpoaagaaDrawO
import Derived.Test.YtncgcopdpoaagaaLawC
import Derived.Test.YtncgcopdpoaagaaOwnX
import Derived.Deep.RegionHeld
namespace Go.Proofs.Ytncgcopdpoaagaa
open Go.RowKit Go.Maps

/-- an append onto a row of one's own, as one step of a region that draws -/
theorem step_append_own {P : Program} {ops : Array Oper} {o : Oper} {a : Act} {w : World} {K : Act → World → Prop} {Q : Exit → Act → World → Prop} {E : Prop}
    (hg : o.guard = none) (s x : Operand) (t : TypeId) (hop : o.op = Op.call { callee := Callee.builtin Builtin.append, args := #[s, x], argTypes := #[t, t] })
    (base : Nat) (e : TypeId) (i : TypeInfo) (z : Value) (size bytes : Nat) (ht : P.underlying t = some (.slice e)) (hi : P.info? e = some i) (hz : i.zero = some z)
    (hsize : i.size = size) (hby : i.bytes = bytes) (hzs : z.cells.size = size) (hsz : 0 < size)
    (v : Value) (n : Nat) (xs : List Value) (hs : a.eval s = v) (hown : w.ownsRow base e size v n xs)
    (ad : Addr) (m c : Nat) (news : List Value) (hx : a.eval x = .slice (some ad) m c) (hl : news.length = m * size) (hnews : ∀ j u, news[j]? = some u → w.cell? (ad.add j) = some u) (h1 : ∀ u ∈ news, u.oneCell' = true)
    (h63 : n + m ≤ maxLen) (hbytes : (n + m) * bytes ≤ 140737488355328) (hbase : base ≤ w.heap.size)
    (hK : ∀ v' w', w'.ownsRow base e size v' (n + m) (xs ++ news) → w.grownBy w' v.ownBlock → K (a.put o.dst v') w') :
    if Region.wanted o (yielded ops a.tmps) = true then Oper.wp P o a w K Q else E := by
  have hw : Region.wanted o (yielded ops a.tmps) = true := by simp [Region.wanted, hg]
  rw [if_pos hw]
  obtain ⟨v', w', hr, h2, h3, _, _⟩ := run_append_own_at (P := P) w base t o.type e i z size bytes ht hi hz hsize hby hzs hsz v n xs hown ad m c news hl hnews h1 h63 hbytes hbase
  unfold Oper.wp execOp
  simp only [hop, resolve, invoke, builtin, Sem.run_bind, Sem.run_pure, Result.andThen_ok, List.map_toArray, List.map_cons, List.map_nil, hs, hx, hr]
  exact hK v' w' h2 h3

theorem lit_grd (xs : List Int) (n : Nat) (hn : xs.length = n) (h : ∀ x ∈ xs, I64 x) (hl : xs.length ≤ 1000) (cs : Array Value) (hcs : cs = (xs.map (Value.int .i64)).toArray) (v : Bool) (hv : grdB n (fun i => xs.getD i 0) = v) (w : World) :
    Calls Try.prog 18 #[.slice (some ⟨w.heap.size, 0, none⟩) n n] (w.alloc (.cells cs 3)) fun e w' => e = .returned (.bool v) ∧ Below w.heap.size w w' := by
  subst hn
  refine (GroundOk_val _ _ _ (fun i => xs.getD i 0) v _ hv (lit_ints w xs h hl cs hcs 3)).mono ?_
  rintro e w' ⟨rfl, hb⟩
  exact ⟨rfl, (alloc_below w (.cells cs 3)).trans (hb.mono (by rw [alloc_size]; omega))⟩
theorem grd_0 : grdB 1 (fun i => ([0] : List Int).getD i 0) = true := by decide
theorem grd_1 : grdB 1 (fun i => ([1] : List Int).getD i 0) = false := by decide
theorem less_ok {m : Nat} {f F : Nat → Int} (h64 : ∀ i, i < m → I64 (f i)) (hg : grdB m f = true) (h2 : 2 ≤ m) {M : Nat} (hM : m - 1 = M) (hF : ∀ i, F i = bits .and .i64 (f i) (2 ^ M - 1)) :
    grdB (rowL F M).length (fun i => (rowL F M).getD i 0) = true := by
  subst hM
  rw [rowL_len, ← grd_less h64 hg h2]
  exact grd_congr (fun i hi => by rw [rowL_getD _ _ _ hi, hF]; rfl)
theorem less_I64 {M : Nat} {f F : Nat → Int} (hF : ∀ i, F i = bits .and .i64 (f i) (2 ^ M - 1)) (k : Nat) : ∀ x ∈ rowL F k, I64 x :=
  rowL_mem (fun i _ => by rw [hF]; exact andI_I64 _ _)

set_option maxRecDepth 100000 in
set_option maxHeartbeats 8000000 in
theorem lawGroundOk (a : Option Addr) (n cap : Nat) (w : World) (h : BytesIn w a n cap) :
    Calls Try.prog 3 #[.slice a n cap] w (TrueEnd w) := by
  have hlen := h.len
  have H := Lib.hid h; clear h
  by_cases hn : 1048576 < n
  · go_enter Try.func3, Try.ntmps3
    go_wp2_with fail
    go_ret
    exact ⟨rfl, Below.refl _ _⟩
  · go_enter Try.func3, Try.ntmps3
    go_wp2_with fail
    refine (DrawGroundOk_any _ _ _ _ H.out).mono ?_
    rintro e w1 ⟨d, m, c, f, rfl, hm, hi, hb1, hcap⟩
    have H64 := Lib.hid hi.i64
    have HI := Lib.hid hi; have HB := Lib.hid hb1
    clear hi hb1

    obtain ⟨i0, hi0, hz0, hz1, hz2⟩ := info_parts Try.infoInt
    have hp20 := pow20 m (by omega)
    clear hcap
    obtain ⟨M, hM⟩ : ∃ M : Nat, m - 1 = M := ⟨_, rfl⟩
    obtain ⟨F, hF⟩ : ∃ F : Nat → Int, ∀ i, F i = bits .and .i64 (f i) (2 ^ M - 1) := ⟨_, fun _ => rfl⟩
    have HF := Lib.hid hF; clear hF
    cases hg : grdB m f with
    | false =>
      have HG := Lib.hid hg; clear hg
      go_wp2_with fail
      refine (GroundOk_val _ m c f  false  _ HG.out HI.out).mono ?_
      rintro e w9 ⟨rfl, hb2⟩
      replace HI := Lib.hid (HI.out.next hb2)
      replace HB := Lib.hid (below_onto HB.out hb2); clear hb2
      go_wp2_with fail
      refine (specGroundOk_val _ m c f  false  _ HG.out HI.out).mono ?_
      rintro e w9 ⟨rfl, hd3⟩
      replace HI := Lib.hid (HI.out.drew hd3)
      replace HB := Lib.hid (below_onto HB.out hd3.below); clear hd3
      have HOX := Lib.hid (OwnX.made w9 w9.heap.size (Nat.le_refl _) 3)
      have HAB := Lib.hid (alloc_below w9 (.cells #[] 3))
      have HL9 := Lib.hid (show w9.heap.size ≤ w9.heap.size from Nat.le_refl _)
      obtain ⟨w0, e0⟩ : ∃ w0, w0 = w9 := ⟨_, rfl⟩
      rw [← e0] at HOX HAB HI HB ⊢
      clear e0 HL9
      go_wp2_with fail
      go_loopw [5, 6] (fun v i wr => ∃ k : Nat, (k = 0 ∨ k + 1 ≤ m) ∧ i = .int .i64 k ∧ OwnX wr w0.heap.size 3 v (rowL F k) ∧ Below w0.heap.size w0 wr) (fun _ i _ => m - (intOf i).toNat)
      case atStart => exact ⟨0, .inl rfl, rfl, HOX.out, HAB.out⟩
      case round =>
        clear HOX HAB
        obtain ⟨k, hk, rfl, hown, hbel⟩ := hrel
        obtain ⟨a9, c9, rfl⟩ := hown.slice
        by_cases hlt : k + 1 < m
        · have hki : (k : Int) + 1 < (m : Int) := by omega
          have hkm : (k : Int) < (m : Int) := by omega
          have ⟨hp1, hp2⟩ := pow20 M (by omega)
          have hmM : (m : Int) - 1 = (M : Int) := by omega
          have hM8 : M ≤ 7 := by omega
          have hMw : IntKind.i64.wrap (M : Int) = (M : Int) := wrap_in _ (by unfold I64; omega)
          obtain ⟨b, o, rfl, _, hrow⟩ := (HI.out.below hbel (Nat.le_refl _)).row (by omega)
          have hc := hrow k (by omega)
          have HL := Lib.hid (show (rowL F k).length ≤ 1000 by rw [rowL_len]; omega)
          have HS := Lib.hid (rowL_succ F k)
          have HFK := Lib.hid (show F k = bits .and .i64 (f k) (IntKind.i64.wrap (IntKind.i64.wrap (2 ^ M) - 1)) by rw [wrap_in (2 ^ M) (by unfold I64; omega), wrap_in (2 ^ M - 1) (by unfold I64; omega), HF.out])
          have hwx : wr.drew = wr.drew := rfl
          have hbx : Below w0.heap.size w0 wr.drew := hbel.drew
          have HSZ := Lib.hid hbx.size
          have HBX := Lib.hid hbx
          have HO : Hid (wr.drew.ownsRow w0.heap.size 3 1 (.slice a9 (rowL F k).length c9) (rowL F k).length ((rowL F k).map (Value.int .i64))) := Lib.hid (show OwnX wr.drew w0.heap.size 3 (.slice a9 (rowL F k).length c9) (rowL F k) from hown.kept (Below.refl _ _).drew)
          have HC := Lib.hid (fun (W : World) (hW : Below w0.heap.size w0 W) => (show W.cell? ⟨b, o + k, none⟩ = some (.int .i64 (f k)) by
            obtain ⟨b', o', e', _, hr'⟩ := (HI.out.below hW (Nat.le_refl _)).row (by omega)
            cases e'; exact hr' k (by omega)))
          clear hown hbel hrow hbx hwx hc
          go_wp2_with fail
          refine wp_region_noPanic ?_
          refine wp_region_held_drew (S := (fun w0 => w0.cell? ⟨b, o + k, none⟩ = some (.int .i64 (f k)))) (by kernel_rfl) ?_ (fun hHeld => ?_)
          · exact HC.out _ HBX.out
          refine wpAnyH_take (i := 0) (v := ?_) rfl (by kernel_rfl) (by kernel_rfl) (by kernel_rfl) (fun _ _ _ h => h) (Or.inl ⟨by rfl, ?_⟩) (by assumption) ?_
          rotate_left
          · ((intro w hSw; (try dsimp only at hSw); go_simp) <;> with_reducible rfl)
          try simp only [Act.put, List.setIfInBounds_toArray, List.set_cons_zero, List.set_cons_succ, List.getElem_toArray, List.getElem_cons_zero]
          refine wpAnyH_take (i := 1) (v := ?_) rfl (by kernel_rfl) (by kernel_rfl) (by kernel_rfl) (fun _ _ _ h => h) (Or.inl ⟨by rfl, ?_⟩) (by assumption) ?_
          rotate_left
          · ((intro w hSw; (try dsimp only at hSw); go_simp) <;> with_reducible rfl)
          try simp only [Act.put, List.setIfInBounds_toArray, List.set_cons_zero, List.set_cons_succ, List.getElem_toArray, List.getElem_cons_succ, List.getElem_cons_zero]
          refine wpAnyH_take (i := 2) (v := ?_) rfl (by kernel_rfl) (by kernel_rfl) (by kernel_rfl) (fun _ _ _ h => h) (Or.inl ⟨by rfl, ?_⟩) (by assumption) ?_
          rotate_left
          · ((intro w hSw; (try dsimp only at hSw); go_simp) <;> with_reducible rfl)
          try simp only [Act.put, List.setIfInBounds_toArray, List.set_cons_zero, List.set_cons_succ, List.getElem_toArray, List.getElem_cons_succ, List.getElem_cons_zero]
          refine wpAnyH_take (i := 3) (v := ?_) rfl (by kernel_rfl) (by kernel_rfl) (by kernel_rfl) (fun _ _ _ h => h) (Or.inl ⟨by rfl, ?_⟩) (by assumption) ?_
          rotate_left
          · ((intro w hSw; (try dsimp only at hSw); go_simp) <;> with_reducible rfl)
          try simp only [Act.put, List.setIfInBounds_toArray, List.set_cons_zero, List.set_cons_succ, List.getElem_toArray, List.getElem_cons_succ, List.getElem_cons_zero]
          refine wpAnyH_take (i := 4) (v := ?_) rfl (by kernel_rfl) (by kernel_rfl) (by kernel_rfl) (fun _ _ _ h => h) (Or.inl ⟨by rfl, ?_⟩) (by assumption) ?_
          rotate_left
          · ((intro w hSw; (try dsimp only at hSw); go_simp) <;> with_reducible rfl)
          try simp only [Act.put, List.setIfInBounds_toArray, List.set_cons_zero, List.set_cons_succ, List.getElem_toArray, List.getElem_cons_succ, List.getElem_cons_zero]
          refine wpAnyH_take (i := 5) (v := ?_) rfl (by kernel_rfl) (by kernel_rfl) (by kernel_rfl) (fun _ _ _ h => h) (Or.inl ⟨by rfl, ?_⟩) (by assumption) ?_
          rotate_left
          · ((intro w hSw; (try dsimp only at hSw); go_simp) <;> with_reducible rfl)
          try simp only [Act.put, List.setIfInBounds_toArray, List.set_cons_zero, List.set_cons_succ, List.getElem_toArray, List.getElem_cons_succ, List.getElem_cons_zero]
          refine wpAnyH_take (i := 6) (v := ?_) rfl (by kernel_rfl) (by kernel_rfl) (by kernel_rfl) (fun _ _ _ h => h) (Or.inl ⟨by rfl, ?_⟩) (by assumption) ?_
          rotate_left
          · ((intro w hSw; (try dsimp only at hSw); go_simp) <;> with_reducible rfl)
          try simp only [Act.put, List.setIfInBounds_toArray, List.set_cons_zero, List.set_cons_succ, List.getElem_toArray, List.getElem_cons_succ, List.getElem_cons_zero]
          refine wpAnyH_take (i := 7) (v := ?_) rfl (by kernel_rfl) (by kernel_rfl) (by kernel_rfl) (fun _ _ _ h => h) (Or.inl ⟨by rfl, ?_⟩) (by assumption) ?_
          rotate_left
          · ((intro w hSw; (try dsimp only at hSw); go_simp) <;> with_reducible rfl)
          try simp only [Act.put, List.setIfInBounds_toArray, List.set_cons_zero, List.set_cons_succ, List.getElem_toArray, List.getElem_cons_succ, List.getElem_cons_zero]
          refine wpAnyH_take (i := 8) (v := ?_) rfl (by kernel_rfl) (by kernel_rfl) (by kernel_rfl) (fun _ _ _ h => h) (Or.inl ⟨by rfl, ?_⟩) (by assumption) ?_
          rotate_left
          · ((intro w hSw; (try dsimp only at hSw); go_simp) <;> with_reducible rfl)
          try simp only [Act.put, List.setIfInBounds_toArray, List.set_cons_zero, List.set_cons_succ, List.getElem_toArray, List.getElem_cons_succ, List.getElem_cons_zero]
          refine wpAnyH_take (i := 9) (v := ?_) rfl (by kernel_rfl) (by kernel_rfl) (by kernel_rfl) (fun _ _ _ h => h) (Or.inl ⟨by rfl, ?_⟩) (by assumption) ?_
          rotate_left
          · ((intro w hSw; (try dsimp only at hSw); go_simp) <;> with_reducible rfl)
          try simp only [Act.put, List.setIfInBounds_toArray, List.set_cons_zero, List.set_cons_succ, List.getElem_toArray, List.getElem_cons_succ, List.getElem_cons_zero]
          refine wpAnyH_take (i := 10) (v := ?_) rfl (by kernel_rfl) (by kernel_rfl) (by kernel_rfl) (fun _ _ _ h => h) (Or.inl ⟨by rfl, ?_⟩) (by assumption) ?_
          rotate_left
          · ((intro w hSw; (try dsimp only at hSw); go_simp) <;> with_reducible rfl)
          try simp only [Act.put, List.setIfInBounds_toArray, List.set_cons_zero, List.set_cons_succ, List.getElem_toArray, List.getElem_cons_succ, List.getElem_cons_zero]
          rw [← HFK.out]
          have HO2 := Lib.hid (HO.out.alloc (.cells #[.int .i64 (F k)] 3)); clear HO
          have k1 := Lib.hid (fun (j : Nat) (u : Value) (h : [Value.int .i64 (F k)][j]? = some u) => cell_one_new wr.drew (.int .i64 (F k)) 3 j u h)
          have k2 : Hid (∀ u ∈ [Value.int .i64 (F k)], u.oneCell' = true) := Lib.hid (by intro u hu; simp at hu; subst hu; rfl)
          have k3 : Hid ((rowL F k).length + 1 ≤ maxLen) := Lib.hid (by have := HL.out; unfold maxLen; omega)
          have k4 : Hid (((rowL F k).length + 1) * 8 ≤ 140737488355328) := Lib.hid (by have := HL.out; omega)
          have k5 : Hid (w0.heap.size ≤ (wr.drew.alloc (.cells #[.int .i64 (F k)] 3)).heap.size) := Lib.hid (by rw [alloc_size]; have := HSZ.out; omega)
          refine wpAnyH_ready (rs := [11]) (by kernel_rfl) (by simp) ?_
          refine AllReadyH.cons rfl (fun K hK => ?_) AllReadyH.nil
          go_simp
          refine hK.out _ _ ?_ (fun hHeld => ?_)
          · exact HC.out _ (HBX.out.alloc HSZ.out _)
          clear hK K
          try simp only [Act.put, List.setIfInBounds_toArray, List.set_cons_zero, List.set_cons_succ, List.getElem_toArray, List.getElem_cons_succ, List.getElem_cons_zero]
          refine wpAnyH_ready (rs := [12]) (by kernel_rfl) (by simp) ?_
          refine AllReadyH.cons rfl (fun K hK => ?_) AllReadyH.nil
          refine step_append_own rfl (.tmp 26) (.tmp 37) 23 rfl w0.heap.size 3 i0 (.int .i64 0) 1 8 Try.underlying23 hi0 hz0 hz1 hz2 rfl (by decide) _ _ _ rfl HO2.out ⟨wr.drew.heap.size, 0, none⟩ 1 1 [.int .i64 (F k)] rfl rfl k1.out k2.out k3.out k4.out k5.out ?_
          intro v' w5 hown' hgrow
          have hg5 : Below w0.heap.size wr.drew w5 := ((Below.refl w0.heap.size wr.drew).alloc HSZ.out _).grown hgrow (by have := HSZ.out; rw [alloc_size]; omega) (fun q hq => (HO2.out.lt q hq).1)
          have ho5 := OwnX.snoc hown'
          clear hown' hgrow k1 k2 k3 k4 k5
          have HO5 := Lib.hid ho5; have HG5 := Lib.hid hg5; clear ho5 hg5
          refine hK.out _ _ ?_ (fun hHeld => ?_)
          · exact HC.out _ (HBX.out.trans HG5.out)
          clear hK K
          try simp only [Act.put, List.setIfInBounds_toArray, List.set_cons_zero, List.set_cons_succ, List.getElem_toArray, List.getElem_cons_succ, List.getElem_cons_zero]
          refine wpAnyH_take (i := 13) (v := ?_) rfl (by kernel_rfl) (by kernel_rfl) (by kernel_rfl) (fun _ _ _ h => h) (Or.inl ⟨by rfl, ?_⟩) (by assumption) ?_
          rotate_left
          · ((intro w hSw; (try dsimp only at hSw); go_simp) <;> with_reducible rfl)
          try simp only [Act.put, List.setIfInBounds_toArray, List.set_cons_zero, List.set_cons_succ, List.getElem_toArray, List.getElem_cons_succ, List.getElem_cons_zero]
          refine wpAnyH_done (by kernel_rfl) ?_ _
          refine NoPanic.normal ?_
          go_wp2_with fail
          go_roundw
          case rel => exact ⟨k + 1, by omega, by go_num, by rw [HS.out]; exact HO5.out, HBX.out.trans HG5.out⟩
          case measure => simp [intOf]; omega
        · have hki : ¬ (k : Int) + 1 < (m : Int) := by omega
          replace HB := Lib.hid (below_onto HB.out hbel)
          clear hown hbel
          go_wp2_with fail
          refine (lit_grd [0] 1 rfl (small_I64 (by decide)) (by decide) _ rfl true grd_0 _).mono ?_
          rintro e w9 ⟨rfl, hb2⟩
          replace HB := Lib.hid (below_onto HB.out hb2); clear hb2
          go_wp2_with fail
          refine (lit_grd [1] 1 rfl (small_I64 (by decide)) (by decide) _ rfl false grd_1 _).mono ?_
          rintro e w9 ⟨rfl, hb2⟩
          replace HB := Lib.hid (below_onto HB.out hb2); clear hb2
          go_wp2_with fail
          refine (alive_any _).mono ?_
          rintro e w9 ⟨rfl, hb2⟩
          replace HB := Lib.hid (below_onto HB.out hb2); clear hb2
          go_wp2_with fail
          go_ret
          exact ⟨rfl, HB.out⟩
    | true =>
      have h1 := (grd_7 hg).1
      have h7 := (grd_7 hg).2
      have HG := Lib.hid hg; clear hg
      go_wp2_with fail
      refine (GroundOk_val _ m c f  true  _ HG.out HI.out).mono ?_
      rintro e w9 ⟨rfl, hb2⟩
      replace HI := Lib.hid (HI.out.next hb2)
      replace HB := Lib.hid (below_onto HB.out hb2); clear hb2
      go_wp2_with fail
      refine (specGroundOk_val _ m c f  true  _ HG.out HI.out).mono ?_
      rintro e w9 ⟨rfl, hd3⟩
      replace HI := Lib.hid (HI.out.drew hd3)
      replace HB := Lib.hid (below_onto HB.out hd3.below); clear hd3
      have HOX := Lib.hid (OwnX.made w9 w9.heap.size (Nat.le_refl _) 3)
      have HAB := Lib.hid (alloc_below w9 (.cells #[] 3))
      have HL9 := Lib.hid (show w9.heap.size ≤ w9.heap.size from Nat.le_refl _)
      obtain ⟨w0, e0⟩ : ∃ w0, w0 = w9 := ⟨_, rfl⟩
      rw [← e0] at HOX HAB HI HB ⊢
      clear e0 HL9
      go_wp2_with fail
      go_loopw [5, 6] (fun v i wr => ∃ k : Nat, (k = 0 ∨ k + 1 ≤ m) ∧ i = .int .i64 k ∧ OwnX wr w0.heap.size 3 v (rowL F k) ∧ Below w0.heap.size w0 wr) (fun _ i _ => m - (intOf i).toNat)
      case atStart => exact ⟨0, .inl rfl, rfl, HOX.out, HAB.out⟩
      case round =>
        clear HOX HAB
        obtain ⟨k, hk, rfl, hown, hbel⟩ := hrel
        obtain ⟨a9, c9, rfl⟩ := hown.slice
        by_cases hlt : k + 1 < m
        · have hki : (k : Int) + 1 < (m : Int) := by omega
          have hkm : (k : Int) < (m : Int) := by omega
          have ⟨hp1, hp2⟩ := pow20 M (by omega)
          have hmM : (m : Int) - 1 = (M : Int) := by omega
          have hM8 : M ≤ 7 := by omega
          have hMw : IntKind.i64.wrap (M : Int) = (M : Int) := wrap_in _ (by unfold I64; omega)
          obtain ⟨b, o, rfl, _, hrow⟩ := (HI.out.below hbel (Nat.le_refl _)).row (by omega)
          have hc := hrow k (by omega)
          have HL := Lib.hid (show (rowL F k).length ≤ 1000 by rw [rowL_len]; omega)
          have HS := Lib.hid (rowL_succ F k)
          have HFK := Lib.hid (show F k = bits .and .i64 (f k) (IntKind.i64.wrap (IntKind.i64.wrap (2 ^ M) - 1)) by rw [wrap_in (2 ^ M) (by unfold I64; omega), wrap_in (2 ^ M - 1) (by unfold I64; omega), HF.out])
          have hwx : wr.drew = wr.drew := rfl
          have hbx : Below w0.heap.size w0 wr.drew := hbel.drew
          have HSZ := Lib.hid hbx.size
          have HBX := Lib.hid hbx
          have HO : Hid (wr.drew.ownsRow w0.heap.size 3 1 (.slice a9 (rowL F k).length c9) (rowL F k).length ((rowL F k).map (Value.int .i64))) := Lib.hid (show OwnX wr.drew w0.heap.size 3 (.slice a9 (rowL F k).length c9) (rowL F k) from hown.kept (Below.refl _ _).drew)
          have HC := Lib.hid (fun (W : World) (hW : Below w0.heap.size w0 W) => (show W.cell? ⟨b, o + k, none⟩ = some (.int .i64 (f k)) by
            obtain ⟨b', o', e', _, hr'⟩ := (HI.out.below hW (Nat.le_refl _)).row (by omega)
            cases e'; exact hr' k (by omega)))
          clear hown hbel hrow hbx hwx hc
          go_wp2_with fail
          refine wp_region_noPanic ?_
          refine wp_region_held_drew (S := (fun w0 => w0.cell? ⟨b, o + k, none⟩ = some (.int .i64 (f k)))) (by kernel_rfl) ?_ (fun hHeld => ?_)
          · exact HC.out _ HBX.out
          refine wpAnyH_take (i := 0) (v := ?_) rfl (by kernel_rfl) (by kernel_rfl) (by kernel_rfl) (fun _ _ _ h => h) (Or.inl ⟨by rfl, ?_⟩) (by assumption) ?_
          rotate_left
          · ((intro w hSw; (try dsimp only at hSw); go_simp) <;> with_reducible rfl)
          try simp only [Act.put, List.setIfInBounds_toArray, List.set_cons_zero, List.set_cons_succ, List.getElem_toArray, List.getElem_cons_zero]
          refine wpAnyH_take (i := 1) (v := ?_) rfl (by kernel_rfl) (by kernel_rfl) (by kernel_rfl) (fun _ _ _ h => h) (Or.inl ⟨by rfl, ?_⟩) (by assumption) ?_
          rotate_left
          · ((intro w hSw; (try dsimp only at hSw); go_simp) <;> with_reducible rfl)
          try simp only [Act.put, List.setIfInBounds_toArray, List.set_cons_zero, List.set_cons_succ, List.getElem_toArray, List.getElem_cons_succ, List.getElem_cons_zero]
          refine wpAnyH_take (i := 2) (v := ?_) rfl (by kernel_rfl) (by kernel_rfl) (by kernel_rfl) (fun _ _ _ h => h) (Or.inl ⟨by rfl, ?_⟩) (by assumption) ?_
          rotate_left
          · ((intro w hSw; (try dsimp only at hSw); go_simp) <;> with_reducible rfl)
          try simp only [Act.put, List.setIfInBounds_toArray, List.set_cons_zero, List.set_cons_succ, List.getElem_toArray, List.getElem_cons_succ, List.getElem_cons_zero]
          refine wpAnyH_take (i := 3) (v := ?_) rfl (by kernel_rfl) (by kernel_rfl) (by kernel_rfl) (fun _ _ _ h => h) (Or.inl ⟨by rfl, ?_⟩) (by assumption) ?_
          rotate_left
          · ((intro w hSw; (try dsimp only at hSw); go_simp) <;> with_reducible rfl)
          try simp only [Act.put, List.setIfInBounds_toArray, List.set_cons_zero, List.set_cons_succ, List.getElem_toArray, List.getElem_cons_succ, List.getElem_cons_zero]
          refine wpAnyH_take (i := 4) (v := ?_) rfl (by kernel_rfl) (by kernel_rfl) (by kernel_rfl) (fun _ _ _ h => h) (Or.inl ⟨by rfl, ?_⟩) (by assumption) ?_
          rotate_left
          · ((intro w hSw; (try dsimp only at hSw); go_simp) <;> with_reducible rfl)
          try simp only [Act.put, List.setIfInBounds_toArray, List.set_cons_zero, List.set_cons_succ, List.getElem_toArray, List.getElem_cons_succ, List.getElem_cons_zero]
          refine wpAnyH_take (i := 5) (v := ?_) rfl (by kernel_rfl) (by kernel_rfl) (by kernel_rfl) (fun _ _ _ h => h) (Or.inl ⟨by rfl, ?_⟩) (by assumption) ?_
          rotate_left
          · ((intro w hSw; (try dsimp only at hSw); go_simp) <;> with_reducible rfl)
          try simp only [Act.put, List.setIfInBounds_toArray, List.set_cons_zero, List.set_cons_succ, List.getElem_toArray, List.getElem_cons_succ, List.getElem_cons_zero]
          refine wpAnyH_take (i := 6) (v := ?_) rfl (by kernel_rfl) (by kernel_rfl) (by kernel_rfl) (fun _ _ _ h => h) (Or.inl ⟨by rfl, ?_⟩) (by assumption) ?_
          rotate_left
          · ((intro w hSw; (try dsimp only at hSw); go_simp) <;> with_reducible rfl)
          try simp only [Act.put, List.setIfInBounds_toArray, List.set_cons_zero, List.set_cons_succ, List.getElem_toArray, List.getElem_cons_succ, List.getElem_cons_zero]
          refine wpAnyH_take (i := 7) (v := ?_) rfl (by kernel_rfl) (by kernel_rfl) (by kernel_rfl) (fun _ _ _ h => h) (Or.inl ⟨by rfl, ?_⟩) (by assumption) ?_
          rotate_left
          · ((intro w hSw; (try dsimp only at hSw); go_simp) <;> with_reducible rfl)
          try simp only [Act.put, List.setIfInBounds_toArray, List.set_cons_zero, List.set_cons_succ, List.getElem_toArray, List.getElem_cons_succ, List.getElem_cons_zero]
          refine wpAnyH_take (i := 8) (v := ?_) rfl (by kernel_rfl) (by kernel_rfl) (by kernel_rfl) (fun _ _ _ h => h) (Or.inl ⟨by rfl, ?_⟩) (by assumption) ?_
          rotate_left
          · ((intro w hSw; (try dsimp only at hSw); go_simp) <;> with_reducible rfl)
          try simp only [Act.put, List.setIfInBounds_toArray, List.set_cons_zero, List.set_cons_succ, List.getElem_toArray, List.getElem_cons_succ, List.getElem_cons_zero]
          refine wpAnyH_take (i := 9) (v := ?_) rfl (by kernel_rfl) (by kernel_rfl) (by kernel_rfl) (fun _ _ _ h => h) (Or.inl ⟨by rfl, ?_⟩) (by assumption) ?_
          rotate_left
          · ((intro w hSw; (try dsimp only at hSw); go_simp) <;> with_reducible rfl)
          try simp only [Act.put, List.setIfInBounds_toArray, List.set_cons_zero, List.set_cons_succ, List.getElem_toArray, List.getElem_cons_succ, List.getElem_cons_zero]
          refine wpAnyH_take (i := 10) (v := ?_) rfl (by kernel_rfl) (by kernel_rfl) (by kernel_rfl) (fun _ _ _ h => h) (Or.inl ⟨by rfl, ?_⟩) (by assumption) ?_
          rotate_left
          · ((intro w hSw; (try dsimp only at hSw); go_simp) <;> with_reducible rfl)
          try simp only [Act.put, List.setIfInBounds_toArray, List.set_cons_zero, List.set_cons_succ, List.getElem_toArray, List.getElem_cons_succ, List.getElem_cons_zero]
          rw [← HFK.out]
          have HO2 := Lib.hid (HO.out.alloc (.cells #[.int .i64 (F k)] 3)); clear HO
          have k1 := Lib.hid (fun (j : Nat) (u : Value) (h : [Value.int .i64 (F k)][j]? = some u) => cell_one_new wr.drew (.int .i64 (F k)) 3 j u h)
          have k2 : Hid (∀ u ∈ [Value.int .i64 (F k)], u.oneCell' = true) := Lib.hid (by intro u hu; simp at hu; subst hu; rfl)
          have k3 : Hid ((rowL F k).length + 1 ≤ maxLen) := Lib.hid (by have := HL.out; unfold maxLen; omega)
          have k4 : Hid (((rowL F k).length + 1) * 8 ≤ 140737488355328) := Lib.hid (by have := HL.out; omega)
          have k5 : Hid (w0.heap.size ≤ (wr.drew.alloc (.cells #[.int .i64 (F k)] 3)).heap.size) := Lib.hid (by rw [alloc_size]; have := HSZ.out; omega)
          refine wpAnyH_ready (rs := [11]) (by kernel_rfl) (by simp) ?_
          refine AllReadyH.cons rfl (fun K hK => ?_) AllReadyH.nil
          go_simp
          refine hK.out _ _ ?_ (fun hHeld => ?_)
          · exact HC.out _ (HBX.out.alloc HSZ.out _)
          clear hK K
          try simp only [Act.put, List.setIfInBounds_toArray, List.set_cons_zero, List.set_cons_succ, List.getElem_toArray, List.getElem_cons_succ, List.getElem_cons_zero]
          refine wpAnyH_ready (rs := [12]) (by kernel_rfl) (by simp) ?_
          refine AllReadyH.cons rfl (fun K hK => ?_) AllReadyH.nil
          refine step_append_own rfl (.tmp 26) (.tmp 37) 23 rfl w0.heap.size 3 i0 (.int .i64 0) 1 8 Try.underlying23 hi0 hz0 hz1 hz2 rfl (by decide) _ _ _ rfl HO2.out ⟨wr.drew.heap.size, 0, none⟩ 1 1 [.int .i64 (F k)] rfl rfl k1.out k2.out k3.out k4.out k5.out ?_
          intro v' w5 hown' hgrow
          have hg5 : Below w0.heap.size wr.drew w5 := ((Below.refl w0.heap.size wr.drew).alloc HSZ.out _).grown hgrow (by have := HSZ.out; rw [alloc_size]; omega) (fun q hq => (HO2.out.lt q hq).1)
          have ho5 := OwnX.snoc hown'
          clear hown' hgrow k1 k2 k3 k4 k5
          have HO5 := Lib.hid ho5; have HG5 := Lib.hid hg5; clear ho5 hg5
          refine hK.out _ _ ?_ (fun hHeld => ?_)
          · exact HC.out _ (HBX.out.trans HG5.out)
          clear hK K
          try simp only [Act.put, List.setIfInBounds_toArray, List.set_cons_zero, List.set_cons_succ, List.getElem_toArray, List.getElem_cons_succ, List.getElem_cons_zero]
          refine wpAnyH_take (i := 13) (v := ?_) rfl (by kernel_rfl) (by kernel_rfl) (by kernel_rfl) (fun _ _ _ h => h) (Or.inl ⟨by rfl, ?_⟩) (by assumption) ?_
          rotate_left
          · ((intro w hSw; (try dsimp only at hSw); go_simp) <;> with_reducible rfl)
          try simp only [Act.put, List.setIfInBounds_toArray, List.set_cons_zero, List.set_cons_succ, List.getElem_toArray, List.getElem_cons_succ, List.getElem_cons_zero]
          refine wpAnyH_done (by kernel_rfl) ?_ _
          refine NoPanic.normal ?_
          go_wp2_with fail
          go_roundw
          case rel => exact ⟨k + 1, by omega, by go_num, by rw [HS.out]; exact HO5.out, HBX.out.trans HG5.out⟩
          case measure => simp [intOf]; omega
        · have hki : ¬ (k : Int) + 1 < (m : Int) := by omega
          replace HB := Lib.hid (below_onto HB.out hbel)
          by_cases hm1 : m = 1
          · have hq : ((m : Int) == 1) = true := by rw [beq_iff_eq]; omega
            clear hown hbel
            go_wp2_with fail
            refine (lit_grd [0] 1 rfl (small_I64 (by decide)) (by decide) _ rfl true grd_0 _).mono ?_
            rintro e w9 ⟨rfl, hb2⟩
            replace HB := Lib.hid (below_onto HB.out hb2); clear hb2
            go_wp2_with fail
            refine (lit_grd [1] 1 rfl (small_I64 (by decide)) (by decide) _ rfl false grd_1 _).mono ?_
            rintro e w9 ⟨rfl, hb2⟩
            replace HB := Lib.hid (below_onto HB.out hb2); clear hb2
            go_wp2_with fail
            refine (alive_any _).mono ?_
            rintro e w9 ⟨rfl, hb2⟩
            replace HB := Lib.hid (below_onto HB.out hb2); clear hb2
            go_wp2_with fail
            go_ret
            exact ⟨rfl, HB.out⟩
          · have hq : ((m : Int) == 1) = false := by rw [beq_eq_false_iff_ne]; omega
            have hk1 : k = M := by omega
            obtain ⟨a8, c8, hv, hhas⟩ := hown.has (by rw [rowL_len]; omega) (less_I64 HF.out k)
            injection hv with hv1 hv2 hv3
            subst hv1
            subst hv3
            have HH := Lib.hid hhas
            have HLE := Lib.hid (show grdB (rowL F k).length (fun i => (rowL F k).getD i 0) = true by rw [hk1]; exact less_ok H64.out HG.out (by omega) hM HF.out)
            clear hown hbel hhas hv2 hk1
            go_wp2_with fail
            refine (lit_grd [0] 1 rfl (small_I64 (by decide)) (by decide) _ rfl true grd_0 _).mono ?_
            rintro e w9 ⟨rfl, hb2⟩
            replace HH := Lib.hid (HH.out.next hb2)
            replace HB := Lib.hid (below_onto HB.out hb2); clear hb2
            go_wp2_with fail
            refine (GroundOk_val _ _ _ _ true _ HLE.out HH.out.ints).mono ?_
            rintro e w9 ⟨rfl, hb2⟩
            replace HB := Lib.hid (below_onto HB.out hb2); clear hb2
            go_wp2_with fail
            refine (lit_grd [1] 1 rfl (small_I64 (by decide)) (by decide) _ rfl false grd_1 _).mono ?_
            rintro e w9 ⟨rfl, hb2⟩
            replace HB := Lib.hid (below_onto HB.out hb2); clear hb2
            go_wp2_with fail
            refine (alive_any _).mono ?_
            rintro e w9 ⟨rfl, hb2⟩
            replace HB := Lib.hid (below_onto HB.out hb2); clear hb2
            go_wp2_with fail
            go_ret
            exact ⟨rfl, HB.out⟩
end Go.Proofs.Ytncgcopdpoaagaa
