import Derived.Test.YtibjdmmcnhlgnaaDrawS
import Derived.Test.YtibjdmmcnhlgnaaPlX
namespace Go.Proofs.Ytibjdmmcnhlgnaa
set_option linter.unusedVariables false
set_option linter.unusedSimpArgs false
open Go.RowKit Go.Maps

/-- the cells of a list of changes -/
def flC (cs : List (Int × Int)) : List Value := cs.flatMap (fun c => [.int .i64 c.1, .int .i64 c.2])
theorem flC_len (cs : List (Int × Int)) : (flC cs).length = cs.length * 2 := by
  unfold flC
  induction cs with
  | nil => rfl
  | cons c cs ih => rw [List.flatMap_cons, List.length_append, ih]; simp; omega
theorem flC_snoc (cs : List (Int × Int)) (p q : Int) : flC (cs ++ [(p, q)]) = flC cs ++ [.int .i64 p, .int .i64 q] := by
  unfold flC; rw [List.flatMap_append]; rfl
theorem flC_at : ∀ (cs : List (Int × Int)) (i : Nat), i < cs.length → (flC cs)[i * 2]? = some (.int .i64 (cs.getD i (0, 0)).1) ∧ (flC cs)[i * 2 + 1]? = some (.int .i64 (cs.getD i (0, 0)).2)
  | [], i, h => by cases h
  | c :: cs, 0, _ => ⟨rfl, rfl⟩
  | c :: cs, i + 1, h => by
    have ih := flC_at cs i (by simpa using h)
    have e : flC (c :: cs) = .int .i64 c.1 :: .int .i64 c.2 :: flC cs := rfl
    rw [e, List.getD_cons_succ]
    rw [show (i + 1) * 2 = i * 2 + 1 + 1 by omega, List.getElem?_cons_succ, List.getElem?_cons_succ, List.getElem?_cons_succ, List.getElem?_cons_succ]
    exact ih
/-- a slice of changes of one's own -/
def OwnP (w : World) (B : Nat) (v : Value) (cs : List (Int × Int)) : Prop := w.ownsRow B 36 2 v cs.length (flC cs)
theorem OwnP.other {w w' : World} {B : Nat} {v : Value} {cs : List (Int × Int)} (h : OwnP w B v cs) (hb : ∀ g, v.ownBlock = some g → w'.heap[g]? = w.heap[g]?) : OwnP w' B v cs := by
  obtain ⟨h3, h4⟩ := h
  refine ⟨h3, ?_⟩
  rcases h4 with h4 | ⟨g, cap, cur, hv, hB, hg, hr⟩
  · exact .inl h4
  · subst hv
    exact .inr ⟨g, cap, cur, rfl, hB, by rw [hb g rfl]; exact hg, hr⟩
theorem OwnP.lift {w w' : World} {B rb : Nat} {v : Value} {cs : List (Int × Int)} (h : OwnP w B v cs) (hb : Only rb w w') (hB : rb < B) : OwnP w' B v cs :=
  h.other (fun g hg => by have := World.ownsRow.lt h g hg; exact hb.block g this.2 (by omega))
theorem OwnP.slice {w : World} {B : Nat} {v : Value} {cs : List (Int × Int)} (h : OwnP w B v cs) : ∃ (a : Option Addr) (cap : Nat), v = .slice a cs.length cap := by
  obtain ⟨_, h4⟩ := h
  rcases h4 with ⟨h4, h5⟩ | ⟨g, cap, cur, hv, _⟩
  · exact ⟨none, 0, by rw [h5]; exact h4⟩
  · exact ⟨_, cap, hv⟩
theorem OwnP.prs {w : World} {B : Nat} {v : Value} {cs : List (Int × Int)} (h : OwnP w B v cs) (hl : cs.length ≤ 1000) (h64 : ∀ c ∈ cs, I64 c.1 ∧ I64 c.2) :
    ∃ a cap, v = .slice a cs.length cap ∧ cs.length ≤ cap ∧ Prs w a cs.length (fun i => (cs.getD i (0, 0)).1) (fun i => (cs.getD i (0, 0)).2) := by
  have hm : ∀ i, i < cs.length → I64 (cs.getD i (0, 0)).1 ∧ I64 (cs.getD i (0, 0)).2 := fun i hi => h64 _ (by rw [List.getD_eq_getElem?_getD, List.getElem?_eq_getElem hi]; exact List.getElem_mem _)
  have hlt := World.ownsRow.lt h
  have h' : w.ownsRow B 36 2 v cs.length (flC cs) := h
  obtain ⟨_, h4⟩ := h
  rcases h4 with ⟨h4, h5⟩ | ⟨g, cap, cur, hv, hB, hg, hc, _⟩
  · exact ⟨none, 0, by rw [h5]; exact h4, by omega, ⟨by omega, hm⟩, .inl h5⟩
  · subst hv
    refine ⟨_, cap, rfl, hc, ⟨by omega, hm⟩, .inr ⟨g, 0, rfl, (hlt g rfl).2, fun i hi => ?_⟩⟩
    have ha := flC_at cs i hi
    exact ⟨by rw [Nat.zero_add, h'.cellAt (i * 2) (by omega)]; exact ha.1, by rw [Nat.zero_add, h'.cellAt (i * 2 + 1) (by omega)]; exact ha.2⟩
theorem cell_two_new (w : World) (x y : Value) (t : TypeId) : ∀ j u, [x, y][j]? = some u → (w.alloc (.cells #[x, y] t)).cell? ((⟨w.heap.size, 0, none⟩ : Addr).add j) = some u := by
  intro j u hj
  have hb := (Blk2.new w t x y).cell
  match j, hj with
  | 0, hj => simp at hj; subst hj; exact hb.1
  | 1, hj => simp at hj; subst hj; exact hb.2

theorem made_prs (w : World) : Prs (w.alloc (.cells (madeCells #[.int .i64 0, .int .i64 0] (21 * 2)) 36)) (some ⟨w.heap.size, 0, none⟩) 21 (fun _ => 0) (fun _ => 0) := by
  have hr : Rw (w.alloc (.cells (madeCells #[.int .i64 0, .int .i64 0] (21 * 2)) 36)) w.heap.size 36 (21 * 2) (21 * 2) (prF (fun _ => 0) (fun _ => 0)) :=
    ⟨_, heap_alloc_new w _, size_madeCells _ _, fun i hi => by
      rw [made_pairs 21 i hi]
      unfold prF
      split <;> rfl⟩
  exact ⟨⟨by omega, fun i _ => ⟨I64_zero, I64_zero⟩⟩, .inr ⟨_, 0, rfl, hr.lt, hr.pairs⟩⟩

/-- changes are drawn -/
def DrawnP (rb P : Nat) (w : World) (e : Ending) (w' : World) : Prop :=
  ∃ a n cap F G, e = .returned (.slice a n cap) ∧ n ≤ 21 ∧ n ≤ cap ∧ Prs w' a n F G ∧ Only rb w w' ∧ Rdr w' rb (P + 40)
structure ChR (rb P : Nat) (w : World) (v : Value) (cs : List (Int × Int)) (wr : World) : Prop where
  own : OwnP wr w.heap.size v cs
  i64 : ∀ c ∈ cs, I64 c.1 ∧ I64 c.2
  only : Only rb w wr
  rdr : Rdr wr rb P
theorem ChR.lift {rb P Q : Nat} {w : World} {v : Value} {cs : List (Int × Int)} {wr w' : World} (h : ChR rb P w v cs wr) (ho : Only rb wr w') (hrb : rb < w.heap.size) (hr : Rdr w' rb Q) : ChR rb Q w v cs w' :=
  ⟨h.own.lift ho hrb, h.i64, h.only.trans ho, hr⟩
theorem ChR.mono {rb P Q : Nat} {w : World} {v : Value} {cs : List (Int × Int)} {wr : World} (h : ChR rb P w v cs wr) (hPQ : P ≤ Q) : ChR rb Q w v cs wr := ⟨h.own, h.i64, h.only, h.rdr.mono hPQ⟩
theorem ChR.more {rb P : Nat} {w : World} {v v' : Value} {cs : List (Int × Int)} {wr w' : World} {p q : Int} {tmp : Obj} (h : ChR rb P w v cs wr) (hp : I64 p) (hq : I64 q) (hrb : rb < w.heap.size)
    (ho : w'.ownsRow w.heap.size 36 2 v' (cs.length + 1) (flC cs ++ [.int .i64 p, .int .i64 q])) (hg : (wr.alloc tmp).grownBy w' v.ownBlock) : ChR rb P w v' (cs ++ [(p, q)]) w' := by
  have hb : Below w.heap.size wr w' := ((Below.refl w.heap.size wr).alloc h.only.size _).grown hg (by rw [alloc_size]; have := h.only.size; omega) (fun q hq => (World.ownsRow.lt h.own q hq).1)
  refine ⟨by unfold OwnP; rw [List.length_append, flC_snoc]; exact ho, fun x hx => ?_, h.only.below_then hb, h.rdr.belowB hb hrb⟩
  rcases List.mem_append.1 hx with hx | hx
  · exact h.i64 x hx
  · rw [List.mem_singleton] at hx; rw [hx]; exact ⟨hp, hq⟩
theorem ChR.fresh {rb P : Nat} {w : World} {v : Value} {cs : List (Int × Int)} {wr : World} (h : ChR rb P w v cs wr) (hrb : rb < w.heap.size) : ChR rb P w (.slice (some ⟨wr.heap.size, 0, none⟩) 0 0) [] (wr.alloc (.cells #[] 36)) :=
  ⟨World.ownsRow_made wr #[] 0 h.only.size (by unfold maxLen; omega) rfl, fun x hx => (by cases hx), h.only.alloc _, h.rdr.below (alloc_below _ _)⟩

set_option maxRecDepth 100000 in
set_option maxHeartbeats 6400000 in
theorem changes_any (rb P : Nat) (hP : P ≤ 100000) (w : World) (h : Rdr w rb P) :
    Calls Try.prog 63 #[.pointer (some ⟨rb, 0, none⟩)] w (DrawnP rb P w) := by
  obtain ⟨i0, hii, hz0, hz1, hz2⟩ := info_parts Try.infoChange
  have hrb : rb < w.heap.size := h.1
  have hab := alloc_below w (.cells #[] 36)
  have HS0 := Lib.hid (show ChR rb P w (.slice (some ⟨w.heap.size, 0, none⟩) 0 0) [] (w.alloc (.cells #[] 36)) from ⟨World.ownsRow_made w #[] 0 (Nat.le_refl _) (by unfold maxLen; omega) rfl, fun x hx => (by cases hx), Only.of_below hab, h.below hab⟩)
  clear h hab
  go_enter Try.func63, Try.ntmps63
  go_wp2_with fail
  refine (pick_any rb P 9 (by omega) _ HS0.out.rdr).mono ?_
  rintro e w1 ⟨K, rfl, hK, ho, hr⟩
  have hK9 : K < 9 := by omega
  have HS1 := Lib.hid (HS0.out.lift ho hrb hr)
  clear ho hr hK HS0
  go_wp2_with fail
  go_loopw [3, 4] (fun v k wr => ∃ (j q : Nat) (vo : Value) (cs : List (Int × Int)), j ≤ K ∧ q = K - j ∧ cs.length = j ∧ k = .int .i64 q ∧ vo = v ∧ Hid (ChR rb (P + 1 + 2 * j) w vo cs wr)) (fun _ k _ => (intOf k).toNat)
  case atStart => exact ⟨0, K, _, [], Nat.zero_le _, by omega, rfl, rfl, rfl, Lib.hid (HS1.out.mono (by omega))⟩
  case round =>
    clear HS1
    obtain ⟨j, q, vo, cs, hj, hq, hcl, rfl, rfl, hS⟩ := hrel
    by_cases hlt : j < K
    · have hq0 : (0 : Int) < (q : Int) := by omega
      obtain ⟨a9, c9, rfl⟩ := hS.out.own.slice
      have HCL := Lib.hid hcl; have HQ := Lib.hid hq
      have hq1 : 1 ≤ q := by omega
      have hq9 : q ≤ 9 := by omega
      have HLB := Lib.hid (show cs.length ≤ 20 by omega)
      clear hcl hq
      go_wp2_with fail
      refine (pick_any rb _ 6 (by omega) _ hS.out.rdr).mono ?_
      rintro e w2 ⟨p, rfl, hp, ho, hr⟩
      have HS2 := Lib.hid (hS.out.lift ho hrb hr)
      have hp6 : p < 6 := by omega
      clear ho hr hp hS
      go_wp2_with fail
      refine (pick_any rb _ 20 (by omega) _ HS2.out.rdr).mono ?_
      rintro e w3 ⟨u, rfl, hu, ho, hr⟩
      have HS3 := Lib.hid (HS2.out.lift ho hrb hr)
      have hu20 : u < 20 := by omega
      clear ho hr hu HS2
      have HO : Hid (w3.ownsRow w.heap.size 36 2 (.slice a9 cs.length c9) cs.length (flC cs)) := Lib.hid HS3.out.own
      have k1 := Lib.hid (fun (jj : Nat) (x : Value) (h : [Value.int .i64 (p : Int), .int .i64 (u : Int)][jj]? = some x) => cell_two_new w3 (.int .i64 (p : Int)) (.int .i64 (u : Int)) 36 jj x h)
      have k2 : Hid (∀ x ∈ [Value.int .i64 (p : Int), .int .i64 (u : Int)], x.oneCell' = true) := Lib.hid (by intro x hx; simp at hx; rcases hx with rfl | rfl <;> rfl)
      have k3 : Hid (cs.length + 1 ≤ maxLen) := Lib.hid (by have := HLB.out; unfold maxLen; omega)
      have k4 : Hid ((cs.length + 1) * 16 ≤ 140737488355328) := Lib.hid (by have := HLB.out; omega)
      have k5 : Hid (w.heap.size ≤ (w3.alloc (.cells #[.int .i64 (p : Int), .int .i64 (u : Int)] 36)).heap.size) := Lib.hid (by rw [alloc_size]; have := HS3.out.only.size; omega)
      go_wp2_with (at_builtin; refine wpList_append_own _ rfl (.tmp 13) (.tmp 19) 42 rfl w.heap.size 36 i0 (.agg #[.int .i64 0, .int .i64 0]) 2 16 Try.underlying42 hii hz0 hz1 hz2 rfl (by decide) _ _ _ rfl (HO.out.alloc _) ⟨w3.heap.size, 0, none⟩ 1 1 [.int .i64 (p : Int), .int .i64 (u : Int)] rfl rfl k1.out k2.out k3.out k4.out k5.out ?_)
      intro v5 w5 hown5 hgrow5 _
      have hs5 := HS3.out.more (p := (p : Int)) (q := (u : Int)) (by unfold I64; omega) (by unfold I64; omega) hrb hown5 hgrow5
      obtain ⟨g5, c5, rfl⟩ := ownsRow_succ hown5
      have HS5 := Lib.hid hs5
      clear hown5 hgrow5 hs5 k1 k2 k3 k4 k5 HO HS3
      go_wp2_with fail
      go_roundw
      case rel => exact ⟨j + 1, q - 1, _, cs ++ [((p : Int), (u : Int))], by omega, by have := HQ.out; omega, by rw [List.length_append, HCL.out]; rfl, by go_num, rfl, Lib.hid (HS5.out.mono (by omega))⟩
      case measure => simp [intOf]; omega
    · have hq0 : ¬ (0 : Int) < (q : Int) := by omega
      have HS := Lib.hid (hS.out.mono (show P + 1 + 2 * j ≤ P + 20 by omega))
      have HCS := Lib.hid (show cs.length ≤ 20 by omega)
      obtain ⟨a9, c9, rfl⟩ := HS.out.own.slice
      clear hS hcl hq
      go_wp2_with fail
      refine (pick_any rb _ 4 (by omega) _ HS.out.rdr).mono ?_
      rintro e w2 ⟨z, rfl, hz, ho, hr⟩
      have HS2 := Lib.hid (HS.out.lift ho hrb hr)
      clear ho hr hz HS
      cases hzb : ((z : Int) == 0) with
      | false =>
        go_wp2_with fail
        refine (odd_any rb _ 30 (by omega) (by omega) (by omega) _ HS2.out.rdr).mono ?_
        rintro e w8 ⟨b, rfl, ho, hr⟩
        have HS8 := Lib.hid (HS2.out.lift ho hrb hr)
        clear ho hr HS2
        cases b with
        | false =>
          go_wp2_with fail
          go_ret
          obtain ⟨a, cap, hv, hcap, hp⟩ := HS8.out.own.prs (by have := HCS.out; omega) HS8.out.i64
          cases hv
          exact ⟨_, _, _, _, _, rfl, by have := HCS.out; omega, hcap, hp, HS8.out.only, HS8.out.rdr.mono (by omega)⟩
        | true =>
          have hmk : ∀ w, (Instr.makeSlice 42 (.int .i64 21) (.int .i64 21)).run Try.prog w = .ok (.slice (some ⟨w.heap.size, 0, none⟩) 21 21) (w.alloc (.cells (madeCells #[.int .i64 0, .int .i64 0] (21 * 2)) 36)) := fun w => run_made_pairs 21 (by omega) w
          have HN := Lib.hid (show DrawnP rb P w (.returned (.slice (some ⟨w8.heap.size, 0, none⟩) 21 21)) (w8.alloc (.cells (madeCells #[.int .i64 0, .int .i64 0] (21 * 2)) 36)) from
            ⟨_, 21, 21, fun _ => 0, fun _ => 0, rfl, by omega, by omega, made_prs w8, HS8.out.only.alloc _, (HS8.out.rdr.below (alloc_below _ _)).mono (by omega)⟩)
          go_wp2_with fail
          go_ret
          exact HN.out
      | true =>
        have HS3 := Lib.hid (HS2.out.fresh hrb)
        clear HS2 HCS
        go_wp2_with fail
        go_loopw [3, 5] (fun v k wr => ∃ (j : Nat) (vo : Value) (cs : List (Int × Int)), j ≤ 6 ∧ cs.length = j ∧ k = .int .i64 j ∧ vo = v ∧ Hid (ChR rb (P + 20 + 1) w vo cs wr)) (fun _ k _ => 6 - (intOf k).toNat)
        case atStart => exact ⟨0, _, [], Nat.zero_le _, rfl, rfl, rfl, HS3⟩
        case round =>
          clear HS3
          obtain ⟨j, vo, cs, hj, hcl, rfl, rfl, hS⟩ := hrel
          by_cases hlt : j < 6
          · have hji : (j : Int) < 6 := by omega
            obtain ⟨a9, c9, rfl⟩ := hS.out.own.slice
            have HCL := Lib.hid hcl
            have HLB := Lib.hid (show cs.length ≤ 20 by omega)
            clear hcl
            have HO : Hid (wr.ownsRow w.heap.size 36 2 (.slice a9 cs.length c9) cs.length (flC cs)) := Lib.hid hS.out.own
            have k1 := Lib.hid (fun (jj : Nat) (x : Value) (h : [Value.int .i64 (j : Int), .int .i64 (50 + (j : Int))][jj]? = some x) => cell_two_new wr (.int .i64 (j : Int)) (.int .i64 (50 + (j : Int))) 36 jj x h)
            have k2 : Hid (∀ x ∈ [Value.int .i64 (j : Int), .int .i64 (50 + (j : Int))], x.oneCell' = true) := Lib.hid (by intro x hx; simp at hx; rcases hx with rfl | rfl <;> rfl)
            have k3 : Hid (cs.length + 1 ≤ maxLen) := Lib.hid (by have := HLB.out; unfold maxLen; omega)
            have k4 : Hid ((cs.length + 1) * 16 ≤ 140737488355328) := Lib.hid (by have := HLB.out; omega)
            have k5 : Hid (w.heap.size ≤ (wr.alloc (.cells #[.int .i64 (j : Int), .int .i64 (50 + (j : Int))] 36)).heap.size) := Lib.hid (by rw [alloc_size]; have := hS.out.only.size; omega)
            go_wp2_with (at_builtin; refine wpList_append_own _ rfl (.tmp 29) (.tmp 34) 42 rfl w.heap.size 36 i0 (.agg #[.int .i64 0, .int .i64 0]) 2 16 Try.underlying42 hii hz0 hz1 hz2 rfl (by decide) _ _ _ rfl (HO.out.alloc _) ⟨wr.heap.size, 0, none⟩ 1 1 [.int .i64 (j : Int), .int .i64 (50 + (j : Int))] rfl rfl k1.out k2.out k3.out k4.out k5.out ?_)
            intro v5 w5 hown5 hgrow5 _
            have hs5 := hS.out.more (p := (j : Int)) (q := 50 + (j : Int)) (by unfold I64; omega) (by unfold I64; omega) hrb hown5 hgrow5
            obtain ⟨g5, c5, rfl⟩ := ownsRow_succ hown5
            have HS5 := Lib.hid hs5
            clear hown5 hgrow5 hs5 k1 k2 k3 k4 k5 HO hS
            go_wp2_with fail
            go_roundw
            case rel => exact ⟨j + 1, _, cs ++ [((j : Int), 50 + (j : Int))], by omega, by rw [List.length_append, HCL.out]; rfl, by go_num, rfl, HS5⟩
            case measure => simp [intOf]; omega
          · have hji : ¬ (j : Int) < 6 := by omega
            obtain ⟨a9, c9, rfl⟩ := hS.out.own.slice
            have HCS := Lib.hid (show cs.length ≤ 20 by omega)
            have HS3 := hS
            clear hS hcl
            go_wp2_with fail
            refine (odd_any rb _ 30 (by omega) (by omega) (by omega) _ HS3.out.rdr).mono ?_
            rintro e w8 ⟨b, rfl, ho, hr⟩
            have HS8 := Lib.hid (HS3.out.lift ho hrb hr)
            clear ho hr HS3
            cases b with
            | false =>
              go_wp2_with fail
              go_ret
              obtain ⟨a, cap, hv, hcap, hp⟩ := HS8.out.own.prs (by have := HCS.out; omega) HS8.out.i64
              cases hv
              exact ⟨_, _, _, _, _, rfl, by have := HCS.out; omega, hcap, hp, HS8.out.only, HS8.out.rdr.mono (by omega)⟩
            | true =>
              have hmk : ∀ w, (Instr.makeSlice 42 (.int .i64 21) (.int .i64 21)).run Try.prog w = .ok (.slice (some ⟨w.heap.size, 0, none⟩) 21 21) (w.alloc (.cells (madeCells #[.int .i64 0, .int .i64 0] (21 * 2)) 36)) := fun w => run_made_pairs 21 (by omega) w
              have HN := Lib.hid (show DrawnP rb P w (.returned (.slice (some ⟨w8.heap.size, 0, none⟩) 21 21)) (w8.alloc (.cells (madeCells #[.int .i64 0, .int .i64 0] (21 * 2)) 36)) from
                ⟨_, 21, 21, fun _ => 0, fun _ => 0, rfl, by omega, by omega, made_prs w8, HS8.out.only.alloc _, (HS8.out.rdr.below (alloc_below _ _)).mono (by omega)⟩)
              go_wp2_with fail
              go_ret
              exact HN.out
end Go.Proofs.Ytibjdmmcnhlgnaa
