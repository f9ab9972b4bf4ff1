import Derived.Test.YtibjdmmcnhlgnaaPlU
namespace Go.Proofs.Ytibjdmmcnhlgnaa
set_option linter.unusedVariables false
set_option linter.unusedSimpArgs false
open Go.RowKit Go.Maps

theorem getD_left {α : Type} {a b : List α} {i : Nat} {d : α} (h : i < a.length) : (a ++ b).getD i d = a.getD i d := by
  rw [List.getD_eq_getElem?_getD, List.getElem?_append_left h, ← List.getD_eq_getElem?_getD]
theorem getD_last {α : Type} {a : List α} {x d : α} {i : Nat} (h : i = a.length) : (a ++ [x]).getD i d = x := by
  subst h
  rw [List.getD_eq_getElem?_getD, List.getElem?_append_right (Nat.le_refl _), Nat.sub_self]; rfl
/-- the last ship of a story -/
theorem st_last (n : Nat) (f P Q : Nat → Int) : ∀ m, (stL n f P Q m).getD (dnL n f P Q m).length [] = rowL (nowF n f P Q m) n
  | 0 => rfl
  | m + 1 => by
    cases hg : goB n f P Q m with
    | true =>
      rw [st_yes hg, dn_yes hg, List.length_append]
      exact getD_last (by rw [st_len]; rfl)
    | false => rw [st_no hg, dn_no hg, now_no hg]; exact st_last n f P Q m
/-- the ships ahead of a change that is done, and behind it -/
theorem st_pair (n : Nat) (f P Q : Nat → Int) : ∀ m i, i < (dnL n f P Q m).length →
    (stL n f P Q m).getD i [] = rowL (nowF n f P Q ((dnL n f P Q m).getD i 0)) n ∧ (stL n f P Q m).getD (i + 1) [] = rowL (nowF n f P Q ((dnL n f P Q m).getD i 0 + 1)) n ∧ goB n f P Q ((dnL n f P Q m).getD i 0) = true
  | 0, i, h => by simp [dnL] at h
  | m + 1, i, h => by
    cases hg : goB n f P Q m with
    | true =>
      rw [dn_yes hg] at h ⊢
      rw [st_yes hg]
      have hl := st_len n f P Q m
      by_cases hi : i < (dnL n f P Q m).length
      · rw [getD_left (a := stL n f P Q m) (i := i) (by omega), getD_left (a := stL n f P Q m) (i := i + 1) (by omega), getD_left hi]
        exact st_pair n f P Q m i hi
      · have e : i = (dnL n f P Q m).length := by rw [List.length_append] at h; simp at h; omega
        rw [getD_last (a := dnL n f P Q m) e, getD_left (a := stL n f P Q m) (i := i) (by omega), getD_last (a := stL n f P Q m) (i := i + 1) (by omega), e]
        exact ⟨st_last n f P Q m, rfl, hg⟩
    | false =>
      rw [dn_no hg] at h ⊢
      rw [st_no hg]
      exact st_pair n f P Q m i h
theorem tk_take {n : Nat} {f P Q : Nat → Int} {m i : Nat} (h : i < (dnL n f P Q m).length) : (tkL n f P Q m).take (i + 1) = (tkL n f P Q m).take i ++ [outI n f P Q ((dnL n f P Q m).getD i 0)] := by
  rw [List.take_add_one]
  congr 1
  unfold tkL
  rw [List.getElem?_map, List.getD_eq_getElem?_getD, List.getElem?_eq_getElem h]
  rfl
theorem Ships.other {w w' : World} {B n : Nat} {v : Value} {L : List (List Int)} {rs : List (Nat × Nat)} (h : Ships w B n v L rs) (hb : ∀ g, (v.ownBlock = some g ∨ ∃ r ∈ rs, r.1 = g) → w'.heap[g]? = w.heap[g]?) : Ships w' B n v L rs := by
  refine ⟨ownsRow_same h.own (fun g hg => hb g (.inl hg)), fun i hi => ⟨OwnX.at (h.row i hi).1 (hb _ (.inr ⟨_, ?_, rfl⟩)), (h.row i hi).2⟩, h.dis, h.apart⟩
  rw [List.getD_eq_getElem?_getD, List.getElem?_eq_getElem (by rw [h.len]; exact hi)]
  exact List.getElem_mem _
theorem Ships.cell {w : World} {B n g c : Nat} {L : List (List Int)} {rs : List (Nat × Nat)} (h : Ships w B n (.slice (some ⟨g, 0, none⟩) L.length c) L rs) {i : Nat} (hi : i < L.length) :
    w.cell? ⟨g, i, none⟩ = some (.slice (some ⟨(rs.getD i (0, 0)).1, 0, none⟩) n (rs.getD i (0, 0)).2) := by
  rw [World.ownsRow.cellAt h.own i (by omega), List.getElem?_map, List.getD_eq_getElem?_getD, List.getElem?_eq_getElem (by rw [h.len]; exact hi)]
  rfl
theorem Ships.rowAt {w : World} {B n : Nat} {v : Value} {L : List (List Int)} {rs : List (Nat × Nat)} (h : Ships w B n v L rs) {i : Nat} (hi : i < L.length) (hn : 1 ≤ n) {F : Nat → Int} (hL : L.getD i [] = rowL F n) : Row w (rs.getD i (0, 0)).1 0 n F := by
  have h1 := (h.row i hi).1
  rw [hL] at h1
  obtain ⟨g', c', e, _, _, _, _, h5, _⟩ := h1.shape (by rw [rowL_len]; exact hn)
  rw [rowL_len] at e
  cases e
  exact row_of_list h5
theorem Ships.shape {w : World} {B n : Nat} {v : Value} {L : List (List Int)} {rs : List (Nat × Nat)} (h : Ships w B n v L rs) (h1 : 1 ≤ L.length) : ∃ g c, v = .slice (some ⟨g, 0, none⟩) L.length c := by
  obtain ⟨_, ⟨_, h0⟩ | ⟨g, cap, cur, hv, _⟩⟩ := h.own
  · omega
  · exact ⟨g, cap, hv⟩

/-- the state of the model's loops: the story, and what has been gathered -/
structure TkS (n : Nat) (B0 : Nat) (w : World) (gs cs : Nat) (L : List (List Int)) (rs : List (Nat × Nat)) (xs : List Int) (v : Value) (wr : World) : Prop where
  ships : Ships wr B0 n (.slice (some ⟨gs, 0, none⟩) L.length cs) L rs
  out : OwnX wr B0 3 v xs
  apart : ∀ g, v.ownBlock = some g → g ≠ gs ∧ ∀ r ∈ rs, r.1 ≠ g
  bel : Below B0 w wr
theorem TkS.drewN {n B0 gs cs : Nat} {w : World} {L : List (List Int)} {rs : List (Nat × Nat)} {xs : List Int} {v : Value} {wr : World} (h : TkS n B0 w gs cs L rs xs v wr) (m : Nat) : TkS n B0 w gs cs L rs xs v (wr.drewN m) :=
  ⟨h.ships.kept (below_drewN (Below.refl _ _) m), h.out.drewN m, h.apart, below_drewN h.bel m⟩
theorem TkS.more {n B0 gs cs : Nat} {w : World} {L : List (List Int)} {rs : List (Nat × Nat)} {xs : List Int} {v : Value} {wr : World} (h : TkS n B0 w gs cs L rs xs v wr) {z : Int} {v' : Value} {w' : World} {tmp : Obj}
    (ho : OwnX w' B0 3 v' (xs ++ [z])) (hg : (wr.alloc tmp).grownBy w' v.ownBlock) (hat : v'.ownBlock = v.ownBlock ∨ v'.ownBlock = some (wr.heap.size + 1)) (hB : B0 ≤ wr.heap.size) : TkS n B0 w gs cs L rs (xs ++ [z]) v' w' := by
  have hgs := (World.ownsRow.lt h.ships.own gs rfl).2
  refine ⟨h.ships.other (fun g hg2 => grown_at hg ?_ ?_), ho, ?_, (h.bel.alloc hB _).grown hg (by rw [alloc_size]; omega) (fun q hq => (World.ownsRow.lt h.out q hq).1)⟩
  · rcases hg2 with e | ⟨r, hr, rfl⟩
    · have e : gs = g := by simpa [Value.ownBlock] using e
      omega
    · exact (h.ships.lt r hr).2
  · intro e
    rcases hg2 with e2 | ⟨r, hr, rfl⟩
    · have e2 : gs = g := by simpa [Value.ownBlock] using e2
      exact (h.apart g e.symm).1 e2.symm
    · exact (h.apart _ e.symm).2 r hr rfl
  · intro g hg2
    rcases hat with e | e
    · rw [e] at hg2; exact h.apart g hg2
    · rw [e] at hg2
      have e : wr.heap.size + 1 = g := by simpa using hg2
      exact ⟨by omega, fun r hr e2 => by have := (h.ships.lt r hr).2; omega⟩

set_option maxRecDepth 100000 in
set_option maxHeartbeats 1600000 in
theorem specTakenOut_no (a b : Option Addr) (n c m c2 : Nat) (f P Q : Nat → Int) (hs : syB n f m = false) (w : World) (hi : Ints w a n f) (hp : Prs w b m P Q) :
    Calls Try.prog 36 #[.slice a n c, .slice b m c2] w (Gives 3 (tyL n f P Q m) w) := by
  have hab := alloc_below w (.cells #[] 3)
  have HI := Lib.hid (hi.below hab (Nat.le_refl _)); have HP := Lib.hid (hp.below hab (Nat.le_refl _)); have HL := Lib.hid (show tyL n f P Q m = [] by unfold tyL; rw [hs]; rfl)
  have HSL := Lib.hid (show syL n f P Q m = [] by unfold syL; rw [hs]; rfl)
  have HMD := Lib.hid (OwnX.made w w.heap.size (Nat.le_refl _) 3)
  have HB := Lib.hid hab
  rw [HL.out]
  clear hi hp hab hs
  go_enter Try.func36, Try.ntmps36
  go_wp2_with fail
  refine (specStoryOf_any a b n c m c2 f P Q _ HI.out HP.out).mono ?_
  rintro e w2 ⟨v, rs, rfl, hsh, hb2⟩
  rw [HSL.out] at hsh
  have hv : ∃ a9 c9, v = .slice a9 0 c9 := by
    obtain ⟨_, ⟨hv, _⟩ | ⟨g, cap, cur, hv, _⟩⟩ := hsh.own
    · exact ⟨_, _, hv⟩
    · exact ⟨_, _, hv⟩
  obtain ⟨a9, c9, rfl⟩ := hv
  have HMD2 := Lib.hid (HMD.out.kept hb2)
  have HB2 := Lib.hid (below_onto HB.out hb2)
  clear hsh hb2
  go_wp2_with fail
  go_loopw [5, 7, 8] (fun v i _ wr => v = .slice (some ⟨w.heap.size, 0, none⟩) 0 0 ∧ i = .int .i64 1 ∧ w2 = wr) (fun _ _ _ _ => 0)
  case atStart => exact ⟨rfl, rfl, rfl⟩
  case round =>
    obtain ⟨rfl, rfl, rfl⟩ := hrel
    go_wp2_with fail
    go_ret
    exact ⟨_, rfl, HMD2.out, HB2.out⟩

set_option maxRecDepth 100000 in
set_option maxHeartbeats 4000000 in
theorem specTakenOut_in (a b : Option Addr) (n c m c2 : Nat) (f P Q : Nat → Int) (hs : syB n f m = true) (w : World) (hi : Ints w a n f) (hp : Prs w b m P Q) :
    Calls Try.prog 36 #[.slice a n c, .slice b m c2] w (Gives 3 (tyL n f P Q m) w) := by
  obtain ⟨i0, hii, hz0, hz1, hz2⟩ := info_parts Try.infoInt
  have h2 := Bool.and_eq_true_iff.1 hs
  have hm := of_decide_eq_true h2.2
  have HSH := Lib.hid h2.1
  have hn1 := (shipB_iff.1 h2.1).1
  have hn6 := (shipB_iff.1 h2.1).2.1
  have hab := alloc_below w (.cells #[] 3)
  have HI := Lib.hid (hi.below hab (Nat.le_refl _)); have HP := Lib.hid (hp.below hab (Nat.le_refl _)); have HL := Lib.hid (show tyL n f P Q m = tkL n f P Q m by unfold tyL; rw [hs]; rfl)
  have HSL := Lib.hid (show syL n f P Q m = stL n f P Q m by unfold syL; rw [hs]; rfl)
  have HMD := Lib.hid (OwnX.made w w.heap.size (Nat.le_refl _) 3)
  have HB := Lib.hid hab
  have HPR := Lib.hid (st_pair n f P Q m)
  have HTK := Lib.hid (fun i h => tk_take (n := n) (f := f) (P := P) (Q := Q) (m := m) (i := i) h)
  have hdl := dn_len n f P Q m
  have HTL := Lib.hid (show (tkL n f P Q m).length = (dnL n f P Q m).length from tk_len _ _ _ _ _)
  have hsl := st_len n f P Q m
  rw [HL.out]
  clear hi hp hab hs h2
  obtain ⟨d, hd⟩ : ∃ d, (dnL n f P Q m).length = d := ⟨_, rfl⟩
  rw [hd] at HPR HTK hdl HTL hsl
  clear hd
  have hz1' : (w.alloc (.cells #[] 3)).heap.size = w.heap.size + 1 := alloc_size _ _
  go_enter Try.func36, Try.ntmps36
  go_wp2_with fail
  refine (specStoryOf_any a b n c m c2 f P Q _ HI.out HP.out).mono ?_
  rintro e w2 ⟨v, rs, rfl, hsh, hb2⟩
  rw [HSL.out] at hsh
  obtain ⟨SL, hSL⟩ : ∃ SL, stL n f P Q m = SL := ⟨_, rfl⟩
  rw [hSL] at hsh HPR hsl
  clear hSL HSL
  obtain ⟨gs, cs, rfl⟩ := hsh.shape (by omega)
  have hgs := World.ownsRow.lt hsh.own gs rfl
  have HST : Hid (TkS n w.heap.size w gs cs SL rs ((tkL n f P Q m).take 0) (.slice (some ⟨w.heap.size, 0, none⟩) 0 0) w2) := Lib.hid
    ⟨⟨ownsRow_base' hsh.own (by omega), fun i hi => ⟨(hsh.row i hi).1.base (by omega), (hsh.row i hi).2⟩, hsh.dis, hsh.apart⟩, HMD.out.kept hb2, fun g hg => by
      have hg : w.heap.size = g := by simpa [Value.ownBlock] using hg
      exact ⟨by omega, fun r hr e => by have := (hsh.lt r hr).1; omega⟩, below_onto HB.out hb2⟩
  clear hsh hb2 hgs hz1' HMD HB HI HP
  obtain ⟨sl, hsle⟩ : ∃ sl, SL.length = sl := ⟨_, rfl⟩
  have hsl2 : sl = d + 1 := by omega
  rw [hsle]
  have HSLE := Lib.hid hsle; clear hsle hsl
  subst hsl2
  go_wp2_with fail
  go_loopw [5, 7, 8] (fun v0 i _ wr => ∃ (k j : Nat) (vo : Value), k = j + 1 ∧ j ≤ d ∧ i = .int .i64 k ∧ vo = v0 ∧ Hid (TkS n w.heap.size w gs cs SL rs ((tkL n f P Q m).take j) vo wr)) (fun _ i _ _ => d + 1 - (intOf i).toNat)
  case atStart => exact ⟨1, 0, _, rfl, Nat.zero_le _, rfl, rfl, HST⟩
  case round =>
    clear HST
    obtain ⟨k, i, vo, hk, hid, rfl, rfl, hS⟩ := hrel
    by_cases hlt : i < d
    · have hki : (k : Int) < ((d + 1 : Nat) : Int) := by omega
      have hki' : (k : Int) < (d : Int) + 1 := by omega
      obtain ⟨hp1, hp2, hgo⟩ := HPR.out i hlt
      obtain ⟨hok0, hokn, _, hokx⟩ := okC_iff.1 (show okC n (nowF n f P Q _) (P _) (Q _) = true from hgo)
      have htk := HTK.out i hlt
      have hnow := now_yes hgo
      unfold outI at htk
      obtain ⟨ks, hks⟩ : ∃ ks, (dnL n f P Q m).getD i 0 = ks := ⟨_, rfl⟩
      rw [hks] at hp1 hp2 hgo hok0 hokn hokx htk hnow
      clear hks
      rw [hnow] at hp2
      obtain ⟨x, hx⟩ : ∃ x, nowF n f P Q ks = x := ⟨_, rfl⟩
      have hxs : shipB n x = true := by rw [← hx]; exact now_ship HSH.out ks
      rw [hx] at hp1 hp2 hokx htk
      obtain ⟨p, hpp⟩ : ∃ p : Nat, P ks = p := ⟨(P ks).toNat, by omega⟩
      rw [hpp, Int.toNat_natCast] at hp2 htk
      rw [hpp] at hokn
      obtain ⟨qq, hqq⟩ : ∃ qq, Q ks = qq := ⟨_, rfl⟩
      rw [hqq] at hp2 hokx
      have HP1 := Lib.hid hp1; have HP2 := Lib.hid hp2; have HTK2 := Lib.hid htk; have HOX := Lib.hid hokx
      have hpn : p < n := by omega
      have HX64 := Lib.hid (fun j (hj : j < n) => ship_pk hxs hj)
      clear hp1 hp2 hgo hok0 hokn hokx htk hnow hx hpp hqq hxs
      have hwr : IntKind.i64.wrap ((k : Int) - 1) = (i : Int) := by rw [wrap_in _ (by unfold I64; omega)]; omega
      obtain ⟨TL, hTL⟩ : ∃ TL, (tkL n f P Q m).take i = TL := ⟨_, rfl⟩
      have htl : TL.length ≤ 20 := by rw [← hTL, List.length_take]; omega
      rw [hTL] at HTK2 hS
      clear hTL
      have HK := Lib.hid hk
      have hi' : (i : Int) < (d : Int) + 1 := by omega
      have hk0 : (0 : Int) ≤ (k : Int) := by omega
      have hi0 : (0 : Int) ≤ (i : Int) := by omega
      clear hk
      go_wp2_with fail
      go_loopw [5, 8] (fun v0 jv wr => ∃ (j : Nat) (vo : Value), j ≤ n ∧ jv = .int .i64 j ∧ vo = v0 ∧ Hid (TkS n w.heap.size w gs cs SL rs (TL ++ if p < j then [x p] else []) vo wr)) (fun _ jv _ => n - (intOf jv).toNat)
      case atStart => exact ⟨0, _, Nat.zero_le _, rfl, rfl, Lib.hid (by rw [if_neg (by omega), List.append_nil]; exact hS.out)⟩
      case round =>
        clear hS
        obtain ⟨j, vo, hj, rfl, rfl, hS⟩ := hrel
        by_cases hjn : j < n
        · have hji : (j : Int) < (n : Int) := by omega
          have hj0 : (0 : Int) ≤ (j : Int) := by omega
          have hsh := hS.out.ships
          rw [HSLE.out] at hsh
          have hcA : wr.cell? ⟨gs, k, none⟩ = some (.slice (some ⟨(rs.getD k (0, 0)).1, 0, none⟩) n (rs.getD k (0, 0)).2) := hS.out.ships.cell (by rw [HSLE.out]; have := HK.out; omega)
          have hcB : wr.cell? ⟨gs, i, none⟩ = some (.slice (some ⟨(rs.getD i (0, 0)).1, 0, none⟩) n (rs.getD i (0, 0)).2) := hS.out.ships.cell (by rw [HSLE.out]; have := HK.out; omega)
          have hrA := (hS.out.ships.rowAt (i := k) (by rw [HSLE.out]; have := HK.out; omega) hn1 (by rw [HK.out]; exact HP2.out)) j hjn
          have hrB := (hS.out.ships.rowAt (i := i) (by rw [HSLE.out]; omega) hn1 HP1.out) j hjn
          rw [Nat.zero_add] at hrA hrB
          obtain ⟨rA, hA⟩ : ∃ r, rs.getD k (0, 0) = r := ⟨_, rfl⟩
          obtain ⟨rB, hB⟩ : ∃ r, rs.getD i (0, 0) = r := ⟨_, rfl⟩
          rw [hA] at hcA hrA
          rw [hB] at hcB hrB
          obtain ⟨gA, cA⟩ := rA
          obtain ⟨gB, cB⟩ := rB
          dsimp only at hcA hcB hrA hrB
          obtain ⟨y, hy⟩ : ∃ y, x j = y := ⟨_, rfl⟩
          rw [hy] at hrB
          clear hA hB hsh
          by_cases hjp : j = p
          · subst hjp
            rw [setF_same] at hrA
            have hne : (qq != y) = true := by
              rw [bne_iff_ne]
              intro e
              have := inF_no.1 HOX.out j hjn
              rw [hy, e] at this
              exact this rfl
            rw [if_neg (by omega), List.append_nil] at hS
            have HY := Lib.hid hy; clear hy
            go_wp2_with fail
            go_quiet (fail)
            have hSq := hS.out.drewN nq
            have hcB2 : (wr.drewN nq).cell? ⟨gs, i, none⟩ = some (.slice (some ⟨gB, 0, none⟩) n cB) := hcB
            have hrB2 : (wr.drewN nq).cell? ⟨gB, j, none⟩ = some (.int .i64 y) := hrB
            obtain ⟨wq, hwq⟩ : ∃ wq, wr.drewN nq = wq := ⟨_, rfl⟩
            rw [hwq] at hSq hcB2 hrB2 ⊢
            clear hwq hcA hcB hrA hrB hS
            have HW : Hid (wq.ownsRow w.heap.size 3 1 vo TL.length (TL.map (Value.int .i64))) := Lib.hid hSq.out
            have k1 := Lib.hid (fun (jj : Nat) (u : Value) (h : [Value.int .i64 y][jj]? = some u) => cell_one_new wq (.int .i64 y) 3 jj u h)
            have k2 : Hid (∀ u ∈ [Value.int .i64 y], u.oneCell' = true) := Lib.hid (by intro u hu; simp at hu; subst hu; rfl)
            have k3 : Hid (TL.length + 1 ≤ maxLen) := Lib.hid (by unfold maxLen; omega)
            have k4 : Hid ((TL.length + 1) * 8 ≤ 140737488355328) := Lib.hid (by omega)
            have k5 : Hid (w.heap.size ≤ (wq.alloc (.cells #[.int .i64 y] 3)).heap.size) := Lib.hid (by rw [alloc_size]; have := hSq.bel.size; omega)
            have HSQ := Lib.hid hSq; clear hSq
            go_wp2_with (at_builtin; refine wpList_append_own_at _ rfl (.tmp 41) (.tmp 50) 23 rfl w.heap.size 3 i0 (.int .i64 0) 1 8 Try.underlying23 hii hz0 hz1 hz2 rfl (by decide) _ _ _ rfl (HW.out.alloc _) ⟨wq.heap.size, 0, none⟩ 1 1 [.int .i64 y] rfl rfl k1.out k2.out k3.out k4.out k5.out ?_)
            intro v7 w7 hown7 hgrow7 _ hat7
            have HN := Lib.hid (HSQ.out.more (OwnX.snoc hown7) hgrow7 hat7 HSQ.out.bel.size)
            obtain ⟨g7, c7, rfl⟩ := ownsRow_succ hown7
            clear hown7 hgrow7 hat7 k1 k2 k3 k4 k5 HW hcB2 hrB2
            go_wp2_with fail
            go_roundw
            case rel => exact ⟨j + 1, _, by omega, by go_num, rfl, Lib.hid (by rw [if_pos (by omega), HY.out]; exact HN.out)⟩
            case measure => simp [intOf]; omega
          · rw [setF_other _ _ hjp] at hrA
            rw [hy] at hrA
            have hne : (y != y) = false := by simp
            have HN : Hid (TkS n w.heap.size w gs cs SL rs (TL ++ if p < j + 1 then [x p] else []) vo wr) := Lib.hid (by
              by_cases e : p < j
              · rw [if_pos (by omega)]; have := hS.out; rw [if_pos e] at this; exact this
              · rw [if_neg (by omega)]; have := hS.out; rw [if_neg e] at this; exact this)
            clear hS
            go_wp2_with fail
            go_quiet (fail)
            go_wp2_with fail
            go_roundw
            case rel => exact ⟨j + 1, vo, by omega, by go_num, by first | rfl | trivial, Lib.hid (HN.out.drewN _)⟩
            case measure => simp [intOf]; omega
        · have hji : ¬ (j : Int) < (n : Int) := by omega
          have hjn2 : j = n := by omega
          subst hjn2
          rw [if_pos hpn, ← HTK2.out] at hS
          go_wp2_with fail
          have hkk := HK.out
          go_roundw
          case rel => exact ⟨k + 1, i + 1, vo, by have := HK.out; omega, by omega, by go_num, by first | rfl | trivial, hS⟩
          case measure => simp [intOf]; omega
    · have hki : ¬ (k : Int) < ((d + 1 : Nat) : Int) := by omega
      have hki' : ¬ (k : Int) < (d : Int) + 1 := by omega
      have hkn : i = d := by omega
      subst hkn
      have HO := Lib.hid hS.out.out; have HB := Lib.hid hS.out.bel
      rw [List.take_of_length_le (by rw [HTL.out]; exact Nat.le_refl _)] at HO
      clear hS
      go_wp2_with fail
      go_ret
      exact ⟨_, rfl, HO.out, HB.out⟩
end Go.Proofs.Ytibjdmmcnhlgnaa
