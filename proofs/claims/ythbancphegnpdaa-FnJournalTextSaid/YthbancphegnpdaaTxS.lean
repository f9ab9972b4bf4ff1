import Derived.Test.YthbancphegnpdaaTxQ
namespace Go.Proofs.Ythbancphegnpdaa
set_option linter.unusedVariables false
set_option linter.unusedSimpArgs false
open Go.RowKit Go.Maps

/-- the model's state: what was read, and that no newline has come since -/
structure RsS (l : List UInt8) (w : World) (k p : Nat) (vo : Value) (ds : List (Int × Int)) (wr : World) : Prop where
  own : OwnD wr w.heap.size vo ds
  rj : RjS l ds p
  le : p ≤ k
  no : (10 : UInt8) ∉ (l.drop p).take (k - p)
  bel : Below w.heap.size w wr
theorem take_next {l : List UInt8} {p k : Nat} (hp : p ≤ k) (hk : k < l.length) : (l.drop p).take (k + 1 - p) = (l.drop p).take (k - p) ++ [l.getD k 0] := by
  have e : k + 1 - p = (k - p) + 1 := by omega
  have h1 : (l.drop p)[k - p]? = some (l.getD k 0) := by
    rw [List.getElem?_drop, show p + (k - p) = k by omega, List.getD_eq_getElem?_getD, List.getElem?_eq_getElem hk]; rfl
  rw [e, List.take_add_one, h1]; rfl
theorem drop_split {l : List UInt8} {p k : Nat} (hp : p ≤ k) (hk : k < l.length) : l.drop p = (l.drop p).take (k - p) ++ l.getD k 0 :: l.drop (k + 1) := by
  have h1 : l.drop p = (l.drop p).take (k + 1 - p) ++ (l.drop p).drop (k + 1 - p) := (List.take_append_drop _ _).symm
  rw [take_next hp hk, List.drop_drop, show p + (k + 1 - p) = k + 1 by omega, List.append_assoc] at h1
  exact h1
def RsR (l : List UInt8) (w : World) (k : Nat) (p : Int) (vo v : Value) (wr : World) : Prop := ∃ q ds, p = ((q : Nat) : Int) ∧ vo = v ∧ RsS l w k q vo ds wr
theorem deeds_le {l : List UInt8} {ds : List (Int × Int)} {p : Nat} (h : RjS l ds p) : ds.length ≤ p := by
  have h1 : ds.length ≤ (jtR ds).length := by
    clear h
    induction ds with
    | nil => exact Nat.zero_le _
    | cons d ds ih => rw [jtR_cons', List.length_append, List.length_cons]; unfold lnL; simp; omega
  rw [h.len] at h1
  exact h1

set_option maxRecDepth 100000 in
set_option maxHeartbeats 3200000 in
theorem specReadJournal_any (s : ByteArray) (hs : s.size ≤ 1048600) (w : World) :
    Calls Try.prog 37 #[.string s] w (RjEnd s.data.toList w) := by
  obtain ⟨i0, hii, hz0, hz1, hz2⟩ := info_deed
  have HST : Hid (RsR s.data.toList w 0 0 (.slice (some ⟨w.heap.size, 0, none⟩) 0 0) (.slice (some ⟨w.heap.size, 0, none⟩) 0 0) (w.alloc (.cells #[] 31))) := Lib.hid ⟨0, [], rfl, rfl, ⟨OwnD.made w _ (Nat.le_refl _), RjS.none _, Nat.le_refl _, by simp, alloc_below w _⟩⟩
  go_enter Try.func37, Try.ntmps37
  go_wp2_with fail
  go_loopw [4, 5, 6, 7, 8] (fun v f i _ _ wr => ∃ (k : Nat) (p : Int) (vo : Value), k ≤ s.size ∧ i = .int .i64 k ∧ f = .int .i64 p ∧ Hid (RsR s.data.toList w k p vo v wr)) (fun _ _ i _ _ _ => s.size - (intOf i).toNat)
  case atStart => exact ⟨0, 0, _, Nat.zero_le _, rfl, rfl, HST⟩
  case round =>
    clear HST
    obtain ⟨k, p, vo, hk, rfl, rfl, HR⟩ := hrel
    obtain ⟨q, ds, hp, hv, hS⟩ := HR.out
    subst hp
    subst hv
    obtain ⟨av, cv, rfl⟩ := hS.own.slice
    have HS := Lib.hid hS
    have hqk := hS.le
    have hdl := deeds_le hS.rj
    have HDL := Lib.hid (show ds.length ≤ 1048600 by omega)
    clear HR hS hdl
    by_cases hlt : k < s.size
    · have hki : (k : Int) < (s.size : Int) := by omega
      have hkl : k < s.data.toList.length := by rw [← Lib.size_eq]; exact hlt
      have hix := fun w => idxS s k hlt w
      cases hb : (s.data.toList.getD k 0 == 10) with
      | true =>
        have hbb : ((s.data.toList.getD k 0).toNat : Int) = 10 := by rw [beq_iff_eq.1 hb]; rfl
        rw [hbb] at hix
        have HSPL := Lib.hid (show s.data.toList.drop q = (s.data.toList.drop q).take (k - q) ++ 10 :: s.data.toList.drop (k + 1) by
          have h := drop_split hqk hkl
          rw [beq_iff_eq.1 hb] at h
          exact h)
        have hcut := fun w => cutSl s q k hqk (by omega) w
        obtain ⟨t, ht⟩ : ∃ t, s.extract q k = t := ⟨_, rfl⟩
        rw [ht] at hcut
        have HT := Lib.hid (show t.data.toList = (s.data.toList.drop q).take (k - q) by rw [← ht, Lib.extract_data])
        have HTS := Lib.hid (show t.size ≤ 1048600 by
          have h : t.size = t.data.toList.length := Lib.size_eq t
          rw [HT.out, List.length_take, List.length_drop] at h
          have := Lib.size_eq s
          omega)
        obtain ⟨a, ha⟩ : ∃ a, (s.data.toList.drop q).take (k - q) = a := ⟨_, rfl⟩
        have HA := Lib.hid (show (10 : UInt8) ∉ a by rw [← ha]; exact HS.out.no)
        have HAL := Lib.hid (show a.length = k - q by rw [← ha, List.length_take, List.length_drop]; omega)
        rw [ha] at HSPL HT
        clear hb hbb ht ha hkl
        go_wp2_with fail
        refine (specReadDeed_any t HTS.out _).mono ?_
        rintro e w6 ⟨rfl, hb6⟩
        rw [HT.out]
        obtain ⟨kk, hkk⟩ : ∃ k, rdK a = k := ⟨_, rfl⟩
        obtain ⟨xx, hxx⟩ : ∃ k, rdY a = k := ⟨_, rfl⟩
        rw [hkk, hxx]
        have HB6 := Lib.hid (below_onto HS.out.bel hb6)
        have HO6 := Lib.hid (show OwnD w6 w.heap.size (.slice av ds.length cv) ds from by
          have h := HS.out.own
          refine ⟨h.1, ?_⟩
          rcases h.2 with h1 | ⟨g, cap, cur, hv, hBg, hg, hr⟩
          · exact .inl h1
          · exact .inr ⟨g, cap, cur, hv, hBg, (hb6.block g (Array.getElem?_eq_some_iff.1 hg).1).trans hg, hr⟩)
        have hbel7 := alloc_below w6 (.cells #[.int .i64 kk, .int .i64 xx] 31)
        have HB7 := Lib.hid (below_onto HB6.out hbel7)
        have HO7 := Lib.hid (show OwnD (w6.alloc (.cells #[.int .i64 kk, .int .i64 xx] 31)) w.heap.size (.slice av ds.length cv) ds from World.ownsRow.alloc HO6.out _)
        have hblk := Blk2.new w6 31 (.int .i64 kk) (.int .i64 xx)
        obtain ⟨hq0, hq1⟩ := hblk.cell
        obtain ⟨w7, hw7⟩ : ∃ w7, w6.alloc (.cells #[.int .i64 kk, .int .i64 xx] 31) = w7 := ⟨_, rfl⟩
        obtain ⟨A7, hA7⟩ : ∃ A7, w6.heap.size = A7 := ⟨_, rfl⟩
        rw [hw7] at HB7 HO7 hq0 hq1
        rw [hA7] at hq0 hq1
        clear hb6 hbel7 hblk HO6 HB6
        cases hok : rdDB a with
        | false =>
          have HI := Lib.hid (HS.out.rj.stop HSPL.out HA.out (rdDB_none hok))
          have HL := Lib.hid HS.out.rj.len
          clear hok hkk hxx hix hcut
          go_wp2_with fail
          go_ret2
          exact ⟨_, ds, by rw [HL.out] <;> rfl, HI.out, HO7.out, HB7.out⟩
        | true =>
          have hrd := rdDB_some hok
          rw [hkk, hxx] at hrd
          have HRJ := Lib.hid (HS.out.rj.more HSPL.out hrd)
          have HOW : Hid (w7.ownsRow w.heap.size 31 2 (.slice av ds.length cv) ds.length (cellsD ds)) := Lib.hid HO7.out
          have k1 : Hid (∀ (jj : Nat) (u : Value), [Value.int .i64 kk, .int .i64 xx][jj]? = some u → (w7.alloc (.cells #[.int .i64 kk, .int .i64 xx] 31)).cell? ((⟨w7.heap.size, 0, none⟩ : Addr).add jj) = some u) := Lib.hid (fun jj u h => by
            have hh : (w7.alloc (.cells #[.int .i64 kk, .int .i64 xx] 31)).heap[w7.heap.size]? = some (.cells #[.int .i64 kk, .int .i64 xx] 31) := heap_alloc_new w7 _
            rw [Addr.add_lit, Nat.zero_add]
            unfold World.cell?
            rw [hh]
            have h4 : jj < 2 := (List.getElem?_eq_some_iff.1 h).1
            have : jj = 0 ∨ jj = 1 := by omega
            rcases this with rfl | rfl <;> exact h)
          have k2 : Hid (∀ u ∈ [Value.int .i64 kk, .int .i64 xx], u.oneCell' = true) := Lib.hid (by intro u hu; simp only [List.mem_cons, List.not_mem_nil, or_false] at hu; rcases hu with rfl | rfl <;> rfl)
          have k3 : Hid (ds.length + 1 ≤ maxLen) := Lib.hid (by have := HDL.out; unfold maxLen; omega)
          have k4 : Hid ((ds.length + 1) * 16 ≤ 140737488355328) := Lib.hid (by have := HDL.out; omega)
          have k5 : Hid (w.heap.size ≤ (w7.alloc (.cells #[.int .i64 kk, .int .i64 xx] 31)).heap.size) := Lib.hid (by rw [alloc_size]; have := HB7.out.size; omega)
          clear hok hkk hxx hrd
          go_wp2_with (at_builtin; refine wpList_append_own _ rfl (.tmp 32) (.tmp 34) 36 rfl w.heap.size 31 i0 (.agg #[.int .i64 0, .int .i64 0]) 2 16 Try.underlying36 hii hz0 hz1 hz2 rfl (by decide) _ _ _ rfl (HOW.out.alloc _) ⟨w7.heap.size, 0, none⟩ 1 1 [.int .i64 kk, .int .i64 xx] rfl rfl k1.out k2.out k3.out k4.out k5.out ?_)
          intro v8 w8 hown8 hgrow8 _
          have hb8 : Below w.heap.size w7 w8 := ((Below.refl w.heap.size w7).alloc HB7.out.size _).grown hgrow8 k5.out (fun g hg => (World.ownsRow.lt HOW.out g hg).1)
          have HN : Hid (RsR s.data.toList w (k + 1) ((k : Int) + 1) v8 v8 w8) := Lib.hid ⟨k + 1, ds ++ [(kk, xx)], by omega, rfl, ⟨OwnD.snoc hown8, by
            have h := HRJ.out
            rw [HAL.out, show q + (k - q) + 1 = k + 1 by omega] at h
            exact h, Nat.le_refl _, by rw [Nat.sub_self]; simp, HB7.out.trans hb8⟩⟩
          obtain ⟨g8, c8, rfl⟩ := ownsRow_succ hown8
          clear hown8 hgrow8 hb8 k1 k2 k3 k4 k5 HOW hix hcut hq0 hq1 hw7 hA7
          go_wp2_with fail
          go_roundw
          case rel => exact ⟨k + 1, _, _, by omega, by go_num, rfl, HN⟩
          case measure => simp [intOf]; omega
      | false =>
        have hbb := byteB hb
        have HN : Hid (RsR s.data.toList w (k + 1) (q : Int) (.slice av ds.length cv) (.slice av ds.length cv) wr) := Lib.hid ⟨q, ds, rfl, rfl, ⟨HS.out.own, HS.out.rj, by omega, by
          rw [take_next hqk hkl, List.mem_append, List.mem_singleton]
          rintro (h | h)
          · exact HS.out.no h
          · rw [← h] at hb; simp at hb, HS.out.bel⟩⟩
        have hbb2 : (((s.data.toList.getD k 0).toNat : Int) == 10) = false := hbb
        obtain ⟨b, hbe⟩ : ∃ b : Int, ((s.data.toList.getD k 0).toNat : Int) = b := ⟨_, rfl⟩
        rw [hbe] at hbb2 hix
        clear hb hbe hbb hkl
        go_wp2_with fail
        go_roundw
        case rel => exact ⟨k + 1, _, _, by omega, by go_num, rfl, HN⟩
        case measure => simp [intOf]; omega
    · have hki : ¬ (k : Int) < (s.size : Int) := by omega
      have HI := Lib.hid (HS.out.rj.last (show (10 : UInt8) ∉ s.data.toList.drop q by
        have h := HS.out.no
        rw [List.take_of_length_le (by rw [List.length_drop, ← Lib.size_eq]; omega)] at h
        exact h))
      have HL := Lib.hid HS.out.rj.len
      go_wp2_with fail
      go_ret2
      exact ⟨_, ds, by rw [HL.out] <;> rfl, HI.out, HS.out.own, HS.out.bel⟩
end Go.Proofs.Ythbancphegnpdaa
