import Derived.Test.YthbancphegnpdaaTxH
import Derived.Laws.DeepStrings4
namespace Go.Proofs.Ythbancphegnpdaa
set_option linter.unusedVariables false
set_option linter.unusedSimpArgs false
open Go.RowKit Go.Maps

/-! ### rows of texts, rows of deeds -/
def OwnS (w : World) (B : Nat) (v : Value) (ts : List ByteArray) : Prop := w.ownsRow B 9 1 v ts.length (ts.map Value.string)
theorem OwnS.snoc {w : World} {B : Nat} {v : Value} {ts : List ByteArray} {t : ByteArray} (h : w.ownsRow B 9 1 v (ts.length + 1) (ts.map Value.string ++ [.string t])) : OwnS w B v (ts ++ [t]) := by
  unfold OwnS; rw [List.length_append, List.map_append]; exact h
theorem OwnS.made (w : World) (B : Nat) (hB : B ≤ w.heap.size) : OwnS (w.alloc (.cells #[] 9)) B (.slice (some ⟨w.heap.size, 0, none⟩) 0 0) [] :=
  World.ownsRow_made w #[] 0 hB (Nat.zero_le _) rfl
theorem OwnS.slice {w : World} {B : Nat} {v : Value} {ts : List ByteArray} (h : OwnS w B v ts) : ∃ a c, v = .slice a ts.length c := by
  rcases h.2 with ⟨h1, h2⟩ | ⟨g, cap, cur, hv, _⟩
  · exact ⟨none, 0, by rw [h2]; exact h1⟩
  · exact ⟨_, cap, hv⟩
theorem OwnS.at {w : World} {B : Nat} {v : Value} {ts : List ByteArray} (h : OwnS w B v ts) {i : Nat} (hi : i < ts.length) : ∃ g c, v = .slice (some ⟨g, 0, none⟩) ts.length c ∧ B ≤ g ∧ g < w.heap.size ∧ w.cell? ⟨g, i, none⟩ = some (.string ts[i]) := by
  have hlt := World.ownsRow.lt h
  have h' : w.ownsRow B 9 1 v ts.length (ts.map Value.string) := h
  rcases h.2 with ⟨_, h2⟩ | ⟨g, cap, cur, hv, hB, _⟩
  · omega
  · subst hv
    refine ⟨g, cap, rfl, hB, (hlt g rfl).2, ?_⟩
    rw [h'.cellAt i (by omega), List.getElem?_map, List.getElem?_eq_getElem hi]; rfl
theorem Try.infoStr : (Try.prog.info? 9).map (fun i => (i.zero, i.size, i.bytes)) = some (some (.string { data := #[] }), 1, 16) := by kernel_rfl
theorem info_str : ∃ i, Try.prog.info? 9 = some i ∧ i.zero = some (.string { data := #[] }) ∧ i.size = 1 ∧ i.bytes = 16 := by
  obtain ⟨i, hi, hzz⟩ := Option.map_eq_some_iff.1 Try.infoStr
  simp only [Prod.mk.injEq] at hzz
  exact ⟨i, hi, hzz.1, hzz.2.1, hzz.2.2⟩

theorem idxS (s : ByteArray) (k : Nat) (hk : k < s.size) (w : World) : (Instr.index 9 (.string s) (.int .i64 (k : Int))).run Try.prog w = .ok (.int .u8 ((s.data.toList.getD k 0).toNat : Int)) w := by
  rw [run_index_string (P := Try.prog) w 9 _ _ _ Try.underlying9, dif_pos ⟨by omega, by omega⟩]
  have : s[(k : Int).toNat]'(by omega) = s.data.toList.getD k 0 := by
    rw [List.getD_eq_getElem?_getD, List.getElem?_eq_getElem (by rw [← Lib.size_eq]; exact hk)]
    rfl
  rw [this]
theorem cutSl (s : ByteArray) (p k : Nat) (hp : p ≤ k) (hk : k ≤ s.size) (w : World) : (Instr.slice 9 (.string s) (some (.int .i64 (p : Int))) (some (.int .i64 (k : Int))) none).run Try.prog w = .ok (.string (s.extract p k)) w := by
  rw [run_slice_string_if (P := Try.prog) w 9 s _ _ _ _ Try.underlying9, if_pos ⟨by omega, by omega⟩, if_pos ⟨by omega, by omega⟩]
  rfl
theorem endSl (s : ByteArray) (p : Nat) (hp : p ≤ s.size) (w : World) : (Instr.slice 9 (.string s) (some (.int .i64 (p : Int))) none none).run Try.prog w = .ok (.string (s.extract p s.size)) w := by
  rw [run_slice_string_l (P := Try.prog) (ht := Try.underlying9) (kl := .i64) (l := (p : Int)) (h0 := by omega) (h1 := by omega)]
  rfl

/-! ### a text, cut at a byte -/
/-- the parts that are told behind k bytes, and where the next one begins -/
def spK (l : List UInt8) (c : UInt8) : Nat → List (List UInt8) × Nat
  | 0 => ([], 0)
  | k + 1 => if l.getD k 0 == c then ((spK l c k).1 ++ [(l.drop (spK l c k).2).take (k - (spK l c k).2)], k + 1) else spK l c k
def spL (l : List UInt8) (c : UInt8) : List (List UInt8) := (spK l c l.length).1 ++ [l.drop (spK l c l.length).2]
theorem spK_le (l : List UInt8) (c : UInt8) (k : Nat) : (spK l c k).2 ≤ k ∧ (spK l c k).1.length ≤ k := by
  induction k with
  | zero => exact ⟨Nat.le_refl _, Nat.le_refl _⟩
  | succ k ih =>
    rw [spK]
    split
    · exact ⟨Nat.le_refl _, by rw [List.length_append]; simp; omega⟩
    · omega
theorem spK_yes {l : List UInt8} {c : UInt8} {k : Nat} (h : (l.getD k 0 == c) = true) : spK l c (k + 1) = ((spK l c k).1 ++ [(l.drop (spK l c k).2).take (k - (spK l c k).2)], k + 1) := by rw [spK, if_pos h]
theorem spK_no {l : List UInt8} {c : UInt8} {k : Nat} (h : (l.getD k 0 == c) = false) : spK l c (k + 1) = spK l c k := by rw [spK, if_neg (by rw [h]; decide)]
theorem byteB {a b : UInt8} {v : Bool} (h : (a == b) = v) : ((a.toNat : Int) == (b.toNat : Int)) = v := by
  subst h
  by_cases e : a = b
  · subst e; simp
  · have h1 : (a == b) = false := by simpa using e
    rw [h1]
    have : ¬ a.toNat = b.toNat := fun h => e (UInt8.toNat_inj.1 h)
    simp; omega

def CutGives (s : ByteArray) (c : UInt8) (w : World) (e : Ending) (w' : World) : Prop := ∃ v, e = .returned v ∧ OwnS w' w.heap.size v ((spL s.data.toList c).map bs) ∧ Below w.heap.size w w'
def CutR (s : ByteArray) (c : UInt8) (w : World) (k : Nat) (p : Int) (vo v : Value) (wr : World) : Prop :=
  p = ((spK s.data.toList c k).2 : Int) ∧ vo = v ∧ OwnS wr w.heap.size vo ((spK s.data.toList c k).1.map bs) ∧ Below w.heap.size w wr

set_option maxRecDepth 100000 in
set_option maxHeartbeats 3200000 in
theorem l1Cut_any (s : ByteArray) (c : UInt8) (hs : s.size ≤ 1048600) (w : World) :
    Calls Try.prog 54 #[.string s, .int .u8 (c.toNat : Int)] w (CutGives s c w) := by
  obtain ⟨i0, hii, hz0, hz1, hz2⟩ := info_str
  have HST : Hid (CutR s c w 0 0 (.slice (some ⟨w.heap.size, 0, none⟩) 0 0) (.slice (some ⟨w.heap.size, 0, none⟩) 0 0) (w.alloc (.cells #[] 9))) := Lib.hid ⟨rfl, rfl, OwnS.made w _ (Nat.le_refl _), alloc_below w _⟩
  obtain ⟨cc, hcc⟩ : ∃ cc : Int, (c.toNat : Int) = cc := ⟨_, rfl⟩
  rw [hcc]
  have HCC := Lib.hid hcc; clear hcc
  go_enter Try.func54, Try.ntmps54
  go_wp2_with fail
  go_loopw [5, 6, 7] (fun v f i wr => ∃ (k : Nat) (p : Int) (vo : Value), k ≤ s.size ∧ i = .int .i64 k ∧ f = .int .i64 p ∧ Hid (CutR s c w k p vo v wr)) (fun _ _ i _ => s.size - (intOf i).toNat)
  case atStart => exact ⟨0, 0, _, Nat.zero_le _, rfl, rfl, HST⟩
  case round =>
    clear HST
    obtain ⟨k, p, vo, hk, rfl, rfl, HR⟩ := hrel
    have HV := Lib.hid HR.out.2.1
    have hle := spK_le s.data.toList c k
    by_cases hlt : k < s.size
    · have hki : (k : Int) < (s.size : Int) := by omega
      have hix := fun w => idxS s k hlt w
      cases hb : (s.data.toList.getD k 0 == c) with
      | true =>
        have hbb := byteB hb
        rw [HCC.out] at hbb
        have HY := Lib.hid (spK_yes hb)
        obtain ⟨b, hbe⟩ : ∃ b : Int, ((s.data.toList.getD k 0).toNat : Int) = b := ⟨_, rfl⟩
        rw [hbe] at hbb hix
        clear hb hbe
        obtain ⟨q, hq⟩ : ∃ q, (spK s.data.toList c k).2 = q := ⟨_, rfl⟩
        obtain ⟨ts, hts⟩ : ∃ ts, (spK s.data.toList c k).1 = ts := ⟨_, rfl⟩
        have hR := HR.out
        unfold CutR at hR
        rw [hq, hts] at hR
        rw [hq, hts] at hle
        rw [hq, hts] at HY
        obtain ⟨hp, hv, hO, hB⟩ := hR
        have hpq : p = (q : Int) := hp
        subst hpq
        subst hv
        have hcut := fun w => cutSl s q k (by omega) (by omega) w
        obtain ⟨t, ht⟩ : ∃ t, s.extract q k = t := ⟨_, rfl⟩
        rw [ht] at hcut
        have HT := Lib.hid (show t = bs ((s.data.toList.drop q).take (k - q)) by rw [← ht]; exact list_inj (by rw [Lib.extract_data, bs_data]))
        have HO := Lib.hid (show wr.ownsRow w.heap.size 9 1 vo ts.length (ts.map (fun x => Value.string (bs x))) by
          have h := hO
          unfold OwnS at h
          rw [List.length_map, List.map_map] at h
          exact h)
        have HB := Lib.hid hB
        have k1 := Lib.hid (fun (jj : Nat) (u : Value) (h : [Value.string t][jj]? = some u) => cell_one_new wr (.string t) 9 jj u h)
        have k2 : Hid (∀ u ∈ [Value.string t], u.oneCell' = true) := Lib.hid (by intro u hu; simp only [List.mem_singleton] at hu; subst hu; rfl)
        have k3 : Hid (ts.length + 1 ≤ maxLen) := Lib.hid (by unfold maxLen; omega)
        have k4 : Hid ((ts.length + 1) * 16 ≤ 140737488355328) := Lib.hid (by omega)
        have k5 : Hid (w.heap.size ≤ (wr.alloc (.cells #[.string t] 9)).heap.size) := Lib.hid (by rw [alloc_size]; have := HB.out.size; omega)
        clear hp hO hB ht hq hts HR HV hle
        go_wp2_with (at_builtin; refine wpList_append_own _ rfl (.tmp 20) (.tmp 25) 61 rfl w.heap.size 9 i0 (.string { data := #[] }) 1 16 Try.underlying61 hii hz0 hz1 hz2 rfl (by decide) _ _ _ rfl (HO.out.alloc _) ⟨wr.heap.size, 0, none⟩ 1 1 [.string t] rfl rfl k1.out k2.out k3.out k4.out k5.out ?_)
        intro v5 w5 hown5 hgrow5 _
        have hb5 : Below w.heap.size wr w5 := ((Below.refl w.heap.size wr).alloc HB.out.size _).grown hgrow5 k5.out (fun g hg => (World.ownsRow.lt HO.out g hg).1)
        have HN : Hid (CutR s c w (k + 1) ((k : Int) + 1) v5 v5 w5) := Lib.hid (by
          unfold CutR
          rw [HY.out]
          refine ⟨by show (k : Int) + 1 = ((k + 1 : Nat) : Int); omega, rfl, ?_, HB.out.trans hb5⟩
          unfold OwnS
          rw [List.map_append, List.map_append, List.length_append, List.length_map, List.map_map]
          rw [HT.out] at hown5
          exact hown5)
        clear hown5 hgrow5 hb5 k1 k2 k3 k4 k5 HO hix hcut
        go_wp2_with fail
        go_roundw
        case rel => exact ⟨k + 1, _, v5, by omega, by go_num, rfl, HN⟩
        case measure => simp [intOf]; omega
      | false =>
        have hbb := byteB hb
        rw [HCC.out] at hbb
        have HN : Hid (CutR s c w (k + 1) p vo vo wr) := Lib.hid (by
          have h := HR.out
          unfold CutR at h ⊢
          rw [spK_no hb]
          exact ⟨h.1, rfl, h.2.2.1, h.2.2.2⟩)
        have hv := HV.out
        subst hv
        obtain ⟨b, hbe⟩ : ∃ b : Int, ((s.data.toList.getD k 0).toNat : Int) = b := ⟨_, rfl⟩
        rw [hbe] at hbb hix
        clear hb hbe HR HV hle
        go_wp2_with fail
        go_roundw
        case rel => exact ⟨k + 1, p, vo, by omega, by go_num, rfl, HN⟩
        case measure => simp [intOf]; omega
    · have hki : ¬ (k : Int) < (s.size : Int) := by omega
      have hkn : k = s.data.toList.length := by rw [← Lib.size_eq]; omega
      have hsp : spL s.data.toList c = (spK s.data.toList c k).1 ++ [s.data.toList.drop (spK s.data.toList c k).2] := by unfold spL; rw [← hkn]
      have HSP := Lib.hid hsp
      clear hkn hsp
      obtain ⟨q, hq⟩ : ∃ q, (spK s.data.toList c k).2 = q := ⟨_, rfl⟩
      obtain ⟨ts, hts⟩ : ∃ ts, (spK s.data.toList c k).1 = ts := ⟨_, rfl⟩
      have hR := HR.out
      unfold CutR at hR
      rw [hq, hts] at hR
      rw [hq, hts] at hle
      rw [hq, hts] at HSP
      obtain ⟨hp, hv, hO, hB⟩ := hR
      subst hp
      subst hv
      have hcut := fun w => endSl s q (by omega) w
      obtain ⟨t, ht⟩ : ∃ t, s.extract q s.size = t := ⟨_, rfl⟩
      rw [ht] at hcut
      have HT := Lib.hid (show t = bs (s.data.toList.drop q) by rw [← ht]; exact list_inj (by rw [Lib.extract_to_end, bs_data]))
      have HO := Lib.hid (show wr.ownsRow w.heap.size 9 1 vo ts.length (ts.map (fun x => Value.string (bs x))) by
        have h := hO
        unfold OwnS at h
        rw [List.length_map, List.map_map] at h
        exact h)
      have HB := Lib.hid hB
      have k1 := Lib.hid (fun (jj : Nat) (u : Value) (h : [Value.string t][jj]? = some u) => cell_one_new wr (.string t) 9 jj u h)
      have k2 : Hid (∀ u ∈ [Value.string t], u.oneCell' = true) := Lib.hid (by intro u hu; simp only [List.mem_singleton] at hu; subst hu; rfl)
      have k3 : Hid (ts.length + 1 ≤ maxLen) := Lib.hid (by unfold maxLen; omega)
      have k4 : Hid ((ts.length + 1) * 16 ≤ 140737488355328) := Lib.hid (by omega)
      have k5 : Hid (w.heap.size ≤ (wr.alloc (.cells #[.string t] 9)).heap.size) := Lib.hid (by rw [alloc_size]; have := HB.out.size; omega)
      clear hO hB ht hq hts HR HV hle
      go_wp2_with (at_builtin; refine wpList_append_own _ rfl (.tmp 29) (.tmp 33) 61 rfl w.heap.size 9 i0 (.string { data := #[] }) 1 16 Try.underlying61 hii hz0 hz1 hz2 rfl (by decide) _ _ _ rfl (HO.out.alloc _) ⟨wr.heap.size, 0, none⟩ 1 1 [.string t] rfl rfl k1.out k2.out k3.out k4.out k5.out ?_)
      intro v5 w5 hown5 hgrow5 _
      have hb5 : Below w.heap.size wr w5 := ((Below.refl w.heap.size wr).alloc HB.out.size _).grown hgrow5 k5.out (fun g hg => (World.ownsRow.lt HO.out g hg).1)
      have HN : Hid (OwnS w5 w.heap.size v5 ((spL s.data.toList c).map bs)) := Lib.hid (by
        rw [HSP.out]
        unfold OwnS
        rw [List.map_append, List.map_append, List.length_append, List.length_map, List.map_map]
        rw [HT.out] at hown5
        exact hown5)
      have HB5 := Lib.hid (HB.out.trans hb5)
      clear hown5 hgrow5 hb5 k1 k2 k3 k4 k5 HO hcut
      go_wp2_with fail
      go_ret
      exact ⟨_, rfl, HN.out, HB5.out⟩
end Go.Proofs.Ythbancphegnpdaa
