import Derived.Test.YthbancphegnpdaaTxF
import Derived.Lib.IndexBytes
import Derived.Lib.Slices
import Derived.Laws.Strings3
import Derived.Deep.QuietTactic
import Derived.BigQuiet
namespace Go.Proofs.Ythbancphegnpdaa
set_option linter.unusedVariables false
set_option linter.unusedSimpArgs false
open Go.RowKit Go.Maps

theorem ib_rng (l : List UInt8) (c : UInt8) : -1 ≤ Lib.indexByte l c ∧ Lib.indexByte l c < l.length := by
  refine ⟨Lib.indexByte_ge l c, ?_⟩
  induction l with
  | nil => show (-1 : Int) < 0; omega
  | cons b l ih =>
    unfold Lib.indexByte
    rw [List.length_cons]
    split
    · omega
    · split <;> omega

set_option maxRecDepth 100000 in
set_option maxHeartbeats 1600000 in
/-- the first place of a text of one byte -/
theorem liteIndex_one (s : ByteArray) (c : UInt8) (w : World) :
    Calls Try.prog 74 #[.string s, .string { data := #[c] }] w fun e w' => e = .returned (.int .i64 (Lib.indexByte s.data.toList c)) ∧ w = w' := by
  have hix : ∀ w, (Instr.index 9 (.string { data := #[c] }) (.int .i64 0)).run Try.prog w = .ok (.int .u8 (c.toNat : Int)) w := fun w => by
    rw [run_index_string (P := Try.prog) w 9 _ _ _ Try.underlying9, dif_pos ⟨by omega, by show (0 : Int) < 1; omega⟩]
    rfl
  by_cases h : s.data.toList = [c]
  · have hb : (({ data := #[c] } : ByteArray).toList == s.toList) = true := by rw [eqT]; exact decide_eq_true (by rw [h])
    have hb2 : ([c] == s.toList) = true := by rw [toList_data', h]; simp
    have HE : Hid (Lib.indexByte s.data.toList c = 0) := Lib.hid (by rw [h]; simp [Lib.indexByte])
    clear h
    go_enter Try.func74, Try.ntmps74
    go_wp2_with fail
    go_ret
    exact ⟨reti HE.out.symm, rfl⟩
  · have hb : (({ data := #[c] } : ByteArray).toList == s.toList) = false := by rw [eqT]; exact decide_eq_false (fun e => h e.symm)
    have hb2 : ([c] == s.toList) = false := by
      rw [toList_data']
      cases hh : ([c] == s.data.toList) with
      | false => rfl
      | true => exact absurd (beq_iff_eq.1 hh).symm h
    clear h
    go_enter Try.func74, Try.ntmps74
    go_wp2_with fail
    refine (liteIndexByte_any _ _ _).mono ?_
    rintro e w' ⟨rfl, rfl⟩
    go_wp2_with fail
    go_ret
    exact ⟨reti (by simp), rfl⟩

theorem cutB1 {s : ByteArray} {i : Nat} (h : Lib.indexByte s.data.toList 32 = i) : s.extract 0 i = bs (cut1 s.data.toList) ∧ s.extract (i + 1) s.size = bs (cut2 s.data.toList) := by
  have h0 : ¬ Lib.indexByte s.data.toList 32 < 0 := by omega
  refine ⟨list_inj ?_, list_inj ?_⟩
  · rw [Lib.extract_data, bs_data]
    unfold cut1
    rw [if_neg h0, h, Int.toNat_natCast, List.drop_zero, Nat.sub_zero]
  · rw [Lib.extract_to_end, bs_data]
    unfold cut2
    rw [if_neg h0, h, Int.toNat_natCast]

/-- what Cut answers at a space -/
def CutEnd (s : ByteArray) (w : World) (e : Ending) (w' : World) : Prop := ∃ b, e = .returned (.tuple #[.string (bs (cut1 s.data.toList)), .string (bs (cut2 s.data.toList)), .bool b]) ∧ Drew w w'
set_option maxRecDepth 100000 in
set_option maxHeartbeats 1600000 in
theorem liteCut_space (s : ByteArray) (hs : s.size ≤ 1099511627776) (w : World) :
    Calls Try.prog 64 #[.string s, .string { data := #[32] }] w (CutEnd s w) := by
  have hr := ib_rng s.data.toList 32
  rw [← Lib.size_eq] at hr
  by_cases h0 : Lib.indexByte s.data.toList 32 < 0
  · have hd : decide (0 ≤ Lib.indexByte s.data.toList 32) = false := decide_eq_false (by omega)
    have HE : Hid (s = bs (cut1 s.data.toList) ∧ ({ data := #[] } : ByteArray) = bs (cut2 s.data.toList)) := Lib.hid (by
      unfold cut1 cut2
      rw [if_pos h0, if_pos h0]
      exact ⟨rfl, rfl⟩)
    clear hr h0
    go_enter Try.func64, Try.ntmps64
    go_wp2_with fail
    refine (liteIndex_one s 32 _).mono ?_
    rintro e w' ⟨rfl, rfl⟩
    go_wp2_with fail
    go_ret3
    exact ⟨false, by rw [← HE.out.1, ← HE.out.2]; rfl, Drew.refl _⟩
  · obtain ⟨i, hi⟩ : ∃ i : Nat, Lib.indexByte s.data.toList 32 = i := ⟨(Lib.indexByte s.data.toList 32).toNat, by omega⟩
    have HE := Lib.hid (cutB1 hi)
    rw [hi] at hr
    have HI := Lib.hid hi
    have c0 : (0 : Int) ≤ (i : Int) := by omega
    have c1 : (i : Int) ≤ (s.size : Int) := by omega
    have c2 : (0 : Int) ≤ (i : Int) + 1 := by omega
    have c3 : (i : Int) + 1 ≤ (s.size : Int) := by omega
    clear hr h0 hi
    go_enter Try.func64, Try.ntmps64
    go_wp2_with fail
    refine (liteIndex_one s 32 _).mono ?_
    rintro e w' ⟨rfl, rfl⟩
    rw [HI.out]
    go_wp2_with fail
    go_quiet (fail)
    go_wp2_with fail
    go_ret3
    exact ⟨true, by rw [← HE.out.1, ← HE.out.2]; rfl, ⟨_, rfl⟩⟩
theorem Cut_space (s : ByteArray) (hs : s.size ≤ 1099511627776) (w : World) :
    Calls Try.prog 51 #[.string s, .string { data := #[32] }] w (CutEnd s w) := by
  go_enter Try.func51, Try.ntmps51
  go_wp2_with fail
  refine (liteCut_space s hs _).mono ?_
  rintro e w' ⟨b, rfl, hd⟩
  have HD := Lib.hid hd
  clear hd
  go_wp2_with fail
  go_ret3
  exact ⟨b, rfl, HD.out⟩

/-! ### the kind of a word -/
theorem idxW_at {l : List UInt8} {k : Nat} (hk : k < 5) (h : l = wordL k) : idxW l = k := by
  subst h
  have : k = 0 ∨ k = 1 ∨ k = 2 ∨ k = 3 ∨ k = 4 := by omega
  rcases this with rfl | rfl | rfl | rfl | rfl <;> decide
theorem idxW_none {l : List UInt8} (h : ∀ k, k < 5 → l ≠ wordL k) : idxW l = -1 := by
  unfold idxW
  rw [if_neg (h 0 (by omega)), if_neg (h 1 (by omega)), if_neg (h 2 (by omega)), if_neg (h 3 (by omega)), if_neg (h 4 (by omega))]

set_option maxRecDepth 100000 in
set_option maxHeartbeats 1600000 in
theorem IndexWord_any (B c : Nat) (s : ByteArray) (w : World) (hw : WordsAt w B) :
    Calls Try.prog 52 #[.slice (some ⟨B, 0, none⟩) 5 c, .string s] w fun e w' => e = .returned (.int .i64 (idxW s.data.toList)) ∧ w = w' := by
  have HW := Lib.hid hw; clear hw
  go_enter Try.func52, Try.ntmps52
  go_wp2_with fail
  go_loop [5, 8] (fun _ i => ∃ k : Nat, k ≤ 5 ∧ i = .int .i64 k ∧ Hid (∀ j, j < k → s.data.toList ≠ wordL j)) (fun _ i => 5 - (intOf i).toNat)
  case atStart => exact ⟨0, Nat.zero_le _, rfl, Lib.hid (fun j hj => by omega)⟩
  case round =>
    obtain ⟨k, hk, rfl, HJ⟩ := hrel
    by_cases hlt : k < 5
    · have hki : (k : Int) < 5 := by omega
      have hk0 : (0 : Int) ≤ (k : Int) := by omega
      have hc := HW.out k hlt
      by_cases he : s.data.toList = wordL k
      · have hb : (s.toList == (bs (wordL k)).toList) = true := by rw [eqT]; exact decide_eq_true he
        have HE := Lib.hid (idxW_at hlt he)
        obtain ⟨wd, hwd⟩ : ∃ wd, bs (wordL k) = wd := ⟨_, rfl⟩
        rw [hwd] at hb hc
        clear he hwd
        go_wp2_with fail
        go_ret
        exact ⟨reti HE.out.symm, rfl⟩
      · have hb : (s.toList == (bs (wordL k)).toList) = false := by rw [eqT]; exact decide_eq_false he
        have HE := Lib.hid he
        obtain ⟨wd, hwd⟩ : ∃ wd, bs (wordL k) = wd := ⟨_, rfl⟩
        rw [hwd] at hb hc
        clear he hwd
        go_wp2_with fail
        go_round
        case rel =>
          refine ⟨k + 1, by omega, by go_num, Lib.hid (fun j hj => ?_)⟩
          by_cases e : j = k
          · rw [e]; exact HE.out
          · exact HJ.out j (by omega)
        case measure => simp [intOf]; omega
    · have hki : ¬ (k : Int) < 5 := by omega
      have hkn : k = 5 := by omega
      rw [hkn] at HJ
      have HE := Lib.hid (idxW_none HJ.out)
      clear hkn hk
      go_wp2_with fail
      go_ret
      exact ⟨reti HE.out.symm, rfl⟩
end Go.Proofs.Ythbancphegnpdaa
