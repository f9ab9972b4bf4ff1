import Derived.Test.YtndcnfbncepihaaOwnX
import Derived.Test.YtndcnfbncepihaaBaseB
import Derived.Lib.SliceRun
namespace Go.Proofs.Ytndcnfbncepihaa
set_option linter.unusedVariables false
set_option linter.unusedSimpArgs false
open Go.RowKit Go.Maps

theorem Rw.puts {g : Nat} {t : TypeId} {cap : Nat} : ∀ (vs : List Value) (i : Nat) {w : World} {n : Nat} {h : Nat → Int}, Rw w g t cap n h → n ≤ i → (∀ v ∈ vs, ∃ x, v = .int .i64 x) → Rw (w.setCells g i vs) g t cap n h
  | [], _, _, _, _, hr, _, _ => hr
  | v :: vs, i, _, _, _, hr, hi, hv => by
    obtain ⟨x, rfl⟩ := hv v (by simp)
    exact Rw.puts vs (i + 1) ((hr.set i x).less (Nat.le_refl _) (fun j hj => by rw [if_neg (by omega)])) (by omega) (fun v h => hv v (by simp [h]))
theorem only_puts {g : Nat} {w : World} : ∀ (vs : List Value) (i : Nat) {w' : World}, Only g w w' → Only g w (w'.setCells g i vs)
  | [], _, _, h => h
  | v :: r, i, _, h => only_puts r (i + 1) (h.setCell i v)
/-- the numbers that a question leaves -/
def evL (p : Int → Bool) (xs : List Int) : List Int := xs.filter (fun x => !p x)
theorem take_next {xs : List Int} {j : Nat} (hj : j < xs.length) : xs.take (j + 1) = xs.take j ++ [xs.getD j 0] := by
  rw [List.take_add_one, List.getElem?_eq_getElem hj, List.getD_eq_getElem?_getD, List.getElem?_eq_getElem hj]
  rfl
theorem ev_yes {p : Int → Bool} {xs : List Int} {j : Nat} (hj : j < xs.length) (h : p (xs.getD j 0) = false) : evL p (xs.take (j + 1)) = evL p (xs.take j) ++ [xs.getD j 0] := by
  rw [take_next hj]
  unfold evL
  rw [List.filter_append]
  simp [-List.getD_eq_getElem?_getD, h]
theorem ev_no {p : Int → Bool} {xs : List Int} {j : Nat} (hj : j < xs.length) (h : p (xs.getD j 0) = true) : evL p (xs.take (j + 1)) = evL p (xs.take j) := by
  rw [take_next hj]
  unfold evL
  rw [List.filter_append]
  simp [-List.getD_eq_getElem?_getD, h]
theorem ev_all {p : Int → Bool} {xs : List Int} (h : ∀ x ∈ xs, p x = false) : evL p xs = xs := by
  unfold evL
  rw [List.filter_eq_self]
  intro x hx
  rw [h x hx]; rfl

/-- a closure with one captured variable that answers p, and keeps the world, while only block g is written -/
def Asks (gp A g : Nat) (p : Int → Bool) (w : World) : Prop :=
  ∀ W, Only g w W → ∀ x, I64 x → Calls Try.prog gp #[.int .i64 x, .pointer (some ⟨A, 0, none⟩)] W fun e w' => e = .returned (.bool (p x)) ∧ W = w'
theorem Asks.val {gp A g : Nat} {p : Int → Bool} {w : World} (h : Asks gp A g p w) {W : World} (ho : Only g w W) {x : Int} (hx : I64 x) {v : Bool} (hv : p x = v) :
    Calls Try.prog gp #[.int .i64 x, .pointer (some ⟨A, 0, none⟩)] W fun e w' => e = .returned (.bool v) ∧ W = w' := by subst hv; exact h W ho x hx

set_option maxRecDepth 100000 in
set_option maxHeartbeats 1600000 in
theorem indexFunc_any (gp A : Nat) (hen : ∀ args w, (callFunc gp args).run Try.prog w = .ok (.enter gp args) w) (p : Int → Bool) (a : Option Addr) (n cap : Nat) (F : Nat → Int) (hn : n ≤ 1000) (w : World) (hi : Ints w a n F) (hp : ∀ x, I64 x → Calls Try.prog gp #[.int .i64 x, .pointer (some ⟨A, 0, none⟩)] w fun e w' => e = .returned (.bool (p x)) ∧ w = w') :
    Calls Try.prog 117 #[.slice a n cap, .func (.func gp) #[] #[.pointer (some ⟨A, 0, none⟩)]] w fun e w' => w = w' ∧ (((∀ i, i < n → p (F i) = false) ∧ e = .returned (.int .i64 (-1))) ∨ ∃ k : Nat, k < n ∧ p (F k) = true ∧ (∀ i, i < k → p (F i) = false) ∧ e = .returned (.int .i64 k)) := by
  have HI := Lib.hid hi; have HP := Lib.hid (fun x (hx : I64 x) (v : Bool) (hv : p x = v) => show Calls Try.prog gp #[.int .i64 x, .pointer (some ⟨A, 0, none⟩)] w fun e w' => e = .returned (.bool v) ∧ w = w' from hv ▸ hp x hx); clear hi hp
  go_enter Try.func117, Try.ntmps117
  go_wp2_with fail
  go_loopw [5, 8] (fun _ i wr => ∃ k : Nat, k ≤ n ∧ i = .int .i64 k ∧ Hid (∀ i, i < k → p (F i) = false) ∧ w = wr) (fun _ i _ => n - (intOf i).toNat)
  case atStart => exact ⟨0, Nat.zero_le _, rfl, Lib.hid (fun i hi => absurd hi (Nat.not_lt_zero _)), rfl⟩
  case round =>
    obtain ⟨k, hk, rfl, hall, rfl⟩ := hrel
    by_cases hlt : k < n
    · have hki : (k : Int) < (n : Int) := by omega
      have hk0 : (0 : Int) ≤ (k : Int) := by omega
      obtain ⟨b, o, rfl, hbl, hrow⟩ := HI.out.row (by omega)
      have hc := hrow k hlt
      clear hrow hbl
      cases hv : p (F k) with
      | true =>
        have HV := Lib.hid hv; clear hv
        go_wp2_with fail
        refine (HP.out _ (HI.out.1.2 k hlt) true HV.out).mono ?_
        rintro e w' ⟨rfl, rfl⟩
        go_wp2_with fail
        go_ret
        exact ⟨rfl, .inr ⟨k, hlt, HV.out, hall.out, rfl⟩⟩
      | false =>
        have HV := Lib.hid hv; clear hv
        go_wp2_with fail
        refine (HP.out _ (HI.out.1.2 k hlt) false HV.out).mono ?_
        rintro e w' ⟨rfl, rfl⟩
        go_wp2_with fail
        go_roundw
        case rel => exact ⟨k + 1, by omega, by go_num, Lib.hid (fun i hi => by
          by_cases e : i = k
          · subst e; exact HV.out
          · exact hall.out i (by omega)), by first | rfl | trivial⟩
        case measure => simp [intOf]; omega
    · have hki : ¬ (k : Int) < (n : Int) := by omega
      have hkn : k = n := by omega
      subst hkn
      go_wp2_with fail
      go_ret
      exact ⟨rfl, .inl ⟨hall.out, rfl⟩⟩

theorem run_low (g m n c : Nat) (hm : m < n) (hc : n ≤ c) (W : World) : (Instr.slice 23 (.slice (some ⟨g, 0, none⟩) n c) (some (.int .i64 m)) none none).run Try.prog W = .ok (.slice (some ⟨g, m, none⟩) (n - m) (c - m)) W := by
  have hz : ∀ w, (Go.sizeOf 3).run Try.prog w = .ok 1 w := fun w => by kernel_rfl
  have h0 : (0 : Int) ≤ (m : Int) := by omega
  have hc' : ¬ c = m := by omega
  have hnm : ¬ n < m := by omega
  simp [hnm, Instr.slice, Instr.sliceBounds, Instr.sliceBound, run_underlying Try.underlying23, asIntOf, hz, h0, hc', Addr.add_lit]

/-- what is kept of a slice's memory is what it held, but for the numbers with the place 0 -/
def DelEnd (B : Nat) (p : Int → Bool) (xs : List Int) (w : World) (e : Ending) (w' : World) : Prop := ∃ v, e = .returned v ∧ OwnX w' B 3 v (evL p xs) ∧ Below B w w'

theorem deleteFunc_none (gp A : Nat) (hen : ∀ args w, (callFunc gp args).run Try.prog w = .ok (.enter gp args) w) (p : Int → Bool) (B : Nat) (v : Value) (xs : List Int) (hl : xs.length ≤ 1000) (h64 : ∀ x ∈ xs, I64 x) (h1 : 1 ≤ xs.length) (h : ∀ x ∈ xs, p x = false) (w : World) (ho : OwnX w B 3 v xs) (hp : ∀ g, B ≤ g → v.ownBlock = some g → Asks gp A g p w) :
    Calls Try.prog 97 #[v, .func (.func gp) #[] #[.pointer (some ⟨A, 0, none⟩)]] w (DelEnd B p xs w) := by
  obtain ⟨g, cap, rfl, hBg, hgl, _, _, _⟩ := ho.rw h1
  obtain ⟨a, cap2, hv0, hh⟩ := ho.has hl h64
  injection hv0 with e1 e2 e3
  subst e1; subst e3; clear e2
  have HP := Lib.hid (hp g hBg rfl w (Only.refl _ _)); clear hp hBg hgl
  have HI := Lib.hid hh.ints
  have HF := Lib.hid (fun i (hi : i < xs.length) => h _ (getD_mem hi))
  have HE := Lib.hid (ev_all h)
  have HO := Lib.hid ho
  clear ho hh h h64
  go_enter Try.func97, Try.ntmps97
  go_wp2_with fail
  refine (indexFunc_any gp A hen p (some ⟨g, 0, none⟩) xs.length cap (fun i => xs.getD i 0) hl w HI.out HP.out).mono ?_
  rintro e w' ⟨rfl, ⟨_, rfl⟩ | ⟨k, hk, hv, _, rfl⟩⟩
  · go_wp2_with fail
    go_ret
    exact ⟨_, rfl, by rw [HE.out]; exact HO.out, Below.refl _ _⟩
  · have := HF.out k hk
    rw [this] at hv; cases hv

set_option maxRecDepth 100000 in
set_option maxHeartbeats 3200000 in
theorem deleteFunc_some (gp A : Nat) (hen : ∀ args w, (callFunc gp args).run Try.prog w = .ok (.enter gp args) w) (p : Int → Bool) (B : Nat) (v : Value) (xs : List Int) (hl : xs.length ≤ 1000) (h64 : ∀ x ∈ xs, I64 x) (h : ∃ x ∈ xs, p x = true) (w : World) (hB : B ≤ w.heap.size) (ho : OwnX w B 3 v xs) (hp : ∀ g, B ≤ g → v.ownBlock = some g → Asks gp A g p w) :
    Calls Try.prog 97 #[v, .func (.func gp) #[] #[.pointer (some ⟨A, 0, none⟩)]] w (DelEnd B p xs w) := by
  have hzv : ∀ w, (zeroValue 3).run Try.prog w = .ok (.int .i64 0) w := fun w => by kernel_rfl
  obtain ⟨x0, hx0, hx1⟩ := h
  have h1 : 1 ≤ xs.length := by
    cases xs with
    | nil => cases hx0
    | cons _ _ => simp
  obtain ⟨i0, hi0, hix⟩ := List.getElem_of_mem hx0
  have hbad : p (xs.getD i0 0) = true := by
    rw [List.getD_eq_getElem?_getD, List.getElem?_eq_getElem hi0]
    show p (xs[i0]) = true
    rw [hix]; exact hx1
  have hint := ho.has hl h64
  obtain ⟨a, cap0, hv0, hh⟩ := hint
  obtain ⟨g, cap, hv, hBg, hgl, hc, hM, hrw⟩ := ho.rw h1
  rw [hv] at hv0
  injection hv0 with e1 e2 e3
  subst hv; subst e1; subst e3; clear e2
  have HP := Lib.hid (hp g hBg rfl); have H64 := Lib.hid h64; clear hp
  have HI := Lib.hid hh.ints; have HRW := Lib.hid hrw; have HM := Lib.hid hM; have HC := Lib.hid hc; have HBG := Lib.hid hBg; have HGL := Lib.hid hgl; have HBAD := Lib.hid (show i0 < xs.length ∧ p (xs.getD i0 0) = true from ⟨hi0, hbad⟩)
  clear ho hh h64 hx0 hx1 hix hi0 hbad hrw hM hc hBg hgl
  obtain ⟨n, hn⟩ : ∃ n, xs.length = n := ⟨_, rfl⟩
  rw [hn] at HI HRW HC HBAD hl h1 ⊢
  have HN := Lib.hid hn; clear hn
  go_enter Try.func97, Try.ntmps97
  go_wp2_with fail
  refine (indexFunc_any gp A hen p (some ⟨g, 0, none⟩) n cap (fun i => xs.getD i 0) hl w HI.out (HP.out w (Only.refl _ _))).mono ?_
  rintro e w' ⟨rfl, ⟨hno, rfl⟩ | ⟨k, hk, hv, hbef, rfl⟩⟩
  · have := hno i0 HBAD.out.1
    rw [HBAD.out.2] at this; cases this
  · have hkm : ((k : Int) == -1) = false := by rw [beq_eq_false_iff_ne]; omega
    have HST := Lib.hid (show (evL p (xs.take (k + 1))).length = k ∧ ∀ t, t < k → xs.getD t 0 = (evL p (xs.take (k + 1))).getD t 0 by
      have e : evL p (xs.take (k + 1)) = xs.take k := by
        rw [ev_no (by rw [HN.out]; exact hk) hv]
        refine ev_all (fun x hx => ?_)
        obtain ⟨i, hi, rfl⟩ := List.getElem_of_mem hx
        have hik : i < k := by rw [List.length_take] at hi; omega
        have := hbef i hik
        rw [List.getElem_take]
        rw [List.getD_eq_getElem?_getD, List.getElem?_eq_getElem (by rw [HN.out]; omega)] at this
        exact this
      rw [e]
      refine ⟨by rw [List.length_take, HN.out]; omega, fun t ht => ?_⟩
      rw [List.getD_eq_getElem?_getD, List.getD_eq_getElem?_getD, List.getElem?_take_of_lt ht])
    clear hv hbef
    go_wp2_with fail
    go_loopw [5, 6, 7] (fun vi vj _ wr => ∃ (j m : Nat), j ≤ n ∧ k < j ∧ m < j ∧ vi = .int .i64 m ∧ vj = .int .i64 j ∧ Hid (m = (evL p (xs.take j)).length) ∧ (∃ h, Hid (Rw wr g 3 cap n h) ∧ Hid ((∀ t, t < m → h t = (evL p (xs.take j)).getD t 0) ∧ ∀ t, j ≤ t → t < n → h t = xs.getD t 0)) ∧ Hid (Only g w wr)) (fun _ vj _ _ => n - (intOf vj).toNat)
    case atStart => exact ⟨k + 1, k, by omega, by omega, by omega, rfl, by go_num, Lib.hid HST.out.1.symm, ⟨_, HRW, Lib.hid ⟨HST.out.2, fun t _ _ => rfl⟩⟩, Lib.hid (Only.refl _ _)⟩
    case round =>
      obtain ⟨j, m, hj, hkj, hmj, rfl, rfl, hm, ⟨h, hr, hh⟩, ho⟩ := hrel
      by_cases hlt : j < n
      · have hji : (j : Int) < (n : Int) := by omega
        have hj0 : (0 : Int) ≤ (j : Int) := by omega
        have hm0 : (0 : Int) ≤ (m : Int) := by omega
        have hmn : (m : Int) < (n : Int) := by omega
        have hcj := hr.out.cell j hlt
        have hcm := hr.out.cell m (by omega)
        have hfm := hr.out.frozen m
        have HX := Lib.hid (hh.out.2 j (Nat.le_refl _) hlt)
        obtain ⟨z, hz⟩ : ∃ z, h j = z := ⟨_, rfl⟩
        rw [hz] at hcj HX
        clear hz
        have HX64 := Lib.hid (show I64 z by rw [HX.out]; exact H64.out _ (getD_mem (by rw [HN.out]; exact hlt)))
        cases hv : p z with
        | true =>
          have HV := Lib.hid hv; clear hv
          have HE := Lib.hid (ev_no (p := p) (xs := xs) (j := j) (by rw [HN.out]; exact hlt) (by rw [← HX.out]; exact HV.out))
          go_wp2_with fail
          refine (HP.out.val ho.out HX64.out HV.out).mono ?_
          rintro e w' ⟨rfl, rfl⟩
          go_wp2_with fail
          go_roundw
          case rel => exact ⟨j + 1, m, by omega, by omega, by omega, rfl, by go_num, Lib.hid (by rw [HE.out]; exact hm.out), ⟨h, hr, Lib.hid ⟨by rw [HE.out]; exact hh.out.1, fun t h1 h2 => hh.out.2 t (by omega) h2⟩⟩, ho⟩
          case measure => simp [intOf]; omega
        | false =>
          have HV := Lib.hid hv; clear hv
          have HE := Lib.hid (ev_yes (p := p) (xs := xs) (j := j) (by rw [HN.out]; exact hlt) (by rw [← HX.out]; exact HV.out))
          go_wp2_with fail
          refine (HP.out.val ho.out HX64.out HV.out).mono ?_
          rintro e w' ⟨rfl, rfl⟩
          go_wp2_with fail
          go_roundw
          case rel =>
            refine ⟨j + 1, m + 1, by omega, by omega, by omega, by go_num, by go_num, Lib.hid (by rw [HE.out, List.length_append, ← hm.out]; rfl), ⟨_, Lib.hid (hr.out.set m z), Lib.hid ⟨fun t ht => ?_, fun t h1 h2 => ?_⟩⟩, Lib.hid (ho.out.setCell m _)⟩
            · rw [HE.out, ← HX.out, List.getD_eq_getElem?_getD]
              by_cases e : t = m
              · subst e
                rw [if_pos rfl, List.getElem?_append_right (by rw [← hm.out]; exact Nat.le_refl _), ← hm.out]
                simp
              · rw [if_neg e, List.getElem?_append_left (by rw [← hm.out]; omega), ← List.getD_eq_getElem?_getD]
                exact hh.out.1 t (by omega)
            · show (if t = m then z else h t) = _
              rw [if_neg (by omega)]
              exact hh.out.2 t (by omega) h2
          case measure => simp [intOf]; omega
      · have hji : ¬ (j : Int) < (n : Int) := by omega
        have hjn : j = n := by omega
        subst hjn
        have hmi : (m : Int) ≤ (j : Int) := by omega
        have hm0 : (0 : Int) ≤ (m : Int) := by omega
        have hlo := fun W => run_low g m j cap hmj HC.out W
        have hcl := Lib.run_clear_slice (P := Try.prog) wr 23 3 0 (.int .i64 0) Try.underlying23 hzv rfl rfl g m (j - m) (cap - m) (by omega) (fun t ht => by rw [hr.out.cell (m + t) (by omega)]; rfl) (fun t _ => hr.out.frozen _)
        have hmc : m ≤ cap := by have := HC.out; omega
        have hmc2 : (m : Int) ≤ (cap : Int) := by omega
        go_wp2_with fail
        go_ret
        have hm2 := hm.out
        rw [List.take_of_length_le (by rw [HN.out]; exact Nat.le_refl _)] at hm2
        have hh2 := hh.out.1
        rw [List.take_of_length_le (by rw [HN.out]; exact Nat.le_refl _)] at hh2
        refine ⟨_, rfl, ?_, (only_puts _ m ho.out).below HBG.out hB⟩
        exact (Rw.puts (List.replicate (j - m) (.int .i64 0)) m (hr.out.less (by omega) hh2) (Nat.le_refl _) (fun v hv => ⟨0, List.eq_of_mem_replicate hv⟩)).own hm2 HBG.out hmc HM.out

theorem deleteFunc_any (gp A : Nat) (hen : ∀ args w, (callFunc gp args).run Try.prog w = .ok (.enter gp args) w) (p : Int → Bool) (B : Nat) (v : Value) (xs : List Int) (hl : xs.length ≤ 1000) (h64 : ∀ x ∈ xs, I64 x) (h1 : 1 ≤ xs.length) (w : World) (hB : B ≤ w.heap.size) (ho : OwnX w B 3 v xs) (hp : ∀ g, B ≤ g → v.ownBlock = some g → Asks gp A g p w) :
    Calls Try.prog 97 #[v, .func (.func gp) #[] #[.pointer (some ⟨A, 0, none⟩)]] w (DelEnd B p xs w) := by
  by_cases h : ∃ x ∈ xs, p x = true
  · exact deleteFunc_some gp A hen p B v xs hl h64 h w hB ho hp
  · refine deleteFunc_none gp A hen p B v xs hl h64 h1 (fun x hx => ?_) w ho hp
    rw [Bool.eq_false_iff]
    exact fun hb => h ⟨x, hx, hb⟩
end Go.Proofs.Ytndcnfbncepihaa
