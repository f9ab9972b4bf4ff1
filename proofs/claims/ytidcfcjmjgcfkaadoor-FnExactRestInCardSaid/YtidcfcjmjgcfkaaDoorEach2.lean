import Derived.Test.YtidcfcjmjgcfkaaDoorEach
namespace Go.Proofs.YtidcfcjmjgcfkaaDoor
open Go.RowKit

set_option maxHeartbeats 1600000 in
theorem each2_any (K : Nat) (a : Option Addr) (n cap : Nat) (p1 p2 : Value) (g : Nat → Nat → Bool) (J : World → Prop) (hn : n ≤ 7) (w : World) (hJ : J w)
    (hE : ∀ (args : Array Value) (w : World), Sem.run Tryd.prog (callFunc K args) w = .ok (.enter K args) w)
    (hF : Hid (∀ (wr : World) (a c : Nat), a < n → c < n → J wr → Calls Tryd.prog K #[.int .i64 a, .int .i64 c, p1, p2] wr fun e w' => e = .returned (.bool (g a c)) ∧ J w')) :
    Calls Tryd.prog 39 #[.slice a n cap, .func (.func K) #[] #[p1, p2]] w (fun e w' => EachEnd n g J e w') := by
  have HJ := Lib.hid hJ; clear hJ
  go_enter Tryd.func39, Tryd.ntmps39
  go_wp2_with fail
  go_loopw [9] (fun i wr => ∃ k : Nat, k ≤ n ∧ i = .int .i64 k ∧ Hid (∀ a, a < k → ∀ c, c < n → a ≠ c → g a c = true) ∧ Hid (J wr)) (fun i _ => n - (intOf i).toNat)
  case atStart => exact ⟨0, Nat.zero_le _, rfl, fun a ha => absurd ha (Nat.not_lt_zero _), HJ⟩
  case round =>
    clear HJ
    obtain ⟨k, hk, rfl, hall, hJ⟩ := hrel
    by_cases hlt : k < n
    · go_wp2_with fail
      go_loopw [14] (fun i wr => ∃ j : Nat, j ≤ n ∧ i = .int .i64 j ∧ Hid (∀ c, c < j → k ≠ c → g k c = true) ∧ Hid (J wr)) (fun i _ => n - (intOf i).toNat)
      case atStart => exact ⟨0, Nat.zero_le _, rfl, fun a ha => absurd ha (Nat.not_lt_zero _), hJ⟩
      case round =>
        clear hJ
        obtain ⟨j, hj, rfl, hin, hJ⟩ := hrel
        by_cases hjn : j < n
        · by_cases hkj : k = j
          · subst hkj
            have hne : ((k : Int) != (k : Int)) = false := by simp
            go_wp2_with fail
            go_roundw
            case rel => exact ⟨k + 1, by omega, by go_num, fun c hc hkc => hin c (by omega) hkc, hJ⟩
            case measure => simp [intOf]; omega
          · have hne : ((k : Int) != (j : Int)) = true := by rw [bne_iff_ne]; omega
            cases hg : g k j with
            | true =>
              have HG := Lib.hid hg; clear hg
              go_wp2_with fail
              refine (hF.out _ k j hlt hjn hJ.out).mono ?_
              rintro e w' ⟨rfl, hJ2⟩
              have HJ2 := Lib.hid hJ2; clear hJ2
              rw [HG.out]
              go_wp2_with fail
              go_roundw
              case rel => exact ⟨j + 1, by omega, by go_num, fun c hc hkc => by
                by_cases hcj : c = j
                · subst hcj; exact HG.out
                · exact hin c (by omega) hkc, HJ2⟩
              case measure => simp [intOf]; omega
            | false =>
              have hfin : eachB n g = false := decide_eq_false (fun h => by have := h k hlt j hjn hkj; rw [hg] at this; cases this)
              have HG := Lib.hid hg; have HF := Lib.hid hfin; clear hg hfin
              go_wp2_with fail
              refine (hF.out _ k j hlt hjn hJ.out).mono ?_
              rintro e w' ⟨rfl, hJ2⟩
              have HJ2 := Lib.hid hJ2; clear hJ2
              rw [HG.out]
              go_wp2_with fail
              go_ret
              exact ⟨retb HF.out.symm, HJ2.out⟩
        · go_wp2_with fail
          go_roundw
          case rel => exact ⟨k + 1, by omega, by go_num, fun a ha c hc hac => by
            by_cases hak : a = k
            · subst hak; exact hin c (by omega) hac
            · exact hall a (by omega) c hc hac, hJ⟩
          case measure => simp [intOf]; omega
    · have hfin : eachB n g = true := decide_eq_true (fun a ha c hc hac => hall a (by omega) c hc hac)
      have HF := Lib.hid hfin; clear hfin
      go_wp2_with fail
      go_ret
      exact ⟨retb HF.out.symm, hJ.out⟩
end Go.Proofs.YtidcfcjmjgcfkaaDoor
