import Derived.Test.YthbancphegnpdaaTxAA
import Derived.IntWalk
import Derived.Deep.RegionWith
namespace Go.Proofs.Ythbancphegnpdaa
set_option linter.unusedVariables false
set_option linter.unusedSimpArgs false
open Go.RowKit Go.Maps

def sp4 : List ByteArray := [⟨#[]⟩, ⟨#[97]⟩, ⟨#[100]⟩, ⟨#[101]⟩]
theorem sp4_small : ∀ t ∈ sp4, t.size ≤ 4 := by decide
theorem Rdr.drx {w : World} {rb P : Nat} (h : Rdr w rb P) : Rdr w.drew rb P := h.below ((Below.refl _ _).drew)
theorem only_drx (rb : Nat) (w : World) : Only rb w w.drew := Only.of_below ((Below.refl _ _).drew)

theorem add_a (t : ByteArray) (k : Nat) (ht : t.size ≤ 1000) (tq : ByteArray) (h : tq.size ≤ 4) (W : World) : (Op.stringOp .add (t.extract 0 k) tq).run Try.prog W = .ok (.string (t.extract 0 k ++ tq)) W :=
  run_string_add_sum _ _ _ (by rw [ByteArray.size_extract]; omega)
theorem add_b (t : ByteArray) (k : Nat) (ht : t.size ≤ 1000) (tq : ByteArray) (h : tq.size ≤ 4) (W : World) : (Op.stringOp .add (t.extract 0 k ++ tq) (t.extract (k + 1) t.size)).run Try.prog W = .ok (.string (t.extract 0 k ++ tq ++ t.extract (k + 1) t.size)) W :=
  run_string_add_sum _ _ _ (by rw [ByteArray.size_append, ByteArray.size_extract, ByteArray.size_extract]; omega)

set_option maxRecDepth 100000 in
set_option maxHeartbeats 3200000 in
theorem DrawReadSet_any (a : Option Addr) (n cap : Nat) (w : World) (h : BytesIn w a n cap) :
    Calls Try.prog 19 #[.slice a n cap] w fun e w' => ∃ s : ByteArray, e = .returned (.string s) ∧ s.size ≤ 100 ∧ Below w.heap.size w w' := by
  have H := Lib.hid h; clear h
  go_enter Try.func19, Try.ntmps19
  go_wp2_with fail
  refine (open_any _ _ _ _ H.out).mono ?_
  rintro e w1 ⟨rfl, hb1, hr1⟩
  have HB1 := Lib.hid hb1; have HR1 := Lib.hid hr1; clear hb1 hr1
  go_wp2_with fail
  refine (pick_any _ 0 15 (by omega) _ HR1.out).mono ?_
  rintro e w2 ⟨y, rfl, hy, ho, hr⟩
  have HO := Lib.hid ho; have HR := Lib.hid hr; clear ho hr HR1
  have hy15 : y < 15 := by omega
  clear hy
  go_wp2_with fail
  refine (specSetText_any _ _).mono ?_
  rintro e w3 ⟨rfl, rfl⟩
  obtain ⟨t, ht⟩ : ∃ t, setT (1 + (y : Int)) = t := ⟨_, rfl⟩
  have htz : t.size ≤ 4 := by subst ht; exact setL_len _
  rw [ht]
  clear ht
  go_wp2_with fail
  refine (pick_any _ _ 3 (by omega) _ HR.out).mono ?_
  rintro e w3 ⟨q, rfl, hq, ho, hr⟩
  replace HO := Lib.hid (HO.out.trans ho); replace HR := Lib.hid hr; clear ho hr
  cases hqb : ((q : Int) == 0) with
  | false =>
    go_wp2_with fail
    go_ret
    exact ⟨_, rfl, by omega, HB1.out.trans (HO.out.below (Nat.le_refl _) HB1.out.size)⟩
  | true =>
    by_cases ht0 : 0 < t.size
    · have htd : decide (0 < t.size) = true := decide_eq_true ht0
      go_wp2_with fail
      refine (pick_any _ _ _ (by omega) _ HR.out).mono ?_
      rintro e w4 ⟨k, rfl, hk, ho, hr⟩
      replace HO := Lib.hid (HO.out.trans ho); replace HR := Lib.hid hr; clear ho hr
      have hkt : k < t.size := by omega
      have HHk := Lib.hid hk
      clear hk
      have HQ4 := Lib.hid (lit_text w4 sp4 #[.string ⟨#[]⟩, .string ⟨#[97]⟩, .string ⟨#[100]⟩, .string ⟨#[101]⟩] 9 rfl)
      have HRA := Lib.hid ((HR.out.below (alloc_below w4 (.cells #[.string ⟨#[]⟩, .string ⟨#[97]⟩, .string ⟨#[100]⟩, .string ⟨#[101]⟩] 9))).drx)
      have HOA := Lib.hid ((HO.out.alloc (.cells #[.string ⟨#[]⟩, .string ⟨#[97]⟩, .string ⟨#[100]⟩, .string ⟨#[101]⟩] 9)).trans (only_drx _ _))
      have hrb : w.heap.size < w4.heap.size := HR.out.1
      have HSZ := Lib.hid (alloc_size w4 (.cells #[.string ⟨#[]⟩, .string ⟨#[97]⟩, .string ⟨#[100]⟩, .string ⟨#[101]⟩] 9))
      have hwk : IntKind.i64.wrap ((k : Int) + 1) = (k : Int) + 1 := IntWalk.i64_in _ (by omega)
      have hki : (0 : Int) ≤ (k : Int) := by omega
      have hki2 : (k : Int) ≤ (t.size : Int) := by omega
      have hk0 : (0 : Int) ≤ (k : Int) + 1 := by omega
      have hkt1 : (k : Int) + 1 ≤ (t.size : Int) := by omega
      have hkn : ((k : Int) + 1).toNat = k + 1 := by omega
      have hkt2 : k + 1 ≤ t.size := by omega
      have hkt3 : k ≤ t.size := by omega
      have HQL := Lib.hid (fun (W : World) => lit_text W sp4 #[.string ⟨#[]⟩, .string ⟨#[97]⟩, .string ⟨#[100]⟩, .string ⟨#[101]⟩] 9 rfl)
      have HA1 := Lib.hid (add_a t k (by omega))
      have HA2 := Lib.hid (add_b t k (by omega))
      go_wp2_with fail
      go_region_with
        (first | (go_at_call 41; refine (pick_any _ _ 4 (by omega) _ HRA.out).mono ?_; rintro e w5 ⟨u, rfl, hu, ho, hr⟩; have hu4 : u < 4 := (by omega); have hui : (u : Int) < 4 := (by omega); have hui0 : (0 : Int) ≤ (u : Int) := (by omega); have hcu := ((World.cell?_of_block (a := ⟨w4.heap.size, u, none⟩) (ho.block w4.heap.size (by have := HSZ.out; show _ < (w4.alloc _).heap.size; omega) (by omega))).trans (HQ4.out u hu4)); have HT := Lib.hid (getD_small sp4_small u); obtain ⟨tq, htq⟩ : ∃ tq, sp4.getD u ByteArray.empty = tq := ⟨_, rfl⟩; rw [htq] at hcu HT; have HF3 := Lib.hid (HOA.out.trans ho); have hA1 := HA1.out tq HT.out; have hA2 := HA2.out tq HT.out; clear htq ho hr) | (go_at_call 41; refine (pick_any _ _ 4 (by omega) _ HR.out.drx).mono ?_; rintro e w5 ⟨u, rfl, hu, ho, hr⟩; have hu4 : u < 4 := (by omega); have hui : (u : Int) < 4 := (by omega); have hui0 : (0 : Int) ≤ (u : Int) := (by omega); have hcu := HQL.out w5 u hu4; have HT := Lib.hid (getD_small sp4_small u); obtain ⟨tq, htq⟩ : ∃ tq, sp4.getD u ByteArray.empty = tq := ⟨_, rfl⟩; rw [htq] at hcu HT; have HF3 := Lib.hid (((HO.out.trans (only_drx _ _)).trans ho).alloc (.cells #[.string ⟨#[]⟩, .string ⟨#[97]⟩, .string ⟨#[100]⟩, .string ⟨#[101]⟩] 9)); have hA1 := HA1.out tq HT.out; have hA2 := HA2.out tq HT.out; clear htq ho hr))
      all_goals
        go_wp2_with fail
        go_ret
        exact ⟨_, rfl, by rw [ByteArray.size_append, ByteArray.size_append, ByteArray.size_extract, ByteArray.size_extract]; have := HT.out; omega, HB1.out.trans (HF3.out.below (Nat.le_refl _) HB1.out.size)⟩
    · have htd : decide (0 < t.size) = false := decide_eq_false ht0
      go_wp2_with fail
      go_ret
      exact ⟨_, rfl, by omega, HB1.out.trans (HO.out.below (Nat.le_refl _) HB1.out.size)⟩
end Go.Proofs.Ythbancphegnpdaa
