import Derived.Test.YthbancphegnpdaaTxAD
namespace Go.Proofs.Ythbancphegnpdaa
set_option linter.unusedVariables false
set_option linter.unusedSimpArgs false
open Go.RowKit Go.Maps

def sp6 : List ByteArray := [⟨#[]⟩, ⟨#[48]⟩, ⟨#[32]⟩, ⟨#[10]⟩, ⟨#[45]⟩, ⟨#[98, 97, 99, 107]⟩]
theorem sp6_small : ∀ t ∈ sp6, t.size ≤ 4 := by decide

set_option maxRecDepth 100000 in
set_option maxHeartbeats 3200000 in
theorem spoil_any (rb P : Nat) (hP : P ≤ 100000) (t : ByteArray) (htz : t.size ≤ 900) (w : World) (h : Rdr w rb P) :
    Calls Try.prog 53 #[.pointer (some ⟨rb, 0, none⟩), .string t] w fun e w' => ∃ s : ByteArray, e = .returned (.string s) ∧ s.size ≤ t.size + 4 ∧ Only rb w w' := by
  have H := Lib.hid h; clear h
  by_cases ht0 : 0 < t.size
  · have htd : ((t.size : Int) == 0) = false := by rw [beq_eq_false_iff_ne]; omega
    have htd2 : (t.size == 0) = false := by rw [beq_eq_false_iff_ne]; omega
    go_enter Try.func53, Try.ntmps53
    go_wp2_with fail
    refine (pick_any _ _ _ (by omega) _ H.out).mono ?_
    rintro e w4 ⟨k, rfl, hk, ho, hr⟩
    have HO := Lib.hid ho; have HR := Lib.hid hr; clear ho hr
    have hkt : k < t.size := by omega
    have HHk := Lib.hid hk
    clear hk
    have HQ6 := Lib.hid (lit_text w4 sp6 #[.string ⟨#[]⟩, .string ⟨#[48]⟩, .string ⟨#[32]⟩, .string ⟨#[10]⟩, .string ⟨#[45]⟩, .string ⟨#[98, 97, 99, 107]⟩] 9 rfl)
    have HRA := Lib.hid ((HR.out.below (alloc_below w4 (.cells #[.string ⟨#[]⟩, .string ⟨#[48]⟩, .string ⟨#[32]⟩, .string ⟨#[10]⟩, .string ⟨#[45]⟩, .string ⟨#[98, 97, 99, 107]⟩] 9))).drx)
    have HOA := Lib.hid ((HO.out.alloc (.cells #[.string ⟨#[]⟩, .string ⟨#[48]⟩, .string ⟨#[32]⟩, .string ⟨#[10]⟩, .string ⟨#[45]⟩, .string ⟨#[98, 97, 99, 107]⟩] 9)).trans (only_drx _ _))
    have hrb : rb < w4.heap.size := HR.out.1
    have HSZ := Lib.hid (alloc_size w4 (.cells #[.string ⟨#[]⟩, .string ⟨#[48]⟩, .string ⟨#[32]⟩, .string ⟨#[10]⟩, .string ⟨#[45]⟩, .string ⟨#[98, 97, 99, 107]⟩] 9))
    have hwk : IntKind.i64.wrap ((k : Int) + 1) = (k : Int) + 1 := IntWalk.i64_in _ (by omega)
    have hki : (0 : Int) ≤ (k : Int) := by omega
    have hki2 : (k : Int) ≤ (t.size : Int) := by omega
    have hk0 : (0 : Int) ≤ (k : Int) + 1 := by omega
    have hkt1 : (k : Int) + 1 ≤ (t.size : Int) := by omega
    have hkn : ((k : Int) + 1).toNat = k + 1 := by omega
    have hkt2 : k + 1 ≤ t.size := by omega
    have hkt3 : k ≤ t.size := by omega
    have HQL := Lib.hid (fun (W : World) => lit_text W sp6 #[.string ⟨#[]⟩, .string ⟨#[48]⟩, .string ⟨#[32]⟩, .string ⟨#[10]⟩, .string ⟨#[45]⟩, .string ⟨#[98, 97, 99, 107]⟩] 9 rfl)
    have HA1 := Lib.hid (add_a t k (by omega))
    have HA2 := Lib.hid (add_b t k (by omega))
    go_wp2_with fail
    go_region_with
      (first | (go_at_call 41; refine (pick_any _ _ 6 (by omega) _ HRA.out).mono ?_; rintro e w5 ⟨u, rfl, hu, ho, hr⟩; have hu4 : u < 6 := (by omega); have hui : (u : Int) < 6 := (by omega); have hui0 : (0 : Int) ≤ (u : Int) := (by omega); have hcu := ((World.cell?_of_block (a := ⟨w4.heap.size, u, none⟩) (ho.block w4.heap.size (by have := HSZ.out; show _ < (w4.alloc _).heap.size; omega) (by omega))).trans (HQ6.out u hu4)); have HT := Lib.hid (getD_small sp6_small u); obtain ⟨tq, htq⟩ : ∃ tq, sp6.getD u ByteArray.empty = tq := ⟨_, rfl⟩; rw [htq] at hcu HT; have HF3 := Lib.hid (HOA.out.trans ho); have hA1 := HA1.out tq HT.out; have hA2 := HA2.out tq HT.out; clear htq ho hr) | (go_at_call 41; refine (pick_any _ _ 6 (by omega) _ HR.out.drx).mono ?_; rintro e w5 ⟨u, rfl, hu, ho, hr⟩; have hu4 : u < 6 := (by omega); have hui : (u : Int) < 6 := (by omega); have hui0 : (0 : Int) ≤ (u : Int) := (by omega); have hcu := HQL.out w5 u hu4; have HT := Lib.hid (getD_small sp6_small u); obtain ⟨tq, htq⟩ : ∃ tq, sp6.getD u ByteArray.empty = tq := ⟨_, rfl⟩; rw [htq] at hcu HT; have HF3 := Lib.hid (((HO.out.trans (only_drx _ _)).trans ho).alloc (.cells #[.string ⟨#[]⟩, .string ⟨#[48]⟩, .string ⟨#[32]⟩, .string ⟨#[10]⟩, .string ⟨#[45]⟩, .string ⟨#[98, 97, 99, 107]⟩] 9)); have hA1 := HA1.out tq HT.out; have hA2 := HA2.out tq HT.out; clear htq ho hr))
    all_goals
      go_wp2_with fail
      go_ret
      exact ⟨_, rfl, by rw [ByteArray.size_append, ByteArray.size_append, ByteArray.size_extract, ByteArray.size_extract]; have := HT.out; omega, HF3.out⟩
  · have htd : ((t.size : Int) == 0) = true := by rw [beq_iff_eq]; omega
    have htd2 : (t.size == 0) = true := by rw [beq_iff_eq]; omega
    go_enter Try.func53, Try.ntmps53
    go_wp2_with fail
    go_ret
    exact ⟨_, rfl, by show 1 ≤ _; omega, Only.refl _ _⟩
end Go.Proofs.Ythbancphegnpdaa
