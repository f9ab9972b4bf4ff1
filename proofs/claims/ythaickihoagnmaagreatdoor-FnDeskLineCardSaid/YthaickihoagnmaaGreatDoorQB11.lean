import Derived.Test.YthaickihoagnmaaGreatDoorQB10
import Derived.Deep.DeepFit
import Derived.Shelf.Spec.TrailingZeros
namespace Go.Proofs.YthaickihoagnmaaGreatDoor
set_option linter.unusedVariables false
set_option linter.unusedSimpArgs false
open Go.RowKit Go.Maps
def ln8 : List ByteArray := [⟨#[97, 108, 108]⟩, ⟨#[99, 111, 109, 112, 97, 110, 121]⟩, ⟨#[119, 101, 97, 107]⟩, ⟨#[115, 116, 114, 111, 110, 103]⟩, ⟨#[115, 117, 109, 109, 101, 100]⟩, ⟨#[99, 108, 97, 115, 115, 105, 99, 97, 108]⟩, ⟨#[97, 116, 111, 109, 115]⟩, ⟨#[119, 104, 111, 108, 101]⟩]
def ln11 : List ByteArray := [⟨#[]⟩, ⟨#[112, 117, 116]⟩, ⟨#[112, 117, 116, 32, 101]⟩, ⟨#[112, 117, 116, 32, 98, 97]⟩, ⟨#[116, 97, 107, 101]⟩, ⟨#[115, 117, 109]⟩, ⟨#[115, 117, 109, 32, 97]⟩, ⟨#[115, 117, 109, 32, 97, 32, 101]⟩, ⟨#[108, 101, 102, 116, 32, 97, 32, 98, 32, 99]⟩, ⟨#[32, 97, 108, 108]⟩, ⟨#[112, 111, 105, 110, 116, 115, 32, 97]⟩]
def ln4 : List ByteArray := [⟨#[115, 117, 109, 32]⟩, ⟨#[99, 111, 109, 109, 111, 110, 32]⟩, ⟨#[108, 101, 102, 116, 32]⟩, ⟨#[109, 111, 114, 101, 32]⟩]
theorem ln8_small : ∀ t ∈ ln8, t.size ≤ 10 := by decide
theorem ln11_small : ∀ t ∈ ln11, t.size ≤ 10 := by decide
theorem ln4_small : ∀ t ∈ ln4, t.size ≤ 7 := by decide
def LineDr (rb P : Nat) (w : World) (e : Ending) (w' : World) : Prop := ∃ s : ByteArray, e = .returned (.string s) ∧ s.size ≤ 100 ∧ Only rb w w' ∧ Rdr w' rb (P + 100)
theorem quo4 (v : Nat) (hv : v < 13) : ∃ u : Nat, u < 4 ∧ (v : Int).tdiv 4 = (u : Int) := ⟨v / 4, by omega, by rw [Int.tdiv_eq_ediv_of_nonneg (by omega)]; omega⟩
theorem run_add_str (a b : ByteArray) (h : a.size + b.size ≤ 1000) : ∀ W, (Op.stringOp .add a b).run Tryz.prog W = .ok (.string (a ++ b)) W := fun W => run_string_add_sum W a b (by omega)
set_option maxRecDepth 100000 in
set_option maxHeartbeats 6400000 in
theorem line_any (rb P : Nat) (a : Option Addr) (m cap : Nat) (hP : P ≤ 90000) (w : World) (h : Rdr w rb P) (hl : LstR w rb a m) :
    Calls Tryz.prog 65 #[.pointer (some ⟨rb, 0, none⟩), .slice a m cap] w (LineDr rb P w) := by
  have H := Lib.hid h; have HL := Lib.hid hl
  have hm := hl.1
  clear h hl
  go_enter Tryz.func65, Tryz.ntmps65
  go_wp2_with fail
  refine (pick_any _ _ 7 (by omega) _ H.out).mono ?_
  rintro e w1 ⟨q, rfl, hq, ho, hr⟩
  have HO := Lib.hid ho; have HR := Lib.hid hr
  have hq7 : q < 7 := by omega
  replace HL := Lib.hid (HL.out.only ho)
  clear ho hr hq
  have hrb1 := HR.out.1
  by_cases hA : q = 0 ∨ q = 1
  · rcases hA with rfl | rfl
    · have HQ := Lib.hid (lit_text w1 ln8 #[.string ⟨#[97, 108, 108]⟩, .string ⟨#[99, 111, 109, 112, 97, 110, 121]⟩, .string ⟨#[119, 101, 97, 107]⟩, .string ⟨#[115, 116, 114, 111, 110, 103]⟩, .string ⟨#[115, 117, 109, 109, 101, 100]⟩, .string ⟨#[99, 108, 97, 115, 115, 105, 99, 97, 108]⟩, .string ⟨#[97, 116, 111, 109, 115]⟩, .string ⟨#[119, 104, 111, 108, 101]⟩] 9 rfl)
      have HRA := Lib.hid (HR.out.al (.cells #[.string ⟨#[97, 108, 108]⟩, .string ⟨#[99, 111, 109, 112, 97, 110, 121]⟩, .string ⟨#[119, 101, 97, 107]⟩, .string ⟨#[115, 116, 114, 111, 110, 103]⟩, .string ⟨#[115, 117, 109, 109, 101, 100]⟩, .string ⟨#[99, 108, 97, 115, 115, 105, 99, 97, 108]⟩, .string ⟨#[97, 116, 111, 109, 115]⟩, .string ⟨#[119, 104, 111, 108, 101]⟩] 9))
      have HOA := Lib.hid (HO.out.alloc (.cells #[.string ⟨#[97, 108, 108]⟩, .string ⟨#[99, 111, 109, 112, 97, 110, 121]⟩, .string ⟨#[119, 101, 97, 107]⟩, .string ⟨#[115, 116, 114, 111, 110, 103]⟩, .string ⟨#[115, 117, 109, 109, 101, 100]⟩, .string ⟨#[99, 108, 97, 115, 115, 105, 99, 97, 108]⟩, .string ⟨#[97, 116, 111, 109, 115]⟩, .string ⟨#[119, 104, 111, 108, 101]⟩] 9))
      have HSZ := Lib.hid (alloc_size w1 (.cells #[.string ⟨#[97, 108, 108]⟩, .string ⟨#[99, 111, 109, 112, 97, 110, 121]⟩, .string ⟨#[119, 101, 97, 107]⟩, .string ⟨#[115, 116, 114, 111, 110, 103]⟩, .string ⟨#[115, 117, 109, 109, 101, 100]⟩, .string ⟨#[99, 108, 97, 115, 115, 105, 99, 97, 108]⟩, .string ⟨#[97, 116, 111, 109, 115]⟩, .string ⟨#[119, 104, 111, 108, 101]⟩] 9))
      obtain ⟨wa, hwa⟩ : ∃ wa, w1.alloc (.cells #[.string ⟨#[97, 108, 108]⟩, .string ⟨#[99, 111, 109, 112, 97, 110, 121]⟩, .string ⟨#[119, 101, 97, 107]⟩, .string ⟨#[115, 116, 114, 111, 110, 103]⟩, .string ⟨#[115, 117, 109, 109, 101, 100]⟩, .string ⟨#[99, 108, 97, 115, 115, 105, 99, 97, 108]⟩, .string ⟨#[97, 116, 111, 109, 115]⟩, .string ⟨#[119, 104, 111, 108, 101]⟩] 9) = wa := ⟨_, rfl⟩
      obtain ⟨G, hG⟩ : ∃ G, w1.heap.size = G := ⟨_, rfl⟩
      rw [hwa, hG] at HQ HSZ
      rw [hwa] at HRA HOA
      rw [hG] at hrb1
      go_wp2_with fail
      clear hwa hG
      refine (pick_any _ _ 8 (by omega) _ HRA.out).mono ?_
      rintro e w2 ⟨u, rfl, hu, ho, hr⟩
      have hu8 : u < 8 := by omega
      have hui : (u : Int) < 8 := by omega
      have hui0 : (0 : Int) ≤ (u : Int) := by omega
      have hc := (World.cell?_of_block (a := ⟨G, u, none⟩) (ho.block G (by have := HSZ.out; omega) (by omega))).trans (HQ.out u hu8)
      have hs := getD_small ln8_small u
      obtain ⟨tq, htq⟩ : ∃ tq, ln8.getD u ByteArray.empty = tq := ⟨_, rfl⟩
      rw [htq] at hc hs
      have HO2 := Lib.hid (HOA.out.trans ho); have HR2 := Lib.hid hr
      clear ho hr hu htq
      go_wp2_with fail
      go_ret
      exact ⟨_, rfl, by omega, HO2.out, HR2.out.mono (by omega)⟩
    · have HQ := Lib.hid (lit_text w1 ln8 #[.string ⟨#[97, 108, 108]⟩, .string ⟨#[99, 111, 109, 112, 97, 110, 121]⟩, .string ⟨#[119, 101, 97, 107]⟩, .string ⟨#[115, 116, 114, 111, 110, 103]⟩, .string ⟨#[115, 117, 109, 109, 101, 100]⟩, .string ⟨#[99, 108, 97, 115, 115, 105, 99, 97, 108]⟩, .string ⟨#[97, 116, 111, 109, 115]⟩, .string ⟨#[119, 104, 111, 108, 101]⟩] 9 rfl)
      have HRA := Lib.hid (HR.out.al (.cells #[.string ⟨#[97, 108, 108]⟩, .string ⟨#[99, 111, 109, 112, 97, 110, 121]⟩, .string ⟨#[119, 101, 97, 107]⟩, .string ⟨#[115, 116, 114, 111, 110, 103]⟩, .string ⟨#[115, 117, 109, 109, 101, 100]⟩, .string ⟨#[99, 108, 97, 115, 115, 105, 99, 97, 108]⟩, .string ⟨#[97, 116, 111, 109, 115]⟩, .string ⟨#[119, 104, 111, 108, 101]⟩] 9))
      have HOA := Lib.hid (HO.out.alloc (.cells #[.string ⟨#[97, 108, 108]⟩, .string ⟨#[99, 111, 109, 112, 97, 110, 121]⟩, .string ⟨#[119, 101, 97, 107]⟩, .string ⟨#[115, 116, 114, 111, 110, 103]⟩, .string ⟨#[115, 117, 109, 109, 101, 100]⟩, .string ⟨#[99, 108, 97, 115, 115, 105, 99, 97, 108]⟩, .string ⟨#[97, 116, 111, 109, 115]⟩, .string ⟨#[119, 104, 111, 108, 101]⟩] 9))
      have HSZ := Lib.hid (alloc_size w1 (.cells #[.string ⟨#[97, 108, 108]⟩, .string ⟨#[99, 111, 109, 112, 97, 110, 121]⟩, .string ⟨#[119, 101, 97, 107]⟩, .string ⟨#[115, 116, 114, 111, 110, 103]⟩, .string ⟨#[115, 117, 109, 109, 101, 100]⟩, .string ⟨#[99, 108, 97, 115, 115, 105, 99, 97, 108]⟩, .string ⟨#[97, 116, 111, 109, 115]⟩, .string ⟨#[119, 104, 111, 108, 101]⟩] 9))
      obtain ⟨wa, hwa⟩ : ∃ wa, w1.alloc (.cells #[.string ⟨#[97, 108, 108]⟩, .string ⟨#[99, 111, 109, 112, 97, 110, 121]⟩, .string ⟨#[119, 101, 97, 107]⟩, .string ⟨#[115, 116, 114, 111, 110, 103]⟩, .string ⟨#[115, 117, 109, 109, 101, 100]⟩, .string ⟨#[99, 108, 97, 115, 115, 105, 99, 97, 108]⟩, .string ⟨#[97, 116, 111, 109, 115]⟩, .string ⟨#[119, 104, 111, 108, 101]⟩] 9) = wa := ⟨_, rfl⟩
      obtain ⟨G, hG⟩ : ∃ G, w1.heap.size = G := ⟨_, rfl⟩
      rw [hwa, hG] at HQ HSZ
      rw [hwa] at HRA HOA
      rw [hG] at hrb1
      go_wp2_with fail
      clear hwa hG
      refine (pick_any _ _ 8 (by omega) _ HRA.out).mono ?_
      rintro e w2 ⟨u, rfl, hu, ho, hr⟩
      have hu8 : u < 8 := by omega
      have hui : (u : Int) < 8 := by omega
      have hui0 : (0 : Int) ≤ (u : Int) := by omega
      have hc := (World.cell?_of_block (a := ⟨G, u, none⟩) (ho.block G (by have := HSZ.out; omega) (by omega))).trans (HQ.out u hu8)
      have hs := getD_small ln8_small u
      obtain ⟨tq, htq⟩ : ∃ tq, ln8.getD u ByteArray.empty = tq := ⟨_, rfl⟩
      rw [htq] at hc hs
      have HO2 := Lib.hid (HOA.out.trans ho); have HR2 := Lib.hid hr
      clear ho hr hu htq
      go_wp2_with fail
      go_ret
      exact ⟨_, rfl, by omega, HO2.out, HR2.out.mono (by omega)⟩
  by_cases hB : q = 2
  · subst hB
    have HQ := Lib.hid (lit_text w1 ln11 #[.string ⟨#[]⟩, .string ⟨#[112, 117, 116]⟩, .string ⟨#[112, 117, 116, 32, 101]⟩, .string ⟨#[112, 117, 116, 32, 98, 97]⟩, .string ⟨#[116, 97, 107, 101]⟩, .string ⟨#[115, 117, 109]⟩, .string ⟨#[115, 117, 109, 32, 97]⟩, .string ⟨#[115, 117, 109, 32, 97, 32, 101]⟩, .string ⟨#[108, 101, 102, 116, 32, 97, 32, 98, 32, 99]⟩, .string ⟨#[32, 97, 108, 108]⟩, .string ⟨#[112, 111, 105, 110, 116, 115, 32, 97]⟩] 9 rfl)
    have HRA := Lib.hid (HR.out.al (.cells #[.string ⟨#[]⟩, .string ⟨#[112, 117, 116]⟩, .string ⟨#[112, 117, 116, 32, 101]⟩, .string ⟨#[112, 117, 116, 32, 98, 97]⟩, .string ⟨#[116, 97, 107, 101]⟩, .string ⟨#[115, 117, 109]⟩, .string ⟨#[115, 117, 109, 32, 97]⟩, .string ⟨#[115, 117, 109, 32, 97, 32, 101]⟩, .string ⟨#[108, 101, 102, 116, 32, 97, 32, 98, 32, 99]⟩, .string ⟨#[32, 97, 108, 108]⟩, .string ⟨#[112, 111, 105, 110, 116, 115, 32, 97]⟩] 9))
    have HOA := Lib.hid (HO.out.alloc (.cells #[.string ⟨#[]⟩, .string ⟨#[112, 117, 116]⟩, .string ⟨#[112, 117, 116, 32, 101]⟩, .string ⟨#[112, 117, 116, 32, 98, 97]⟩, .string ⟨#[116, 97, 107, 101]⟩, .string ⟨#[115, 117, 109]⟩, .string ⟨#[115, 117, 109, 32, 97]⟩, .string ⟨#[115, 117, 109, 32, 97, 32, 101]⟩, .string ⟨#[108, 101, 102, 116, 32, 97, 32, 98, 32, 99]⟩, .string ⟨#[32, 97, 108, 108]⟩, .string ⟨#[112, 111, 105, 110, 116, 115, 32, 97]⟩] 9))
    have HSZ := Lib.hid (alloc_size w1 (.cells #[.string ⟨#[]⟩, .string ⟨#[112, 117, 116]⟩, .string ⟨#[112, 117, 116, 32, 101]⟩, .string ⟨#[112, 117, 116, 32, 98, 97]⟩, .string ⟨#[116, 97, 107, 101]⟩, .string ⟨#[115, 117, 109]⟩, .string ⟨#[115, 117, 109, 32, 97]⟩, .string ⟨#[115, 117, 109, 32, 97, 32, 101]⟩, .string ⟨#[108, 101, 102, 116, 32, 97, 32, 98, 32, 99]⟩, .string ⟨#[32, 97, 108, 108]⟩, .string ⟨#[112, 111, 105, 110, 116, 115, 32, 97]⟩] 9))
    obtain ⟨wa, hwa⟩ : ∃ wa, w1.alloc (.cells #[.string ⟨#[]⟩, .string ⟨#[112, 117, 116]⟩, .string ⟨#[112, 117, 116, 32, 101]⟩, .string ⟨#[112, 117, 116, 32, 98, 97]⟩, .string ⟨#[116, 97, 107, 101]⟩, .string ⟨#[115, 117, 109]⟩, .string ⟨#[115, 117, 109, 32, 97]⟩, .string ⟨#[115, 117, 109, 32, 97, 32, 101]⟩, .string ⟨#[108, 101, 102, 116, 32, 97, 32, 98, 32, 99]⟩, .string ⟨#[32, 97, 108, 108]⟩, .string ⟨#[112, 111, 105, 110, 116, 115, 32, 97]⟩] 9) = wa := ⟨_, rfl⟩
    obtain ⟨G, hG⟩ : ∃ G, w1.heap.size = G := ⟨_, rfl⟩
    rw [hwa, hG] at HQ HSZ
    rw [hwa] at HRA HOA
    rw [hG] at hrb1
    go_wp2_with fail
    clear hwa hG
    refine (pick_any _ _ 11 (by omega) _ HRA.out).mono ?_
    rintro e w2 ⟨u, rfl, hu, ho, hr⟩
    have hu8 : u < 11 := by omega
    have hui : (u : Int) < 11 := by omega
    have hui0 : (0 : Int) ≤ (u : Int) := by omega
    have hc := (World.cell?_of_block (a := ⟨G, u, none⟩) (ho.block G (by have := HSZ.out; omega) (by omega))).trans (HQ.out u hu8)
    have hs := getD_small ln11_small u
    obtain ⟨tq, htq⟩ : ∃ tq, ln11.getD u ByteArray.empty = tq := ⟨_, rfl⟩
    rw [htq] at hc hs
    have HO2 := Lib.hid (HOA.out.trans ho); have HR2 := Lib.hid hr
    clear ho hr hu htq
    go_wp2_with fail
    go_ret
    exact ⟨_, rfl, by omega, HO2.out, HR2.out.mono (by omega)⟩
  by_cases hC : q = 3 ∨ q = 4
  · rcases hC with rfl | rfl
    · go_wp2_with fail
      refine (pick_any _ _ 15 (by omega) _ HR.out).mono ?_
      rintro e w2 ⟨y, rfl, hy, ho, hr⟩
      replace HO := Lib.hid (HO.out.trans ho); replace HR := Lib.hid hr; replace HL := Lib.hid (HL.out.only ho)
      clear ho hr
      go_wp2_with fail
      refine (pick_any _ _ 15 (by omega) _ HR.out).mono ?_
      rintro e w3 ⟨z, rfl, hz, ho, hr⟩
      replace HO := Lib.hid (HO.out.trans ho); replace HR := Lib.hid hr; replace HL := Lib.hid (HL.out.only ho)
      clear ho hr
      by_cases hm0 : 0 < m
      · have hmi : (0 : Int) < (m : Int) := by omega
        obtain ⟨b, f, rfl, hb, hne, hrow, h64⟩ : ∃ b f, a = some ⟨b, 0, none⟩ ∧ b < w3.heap.size ∧ b ≠ rb ∧ Row w3 b 0 m f ∧ ∀ i, i < m → I64 (f i) := by
          rcases HL.out.2 with h0 | h0
          · omega
          · exact h0
        have HROW := Lib.hid hrow
        clear hrow
        go_wp2_with fail
        refine (pick_any _ _ m (by omega) _ HR.out).mono ?_
        rintro e w4 ⟨u1, rfl, hu1, ho, hr⟩
        have hu1m : u1 < m := by omega
        have hu1i : (u1 : Int) < (m : Int) := by omega
        have hu10 : (0 : Int) ≤ (u1 : Int) := by omega
        replace HO := Lib.hid (HO.out.trans ho); replace HR := Lib.hid hr
        have HROW4 := Lib.hid (show Row w4 b 0 m f from fun i hi => (World.cell?_of_block (a := ⟨b, 0 + i, none⟩) (ho.block b hb hne)).trans (HROW.out i hi))
        have hb4 : b < w4.heap.size := Nat.lt_of_lt_of_le hb ho.size
        have hc1 : w4.cell? ⟨b, u1, none⟩ = some (.int .i64 (f u1)) := by have := HROW4.out u1 hu1m; rwa [Nat.zero_add] at this
        obtain ⟨A1, hA1e⟩ : ∃ A1, f u1 = A1 := ⟨_, rfl⟩
        rw [hA1e] at hc1
        clear ho hr hu1 hA1e
        go_wp2_with fail
        refine (pick_any _ _ m (by omega) _ HR.out).mono ?_
        rintro e w5 ⟨u2, rfl, hu2, ho, hr⟩
        have hu2m : u2 < m := by omega
        have hu2i : (u2 : Int) < (m : Int) := by omega
        have hu20 : (0 : Int) ≤ (u2 : Int) := by omega
        replace HO := Lib.hid (HO.out.trans ho); replace HR := Lib.hid hr
        have hc2 : w5.cell? ⟨b, u2, none⟩ = some (.int .i64 (f u2)) := by have := (World.cell?_of_block (a := ⟨b, 0 + u2, none⟩) (ho.block b hb4 hne)).trans (HROW4.out u2 hu2m); rwa [Nat.zero_add] at this
        obtain ⟨A2, hA2e⟩ : ∃ A2, f u2 = A2 := ⟨_, rfl⟩
        rw [hA2e] at hc2
        clear ho hr hu2 hA2e hc1
        have HST1 := Lib.hid (fun W => specSetText_any A1 W)
        have HST2 := Lib.hid (fun W => specSetText_any A2 W)
        obtain ⟨ta, hta⟩ : ∃ ta, setT A1 = ta := ⟨_, rfl⟩
        obtain ⟨tb, htb⟩ : ∃ tb, setT A2 = tb := ⟨_, rfl⟩
        have hza : ta.size ≤ 4 := by rw [← hta]; exact setL_len _
        have hzb : tb.size ≤ 4 := by rw [← htb]; exact setL_len _
        rw [hta] at HST1
        rw [htb] at HST2
        have HQ4 := Lib.hid (fun (W : World) => lit_text W ln4 #[.string ⟨#[115, 117, 109, 32]⟩, .string ⟨#[99, 111, 109, 109, 111, 110, 32]⟩, .string ⟨#[108, 101, 102, 116, 32]⟩, .string ⟨#[109, 111, 114, 101, 32]⟩] 9 rfl)
        have HRB := Lib.hid ((HR.out.al (.cells #[.string ⟨#[115, 117, 109, 32]⟩, .string ⟨#[99, 111, 109, 109, 111, 110, 32]⟩, .string ⟨#[108, 101, 102, 116, 32]⟩, .string ⟨#[109, 111, 114, 101, 32]⟩] 9)).drx)
        have HOB := Lib.hid ((HO.out.alloc (.cells #[.string ⟨#[115, 117, 109, 32]⟩, .string ⟨#[99, 111, 109, 109, 111, 110, 32]⟩, .string ⟨#[108, 101, 102, 116, 32]⟩, .string ⟨#[109, 111, 114, 101, 32]⟩] 9)).trans (only_drx _ _))
        have hrb4 : rb < w5.heap.size := HR.out.1
        have HA1 := Lib.hid (fun (tq : ByteArray) (h : tq.size ≤ 7) => run_add_str tq ta (by omega))
        have HA2 := Lib.hid (fun (tq : ByteArray) (h : tq.size ≤ 7) => run_add_str (tq ++ ta) { data := #[32] } (by rw [ByteArray.size_append]; show _ + 1 ≤ _; omega))
        have HA3 := Lib.hid (fun (tq : ByteArray) (h : tq.size ≤ 7) => run_add_str (tq ++ ta ++ { data := #[32] }) tb (by rw [ByteArray.size_append, ByteArray.size_append]; show _ + 1 + _ ≤ _; omega))
        have HZ := Lib.hid (show ∀ tq : ByteArray, tq.size ≤ 7 → (tq ++ ta ++ { data := #[32] } ++ tb).size ≤ 100 from fun tq h => by rw [ByteArray.size_append, ByteArray.size_append, ByteArray.size_append]; show _ + _ + 1 + _ ≤ _; omega)
        clear hta htb
        go_upto_region 14 with fail
        go_region_with
          (first | (go_at_call 42; go_fit (pick_any rb _ 13 (by omega) _ HRB.out); rintro e w6 ⟨v, rfl, hv, ho, hr⟩; obtain ⟨u, hu4, hqu⟩ := quo4 v (by omega); have hui : (u : Int) < 4 := (by omega); have hui0 : (0 : Int) ≤ (u : Int) := (by omega); have hwu : IntKind.i64.wrap (u : Int) = (u : Int) := (IntWalk.i64_in _ (by omega)); have hcu := ((World.cell?_of_block (a := ⟨w5.heap.size, u, none⟩) (ho.block w5.heap.size (by show _ < (w5.alloc _).heap.size; rw [alloc_size]; omega) (by omega))).trans (HQ4.out w5 u hu4)); have HT := Lib.hid (getD_small ln4_small u); obtain ⟨tq, htq⟩ : ∃ tq, ln4.getD u ByteArray.empty = tq := ⟨_, rfl⟩; rw [htq] at hcu HT; have HF3 := Lib.hid (HOB.out.trans ho); have HRF := Lib.hid hr; have hA1 := HA1.out tq HT.out; have hA2 := HA2.out tq HT.out; have hA3 := HA3.out tq HT.out; clear htq ho hr) | (go_at_call 42; go_fit (pick_any rb _ 13 (by omega) _ HR.out.drx); rintro e w6 ⟨v, rfl, hv, ho, hr⟩; obtain ⟨u, hu4, hqu⟩ := quo4 v (by omega); have hui : (u : Int) < 4 := (by omega); have hui0 : (0 : Int) ≤ (u : Int) := (by omega); have hwu : IntKind.i64.wrap (u : Int) = (u : Int) := (IntWalk.i64_in _ (by omega)); have HT := Lib.hid (getD_small ln4_small u); obtain ⟨tq, htq⟩ : ∃ tq, ln4.getD u ByteArray.empty = tq := ⟨_, rfl⟩; have hcu : ∀ W : World, (W.alloc (.cells #[.string ⟨#[115, 117, 109, 32]⟩, .string ⟨#[99, 111, 109, 109, 111, 110, 32]⟩, .string ⟨#[108, 101, 102, 116, 32]⟩, .string ⟨#[109, 111, 114, 101, 32]⟩] 9)).cell? ⟨W.heap.size, u, none⟩ = some (.string tq) := (fun W => by rw [← htq]; exact HQ4.out W u hu4); rw [htq] at HT; have HF3 := Lib.hid ((HO.out.trans (only_drx _ _)).trans ho); have HRF := Lib.hid hr; have hA1 := HA1.out tq HT.out; have hA2 := HA2.out tq HT.out; have hA3 := HA3.out tq HT.out; clear htq ho hr) | (go_at_call 28; go_fit (HST1.out _); rintro e w7 ⟨rfl, rfl⟩) | (go_at_call 28; go_fit (HST2.out _); rintro e w7 ⟨rfl, rfl⟩))
        all_goals
          go_wp2_with fail
          go_ret
          exact ⟨_, rfl, HZ.out _ HT.out, by first | exact HF3.out | exact HF3.out.drew | exact HF3.out.alloc _ | exact (HF3.out.alloc _).drew | exact HF3.out.drew.alloc _ | exact HF3.out.drew.drew | exact (HF3.out.drew.alloc _).drew, by first | exact HRF.out.mono (by omega) | exact (HRF.out.al _).mono (by omega) | exact (HRF.out.drx.al _).mono (by omega) | exact HRF.out.drx.mono (by omega)⟩
      · have hmi : ¬ (0 : Int) < (m : Int) := by omega
        obtain ⟨A1, hA1e⟩ : ∃ A1 : Int, 1 + (y : Int) = A1 := ⟨_, rfl⟩
        obtain ⟨A2, hA2e⟩ : ∃ A2 : Int, 1 + (z : Int) = A2 := ⟨_, rfl⟩
        have hw1 : IntKind.i64.wrap (1 + (y : Int)) = A1 := by rw [← hA1e]; exact IntWalk.i64_in _ (by omega)
        have hw2 : IntKind.i64.wrap (1 + (z : Int)) = A2 := by rw [← hA2e]; exact IntWalk.i64_in _ (by omega)
        have HST1 := Lib.hid (fun W => specSetText_any A1 W)
        have HST2 := Lib.hid (fun W => specSetText_any A2 W)
        obtain ⟨ta, hta⟩ : ∃ ta, setT A1 = ta := ⟨_, rfl⟩
        obtain ⟨tb, htb⟩ : ∃ tb, setT A2 = tb := ⟨_, rfl⟩
        have hza : ta.size ≤ 4 := by rw [← hta]; exact setL_len _
        have hzb : tb.size ≤ 4 := by rw [← htb]; exact setL_len _
        rw [hta] at HST1
        rw [htb] at HST2
        have HQ4 := Lib.hid (fun (W : World) => lit_text W ln4 #[.string ⟨#[115, 117, 109, 32]⟩, .string ⟨#[99, 111, 109, 109, 111, 110, 32]⟩, .string ⟨#[108, 101, 102, 116, 32]⟩, .string ⟨#[109, 111, 114, 101, 32]⟩] 9 rfl)
        have HRB := Lib.hid ((HR.out.al (.cells #[.string ⟨#[115, 117, 109, 32]⟩, .string ⟨#[99, 111, 109, 109, 111, 110, 32]⟩, .string ⟨#[108, 101, 102, 116, 32]⟩, .string ⟨#[109, 111, 114, 101, 32]⟩] 9)).drx)
        have HOB := Lib.hid ((HO.out.alloc (.cells #[.string ⟨#[115, 117, 109, 32]⟩, .string ⟨#[99, 111, 109, 109, 111, 110, 32]⟩, .string ⟨#[108, 101, 102, 116, 32]⟩, .string ⟨#[109, 111, 114, 101, 32]⟩] 9)).trans (only_drx _ _))
        have hrb4 : rb < w3.heap.size := HR.out.1
        have HA1 := Lib.hid (fun (tq : ByteArray) (h : tq.size ≤ 7) => run_add_str tq ta (by omega))
        have HA2 := Lib.hid (fun (tq : ByteArray) (h : tq.size ≤ 7) => run_add_str (tq ++ ta) { data := #[32] } (by rw [ByteArray.size_append]; show _ + 1 ≤ _; omega))
        have HA3 := Lib.hid (fun (tq : ByteArray) (h : tq.size ≤ 7) => run_add_str (tq ++ ta ++ { data := #[32] }) tb (by rw [ByteArray.size_append, ByteArray.size_append]; show _ + 1 + _ ≤ _; omega))
        have HZ := Lib.hid (show ∀ tq : ByteArray, tq.size ≤ 7 → (tq ++ ta ++ { data := #[32] } ++ tb).size ≤ 100 from fun tq h => by rw [ByteArray.size_append, ByteArray.size_append, ByteArray.size_append]; show _ + _ + 1 + _ ≤ _; omega)
        clear hta htb
        go_upto_region 14 with fail
        go_region_with
          (first | (go_at_call 42; go_fit (pick_any rb _ 13 (by omega) _ HRB.out); rintro e w6 ⟨v, rfl, hv, ho, hr⟩; obtain ⟨u, hu4, hqu⟩ := quo4 v (by omega); have hui : (u : Int) < 4 := (by omega); have hui0 : (0 : Int) ≤ (u : Int) := (by omega); have hwu : IntKind.i64.wrap (u : Int) = (u : Int) := (IntWalk.i64_in _ (by omega)); have hcu := ((World.cell?_of_block (a := ⟨w3.heap.size, u, none⟩) (ho.block w3.heap.size (by show _ < (w3.alloc _).heap.size; rw [alloc_size]; omega) (by omega))).trans (HQ4.out w3 u hu4)); have HT := Lib.hid (getD_small ln4_small u); obtain ⟨tq, htq⟩ : ∃ tq, ln4.getD u ByteArray.empty = tq := ⟨_, rfl⟩; rw [htq] at hcu HT; have HF3 := Lib.hid (HOB.out.trans ho); have HRF := Lib.hid hr; have hA1 := HA1.out tq HT.out; have hA2 := HA2.out tq HT.out; have hA3 := HA3.out tq HT.out; clear htq ho hr) | (go_at_call 42; go_fit (pick_any rb _ 13 (by omega) _ HR.out.drx); rintro e w6 ⟨v, rfl, hv, ho, hr⟩; obtain ⟨u, hu4, hqu⟩ := quo4 v (by omega); have hui : (u : Int) < 4 := (by omega); have hui0 : (0 : Int) ≤ (u : Int) := (by omega); have hwu : IntKind.i64.wrap (u : Int) = (u : Int) := (IntWalk.i64_in _ (by omega)); have HT := Lib.hid (getD_small ln4_small u); obtain ⟨tq, htq⟩ : ∃ tq, ln4.getD u ByteArray.empty = tq := ⟨_, rfl⟩; have hcu : ∀ W : World, (W.alloc (.cells #[.string ⟨#[115, 117, 109, 32]⟩, .string ⟨#[99, 111, 109, 109, 111, 110, 32]⟩, .string ⟨#[108, 101, 102, 116, 32]⟩, .string ⟨#[109, 111, 114, 101, 32]⟩] 9)).cell? ⟨W.heap.size, u, none⟩ = some (.string tq) := (fun W => by rw [← htq]; exact HQ4.out W u hu4); rw [htq] at HT; have HF3 := Lib.hid ((HO.out.trans (only_drx _ _)).trans ho); have HRF := Lib.hid hr; have hA1 := HA1.out tq HT.out; have hA2 := HA2.out tq HT.out; have hA3 := HA3.out tq HT.out; clear htq ho hr) | (go_at_call 28; go_fit (HST1.out _); rintro e w7 ⟨rfl, rfl⟩) | (go_at_call 28; go_fit (HST2.out _); rintro e w7 ⟨rfl, rfl⟩))
        all_goals
          go_wp2_with fail
          go_ret
          exact ⟨_, rfl, HZ.out _ HT.out, by first | exact HF3.out | exact HF3.out.drew | exact HF3.out.alloc _ | exact (HF3.out.alloc _).drew | exact HF3.out.drew.alloc _ | exact HF3.out.drew.drew | exact (HF3.out.drew.alloc _).drew, by first | exact HRF.out.mono (by omega) | exact (HRF.out.al _).mono (by omega) | exact (HRF.out.drx.al _).mono (by omega) | exact HRF.out.drx.mono (by omega)⟩
    · go_wp2_with fail
      refine (pick_any _ _ 15 (by omega) _ HR.out).mono ?_
      rintro e w2 ⟨y, rfl, hy, ho, hr⟩
      replace HO := Lib.hid (HO.out.trans ho); replace HR := Lib.hid hr; replace HL := Lib.hid (HL.out.only ho)
      clear ho hr
      go_wp2_with fail
      refine (pick_any _ _ 15 (by omega) _ HR.out).mono ?_
      rintro e w3 ⟨z, rfl, hz, ho, hr⟩
      replace HO := Lib.hid (HO.out.trans ho); replace HR := Lib.hid hr; replace HL := Lib.hid (HL.out.only ho)
      clear ho hr
      by_cases hm0 : 0 < m
      · have hmi : (0 : Int) < (m : Int) := by omega
        obtain ⟨b, f, rfl, hb, hne, hrow, h64⟩ : ∃ b f, a = some ⟨b, 0, none⟩ ∧ b < w3.heap.size ∧ b ≠ rb ∧ Row w3 b 0 m f ∧ ∀ i, i < m → I64 (f i) := by
          rcases HL.out.2 with h0 | h0
          · omega
          · exact h0
        have HROW := Lib.hid hrow
        clear hrow
        go_wp2_with fail
        refine (pick_any _ _ m (by omega) _ HR.out).mono ?_
        rintro e w4 ⟨u1, rfl, hu1, ho, hr⟩
        have hu1m : u1 < m := by omega
        have hu1i : (u1 : Int) < (m : Int) := by omega
        have hu10 : (0 : Int) ≤ (u1 : Int) := by omega
        replace HO := Lib.hid (HO.out.trans ho); replace HR := Lib.hid hr
        have HROW4 := Lib.hid (show Row w4 b 0 m f from fun i hi => (World.cell?_of_block (a := ⟨b, 0 + i, none⟩) (ho.block b hb hne)).trans (HROW.out i hi))
        have hb4 : b < w4.heap.size := Nat.lt_of_lt_of_le hb ho.size
        have hc1 : w4.cell? ⟨b, u1, none⟩ = some (.int .i64 (f u1)) := by have := HROW4.out u1 hu1m; rwa [Nat.zero_add] at this
        obtain ⟨A1, hA1e⟩ : ∃ A1, f u1 = A1 := ⟨_, rfl⟩
        rw [hA1e] at hc1
        clear ho hr hu1 hA1e
        go_wp2_with fail
        refine (pick_any _ _ m (by omega) _ HR.out).mono ?_
        rintro e w5 ⟨u2, rfl, hu2, ho, hr⟩
        have hu2m : u2 < m := by omega
        have hu2i : (u2 : Int) < (m : Int) := by omega
        have hu20 : (0 : Int) ≤ (u2 : Int) := by omega
        replace HO := Lib.hid (HO.out.trans ho); replace HR := Lib.hid hr
        have hc2 : w5.cell? ⟨b, u2, none⟩ = some (.int .i64 (f u2)) := by have := (World.cell?_of_block (a := ⟨b, 0 + u2, none⟩) (ho.block b hb4 hne)).trans (HROW4.out u2 hu2m); rwa [Nat.zero_add] at this
        obtain ⟨A2, hA2e⟩ : ∃ A2, f u2 = A2 := ⟨_, rfl⟩
        rw [hA2e] at hc2
        clear ho hr hu2 hA2e hc1
        have HST1 := Lib.hid (fun W => specSetText_any A1 W)
        have HST2 := Lib.hid (fun W => specSetText_any A2 W)
        obtain ⟨ta, hta⟩ : ∃ ta, setT A1 = ta := ⟨_, rfl⟩
        obtain ⟨tb, htb⟩ : ∃ tb, setT A2 = tb := ⟨_, rfl⟩
        have hza : ta.size ≤ 4 := by rw [← hta]; exact setL_len _
        have hzb : tb.size ≤ 4 := by rw [← htb]; exact setL_len _
        rw [hta] at HST1
        rw [htb] at HST2
        have HQ4 := Lib.hid (fun (W : World) => lit_text W ln4 #[.string ⟨#[115, 117, 109, 32]⟩, .string ⟨#[99, 111, 109, 109, 111, 110, 32]⟩, .string ⟨#[108, 101, 102, 116, 32]⟩, .string ⟨#[109, 111, 114, 101, 32]⟩] 9 rfl)
        have HRB := Lib.hid ((HR.out.al (.cells #[.string ⟨#[115, 117, 109, 32]⟩, .string ⟨#[99, 111, 109, 109, 111, 110, 32]⟩, .string ⟨#[108, 101, 102, 116, 32]⟩, .string ⟨#[109, 111, 114, 101, 32]⟩] 9)).drx)
        have HOB := Lib.hid ((HO.out.alloc (.cells #[.string ⟨#[115, 117, 109, 32]⟩, .string ⟨#[99, 111, 109, 109, 111, 110, 32]⟩, .string ⟨#[108, 101, 102, 116, 32]⟩, .string ⟨#[109, 111, 114, 101, 32]⟩] 9)).trans (only_drx _ _))
        have hrb4 : rb < w5.heap.size := HR.out.1
        have HA1 := Lib.hid (fun (tq : ByteArray) (h : tq.size ≤ 7) => run_add_str tq ta (by omega))
        have HA2 := Lib.hid (fun (tq : ByteArray) (h : tq.size ≤ 7) => run_add_str (tq ++ ta) { data := #[32] } (by rw [ByteArray.size_append]; show _ + 1 ≤ _; omega))
        have HA3 := Lib.hid (fun (tq : ByteArray) (h : tq.size ≤ 7) => run_add_str (tq ++ ta ++ { data := #[32] }) tb (by rw [ByteArray.size_append, ByteArray.size_append]; show _ + 1 + _ ≤ _; omega))
        have HZ := Lib.hid (show ∀ tq : ByteArray, tq.size ≤ 7 → (tq ++ ta ++ { data := #[32] } ++ tb).size ≤ 100 from fun tq h => by rw [ByteArray.size_append, ByteArray.size_append, ByteArray.size_append]; show _ + _ + 1 + _ ≤ _; omega)
        clear hta htb
        go_upto_region 14 with fail
        go_region_with
          (first | (go_at_call 42; go_fit (pick_any rb _ 13 (by omega) _ HRB.out); rintro e w6 ⟨v, rfl, hv, ho, hr⟩; obtain ⟨u, hu4, hqu⟩ := quo4 v (by omega); have hui : (u : Int) < 4 := (by omega); have hui0 : (0 : Int) ≤ (u : Int) := (by omega); have hwu : IntKind.i64.wrap (u : Int) = (u : Int) := (IntWalk.i64_in _ (by omega)); have hcu := ((World.cell?_of_block (a := ⟨w5.heap.size, u, none⟩) (ho.block w5.heap.size (by show _ < (w5.alloc _).heap.size; rw [alloc_size]; omega) (by omega))).trans (HQ4.out w5 u hu4)); have HT := Lib.hid (getD_small ln4_small u); obtain ⟨tq, htq⟩ : ∃ tq, ln4.getD u ByteArray.empty = tq := ⟨_, rfl⟩; rw [htq] at hcu HT; have HF3 := Lib.hid (HOB.out.trans ho); have HRF := Lib.hid hr; have hA1 := HA1.out tq HT.out; have hA2 := HA2.out tq HT.out; have hA3 := HA3.out tq HT.out; clear htq ho hr) | (go_at_call 42; go_fit (pick_any rb _ 13 (by omega) _ HR.out.drx); rintro e w6 ⟨v, rfl, hv, ho, hr⟩; obtain ⟨u, hu4, hqu⟩ := quo4 v (by omega); have hui : (u : Int) < 4 := (by omega); have hui0 : (0 : Int) ≤ (u : Int) := (by omega); have hwu : IntKind.i64.wrap (u : Int) = (u : Int) := (IntWalk.i64_in _ (by omega)); have HT := Lib.hid (getD_small ln4_small u); obtain ⟨tq, htq⟩ : ∃ tq, ln4.getD u ByteArray.empty = tq := ⟨_, rfl⟩; have hcu : ∀ W : World, (W.alloc (.cells #[.string ⟨#[115, 117, 109, 32]⟩, .string ⟨#[99, 111, 109, 109, 111, 110, 32]⟩, .string ⟨#[108, 101, 102, 116, 32]⟩, .string ⟨#[109, 111, 114, 101, 32]⟩] 9)).cell? ⟨W.heap.size, u, none⟩ = some (.string tq) := (fun W => by rw [← htq]; exact HQ4.out W u hu4); rw [htq] at HT; have HF3 := Lib.hid ((HO.out.trans (only_drx _ _)).trans ho); have HRF := Lib.hid hr; have hA1 := HA1.out tq HT.out; have hA2 := HA2.out tq HT.out; have hA3 := HA3.out tq HT.out; clear htq ho hr) | (go_at_call 28; go_fit (HST1.out _); rintro e w7 ⟨rfl, rfl⟩) | (go_at_call 28; go_fit (HST2.out _); rintro e w7 ⟨rfl, rfl⟩))
        all_goals
          go_wp2_with fail
          go_ret
          exact ⟨_, rfl, HZ.out _ HT.out, by first | exact HF3.out | exact HF3.out.drew | exact HF3.out.alloc _ | exact (HF3.out.alloc _).drew | exact HF3.out.drew.alloc _ | exact HF3.out.drew.drew | exact (HF3.out.drew.alloc _).drew, by first | exact HRF.out.mono (by omega) | exact (HRF.out.al _).mono (by omega) | exact (HRF.out.drx.al _).mono (by omega) | exact HRF.out.drx.mono (by omega)⟩
      · have hmi : ¬ (0 : Int) < (m : Int) := by omega
        obtain ⟨A1, hA1e⟩ : ∃ A1 : Int, 1 + (y : Int) = A1 := ⟨_, rfl⟩
        obtain ⟨A2, hA2e⟩ : ∃ A2 : Int, 1 + (z : Int) = A2 := ⟨_, rfl⟩
        have hw1 : IntKind.i64.wrap (1 + (y : Int)) = A1 := by rw [← hA1e]; exact IntWalk.i64_in _ (by omega)
        have hw2 : IntKind.i64.wrap (1 + (z : Int)) = A2 := by rw [← hA2e]; exact IntWalk.i64_in _ (by omega)
        have HST1 := Lib.hid (fun W => specSetText_any A1 W)
        have HST2 := Lib.hid (fun W => specSetText_any A2 W)
        obtain ⟨ta, hta⟩ : ∃ ta, setT A1 = ta := ⟨_, rfl⟩
        obtain ⟨tb, htb⟩ : ∃ tb, setT A2 = tb := ⟨_, rfl⟩
        have hza : ta.size ≤ 4 := by rw [← hta]; exact setL_len _
        have hzb : tb.size ≤ 4 := by rw [← htb]; exact setL_len _
        rw [hta] at HST1
        rw [htb] at HST2
        have HQ4 := Lib.hid (fun (W : World) => lit_text W ln4 #[.string ⟨#[115, 117, 109, 32]⟩, .string ⟨#[99, 111, 109, 109, 111, 110, 32]⟩, .string ⟨#[108, 101, 102, 116, 32]⟩, .string ⟨#[109, 111, 114, 101, 32]⟩] 9 rfl)
        have HRB := Lib.hid ((HR.out.al (.cells #[.string ⟨#[115, 117, 109, 32]⟩, .string ⟨#[99, 111, 109, 109, 111, 110, 32]⟩, .string ⟨#[108, 101, 102, 116, 32]⟩, .string ⟨#[109, 111, 114, 101, 32]⟩] 9)).drx)
        have HOB := Lib.hid ((HO.out.alloc (.cells #[.string ⟨#[115, 117, 109, 32]⟩, .string ⟨#[99, 111, 109, 109, 111, 110, 32]⟩, .string ⟨#[108, 101, 102, 116, 32]⟩, .string ⟨#[109, 111, 114, 101, 32]⟩] 9)).trans (only_drx _ _))
        have hrb4 : rb < w3.heap.size := HR.out.1
        have HA1 := Lib.hid (fun (tq : ByteArray) (h : tq.size ≤ 7) => run_add_str tq ta (by omega))
        have HA2 := Lib.hid (fun (tq : ByteArray) (h : tq.size ≤ 7) => run_add_str (tq ++ ta) { data := #[32] } (by rw [ByteArray.size_append]; show _ + 1 ≤ _; omega))
        have HA3 := Lib.hid (fun (tq : ByteArray) (h : tq.size ≤ 7) => run_add_str (tq ++ ta ++ { data := #[32] }) tb (by rw [ByteArray.size_append, ByteArray.size_append]; show _ + 1 + _ ≤ _; omega))
        have HZ := Lib.hid (show ∀ tq : ByteArray, tq.size ≤ 7 → (tq ++ ta ++ { data := #[32] } ++ tb).size ≤ 100 from fun tq h => by rw [ByteArray.size_append, ByteArray.size_append, ByteArray.size_append]; show _ + _ + 1 + _ ≤ _; omega)
        clear hta htb
        go_upto_region 14 with fail
        go_region_with
          (first | (go_at_call 42; go_fit (pick_any rb _ 13 (by omega) _ HRB.out); rintro e w6 ⟨v, rfl, hv, ho, hr⟩; obtain ⟨u, hu4, hqu⟩ := quo4 v (by omega); have hui : (u : Int) < 4 := (by omega); have hui0 : (0 : Int) ≤ (u : Int) := (by omega); have hwu : IntKind.i64.wrap (u : Int) = (u : Int) := (IntWalk.i64_in _ (by omega)); have hcu := ((World.cell?_of_block (a := ⟨w3.heap.size, u, none⟩) (ho.block w3.heap.size (by show _ < (w3.alloc _).heap.size; rw [alloc_size]; omega) (by omega))).trans (HQ4.out w3 u hu4)); have HT := Lib.hid (getD_small ln4_small u); obtain ⟨tq, htq⟩ : ∃ tq, ln4.getD u ByteArray.empty = tq := ⟨_, rfl⟩; rw [htq] at hcu HT; have HF3 := Lib.hid (HOB.out.trans ho); have HRF := Lib.hid hr; have hA1 := HA1.out tq HT.out; have hA2 := HA2.out tq HT.out; have hA3 := HA3.out tq HT.out; clear htq ho hr) | (go_at_call 42; go_fit (pick_any rb _ 13 (by omega) _ HR.out.drx); rintro e w6 ⟨v, rfl, hv, ho, hr⟩; obtain ⟨u, hu4, hqu⟩ := quo4 v (by omega); have hui : (u : Int) < 4 := (by omega); have hui0 : (0 : Int) ≤ (u : Int) := (by omega); have hwu : IntKind.i64.wrap (u : Int) = (u : Int) := (IntWalk.i64_in _ (by omega)); have HT := Lib.hid (getD_small ln4_small u); obtain ⟨tq, htq⟩ : ∃ tq, ln4.getD u ByteArray.empty = tq := ⟨_, rfl⟩; have hcu : ∀ W : World, (W.alloc (.cells #[.string ⟨#[115, 117, 109, 32]⟩, .string ⟨#[99, 111, 109, 109, 111, 110, 32]⟩, .string ⟨#[108, 101, 102, 116, 32]⟩, .string ⟨#[109, 111, 114, 101, 32]⟩] 9)).cell? ⟨W.heap.size, u, none⟩ = some (.string tq) := (fun W => by rw [← htq]; exact HQ4.out W u hu4); rw [htq] at HT; have HF3 := Lib.hid ((HO.out.trans (only_drx _ _)).trans ho); have HRF := Lib.hid hr; have hA1 := HA1.out tq HT.out; have hA2 := HA2.out tq HT.out; have hA3 := HA3.out tq HT.out; clear htq ho hr) | (go_at_call 28; go_fit (HST1.out _); rintro e w7 ⟨rfl, rfl⟩) | (go_at_call 28; go_fit (HST2.out _); rintro e w7 ⟨rfl, rfl⟩))
        all_goals
          go_wp2_with fail
          go_ret
          exact ⟨_, rfl, HZ.out _ HT.out, by first | exact HF3.out | exact HF3.out.drew | exact HF3.out.alloc _ | exact (HF3.out.alloc _).drew | exact HF3.out.drew.alloc _ | exact HF3.out.drew.drew | exact (HF3.out.drew.alloc _).drew, by first | exact HRF.out.mono (by omega) | exact (HRF.out.al _).mono (by omega) | exact (HRF.out.drx.al _).mono (by omega) | exact HRF.out.drx.mono (by omega)⟩
  have hD : q = 5 ∨ q = 6 := by omega
  rcases hD with rfl | rfl
  · go_wp2_with fail
    refine (deedR_any rb _ a m cap (by omega) _ HR.out HL.out).mono ?_
    rintro e w2 ⟨k, x, rfl, _, _, _, ho, hr⟩
    have HO2 := Lib.hid (HO.out.trans ho); have HR2 := Lib.hid hr
    clear ho hr
    go_wp2_with fail
    refine (specDeedText_any k x _).mono ?_
    rintro e w3 ⟨rfl, hb⟩
    have hz : (deedT k x).size ≤ 9 := deed_len k x
    have HO3 := Lib.hid (HO2.out.trans (Only.of_below hb)); have HR3 := Lib.hid (HR2.out.below hb)
    obtain ⟨t, ht⟩ : ∃ t, deedT k x = t := ⟨_, rfl⟩
    rw [ht] at hz ⊢
    clear hb ht
    go_wp2_with fail
    go_ret
    exact ⟨_, rfl, by omega, HO3.out, HR3.out.mono (by omega)⟩
  · go_wp2_with fail
    refine (deedR_any rb _ a m cap (by omega) _ HR.out HL.out).mono ?_
    rintro e w2 ⟨k, x, rfl, _, _, _, ho, hr⟩
    have HO2 := Lib.hid (HO.out.trans ho); have HR2 := Lib.hid hr
    clear ho hr
    go_wp2_with fail
    refine (specDeedText_any k x _).mono ?_
    rintro e w3 ⟨rfl, hb⟩
    have hz : (deedT k x).size ≤ 9 := deed_len k x
    have HO3 := Lib.hid (HO2.out.trans (Only.of_below hb)); have HR3 := Lib.hid (HR2.out.below hb)
    obtain ⟨t, ht⟩ : ∃ t, deedT k x = t := ⟨_, rfl⟩
    rw [ht] at hz ⊢
    clear hb ht
    go_wp2_with fail
    go_ret
    exact ⟨_, rfl, by omega, HO3.out, HR3.out.mono (by omega)⟩
end Go.Proofs.YthaickihoagnmaaGreatDoor
namespace Go.Proofs.YthaickihoagnmaaGreatDoor
set_option linter.unusedVariables false
set_option linter.unusedSimpArgs false
open Go.RowKit Go.Maps
theorem DeskR.one {w : World} {a b : Option Addr} {c c2 : Nat} {xs : List Int} {L : List (List Int)} (h : DeskR w (.agg #[.slice a xs.length c, .slice b L.length c2]) xs L) : DeskR w (.agg #[.slice a xs.length c, .slice none 0 0]) xs [] := by
  obtain ⟨a', c', b', c2', e, h1, h2, h3, h4⟩ := h
  injection e with e
  have e1 := congrArg (fun q : Array Value => q.getD 0 undef) e
  injection e1 with e2 e3 e4
  subst e2; subst e4
  exact ⟨⟨_, _, none, 0, rfl, h1, Nat.le_refl _, h3, ⟨by simp, .inl rfl⟩⟩⟩
end Go.Proofs.YthaickihoagnmaaGreatDoor
namespace Go.Proofs.YthaickihoagnmaaGreatDoor
set_option linter.unusedVariables false
set_option linter.unusedSimpArgs false
open Go.RowKit Go.Maps
theorem okD.gives {ys : List Int} {M : List (List Int)} {w w' : World} {v1 v2 : Value} (hk : okD ys M) (h : GivesD ys M w w' v1 v2) :
    ∃ a c b c2, v1 = .slice a ys.length c ∧ v2 = .slice b M.length c2 ∧ DeskR w' (.agg #[.slice a ys.length c, .slice b M.length c2]) ys M ∧ Below w.heap.size w w' := by
  obtain ⟨h1, h2, ⟨a, c, rfl⟩, b, c2, rfl⟩ := h.read ⟨by have := hk.1.1; omega, hk.1.2⟩ (fun l hl => ⟨by have := (hk.2.2 l hl).1; omega, (hk.2.2 l hl).2⟩)
  exact ⟨a, c, b, c2, rfl, rfl, h1, h2⟩
theorem okD9.same {ys : List Int} {M : List (List Int)} (hk : okD9 ys M) (d1 d2 : Value) (w : World) (h1 : DeskR w d1 ys M) (h2 : DeskR w d2 ys M) :
    Calls Tryz.prog 18 #[d1, d2] w fun e w' => e = .returned (.bool true) ∧ Below w.heap.size w w' :=
  sameDesk_any d1 d2 ys M (by have := hk.1.1; omega) (by have := hk.2.1; omega) (fun l hl => by have := (hk.2.2 l hl).1; omega) w h1 h2
structure VarD (w : World) (A : Nat) (a b : Option Addr) (c c2 : Nat) (xs : List Int) (L : List (List Int)) : Prop where
  blk : Blk2 w A 31 (.slice a xs.length c) (.slice b L.length c2)
  d : DeskR w (.agg #[.slice a xs.length c, .slice b L.length c2]) xs L
theorem VarD.kept {w w' : World} {A : Nat} {a b : Option Addr} {c c2 : Nat} {xs : List Int} {L : List (List Int)} (h : VarD w A a b c c2 xs L) (hb : Below w.heap.size w w') : VarD w' A a b c c2 xs L := ⟨h.blk.kept hb h.blk.lt, h.d.kept hb⟩
theorem VarD.new {w : World} {a b : Option Addr} {c c2 : Nat} {xs : List Int} {L : List (List Int)} (h : DeskR w (.agg #[.slice a xs.length c, .slice b L.length c2]) xs L) : VarD (w.alloc (.cells #[.slice a xs.length c, .slice b L.length c2] 31)) w.heap.size a b c c2 xs L :=
  ⟨Blk2.new w _ _ _, h.kept (alloc_below w _)⟩
theorem DeskR.now {w : World} {a b : Option Addr} {c c2 : Nat} {xs : List Int} {L : List (List Int)} (h : DeskR w (.agg #[.slice a xs.length c, .slice b L.length c2]) xs L) : Ints w a xs.length (fun j => xs.getD j 0) := by
  obtain ⟨a', c', b', c2', e, h1, h2, h3, h4⟩ := h
  injection e with e
  have e1 := congrArg (fun q : Array Value => q.getD 0 undef) e
  injection e1 with e2 e3 e4
  subst e2
  exact h3
end Go.Proofs.YthaickihoagnmaaGreatDoor
namespace Go.Proofs.YthaickihoagnmaaGreatDoor
set_option linter.unusedVariables false
set_option linter.unusedSimpArgs false
open Go.RowKit Go.Maps
theorem DeskV.base {W : World} {B B' T b : Nat} {v1 v2 : Value} {ys : List Int} {rs : List Fr} (h : DeskV W B T b v1 v2 ys rs) (hB : B' ≤ B) : DeskV W B' T b v1 v2 ys rs := ⟨h.blk, h.g.base hB, h.ne, Nat.le_trans hB h.lo, h.hi⟩
end Go.Proofs.YthaickihoagnmaaGreatDoor
namespace Go.Proofs.YthaickihoagnmaaGreatDoor
set_option linter.unusedVariables false
set_option linter.unusedSimpArgs false
open Go.RowKit Go.Maps
theorem Dds.at {w : World} {a : Option Addr} {ds : List (Int × Int)} (h : Dds w a ds) {k : Nat} (hk : k < ds.length) :
    ∃ b o, a = some ⟨b, o, none⟩ ∧ I64 ds[k].1 ∧ I64 ds[k].2 ∧ ∀ W, Below w.heap.size w W → (W.cell? ⟨b, o + k * 2, none⟩ = some (.int .i64 ds[k].1) ∧ W.cell? ⟨b, o + k * 2 + 1, none⟩ = some (.int .i64 ds[k].2)) := by
  obtain ⟨b, o, e, hl, hr⟩ := h.row (by omega)
  exact ⟨b, o, e, (h.1.2 _ (List.getElem_mem hk)).1, (h.1.2 _ (List.getElem_mem hk)).2, fun W hW => (hr.kept hW hl) k hk⟩
structure RunS (w : World) (B A : Nat) (xs : List Int) (L : List (List Int)) (ds : List (Int × Int)) (X Y : Value) (k m : Nat) (v1 v2 : Value) (rs : List Fr) (wr : World) : Prop where
  d : Blk2 wr w.heap.size 31 X Y
  r : Blk2 wr (w.heap.size + 1) 31 (.slice none 0 0) (.slice none 0 0)
  v : DeskV wr B wr.heap.size A v1 v2 (runD xs L (ds.take k)).1 rs
  mm : rs.map Fr.xs = (runD xs L (ds.take k)).2.1
  nn : (runD xs L (ds.take k)).2.2 = m
  lo : w.heap.size + 2 ≤ B
  bel : Below w.heap.size w wr
theorem RunS.next {w wr wp w5 : World} {B A : Nat} {xs : List Int} {L : List (List Int)} {ds : List (Int × Int)} {X Y : Value} {k m m2 : Nat} {v1 v2 v3 v4 : Value} {rs : List Fr} {o : Obj} (h : RunS w B A xs L ds X Y k m v1 v2 rs wr) (hk : k < ds.length)
    (hp : Below wr.heap.size wr wp) (hg : GivesD (runD xs L (ds.take (k + 1))).1 (runD xs L (ds.take (k + 1))).2.1 wp w5 v3 v4) (hm : (runD xs L (ds.take (k + 1))).2.2 = m2) :
    ∃ rs', RunS w B A xs L ds X Y (k + 1) m2 v3 v4 rs' (((w5.alloc o).setCell ⟨A, 0, none⟩ v3).setCell ⟨A, 1, none⟩ v4) := by
  obtain ⟨rs', hdg, hrs, hb⟩ := hg
  have hb5 := below_onto hp hb
  have hb6 : Below wr.heap.size wr (w5.alloc o) := hb5.alloc hb5.size _
  have hlo := h.lo; have hBA := h.v.lo; have hAl := h.v.blk.lt
  have hAp : A < wp.heap.size := Nat.lt_of_lt_of_le hAl hp.size
  have hBp : B ≤ wp.heap.size := by omega
  have hbw : Below w.heap.size w (((w5.alloc o).setCell ⟨A, 0, none⟩ v3).setCell ⟨A, 1, none⟩ v4) := ((below_onto h.bel hb6).setCell (p := ⟨A, 0, none⟩) (show w.heap.size ≤ A by omega) _).setCell (p := ⟨A, 1, none⟩) (show w.heap.size ≤ A by omega) _
  have hsz : (((w5.alloc o).setCell ⟨A, 0, none⟩ v3).setCell ⟨A, 1, none⟩ v4).heap.size = w5.heap.size + 1 := by simp [World.setCell]
  refine ⟨rs', ?_, ?_, ⟨((h.v.blk.kept hb6 hAl).set0 v3).set1 v4, ?_, fun e => by have := (hdg.ltB _ e).1; omega, hBA, by have := hb5.size; omega, fun q hq => by have := (hdg.ltB q hq).2; omega⟩, hrs, hm, h.lo, hbw⟩
  · exact ((h.d.kept hb6 h.d.lt).other (show w.heap.size ≠ A by omega) 0 v3).other (show w.heap.size ≠ A by omega) 1 v4
  · exact ((h.r.kept hb6 h.r.lt).other (show w.heap.size + 1 ≠ A by omega) 0 v3).other (show w.heap.size + 1 ≠ A by omega) 1 v4
  · exact (((hdg.kept (alloc_below w5 o)).put (p := ⟨A, 0, none⟩) hAp).put (p := ⟨A, 1, none⟩) hAp).base hBp
theorem run_okD {xs : List Int} {L : List (List Int)} (h : deskB xs L = true) (ds : List (Int × Int)) : okD (runD xs L ds).1 (runD xs L ds).2.1 := okD_desk (run_desk h ds)
theorem RunS.desk {w wr : World} {B A : Nat} {xs : List Int} {L : List (List Int)} {ds : List (Int × Int)} {X Y : Value} {k m : Nat} {v1 v2 : Value} {rs : List Fr} (h : RunS w B A xs L ds X Y k m v1 v2 rs wr) (hd : deskB xs L = true) {cx : List Int} {cL : List (List Int)} (hx : (runD xs L (ds.take k)).1 = cx) (hL : (runD xs L (ds.take k)).2.1 = cL) :
    DeskR wr (.agg #[v1, v2]) cx cL ∧ (∃ a c, v1 = .slice a cx.length c) ∧ ∃ a c, v2 = .slice a cL.length c := by
  subst hx; subst hL
  refine ⟨h.v.read h.mm (run_okD hd _), h.v.g.now.slice, ?_⟩
  have := h.v.g.past.seq.slice
  rw [← h.mm]
  rw [List.length_map] at this ⊢
  exact this
end Go.Proofs.YthaickihoagnmaaGreatDoor
namespace Go.Proofs.YthaickihoagnmaaGreatDoor
set_option linter.unusedVariables false
set_option linter.unusedSimpArgs false
open Go.RowKit Go.Maps
theorem RunS.put {w wr w6 : World} {B A T xb : Nat} {xs : List Int} {L : List (List Int)} {ds : List (Int × Int)} {X Y : Value} {k m m2 : Nat} {v1 v2 v3 v4 : Value} {rs rs' : List Fr} (h : RunS w B A xs L ds X Y k m v1 v2 rs wr)
    (hv : DeskV w6 wr.heap.size T xb v3 v4 (runD xs L (ds.take (k + 1))).1 rs') (hrs : rs'.map Fr.xs = (runD xs L (ds.take (k + 1))).2.1) (hT : T ≤ w6.heap.size) (hb : Below wr.heap.size wr w6) (hm : (runD xs L (ds.take (k + 1))).2.2 = m2) :
    RunS w B A xs L ds X Y (k + 1) m2 v3 v4 rs' ((w6.setCell ⟨A, 0, none⟩ v3).setCell ⟨A, 1, none⟩ v4) := by
  have hlo := h.lo; have hBA := h.v.lo; have hAl := h.v.blk.lt
  have hsz : ((w6.setCell ⟨A, 0, none⟩ v3).setCell ⟨A, 1, none⟩ v4).heap.size = w6.heap.size := by simp [World.setCell]
  have hbs := hb.size
  refine ⟨?_, ?_, ⟨((h.v.blk.kept hb hAl).set0 v3).set1 v4, ?_, fun e => by have := (hv.g.ltB _ e).1; omega, hBA, by omega, fun q hq => by have := hv.hi.2 q hq; omega⟩, hrs, hm, h.lo, ((below_onto h.bel hb).setCell (p := ⟨A, 0, none⟩) (show w.heap.size ≤ A by omega) _).setCell (p := ⟨A, 1, none⟩) (show w.heap.size ≤ A by omega) _⟩
  · exact ((h.d.kept hb h.d.lt).other (show w.heap.size ≠ A by omega) 0 v3).other (show w.heap.size ≠ A by omega) 1 v4
  · exact ((h.r.kept hb h.r.lt).other (show w.heap.size + 1 ≠ A by omega) 0 v3).other (show w.heap.size + 1 ≠ A by omega) 1 v4
  · exact ((hv.g.put (p := ⟨A, 0, none⟩) hAl).put (p := ⟨A, 1, none⟩) hAl).base (by omega)
end Go.Proofs.YthaickihoagnmaaGreatDoor
namespace Go.Proofs.YthaickihoagnmaaGreatDoor
set_option linter.unusedVariables false
set_option linter.unusedSimpArgs false
open Go.RowKit Go.Maps
theorem only_new {w w' : World} {rb A : Nat} {t : TypeId} {x y : Value} (h : Blk2 w A t x y) (ho : Only rb w w') (hne : A ≠ rb) : w'.heap[A]? = w.heap[A]? := ho.block A h.lt hne
end Go.Proofs.YthaickihoagnmaaGreatDoor
namespace Go.Proofs.YthaickihoagnmaaGreatDoor
set_option linter.unusedVariables false
set_option linter.unusedSimpArgs false
open Go.RowKit Go.Maps
def DAd (p : Option Addr) (cp n : Nat) : Prop := n ≤ cp ∧ (p = none ∧ cp = 0 ∨ ∃ g, p = some ⟨g, 0, none⟩)
theorem Dds.put {w : World} {p : Option Addr} {ds : List (Int × Int)} {q : Addr} {u : Value} (h : Dds w p ds) (hp : ∀ g o, p = some ⟨g, o, none⟩ → g ≠ q.block) : Dds (w.setCell q u) p ds := by
  refine ⟨h.1, ?_⟩
  rcases h.2 with h0 | ⟨b, o, e, hl, hr⟩
  · exact .inl h0
  · have hb := set_blk (w := w) (p := q) (v := u) (hp b o e)
    exact .inr ⟨b, o, e, by simp only [World.setCell, Array.size_modify]; exact hl, fun i hi => by
      obtain ⟨h1, h2⟩ := hr i hi
      unfold World.cell? at h1 h2 ⊢
      rw [hb]; exact ⟨h1, h2⟩⟩
def RunDr (w : World) (e : Ending) (w' : World) : Prop :=
  ∃ (a : Option Addr) (c : Nat) (b : Option Addr) (c2 : Nat) (xs : List Int) (L : List (List Int)) (p : Option Addr) (cp : Nat) (ds : List (Int × Int)), e = .returned (.tuple #[.agg #[.slice a xs.length c, .slice b L.length c2], .slice p ds.length cp]) ∧ DeskR w' (.agg #[.slice a xs.length c, .slice b L.length c2]) xs L ∧ okD9 xs L ∧ Dds w' p ds ∧ DAd p cp ds.length ∧ ds.length ≤ 41 ∧ Below w.heap.size w w'
theorem RunDr.drew {w W : World} {e : Ending} (h : RunDr w e W) : RunDr w e W.drew := by
  obtain ⟨a, c, b, c2, xs, L, p, cp, ds, he, hR, hk, hD, ha, h41, hE⟩ := h
  have hb : Below W.heap.size W W.drew := (Below.refl _ W).drew
  exact ⟨a, c, b, c2, xs, L, p, cp, ds, he, hR.kept hb, hk, hD.kept hb, ha, h41, hE.drew⟩
end Go.Proofs.YthaickihoagnmaaGreatDoor
namespace Go.Proofs.YthaickihoagnmaaGreatDoor
set_option linter.unusedVariables false
set_option linter.unusedSimpArgs false
open Go.RowKit Go.Maps
theorem Dds.take {w : World} {p : Option Addr} {ds : List (Int × Int)} (h : Dds w p ds) (m : Nat) : Dds w p (ds.take m) := by
  refine ⟨⟨by have := h.1.1; rw [List.length_take]; omega, fun d hd => h.1.2 d (List.mem_of_mem_take hd)⟩, ?_⟩
  rcases h.2 with h0 | ⟨b, o, e, hl, hr⟩
  · exact .inl (by rw [List.length_take]; omega)
  · exact .inr ⟨b, o, e, hl, fun i hi => by
      have hi' : i < ds.length := by rw [List.length_take] at hi; omega
      rw [List.getElem_take]; exact hr i hi'⟩
end Go.Proofs.YthaickihoagnmaaGreatDoor
namespace Go.Proofs.YthaickihoagnmaaGreatDoor
set_option linter.unusedVariables false
set_option linter.unusedSimpArgs false
open Go.RowKit Go.Maps
def spR (c : UInt8) : List UInt8 → List (List UInt8)
  | [] => [[]]
  | b :: l => if b == c then [] :: spR c l else match spR c l with
    | [] => [[b]]
    | p :: ps => (b :: p) :: ps
theorem spR_none {c : UInt8} {a : List UInt8} (h : c ∉ a) : spR c a = [a] := by
  induction a with
  | nil => rfl
  | cons b a ih =>
    have hb : (b == c) = false := by
      cases hb : b == c with
      | false => rfl
      | true => exact absurd (by rw [beq_iff_eq.1 hb]; exact List.mem_cons_self) h
    unfold spR
    rw [hb, ih (fun hx => h (List.mem_cons_of_mem _ hx))]
    rfl
theorem spR_app {c : UInt8} {a r : List UInt8} (h : c ∉ a) : spR c (a ++ c :: r) = a :: spR c r := by
  induction a with
  | nil =>
    show spR c (c :: r) = _
    rw [spR, if_pos (by simp)]
  | cons b a ih =>
    have hb : (b == c) = false := by
      cases hb : b == c with
      | false => rfl
      | true => exact absurd (by rw [beq_iff_eq.1 hb]; exact List.mem_cons_self) h
    rw [List.cons_append, spR, hb, ih (fun hx => h (List.mem_cons_of_mem _ hx))]
    rfl
theorem spK_inv (l : List UInt8) (c : UInt8) (k : Nat) (hk : k ≤ l.length) :
    (spK l c k).1 ++ spR c (l.drop (spK l c k).2) = spR c l ∧ c ∉ (l.drop (spK l c k).2).take (k - (spK l c k).2) := by
  induction k with
  | zero => exact ⟨rfl, by simp [spK]⟩
  | succ k ih =>
    obtain ⟨h1, h2⟩ := ih (by omega)
    have hle := (spK_le l c k).1
    obtain ⟨p, hp⟩ : ∃ p, (spK l c k).2 = p := ⟨_, rfl⟩
    have hgt : l.getD k 0 = l[k] := by rw [List.getD_eq_getElem?_getD, List.getElem?_eq_getElem (by omega)]; rfl
    have hsp : l.drop p = (l.drop p).take (k - p) ++ l[k] :: l.drop (k + 1) := by
      have e := List.take_append_drop (k - p) (l.drop p)
      rw [List.drop_drop, show p + (k - p) = k by omega, List.drop_eq_getElem_cons (by omega : k < l.length)] at e
      exact e.symm
    cases hb : l.getD k 0 == c with
    | true =>
      rw [spK_yes hb]
      have he : l[k] = c := by rw [← hgt]; exact beq_iff_eq.1 hb
      refine ⟨?_, by simp⟩
      rw [hp] at h1 h2 ⊢
      rw [← h1, hsp, he, spR_app h2, ← he, ← hsp]
      simp
    | false =>
      rw [spK_no hb]
      refine ⟨h1, ?_⟩
      rw [hp] at h2 hle ⊢
      rw [show k + 1 - p = (k - p) + 1 by omega, List.take_add_one]
      intro hm
      rcases List.mem_append.1 hm with hm | hm
      · exact h2 hm
      · rw [List.getElem?_drop, show p + (k - p) = k by omega, List.getElem?_eq_getElem (by omega)] at hm
        have hm : c = l[k] := by simpa using hm
        rw [hgt, ← hm] at hb
        simp at hb
theorem spL_R (l : List UInt8) (c : UInt8) : spL l c = spR c l := by
  obtain ⟨h1, h2⟩ := spK_inv l c l.length (Nat.le_refl _)
  unfold spL
  rw [← h1]
  congr 1
  rw [List.take_of_length_le (by rw [List.length_drop]; omega)] at h2
  exact (spR_none h2).symm
theorem cut_parts (l : List UInt8) : (cut1 l = l ∧ cut2 l = [] ∧ (32 : UInt8) ∉ l) ∨ (l = cut1 l ++ 32 :: cut2 l ∧ (32 : UInt8) ∉ cut1 l) := by
  have key : (Lib.indexByte l 32 < 0 ∧ (32 : UInt8) ∉ l) ∨ ∃ i : Nat, Lib.indexByte l 32 = i ∧ l = l.take i ++ 32 :: l.drop (i + 1) ∧ (32 : UInt8) ∉ l.take i := by
    induction l with
    | nil => exact .inl ⟨by decide +kernel, by simp⟩
    | cons b l ih =>
      unfold Lib.indexByte
      by_cases hb : b = 32
      · subst hb
        exact .inr ⟨0, by simp, by simp, by simp⟩
      · rcases ih with ⟨h1, h2⟩ | ⟨i, h1, h2, h3⟩
        · refine .inl ⟨?_, ?_⟩
          · rw [if_neg (by simpa using hb), if_pos (by have := Lib.indexByte_ge l 32; rw [show Lib.indexByte l 32 = -1 by omega]; rfl)]; omega
          · intro hm
            rcases List.mem_cons.1 hm with hm | hm
            · exact hb hm.symm
            · exact h2 hm
        · refine .inr ⟨i + 1, ?_, ?_, ?_⟩
          · rw [if_neg (by simpa using hb), if_neg (by rw [h1]; simp), h1]; rfl
          · rw [List.take_succ_cons, List.drop_succ_cons, List.cons_append, ← h2]
          · rw [List.take_succ_cons]
            intro hm
            rcases List.mem_cons.1 hm with hm | hm
            · exact hb hm.symm
            · exact h3 hm
  unfold cut1 cut2
  rcases key with ⟨h1, h2⟩ | ⟨i, h1, h2, h3⟩
  · exact .inl ⟨if_pos h1, if_pos h1, h2⟩
  · refine .inr ?_
    rw [if_neg (by omega), if_neg (by omega), h1, Int.toNat_natCast]
    exact ⟨h2, h3⟩
theorem txt_space : (List.range 16).all (fun x => !(txtL x).contains 32) = true := by decide +kernel
theorem rdI_space {l : List UInt8} (h : (32 : UInt8) ∈ l) : rdI l = -1 := by
  cases hb : rdB l with
  | false => exact rd_bad hb
  | true =>
    exfalso
    obtain ⟨h1, h2⟩ := rd_ok hb
    rw [setL_yes h1] at h2
    have hr := rdI_rng l
    have hx : (rdI l).toNat < 16 := by omega
    have := List.all_eq_true.1 txt_space _ (List.mem_range.2 hx)
    rw [h2] at this
    simp [h] at this
theorem rdI_nil : rdI [] = -1 := by decide +kernel
theorem three_words (l : List UInt8) : ((spL l 32).length = 3 → spL l 32 = [cut1 l, cut1 (cut2 l), cut2 (cut2 l)]) ∧ ((spL l 32).length ≠ 3 → rdI (cut1 (cut2 l)) = -1 ∨ rdI (cut2 (cut2 l)) = -1) := by
  rw [spL_R]
  rcases cut_parts l with ⟨h1, h2, h3⟩ | ⟨h1, h3⟩
  · rw [spR_none h3, h2]
    refine ⟨fun h => by simp at h, fun _ => .inl ?_⟩
    decide +kernel
  · obtain ⟨a, ha⟩ : ∃ a, cut1 l = a := ⟨_, rfl⟩
    obtain ⟨t, ht⟩ : ∃ t, cut2 l = t := ⟨_, rfl⟩
    rw [ha, ht] at h1
    rw [ha] at h3
    rw [ha, ht, h1, spR_app h3]
    rcases cut_parts t with ⟨k1, k2, k3⟩ | ⟨k1, k3⟩
    · rw [spR_none k3, k2]
      exact ⟨fun h => by simp at h, fun _ => .inr rdI_nil⟩
    · obtain ⟨b, hb⟩ : ∃ b, cut1 t = b := ⟨_, rfl⟩
      obtain ⟨u, hu⟩ : ∃ u, cut2 t = u := ⟨_, rfl⟩
      rw [hb, hu] at k1
      rw [hb] at k3
      rw [hb, hu, k1, spR_app k3]
      rcases cut_parts u with ⟨j1, j2, j3⟩ | ⟨j1, j3⟩
      · rw [spR_none j3]
        exact ⟨fun _ => rfl, fun h => absurd rfl h⟩
      · refine ⟨fun h => ?_, fun _ => .inr (rdI_space (by rw [j1]; simp))⟩
        rw [j1, spR_app j3] at h
        obtain ⟨q, qs, hq⟩ : ∃ q qs, spR 32 (cut2 u) = q :: qs := by
          cases hx : spR 32 (cut2 u) with
          | nil =>
            exfalso
            revert hx
            cases cut2 u with
            | nil => simp [spR]
            | cons b l => unfold spR; split <;> (try split) <;> simp
          | cons q qs => exact ⟨q, qs, rfl⟩
        rw [hq] at h
        simp at h
def joinL : List (List UInt8) → List UInt8
  | [] => []
  | [a] => a
  | a :: b :: l => a ++ 44 :: joinL (b :: l)
theorem join_snoc (ls : List (List UInt8)) (a : List UInt8) (h : ls ≠ []) : joinL (ls ++ [a]) = joinL ls ++ 44 :: a := by
  induction ls with
  | nil => exact absurd rfl h
  | cons x ls ih =>
    cases ls with
    | nil => rfl
    | cons y ls =>
      have := ih (by simp)
      show x ++ 44 :: joinL ((y :: ls) ++ [a]) = (x ++ 44 :: joinL (y :: ls)) ++ 44 :: a
      rw [this]; simp
theorem join_ne {ls : List (List UInt8)} (h : ls ≠ []) (hn : ∀ l ∈ ls, l ≠ []) : joinL ls ≠ [] := by
  cases ls with
  | nil => exact absurd rfl h
  | cons x ls =>
    have hx := hn x List.mem_cons_self
    cases ls with
    | nil => exact hx
    | cons y ls => show x ++ _ ≠ []; simp
def atS (xs : List Int) (s : Int) : Nat → List (List UInt8)
  | 0 => []
  | k + 1 => if hasB s k then atS xs s k ++ [setL (xs.getD k 0)] else atS xs s k
theorem atS_len (xs : List Int) (s : Int) (k : Nat) : (atS xs s k).length ≤ k := by
  induction k with
  | zero => exact Nat.le_refl _
  | succ k ih =>
    unfold atS
    split
    · rw [List.length_append, List.length_singleton]; omega
    · omega
end Go.Proofs.YthaickihoagnmaaGreatDoor
namespace Go.Proofs.YthaickihoagnmaaGreatDoor
set_option linter.unusedVariables false
set_option linter.unusedSimpArgs false
open Go.RowKit Go.Maps
def okW : List UInt8 := [111, 107]
def notW : List UInt8 := [110, 111, 116]
def whatW : List UInt8 := [119, 104, 97, 116]
def liX (xs : List Int) (L : List (List Int)) (l : List UInt8) : List Int := if deskB xs L then (if rdDB l then dkX xs L (rdK l) (rdY l) else xs) else []
def liL (xs : List Int) (L : List (List Int)) (l : List UInt8) : List (List Int) := if deskB xs L then (if rdDB l then dkL xs L (rdK l) (rdY l) else L) else []
def liT (A : List Int → List UInt8 → List UInt8) (xs : List Int) (L : List (List Int)) (l : List UInt8) : List UInt8 :=
  if deskB xs L then (if rdDB l then (if dkB xs L (rdK l) (rdY l) then okW else notW) else A xs l) else []
theorem li_none {A : List Int → List UInt8 → List UInt8} {xs : List Int} {L : List (List Int)} {l : List UInt8} (h : deskB xs L = false) : liX xs L l = [] ∧ liL xs L l = [] ∧ liT A xs L l = [] := by
  unfold liX liL liT; rw [h]; exact ⟨rfl, rfl, rfl⟩
theorem li_deed {A : List Int → List UInt8 → List UInt8} {xs : List Int} {L : List (List Int)} {l : List UInt8} (h : deskB xs L = true) (hd : rdDB l = true) :
    liX xs L l = dkX xs L (rdK l) (rdY l) ∧ liL xs L l = dkL xs L (rdK l) (rdY l) ∧ liT A xs L l = if dkB xs L (rdK l) (rdY l) then okW else notW := by
  unfold liX liL liT; rw [h, hd]; exact ⟨rfl, rfl, rfl⟩
theorem li_ask {A : List Int → List UInt8 → List UInt8} {xs : List Int} {L : List (List Int)} {l : List UInt8} (h : deskB xs L = true) (hd : rdDB l = false) : liX xs L l = xs ∧ liL xs L l = L ∧ liT A xs L l = A xs l := by
  unfold liX liL liT; rw [h, hd]; exact ⟨rfl, rfl, rfl⟩
theorem li_desk {xs : List Int} {L : List (List Int)} {l : List UInt8} (h : deskB xs L = true) : deskB (liX xs L l) (liL xs L l) = true := by
  cases hd : rdDB l with
  | true =>
    obtain ⟨h1, h2, _⟩ := li_deed (A := fun _ _ => []) h hd
    rw [h1, h2]; exact dk_desk h
  | false =>
    obtain ⟨h1, h2, _⟩ := li_ask (A := fun _ _ => []) h hd
    rw [h1, h2]; exact h
theorem li_stays {A : List Int → List UInt8 → List UInt8} {xs : List Int} {L : List (List Int)} {l : List UInt8} (h : deskB xs L = true) (ha : liT A xs L l ≠ okW) : liX xs L l = xs ∧ liL xs L l = L := by
  cases hd : rdDB l with
  | false =>
    obtain ⟨h1, h2, _⟩ := li_ask (A := A) h hd
    exact ⟨h1, h2⟩
  | true =>
    obtain ⟨h1, h2, h3⟩ := li_deed (A := A) h hd
    rw [h3] at ha
    cases hb : dkB xs L (rdK l) (rdY l) with
    | true => rw [hb] at ha; exact absurd rfl ha
    | false =>
      obtain ⟨e1, e2⟩ := dk_no hb h
      rw [h1, h2]; exact ⟨e1, e2⟩
section
variable (A : List Int → List UInt8 → List UInt8) (xs : List Int) (L : List (List Int))
end
end Go.Proofs.YthaickihoagnmaaGreatDoor
namespace Go.Proofs.YthaickihoagnmaaGreatDoor
set_option linter.unusedVariables false
set_option linter.unusedSimpArgs false
open Go.RowKit Go.Maps
def allW : List UInt8 := [97, 108, 108]
def companyW : List UInt8 := [99, 111, 109, 112, 97, 110, 121]
def weakW : List UInt8 := [119, 101, 97, 107]
def strongW : List UInt8 := [115, 116, 114, 111, 110, 103]
def summedW : List UInt8 := [115, 117, 109, 109, 101, 100]
def classicalW : List UInt8 := [99, 108, 97, 115, 115, 105, 99, 97, 108]
def atomsW : List UInt8 := [97, 116, 111, 109, 115]
def wholeW : List UInt8 := [119, 104, 111, 108, 101]
def sumW : List UInt8 := [115, 117, 109]
def commonW : List UInt8 := [99, 111, 109, 109, 111, 110]
def leftW : List UInt8 := [108, 101, 102, 116]
def noneW : List UInt8 := [110, 111, 110, 101]
def yesW : List UInt8 := [121, 101, 115]
def noW : List UInt8 := [110, 111]
def ynW (b : Bool) : List UInt8 := if b then yesW else noW
def setsW (xs : List Int) (s : Int) : List UInt8 := if atS xs s xs.length = [] then noneW else joinL (atS xs s xs.length)
def oneW (xs : List Int) (p : Int) (ok : Bool) : List UInt8 := if ok then setL (xs.getD p.toNat 0) else noneW
def plK (xs : List Int) (x : Int) : Nat → Int
  | 0 => -1
  | k + 1 => if plK xs x k < 0 then (if xs.getD k 0 = x then (k : Int) else -1) else plK xs x k
def plI (xs : List Int) (x : Int) : Int := plK xs x xs.length
theorem plK_rng (xs : List Int) (x : Int) (k : Nat) : -1 ≤ plK xs x k ∧ plK xs x k < k := by
  induction k with
  | zero => unfold plK; omega
  | succ k ih =>
    unfold plK
    split
    · split <;> omega
    · omega
theorem plK_none {xs : List Int} {x : Int} {k : Nat} : plK xs x k < 0 ↔ ∀ j, j < k → xs.getD j 0 ≠ x := by
  induction k with
  | zero => exact ⟨fun _ j hj => absurd hj (Nat.not_lt_zero _), fun _ => by unfold plK; omega⟩
  | succ k ih =>
    unfold plK
    constructor
    · intro h j hj
      split at h
      · rename_i h1
        split at h
        · omega
        · rename_i h2
          by_cases e : j = k
          · subst e; exact h2
          · exact ih.1 h1 j (by omega)
      · rename_i h1; exact absurd h h1
    · intro h
      rw [if_pos (ih.2 (fun j hj => h j (by omega))), if_neg (h k (Nat.lt_succ_self _))]
      omega
theorem plK_at {xs : List Int} {x : Int} {k : Nat} (h : ∀ j, j < k → xs.getD j 0 ≠ x) (e : xs.getD k 0 = x) {n : Nat} (hn : k < n) : plK xs x n = k := by
  induction n with
  | zero => omega
  | succ n ih =>
    unfold plK
    by_cases hk : k = n
    · subst hk
      rw [if_pos (plK_none.2 h), if_pos e]
    · have := ih (by omega)
      rw [this, if_neg (by omega)]
theorem plI_at {xs : List Int} {x : Int} {k : Nat} (hk : k < xs.length) (h : ∀ j, j < k → xs.getD j 0 ≠ x) (e : xs.getD k 0 = x) : plI xs x = k := plK_at h e hk
theorem plI_none {xs : List Int} {x : Int} (h : ∀ j, j < xs.length → xs.getD j 0 ≠ x) : plI xs x = -1 := by
  have h1 := plK_none.2 h
  have h2 := (plK_rng xs x xs.length).1
  unfold plI
  omega
theorem plI_lt (xs : List Int) (x : Int) : -1 ≤ plI xs x ∧ plI xs x < xs.length := plK_rng xs x xs.length
theorem plI_bad {xs : List Int} (h : famL xs = true) : plI xs (-1) = -1 := by
  refine plI_none (fun j hj e => ?_)
  have hm : xs.getD j 0 ∈ xs := by
    rw [List.getD_eq_getElem?_getD, List.getElem?_eq_getElem hj]
    exact List.getElem_mem hj
  have := famL_rng h _ hm
  omega
theorem atS_ne {xs : List Int} (h : famL xs = true) (s : Int) {k : Nat} (hk : k ≤ xs.length) : ∀ l ∈ atS xs s k, l ≠ [] ∧ l.length ≤ 4 := by
  induction k with
  | zero => intro l hl; cases hl
  | succ k ih =>
    intro l hl
    unfold atS at hl
    split at hl
    · rcases List.mem_append.1 hl with hl | hl
      · exact ih (by omega) l hl
      · rw [List.mem_singleton] at hl
        subst hl
        have hm : xs.getD k 0 ∈ xs := by
          rw [List.getD_eq_getElem?_getD, List.getElem?_eq_getElem (by omega)]
          exact List.getElem_mem _
        have hr := famL_rng h _ hm
        obtain ⟨y, hy⟩ : ∃ y, xs.getD k 0 = y := ⟨_, rfl⟩
        rw [hy] at hr ⊢
        exact ⟨setL_ne (by unfold okX; simp; omega), setL_len _⟩
    · exact ih (by omega) l hl
end Go.Proofs.YthaickihoagnmaaGreatDoor
namespace Go.Proofs.YthaickihoagnmaaGreatDoor
set_option linter.unusedVariables false
set_option linter.unusedSimpArgs false
open Go.RowKit Go.Maps
theorem head_list (s : ByteArray) (k : Nat) : (s.extract 0 k).data.toList = s.data.toList.take k := by
  simp [ByteArray.data_extract]
theorem IsRj.text {s : ByteArray} {ds : List (Int × Int)} (h : IsRj s.data.toList ds) : (jtR ds).length ≤ s.size ∧ bs (jtL ds) = s.extract 0 (jtR ds).length := by
  have hl := h.pre.length_le
  have hz : s.data.toList.length = s.size := rfl
  refine ⟨by omega, ?_⟩
  apply list_inj
  rw [head_list, bs_data]
  unfold jtL
  rw [if_pos h.ok]
  exact List.prefix_iff_eq_take.1 h.pre
end Go.Proofs.YthaickihoagnmaaGreatDoor
namespace Go.Proofs.YthaickihoagnmaaGreatDoor
set_option linter.unusedVariables false
set_option linter.unusedSimpArgs false
open Go.RowKit Go.Maps
def LineD (xs : List Int) (L : List (List Int)) (t : List UInt8) (w : World) (e : Ending) (w' : World) : Prop := ∃ v1 v2, e = .returned (.tuple #[.agg #[v1, v2], .string (bs t)]) ∧ GivesD xs L w w' v1 v2
theorem GivesD.fin {xs : List Int} {L : List (List Int)} {w w5 w6 W : World} {R : Nat} {v1 v2 : Value} (hg : GivesD xs L w5 w6 v1 v2) (hb : Below w.heap.size w w5) (hR : w.heap.size ≤ R) (hl : R < w5.heap.size) (hW : Below w6.heap.size w6 W) :
    GivesD xs L w ((W.setCell ⟨R, 0, none⟩ v1).setCell ⟨R, 1, none⟩ v2) v1 v2 := by
  obtain ⟨rs, hdg, hrs, hb2⟩ := hg
  exact ⟨rs, (((hdg.kept hW).put (p := ⟨R, 0, none⟩) hl).put (p := ⟨R, 1, none⟩) hl).base hb.size, hrs, ((below_onto (below_onto hb hb2) hW).setCell (p := ⟨R, 0, none⟩) hR _).setCell (p := ⟨R, 1, none⟩) hR _⟩
theorem GivesD.drew {xs : List Int} {L : List (List Int)} {w W : World} {v1 v2 : Value} (h : GivesD xs L w W v1 v2) : GivesD xs L w W.drew v1 v2 := by
  obtain ⟨rs, h1, h2, h3⟩ := h
  exact ⟨rs, h1.kept ((Below.refl _ W).drew), h2, h3.drew⟩
theorem retdt {v1 v2 : Value} {s t : ByteArray} (h : s = t) : Ending.returned (.tuple #[.agg #[v1, v2], .string s]) = .returned (.tuple #[.agg #[v1, v2], .string t]) := by rw [h]
theorem either_any (o : Bool) (s t : ByteArray) (w : World) :
    Calls Tryz.prog 55 #[.bool o, .string s, .string t] w fun e w' => e = .returned (.string (if o then s else t)) ∧ w' = w := by
  cases o with
  | true =>
    go_enter Tryz.func55, Tryz.ntmps55
    go_wp2_with fail
    go_ret
    exact ⟨rfl, rfl⟩
  | false =>
    go_enter Tryz.func55, Tryz.ntmps55
    go_wp2_with fail
    go_ret
    exact ⟨rfl, rfl⟩
theorem deed_rng {k x : Int} (h : dOk k x = true) : (0 ≤ k ∧ k ≤ 4) ∧ 0 ≤ x ∧ x ≤ 15 := by rcases dOk_iff.1 h with h | h <;> omega
theorem rdY_I64 (l : List UInt8) : I64 (rdY l) := by
  cases h : rdD l with
  | none => rw [(rdD_no h).2.1]; unfold I64; omega
  | some d =>
    obtain ⟨k, x⟩ := d
    rw [(rdD_is h).2.1]
    have := deed_rng (rdD_some h).1
    unfold I64; omega
theorem ok_if (o : Bool) : (if o then ({ data := #[111, 107] } : ByteArray) else { data := #[110, 111, 116] }) = bs (if o then okW else notW) := by cases o <;> rfl
set_option maxRecDepth 100000 in
set_option maxHeartbeats 3200000 in
theorem DeskLine_deed (d : Value) (xs : List Int) (L : List (List Int)) (s : ByteArray) (hs : s.size ≤ 1048600) (hdk : deskB xs L = true) (hrd : rdDB s.data.toList = true) (w : World) (h : DeskR w d xs L) :
    Calls Tryz.prog 14 #[d, .string s] w (LineD (liX xs L s.data.toList) (liL xs L s.data.toList) (liT (fun _ _ => []) xs L s.data.toList) w) := by
  obtain ⟨f1, f2, f3⟩ := li_deed (A := fun _ _ => []) hdk hrd
  rw [f1, f2, f3]
  have hkx : I64 (rdY s.data.toList) := rdY_I64 _
  obtain ⟨k, hk⟩ : ∃ k, rdK s.data.toList = k := ⟨_, rfl⟩
  obtain ⟨x, hx⟩ : ∃ x, rdY s.data.toList = x := ⟨_, rfl⟩
  rw [hk, hx]
  rw [hx] at hkx
  have hdk2 : okD (dkX xs L k x) (dkL xs L k x) := okD_desk (dk_desk hdk)
  obtain ⟨ok, hok⟩ : ∃ ok, dkB xs L k x = ok := ⟨_, rfl⟩
  obtain ⟨ys, hys⟩ : ∃ ys, dkX xs L k x = ys := ⟨_, rfl⟩
  obtain ⟨M, hM⟩ : ∃ M, dkL xs L k x = M := ⟨_, rfl⟩
  have hoe := ok_if ok
  obtain ⟨tw, htw⟩ : ∃ tw, (if ok then okW else notW) = tw := ⟨_, rfl⟩
  rw [htw] at hoe
  rw [hys, hM] at hdk2
  rw [hys, hM, hok, htw]
  have HOK := Lib.hid hok; have HYS := Lib.hid hys; have HMM := Lib.hid hM; have HKD := Lib.hid hdk2; have HOE := Lib.hid hoe
  clear hdk2 hok hys hM hoe htw
  have hdd := h
  obtain ⟨a, c, b, c2, rfl, _⟩ := h.parts
  have q1 := alloc_below w (.cells #[.slice a xs.length c, .slice b L.length c2] 31)
  have q2 := alloc_below (w.alloc (.cells #[.slice a xs.length c, .slice b L.length c2] 31)) (.cells #[.slice none 0 0, .slice none 0 0] 31)
  have HV := Lib.hid ((VarD.new hdd).kept q2)
  have hbr := Blk2.new (w.alloc (.cells #[.slice a xs.length c, .slice b L.length c2] 31)) 31 (.slice none 0 0) (.slice none 0 0)
  rw [alloc_size] at hbr
  have HBR := Lib.hid hbr
  have HB := Lib.hid (below_onto q1 q2)
  obtain ⟨w2, hw2⟩ : ∃ w2, (w.alloc (.cells #[.slice a xs.length c, .slice b L.length c2] 31)).alloc (.cells #[.slice none 0 0, .slice none 0 0] 31) = w2 := ⟨_, rfl⟩
  rw [hw2] at HV HBR HB
  have hd0 := HV.out.blk.cell.1; have hd1 := HV.out.blk.cell.2
  have HDK := Lib.hid hdk; have HRD := Lib.hid hrd; have HKK := Lib.hid hk; have HXX := Lib.hid hx; have HX := Lib.hid hkx
  clear h hdd q1 q2 hbr hdk hrd hk hx hkx f1 f2 f3
  go_enter Tryz.func14, Tryz.ntmps14
  go_wp2_with fail
  clear hw2
  refine (DeskOk_any _ xs L _ HV.out.d).mono ?_
  rintro e w3 ⟨rfl, hb⟩
  rw [HDK.out]
  replace HV := Lib.hid (HV.out.kept hb); replace HBR := Lib.hid (HBR.out.kept hb HBR.out.lt); replace HB := Lib.hid (below_onto HB.out hb)
  clear hb hd0 hd1
  go_wp2_with fail
  refine (ReadDeed_any s (by omega) _).mono ?_
  rintro e w4 ⟨rfl, hb⟩
  rw [HKK.out, HXX.out, HRD.out]
  have hal := alloc_below w4 (.cells #[.int .i64 k, .int .i64 x] 39)
  have HE := Lib.hid (Blk2.new w4 39 (.int .i64 k) (.int .i64 x))
  replace hb := below_onto hb hal
  replace HV := Lib.hid (HV.out.kept hb); replace HBR := Lib.hid (HBR.out.kept hb HBR.out.lt); replace HB := Lib.hid (below_onto HB.out hb)
  obtain ⟨w5, hw5⟩ : ∃ w5, w4.alloc (.cells #[.int .i64 k, .int .i64 x] 39) = w5 := ⟨_, rfl⟩
  obtain ⟨E, hE⟩ : ∃ E, w4.heap.size = E := ⟨_, rfl⟩
  rw [hw5] at HV HBR HB HE
  rw [hE] at HE
  clear hb hal
  have hd0 := HV.out.blk.cell.1; have hd1 := HV.out.blk.cell.2; have he0 := HE.out.cell.1; have he1 := HE.out.cell.2
  go_wp2_with fail
  clear hw5 hE
  have HLT := Lib.hid (show w.heap.size + 1 < w5.heap.size from HBR.out.lt)
  refine (DeskDo_any _ xs L k x HX.out _ HV.out.d).mono ?_
  rintro e w6 ⟨v1, v2, rfl, hg⟩
  rw [HOK.out]
  rw [HYS.out, HMM.out] at hg
  obtain ⟨p1, e1, p2, e2, rfl, rfl, hd, _⟩ := HKD.out.gives hg
  have HG := Lib.hid hg
  have hal := alloc_below w6 (.cells #[.slice p1 ys.length e1, .slice p2 M.length e2] 31)
  have HA := Lib.hid (Blk2.new w6 31 (.slice p1 ys.length e1) (.slice p2 M.length e2))
  have HAL := Lib.hid hal
  replace HBR := Lib.hid (HBR.out.kept (below_onto hg.below hal) HBR.out.lt)
  have HSZ := Lib.hid (show w.heap.size + 1 < w5.heap.size ∧ w5.heap.size ≤ w6.heap.size from ⟨HLT.out, hg.below.size⟩)
  obtain ⟨w7, hw7⟩ : ∃ w7, w6.alloc (.cells #[.slice p1 ys.length e1, .slice p2 M.length e2] 31) = w7 := ⟨_, rfl⟩
  obtain ⟨A, hA⟩ : ∃ A, w6.heap.size = A := ⟨_, rfl⟩
  rw [hw7] at HA HAL HBR
  rw [hA] at HA
  have hn1 : ¬ A = w.heap.size + 1 := by have := HSZ.out; omega
  have HN1 := Lib.hid hn1
  have hR0 := HBR.out.cell.1; have hR1 := HBR.out.cell.2; have hR2 := HBR.out.frozen 0; have hR3 := HBR.out.frozen 1
  have HKS := Lib.hid (show ∀ W : World, W.heap[A]? = w7.heap[A]? → (W.cell? ⟨A, 0, none⟩ = some (.slice p1 ys.length e1) ∧ W.cell? ⟨A, 1, none⟩ = some (.slice p2 M.length e2)) from fun W hW => Blk2.cell (show Blk2 W A 31 _ _ from hW.trans HA.out))
  clear hg hd hal hd0 hd1 he0 he1
  go_upto_region 7 with fail
  clear hw7 hA
  go_region_held3 (fun W => W.cell? ⟨A, 0, none⟩ = some (.slice p1 ys.length e1) ∧ W.cell? ⟨A, 1, none⟩ = some (.slice p2 M.length e2))
    (first | exact HKS.out _ rfl | exact HKS.out _ ((set_blk HN1.out).trans (set_blk HN1.out)) | go_keep)
    (first | (go_at_call 55; refine (either_any ok _ _ _).mono ?_; rintro e w8 ⟨rfl, rfl⟩; rw [HOE.out]))
  all_goals
    go_wp2_with fail
    refine bodyPost_ret (results_desk rfl _ _ (w.heap.size + 1) ((HBR.out.set0 _).set1 _) rfl rfl (by kernel_rfl)) rfl ?_
    refine ⟨_, _, rfl, ?_⟩
    first
      | exact HG.out.fin HB.out (Nat.le_succ _) HSZ.out.1 HAL.out
      | exact (HG.out.fin HB.out (Nat.le_succ _) HSZ.out.1 HAL.out).drew
end Go.Proofs.YthaickihoagnmaaGreatDoor
namespace Go.Proofs.YthaickihoagnmaaGreatDoor
open Go.RowKit
def TabW (w : World) : Prop := TabAt 2 Lib.deBruijn64tab w
theorem TabW.below {w w' : World} (h : TabW w) (hb : Below w.heap.size w w') : TabW w' := fun j hj =>
  (hb.cell (p := ⟨2, j, none⟩) (World.block_lt_of_cell? w _ (h j hj))).trans (h j hj)
set_option maxHeartbeats 1600000 in
theorem tz64_core (x k idx : Nat) (w : World) (hx0 : ((x : Int) == 0) = false)
    (key : IntKind.u64.wrap (bits BinOp.and IntKind.u64 (x : Int) (IntKind.u64.wrap (-(x : Int))) * 285870213051353865) / 288230376151711744 = (idx : Int))
    (hi : idx < 64) (hk : k < 64) (hcell : w.cell? ⟨2, idx, none⟩ = some (.int .u8 k)) :
    Calls Tryz.prog 258 #[.int .u64 x] w fun e w' => e = .returned (.int .i64 k) ∧ w = w' := by
  go_enter Tryz.func258, Tryz.ntmps258
  go_wp2_with (simp only [key])
  go_ret
  exact ⟨rfl, rfl⟩
def lowOk (X : Nat) : Bool := X == 0 || (X.testBit (Lib.ctz 64 X) && (List.range (Lib.ctz 64 X)).all (fun i => !X.testBit i) && decide (Lib.ctz 64 X < 7))
theorem lowOk_all : (List.range 128).all lowOk = true := by kernel_rfl
theorem ctz_at {X k : Nat} (hX : X < 128) (hk : X.testBit k = true) (hl : ∀ i, i < k → X.testBit i = false) : Lib.ctz 64 X = k ∧ k < 7 := by
  have h0 : X ≠ 0 := by intro e; subst e; simp at hk
  have h := lowOk_all
  rw [List.all_eq_true] at h
  have h2 := h X (List.mem_range.2 hX)
  unfold lowOk at h2
  rw [Bool.or_eq_true, Bool.and_eq_true, Bool.and_eq_true, decide_eq_true_eq, List.all_eq_true] at h2
  rcases h2 with h2 | ⟨⟨h3, h4⟩, h5⟩
  · exact absurd (beq_iff_eq.1 h2) h0
  · rcases Nat.lt_trichotomy (Lib.ctz 64 X) k with h6 | h6 | h6
    · rw [hl _ h6] at h3; cases h3
    · omega
    · have := h4 k (List.mem_range.2 h6); rw [hk] at this; cases this
theorem tz64_any (x : Nat) (h0 : x ≠ 0) (hx : x < 128) (w : World) (hT : TabW w) :
    Calls Tryz.prog 258 #[.int .u64 x] w fun e w' => e = .returned (.int .i64 (Lib.ctz 64 x)) ∧ w = w' := by
  have hx' : x < 18446744073709551616 := by omega
  obtain ⟨hlow, hk⟩ := Lib.lowest_bit 64 x h0 hx'
  obtain ⟨hi, htab⟩ := Lib.deBruijn64_at _ hk
  have hcell := hT _ hi
  rw [htab] at hcell
  exact tz64_core x _ _ w (by rw [beq_eq_false_iff_ne]; omega) (tz64_key x _ hx' h0 hlow) hi hk hcell
set_option maxHeartbeats 800000 in
theorem tz_any (x : Nat) (h0 : x ≠ 0) (hx : x < 128) (w : World) (hT : TabW w) :
    Calls Tryz.prog 252 #[.int .u64 x] w fun e w' => e = .returned (.int .i64 (Lib.ctz 64 x)) ∧ w = w' := by
  have HT := Lib.hid hT; clear hT
  go_enter Tryz.func252, Tryz.ntmps252
  go_wp2_with fail
  refine (tz64_any x h0 hx _ HT.out).mono ?_
  rintro e w' ⟨rfl, rfl⟩
  go_wp2_with fail
  go_ret
  exact ⟨rfl, rfl⟩
def firstI (x : Int) : Int := if x = 0 then -1 else (Lib.ctz 64 x.toNat : Nat)
set_option maxHeartbeats 800000 in
theorem first_any (x : Nat) (hx : x < 128) (w : World) (hT : TabW w) :
    Calls Tryz.prog 238 #[.int .i64 x] w fun e w' => e = .returned (.tuple #[.int .i64 (firstI x), .bool ((x : Int) != 0)]) ∧ w = w' := by
  have HT := Lib.hid hT; clear hT
  by_cases h0 : x = 0
  · subst h0
    go_enter Tryz.func238, Tryz.ntmps238
    go_wp2_with fail
    go_ret2
    exact ⟨rfl, rfl⟩
  · have hx0 : ((x : Int) == 0) = false := by rw [beq_eq_false_iff_ne]; omega
    have HF := Lib.hid (show firstI x = (Lib.ctz 64 x : Nat) by unfold firstI; rw [if_neg (by omega)]; rfl)
    have HB := Lib.hid (show ((x : Int) != 0) = true by rw [bne, hx0]; rfl)
    go_enter Tryz.func238, Tryz.ntmps238
    go_wp2_with fail
    refine (tz_any x h0 hx _ HT.out).mono ?_
    rintro e w' ⟨rfl, rfl⟩
    go_wp2_with fail
    go_ret2
    exact ⟨by rw [HF.out, HB.out]; rfl, rfl⟩
end Go.Proofs.YthaickihoagnmaaGreatDoor
