import Derived.Test.YthaickihoagnmaaGreatDoorTxFour
import Derived.Test.YthaickihoagnmaaGreatDoorTxJour
import Derived.Test.YthaickihoagnmaaGreatDoorSayOne
namespace Go.Proofs.YthaickihoagnmaaGreatDoor
set_option linter.unusedVariables false
set_option linter.unusedSimpArgs false
open Go.RowKit Go.Maps

/-- a text is drawn -/
def TextDr (w : World) (e : Ending) (w' : World) : Prop := ∃ s : ByteArray, e = .returned (.string s) ∧ s.size ≤ 100 ∧ Below w.heap.size w w'

set_option maxRecDepth 100000 in
set_option maxHeartbeats 1600000 in
theorem DrawReadJournal_any (a : Option Addr) (n cap : Nat) (w : World) (h : BytesIn w a n cap) :
    Calls Tryz.prog 8 #[.slice a n cap] w (TextDr w) := by
  have H := Lib.hid h; clear h
  go_enter Tryz.func8, Tryz.ntmps8
  go_wp2_with fail
  refine (open_any _ _ _ _ H.out).mono ?_
  rintro e w1 ⟨rfl, hb1, hr1⟩
  have HB1 := Lib.hid hb1; have HR1 := Lib.hid hr1; clear hb1 hr1
  have hrbw : w.heap.size < w1.heap.size := HR1.out.1
  go_wp2_with fail
  refine (written_any _ 0 (by omega) _ HR1.out).mono ?_
  rintro e w2 ⟨v, es, rfl, hel, h64, hown, ho, hr⟩
  obtain ⟨a', c', he, hd⟩ := hown.dds h64 (by omega)
  subst he
  have HO := Lib.hid ho; have HR := Lib.hid hr; have HD := Lib.hid hd
  clear ho hr hown h64 hd
  go_wp2_with fail
  refine (specJournalText_any a' es c' (by omega) _ HD.out).mono ?_
  rintro e w3 ⟨rfl, hb⟩
  replace HO := Lib.hid (HO.out.trans (Only.of_below hb)); replace HR := Lib.hid (HR.out.below hb)
  have hz : (bs (jtL es)).size ≤ 60 := by
    rw [bs_size]
    unfold jtL
    split
    · exact Nat.le_trans (jtR_len es) (by omega)
    · simp
  obtain ⟨t, ht⟩ : ∃ t, bs (jtL es) = t := ⟨_, rfl⟩
  rw [ht] at hz ⊢
  clear hb ht HD
  go_wp2_with fail
  refine (pick_any _ _ 3 (by omega) _ HR.out).mono ?_
  rintro e w4 ⟨q, rfl, hq, ho, hr⟩
  replace HO := Lib.hid (HO.out.trans ho); replace HR := Lib.hid hr
  have hq3 : q < 3 := by omega
  clear ho hr hq
  rcases (show q = 0 ∨ q = 1 ∨ q = 2 by omega) with rfl | rfl | rfl
  · go_wp2_with fail
    refine (spoil_any _ _ (by omega) t (by omega) _ HR.out).mono ?_
    rintro e w5 ⟨s, rfl, hs, ho⟩
    replace HO := Lib.hid (HO.out.trans ho); clear ho
    go_wp2_with fail
    go_ret
    exact ⟨s, rfl, by omega, HB1.out.trans (HO.out.below (Nat.le_refl _) HB1.out.size)⟩
  · go_wp2_with fail
    refine (pick_any _ _ _ (by omega) _ HR.out).mono ?_
    rintro e w5 ⟨y, rfl, hy, ho, hr⟩
    replace HO := Lib.hid (HO.out.trans ho)
    have hyl : y ≤ t.size := by omega
    have hsl := fun W => headSl2 t y hyl W
    have hex : (t.extract 0 y).size ≤ 100 := by rw [ByteArray.size_extract]; omega
    clear ho hr hy
    go_wp2_with fail
    go_ret
    exact ⟨_, rfl, hex, HB1.out.trans (HO.out.below (Nat.le_refl _) HB1.out.size)⟩
  · go_wp2_with fail
    go_ret
    exact ⟨t, rfl, by omega, HB1.out.trans (HO.out.below (Nat.le_refl _) HB1.out.size)⟩
end Go.Proofs.YthaickihoagnmaaGreatDoor
