import Derived.Test.YthbancphegnpdaaTxAG
import Derived.Test.YthbancphegnpdaaLawTD
namespace Go.Proofs.Ythbancphegnpdaa
set_option linter.unusedVariables false
set_option linter.unusedSimpArgs false
open Go.RowKit Go.Maps

def DeedsIn (w : World) (e : Ending) (w' : World) : Prop :=
  ∃ (a : Option Addr) (c : Nat) (ds : List (Int × Int)), e = .returned (.slice a ds.length c) ∧ ds.length ≤ 6 ∧ Dds w' a ds ∧ Below w.heap.size w w'

set_option maxRecDepth 100000 in
set_option maxHeartbeats 1600000 in
theorem DrawJournalText_any (a : Option Addr) (n cap : Nat) (w : World) (h : BytesIn w a n cap) :
    Calls Try.prog 27 #[.slice a n cap] w (DeedsIn w) := by
  obtain ⟨i0, hii, hz0, hz1, hz2⟩ := info_deed
  have H := Lib.hid h; clear h
  go_enter Try.func27, Try.ntmps27
  go_wp2_with fail
  refine (open_any _ _ _ _ H.out).mono ?_
  rintro e w1 ⟨rfl, hb1, hr1⟩
  have HB1 := Lib.hid hb1; have HR1 := Lib.hid hr1; clear hb1 hr1
  have hrbw : w.heap.size < w1.heap.size := HR1.out.1
  go_wp2_with fail
  refine (written_any _ 0 (by omega) _ HR1.out).mono ?_
  rintro e w2 ⟨v, es, rfl, hel, h64, hown, ho, hr⟩
  have HO := Lib.hid ho; have HR := Lib.hid hr; have HOW := Lib.hid hown; have H64 := Lib.hid h64
  clear ho hr hown h64
  obtain ⟨av, cv, rfl⟩ := HOW.out.slice
  go_wp2_with fail
  refine (odd_any _ _ 12 (by omega) (by omega) (by omega) _ HR.out).mono ?_
  rintro e w3 ⟨b, rfl, ho, hr⟩
  replace HO := Lib.hid (HO.out.trans ho)
  have HOW3 := Lib.hid (HOW.out.only ho hrbw)
  have HB3 := Lib.hid (HB1.out.trans (HO.out.below (Nat.le_refl _) HB1.out.size))
  clear ho hr HR HOW
  cases b with
  | false =>
    go_wp2_with fail
    go_ret
    obtain ⟨a', c', he, hd⟩ := HOW3.out.dds H64.out (by omega)
    injection he with h1 h2 h3
    subst h1; subst h3
    exact ⟨_, _, es, rfl, by omega, hd, HB3.out⟩
  | true =>
    have k1 := Lib.hid (new_deed w3 9 0)
    have k2 := Lib.hid (one_deed 9 0)
    have k3 := Lib.hid (info_deeds_len hel).1
    have k4 := Lib.hid (info_deeds_len hel).2
    have k5 : Hid (w1.heap.size ≤ (w3.alloc (.cells #[.int .i64 9, .int .i64 0] 31)).heap.size) := Lib.hid (by rw [alloc_size]; have := HO.out.size; omega)
    have HOA : Hid ((w3.alloc (.cells #[.int .i64 9, .int .i64 0] 31)).ownsRow w1.heap.size 31 2 (.slice av es.length cv) es.length (cellsD es)) := Lib.hid (World.ownsRow.alloc HOW3.out _)
    go_wp2_with (at_builtin; refine wpList_append_own _ rfl (.tmp 11) (.tmp 13) 36 rfl w1.heap.size 31 i0 (.agg #[.int .i64 0, .int .i64 0]) 2 16 Try.underlying36 hii hz0 hz1 hz2 rfl (by decide) _ _ _ rfl HOA.out ⟨w3.heap.size, 0, none⟩ 1 1 [.int .i64 9, .int .i64 0] rfl rfl k1.out k2.out k3.out k4.out k5.out ?_)
    intro v8 w8 hown8 hgrow8 _
    have hb8 : Below w1.heap.size w3 w8 := ((Below.refl w1.heap.size w3).alloc HO.out.size _).grown hgrow8 k5.out (fun g hg => (World.ownsRow.lt HOA.out g hg).1)
    have HOW8 := Lib.hid (OwnD.snoc (d := (9, 0)) hown8)
    have HB8 := Lib.hid (HB3.out.trans (hb8.mono HB1.out.size))
    obtain ⟨g8, c8, rfl⟩ := ownsRow_succ hown8
    clear hown8 hgrow8 hb8 k1 k2 k3 k4 k5 HOA
    go_wp2_with fail
    go_ret
    obtain ⟨a', c', he, hd⟩ := HOW8.out.dds (H64.out.snoc (by unfold I64; omega) (by unfold I64; omega)) (by simp; omega)
    injection he with h1 h2 h3
    subst h1; subst h3
    exact ⟨some ⟨g8, 0, none⟩, c8, es ++ [(9, 0)], (by rw [← h2]; rfl), by simp; omega, hd, HB8.out⟩
end Go.Proofs.Ythbancphegnpdaa
