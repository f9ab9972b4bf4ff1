import Derived.Test.YtidcfcjmjgcfkaaOnceB
import Derived.Deep.RegionHeld3
namespace Go.Proofs.Ytidcfcjmjgcfkaa
open Go.RowKit

set_option maxHeartbeats 1600000 in
/-- the function that is handed to Do: it lays what was found -/
theorem atomsC_any (b p g n cap : Nat) (f : Nat → Int) (d st x0 : Int) (hn : n ≤ 7) (w : World) (h : AW w b (.slice (some ⟨g, 0, none⟩) n cap) d st x0)
    (hp : w.cell? ⟨p, 0, none⟩ = some (.pointer (some ⟨b, 0, none⟩))) (hr : Row w g 0 n f) :
    Calls Try.prog 58 #[.pointer (some ⟨p, 0, none⟩)] w (OnceEnd b (.slice (some ⟨g, 0, none⟩) n cap) d st (atomsI n f) w) := by
  have hE : ∀ (args : Array Value) (w : World), Sem.run Try.prog (callFunc 60 args) w = .ok (.enter 60 args) w := enters_of Try.func60 (by kernel_rfl) rfl
  have c0 := h.c0; have c4 := h.c4; have f4 := h.f4
  have K1 := Lib.hid (show ∀ (W : World) (v : Value), W.cell? ⟨p, 0, none⟩ = some (.pointer (some ⟨b, 0, none⟩)) → (W.setCell ⟨b, 4, none⟩ v).cell? ⟨p, 0, none⟩ = some (.pointer (some ⟨b, 0, none⟩)) from
    fun W v h => (World.cell?_setCell_other _ _ _ _ (by simp)).trans h)
  have K2 := Lib.hid (show ∀ (W : World) (v : Value), W.cell? ⟨b, 0, none⟩ = some (.slice (some ⟨g, 0, none⟩) n cap) → (W.setCell ⟨b, 4, none⟩ v).cell? ⟨b, 0, none⟩ = some (.slice (some ⟨g, 0, none⟩) n cap) from
    fun W v h => (World.cell?_setCell_other _ _ _ _ (by simp)).trans h)
  have H := Lib.hid h; have HE := Lib.hid hE; have HR := Lib.hid hr; clear h hE hr
  have hmf : ∀ (fn : Fn) (first cap : Array Value) (w : World), (Instr.makeFunc fn first cap).run Try.prog w = .ok (.func fn first cap) w := fun _ _ _ _ => rfl
  go_enter Try.func58, Try.ntmps58
  go_wp2_with fail
  go_region_held3 (fun w' => w'.cell? ⟨p, 0, none⟩ = some (.pointer (some ⟨b, 0, none⟩)) ∧ w'.cell? ⟨b, 0, none⟩ = some (.slice (some ⟨g, 0, none⟩) n cap)) (first | go_keep | exact ⟨K1.out _ _ (by simp [*]), K2.out _ _ (by simp [*])⟩)
    (first | (go_at_call 59; refine (thoseM_any _ _ _ _ _ (atomB f) hn _ HE.out ?_).mono ?_; ((rintro wr b hb ⟨m, rfl⟩; exact atom_any g 0 n cap b f hn hb _ (HR.out.drewN m))); rintro e w' ⟨rfl, m, rfl⟩))
  go_wp2_with fail
  go_end0
  exact ⟨rfl, (H.out.drewN _).setX _, ((Only.refl b w).drewN _).setCell 4 _⟩
/-- a world with its atoms, in the block b; its things lie in the block g -/
def AtomW (w : World) (b g n cap : Nat) (f : Nat → Int) : Prop :=
  (∃ d x, AW w b (.slice (some ⟨g, 0, none⟩) n cap) d 0 x ∧ (d = 0 ∨ (d = 1 ∧ x = atomsI n f))) ∧ Row w g 0 n f ∧ g < w.heap.size ∧ g ≠ b

theorem AtomW.below {w w' : World} {b g n cap : Nat} {f : Nat → Int} (h : AtomW w b g n cap f) (hb : Below w.heap.size w w') : AtomW w' b g n cap f := by
  obtain ⟨⟨d, x, h1, h2⟩, h3, h4, h5⟩ := h
  exact ⟨⟨d, x, h1.below hb h1.lt, h2⟩, h3.below hb h4, Nat.lt_of_lt_of_le h4 hb.size, h5⟩

theorem AtomW.lt {w : World} {b g n cap : Nat} {f : Nat → Int} (h : AtomW w b g n cap f) : b < w.heap.size := by
  obtain ⟨⟨d, x, h1, h2⟩, _⟩ := h; exact h1.lt

theorem AtomW.row {w : World} {b g n cap : Nat} {f : Nat → Int} (h : AtomW w b g n cap f) : Row w g 0 n f := h.2.1

theorem AtomW.c0 {w : World} {b g n cap : Nat} {f : Nat → Int} (h : AtomW w b g n cap f) : w.cell? ⟨b, 0, none⟩ = some (.slice (some ⟨g, 0, none⟩) n cap) := by
  obtain ⟨⟨d, x, h1, h2⟩, _⟩ := h; exact h1.c0

/-- what a call leaves that asks for the atoms -/
def AtomEnd (b g n cap : Nat) (f : Nat → Int) (v : Value) (w : World) (e : Ending) (w' : World) : Prop :=
  e = .returned v ∧ AtomW w' b g n cap f ∧ Only b w w'

theorem one_cell (w : World) (v : Value) (t : TypeId) :
    (w.alloc (.cells #[v] t)).cell? ⟨w.heap.size, 0, none⟩ = some v ∧ Below w.heap.size w (w.alloc (.cells #[v] t)) :=
  ⟨(World.rowIs_alloc w #[v] t (fun _ => v) (by intro i hi; match i, hi with | 0, _ => rfl)).cell (Nat.zero_lt_one), (Below.refl _ _).alloc (Nat.le_refl _) _⟩

set_option maxHeartbeats 1600000 in
theorem atoms_any (b g n cap : Nat) (f : Nat → Int) (hn : n ≤ 7) (w : World) (h : AtomW w b g n cap f) :
    Calls Try.prog 48 #[.pointer (some ⟨b, 0, none⟩)] w (AtomEnd b g n cap f (.int .i64 (atomsI n f)) w) := by
  have hE : ∀ (args : Array Value) (w : World), Sem.run Try.prog (callFunc 58 args) w = .ok (.enter 58 args) w := enters_of Try.func58 (by kernel_rfl) rfl
  have hmf : ∀ (fn : Fn) (first cap : Array Value) (w : World), (Instr.makeFunc fn first cap).run Try.prog w = .ok (.func fn first cap) w := fun _ _ _ _ => rfl
  obtain ⟨⟨d, x, haw, hd⟩, hr, hg, hgb⟩ := h
  have hlt := haw.lt
  obtain ⟨hc1, hbel⟩ := one_cell w (.pointer (some ⟨b, 0, none⟩)) 36
  replace haw := haw.below hbel hlt
  replace hr := hr.below hbel hg
  have hg2 := Nat.lt_of_lt_of_le hg hbel.size
  have o1 : Only b w (w.alloc (.cells #[.pointer (some ⟨b, 0, none⟩)] 36)) := Only.of_below hbel
  have hpb : w.heap.size ≠ b := by omega
  have C1 := Lib.hid hc1; have H := Lib.hid haw; have HR := Lib.hid hr; have HE := Lib.hid hE; have HO := Lib.hid o1
  have CP := Lib.hid (show ∀ W, Only b (w.alloc (.cells #[.pointer (some ⟨b, 0, none⟩)] 36)) W → W.cell? ⟨w.heap.size, 0, none⟩ = some (.pointer (some ⟨b, 0, none⟩)) from
    fun W o => (World.cell?_of_block (o.block w.heap.size (by show _ < (w.heap.push _).size; rw [Array.size_push]; omega) hpb)).trans hc1)
  have RP := Lib.hid (show ∀ W, Only b (w.alloc (.cells #[.pointer (some ⟨b, 0, none⟩)] 36)) W → Row W g 0 n f ∧ g < W.heap.size from
    fun W o => ⟨hr.only o hg2 hgb, Nat.lt_of_lt_of_le hg2 o.size⟩)
  clear hc1 haw hr hE o1 hbel
  rcases hd with rfl | ⟨rfl, rfl⟩
  · go_enter Try.func48, Try.ntmps48
    go_wp2_with fail
    refine (once_first _ b _ _ x (atomsI n f) _ H.out HE.out ?_).mono ?_
    · exact fun w1 h1 o1 => atomsC_any b _ g n cap f 0 1 x hn w1 h1 (CP.out _ o1) (RP.out _ o1).1
    · rintro e w2 ⟨rfl, h2, o2⟩
      have hcp := CP.out _ o2
      have h4 := h2.c4
      have H2 := Lib.hid h2; have O2 := Lib.hid o2; clear h2 o2
      go_wp2_with fail
      go_ret
      exact ⟨rfl, ⟨⟨1, _, H2.out, .inr ⟨rfl, rfl⟩⟩, (RP.out _ O2.out).1, (RP.out _ O2.out).2, hgb⟩, HO.out.trans O2.out⟩
  · go_enter Try.func48, Try.ntmps48
    go_wp2_with fail
    refine (once_done b _ _ _ _ H.out).mono ?_
    rintro e w2 ⟨rfl, h2, o2⟩
    have hcp := CP.out _ o2
    have h4 := h2.c4
    have H2 := Lib.hid h2; have O2 := Lib.hid o2; clear h2 o2
    go_wp2_with fail
    go_ret
    exact ⟨rfl, ⟨⟨1, _, H2.out, .inr ⟨rfl, rfl⟩⟩, (RP.out _ O2.out).1, (RP.out _ O2.out).2, hgb⟩, HO.out.trans O2.out⟩
end Go.Proofs.Ytidcfcjmjgcfkaa
