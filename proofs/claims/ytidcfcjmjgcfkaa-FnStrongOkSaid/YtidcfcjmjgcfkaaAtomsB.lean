import Derived.Test.YtidcfcjmjgcfkaaAtomsA
namespace Go.Proofs.Ytidcfcjmjgcfkaa
open Go.RowKit

theorem AtomW.drewN {w : World} {b g n cap : Nat} {f : Nat → Int} (h : AtomW w b g n cap f) (m : Nat) : AtomW (w.drewN m) b g n cap f := h.below (below_drewN (Below.refl _ _) m)

/-- the atoms of a thing -/
def ainI (n : Nat) (f : Nat → Int) (a : Nat) : Int := andI (f a) (atomsI n f)

set_option maxHeartbeats 1600000 in
theorem atomsIn_any (b g n cap : Nat) (f : Nat → Int) (a : Nat) (hn : n ≤ 7) (ha : a < n) (w : World) (h : AtomW w b g n cap f) :
    Calls Try.prog 36 #[.pointer (some ⟨b, 0, none⟩), .int .i64 a] w (AtomEnd b g n cap f (.int .i64 (ainI n f a)) w) := by
  have c0 := h.c0
  have ca : w.cell? ⟨g, a, none⟩ = some (.int .i64 (f a)) := by have := h.row a ha; rwa [Nat.zero_add] at this
  have hai : (a : Int) < (n : Int) := by omega
  have ha0 : (0 : Int) ≤ (a : Int) := by omega
  have HA := Lib.hid h; clear h
  go_enter Try.func36, Try.ntmps36
  go_wp2_with fail
  go_region_held3 (fun w' => w'.cell? ⟨b, 0, none⟩ = some (.slice (some ⟨g, 0, none⟩) n cap) ∧ w'.cell? ⟨g, a, none⟩ = some (.int .i64 (f a))) (first | exact ⟨HA2.out.c0, by have := HA2.out.row a ha; rwa [Nat.zero_add] at this⟩ | go_keep)
    (first | (go_at_call 48; refine (atoms_any b g n cap f hn _ (by first | exact HA.out | exact HA.out.drewN _)).mono ?_; rintro e w2 ⟨rfl, h2, o2⟩; have HA2 := Lib.hid h2; clear h2))
  go_wp2_with fail
  go_ret
  exact ⟨rfl, by first | exact HA2.out | exact HA2.out.drewN _, by first | exact ((Only.refl b w).drewN _).trans o2 | exact (((Only.refl b w).drewN _).trans o2).drewN _⟩

def madeC (n : Nat) (f : Nat → Int) (a c : Nat) : Bool := hasB (f c) a == withinB (ainI n f a) (ainI n f c)

set_option maxHeartbeats 3200000 in
theorem madeC_any (b p g n cap : Nat) (f : Nat → Int) (a c : Nat) (hn : n ≤ 7) (ha : a < n) (hc : c < n) (w : World) (h : AtomW w b g n cap f)
    (hp : w.cell? ⟨p, 0, none⟩ = some (.pointer (some ⟨b, 0, none⟩))) (hpb : p ≠ b) (hpl : p < w.heap.size) :
    Calls Try.prog 33 #[.int .i64 a, .int .i64 c, .pointer (some ⟨p, 0, none⟩)] w (AtomEnd b g n cap f (.bool (madeC n f a c)) w) := by
  have c0 := h.c0
  have HA := Lib.hid h; clear h
  have HO := Lib.hid (Only.refl b w)
  have HP := Lib.hid (show ∀ W, Only b w W → W.cell? ⟨p, 0, none⟩ = some (.pointer (some ⟨b, 0, none⟩)) from fun W o => (World.cell?_of_block (o.block p hpl hpb)).trans hp)
  go_enter Try.func33, Try.ntmps33
  go_wp2_with fail
  go_region_held3 (fun w' => w'.cell? ⟨p, 0, none⟩ = some (.pointer (some ⟨b, 0, none⟩)) ∧ w'.cell? ⟨b, 0, none⟩ = some (.slice (some ⟨g, 0, none⟩) n cap)) (first | exact ⟨HP.out _ HO.out, HA.out.c0⟩ | go_keep)
    (first | (go_at_call 36; refine (atomsIn_any b g n cap f _ hn (by assumption) _ (by first | exact HA.out | exact HA.out.drewN _)).mono ?_; rintro e w2 ⟨rfl, h2, o2⟩; replace HA := Lib.hid h2; replace HO := Lib.hid (by first | exact HO.out.trans o2 | exact (HO.out.drewN _).trans o2 : Only b w w2); clear h2 o2) | (go_at_call 34; refine (part_any g 0 n cap a c (f c) hc (by omega) _ (by first | exact HA.out.row c hc | exact (HA.out.drewN _).row c hc)).mono ?_; rintro e w2 ⟨rfl, rfl⟩) | (go_at_call 35; refine (within_any _ _ _).mono ?_; rintro e w2 ⟨rfl, rfl⟩))
  all_goals
    go_wp2_with fail
    go_ret
    exact ⟨rfl, by first | exact HA.out | exact HA.out.drewN _, by first | exact HO.out | exact HO.out.drewN _⟩
end Go.Proofs.Ytidcfcjmjgcfkaa
