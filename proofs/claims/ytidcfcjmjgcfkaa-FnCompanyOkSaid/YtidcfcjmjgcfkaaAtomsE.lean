import Derived.Test.YtidcfcjmjgcfkaaAtomsD
namespace Go.Proofs.Ytidcfcjmjgcfkaa
open Go.RowKit

set_option maxHeartbeats 1600000 in
theorem MadeOfAtoms_any (a : Option Addr) (n cap : Nat) (f : Nat → Int) (w : World) (hi : Ints w a n f) :
    Calls Try.prog 17 #[.slice a n cap] w fun e w' => e = .returned (.bool (madeB n f)) ∧ Below w.heap.size w w' := by
  have HI := Lib.hid hi; clear hi
  have hnot : ∀ (x : Bool) (w : World), (Op.unary .not (.bool x)).run Try.prog w = .ok (.bool (!x)) w := fun _ _ => rfl
  have hmf : ∀ (fn : Fn) (first cap : Array Value) (w : World), (Instr.makeFunc fn first cap).run Try.prog w = .ok (.func fn first cap) w := fun _ _ _ _ => rfl
  have HE := Lib.hid (enters_of (P := Try.prog) Try.func33 (by kernel_rfl) rfl)
  go_enter Try.func17, Try.ntmps17
  go_wp2_with fail
  refine (atomWorld0 a n cap f _ HI.out).mono ?_
  rintro e w1 ⟨hbel, ⟨hg, b, g, rfl, haw, hbb⟩ | ⟨hg, rfl⟩⟩
  · have h7 := (worldB_7 hg).2
    obtain ⟨hp, hb1⟩ := one_cell w1 (.pointer (some ⟨b, 0, none⟩)) 36
    have hlt := haw.lt
    have haw2 := haw.below hb1
    have hbel2 := below_onto hbel hb1
    have hfin : madeB n f = eachB n (madeC n f) := by unfold madeB; rw [hg]; rfl
    have h0 := haw2.c0
    have hpl : w1.heap.size < (w1.alloc (.cells #[.pointer (some ⟨b, 0, none⟩)] 36)).heap.size := by show _ < (w1.heap.push _).size; rw [Array.size_push]; omega
    have HA := Lib.hid haw2; have HBel := Lib.hid hbel2; have HF := Lib.hid hfin; have HP := Lib.hid hp; have HPL := Lib.hid hpl
    clear haw hg hbel hbel2 haw2 hb1 hfin hp hpl
    go_wp2_with fail
    refine (each_any _ _ n n _ (madeC n f) (fun wr => AtomW wr b g n n f ∧ Only b (w1.alloc (.cells #[.pointer (some ⟨b, 0, none⟩)] 36)) wr) h7 _ ⟨HA.out, Only.refl _ _⟩ HE.out ?_).mono ?_
    · rintro wr x y hx hy ⟨ha, ho⟩
      exact (madeC_any b w1.heap.size g n n f x y h7 hx hy wr ha ((World.cell?_of_block (ho.block w1.heap.size HPL.out (by omega))).trans HP.out) (by omega) (Nat.lt_of_lt_of_le HPL.out ho.size)).mono fun _ _ ⟨h1, h2, h3⟩ => ⟨h1, h2, ho.trans h3⟩
    · rintro e w2 ⟨rfl, _, ho⟩
      have HO := Lib.hid ho; clear ho
      go_wp2_with fail
      go_ret
      exact ⟨retb HF.out.symm, only_onto HBel.out HO.out hbb⟩
  · have hfin : madeB n f = false := by unfold madeB; rw [hg]; rfl
    have HF := Lib.hid hfin; clear hfin hg
    go_wp2_with fail
    go_ret
    exact ⟨retb HF.out.symm, below_onto hbel (one_cell w1 _ _).2⟩

end Go.Proofs.Ytidcfcjmjgcfkaa
