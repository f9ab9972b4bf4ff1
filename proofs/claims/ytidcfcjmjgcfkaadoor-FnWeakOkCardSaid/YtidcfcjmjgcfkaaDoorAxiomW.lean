import Derived.Test.YtidcfcjmjgcfkaaDoorAxiomM
import Derived.Test.YtidcfcjmjgcfkaaDoorEach2
import Derived.Laws.EntriesVeiled
namespace Go.Proofs.YtidcfcjmjgcfkaaDoor
open Go.RowKit Go.Maps

/-- a function of two things of a world, as the axioms are -/
def AskAll (K n : Nat) (f : Nat → Int) (G : Nat → Nat → Bool) : Prop :=
  ∀ (bk cap a b : Nat) (wr : World), a < n → b < n → Row wr bk 0 n f → bk < wr.heap.size → Calls Tryd.prog K #[.slice (some ⟨bk, 0, none⟩) n cap, .int .i64 a, .int .i64 b] wr (AskEnd (G a b) wr)

theorem cell_new (w : World) (v : Value) (t : TypeId) : (w.alloc (.cells #[v] t)).cell? ⟨w.heap.size, 0, none⟩ = some v ∧ Below w.heap.size w (w.alloc (.cells #[v] t)) ∧ (w.alloc (.cells #[v] t)).heap.size = w.heap.size + 1 :=
  ⟨(World.rowIs_alloc w #[v] t (fun _ => v) (by intro i hi; match i, hi with | 0, _ => rfl)).cell (Nat.zero_lt_one), (Below.refl _ _).alloc (Nat.le_refl _) _, by show (w.heap.push _).size = _; rw [Array.size_push]⟩

set_option maxHeartbeats 3200000 in
set_option maxRecDepth 100000 in
theorem axiomOk_at (nm : ByteArray) (hs : nm.size ≤ maxLen) (i : Nat) (hi4 : i < 4) (hat : namesD.atKey (.string nm.data.toList) (.lit (.int .i64 0)) = .lit (.int .i64 i)) (hh : Maps.has namesD (.string nm.data.toList) = true)
    (K : Nat) (hcell : Hid (∀ (w : World) (e : Ending) (w' : World), AxiomsEnd w e w' → w'.cell? ⟨w.heap.size, i, none⟩ = some (.func (.func K) #[] #[])))
    (hE : ∀ (args : Array Value) (w : World), Sem.run Tryd.prog (callFunc K args) w = .ok (.enter K args) w)
    (n : Nat) (f : Nat → Int) (G : Nat → Nat → Bool) (hK : Hid (n ≤ 7 → AskAll K n f G)) (a : Option Addr) (cap : Nat) (w : World) (hi : Ints w a n f) :
    Calls Tryd.prog 22 #[.slice a n cap, .string nm] w (AskEnd (worldB n f && eachB n G) w) := by
  have hmf : ∀ (fn : Fn) (first cap : Array Value) (w : World), (Instr.makeFunc fn first cap).run Tryd.prog w = .ok (.func fn first cap) w := fun _ _ _ _ => rfl
  have HE0 := Lib.hid hE; clear hE
  have HE := Lib.hid (enters_of (P := Tryd.prog) Tryd.func40 (by kernel_rfl) rfl)
  have hi0 : (0 : Int) ≤ (i : Int) := by omega
  have hi44 : (i : Int) < 4 := by omega
  have HL := Lib.hid (fun (w : World) (b : Nat) h => names_look w b h nm hs i hat hh)
  have HI := Lib.hid hi; clear hi hat hh
  go_enter Tryd.func22, Tryd.ntmps22
  go_wp2_with fail
  refine (worldOf_end a n cap f _ HI.out).mono ?_
  rintro e w1 ⟨hbel, ⟨hb, rfl, hsz, hr⟩ | ⟨hb, rfl⟩⟩
  · have h7 := (worldB_7 hb).2
    obtain ⟨c1, b1, s1⟩ := cell_new w1 (.slice (some ⟨w.heap.size, 0, none⟩) n n) 41
    have hr1 := hr.below b1 hsz
    have hB := below_onto hbel b1
    have HW := Lib.hid hb; have HR := Lib.hid hr1; have HB := Lib.hid hB; have HC := Lib.hid c1; have HS := Lib.hid s1; have HSZ := Lib.hid hsz; clear hb hr hr1 hB hbel b1 c1 s1 hsz
    go_wp2_with fail
    refine (axiomNames_any _).mono ?_
    rintro e w2 ⟨rfl, ho, b2⟩
    have hlook := HL.out _ _ ho
    rw [HS.out] at hlook
    replace HC := Lib.hid ((b2.cell (p := ⟨w1.heap.size, 0, none⟩) (by rw [HS.out]; show w1.heap.size < w1.heap.size + 1; omega)).trans HC.out)
    replace HR := Lib.hid (HR.out.below b2 (by rw [HS.out]; have := HSZ.out; omega))
    replace HB := Lib.hid (below_onto HB.out b2)
    replace HS := Lib.hid (show w1.heap.size < w2.heap.size by have := b2.size; rw [HS.out] at this; omega)
    clear ho b2
    go_wp2_with fail
    refine (axioms_any _).mono ?_
    intro e w3 he
    have hc := hcell.out _ _ _ he
    obtain ⟨rfl, b3, _⟩ := he
    replace HC := Lib.hid ((b3.cell (p := ⟨w1.heap.size, 0, none⟩) HS.out).trans HC.out)
    replace HR := Lib.hid (HR.out.below b3 (by have := HSZ.out; have := HS.out; omega))
    replace HB := Lib.hid (below_onto HB.out b3)
    replace HS := Lib.hid (show w1.heap.size < w3.heap.size by have := b3.size; have := HS.out; omega)
    clear b3 hlook
    obtain ⟨c4, b4, s4⟩ := cell_new w3 (.func (.func K) #[] #[]) 57
    have hq := (b4.cell (p := ⟨w1.heap.size, 0, none⟩) HS.out).trans HC.out
    have HQ := Lib.hid hq; have HP := Lib.hid c4; have HS4 := Lib.hid s4
    have HR4 := Lib.hid (HR.out.below b4 (by have := HSZ.out; have := HS.out; omega))
    have HB4 := Lib.hid (below_onto HB.out b4)
    clear c4 b4 s4 HC
    go_wp2_with fail
    have HR5 := HR4
    refine (each2_any _ _ n n _ _ G (fun wr => Below (w3.alloc (.cells #[.func (.func K) #[] #[]] 57)).heap.size (w3.alloc (.cells #[.func (.func K) #[] #[]] 57)) wr) h7 _ (Below.refl _ _) HE.out ?_).mono ?_
    · rintro wr x y hx hy hbr
      refine (asked_any K _ _ x y _ (G x y) wr HE0.out (hK.out h7 w.heap.size n x y wr hx hy (HR4.out.below hbr ?_) ?_) ((hbr.cell (p := ⟨w3.heap.size, 0, none⟩) ?_).trans HP.out) ((hbr.cell (p := ⟨w1.heap.size, 0, none⟩) ?_).trans HQ.out)).mono fun _ _ ⟨h1, h2⟩ => ⟨h1, below_onto hbr h2⟩
      · rw [HS4.out]; have := HSZ.out; have := HS.out; omega
      · refine Nat.lt_of_lt_of_le ?_ hbr.size; rw [HS4.out]; have := HSZ.out; have := HS.out; omega
      · rw [HS4.out]; show w3.heap.size < _; omega
      · rw [HS4.out]; show w1.heap.size < _; have := HS.out; omega
    · rintro e w5 ⟨rfl, b5⟩
      have HF := Lib.hid (show (worldB n f && eachB n G) = eachB n G by rw [HW.out]; rfl)
      replace HB4 := Lib.hid (below_onto HB4.out b5); clear b5
      go_wp2_with fail
      go_ret
      exact ⟨retb HF.out.symm, HB4.out⟩
  · obtain ⟨c1, b1, s1⟩ := cell_new w1 (.slice none 0 0) 41
    have hB := below_onto hbel b1
    have HF := Lib.hid (show (worldB n f && eachB n G) = false by rw [hb]; rfl)
    have HB := Lib.hid hB; have HS := Lib.hid s1; clear hb hB hbel c1 b1 s1
    go_wp2_with fail
    refine (axiomNames_any _).mono ?_
    rintro e w2 ⟨rfl, ho, b2⟩
    have hlook := HL.out _ _ ho
    rw [HS.out] at hlook
    replace HB := Lib.hid (below_onto HB.out b2)
    clear ho b2
    go_wp2_with fail
    refine (axioms_any _).mono ?_
    intro e w3 he
    have hc := hcell.out _ _ _ he
    obtain ⟨rfl, b3, _⟩ := he
    replace HB := Lib.hid (below_onto HB.out b3)
    clear b3 hlook
    have HB4 := Lib.hid (below_onto HB.out (cell_new w3 (.func (.func K) #[] #[]) 57).2.1)
    go_wp2_with fail
    go_ret
    exact ⟨retb HF.out.symm, HB4.out⟩
end Go.Proofs.YtidcfcjmjgcfkaaDoor
