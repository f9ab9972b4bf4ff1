import Derived.Test.YtidcfcjmjgcfkaaDoorAxiomA
namespace Go.Proofs.YtidcfcjmjgcfkaaDoor
open Go.RowKit Go.WideMaps Go.Maps

theorem law_string : Keyed Tryd.prog 9 := string_keyed Tryd.underlying9
theorem zero_int (w : World) : (zeroValue 3).run Tryd.prog w = .ok (.int .i64 0) w := by kernel_rfl

/-- the four names, as keys -/
def nmCompany : ByteArray := { data := #[99, 111, 109, 112, 97, 110, 121] }
def nmWeak : ByteArray := { data := #[119, 101, 97, 107] }
def nmStrong : ByteArray := { data := #[115, 116, 114, 111, 110, 103] }
def nmExtended : ByteArray := { data := #[101, 120, 116, 101, 110, 100, 101, 100] }

def namesD : DataW Empty := ((((DataW.map []).put (.string nmCompany.data.toList) (.lit (.int .i64 0))).put (.string nmWeak.data.toList) (.lit (.int .i64 1))).put (.string nmStrong.data.toList) (.lit (.int .i64 2))).put (.string nmExtended.data.toList) (.lit (.int .i64 3))

theorem key_of (s : ByteArray) (h : s.size ≤ maxLen) : keyOf Tryd.prog 9 (.string s) = some (.string s.data.toList) := keyOf_string_mk Tryd.underlying9 h
theorem elem_of (i : Int) (h : (Lit.int .i64 i).wf = true) : plainElem (H := Empty) Tryd.prog 3 (.int .i64 i) = some (.lit (.int .i64 i), []) := plainElem_int Tryd.underlying3 h

def NamesEnd (w : World) (e : Ending) (w' : World) : Prop :=
  e = .returned (.map (some w.heap.size)) ∧ w'.ownsMap Tryd.prog 9 (plainElem (H := Empty) Tryd.prog 3) w.heap.size 4 namesD ∧ Below w.heap.size w w'

set_option maxRecDepth 100000 in
set_option maxHeartbeats 1600000 in
theorem axiomNames_any (w : World) : Calls Tryd.prog 37 #[] w (NamesEnd w) := by
  have hmm := @run_makeMap Tryd.prog
  obtain ⟨w1, r1, o1, g1⟩ := (World.ownsMap_made w Tryd.prog 9 (plainElem (H := Empty) Tryd.prog 3)).update law_string Tryd.underlying54 (by unfold maxLen; omega) (key_of nmCompany (by decide)) (elem_of 0 (by decide))
  obtain ⟨w2, r2, o2, g2⟩ := o1.update law_string Tryd.underlying54 (by unfold maxLen; omega) (key_of nmWeak (by decide)) (elem_of 1 (by decide))
  obtain ⟨w3, r3, o3, g3⟩ := o2.update law_string Tryd.underlying54 (by unfold maxLen; omega) (key_of nmStrong (by decide)) (elem_of 2 (by decide))
  obtain ⟨w4, r4, o4, g4⟩ := o3.update law_string Tryd.underlying54 (by unfold maxLen; omega) (key_of nmExtended (by decide)) (elem_of 3 (by decide))
  have hb0 := (Below.refl w.heap.size w).alloc (Nat.le_refl _) (.map #[] 0)
  have hb1 := hb0.grown g1 hb0.size (fun j hj => by cases hj; exact Nat.le_refl _)
  have hb2 := hb1.grown g2 hb1.size (fun j hj => by cases hj; exact Nat.le_refl _)
  have hb3 := hb2.grown g3 hb2.size (fun j hj => by cases hj; exact Nat.le_refl _)
  have hb4 := hb3.grown g4 hb3.size (fun j hj => by cases hj; exact Nat.le_refl _)
  clear g1 g2 g3 g4 hb0 hb1 hb2 hb3 o1 o2 o3
  simp only [nmCompany, nmWeak, nmStrong, nmExtended] at r1 r2 r3 r4
  have HO := Lib.hid o4; clear o4
  go_enter Tryd.func37, Tryd.ntmps37
  go_wp2_with fail
  go_ret
  exact ⟨rfl, HO.out, hb4⟩

theorem names_look (w : World) (b : Nat) (h : w.ownsMap Tryd.prog 9 (plainElem (H := Empty) Tryd.prog 3) b 4 namesD) (nm : ByteArray) (hs : nm.size ≤ maxLen) (i : Int)
    (hat : namesD.atKey (.string nm.data.toList) (.lit (.int .i64 0)) = .lit (.int .i64 i)) (hh : Maps.has namesD (.string nm.data.toList) = true) :
    (Instr.lookup 54 (.map (some b)) (.string nm) true).run Tryd.prog w = .ok (.tuple #[.int .i64 i, .bool true]) w := by
  obtain ⟨v, ps, hrun, hv⟩ := h.look_ok law_string Tryd.underlying54 (zero_int w) (elem_of 0 (by decide)) (key_of nm hs)
  obtain ⟨c, rfl, hc, _⟩ := plainElem_int_inv Tryd.underlying3 hv
  have hc1 := congrArg Prod.fst hc
  rw [hat] at hc1
  simp only at hc1
  injection hc1 with e1; injection e1 with e2 e3
  rw [hh] at hrun
  rw [hrun, e3]

def AxiomsEnd (w : World) (e : Ending) (w' : World) : Prop :=
  e = .returned (.slice (some ⟨w.heap.size, 0, none⟩) 4 4) ∧ Below w.heap.size w w' ∧ w'.cell? ⟨w.heap.size, 0, none⟩ = some (.func (.func 49) #[] #[]) ∧ w'.cell? ⟨w.heap.size, 1, none⟩ = some (.func (.func 50) #[] #[])
    ∧ w'.cell? ⟨w.heap.size, 2, none⟩ = some (.func (.func 51) #[] #[]) ∧ w'.cell? ⟨w.heap.size, 3, none⟩ = some (.func (.func 52) #[] #[])

set_option maxHeartbeats 1600000 in
theorem axioms_any (w : World) : Calls Tryd.prog 38 #[] w (AxiomsEnd w) := by
  have hrow := World.rowIs_alloc w #[.func (.func 49) #[] #[], .func (.func 50) #[] #[], .func (.func 51) #[] #[], .func (.func 52) #[] #[]] 57
    (fun i => if i = 0 then .func (.func 49) #[] #[] else if i = 1 then .func (.func 50) #[] #[] else if i = 2 then .func (.func 51) #[] #[] else .func (.func 52) #[] #[]) (by
    intro i hi
    match i, hi with
    | 0, _ => rfl
    | 1, _ => rfl
    | 2, _ => rfl
    | 3, _ => rfl)
  have HR := Lib.hid hrow; clear hrow
  go_enter Tryd.func38, Tryd.ntmps38
  go_wp2_with fail
  go_ret
  exact ⟨rfl, (Below.refl _ _).alloc (Nat.le_refl _) _, HR.out.cell (i := 0) (by show 0 < 4; omega), HR.out.cell (i := 1) (by show 1 < 4; omega), HR.out.cell (i := 2) (by show 2 < 4; omega), HR.out.cell (i := 3) (by show 3 < 4; omega)⟩
end Go.Proofs.YtidcfcjmjgcfkaaDoor
