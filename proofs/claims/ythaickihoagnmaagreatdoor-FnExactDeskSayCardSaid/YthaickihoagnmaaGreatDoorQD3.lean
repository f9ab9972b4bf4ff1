import Derived.Test.YthaickihoagnmaaGreatDoorQD2
import Derived.Deep.RegionHeld3
import Derived.Maps.OwnSet
import Derived.Laws.EntriesVeiled
import Derived.RangeFuncNested
import Derived.RangeFuncBound
import Derived.RangeFuncCalls
import Derived.RangeFuncLeaves
import Derived.Shelf.Abstract
import Derived.Shelf.RegionOpen
import Derived.WalkKit
import Derived.OwnWalkIn
import Derived.TacticsInMore
import Derived.LoopNIn
import Derived.LoopIn
set_option linter.unusedVariables false
set_option linter.unusedSimpArgs false
set_option maxHeartbeats 12800000
namespace Go.Proofs.YthaickihoagnmaaGreatDoor
open Go.RowKit
def restsI (n : Nat) (f : Nat → Int) (a b : Nat) : Int := bits .andNot .i64 (f a) (meetI n f b)
set_option maxRecDepth 100000 in
theorem rests_any (bk n cap : Nat) (a b : Nat) (f : Nat → Int) (hn : n ≤ 7) (ha : a < n) (hb : b < n) (w : World) (hr : Row w bk 0 n f) (hlt : bk < w.heap.size) :
    Calls Tryz.prog 245 #[.slice (some ⟨bk, 0, none⟩) n cap, .int .i64 a, .int .i64 b] w fun e w' => e = .returned (.int .i64 (restsI n f a b)) ∧ Below w.heap.size w w' := by
  have ca : w.cell? ⟨bk, a, none⟩ = some (.int .i64 (f a)) := by have := hr a ha; rwa [Nat.zero_add] at this
  have hai : (a : Int) < (n : Int) := by omega
  have ha0 : (0 : Int) ≤ (a : Int) := by omega
  have HR := Lib.hid hr; clear hr
  have HC := Lib.hid (show ∀ (W : World), Below w.heap.size w W → W.cell? ⟨bk, a, none⟩ = some (.int .i64 (f a)) from fun W h => (h.cell (p := ⟨bk, a, none⟩) hlt).trans ca)
  have HB := Lib.hid (Below.refl w.heap.size w)
  go_enter Tryz.func245, Tryz.ntmps245
  go_wp2_with fail
  go_region_held3 (fun w' => w'.cell? ⟨bk, a, none⟩ = some (.int .i64 (f a))) (first | exact HC.out _ HB.out | go_keep)
    (first | (go_at_call 222; refine (meeting_any bk n cap b f hn hb _ (by first | exact HR.out | exact HR.out.drewN _) (by first | exact hlt | (show bk < (World.drewN _ _).heap.size; exact hlt))).mono ?_; rintro e w2 ⟨rfl, h2⟩; replace HB := Lib.hid (by first | exact h2 | exact (below_drewN (Below.refl _ _) _).trans h2 : Below w.heap.size w w2); clear h2))
  all_goals
    go_wp2_with fail
    go_ret
    exact ⟨rfl, by first | exact HB.out | exact below_drewN HB.out _⟩
theorem proper_val (bk off len cap : Nat) (a b : Nat) (x : Int) (v : Bool) (hb : b < len) (ha : a ≤ 63) (w : World) (hv : neHas x a b = v) (hc : w.cell? ⟨bk, off + b, none⟩ = some (.int .i64 x)) :
    Calls Tryz.prog 243 #[.slice (some ⟨bk, off, none⟩) len cap, .int .i64 a, .int .i64 b] w fun e w' => e = .returned (.bool v) ∧ w = w' := by
  subst hv; exact proper_any bk off len cap a b x hb ha w hc
theorem part_val (bk off len cap : Nat) (a b : Nat) (x : Int) (v : Bool) (hb : b < len) (ha : a ≤ 63) (w : World) (hv : hasB x a = v) (hc : w.cell? ⟨bk, off + b, none⟩ = some (.int .i64 x)) :
    Calls Tryz.prog 176 #[.slice (some ⟨bk, off, none⟩) len cap, .int .i64 a, .int .i64 b] w fun e w' => e = .returned (.bool v) ∧ w = w' := by
  subst hv; exact part_any bk off len cap a b x hb ha w hc
def weakG (n : Nat) (f : Nat → Int) (whole part : Nat) : Bool := !neHas (f whole) part whole || restsI n f whole part != 0
def strongG (n : Nat) (f : Nat → Int) (a b : Nat) : Bool := hasB (f b) a || restsI n f a b != 0
def AskEnd (v : Bool) (w : World) (e : Ending) (w' : World) : Prop := e = .returned (.bool v) ∧ Below w.heap.size w w'
set_option maxRecDepth 100000 in
theorem weak_any (bk n cap : Nat) (a b : Nat) (f : Nat → Int) (hn : n ≤ 7) (ha : a < n) (hb : b < n) (w : World) (hr : Row w bk 0 n f) (hlt : bk < w.heap.size) :
    Calls Tryz.prog 231 #[.slice (some ⟨bk, 0, none⟩) n cap, .int .i64 a, .int .i64 b] w (AskEnd (weakG n f a b) w) := by
  have hc := hr a ha
  have hnot : ∀ (x : Bool) (w : World), (Op.unary .not (.bool x)).run Tryz.prog w = .ok (.bool (!x)) w := fun _ _ => rfl
  have HR := Lib.hid hr; have HC := Lib.hid hc; clear hr hc
  cases hp : neHas (f a) b a with
  | false =>
    have HF := Lib.hid (show weakG n f a b = true by unfold weakG; rw [hp]; rfl)
    have HP := Lib.hid hp; clear hp
    go_enter Tryz.func231, Tryz.ntmps231
    go_wp2_with fail
    refine (proper_val bk 0 n cap b a (f a) false ha (by omega) _ HP.out HC.out).mono ?_
    rintro e w' ⟨rfl, rfl⟩
    go_wp2_with fail
    go_ret
    exact ⟨retb HF.out.symm, Below.refl _ _⟩
  | true =>
    have HF := Lib.hid (show weakG n f a b = (restsI n f a b != 0) by unfold weakG; rw [hp]; rfl)
    have HP := Lib.hid hp; clear hp
    go_enter Tryz.func231, Tryz.ntmps231
    go_wp2_with fail
    refine (proper_val bk 0 n cap b a (f a) true ha (by omega) _ HP.out HC.out).mono ?_
    rintro e w' ⟨rfl, rfl⟩
    go_wp2_with fail
    refine (rests_any bk n cap a b f hn ha hb _ HR.out hlt).mono ?_
    rintro e w' ⟨rfl, hb2⟩
    go_wp2_with fail
    go_ret
    exact ⟨retb HF.out.symm, hb2⟩
set_option maxRecDepth 100000 in
theorem strong_any (bk n cap : Nat) (a b : Nat) (f : Nat → Int) (hn : n ≤ 7) (ha : a < n) (hb : b < n) (w : World) (hr : Row w bk 0 n f) (hlt : bk < w.heap.size) :
    Calls Tryz.prog 232 #[.slice (some ⟨bk, 0, none⟩) n cap, .int .i64 a, .int .i64 b] w (AskEnd (strongG n f a b) w) := by
  have hc := hr b hb
  have HR := Lib.hid hr; have HC := Lib.hid hc; clear hr hc
  cases hp : hasB (f b) a with
  | true =>
    have HF := Lib.hid (show strongG n f a b = true by unfold strongG; rw [hp]; rfl)
    have HP := Lib.hid hp; clear hp
    go_enter Tryz.func232, Tryz.ntmps232
    go_wp2_with fail
    refine (part_val bk 0 n cap a b (f b) true hb (by omega) _ HP.out HC.out).mono ?_
    rintro e w' ⟨rfl, rfl⟩
    go_wp2_with fail
    go_ret
    exact ⟨retb HF.out.symm, Below.refl _ _⟩
  | false =>
    have HF := Lib.hid (show strongG n f a b = (restsI n f a b != 0) by unfold strongG; rw [hp]; rfl)
    have HP := Lib.hid hp; clear hp
    go_enter Tryz.func232, Tryz.ntmps232
    go_wp2_with fail
    refine (part_val bk 0 n cap a b (f b) false hb (by omega) _ HP.out HC.out).mono ?_
    rintro e w' ⟨rfl, rfl⟩
    go_wp2_with fail
    refine (rests_any bk n cap a b f hn ha hb _ HR.out hlt).mono ?_
    rintro e w' ⟨rfl, hb2⟩
    go_wp2_with fail
    go_ret
    exact ⟨retb HF.out.symm, hb2⟩
set_option maxRecDepth 100000 in
theorem asked_any (K p q : Nat) (a b : Nat) (v1 : Value) (v : Bool) (w : World)
    (hE : ∀ (args : Array Value) (w : World), Sem.run Tryz.prog (callFunc K args) w = .ok (.enter K args) w)
    (hK : Calls Tryz.prog K #[v1, .int .i64 a, .int .i64 b] w (AskEnd v w))
    (hp : w.cell? ⟨p, 0, none⟩ = some (.func (.func K) #[] #[])) (hq : w.cell? ⟨q, 0, none⟩ = some v1) :
    Calls Tryz.prog 209 #[.int .i64 a, .int .i64 b, .pointer (some ⟨p, 0, none⟩), .pointer (some ⟨q, 0, none⟩)] w (AskEnd v w) := by
  have HK := Lib.hid hK; clear hK
  go_enter Tryz.func209, Tryz.ntmps209
  go_wp2_with fail
  refine HK.out.mono ?_
  rintro e w' ⟨rfl, hb2⟩
  go_wp2_with fail
  go_ret
  exact ⟨rfl, hb2⟩
end Go.Proofs.YthaickihoagnmaaGreatDoor
namespace Go.Proofs.YthaickihoagnmaaGreatDoor
open Go.RowKit Go.WideMaps Go.Maps
theorem law_string : Keyed Tryz.prog 9 := string_keyed Tryz.underlying9
theorem zero_int (w : World) : (zeroValue 3).run Tryz.prog w = .ok (.int .i64 0) w := by kernel_rfl
def nmCompany : ByteArray := { data := #[99, 111, 109, 112, 97, 110, 121] }
def nmWeak : ByteArray := { data := #[119, 101, 97, 107] }
def nmStrong : ByteArray := { data := #[115, 116, 114, 111, 110, 103] }
def nmExtended : ByteArray := { data := #[101, 120, 116, 101, 110, 100, 101, 100] }
def namesD : DataW Empty := ((((DataW.map []).put (.string nmCompany.data.toList) (.lit (.int .i64 0))).put (.string nmWeak.data.toList) (.lit (.int .i64 1))).put (.string nmStrong.data.toList) (.lit (.int .i64 2))).put (.string nmExtended.data.toList) (.lit (.int .i64 3))
theorem key_of (s : ByteArray) (h : s.size ≤ maxLen) : keyOf Tryz.prog 9 (.string s) = some (.string s.data.toList) := keyOf_string_mk Tryz.underlying9 h
theorem elem_of (i : Int) (h : (Lit.int .i64 i).wf = true) : plainElem (H := Empty) Tryz.prog 3 (.int .i64 i) = some (.lit (.int .i64 i), []) := plainElem_int Tryz.underlying3 h
def NamesEnd (w : World) (e : Ending) (w' : World) : Prop :=
  e = .returned (.map (some w.heap.size)) ∧ w'.ownsMap Tryz.prog 9 (plainElem (H := Empty) Tryz.prog 3) w.heap.size 4 namesD ∧ Below w.heap.size w w'
set_option maxRecDepth 100000 in
theorem axiomNames_any (w : World) : Calls Tryz.prog 206 #[] w (NamesEnd w) := by
  have hmm := @run_makeMap Tryz.prog
  obtain ⟨w1, r1, o1, g1⟩ := (World.ownsMap_made w Tryz.prog 9 (plainElem (H := Empty) Tryz.prog 3)).update law_string Tryz.underlying193 (by unfold maxLen; omega) (key_of nmCompany (by decide)) (elem_of 0 (by decide))
  obtain ⟨w2, r2, o2, g2⟩ := o1.update law_string Tryz.underlying193 (by unfold maxLen; omega) (key_of nmWeak (by decide)) (elem_of 1 (by decide))
  obtain ⟨w3, r3, o3, g3⟩ := o2.update law_string Tryz.underlying193 (by unfold maxLen; omega) (key_of nmStrong (by decide)) (elem_of 2 (by decide))
  obtain ⟨w4, r4, o4, g4⟩ := o3.update law_string Tryz.underlying193 (by unfold maxLen; omega) (key_of nmExtended (by decide)) (elem_of 3 (by decide))
  have hb0 := (Below.refl w.heap.size w).alloc (Nat.le_refl _) (.map #[] 0)
  have hb1 := hb0.grown g1 hb0.size (fun j hj => by cases hj; exact Nat.le_refl _)
  have hb2 := hb1.grown g2 hb1.size (fun j hj => by cases hj; exact Nat.le_refl _)
  have hb3 := hb2.grown g3 hb2.size (fun j hj => by cases hj; exact Nat.le_refl _)
  have hb4 := hb3.grown g4 hb3.size (fun j hj => by cases hj; exact Nat.le_refl _)
  clear g1 g2 g3 g4 hb0 hb1 hb2 hb3 o1 o2 o3
  simp only [nmCompany, nmWeak, nmStrong, nmExtended] at r1 r2 r3 r4
  have HO := Lib.hid o4; clear o4
  go_enter Tryz.func206, Tryz.ntmps206
  go_wp2_with fail
  go_ret
  exact ⟨rfl, HO.out, hb4⟩
set_option maxRecDepth 100000 in
theorem names_look (w : World) (b : Nat) (h : w.ownsMap Tryz.prog 9 (plainElem (H := Empty) Tryz.prog 3) b 4 namesD) (nm : ByteArray) (hs : nm.size ≤ maxLen) (i : Int)
    (hat : namesD.atKey (.string nm.data.toList) (.lit (.int .i64 0)) = .lit (.int .i64 i)) (hh : Maps.has namesD (.string nm.data.toList) = true) :
    (Instr.lookup 193 (.map (some b)) (.string nm) true).run Tryz.prog w = .ok (.tuple #[.int .i64 i, .bool true]) w := by
  obtain ⟨v, ps, hrun, hv⟩ := h.look_ok law_string Tryz.underlying193 (zero_int w) (elem_of 0 (by decide)) (key_of nm hs)
  obtain ⟨c, rfl, hc, _⟩ := plainElem_int_inv Tryz.underlying3 hv
  have hc1 := congrArg Prod.fst hc
  rw [hat] at hc1
  simp only at hc1
  injection hc1 with e1; injection e1 with e2 e3
  rw [hh] at hrun
  rw [hrun, e3]
def AxiomsEnd (w : World) (e : Ending) (w' : World) : Prop :=
  e = .returned (.slice (some ⟨w.heap.size, 0, none⟩) 4 4) ∧ Below w.heap.size w w' ∧ w'.cell? ⟨w.heap.size, 0, none⟩ = some (.func (.func 230) #[] #[]) ∧ w'.cell? ⟨w.heap.size, 1, none⟩ = some (.func (.func 231) #[] #[])
    ∧ w'.cell? ⟨w.heap.size, 2, none⟩ = some (.func (.func 232) #[] #[]) ∧ w'.cell? ⟨w.heap.size, 3, none⟩ = some (.func (.func 233) #[] #[])
set_option maxRecDepth 100000 in
theorem axioms_any (w : World) : Calls Tryz.prog 207 #[] w (AxiomsEnd w) := by
  have hrow := World.rowIs_alloc w #[.func (.func 230) #[] #[], .func (.func 231) #[] #[], .func (.func 232) #[] #[], .func (.func 233) #[] #[]] 196
    (fun i => if i = 0 then .func (.func 230) #[] #[] else if i = 1 then .func (.func 231) #[] #[] else if i = 2 then .func (.func 232) #[] #[] else .func (.func 233) #[] #[]) (by
    intro i hi
    match i, hi with
    | 0, _ => rfl
    | 1, _ => rfl
    | 2, _ => rfl
    | 3, _ => rfl)
  have HR := Lib.hid hrow; clear hrow
  go_enter Tryz.func207, Tryz.ntmps207
  go_wp2_with fail
  go_ret
  exact ⟨rfl, (Below.refl _ _).alloc (Nat.le_refl _) _, HR.out.cell (i := 0) (by show 0 < 4; omega), HR.out.cell (i := 1) (by show 1 < 4; omega), HR.out.cell (i := 2) (by show 2 < 4; omega), HR.out.cell (i := 3) (by show 3 < 4; omega)⟩
end Go.Proofs.YthaickihoagnmaaGreatDoor
namespace Go.Proofs.YthaickihoagnmaaGreatDoor
open Go.RowKit Go.Maps
def AskAll (K n : Nat) (f : Nat → Int) (G : Nat → Nat → Bool) : Prop :=
  ∀ (bk cap a b : Nat) (wr : World), a < n → b < n → Row wr bk 0 n f → bk < wr.heap.size → Calls Tryz.prog K #[.slice (some ⟨bk, 0, none⟩) n cap, .int .i64 a, .int .i64 b] wr (AskEnd (G a b) wr)
theorem cell_new (w : World) (v : Value) (t : TypeId) : (w.alloc (.cells #[v] t)).cell? ⟨w.heap.size, 0, none⟩ = some v ∧ Below w.heap.size w (w.alloc (.cells #[v] t)) ∧ (w.alloc (.cells #[v] t)).heap.size = w.heap.size + 1 :=
  ⟨(World.rowIs_alloc w #[v] t (fun _ => v) (by intro i hi; match i, hi with | 0, _ => rfl)).cell (Nat.zero_lt_one), (Below.refl _ _).alloc (Nat.le_refl _) _, by show (w.heap.push _).size = _; rw [Array.size_push]⟩
set_option maxRecDepth 100000 in
set_option maxRecDepth 100000 in
theorem axiomOk_at (nm : ByteArray) (hs : nm.size ≤ maxLen) (i : Nat) (hi4 : i < 4) (hat : namesD.atKey (.string nm.data.toList) (.lit (.int .i64 0)) = .lit (.int .i64 i)) (hh : Maps.has namesD (.string nm.data.toList) = true)
    (K : Nat) (hcell : Hid (∀ (w : World) (e : Ending) (w' : World), AxiomsEnd w e w' → w'.cell? ⟨w.heap.size, i, none⟩ = some (.func (.func K) #[] #[])))
    (hE : ∀ (args : Array Value) (w : World), Sem.run Tryz.prog (callFunc K args) w = .ok (.enter K args) w)
    (n : Nat) (f : Nat → Int) (G : Nat → Nat → Bool) (hK : Hid (n ≤ 7 → AskAll K n f G)) (a : Option Addr) (cap : Nat) (w : World) (hi : Ints w a n f) :
    Calls Tryz.prog 185 #[.slice a n cap, .string nm] w (AskEnd (worldB n f && eachB n G) w) := by
  have hmf : ∀ (fn : Fn) (first cap : Array Value) (w : World), (Instr.makeFunc fn first cap).run Tryz.prog w = .ok (.func fn first cap) w := fun _ _ _ _ => rfl
  have HE0 := Lib.hid hE; clear hE
  have HE := Lib.hid (enters_of (P := Tryz.prog) Tryz.func209 (by kernel_rfl) rfl)
  have hi0 : (0 : Int) ≤ (i : Int) := by omega
  have hi44 : (i : Int) < 4 := by omega
  have HL := Lib.hid (fun (w : World) (b : Nat) h => names_look w b h nm hs i hat hh)
  have HI := Lib.hid hi; clear hi hat hh
  go_enter Tryz.func185, Tryz.ntmps185
  go_wp2_with fail
  refine (worldOf_end a n cap f _ HI.out).mono ?_
  rintro e w1 ⟨hbel, ⟨hb, rfl, hsz, hr⟩ | ⟨hb, rfl⟩⟩
  · have h7 := (worldB_7 hb).2
    obtain ⟨c1, b1, s1⟩ := cell_new w1 (.slice (some ⟨w.heap.size, 0, none⟩) n n) 136
    have hr1 := hr.below b1 hsz
    have hB := below_onto hbel b1
    have HW := Lib.hid hb; have HR := Lib.hid hr1; have HB := Lib.hid hB; have HC := Lib.hid c1; have HS := Lib.hid s1; have HSZ := Lib.hid hsz; clear hb hr hr1 hB hbel b1 c1 s1 hsz
    go_wp2_with fail
    refine (axiomNames_any _).mono ?_
    rintro e w2 ⟨rfl, ho, b2⟩
    have hlook := HL.out _ _ ho
    rw [HS.out] at hlook
    replace HC := Lib.hid ((b2.cell (p := ⟨w1.heap.size, 0, none⟩) (by rw [HS.out]; show w1.heap.size < w1.heap.size + 1; omega)).trans HC.out)
    replace HR := Lib.hid (HR.out.below b2 (by rw [HS.out]; have := HSZ.out; omega))
    replace HB := Lib.hid (below_onto HB.out b2)
    replace HS := Lib.hid (show w1.heap.size < w2.heap.size by have := b2.size; rw [HS.out] at this; omega)
    clear ho b2
    go_wp2_with fail
    refine (axioms_any _).mono ?_
    intro e w3 he
    have hc := hcell.out _ _ _ he
    obtain ⟨rfl, b3, _⟩ := he
    replace HC := Lib.hid ((b3.cell (p := ⟨w1.heap.size, 0, none⟩) HS.out).trans HC.out)
    replace HR := Lib.hid (HR.out.below b3 (by have := HSZ.out; have := HS.out; omega))
    replace HB := Lib.hid (below_onto HB.out b3)
    replace HS := Lib.hid (show w1.heap.size < w3.heap.size by have := b3.size; have := HS.out; omega)
    clear b3 hlook
    obtain ⟨c4, b4, s4⟩ := cell_new w3 (.func (.func K) #[] #[]) 196
    have hq := (b4.cell (p := ⟨w1.heap.size, 0, none⟩) HS.out).trans HC.out
    have HQ := Lib.hid hq; have HP := Lib.hid c4; have HS4 := Lib.hid s4
    have HR4 := Lib.hid (HR.out.below b4 (by have := HSZ.out; have := HS.out; omega))
    have HB4 := Lib.hid (below_onto HB.out b4)
    clear c4 b4 s4 HC
    go_wp2_with fail
    have HR5 := HR4
    refine (each2_any _ _ n n _ _ G (fun wr => Below (w3.alloc (.cells #[.func (.func K) #[] #[]] 196)).heap.size (w3.alloc (.cells #[.func (.func K) #[] #[]] 196)) wr) h7 _ (Below.refl _ _) HE.out ?_).mono ?_
    · rintro wr x y hx hy hbr
      refine (asked_any K _ _ x y _ (G x y) wr HE0.out (hK.out h7 w.heap.size n x y wr hx hy (HR4.out.below hbr ?_) ?_) ((hbr.cell (p := ⟨w3.heap.size, 0, none⟩) ?_).trans HP.out) ((hbr.cell (p := ⟨w1.heap.size, 0, none⟩) ?_).trans HQ.out)).mono fun _ _ ⟨h1, h2⟩ => ⟨h1, below_onto hbr h2⟩
      · rw [HS4.out]; have := HSZ.out; have := HS.out; omega
      · refine Nat.lt_of_lt_of_le ?_ hbr.size; rw [HS4.out]; have := HSZ.out; have := HS.out; omega
      · rw [HS4.out]; show w3.heap.size < _; omega
      · rw [HS4.out]; show w1.heap.size < _; have := HS.out; omega
    · rintro e w5 ⟨rfl, b5⟩
      have HF := Lib.hid (show (worldB n f && eachB n G) = eachB n G by rw [HW.out]; rfl)
      replace HB4 := Lib.hid (below_onto HB4.out b5); clear b5
      go_wp2_with fail
      go_ret
      exact ⟨retb HF.out.symm, HB4.out⟩
  · obtain ⟨c1, b1, s1⟩ := cell_new w1 (.slice none 0 0) 136
    have hB := below_onto hbel b1
    have HF := Lib.hid (show (worldB n f && eachB n G) = false by rw [hb]; rfl)
    have HB := Lib.hid hB; have HS := Lib.hid s1; clear hb hB hbel c1 b1 s1
    go_wp2_with fail
    refine (axiomNames_any _).mono ?_
    rintro e w2 ⟨rfl, ho, b2⟩
    have hlook := HL.out _ _ ho
    rw [HS.out] at hlook
    replace HB := Lib.hid (below_onto HB.out b2)
    clear ho b2
    go_wp2_with fail
    refine (axioms_any _).mono ?_
    intro e w3 he
    have hc := hcell.out _ _ _ he
    obtain ⟨rfl, b3, _⟩ := he
    replace HB := Lib.hid (below_onto HB.out b3)
    clear b3 hlook
    have HB4 := Lib.hid (below_onto HB.out (cell_new w3 (.func (.func K) #[] #[]) 196).2.1)
    go_wp2_with fail
    go_ret
    exact ⟨retb HF.out.symm, HB4.out⟩
def weakB (n : Nat) (f : Nat → Int) : Bool := worldB n f && eachB n (weakG n f)
def strongB (n : Nat) (f : Nat → Int) : Bool := worldB n f && eachB n (strongG n f)
set_option maxRecDepth 100000 in
theorem WeakOk_any (a : Option Addr) (n cap : Nat) (f : Nat → Int) (w : World) (hi : Ints w a n f) :
    Calls Tryz.prog 160 #[.slice a n cap] w fun e w' => e = .returned (.bool (weakB n f)) ∧ Below w.heap.size w w' := by
  have HI := Lib.hid hi; clear hi
  go_enter Tryz.func160, Tryz.ntmps160
  go_wp2_with fail
  refine (axiomOk_at nmWeak (by decide) 1 (by omega) (by kernel_rfl) (by kernel_rfl) 231 (fun _ _ _ h => h.2.2.2.1) (enters_of (P := Tryz.prog) Tryz.func231 (by kernel_rfl) rfl) n f (weakG n f) (fun h7 bk cap a b wr ha hb hr hlt => weak_any bk n cap a b f h7 ha hb wr hr hlt) a cap _ HI.out).mono ?_
  rintro e w' ⟨rfl, hb⟩
  go_wp2_with fail
  go_ret
  exact ⟨rfl, hb⟩
set_option maxRecDepth 100000 in
theorem StrongOk_any (a : Option Addr) (n cap : Nat) (f : Nat → Int) (w : World) (hi : Ints w a n f) :
    Calls Tryz.prog 161 #[.slice a n cap] w fun e w' => e = .returned (.bool (strongB n f)) ∧ Below w.heap.size w w' := by
  have HI := Lib.hid hi; clear hi
  go_enter Tryz.func161, Tryz.ntmps161
  go_wp2_with fail
  refine (axiomOk_at nmStrong (by decide) 2 (by omega) (by kernel_rfl) (by kernel_rfl) 232 (fun _ _ _ h => h.2.2.2.2.1) (enters_of (P := Tryz.prog) Tryz.func232 (by kernel_rfl) rfl) n f (strongG n f) (fun h7 bk cap a b wr ha hb hr hlt => strong_any bk n cap a b f h7 ha hb wr hr hlt) a cap _ HI.out).mono ?_
  rintro e w' ⟨rfl, hb⟩
  go_wp2_with fail
  go_ret
  exact ⟨rfl, hb⟩
end Go.Proofs.YthaickihoagnmaaGreatDoor
namespace Go.Proofs.YthaickihoagnmaaGreatDoor
open Go.RowKit
def apB (f : Nat → Int) (a b k : Nat) : Bool := decide (∃ c, c < k ∧ hasB (f a) c = true ∧ (andI (f c) (f b) == 0) = true)
theorem apB_zero (f : Nat → Int) (a b : Nat) : apB f a b 0 = false := decide_eq_false (fun ⟨_, h, _⟩ => absurd h (Nat.not_lt_zero _))
theorem apB_old {f : Nat → Int} {a b k : Nat} (h : apB f a b k = true) : apB f a b (k + 1) = true := by
  unfold apB at h ⊢; rw [decide_eq_true_eq] at h ⊢
  obtain ⟨c, h1, h2⟩ := h; exact ⟨c, by omega, h2⟩
theorem apB_new {f : Nat → Int} {a b k : Nat} (h1 : hasB (f a) k = true) (h2 : (andI (f k) (f b) == 0) = true) : apB f a b (k + 1) = true := by
  unfold apB; rw [decide_eq_true_eq]; exact ⟨k, by omega, h1, h2⟩
theorem apB_not {f : Nat → Int} {a b k : Nat} (h : apB f a b k = false) (h1 : hasB (f a) k = false) : apB f a b (k + 1) = false := by
  unfold apB at h ⊢; rw [decide_eq_false_iff_not] at h ⊢
  rintro ⟨c, h2, h3, h4⟩
  by_cases hc : c = k
  · subst hc; rw [h1] at h3; cases h3
  · exact h ⟨c, by omega, h3, h4⟩
theorem apB_meets {f : Nat → Int} {a b k : Nat} (h : apB f a b k = false) (h1 : (andI (f k) (f b) == 0) = false) : apB f a b (k + 1) = false := by
  unfold apB at h ⊢; rw [decide_eq_false_iff_not] at h ⊢
  rintro ⟨c, h2, h3, h4⟩
  by_cases hc : c = k
  · subst hc; rw [h1] at h4; cases h4
  · exact h ⟨c, by omega, h3, h4⟩
theorem nonzero_iff (x : Int) (hx : I64 x) : (x != 0) = true ↔ ∃ i, i < 64 ∧ hasB x i = true := by
  rw [bne_iff_ne]
  constructor
  · intro h
    apply Classical.byContradiction; intro hn
    apply h
    apply ext64 _ _ hx I64_zero
    intro i hi
    rw [hasB_zero]
    cases e : hasB x i with
    | false => rfl
    | true => exact absurd ⟨i, hi, e⟩ hn
  · rintro ⟨i, _, h⟩ e
    rw [e, hasB_zero] at h; cases h
theorem andI_swap (x y : Int) : andI x y = andI y x :=
  ext64 _ _ (andI_I64 _ _) (andI_I64 _ _) (fun i hi => by rw [and_bit _ _ _ hi, and_bit _ _ _ hi, Bool.and_comm])
theorem rests_bit (n : Nat) (f : Nat → Int) (a b i : Nat) (hi : i < n) (hn : n ≤ 7) : hasB (restsI n f a b) i = (hasB (f a) i && (andI (f i) (f b) == 0)) := by
  unfold restsI meetI
  rw [andNot_bit _ _ _ (by omega), setOf_bit _ _ _ (by omega), decide_eq_true hi, Bool.true_and, andI_swap (f b) (f i)]
  congr 1
  simp [bne]
theorem rests_out {n : Nat} {f : Nat → Int} (hP : WorldP n f) {a b i : Nat} (ha : a < n) (hi : hasB (restsI n f a b) i = true) (h64 : i < 64) : i < n := by
  unfold restsI at hi
  rw [andNot_bit _ _ _ h64, Bool.and_eq_true] at hi
  exact hasB_lt (hP.rng a ha) hi.1
theorem rests_ne {n : Nat} {f : Nat → Int} (hP : WorldP n f) {a b : Nat} (ha : a < n) : (restsI n f a b != 0) = apB f a b n := by
  have hn := hP.hi
  rw [Bool.eq_iff_iff, nonzero_iff _ (by unfold restsI; exact andNot_I64 _ _)]
  unfold apB; rw [decide_eq_true_eq]
  constructor
  · rintro ⟨i, hi, h⟩
    have hin := rests_out hP ha h hi
    rw [rests_bit n f a b i hin hn, Bool.and_eq_true] at h
    exact ⟨i, hin, h.1, h.2⟩
  · rintro ⟨i, hin, h1, h2⟩
    exact ⟨i, by omega, by rw [rests_bit n f a b i hin hn, h1, h2]; rfl⟩
theorem each_of {n : Nat} {g : Nat → Nat → Bool} (h : ∀ a, a < n → ∀ c, c < n → g a c = true) : eachB n g = true := decide_eq_true (fun a ha c hc _ => h a ha c hc)
theorem each_no {n : Nat} {g : Nat → Nat → Bool} {a c : Nat} (ha : a < n) (hc : c < n) (hac : a ≠ c) (h : g a c = false) : eachB n g = false :=
  decide_eq_false (fun e => by have := e a ha c hc hac; rw [h] at this; cases this)
theorem each_iff {n : Nat} {g : Nat → Nat → Bool} : eachB n g = true ↔ ∀ a, a < n → ∀ c, c < n → a ≠ c → g a c = true := by
  unfold eachB; rw [decide_eq_true_eq]
theorem weakG_same (n : Nat) (f : Nat → Int) (a : Nat) : weakG n f a a = true := by unfold weakG neHas; rw [decide_eq_false (fun h => h rfl)]; rfl
theorem weakG_no {n : Nat} {f : Nat → Int} {a b : Nat} (h : hasB (f a) b = false) : weakG n f a b = true := by unfold weakG neHas; rw [h]; simp
theorem weakG_ap {n : Nat} {f : Nat → Int} (hP : WorldP n f) {a b : Nat} {v : Bool} (ha : a < n) (hab : b ≠ a) (h : hasB (f a) b = true) (hv : apB f a b n = v) : weakG n f a b = v := by
  unfold weakG neHas; rw [h, decide_eq_true hab, rests_ne hP ha, hv]; simp
theorem strongG_yes {n : Nat} {f : Nat → Int} {a b : Nat} (h : hasB (f b) a = true) : strongG n f a b = true := by unfold strongG; rw [h]; simp
theorem strongG_ap {n : Nat} {f : Nat → Int} (hP : WorldP n f) {a b : Nat} {v : Bool} (ha : a < n) (h : hasB (f b) a = false) (hv : apB f a b n = v) : strongG n f a b = v := by
  unfold strongG; rw [h, rests_ne hP ha, hv]; simp
theorem weakB_no {n : Nat} {f : Nat → Int} {a c : Nat} (_ : worldB n f = true) (ha : a < n) (hc : c < n) (hac : a ≠ c) (h : weakG n f a c = false) : weakB n f = false := by
  unfold weakB; rw [each_no ha hc hac h, Bool.and_false]
theorem weakB_of {n : Nat} {f : Nat → Int} (hw : worldB n f = true) (h : ∀ a, a < n → ∀ c, c < n → weakG n f a c = true) : weakB n f = true := by
  unfold weakB; rw [hw, each_of h]; rfl
set_option maxRecDepth 100000 in
theorem specWeakOk_in (b o n cap : Nat) (f : Nat → Int) (hg : worldB n f = true) (w : World) (hi : Ints w (some ⟨b, o, none⟩) n f) (hr : Row w b o n f) :
    Calls Tryz.prog 72 #[.slice (some ⟨b, o, none⟩) n cap] w fun e w' => e = .returned (.bool (weakB n f)) ∧ Drew w w' := by
  have h7 := (worldB_7 hg).2
  have HPW := Lib.hid (world_of hi hg)
  have HG := Lib.hid hg; have HN := Lib.hid hi; have HR := Lib.hid hr; clear hg hi hr
  go_enter Tryz.func72, Tryz.ntmps72
  go_wp2_with fail
  refine (specWorldOk_val _ _ _ f true _ HG.out HN.out).mono ?_
  rintro e w0 ⟨rfl, hd0⟩
  go_wp2_with fail
  go_loopw [3] (fun i wr => ∃ k : Nat, k ≤ n ∧ i = .int .i64 k ∧ Hid (∀ a, a < k → ∀ c, c < n → weakG n f a c = true) ∧ Drew w wr) (fun i _ => n - (intOf i).toNat)
  case atStart => exact ⟨0, Nat.zero_le _, rfl, fun a ha => absurd ha (Nat.not_lt_zero _), hd0⟩
  case round =>
    clear hd0
    obtain ⟨k, hk, rfl, hall, hd⟩ := hrel
    by_cases hlt : k < n
    · go_wp2_with fail
      go_loopw [4] (fun i wr => ∃ j : Nat, j ≤ n ∧ i = .int .i64 j ∧ Hid (∀ c, c < j → weakG n f k c = true) ∧ Drew w wr) (fun i _ => n - (intOf i).toNat)
      case atStart => exact ⟨0, Nat.zero_le _, rfl, fun a ha => absurd ha (Nat.not_lt_zero _), hd⟩
      case round =>
        clear hd
        obtain ⟨j, hj, rfl, hin, hd⟩ := hrel
        by_cases hjn : j < n
        · have hrr0 : Row wr b o n f := by obtain ⟨m, rfl⟩ := hd; exact HR.out.drewN m
          have ck0 := hrr0 k hlt
          have cj0 := hrr0 j hjn
          have hnn0 := (HPW.out.rng k hlt).1
          clear hrr0
          by_cases hjk : j = k
          · subst hjk
            have heq : ((j : Int) == (j : Int)) = true := by simp
            have HG2 := Lib.hid (weakG_same n f j)
            clear ck0 cj0
            go_wp2_with fail
            go_roundw
            case rel => exact ⟨j + 1, by omega, by go_num, fun c hc => by
              by_cases hcj : c = j
              · subst hcj; exact HG2.out
              · exact hin c (by omega), hd⟩
            case measure => simp [intOf]; omega
          · have heq : ((j : Int) == (k : Int)) = false := by rw [beq_eq_false_iff_ne]; omega
            have hnot : ∀ (x : Bool) (w : World), (Op.unary .not (.bool x)).run Tryz.prog w = .ok (.bool (!x)) w := fun _ _ => rfl
            cases hh : hasB (f k) j with
            | false =>
              have HH := Lib.hid hh; clear hh
              have HG2 := Lib.hid (weakG_no (n := n) HH.out)
              go_wp2_with fail
              refine (l1Has_val _ _ false _ HH.out (by omega) hnn0).mono ?_
              rintro e w' ⟨rfl, rfl⟩
              go_wp2_with fail
              go_roundw
              case rel => exact ⟨j + 1, by omega, by go_num, fun c hc => by
                by_cases hcj : c = j
                · subst hcj; exact HG2.out
                · exact hin c (by omega), hd⟩
              case measure => simp [intOf]; omega
            | true =>
              have hhX := Lib.hid hh; clear hh
              go_wp2_with fail
              refine (l1Has_val _ _ true _ hhX.out (by omega) hnn0).mono ?_
              rintro e w' ⟨rfl, rfl⟩
              go_wp2_with fail
              clear ck0 cj0 hnn0 heq hnot
              have HJ := Lib.hid hd; clear hd
              go_loopw [5, 6] (fun v i wr => ∃ m : Nat, m ≤ n ∧ i = .int .i64 m ∧ v = .bool (apB f k j m) ∧ Drew w wr) (fun _ i _ => n - (intOf i).toNat)
              case atStart => exact ⟨0, Nat.zero_le _, rfl, by rw [apB_zero], HJ.out⟩
              case round =>
                clear HJ
                obtain ⟨m, hm, rfl, rfl, hd⟩ := hrel
                by_cases hmn : m < n
                · have hrr : Row wr b o n f := by obtain ⟨m, rfl⟩ := hd; exact HR.out.drewN m
                  have ck := hrr k hlt
                  have cj := hrr j hjn
                  have cm := hrr m hmn
                  have hkn : (k : Int) < (n : Int) := by omega
                  have hjn' : (j : Int) < (n : Int) := by omega
                  have hmn' : (m : Int) < (n : Int) := by omega
                  have hnn := (HPW.out.rng k hlt).1
                  clear hrr
                  cases hap : apB f k j m with
                  | true =>
                    have HS := Lib.hid (apB_old hap); clear hap
                    go_wp2_with fail
                    go_quiet (fail)
                    go_wp2_with fail
                    go_roundw
                    case rel => exact ⟨m + 1, by omega, by go_num, by rw [HS.out], hd.more _⟩
                    case measure => simp [intOf]; omega
                  | false =>
                    cases hh : hasB (f k) m with
                    | false =>
                      have HS := Lib.hid (apB_not hap hh); have HH := Lib.hid hh; clear hap hh
                      go_wp2_with fail
                      go_quiet ((go_at_call 87; exact quiet_left (l1Has_val _ _ false _ HH.out (by omega) hnn)))
                      go_wp2_with fail
                      go_roundw
                      case rel => exact ⟨m + 1, by omega, by go_num, by rw [HS.out], hd.more _⟩
                      case measure => simp [intOf]; omega
                    | true =>
                      cases hz : (andI (f m) (f j) == 0) with
                      | true =>
                        have HS := Lib.hid (apB_new hh hz); have HH := Lib.hid hh; have HZ := Lib.hid hz; clear hap hh hz
                        go_wp2_with fail
                        go_quiet ((go_at_call 87; exact quiet_left (l1Has_val _ _ true _ HH.out (by omega) hnn)))
                        go_wp2_with fail
                        go_roundw
                        case rel => exact ⟨m + 1, by omega, by go_num, by rw [HS.out]; exact congrArg Value.bool HZ.out, hd.more _⟩
                        case measure => simp [intOf]; omega
                      | false =>
                        have HS := Lib.hid (apB_meets hap hz); have HH := Lib.hid hh; have HZ := Lib.hid hz; clear hap hh hz
                        go_wp2_with fail
                        go_quiet ((go_at_call 87; exact quiet_left (l1Has_val _ _ true _ HH.out (by omega) hnn)))
                        go_wp2_with fail
                        go_roundw
                        case rel => exact ⟨m + 1, by omega, by go_num, by rw [HS.out]; exact congrArg Value.bool HZ.out, hd.more _⟩
                        case measure => simp [intOf]; omega
                · have hme : m = n := by omega
                  subst hme
                  cases hap : apB f k j m with
                  | true =>
                    have HG2 := Lib.hid (weakG_ap HPW.out hlt hjk hhX.out hap); clear hap
                    go_wp2_with fail
                    go_roundw
                    case rel => exact ⟨j + 1, by omega, by go_num, fun c hc => by
                      by_cases hcj : c = j
                      · subst hcj; exact HG2.out
                      · exact hin c (by omega), hd⟩
                    case measure => simp [intOf]; omega
                  | false =>
                    have HF := Lib.hid (weakB_no HG.out hlt hjn (fun e => hjk e.symm) (weakG_ap HPW.out hlt hjk hhX.out hap)); clear hap
                    go_wp2_with fail
                    go_ret
                    exact ⟨retb HF.out.symm, hd⟩
        · go_wp2_with fail
          go_roundw
          case rel => exact ⟨k + 1, by omega, by go_num, fun a ha c hc => by
            by_cases hak : a = k
            · subst hak; exact hin c (by omega)
            · exact hall a (by omega) c hc, hd⟩
          case measure => simp [intOf]; omega
    · have HF := Lib.hid (weakB_of HG.out (fun a ha c hc => hall a (by omega) c hc))
      go_wp2_with fail
      go_ret
      exact ⟨retb HF.out.symm, hd⟩
theorem specWeakOk_any (a : Option Addr) (n cap : Nat) (f : Nat → Int) (w : World) (hi : Ints w a n f) :
    Calls Tryz.prog 72 #[.slice a n cap] w fun e w' => e = .returned (.bool (weakB n f)) ∧ Drew w w' := by
  cases hg : worldB n f with
  | true =>
    obtain ⟨b, o, rfl, hlt, hr⟩ := hi.row (worldB_7 hg).1
    exact specWeakOk_in b o n cap f hg w hi hr
  | false =>
    have hfin : weakB n f = false := by unfold weakB; rw [hg]; rfl
    have HF := Lib.hid hfin; have HG := Lib.hid hg; have HN := Lib.hid hi; clear hfin hg hi
    have hn := HN.out.1.1
    go_enter Tryz.func72, Tryz.ntmps72
    go_wp2_with fail
    refine (specWorldOk_val _ _ _ f false _ HG.out HN.out).mono ?_
    rintro e w' ⟨rfl, m0, rfl⟩
    go_wp2_with fail
    go_ret
    exact ⟨retb HF.out.symm, _, rfl⟩
theorem strongB_no {n : Nat} {f : Nat → Int} {a c : Nat} (_ : worldB n f = true) (ha : a < n) (hc : c < n) (hac : a ≠ c) (h : strongG n f a c = false) : strongB n f = false := by
  unfold strongB; rw [each_no ha hc hac h, Bool.and_false]
theorem strongB_of {n : Nat} {f : Nat → Int} (hw : worldB n f = true) (h : ∀ a, a < n → ∀ c, c < n → strongG n f a c = true) : strongB n f = true := by
  unfold strongB; rw [hw, each_of h]; rfl
set_option maxRecDepth 100000 in
theorem specStrongOk_in (b o n cap : Nat) (f : Nat → Int) (hg : worldB n f = true) (w : World) (hi : Ints w (some ⟨b, o, none⟩) n f) (hr : Row w b o n f) :
    Calls Tryz.prog 73 #[.slice (some ⟨b, o, none⟩) n cap] w fun e w' => e = .returned (.bool (strongB n f)) ∧ Drew w w' := by
  have h7 := (worldB_7 hg).2
  have HPW := Lib.hid (world_of hi hg)
  have HG := Lib.hid hg; have HN := Lib.hid hi; have HR := Lib.hid hr; clear hg hi hr
  go_enter Tryz.func73, Tryz.ntmps73
  go_wp2_with fail
  refine (specWorldOk_val _ _ _ f true _ HG.out HN.out).mono ?_
  rintro e w0 ⟨rfl, hd0⟩
  go_wp2_with fail
  go_loopw [3] (fun i wr => ∃ k : Nat, k ≤ n ∧ i = .int .i64 k ∧ Hid (∀ a, a < k → ∀ c, c < n → strongG n f a c = true) ∧ Drew w wr) (fun i _ => n - (intOf i).toNat)
  case atStart => exact ⟨0, Nat.zero_le _, rfl, fun a ha => absurd ha (Nat.not_lt_zero _), hd0⟩
  case round =>
    clear hd0
    obtain ⟨k, hk, rfl, hall, hd⟩ := hrel
    by_cases hlt : k < n
    · go_wp2_with fail
      go_loopw [4] (fun i wr => ∃ j : Nat, j ≤ n ∧ i = .int .i64 j ∧ Hid (∀ c, c < j → strongG n f k c = true) ∧ Drew w wr) (fun i _ => n - (intOf i).toNat)
      case atStart => exact ⟨0, Nat.zero_le _, rfl, fun a ha => absurd ha (Nat.not_lt_zero _), hd⟩
      case round =>
        clear hd
        obtain ⟨j, hj, rfl, hin, hd⟩ := hrel
        by_cases hjn : j < n
        · have hrr0 : Row wr b o n f := by obtain ⟨m, rfl⟩ := hd; exact HR.out.drewN m
          have ck0 := hrr0 k hlt
          have cj0 := hrr0 j hjn
          have hnn0 := (HPW.out.rng j hjn).1
          clear hrr0
          cases hh : hasB (f j) k with
          | true =>
            have HH := Lib.hid hh; clear hh
            have HG2 := Lib.hid (strongG_yes (n := n) HH.out)
            go_wp2_with fail
            refine (l1Has_val _ _ true _ HH.out (by omega) hnn0).mono ?_
            rintro e w' ⟨rfl, rfl⟩
            go_wp2_with fail
            go_roundw
            case rel => exact ⟨j + 1, by omega, by go_num, fun c hc => by
              by_cases hcj : c = j
              · subst hcj; exact HG2.out
              · exact hin c (by omega), hd⟩
            case measure => simp [intOf]; omega
          | false =>
            have hhX := Lib.hid hh; clear hh
            go_wp2_with fail
            refine (l1Has_val _ _ false _ hhX.out (by omega) hnn0).mono ?_
            rintro e w' ⟨rfl, rfl⟩
            go_wp2_with fail
            clear ck0 cj0 hnn0
            have HJ := Lib.hid hd; clear hd
            go_loopw [5, 6] (fun v i wr => ∃ m : Nat, m ≤ n ∧ i = .int .i64 m ∧ v = .bool (apB f k j m) ∧ Drew w wr) (fun _ i _ => n - (intOf i).toNat)
            case atStart => exact ⟨0, Nat.zero_le _, rfl, by rw [apB_zero], HJ.out⟩
            case round =>
              clear HJ
              obtain ⟨m, hm, rfl, rfl, hd⟩ := hrel
              by_cases hmn : m < n
              · have hrr : Row wr b o n f := by obtain ⟨m, rfl⟩ := hd; exact HR.out.drewN m
                have ck := hrr k hlt
                have cj := hrr j hjn
                have cm := hrr m hmn
                have hkn : (k : Int) < (n : Int) := by omega
                have hjn' : (j : Int) < (n : Int) := by omega
                have hmn' : (m : Int) < (n : Int) := by omega
                have hnn := (HPW.out.rng k hlt).1
                clear hrr
                cases hap : apB f k j m with
                | true =>
                  have HS := Lib.hid (apB_old hap); clear hap
                  go_wp2_with fail
                  go_quiet (fail)
                  go_wp2_with fail
                  go_roundw
                  case rel => exact ⟨m + 1, by omega, by go_num, by rw [HS.out], hd.more _⟩
                  case measure => simp [intOf]; omega
                | false =>
                  cases hh : hasB (f k) m with
                  | false =>
                    have HS := Lib.hid (apB_not hap hh); have HH := Lib.hid hh; clear hap hh
                    go_wp2_with fail
                    go_quiet ((go_at_call 87; exact quiet_left (l1Has_val _ _ false _ HH.out (by omega) hnn)))
                    go_wp2_with fail
                    go_roundw
                    case rel => exact ⟨m + 1, by omega, by go_num, by rw [HS.out], hd.more _⟩
                    case measure => simp [intOf]; omega
                  | true =>
                    cases hz : (andI (f m) (f j) == 0) with
                    | true =>
                      have HS := Lib.hid (apB_new hh hz); have HH := Lib.hid hh; have HZ := Lib.hid hz; clear hap hh hz
                      go_wp2_with fail
                      go_quiet ((go_at_call 87; exact quiet_left (l1Has_val _ _ true _ HH.out (by omega) hnn)))
                      go_wp2_with fail
                      go_roundw
                      case rel => exact ⟨m + 1, by omega, by go_num, by rw [HS.out]; exact congrArg Value.bool HZ.out, hd.more _⟩
                      case measure => simp [intOf]; omega
                    | false =>
                      have HS := Lib.hid (apB_meets hap hz); have HH := Lib.hid hh; have HZ := Lib.hid hz; clear hap hh hz
                      go_wp2_with fail
                      go_quiet ((go_at_call 87; exact quiet_left (l1Has_val _ _ true _ HH.out (by omega) hnn)))
                      go_wp2_with fail
                      go_roundw
                      case rel => exact ⟨m + 1, by omega, by go_num, by rw [HS.out]; exact congrArg Value.bool HZ.out, hd.more _⟩
                      case measure => simp [intOf]; omega
              · have hme : m = n := by omega
                subst hme
                cases hap : apB f k j m with
                | true =>
                  have HG2 := Lib.hid (strongG_ap HPW.out hlt hhX.out hap); clear hap
                  go_wp2_with fail
                  go_roundw
                  case rel => exact ⟨j + 1, by omega, by go_num, fun c hc => by
                    by_cases hcj : c = j
                    · subst hcj; exact HG2.out
                    · exact hin c (by omega), hd⟩
                  case measure => simp [intOf]; omega
                | false =>
                  have HF := Lib.hid (strongB_no HG.out hlt hjn (fun e => by subst e; have hs := HPW.out.self k hlt; rw [hhX.out] at hs; cases hs) (strongG_ap HPW.out hlt hhX.out hap)); clear hap
                  go_wp2_with fail
                  go_ret
                  exact ⟨retb HF.out.symm, hd⟩
        · go_wp2_with fail
          go_roundw
          case rel => exact ⟨k + 1, by omega, by go_num, fun a ha c hc => by
            by_cases hak : a = k
            · subst hak; exact hin c (by omega)
            · exact hall a (by omega) c hc, hd⟩
          case measure => simp [intOf]; omega
    · have HF := Lib.hid (strongB_of HG.out (fun a ha c hc => hall a (by omega) c hc))
      go_wp2_with fail
      go_ret
      exact ⟨retb HF.out.symm, hd⟩
theorem specStrongOk_any (a : Option Addr) (n cap : Nat) (f : Nat → Int) (w : World) (hi : Ints w a n f) :
    Calls Tryz.prog 73 #[.slice a n cap] w fun e w' => e = .returned (.bool (strongB n f)) ∧ Drew w w' := by
  cases hg : worldB n f with
  | true =>
    obtain ⟨b, o, rfl, hlt, hr⟩ := hi.row (worldB_7 hg).1
    exact specStrongOk_in b o n cap f hg w hi hr
  | false =>
    have hfin : strongB n f = false := by unfold strongB; rw [hg]; rfl
    have HF := Lib.hid hfin; have HG := Lib.hid hg; have HN := Lib.hid hi; clear hfin hg hi
    have hn := HN.out.1.1
    go_enter Tryz.func73, Tryz.ntmps73
    go_wp2_with fail
    refine (specWorldOk_val _ _ _ f false _ HG.out HN.out).mono ?_
    rintro e w' ⟨rfl, m0, rfl⟩
    go_wp2_with fail
    go_ret
    exact ⟨retb HF.out.symm, _, rfl⟩
def metK (n : Nat) (f : Nat → Int) (s : Int) : Nat → Int
  | 0 => 0
  | k + 1 => if hasB s k then orI (metK n f s k) (meetI n f k) else metK n f s k
def metI (n : Nat) (f : Nat → Int) (s : Int) : Int := metK n f s n
def sumG (n : Nat) (f : Nat → Int) (s : Int) (a : Nat) : Bool := meetI n f a == metI n f s
def setB (n : Nat) (f : Nat → Int) (s : Int) : Bool := worldB n f && inB 1 s (2 ^ n - 1)
def sumsI (n : Nat) (f : Nat → Int) (s : Int) : Int := setOf (sumG n f s) n
def sumsB (n : Nat) (f : Nat → Int) (s : Int) : Int := if setB n f s then sumsI n f s else -1
def hasSumB (n : Nat) (f : Nat → Int) (s : Int) : Bool := decide (∃ a, a < n ∧ sumG n f s a = true)
def summedB (n : Nat) (f : Nat → Int) : Bool := worldB n f && decide (∀ s : Nat, s < 2 ^ n → 1 ≤ s → hasSumB n f s = true)
theorem metK_yes {n : Nat} {f : Nat → Int} {s : Int} {k : Nat} (h : hasB s k = true) : metK n f s (k + 1) = bits .or .i64 (metK n f s k) (meetI n f k) := by
  rw [metK, if_pos h]; rfl
theorem metK_no {n : Nat} {f : Nat → Int} {s : Int} {k : Nat} (h : hasB s k = false) : metK n f s (k + 1) = metK n f s k := by
  rw [metK, if_neg (by rw [h]; decide)]
theorem anti_eq {n : Nat} {f : Nat → Int} (hP : WorldP n f) {a b : Nat} (ha : a < n) (hb : b < n) (h1 : hasB (f a) b = true) (h2 : hasB (f b) a = true) : a = b := by
  apply Classical.byContradiction; intro e
  rw [hP.anti a ha b hb e h1] at h2; cases h2
theorem setB_iff {n : Nat} {f : Nat → Int} {s : Int} : setB n f s = true ↔ worldB n f = true ∧ 1 ≤ s ∧ s ≤ 2 ^ n - 1 := by
  unfold setB inB; simp only [Bool.and_eq_true, decide_eq_true_eq]
theorem sums_bit {n : Nat} {f : Nat → Int} {s : Int} {a : Nat} (ha : a < n) (hn : n ≤ 7) : hasB (sumsI n f s) a = sumG n f s a := by
  unfold sumsI; rw [setOf_bit _ _ _ (by omega), decide_eq_true ha, Bool.true_and]
theorem or_eq_within (x y : Int) (hx : I64 x) : (bits .or .i64 x y == x) = withinB y x := by
  rw [Bool.eq_iff_iff, beq_iff_eq, within_iff]; exact or_eq_iff x y hx
theorem setB_eq {n : Nat} {f : Nat → Int} {s : Int} (h64 : I64 s) : setB n f s = (worldB n f && (!(s == 0) && withinB s (2 ^ n - 1))) := by
  unfold setB
  cases hw : worldB n f with
  | false => rfl
  | true =>
    have h7 := (worldB_7 hw).2
    rw [Bool.true_and, Bool.true_and, Bool.eq_iff_iff, Bool.and_eq_true, within_low s n (by omega) h64]
    unfold inB
    simp only [Bool.and_eq_true, decide_eq_true_eq, Bool.not_eq_true', beq_eq_false_iff_ne]
    omega
theorem Drew.onto {a b c : World} (h : Drew a b) (k : Drew b c) : Drew a c := by obtain ⟨m, rfl⟩ := k; exact h.more m
theorem row_drew {w w' : World} {b o n : Nat} {f : Nat → Int} (h : Row w b o n f) (hd : Drew w w') : Row w' b o n f := by obtain ⟨m, rfl⟩ := hd; exact h.drewN m
theorem l4Set_any (a : Option Addr) (n cap : Nat) (f : Nat → Int) (s : Int) (w : World) (hi : Ints w a n f) :
    Calls Tryz.prog 124 #[.slice a n cap, .int .i64 s] w fun e w' => e = .returned (.bool (setB n f s)) ∧ Drew w w' := by
  cases hw : worldB n f with
  | true =>
    have h7 := (worldB_7 hw).2
    obtain ⟨hp1, hp2⟩ := pow_bounds n h7
    have HF := Lib.hid (show setB n f s = inB 1 s (2 ^ n - 1) by unfold setB; rw [hw]; rfl)
    have HW := Lib.hid hw; have HN := Lib.hid hi; clear hw hi
    go_enter Tryz.func124, Tryz.ntmps124
    go_wp2_with fail
    refine (specWorldOk_val _ _ _ f true _ HW.out HN.out).mono ?_
    rintro e w' ⟨rfl, m, rfl⟩
    go_wp2_with fail
    refine (l1In_any s 1 (2 ^ n - 1) _).mono ?_
    rintro e w' ⟨rfl, rfl⟩
    go_wp2_with fail
    go_ret
    exact ⟨retb HF.out.symm, _, rfl⟩
  | false =>
    have HF := Lib.hid (show setB n f s = false by unfold setB; rw [hw]; rfl)
    have HW := Lib.hid hw; have HN := Lib.hid hi; clear hw hi
    go_enter Tryz.func124, Tryz.ntmps124
    go_wp2_with fail
    refine (specWorldOk_val _ _ _ f false _ HW.out HN.out).mono ?_
    rintro e w' ⟨rfl, m, rfl⟩
    go_wp2_with fail
    go_ret
    exact ⟨retb HF.out.symm, _, rfl⟩
theorem l4Set_val (a : Option Addr) (n cap : Nat) (f : Nat → Int) (s : Int) (v : Bool) (w : World) (hv : setB n f s = v) (hi : Ints w a n f) :
    Calls Tryz.prog 124 #[.slice a n cap, .int .i64 s] w fun e w' => e = .returned (.bool v) ∧ Drew w w' := by
  subst hv; exact l4Set_any a n cap f s w hi
theorem meetB_at {n : Nat} {f : Nat → Int} {k : Nat} (hw : worldB n f = true) (hk : k < n) : meetB n f k = meetI n f k := by
  unfold meetB; rw [if_pos ((good1_iff n f k).2 ⟨hw, by omega, by omega⟩), Int.toNat_natCast]
theorem specMeet_at (a : Option Addr) (n cap : Nat) (f : Nat → Int) (k : Nat) (w : World) (hw : worldB n f = true) (hk : k < n) (hi : Ints w a n f) :
    Calls Tryz.prog 125 #[.slice a n cap, .int .i64 k] w fun e w' => e = .returned (.int .i64 (meetI n f k)) ∧ Drew w w' := by
  rw [← meetB_at hw hk]; exact specMeetingSet_any a n cap f k w hi
theorem l4Met_any (a : Option Addr) (n cap : Nat) (f : Nat → Int) (s : Int) (w : World) (hs : setB n f s = true) (hi : Ints w a n f) :
    Calls Tryz.prog 126 #[.slice a n cap, .int .i64 s] w fun e w' => e = .returned (.int .i64 (metI n f s)) ∧ Drew w w' := by
  obtain ⟨hw, hs1, hs2⟩ := setB_iff.1 hs
  have h7 := (worldB_7 hw).2
  have hs0 : 0 ≤ s := by omega
  have HW := Lib.hid hw; have HN := Lib.hid hi; clear hw hi hs hs1 hs2
  go_enter Tryz.func126, Tryz.ntmps126
  go_wp2_with fail
  go_loopw [5, 6] (fun v i wr => ∃ k : Nat, k ≤ n ∧ i = .int .i64 k ∧ v = .int .i64 (metK n f s k) ∧ Drew w wr) (fun _ i _ => n - (intOf i).toNat)
  case atStart => exact ⟨0, Nat.zero_le _, rfl, rfl, Drew.refl _⟩
  case round =>
    obtain ⟨k, hk, rfl, rfl, hd⟩ := hrel
    by_cases hlt : k < n
    · have hki : (k : Int) < (n : Int) := by omega
      have hk63 : k ≤ 63 := by omega
      cases hb : hasB s k with
      | true =>
        have HS := Lib.hid (metK_yes (n := n) (f := f) hb); have HB := Lib.hid hb; clear hb
        go_wp2_with fail
        refine (l1Has_val s k true _ HB.out hk63 hs0).mono ?_
        rintro e w1 ⟨rfl, rfl⟩
        go_wp2_with fail
        refine (specMeet_at a n _ f k _ HW.out hlt (HN.out.drew hd)).mono ?_
        rintro e w1 ⟨rfl, m1, rfl⟩
        go_wp2_with fail
        go_roundw
        case rel => exact ⟨k + 1, by omega, by go_num, by rw [HS.out], hd.more m1⟩
        case measure => simp [intOf]; omega
      | false =>
        have HS := Lib.hid (metK_no (n := n) (f := f) hb); have HB := Lib.hid hb; clear hb
        go_wp2_with fail
        refine (l1Has_val s k false _ HB.out hk63 hs0).mono ?_
        rintro e w1 ⟨rfl, rfl⟩
        go_wp2_with fail
        go_roundw
        case rel => exact ⟨k + 1, by omega, by go_num, by rw [HS.out], hd⟩
        case measure => simp [intOf]; omega
    · have hkn : k = n := by omega
      subst hkn
      go_wp2_with fail
      go_ret
      exact ⟨rfl, hd⟩
theorem specSumsOf_in (b o n cap : Nat) (f : Nat → Int) (s : Int) (w : World) (hs : setB n f s = true) (hi : Ints w (some ⟨b, o, none⟩) n f) (hr : Row w b o n f) :
    Calls Tryz.prog 80 #[.slice (some ⟨b, o, none⟩) n cap, .int .i64 s] w fun e w' => e = .returned (.int .i64 (sumsI n f s)) ∧ Drew w w' := by
  obtain ⟨hw, hs1, hs2⟩ := setB_iff.1 hs
  have h7 := (worldB_7 hw).2
  have HW := Lib.hid hw; have HN := Lib.hid hi; have HS := Lib.hid hs; have HR := Lib.hid hr; clear hw hi hs hs1 hs2 hr
  have h64 := Lib.hid HN.out.i64
  go_enter Tryz.func80, Tryz.ntmps80
  go_wp2_with fail
  refine (l4Set_val _ n _ f s true _ HS.out HN.out).mono ?_
  rintro e w0 ⟨rfl, m0, rfl⟩
  go_wp2_with fail
  go_loopw [5, 6] (fun v i wr => ∃ k : Nat, k ≤ n ∧ i = .int .i64 k ∧ v = .int .i64 (setOf (sumG n f s) k) ∧ Drew w wr) (fun _ i _ => n - (intOf i).toNat)
  case atStart => exact ⟨0, Nat.zero_le _, rfl, rfl, _, rfl⟩
  case round =>
    obtain ⟨k, hk, rfl, rfl, hd⟩ := hrel
    by_cases hlt : k < n
    · have hki : (k : Int) < (n : Int) := by omega
      have ⟨hp1, hp2⟩ := pow_bounds k (by omega)
      cases hg : (sumG n f s) k with
      | true =>
        have HG := Lib.hid (setOf_yes (sumG n f s) k hg)
        have he : (meetI n f k == metI n f s) = true := hg
        clear hg
        go_wp2_with fail
        refine (specMeet_at _ n _ f k _ HW.out hlt (HN.out.drew hd)).mono ?_
        rintro e w1 ⟨rfl, hd1⟩
        replace hd := hd.onto hd1
        go_wp2_with fail
        refine (l4Met_any _ n _ f s _ HS.out (HN.out.drew hd)).mono ?_
        rintro e w2 ⟨rfl, hd2⟩
        replace hd := hd.onto hd2
        go_wp2_with fail
        go_roundw
        case rel => exact ⟨k + 1, by omega, by go_num, by rw [HG.out], hd⟩
        case measure => simp [intOf]; omega
      | false =>
        have HG := Lib.hid (setOf_no (sumG n f s) k hg)
        have he : (meetI n f k == metI n f s) = false := hg
        clear hg
        go_wp2_with fail
        refine (specMeet_at _ n _ f k _ HW.out hlt (HN.out.drew hd)).mono ?_
        rintro e w1 ⟨rfl, hd1⟩
        replace hd := hd.onto hd1
        go_wp2_with fail
        refine (l4Met_any _ n _ f s _ HS.out (HN.out.drew hd)).mono ?_
        rintro e w2 ⟨rfl, hd2⟩
        replace hd := hd.onto hd2
        go_wp2_with fail
        go_roundw
        case rel => exact ⟨k + 1, by omega, by go_num, by rw [HG.out], hd⟩
        case measure => simp [intOf]; omega
    · have hkn : k = n := by omega
      subst hkn
      go_wp2_with fail
      go_ret
      exact ⟨rfl, hd⟩
theorem specSumsOf_any (a : Option Addr) (n cap : Nat) (f : Nat → Int) (s : Int) (w : World) (hi : Ints w a n f) :
    Calls Tryz.prog 80 #[.slice a n cap, .int .i64 s] w fun e w' => e = .returned (.int .i64 (sumsB n f s)) ∧ Drew w w' := by
  cases hs : setB n f s with
  | true =>
    obtain ⟨b, o, rfl, hlt, hr⟩ := hi.row (worldB_7 (setB_iff.1 hs).1).1
    have e : sumsB n f s = sumsI n f s := by unfold sumsB; rw [if_pos hs]
    rw [e]
    exact specSumsOf_in b o n cap f s w hs hi hr
  | false =>
    have HF := Lib.hid (show sumsB n f s = -1 by unfold sumsB; rw [if_neg (by rw [hs]; decide)])
    have HN := Lib.hid hi; have HS := Lib.hid hs; clear hi hs
    go_enter Tryz.func80, Tryz.ntmps80
    go_wp2_with fail
    refine (l4Set_val _ n _ f s false _ HS.out HN.out).mono ?_
    rintro e w0 ⟨rfl, m0, rfl⟩
    go_wp2_with fail
    go_ret
    exact ⟨reti HF.out.symm, _, rfl⟩
theorem within_val (x y : Int) (v : Bool) (w : World) (hv : withinB x y = v) :
    Calls Tryz.prog 174 #[.int .i64 x, .int .i64 y] w fun e w' => e = .returned (.bool v) ∧ w = w' := by
  subst hv; exact within_any x y w
theorem has_val (x : Int) (a : Nat) (v : Bool) (w : World) (hv : hasB x a = v) (ha : a ≤ 63) :
    Calls Tryz.prog 177 #[.int .i64 x, .int .i64 a] w fun e w' => e = .returned (.bool v) ∧ w = w' := by
  subst hv; exact has_any x a ha w
def SetEnd (n : Nat) (f : Nat → Int) (s : Int) (w : World) (e : Ending) (w' : World) : Prop :=
  Below w.heap.size w w' ∧ ((setB n f s = true ∧ e = .returned (.tuple #[.slice (some ⟨w.heap.size, 0, none⟩) n n, .int .i64 s, .bool true]) ∧ w.heap.size < w'.heap.size ∧ Row w' w.heap.size 0 n f)
    ∨ (setB n f s = false ∧ e = .returned (.tuple #[.slice none 0 0, .int .i64 0, .bool false])))
theorem worldWithSet_any (a : Option Addr) (n cap : Nat) (f : Nat → Int) (s : Int) (hs64 : I64 s) (w : World) (hi : Ints w a n f) :
    Calls Tryz.prog 192 #[.slice a n cap, .int .i64 s] w (SetEnd n f s w) := by
  have he := setB_eq (n := n) (f := f) hs64
  have HN := Lib.hid hi; clear hi
  cases h0 : (s == 0) with
  | true =>
    have HF := Lib.hid (show setB n f s = false by rw [he, h0]; simp)
    clear he
    go_enter Tryz.func192, Tryz.ntmps192
    go_wp2_with fail
    refine (worldOf_end a n cap f w HN.out).mono ?_
    rintro e w' ⟨hbel, ⟨hb, rfl, hs, hr⟩ | ⟨hb, rfl⟩⟩
    · clear hb hr
      go_wp2_with fail
      go_ret3
      exact ⟨hbel, .inr ⟨HF.out, rfl⟩⟩
    · clear hb
      go_wp2_with fail
      go_ret3
      exact ⟨hbel, .inr ⟨HF.out, rfl⟩⟩
  | false =>
    cases hx : withinB s (2 ^ n - 1) with
    | true =>
      have HF := Lib.hid (show setB n f s = worldB n f by rw [he, h0, hx]; simp)
      have HX := Lib.hid hx
      clear he hx
      go_enter Tryz.func192, Tryz.ntmps192
      go_wp2_with fail
      refine (worldOf_end a n cap f w HN.out).mono ?_
      rintro e w' ⟨hbel, ⟨hb, rfl, hs, hr⟩ | ⟨hb, rfl⟩⟩
      · have hfin := Lib.hid (HF.out.trans hb)
        have h7 := (worldB_7 hb).2
        have HR := Lib.hid hr
        clear hb hr
        go_wp2_with fail
        refine (all_any _ _ _ h7 _).mono ?_
        rintro e w2 ⟨rfl, rfl⟩
        go_wp2_with fail
        refine (within_val s (2 ^ n - 1) true _ HX.out).mono ?_
        rintro e w2 ⟨rfl, rfl⟩
        go_wp2_with fail
        go_ret3
        exact ⟨hbel, .inl ⟨hfin.out, rfl, hs, HR.out⟩⟩
      · have hfin := Lib.hid (HF.out.trans hb)
        clear hb
        go_wp2_with fail
        go_ret3
        exact ⟨hbel, .inr ⟨hfin.out, rfl⟩⟩
    | false =>
      have HF := Lib.hid (show setB n f s = false by rw [he, h0, hx]; simp)
      have HX := Lib.hid hx
      clear he hx
      go_enter Tryz.func192, Tryz.ntmps192
      go_wp2_with fail
      refine (worldOf_end a n cap f w HN.out).mono ?_
      rintro e w' ⟨hbel, ⟨hb, rfl, hs, hr⟩ | ⟨hb, rfl⟩⟩
      · have h7 := (worldB_7 hb).2
        clear hb hr
        go_wp2_with fail
        refine (all_any _ _ _ h7 _).mono ?_
        rintro e w2 ⟨rfl, rfl⟩
        go_wp2_with fail
        refine (within_val s (2 ^ n - 1) false _ HX.out).mono ?_
        rintro e w2 ⟨rfl, rfl⟩
        go_wp2_with fail
        go_ret3
        exact ⟨hbel, .inr ⟨HF.out, rfl⟩⟩
      · clear hb
        go_wp2_with fail
        go_ret3
        exact ⟨hbel, .inr ⟨HF.out, rfl⟩⟩
theorem met_any (bk n cap : Nat) (f : Nat → Int) (s : Int) (hn : n ≤ 7) (w : World) (hr : Row w bk 0 n f) (hlt : bk < w.heap.size) :
    Calls Tryz.prog 221 #[.slice (some ⟨bk, 0, none⟩) n cap, .int .i64 s] w fun e w' => e = .returned (.int .i64 (metI n f s)) ∧ Below w.heap.size w w' := by
  have HR := Lib.hid hr; clear hr
  go_enter Tryz.func221, Tryz.ntmps221
  go_wp2_with fail
  go_loopw [5, 9] (fun v i wr => ∃ k : Nat, k ≤ n ∧ i = .int .i64 k ∧ v = .int .i64 (metK n f s k) ∧ Below w.heap.size w wr) (fun _ i _ => n - (intOf i).toNat)
  case atStart => exact ⟨0, Nat.zero_le _, rfl, rfl, Below.refl _ _⟩
  case round =>
    obtain ⟨k, hk, rfl, rfl, hd⟩ := hrel
    by_cases hk2 : k < n
    · have hki : (k : Int) < (n : Int) := by omega
      have hk63 : k ≤ 63 := by omega
      cases hb : hasB s k with
      | true =>
        have HS := Lib.hid (metK_yes (n := n) (f := f) hb); have HB := Lib.hid hb; clear hb
        go_wp2_with fail
        refine (has_val s k true _ HB.out hk63).mono ?_
        rintro e w1 ⟨rfl, rfl⟩
        go_wp2_with fail
        refine (meeting_any bk n cap k f hn hk2 _ (HR.out.below hd hlt) (Nat.lt_of_lt_of_le hlt hd.size)).mono ?_
        rintro e w1 ⟨rfl, hb1⟩
        replace hd := hd.trans (hb1.mono hd.size)
        clear hb1
        go_wp2_with fail
        go_roundw
        case rel => exact ⟨k + 1, by omega, by go_num, by rw [HS.out], hd⟩
        case measure => simp [intOf]; omega
      | false =>
        have HS := Lib.hid (metK_no (n := n) (f := f) hb); have HB := Lib.hid hb; clear hb
        go_wp2_with fail
        refine (has_val s k false _ HB.out hk63).mono ?_
        rintro e w1 ⟨rfl, rfl⟩
        go_wp2_with fail
        go_roundw
        case rel => exact ⟨k + 1, by omega, by go_num, by rw [HS.out], hd⟩
        case measure => simp [intOf]; omega
    · have hkn : k = n := by omega
      subst hkn
      go_wp2_with fail
      go_ret
      exact ⟨rfl, hd⟩
end Go.Proofs.YthaickihoagnmaaGreatDoor
namespace Go.Proofs.YthaickihoagnmaaGreatDoor
open Go.RowKit Go.Shelf
attribute [local go_sem] Oper.semAt_some
abbrev Th := { x : Nat // x < 7 }
def Came (g : Nat → Bool) (k : Nat) (xs : List Th) : Prop := xs.map (fun x => x.1) = (List.range k).filter g
theorem Came.none (g : Nat → Bool) : Came g 0 [] := rfl
theorem Came.yes {g : Nat → Bool} {k : Nat} {xs : List Th} (h : Came g k xs) (hk : k < 7) (hg : g k = true) : Came g (k + 1) (xs ++ [⟨k, hk⟩]) := by
  unfold Came at h ⊢
  rw [List.map_append, h, List.range_succ, List.filter_append]
  simp [hg]
theorem Came.no {g : Nat → Bool} {k : Nat} {xs : List Th} (h : Came g k xs) (hg : g k = false) : Came g (k + 1) xs := by
  unfold Came at h ⊢
  rw [h, List.range_succ, List.filter_append]
  simp [hg]
theorem Came.len {g : Nat → Bool} {k : Nat} {xs : List Th} (h : Came g k xs) : xs.length ≤ k := by
  unfold Came at h
  have h1 : xs.length = ((List.range k).filter g).length := by rw [← h, List.length_map]
  have h2 := List.length_filter_le g (List.range k)
  rw [List.length_range] at h2
  omega
theorem grown_of_below {W W' : World} (h : Below W.heap.size W W') : W.grownBy W' none :=
  ⟨h.os, h.tape, h.output, h.size, fun k hk _ => h.block k hk⟩
def Kept (n₀ Bp : Nat) (W W' : World) : Prop := Below n₀ W W' ∧ W'.cell? ⟨Bp, 0, none⟩ = W.cell? ⟨Bp, 0, none⟩
theorem Kept.of {n₀ Bp : Nat} {W W' : World} (h : Below W.heap.size W W') (hn : n₀ ≤ W.heap.size) (hB : Bp < W.heap.size) : Kept n₀ Bp W W' := ⟨h.mono hn, h.cell (p := ⟨Bp, 0, none⟩) hB⟩
theorem Kept.on {n₀ Bp : Nat} {A B C : World} (h : Kept n₀ Bp A B) (k : Kept n₀ Bp B C) : Kept n₀ Bp A C := ⟨h.1.trans k.1, k.2.trans h.2⟩
theorem kept_b {n₀ Bp : Nat} {w : World} (hn : n₀ ≤ w.heap.size) (hB : Bp < w.heap.size) (W : World) (l : Nat) (o o' : Obj) (hl : w.heap.size ≤ l) (h : W.heap[l]? = some o) (h1 : o.isCells = false) (h2 : o.isWalk = false) : Kept n₀ Bp W (W.putObj l o') :=
  ⟨belowK_b hn W l o o' hl h h1 h2, (belowK_b (n₀ := w.heap.size) (Nat.le_refl _) W l o o' hl h h1 h2).cell (p := ⟨Bp, 0, none⟩) hB⟩
theorem sums_any (v : Option Addr) (n cap : Nat) (s : Int) (w : World) :
    Calls Tryz.prog 193 #[.slice v n cap, .int .i64 s] w fun e w' => e = .returned (.func (.func 220) #[] #[.pointer (some ⟨w.heap.size, 0, none⟩), .pointer (some ⟨w.heap.size + 1, 0, none⟩)]) ∧
      w' = (w.alloc (.cells #[.slice v n cap] 136)).alloc (.cells #[.int .i64 s] 153) := by
  go_enter Tryz.func193, Tryz.ntmps193
  go_wp2_with fail
  go_ret
  exact ⟨rfl, rfl⟩
set_option maxRecDepth 100000 in
/-- the iterator: it yields the sums in their order -/
theorem sumsC_in (N l Bp Bq n₀ bk n cap : Nat) (f : Nat → Int) (s : Int) (hn : n ≤ 7) (hbk : bk < n₀) (J Jx : List Th → World → Prop) (W : World) (hn₀ : n₀ ≤ W.heap.size) (hBp : Bp < W.heap.size) (hJ : AbidesFrom W.heap.size J)
    (hY : ∀ pre x W, J pre W → pre.length < n → YieldAt Fence.wide (N - 1) Tryz.prog l #[.int .i64 (x.1 : Int)] W fun e W' =>
      (e = .returned (.bool true) ∧ J (pre ++ [x]) W' ∧ Kept n₀ Bp W W') ∨ (e = .returned (.bool false) ∧ Jx (pre ++ [x]) W'))
    (hr : Row W bk 0 n f) (hp : W.cell? ⟨Bp, 0, none⟩ = some (.slice (some ⟨bk, 0, none⟩) n cap)) (hq : W.cell? ⟨Bq, 0, none⟩ = some (.int .i64 s)) (h0 : J [] W) :
    CallsIn Fence.wide N Tryz.prog 220 #[.func (.yield l) #[] #[], .pointer (some ⟨Bp, 0, none⟩), .pointer (some ⟨Bq, 0, none⟩)] W fun e W' => (∃ v, e = .returned v) ∧
      ((∃ xs, Came (sumG n f s) n xs ∧ J xs W') ∨ (∃ pre, (∃ k, k < n ∧ sumG n f s k = true) ∧ Jx pre W')) := by
  have hlt : bk < W.heap.size := by omega
  have HP := Lib.hid hp; have HR := Lib.hid hr; have HJ := Lib.hid hJ; have HY := Lib.hid hY; clear hr hJ hY
  refine callsIn_of_wp Tryz.func220 rfl trivial ?_ rfl
  simp only [Tryz.ntmps220, List.size_toArray, List.length_cons, List.length_nil, Nat.reduceAdd, Nat.reduceSub, Array.replicate_succ, Array.replicate_zero, List.push_toArray, List.append_toArray, List.nil_append, List.cons_append]
  gi_wp2_with fail
  refine ⟨trivial, (fun h => by cases h), (callsIn_wide.2 (met_any bk n cap f s hn _ HR.out hlt)).mono ?_⟩
  rintro e w1 ⟨rfl, hb1⟩
  have hp1 : w1.cell? ⟨Bp, 0, none⟩ = some (.slice (some ⟨bk, 0, none⟩) n cap) := (hb1.cell (p := ⟨Bp, 0, none⟩) hBp).trans hp
  have H1 := Lib.hid (HJ.out [] _ _ none h0 (grown_of_below hb1) (fun r e => by cases e))
  have HB1 := Lib.hid (Kept.of hb1 hn₀ hBp)
  clear hb1 h0 hq
  gi_wp2_with fail
  gi_loopw [11] (fun i wr => ∃ k : Nat, k ≤ n ∧ i = .int .i64 k ∧ (∃ xs, Hid (Came (sumG n f s) k xs) ∧ Hid (J xs wr)) ∧ Hid (Kept n₀ Bp W wr)) (fun i _ => n - (intOf i).toNat)
  case atStart => exact ⟨0, Nat.zero_le _, rfl, ⟨[], Lib.hid (Came.none _), H1⟩, HB1⟩
  case round =>
    obtain ⟨k, hk, rfl, ⟨xs, hxs, hJx⟩, hB⟩ := hrel
    clear hp hp1
    have hp : wr.cell? ⟨Bp, 0, none⟩ = some (.slice (some ⟨bk, 0, none⟩) n cap) := hB.out.2.trans HP.out
    by_cases hk2 : k < n
    · have hki : (k : Int) < (n : Int) := by omega
      have hk7 : k < 7 := by omega
      have hszr : W.heap.size ≤ wr.heap.size := hB.out.1.size
      gi_wp2_with fail
      refine ⟨trivial, (fun h => by cases h), (callsIn_wide.2 (meeting_any bk n cap k f hn hk2 _ (HR.out.below hB.out.1 hbk) (by omega))).mono ?_⟩
      rintro e w2 ⟨rfl, hb2⟩
      replace hJx := Lib.hid (HJ.out xs _ _ none hJx.out (grown_of_below hb2) (fun r e => by cases e))
      replace hB := Lib.hid (hB.out.on (Kept.of hb2 (by omega) (by omega)))
      clear hb2 hszr hp
      cases hg : sumG n f s k with
      | true =>
        have he : (meetI n f k == metI n f s) = true := hg
        have HG := Lib.hid hg; clear hg
        obtain ⟨fn, tmps, assign, body, hy, hR⟩ := HY.out xs ⟨k, hk7⟩ w2 hJx.out (by have := hxs.out.len; omega)
        dsimp only at hy
        gi_wp2_with fail
        refine ⟨(fun h => by cases h), hR.mono ?_⟩
        rintro e W3 (⟨rfl, hJ3, hk3⟩ | ⟨rfl, hJx3⟩)
        · replace hJ3 := Lib.hid hJ3
          replace hB := Lib.hid (hB.out.on hk3)
          clear hk3 hy hR
          gi_wp2_with fail
          go_roundw
          case rel => exact ⟨k + 1, by omega, by go_num, ⟨_, Lib.hid (hxs.out.yes hk7 HG.out), hJ3⟩, hB⟩
          case measure => simp [intOf]; omega
        · replace hJx3 := Lib.hid hJx3
          clear hy hR
          gi_wp2_with fail
          refine bodyPost_ret (results_none rfl _ _ _) rfl ?_
          exact ⟨⟨_, rfl⟩, .inr ⟨_, ⟨k, hk2, HG.out⟩, hJx3.out⟩⟩
      | false =>
        have he : (meetI n f k == metI n f s) = false := hg
        have HG := Lib.hid hg; clear hg
        gi_wp2_with fail
        refine ⟨fun _ h => (by cases h), ?_⟩
        gi_wp2_with fail
        go_roundw
        case rel => exact ⟨k + 1, by omega, by go_num, ⟨xs, Lib.hid (hxs.out.no HG.out), hJx⟩, hB⟩
        case measure => simp [intOf]; omega
    · have hkn : k = n := by omega
      subst hkn
      gi_wp2_with fail
      go_end0
      exact ⟨⟨_, rfl⟩, .inl ⟨xs, hxs.out, hJx.out⟩⟩
theorem sumsC_stops (N Bp Bq n₀ bk n cap : Nat) (f : Nat → Int) (s : Int) (hn : n ≤ 7) (hbk : bk < n₀) (w : World) (hn₀ : n₀ ≤ w.heap.size) (hBp : Bp < w.heap.size)
    (hr : Row w bk 0 n f) (hBq : Bq < w.heap.size) (hp : w.cell? ⟨Bp, 0, none⟩ = some (.slice (some ⟨bk, 0, none⟩) n cap)) (hq : w.cell? ⟨Bq, 0, none⟩ = some (.int .i64 s)) :
    SeqStopsK Fence.wide N Tryz.prog 220 #[.pointer (some ⟨Bp, 0, none⟩), .pointer (some ⟨Bq, 0, none⟩)] (fun x : Th => #[Value.int .i64 (x.1 : Int)]) (Kept n₀ Bp)
      (Came (sumG n f s) n) (fun _ => ∃ k, k < n ∧ sumG n f s k = true) n w := fun l J Jx W hW hJ _ hY h0 =>
  sumsC_in N l Bp Bq n₀ bk n cap f s hn hbk J Jx W (Nat.le_trans hn₀ hW.size) (Nat.lt_of_lt_of_le hBp hW.size) hJ hY (hr.below hW (by omega)) ((hW.cell (p := ⟨Bp, 0, none⟩) hBp).trans hp) ((hW.cell (p := ⟨Bq, 0, none⟩) hBq).trans hq) h0
attribute [local go_sem] Oper.semAt_some
def orAll (xs : List Th) : Int := (xs.map (fun x => x.1)).foldl (fun v a => bits .or .i64 v (2 ^ a)) 0
theorem orAll_snoc (xs : List Th) (x : Th) : orAll (xs ++ [x]) = bits .or .i64 (orAll xs) (2 ^ x.1) := by
  unfold orAll; rw [List.map_append, List.foldl_append]; rfl
theorem orAll_range (g : Nat → Bool) (k : Nat) : ((List.range k).filter g).foldl (fun v a => bits .or .i64 v (2 ^ a)) 0 = setOf g k := by
  induction k with
  | zero => rfl
  | succ k ih =>
    rw [List.range_succ, List.filter_append, List.foldl_append, ih]
    cases h : g k with
    | true => rw [setOf_yes g k h]; simp [h]
    | false => rw [setOf_no g k h]; simp [h]
theorem orAll_came {g : Nat → Bool} {k : Nat} {xs : List Th} (h : Came g k xs) : orAll xs = setOf g k := by
  unfold Came at h; unfold orAll; rw [h, orAll_range]
set_option maxRecDepth 100000 in
theorem SumsOf_in (a : Option Addr) (n cap : Nat) (f : Nat → Int) (s : Int) (hs64 : I64 s) (w : World) (hi : Ints w a n f) (hs : setB n f s = true) :
    Calls Tryz.prog 167 #[.slice a n cap, .int .i64 s] w fun e w' => e = .returned (.int .i64 (sumsI n f s)) ∧ Below w.heap.size w w' := by
  have h7 := (worldB_7 (setB_iff.1 hs).1).2
  have HN := Lib.hid hi; have HS := Lib.hid hs; clear hi hs
  refine (callsIn_wide (n := 9)).1 ?_
  refine callsIn_of_wp_marks Tryz.func167 rfl trivial ?_ rfl
  simp only [Tryz.ntmps167, List.size_toArray, List.length_cons, List.length_nil, Nat.reduceAdd, Nat.reduceSub, Array.replicate_succ, Array.replicate_zero, List.push_toArray, List.append_toArray, List.nil_append, List.cons_append]
  gi_wp2_with fail
  refine ⟨trivial, (callsIn_wide.2 (worldWithSet_any a n cap f s hs64 w HN.out)).mono ?_⟩
  rintro e w1 ⟨hbel, ⟨hb, rfl, hlt, hr⟩ | ⟨hb, rfl⟩⟩
  · have HR := Lib.hid hr; clear hb hr
    gi_wp2_with fail
    refine ⟨trivial, (callsIn_wide.2 (sums_any _ n n s _)).mono ?_⟩
    rintro e w2 ⟨rfl, rfl⟩
    gi_wp2_with fail
    have bF := Boxed.new w1 153 (.int .i64 0)
    have bP := Boxed.new (w1.alloc (.cells #[.int .i64 0] 153)) 136 (.slice (some ⟨w.heap.size, 0, none⟩) n n)
    have bQ := Boxed.new ((w1.alloc (.cells #[.int .i64 0] 153)).alloc (.cells #[.slice (some ⟨w.heap.size, 0, none⟩) n n] 136)) 153 (.int .i64 s)
    replace bF := (bF.alloc (.cells #[.slice (some ⟨w.heap.size, 0, none⟩) n n] 136)).alloc (.cells #[.int .i64 s] 153)
    replace bP := bP.alloc (.cells #[.int .i64 s] 153)
    have hB0 : Below w1.heap.size w1 (((w1.alloc (.cells #[.int .i64 0] 153)).alloc (.cells #[.slice (some ⟨w.heap.size, 0, none⟩) n n] 136)).alloc (.cells #[.int .i64 s] 153)) :=
      (((Below.refl _ w1).alloc (Nat.le_refl _) _).alloc (by simp) _).alloc (by simp; omega) _
    simp only [World.size_alloc] at bP bQ
    refine wpIn_rangeFunc_ownF rfl (by omega) (gf := 220) (lb := #[.pointer (some ⟨w1.heap.size + 1, 0, none⟩), .pointer (some ⟨w1.heap.size + 1 + 1, 0, none⟩)]) rfl trivial (enters_of Tryz.func220 (by kernel_rfl) rfl)
      (sumsC_stops _ (w1.heap.size + 1) (w1.heap.size + 1 + 1) w1.heap.size w.heap.size n n f s h7 hlt _ (by simp; omega) (by simp) (HR.out.below hB0 hlt) (by simp) bP.cell bQ.cell)
      (fun h k => Kept.on h k) (kept_b (by simp; omega) (by simp)) (Below.refl _ _) (fun _ => rfl)
      (fun pre W => (W.cell? ⟨w1.heap.size, 0, none⟩ = some (.int .i64 (orAll pre)) ∧ W.frozen? ⟨w1.heap.size, 0, none⟩ = false) ∧ Below w1.heap.size w1 W)
      (fun _ _ _ => False)
      (OwnFrom.and (Own.from (fun s A B row hs hg hr => ⟨cell_kept hs.1 hg hr, (frozen_kept hs.1 hg hr).trans hs.2⟩) _) (ownFrom_below (Nat.le_refl _) (by simp; omega)))
      (fun _ _ _ _ _ hs _ _ => hs)
      ⟨⟨bF.cell, bF.frozen⟩, hB0⟩
      (fun x => { tmps := #[.slice a n cap, .int .i64 s, undef, undef, .int .i64 0, .slice (some ⟨w.heap.size, 0, none⟩) n n, .int .i64 s, .bool true, .pointer (some ⟨w1.heap.size, 0, none⟩), .int .i64 (x.1 : Int),
          .tuple #[.slice (some ⟨w.heap.size, 0, none⟩) n n, .int .i64 s, .bool true], .slice a n cap, .int .i64 s, .tuple #[.slice (some ⟨w.heap.size, 0, none⟩) n n, .int .i64 s, .bool true],
          .slice (some ⟨w.heap.size, 0, none⟩) n n, .int .i64 s, .bool true, .bool true, .bool false, .slice (some ⟨w.heap.size, 0, none⟩) n n, .int .i64 s,
          .func (.func 220) #[] #[.pointer (some ⟨w1.heap.size + 1, 0, none⟩), .pointer (some ⟨w1.heap.size + 1 + 1, 0, none⟩)], .int .i64 (x.1 : Int), undef, undef, undef, undef, undef], defers := [] }) ?assign ?body ?done ?stop
    case assign =>
      intro l x W K hK
      gi_wp2_with fail
      exact hK
    case body =>
      rintro l pre x W ⟨⟨hc, hf⟩, hB⟩ _
      have hmx : Tryz.prog.follows .mixedOrders = true := by kernel_rfl
      have hx7 := x.2
      have ⟨hp1, hp2⟩ := pow_bounds x.1 (by omega)
      have hwr : IntKind.i64.wrap (2 ^ x.1) = 2 ^ x.1 := wrap_in _ (by unfold I64; omega)
      gi_wp2_with fail
      gi_region_with_o (fail)
      all_goals gi_wp2_with fail
      all_goals
        exact ⟨(KeepsOthers.setCell _ _ _).trans (KeepsOthers.drew _),
          ⟨((Below.refl w1.heap.size W).setCell (p := ⟨w1.heap.size, 0, none⟩) (Nat.le_refl _) _).drew, by rw [World.cell?_drew]; exact World.cell?_setCell_other _ _ _ _ (by simp)⟩,
          ⟨by rw [orAll_snoc, World.cell?_drew]; exact World.cell?_setCell_same' _ _ _ (by rw [hc]; rfl), by rw [frozen_drew_own, World.frozen?_setCell]; exact hf⟩,
          (hB.setCell (p := ⟨w1.heap.size, 0, none⟩) (Nat.le_refl _) _).drew⟩
    case done =>
      rintro D ys W hD hys ⟨⟨hc, _⟩, hB⟩ hK
      gi_wp2_with fail
      refine ⟨by simp, .inl ⟨_, _, rfl, run_takeDeferred hK, ?_⟩⟩
      exact ⟨_, results_tmp rfl _ _ _, by rw [orAll_came hys]; rfl, below_to hbel (hB.trans (belowK_b (w := w1) (Nat.le_refl _) W D _ _ (by simp at hD; omega) hK rfl rfl))⟩
    case stop =>
      rintro D c pre W _ _ h _
      exact h.elim
  · rw [HS.out] at hb; cases hb
theorem SumsOf_any (a : Option Addr) (n cap : Nat) (f : Nat → Int) (s : Int) (hs64 : I64 s) (w : World) (hi : Ints w a n f) :
    Calls Tryz.prog 167 #[.slice a n cap, .int .i64 s] w fun e w' => e = .returned (.int .i64 (sumsB n f s)) ∧ Below w.heap.size w w' := by
  cases hs : setB n f s with
  | true =>
    have e : sumsB n f s = sumsI n f s := by unfold sumsB; rw [if_pos hs]
    rw [e]
    exact SumsOf_in a n cap f s hs64 w hi hs
  | false =>
    have HN := Lib.hid hi; clear hi
    have HF := Lib.hid (show sumsB n f s = -1 by unfold sumsB; rw [if_neg (by rw [hs]; decide)])
    have HS := Lib.hid hs; clear hs
    go_enter Tryz.func167, Tryz.ntmps167
    go_wp2_with fail
    refine (worldWithSet_any a n cap f s hs64 w HN.out).mono ?_
    rintro e w' ⟨hbel, ⟨hb, rfl, hlt, hr⟩ | ⟨hb, rfl⟩⟩
    · rw [HS.out] at hb; cases hb
    · clear hb
      go_wp2_with fail
      go_ret
      exact ⟨reti HF.out.symm, hbel⟩
theorem SumsOf_val (a : Option Addr) (n cap : Nat) (f : Nat → Int) (s : Int) (v : Int) (hs64 : I64 s) (w : World) (hv : sumsB n f s = v) (hi : Ints w a n f) :
    Calls Tryz.prog 167 #[.slice a n cap, .int .i64 s] w fun e w' => e = .returned (.int .i64 v) ∧ Below w.heap.size w w' := by
  subst hv; exact SumsOf_any a n cap f s hs64 w hi
set_option maxRecDepth 100000 in
theorem hasSum_any (bk n cap : Nat) (f : Nat → Int) (s : Int) (h7 : n ≤ 7) (w : World) (hr : Row w bk 0 n f) (hlt : bk < w.heap.size) :
    Calls Tryz.prog 211 #[.slice (some ⟨bk, 0, none⟩) n cap, .int .i64 s] w fun e w' => e = .returned (.bool (hasSumB n f s)) ∧ Below w.heap.size w w' := by
  have HR := Lib.hid hr; clear hr
  refine (callsIn_wide (n := 9)).1 ?_
  refine callsIn_of_wp_marks Tryz.func211 rfl trivial ?_ rfl
  simp only [Tryz.ntmps211, List.size_toArray, List.length_cons, List.length_nil, Nat.reduceAdd, Nat.reduceSub, Array.replicate_succ, Array.replicate_zero, List.push_toArray, List.append_toArray, List.nil_append, List.cons_append]
  gi_wp2_with fail
  refine ⟨trivial, (callsIn_wide.2 (sums_any _ n cap s _)).mono ?_⟩
  rintro e w2 ⟨rfl, rfl⟩
  gi_wp2_with fail
  have bF := Boxed.new w 4 (.bool false)
  have bP := Boxed.new (w.alloc (.cells #[.bool false] 4)) 136 (.slice (some ⟨bk, 0, none⟩) n cap)
  have bQ := Boxed.new ((w.alloc (.cells #[.bool false] 4)).alloc (.cells #[.slice (some ⟨bk, 0, none⟩) n cap] 136)) 153 (.int .i64 s)
  replace bF := (bF.alloc (.cells #[.slice (some ⟨bk, 0, none⟩) n cap] 136)).alloc (.cells #[.int .i64 s] 153)
  replace bP := bP.alloc (.cells #[.int .i64 s] 153)
  have hB0 : Below w.heap.size w (((w.alloc (.cells #[.bool false] 4)).alloc (.cells #[.slice (some ⟨bk, 0, none⟩) n cap] 136)).alloc (.cells #[.int .i64 s] 153)) :=
    (((Below.refl _ w).alloc (Nat.le_refl _) _).alloc (by simp) _).alloc (by simp; omega) _
  simp only [World.size_alloc] at bP bQ
  refine wpIn_rangeFunc_ownF rfl (by omega) (gf := 220) (lb := #[.pointer (some ⟨w.heap.size + 1, 0, none⟩), .pointer (some ⟨w.heap.size + 1 + 1, 0, none⟩)]) rfl trivial (enters_of Tryz.func220 (by kernel_rfl) rfl)
    (sumsC_stops _ (w.heap.size + 1) (w.heap.size + 1 + 1) w.heap.size bk n cap f s h7 hlt _ (by simp; omega) (by simp) (HR.out.below hB0 hlt) (by simp) bP.cell bQ.cell)
    (fun h k => Kept.on h k) (kept_b (by simp; omega) (by simp)) (Below.refl _ _) (fun _ => rfl)
    (fun pre W => (pre = [] ∧ W.cell? ⟨w.heap.size, 0, none⟩ = some (.bool false) ∧ W.frozen? ⟨w.heap.size, 0, none⟩ = false) ∧ Below w.heap.size w W)
    (fun c pre W => (c = .ret ∧ W.cell? ⟨w.heap.size, 0, none⟩ = some (.bool true)) ∧ Below w.heap.size w W)
    (OwnFrom.and (Own.from (fun s A B row hs hg hr => ⟨hs.1, cell_kept hs.2.1 hg hr, (frozen_kept hs.2.1 hg hr).trans hs.2.2⟩) _) (ownFrom_below (Nat.le_refl _) (by simp; omega)))
    (fun c => OwnFrom.and (Own.from (fun s A B row hs hg hr => ⟨hs.1, cell_kept hs.2 hg hr⟩) _) (ownFrom_below (Nat.le_refl _) (by simp; omega)))
    ⟨⟨rfl, bF.cell, bF.frozen⟩, hB0⟩
    (fun x => { tmps := #[.slice (some ⟨bk, 0, none⟩) n cap, .int .i64 s, undef, undef, .pointer (some ⟨w.heap.size, 0, none⟩), .slice (some ⟨bk, 0, none⟩) n cap, .int .i64 s,
        .func (.func 220) #[] #[.pointer (some ⟨w.heap.size + 1, 0, none⟩), .pointer (some ⟨w.heap.size + 1 + 1, 0, none⟩)], .int .i64 (x.1 : Int)], defers := [] }) ?assign ?body ?done ?stop
  case assign =>
    intro l x W K hK
    gi_wp2_with fail
    simpa using hK
  case body =>
    rintro l pre x W ⟨⟨rfl, hc, hf⟩, hB⟩ _
    gi_wp2_with fail
    exact ⟨KeepsOthers.setCell _ _ _, ⟨rfl, World.cell?_setCell_same' _ _ _ (by rw [hc]; rfl)⟩, hB.setCell (p := ⟨w.heap.size, 0, none⟩) (Nat.le_refl _) _⟩
  case done =>
    rintro D ys W hD hys ⟨⟨rfl, hcr, hfr⟩, hB⟩ hK
    gi_wp2_with fail
    have hK' := (KeepsOthers.setCell W ⟨w.heap.size, 0, none⟩ (.bool false)).same D _ hK rfl
    refine ⟨by simp, .inl ⟨_, _, rfl, run_takeDeferred hK', ?_⟩⟩
    have hc5 := cell_kept (World.cell?_setCell_same' W ⟨w.heap.size, 0, none⟩ (.bool false) (by rw [hcr]; rfl)) (grownBy_putObj' _ D (.deferred none)) (fun r e => by cases e; exact ⟨_, hK', rfl⟩)
    have hfin : hasSumB n f s = false := by
      refine decide_eq_false ?_
      rintro ⟨k, hk, hg⟩
      have : k ∈ (List.range n).filter (sumG n f s) := List.mem_filter.2 ⟨List.mem_range.2 hk, hg⟩
      unfold Came at hys
      rw [← hys] at this
      simp at this
    refine ⟨.bool false, ?_, by rw [hfin], (hB.setCell (p := ⟨w.heap.size, 0, none⟩) (Nat.le_refl _) _).trans (belowK_b (w := w) (Nat.le_refl _) _ D _ _ (by simp at hD; omega) hK' rfl rfl)⟩
    simp [results, Tryz.f211, go_sem, hc5]
  case stop =>
    rintro D c pre W hD ⟨k, hk, hg⟩ ⟨⟨rfl, hcr⟩, hB⟩ hK
    gi_wp2_with fail
    refine ⟨by simp, .inl ⟨_, _, rfl, run_takeDeferred hK, ?_⟩⟩
    have hc5 := cell_kept hcr (grownBy_putObj' _ D (.deferred none)) (fun r e => by cases e; exact ⟨_, hK, rfl⟩)
    refine ⟨.bool true, ?_, by rw [show hasSumB n f s = true from decide_eq_true ⟨k, hk, hg⟩], hB.trans (belowK_b (w := w) (Nat.le_refl _) W D _ _ (by simp at hD; omega) hK rfl rfl)⟩
    simp [results, Tryz.f211, go_sem, hc5]
theorem hasSum_val (bk n cap : Nat) (f : Nat → Int) (s : Int) (v : Bool) (h7 : n ≤ 7) (w : World) (hv : hasSumB n f s = v) (hr : Row w bk 0 n f) (hlt : bk < w.heap.size) :
    Calls Tryz.prog 211 #[.slice (some ⟨bk, 0, none⟩) n cap, .int .i64 s] w fun e w' => e = .returned (.bool v) ∧ Below w.heap.size w w' := by
  subst hv; exact hasSum_any bk n cap f s h7 w hr hlt
theorem summed_no {n : Nat} {f : Nat → Int} {k : Nat} (h1 : 1 ≤ k) (hk : k < 2 ^ n) (h : hasSumB n f k = false) : decide (∀ s : Nat, s < 2 ^ n → 1 ≤ s → hasSumB n f s = true) = false :=
  decide_eq_false (fun e => by have := e k hk h1; rw [h] at this; cases this)
theorem summed_any (bk n cap : Nat) (f : Nat → Int) (h7 : n ≤ 7) (w : World) (hr : Row w bk 0 n f) (hlt : bk < w.heap.size) :
    Calls Tryz.prog 187 #[.slice (some ⟨bk, 0, none⟩) n cap] w fun e w' => e = .returned (.bool (decide (∀ s : Nat, s < 2 ^ n → 1 ≤ s → hasSumB n f s = true))) ∧ Below w.heap.size w w' := by
  have HR := Lib.hid hr; clear hr
  obtain ⟨hp1, hp2⟩ := pow_bounds n h7
  have e2 : ((2 ^ n : Nat) : Int) = 2 ^ n := by simp
  go_enter Tryz.func187, Tryz.ntmps187
  go_wp2_with fail
  go_loopw [3] (fun v wr => ∃ k : Nat, 1 ≤ k ∧ k ≤ 2 ^ n ∧ v = .int .i64 k ∧ Hid (∀ s : Nat, s < k → 1 ≤ s → hasSumB n f s = true) ∧ Below w.heap.size w wr) (fun v _ => 2 ^ n - (intOf v).toNat)
  case atStart => exact ⟨1, by omega, Nat.one_le_two_pow, rfl, Lib.hid (fun s h1 h2 => by omega), Below.refl _ _⟩
  case round =>
    obtain ⟨k, hk1, hk, rfl, hall, hd⟩ := hrel
    by_cases hk2 : k < 2 ^ n
    · have hle : decide ((k : Int) ≤ 2 ^ n - 1) = true := by simp; omega
      cases hg : hasSumB n f k with
      | true =>
        have HG := Lib.hid hg; clear hg
        go_wp2_with fail
        refine (all_any _ _ _ h7 _).mono ?_
        rintro e w1 ⟨rfl, rfl⟩
        go_wp2_with fail
        refine (hasSum_val bk n cap f k true h7 _ HG.out (HR.out.below hd hlt) (Nat.lt_of_lt_of_le hlt hd.size)).mono ?_
        rintro e w1 ⟨rfl, hb1⟩
        replace hd := hd.trans (hb1.mono hd.size)
        clear hb1
        go_wp2_with fail
        go_roundw
        case rel => exact ⟨k + 1, by omega, by omega, by go_num, Lib.hid (fun s h1 h2 => by
          by_cases e : s = k
          · subst e; exact HG.out
          · exact hall.out s (by omega) h2), hd⟩
        case measure => simp [intOf]; omega
      | false =>
        have HF := Lib.hid (summed_no hk1 hk2 hg); have HG := Lib.hid hg; clear hg
        go_wp2_with fail
        refine (all_any _ _ _ h7 _).mono ?_
        rintro e w1 ⟨rfl, rfl⟩
        go_wp2_with fail
        refine (hasSum_val bk n cap f k false h7 _ HG.out (HR.out.below hd hlt) (Nat.lt_of_lt_of_le hlt hd.size)).mono ?_
        rintro e w1 ⟨rfl, hb1⟩
        replace hd := hd.trans (hb1.mono hd.size)
        clear hb1
        go_wp2_with fail
        go_ret
        exact ⟨retb HF.out.symm, hd⟩
    · have hle : decide ((k : Int) ≤ 2 ^ n - 1) = false := by simp; omega
      have hkn : k = 2 ^ n := by omega
      have HF := Lib.hid (show decide (∀ s : Nat, s < 2 ^ n → 1 ≤ s → hasSumB n f s = true) = true from decide_eq_true (fun s h1 h2 => hall.out s (by omega) h2))
      go_wp2_with fail
      refine (all_any _ _ _ h7 _).mono ?_
      rintro e w1 ⟨rfl, rfl⟩
      go_wp2_with fail
      go_ret
      exact ⟨retb HF.out.symm, hd⟩
theorem SummedOk_any (a : Option Addr) (n cap : Nat) (f : Nat → Int) (w : World) (hi : Ints w a n f) :
    Calls Tryz.prog 162 #[.slice a n cap] w fun e w' => e = .returned (.bool (summedB n f)) ∧ Below w.heap.size w w' := by
  have HN := Lib.hid hi; clear hi
  go_enter Tryz.func162, Tryz.ntmps162
  go_wp2_with fail
  refine (worldOf_end a n cap f w HN.out).mono ?_
  rintro e w' ⟨hbel, ⟨hb, rfl, hlt, hr⟩ | ⟨hb, rfl⟩⟩
  · have h7 := (worldB_7 hb).2
    have HF := Lib.hid (show summedB n f = decide (∀ s : Nat, s < 2 ^ n → 1 ≤ s → hasSumB n f s = true) by unfold summedB; rw [hb]; rfl)
    clear hb
    go_wp2_with fail
    refine (summed_any _ n n f h7 _ hr hlt).mono ?_
    rintro e w2 ⟨rfl, hb2⟩
    go_wp2_with fail
    go_ret
    exact ⟨retb HF.out.symm, below_to hbel hb2⟩
  · have HF := Lib.hid (show summedB n f = false by unfold summedB; rw [hb]; rfl)
    clear hb
    go_wp2_with fail
    go_ret
    exact ⟨retb HF.out.symm, hbel⟩
end Go.Proofs.YthaickihoagnmaaGreatDoor
namespace Go.Proofs.YthaickihoagnmaaGreatDoor
open Go.RowKit
theorem sums_zero {n : Nat} {f : Nat → Int} {s : Int} (h7 : n ≤ 7) : (sumsI n f s == 0) = !hasSumB n f s := by
  cases h : hasSumB n f s with
  | true =>
    obtain ⟨a, ha, hg⟩ : ∃ a, a < n ∧ sumG n f s a = true := by unfold hasSumB at h; exact of_decide_eq_true h
    rw [beq_eq_false_iff_ne.2]; rfl
    intro e
    have := sums_bit (n := n) (f := f) (s := s) ha h7
    rw [e, hasB_zero, hg] at this; cases this
  | false =>
    rw [beq_iff_eq.2]; rfl
    refine ext64 _ _ (setOf_I64 _ _) I64_zero (fun i hi => ?_)
    unfold sumsI; rw [hasB_zero, setOf_bit _ _ _ hi]
    by_cases hin : i < n
    · rw [decide_eq_true hin, Bool.true_and]
      cases e : sumG n f s i with
      | false => rfl
      | true => unfold hasSumB at h; exact absurd ⟨i, hin, e⟩ (of_decide_eq_false h)
    · rw [decide_eq_false hin]; rfl
theorem set_at {n : Nat} {f : Nat → Int} {k : Nat} (hw : worldB n f = true) (h1 : 1 ≤ k) (hk : k < 2 ^ n) : setB n f k = true := by
  have e2 : ((2 ^ n : Nat) : Int) = 2 ^ n := by simp
  exact setB_iff.2 ⟨hw, by omega, by omega⟩
theorem specSums_at (a : Option Addr) (n cap : Nat) (f : Nat → Int) (k : Nat) (w : World) (hw : worldB n f = true) (h1 : 1 ≤ k) (hk : k < 2 ^ n) (hi : Ints w a n f) :
    Calls Tryz.prog 80 #[.slice a n cap, .int .i64 k] w fun e w' => e = .returned (.int .i64 (sumsI n f k)) ∧ Drew w w' := by
  have e : sumsB n f k = sumsI n f k := by unfold sumsB; rw [if_pos (set_at hw h1 hk)]
  rw [← e]; exact specSumsOf_any a n cap f k w hi
theorem specSummedOk_any (a : Option Addr) (n cap : Nat) (f : Nat → Int) (w : World) (hi : Ints w a n f) :
    Calls Tryz.prog 74 #[.slice a n cap] w fun e w' => e = .returned (.bool (summedB n f)) ∧ Drew w w' := by
  cases hw : worldB n f with
  | true =>
    have h7 := (worldB_7 hw).2
    obtain ⟨hp1, hp2⟩ := pow_bounds n h7
    have e2 : ((2 ^ n : Nat) : Int) = 2 ^ n := by simp
    have HF := Lib.hid (show summedB n f = decide (∀ s : Nat, s < 2 ^ n → 1 ≤ s → hasSumB n f s = true) by unfold summedB; rw [hw]; rfl)
    have HW := Lib.hid hw; have HN := Lib.hid hi; clear hw hi
    go_enter Tryz.func74, Tryz.ntmps74
    go_wp2_with fail
    go_loopw [3] (fun v wr => ∃ k : Nat, 1 ≤ k ∧ k ≤ 2 ^ n ∧ v = .int .i64 k ∧ Hid (∀ s : Nat, s < k → 1 ≤ s → hasSumB n f s = true) ∧ Drew w wr) (fun v _ => 2 ^ n - (intOf v).toNat)
    case atStart => exact ⟨1, by omega, Nat.one_le_two_pow, rfl, Lib.hid (fun s h1 h2 => by omega), Drew.refl _⟩
    case round =>
      obtain ⟨k, hk1, hk, rfl, hall, hd⟩ := hrel
      by_cases hk2 : k < 2 ^ n
      · have hle : decide ((k : Int) < 2 ^ n) = true := by simp; omega
        have hz := sums_zero (n := n) (f := f) (s := k) h7
        cases hg : hasSumB n f k with
        | true =>
          rw [hg] at hz
          replace hz : (sumsI n f k == 0) = false := hz
          have HG := Lib.hid hg; clear hg
          go_wp2_with fail
          refine (specWorldOk_val _ _ _ f true _ HW.out (HN.out.drew hd)).mono ?_
          rintro e w1 ⟨rfl, hd1⟩
          replace hd := hd.onto hd1
          clear hd1
          go_wp2_with fail
          refine (specSums_at a n _ f k _ HW.out hk1 hk2 (HN.out.drew hd)).mono ?_
          rintro e w2 ⟨rfl, hd2⟩
          replace hd := hd.onto hd2
          clear hd2
          go_wp2_with fail
          go_roundw
          case rel => exact ⟨k + 1, by omega, by omega, by go_num, Lib.hid (fun s h1 h2 => by
            by_cases e : s = k
            · subst e; exact HG.out
            · exact hall.out s (by omega) h2), hd⟩
          case measure => simp [intOf]; omega
        | false =>
          rw [hg] at hz
          replace hz : (sumsI n f k == 0) = true := hz
          have HF2 := Lib.hid (HF.out.trans (summed_no hk1 hk2 hg)); clear hg
          go_wp2_with fail
          refine (specWorldOk_val _ _ _ f true _ HW.out (HN.out.drew hd)).mono ?_
          rintro e w1 ⟨rfl, hd1⟩
          replace hd := hd.onto hd1
          clear hd1
          go_wp2_with fail
          refine (specSums_at a n _ f k _ HW.out hk1 hk2 (HN.out.drew hd)).mono ?_
          rintro e w2 ⟨rfl, hd2⟩
          replace hd := hd.onto hd2
          clear hd2
          go_wp2_with fail
          go_ret
          exact ⟨retb HF2.out.symm, hd⟩
      · have hle : decide ((k : Int) < 2 ^ n) = false := by simp; omega
        have HF2 := Lib.hid (HF.out.trans (decide_eq_true (fun s h1 h2 => hall.out s (by omega) h2)))
        go_wp2_with fail
        refine (specWorldOk_val _ _ _ f true _ HW.out (HN.out.drew hd)).mono ?_
        rintro e w1 ⟨rfl, hd1⟩
        replace hd := hd.onto hd1
        clear hd1
        go_wp2_with fail
        refine (specWorldOk_val _ _ _ f true _ HW.out (HN.out.drew hd)).mono ?_
        rintro e w2 ⟨rfl, hd2⟩
        replace hd := hd.onto hd2
        clear hd2
        go_wp2_with fail
        go_ret
        exact ⟨retb HF2.out.symm, hd⟩
  | false =>
    have HF := Lib.hid (show summedB n f = false by unfold summedB; rw [hw]; rfl)
    have HW := Lib.hid hw; have HN := Lib.hid hi; clear hw hi
    go_enter Tryz.func74, Tryz.ntmps74
    go_wp2_with fail
    go_loopw [3] (fun v wr => v = .int .i64 1 ∧ wr = w) (fun _ _ => 0)
    case atStart => exact ⟨rfl, rfl⟩
    case round =>
      obtain ⟨rfl, rfl⟩ := hrel
      go_wp2_with fail
      refine (specWorldOk_val _ _ _ f false _ HW.out HN.out).mono ?_
      rintro e w1 ⟨rfl, hd1⟩
      go_wp2_with fail
      refine (specWorldOk_val _ _ _ f false _ HW.out (HN.out.drew hd1)).mono ?_
      rintro e w2 ⟨rfl, hd2⟩
      go_wp2_with fail
      go_ret
      exact ⟨retb HF.out.symm, hd1.onto hd2⟩
end Go.Proofs.YthaickihoagnmaaGreatDoor
