import Derived.Test.YthaickihoagnmaaGreatDoorBaseB
import Derived.Deep.RegionHeld3
import Derived.Maps.OwnSet
import Derived.Laws.EntriesVeiled
namespace Go.Proofs.YthaickihoagnmaaGreatDoor
open Go.RowKit

/-- all parts of a that are apart from b -/
def restsI (n : Nat) (f : Nat → Int) (a b : Nat) : Int := bits .andNot .i64 (f a) (meetI n f b)

set_option maxRecDepth 100000 in
set_option maxHeartbeats 1600000 in
theorem rests_any (bk n cap : Nat) (a b : Nat) (f : Nat → Int) (hn : n ≤ 7) (ha : a < n) (hb : b < n) (w : World) (hr : Row w bk 0 n f) (hlt : bk < w.heap.size) :
    Calls Tryz.prog 245 #[.slice (some ⟨bk, 0, none⟩) n cap, .int .i64 a, .int .i64 b] w fun e w' => e = .returned (.int .i64 (restsI n f a b)) ∧ Below w.heap.size w w' := by
  have ca : w.cell? ⟨bk, a, none⟩ = some (.int .i64 (f a)) := by have := hr a ha; rwa [Nat.zero_add] at this
  have hai : (a : Int) < (n : Int) := by omega
  have ha0 : (0 : Int) ≤ (a : Int) := by omega
  have HR := Lib.hid hr; clear hr
  have HC := Lib.hid (show ∀ (W : World), Below w.heap.size w W → W.cell? ⟨bk, a, none⟩ = some (.int .i64 (f a)) from fun W h => (h.cell (p := ⟨bk, a, none⟩) hlt).trans ca)
  have HB := Lib.hid (Below.refl w.heap.size w)
  go_enter Tryz.func245, Tryz.ntmps245
  go_wp2_with fail
  go_region_held3 (fun w' => w'.cell? ⟨bk, a, none⟩ = some (.int .i64 (f a))) (first | exact HC.out _ HB.out | go_keep)
    (first | (go_at_call 222; refine (meeting_any bk n cap b f hn hb _ (by first | exact HR.out | exact HR.out.drewN _) (by first | exact hlt | (show bk < (World.drewN _ _).heap.size; exact hlt))).mono ?_; rintro e w2 ⟨rfl, h2⟩; replace HB := Lib.hid (by first | exact h2 | exact (below_drewN (Below.refl _ _) _).trans h2 : Below w.heap.size w w2); clear h2))
  all_goals
    go_wp2_with fail
    go_ret
    exact ⟨rfl, by first | exact HB.out | exact below_drewN HB.out _⟩

theorem rests_val (bk n cap : Nat) (a b : Nat) (f : Nat → Int) (v : Int) (hn : n ≤ 7) (ha : a < n) (hb : b < n) (w : World) (hv : restsI n f a b = v) (hr : Row w bk 0 n f) (hlt : bk < w.heap.size) :
    Calls Tryz.prog 245 #[.slice (some ⟨bk, 0, none⟩) n cap, .int .i64 a, .int .i64 b] w fun e w' => e = .returned (.int .i64 v) ∧ Below w.heap.size w w' := by
  subst hv; exact rests_any bk n cap a b f hn ha hb w hr hlt

theorem proper_val (bk off len cap : Nat) (a b : Nat) (x : Int) (v : Bool) (hb : b < len) (ha : a ≤ 63) (w : World) (hv : neHas x a b = v) (hc : w.cell? ⟨bk, off + b, none⟩ = some (.int .i64 x)) :
    Calls Tryz.prog 243 #[.slice (some ⟨bk, off, none⟩) len cap, .int .i64 a, .int .i64 b] w fun e w' => e = .returned (.bool v) ∧ w = w' := by
  subst hv; exact proper_any bk off len cap a b x hb ha w hc

theorem part_val (bk off len cap : Nat) (a b : Nat) (x : Int) (v : Bool) (hb : b < len) (ha : a ≤ 63) (w : World) (hv : hasB x a = v) (hc : w.cell? ⟨bk, off + b, none⟩ = some (.int .i64 x)) :
    Calls Tryz.prog 176 #[.slice (some ⟨bk, off, none⟩) len cap, .int .i64 a, .int .i64 b] w fun e w' => e = .returned (.bool v) ∧ w = w' := by
  subst hv; exact part_any bk off len cap a b x hb ha w hc

def weakG (n : Nat) (f : Nat → Int) (whole part : Nat) : Bool := !neHas (f whole) part whole || restsI n f whole part != 0
def strongG (n : Nat) (f : Nat → Int) (a b : Nat) : Bool := hasB (f b) a || restsI n f a b != 0

/-- what is asked of two things of a world -/
def AskEnd (v : Bool) (w : World) (e : Ending) (w' : World) : Prop := e = .returned (.bool v) ∧ Below w.heap.size w w'

set_option maxRecDepth 100000 in
set_option maxHeartbeats 1600000 in
theorem weak_any (bk n cap : Nat) (a b : Nat) (f : Nat → Int) (hn : n ≤ 7) (ha : a < n) (hb : b < n) (w : World) (hr : Row w bk 0 n f) (hlt : bk < w.heap.size) :
    Calls Tryz.prog 231 #[.slice (some ⟨bk, 0, none⟩) n cap, .int .i64 a, .int .i64 b] w (AskEnd (weakG n f a b) w) := by
  have hc := hr a ha
  have hnot : ∀ (x : Bool) (w : World), (Op.unary .not (.bool x)).run Tryz.prog w = .ok (.bool (!x)) w := fun _ _ => rfl
  have HR := Lib.hid hr; have HC := Lib.hid hc; clear hr hc
  cases hp : neHas (f a) b a with
  | false =>
    have HF := Lib.hid (show weakG n f a b = true by unfold weakG; rw [hp]; rfl)
    have HP := Lib.hid hp; clear hp
    go_enter Tryz.func231, Tryz.ntmps231
    go_wp2_with fail
    refine (proper_val bk 0 n cap b a (f a) false ha (by omega) _ HP.out HC.out).mono ?_
    rintro e w' ⟨rfl, rfl⟩
    go_wp2_with fail
    go_ret
    exact ⟨retb HF.out.symm, Below.refl _ _⟩
  | true =>
    have HF := Lib.hid (show weakG n f a b = (restsI n f a b != 0) by unfold weakG; rw [hp]; rfl)
    have HP := Lib.hid hp; clear hp
    go_enter Tryz.func231, Tryz.ntmps231
    go_wp2_with fail
    refine (proper_val bk 0 n cap b a (f a) true ha (by omega) _ HP.out HC.out).mono ?_
    rintro e w' ⟨rfl, rfl⟩
    go_wp2_with fail
    refine (rests_any bk n cap a b f hn ha hb _ HR.out hlt).mono ?_
    rintro e w' ⟨rfl, hb2⟩
    go_wp2_with fail
    go_ret
    exact ⟨retb HF.out.symm, hb2⟩

set_option maxRecDepth 100000 in
set_option maxHeartbeats 1600000 in
theorem strong_any (bk n cap : Nat) (a b : Nat) (f : Nat → Int) (hn : n ≤ 7) (ha : a < n) (hb : b < n) (w : World) (hr : Row w bk 0 n f) (hlt : bk < w.heap.size) :
    Calls Tryz.prog 232 #[.slice (some ⟨bk, 0, none⟩) n cap, .int .i64 a, .int .i64 b] w (AskEnd (strongG n f a b) w) := by
  have hc := hr b hb
  have HR := Lib.hid hr; have HC := Lib.hid hc; clear hr hc
  cases hp : hasB (f b) a with
  | true =>
    have HF := Lib.hid (show strongG n f a b = true by unfold strongG; rw [hp]; rfl)
    have HP := Lib.hid hp; clear hp
    go_enter Tryz.func232, Tryz.ntmps232
    go_wp2_with fail
    refine (part_val bk 0 n cap a b (f b) true hb (by omega) _ HP.out HC.out).mono ?_
    rintro e w' ⟨rfl, rfl⟩
    go_wp2_with fail
    go_ret
    exact ⟨retb HF.out.symm, Below.refl _ _⟩
  | false =>
    have HF := Lib.hid (show strongG n f a b = (restsI n f a b != 0) by unfold strongG; rw [hp]; rfl)
    have HP := Lib.hid hp; clear hp
    go_enter Tryz.func232, Tryz.ntmps232
    go_wp2_with fail
    refine (part_val bk 0 n cap a b (f b) false hb (by omega) _ HP.out HC.out).mono ?_
    rintro e w' ⟨rfl, rfl⟩
    go_wp2_with fail
    refine (rests_any bk n cap a b f hn ha hb _ HR.out hlt).mono ?_
    rintro e w' ⟨rfl, hb2⟩
    go_wp2_with fail
    go_ret
    exact ⟨retb HF.out.symm, hb2⟩

set_option maxRecDepth 100000 in
set_option maxHeartbeats 1600000 in
theorem asked_any (K p q : Nat) (a b : Nat) (v1 : Value) (v : Bool) (w : World)
    (hE : ∀ (args : Array Value) (w : World), Sem.run Tryz.prog (callFunc K args) w = .ok (.enter K args) w)
    (hK : Calls Tryz.prog K #[v1, .int .i64 a, .int .i64 b] w (AskEnd v w))
    (hp : w.cell? ⟨p, 0, none⟩ = some (.func (.func K) #[] #[])) (hq : w.cell? ⟨q, 0, none⟩ = some v1) :
    Calls Tryz.prog 209 #[.int .i64 a, .int .i64 b, .pointer (some ⟨p, 0, none⟩), .pointer (some ⟨q, 0, none⟩)] w (AskEnd v w) := by
  have HK := Lib.hid hK; clear hK
  go_enter Tryz.func209, Tryz.ntmps209
  go_wp2_with fail
  refine HK.out.mono ?_
  rintro e w' ⟨rfl, hb2⟩
  go_wp2_with fail
  go_ret
  exact ⟨rfl, hb2⟩
end Go.Proofs.YthaickihoagnmaaGreatDoor

namespace Go.Proofs.YthaickihoagnmaaGreatDoor
open Go.RowKit Go.WideMaps Go.Maps

theorem law_string : Keyed Tryz.prog 9 := string_keyed Tryz.underlying9
theorem zero_int (w : World) : (zeroValue 3).run Tryz.prog w = .ok (.int .i64 0) w := by kernel_rfl

/-- the four names, as keys -/
def nmCompany : ByteArray := { data := #[99, 111, 109, 112, 97, 110, 121] }
def nmWeak : ByteArray := { data := #[119, 101, 97, 107] }
def nmStrong : ByteArray := { data := #[115, 116, 114, 111, 110, 103] }
def nmExtended : ByteArray := { data := #[101, 120, 116, 101, 110, 100, 101, 100] }

def namesD : DataW Empty := ((((DataW.map []).put (.string nmCompany.data.toList) (.lit (.int .i64 0))).put (.string nmWeak.data.toList) (.lit (.int .i64 1))).put (.string nmStrong.data.toList) (.lit (.int .i64 2))).put (.string nmExtended.data.toList) (.lit (.int .i64 3))

theorem key_of (s : ByteArray) (h : s.size ≤ maxLen) : keyOf Tryz.prog 9 (.string s) = some (.string s.data.toList) := keyOf_string_mk Tryz.underlying9 h
theorem elem_of (i : Int) (h : (Lit.int .i64 i).wf = true) : plainElem (H := Empty) Tryz.prog 3 (.int .i64 i) = some (.lit (.int .i64 i), []) := plainElem_int Tryz.underlying3 h

def NamesEnd (w : World) (e : Ending) (w' : World) : Prop :=
  e = .returned (.map (some w.heap.size)) ∧ w'.ownsMap Tryz.prog 9 (plainElem (H := Empty) Tryz.prog 3) w.heap.size 4 namesD ∧ Below w.heap.size w w'

set_option maxRecDepth 100000 in
set_option maxHeartbeats 1600000 in
theorem axiomNames_any (w : World) : Calls Tryz.prog 206 #[] w (NamesEnd w) := by
  have hmm := @run_makeMap Tryz.prog
  obtain ⟨w1, r1, o1, g1⟩ := (World.ownsMap_made w Tryz.prog 9 (plainElem (H := Empty) Tryz.prog 3)).update law_string Tryz.underlying193 (by unfold maxLen; omega) (key_of nmCompany (by decide)) (elem_of 0 (by decide))
  obtain ⟨w2, r2, o2, g2⟩ := o1.update law_string Tryz.underlying193 (by unfold maxLen; omega) (key_of nmWeak (by decide)) (elem_of 1 (by decide))
  obtain ⟨w3, r3, o3, g3⟩ := o2.update law_string Tryz.underlying193 (by unfold maxLen; omega) (key_of nmStrong (by decide)) (elem_of 2 (by decide))
  obtain ⟨w4, r4, o4, g4⟩ := o3.update law_string Tryz.underlying193 (by unfold maxLen; omega) (key_of nmExtended (by decide)) (elem_of 3 (by decide))
  have hb0 := (Below.refl w.heap.size w).alloc (Nat.le_refl _) (.map #[] 0)
  have hb1 := hb0.grown g1 hb0.size (fun j hj => by cases hj; exact Nat.le_refl _)
  have hb2 := hb1.grown g2 hb1.size (fun j hj => by cases hj; exact Nat.le_refl _)
  have hb3 := hb2.grown g3 hb2.size (fun j hj => by cases hj; exact Nat.le_refl _)
  have hb4 := hb3.grown g4 hb3.size (fun j hj => by cases hj; exact Nat.le_refl _)
  clear g1 g2 g3 g4 hb0 hb1 hb2 hb3 o1 o2 o3
  simp only [nmCompany, nmWeak, nmStrong, nmExtended] at r1 r2 r3 r4
  have HO := Lib.hid o4; clear o4
  go_enter Tryz.func206, Tryz.ntmps206
  go_wp2_with fail
  go_ret
  exact ⟨rfl, HO.out, hb4⟩

set_option maxRecDepth 100000 in
theorem names_look (w : World) (b : Nat) (h : w.ownsMap Tryz.prog 9 (plainElem (H := Empty) Tryz.prog 3) b 4 namesD) (nm : ByteArray) (hs : nm.size ≤ maxLen) (i : Int)
    (hat : namesD.atKey (.string nm.data.toList) (.lit (.int .i64 0)) = .lit (.int .i64 i)) (hh : Maps.has namesD (.string nm.data.toList) = true) :
    (Instr.lookup 193 (.map (some b)) (.string nm) true).run Tryz.prog w = .ok (.tuple #[.int .i64 i, .bool true]) w := by
  obtain ⟨v, ps, hrun, hv⟩ := h.look_ok law_string Tryz.underlying193 (zero_int w) (elem_of 0 (by decide)) (key_of nm hs)
  obtain ⟨c, rfl, hc, _⟩ := plainElem_int_inv Tryz.underlying3 hv
  have hc1 := congrArg Prod.fst hc
  rw [hat] at hc1
  simp only at hc1
  injection hc1 with e1; injection e1 with e2 e3
  rw [hh] at hrun
  rw [hrun, e3]

def AxiomsEnd (w : World) (e : Ending) (w' : World) : Prop :=
  e = .returned (.slice (some ⟨w.heap.size, 0, none⟩) 4 4) ∧ Below w.heap.size w w' ∧ w'.cell? ⟨w.heap.size, 0, none⟩ = some (.func (.func 230) #[] #[]) ∧ w'.cell? ⟨w.heap.size, 1, none⟩ = some (.func (.func 231) #[] #[])
    ∧ w'.cell? ⟨w.heap.size, 2, none⟩ = some (.func (.func 232) #[] #[]) ∧ w'.cell? ⟨w.heap.size, 3, none⟩ = some (.func (.func 233) #[] #[])

set_option maxRecDepth 100000 in
set_option maxHeartbeats 1600000 in
theorem axioms_any (w : World) : Calls Tryz.prog 207 #[] w (AxiomsEnd w) := by
  have hrow := World.rowIs_alloc w #[.func (.func 230) #[] #[], .func (.func 231) #[] #[], .func (.func 232) #[] #[], .func (.func 233) #[] #[]] 196
    (fun i => if i = 0 then .func (.func 230) #[] #[] else if i = 1 then .func (.func 231) #[] #[] else if i = 2 then .func (.func 232) #[] #[] else .func (.func 233) #[] #[]) (by
    intro i hi
    match i, hi with
    | 0, _ => rfl
    | 1, _ => rfl
    | 2, _ => rfl
    | 3, _ => rfl)
  have HR := Lib.hid hrow; clear hrow
  go_enter Tryz.func207, Tryz.ntmps207
  go_wp2_with fail
  go_ret
  exact ⟨rfl, (Below.refl _ _).alloc (Nat.le_refl _) _, HR.out.cell (i := 0) (by show 0 < 4; omega), HR.out.cell (i := 1) (by show 1 < 4; omega), HR.out.cell (i := 2) (by show 2 < 4; omega), HR.out.cell (i := 3) (by show 3 < 4; omega)⟩
end Go.Proofs.YthaickihoagnmaaGreatDoor

namespace Go.Proofs.YthaickihoagnmaaGreatDoor
open Go.RowKit Go.Maps

/-- a function of two things of a world, as the axioms are -/
def AskAll (K n : Nat) (f : Nat → Int) (G : Nat → Nat → Bool) : Prop :=
  ∀ (bk cap a b : Nat) (wr : World), a < n → b < n → Row wr bk 0 n f → bk < wr.heap.size → Calls Tryz.prog K #[.slice (some ⟨bk, 0, none⟩) n cap, .int .i64 a, .int .i64 b] wr (AskEnd (G a b) wr)

theorem cell_new (w : World) (v : Value) (t : TypeId) : (w.alloc (.cells #[v] t)).cell? ⟨w.heap.size, 0, none⟩ = some v ∧ Below w.heap.size w (w.alloc (.cells #[v] t)) ∧ (w.alloc (.cells #[v] t)).heap.size = w.heap.size + 1 :=
  ⟨(World.rowIs_alloc w #[v] t (fun _ => v) (by intro i hi; match i, hi with | 0, _ => rfl)).cell (Nat.zero_lt_one), (Below.refl _ _).alloc (Nat.le_refl _) _, by show (w.heap.push _).size = _; rw [Array.size_push]⟩

set_option maxRecDepth 100000 in
set_option maxHeartbeats 3200000 in
set_option maxRecDepth 100000 in
theorem axiomOk_at (nm : ByteArray) (hs : nm.size ≤ maxLen) (i : Nat) (hi4 : i < 4) (hat : namesD.atKey (.string nm.data.toList) (.lit (.int .i64 0)) = .lit (.int .i64 i)) (hh : Maps.has namesD (.string nm.data.toList) = true)
    (K : Nat) (hcell : Hid (∀ (w : World) (e : Ending) (w' : World), AxiomsEnd w e w' → w'.cell? ⟨w.heap.size, i, none⟩ = some (.func (.func K) #[] #[])))
    (hE : ∀ (args : Array Value) (w : World), Sem.run Tryz.prog (callFunc K args) w = .ok (.enter K args) w)
    (n : Nat) (f : Nat → Int) (G : Nat → Nat → Bool) (hK : Hid (n ≤ 7 → AskAll K n f G)) (a : Option Addr) (cap : Nat) (w : World) (hi : Ints w a n f) :
    Calls Tryz.prog 185 #[.slice a n cap, .string nm] w (AskEnd (worldB n f && eachB n G) w) := by
  have hmf : ∀ (fn : Fn) (first cap : Array Value) (w : World), (Instr.makeFunc fn first cap).run Tryz.prog w = .ok (.func fn first cap) w := fun _ _ _ _ => rfl
  have HE0 := Lib.hid hE; clear hE
  have HE := Lib.hid (enters_of (P := Tryz.prog) Tryz.func209 (by kernel_rfl) rfl)
  have hi0 : (0 : Int) ≤ (i : Int) := by omega
  have hi44 : (i : Int) < 4 := by omega
  have HL := Lib.hid (fun (w : World) (b : Nat) h => names_look w b h nm hs i hat hh)
  have HI := Lib.hid hi; clear hi hat hh
  go_enter Tryz.func185, Tryz.ntmps185
  go_wp2_with fail
  refine (worldOf_end a n cap f _ HI.out).mono ?_
  rintro e w1 ⟨hbel, ⟨hb, rfl, hsz, hr⟩ | ⟨hb, rfl⟩⟩
  · have h7 := (worldB_7 hb).2
    obtain ⟨c1, b1, s1⟩ := cell_new w1 (.slice (some ⟨w.heap.size, 0, none⟩) n n) 136
    have hr1 := hr.below b1 hsz
    have hB := below_onto hbel b1
    have HW := Lib.hid hb; have HR := Lib.hid hr1; have HB := Lib.hid hB; have HC := Lib.hid c1; have HS := Lib.hid s1; have HSZ := Lib.hid hsz; clear hb hr hr1 hB hbel b1 c1 s1 hsz
    go_wp2_with fail
    refine (axiomNames_any _).mono ?_
    rintro e w2 ⟨rfl, ho, b2⟩
    have hlook := HL.out _ _ ho
    rw [HS.out] at hlook
    replace HC := Lib.hid ((b2.cell (p := ⟨w1.heap.size, 0, none⟩) (by rw [HS.out]; show w1.heap.size < w1.heap.size + 1; omega)).trans HC.out)
    replace HR := Lib.hid (HR.out.below b2 (by rw [HS.out]; have := HSZ.out; omega))
    replace HB := Lib.hid (below_onto HB.out b2)
    replace HS := Lib.hid (show w1.heap.size < w2.heap.size by have := b2.size; rw [HS.out] at this; omega)
    clear ho b2
    go_wp2_with fail
    refine (axioms_any _).mono ?_
    intro e w3 he
    have hc := hcell.out _ _ _ he
    obtain ⟨rfl, b3, _⟩ := he
    replace HC := Lib.hid ((b3.cell (p := ⟨w1.heap.size, 0, none⟩) HS.out).trans HC.out)
    replace HR := Lib.hid (HR.out.below b3 (by have := HSZ.out; have := HS.out; omega))
    replace HB := Lib.hid (below_onto HB.out b3)
    replace HS := Lib.hid (show w1.heap.size < w3.heap.size by have := b3.size; have := HS.out; omega)
    clear b3 hlook
    obtain ⟨c4, b4, s4⟩ := cell_new w3 (.func (.func K) #[] #[]) 196
    have hq := (b4.cell (p := ⟨w1.heap.size, 0, none⟩) HS.out).trans HC.out
    have HQ := Lib.hid hq; have HP := Lib.hid c4; have HS4 := Lib.hid s4
    have HR4 := Lib.hid (HR.out.below b4 (by have := HSZ.out; have := HS.out; omega))
    have HB4 := Lib.hid (below_onto HB.out b4)
    clear c4 b4 s4 HC
    go_wp2_with fail
    have HR5 := HR4
    refine (each2_any _ _ n n _ _ G (fun wr => Below (w3.alloc (.cells #[.func (.func K) #[] #[]] 196)).heap.size (w3.alloc (.cells #[.func (.func K) #[] #[]] 196)) wr) h7 _ (Below.refl _ _) HE.out ?_).mono ?_
    · rintro wr x y hx hy hbr
      refine (asked_any K _ _ x y _ (G x y) wr HE0.out (hK.out h7 w.heap.size n x y wr hx hy (HR4.out.below hbr ?_) ?_) ((hbr.cell (p := ⟨w3.heap.size, 0, none⟩) ?_).trans HP.out) ((hbr.cell (p := ⟨w1.heap.size, 0, none⟩) ?_).trans HQ.out)).mono fun _ _ ⟨h1, h2⟩ => ⟨h1, below_onto hbr h2⟩
      · rw [HS4.out]; have := HSZ.out; have := HS.out; omega
      · refine Nat.lt_of_lt_of_le ?_ hbr.size; rw [HS4.out]; have := HSZ.out; have := HS.out; omega
      · rw [HS4.out]; show w3.heap.size < _; omega
      · rw [HS4.out]; show w1.heap.size < _; have := HS.out; omega
    · rintro e w5 ⟨rfl, b5⟩
      have HF := Lib.hid (show (worldB n f && eachB n G) = eachB n G by rw [HW.out]; rfl)
      replace HB4 := Lib.hid (below_onto HB4.out b5); clear b5
      go_wp2_with fail
      go_ret
      exact ⟨retb HF.out.symm, HB4.out⟩
  · obtain ⟨c1, b1, s1⟩ := cell_new w1 (.slice none 0 0) 136
    have hB := below_onto hbel b1
    have HF := Lib.hid (show (worldB n f && eachB n G) = false by rw [hb]; rfl)
    have HB := Lib.hid hB; have HS := Lib.hid s1; clear hb hB hbel c1 b1 s1
    go_wp2_with fail
    refine (axiomNames_any _).mono ?_
    rintro e w2 ⟨rfl, ho, b2⟩
    have hlook := HL.out _ _ ho
    rw [HS.out] at hlook
    replace HB := Lib.hid (below_onto HB.out b2)
    clear ho b2
    go_wp2_with fail
    refine (axioms_any _).mono ?_
    intro e w3 he
    have hc := hcell.out _ _ _ he
    obtain ⟨rfl, b3, _⟩ := he
    replace HB := Lib.hid (below_onto HB.out b3)
    clear b3 hlook
    have HB4 := Lib.hid (below_onto HB.out (cell_new w3 (.func (.func K) #[] #[]) 196).2.1)
    go_wp2_with fail
    go_ret
    exact ⟨retb HF.out.symm, HB4.out⟩
end Go.Proofs.YthaickihoagnmaaGreatDoor

namespace Go.Proofs.YthaickihoagnmaaGreatDoor
open Go.RowKit Go.Maps

def weakB (n : Nat) (f : Nat → Int) : Bool := worldB n f && eachB n (weakG n f)
def strongB (n : Nat) (f : Nat → Int) : Bool := worldB n f && eachB n (strongG n f)

set_option maxRecDepth 100000 in
set_option maxHeartbeats 1600000 in
theorem WeakOk_any (a : Option Addr) (n cap : Nat) (f : Nat → Int) (w : World) (hi : Ints w a n f) :
    Calls Tryz.prog 160 #[.slice a n cap] w fun e w' => e = .returned (.bool (weakB n f)) ∧ Below w.heap.size w w' := by
  have HI := Lib.hid hi; clear hi
  go_enter Tryz.func160, Tryz.ntmps160
  go_wp2_with fail
  refine (axiomOk_at nmWeak (by decide) 1 (by omega) (by kernel_rfl) (by kernel_rfl) 231 (fun _ _ _ h => h.2.2.2.1) (enters_of (P := Tryz.prog) Tryz.func231 (by kernel_rfl) rfl) n f (weakG n f) (fun h7 bk cap a b wr ha hb hr hlt => weak_any bk n cap a b f h7 ha hb wr hr hlt) a cap _ HI.out).mono ?_
  rintro e w' ⟨rfl, hb⟩
  go_wp2_with fail
  go_ret
  exact ⟨rfl, hb⟩

set_option maxRecDepth 100000 in
set_option maxHeartbeats 1600000 in
theorem StrongOk_any (a : Option Addr) (n cap : Nat) (f : Nat → Int) (w : World) (hi : Ints w a n f) :
    Calls Tryz.prog 161 #[.slice a n cap] w fun e w' => e = .returned (.bool (strongB n f)) ∧ Below w.heap.size w w' := by
  have HI := Lib.hid hi; clear hi
  go_enter Tryz.func161, Tryz.ntmps161
  go_wp2_with fail
  refine (axiomOk_at nmStrong (by decide) 2 (by omega) (by kernel_rfl) (by kernel_rfl) 232 (fun _ _ _ h => h.2.2.2.2.1) (enters_of (P := Tryz.prog) Tryz.func232 (by kernel_rfl) rfl) n f (strongG n f) (fun h7 bk cap a b wr ha hb hr hlt => strong_any bk n cap a b f h7 ha hb wr hr hlt) a cap _ HI.out).mono ?_
  rintro e w' ⟨rfl, hb⟩
  go_wp2_with fail
  go_ret
  exact ⟨rfl, hb⟩
end Go.Proofs.YthaickihoagnmaaGreatDoor

namespace Go.Proofs.YthaickihoagnmaaGreatDoor
open Go.RowKit

/-- among the first k parts of a one is apart from b -/
def apB (f : Nat → Int) (a b k : Nat) : Bool := decide (∃ c, c < k ∧ hasB (f a) c = true ∧ (andI (f c) (f b) == 0) = true)

theorem apB_zero (f : Nat → Int) (a b : Nat) : apB f a b 0 = false := decide_eq_false (fun ⟨_, h, _⟩ => absurd h (Nat.not_lt_zero _))
theorem apB_old {f : Nat → Int} {a b k : Nat} (h : apB f a b k = true) : apB f a b (k + 1) = true := by
  unfold apB at h ⊢; rw [decide_eq_true_eq] at h ⊢
  obtain ⟨c, h1, h2⟩ := h; exact ⟨c, by omega, h2⟩
theorem apB_new {f : Nat → Int} {a b k : Nat} (h1 : hasB (f a) k = true) (h2 : (andI (f k) (f b) == 0) = true) : apB f a b (k + 1) = true := by
  unfold apB; rw [decide_eq_true_eq]; exact ⟨k, by omega, h1, h2⟩
theorem apB_not {f : Nat → Int} {a b k : Nat} (h : apB f a b k = false) (h1 : hasB (f a) k = false) : apB f a b (k + 1) = false := by
  unfold apB at h ⊢; rw [decide_eq_false_iff_not] at h ⊢
  rintro ⟨c, h2, h3, h4⟩
  by_cases hc : c = k
  · subst hc; rw [h1] at h3; cases h3
  · exact h ⟨c, by omega, h3, h4⟩
theorem apB_meets {f : Nat → Int} {a b k : Nat} (h : apB f a b k = false) (h1 : (andI (f k) (f b) == 0) = false) : apB f a b (k + 1) = false := by
  unfold apB at h ⊢; rw [decide_eq_false_iff_not] at h ⊢
  rintro ⟨c, h2, h3, h4⟩
  by_cases hc : c = k
  · subst hc; rw [h1] at h4; cases h4
  · exact h ⟨c, by omega, h3, h4⟩

theorem nonzero_iff (x : Int) (hx : I64 x) : (x != 0) = true ↔ ∃ i, i < 64 ∧ hasB x i = true := by
  rw [bne_iff_ne]
  constructor
  · intro h
    apply Classical.byContradiction; intro hn
    apply h
    apply ext64 _ _ hx I64_zero
    intro i hi
    rw [hasB_zero]
    cases e : hasB x i with
    | false => rfl
    | true => exact absurd ⟨i, hi, e⟩ hn
  · rintro ⟨i, _, h⟩ e
    rw [e, hasB_zero] at h; cases h

theorem andI_swap (x y : Int) : andI x y = andI y x :=
  ext64 _ _ (andI_I64 _ _) (andI_I64 _ _) (fun i hi => by rw [and_bit _ _ _ hi, and_bit _ _ _ hi, Bool.and_comm])

theorem rests_bit (n : Nat) (f : Nat → Int) (a b i : Nat) (hi : i < n) (hn : n ≤ 7) : hasB (restsI n f a b) i = (hasB (f a) i && (andI (f i) (f b) == 0)) := by
  unfold restsI meetI
  rw [andNot_bit _ _ _ (by omega), setOf_bit _ _ _ (by omega), decide_eq_true hi, Bool.true_and, andI_swap (f b) (f i)]
  congr 1
  simp [bne]

theorem rests_out {n : Nat} {f : Nat → Int} (hP : WorldP n f) {a b i : Nat} (ha : a < n) (hi : hasB (restsI n f a b) i = true) (h64 : i < 64) : i < n := by
  unfold restsI at hi
  rw [andNot_bit _ _ _ h64, Bool.and_eq_true] at hi
  exact hasB_lt (hP.rng a ha) hi.1

theorem rests_ne {n : Nat} {f : Nat → Int} (hP : WorldP n f) {a b : Nat} (ha : a < n) : (restsI n f a b != 0) = apB f a b n := by
  have hn := hP.hi
  rw [Bool.eq_iff_iff, nonzero_iff _ (by unfold restsI; exact andNot_I64 _ _)]
  unfold apB; rw [decide_eq_true_eq]
  constructor
  · rintro ⟨i, hi, h⟩
    have hin := rests_out hP ha h hi
    rw [rests_bit n f a b i hin hn, Bool.and_eq_true] at h
    exact ⟨i, hin, h.1, h.2⟩
  · rintro ⟨i, hin, h1, h2⟩
    exact ⟨i, by omega, by rw [rests_bit n f a b i hin hn, h1, h2]; rfl⟩

theorem each_of {n : Nat} {g : Nat → Nat → Bool} (h : ∀ a, a < n → ∀ c, c < n → g a c = true) : eachB n g = true := decide_eq_true (fun a ha c hc _ => h a ha c hc)
theorem each_no {n : Nat} {g : Nat → Nat → Bool} {a c : Nat} (ha : a < n) (hc : c < n) (hac : a ≠ c) (h : g a c = false) : eachB n g = false :=
  decide_eq_false (fun e => by have := e a ha c hc hac; rw [h] at this; cases this)
theorem each_iff {n : Nat} {g : Nat → Nat → Bool} : eachB n g = true ↔ ∀ a, a < n → ∀ c, c < n → a ≠ c → g a c = true := by
  unfold eachB; rw [decide_eq_true_eq]

theorem weakG_same (n : Nat) (f : Nat → Int) (a : Nat) : weakG n f a a = true := by unfold weakG neHas; rw [decide_eq_false (fun h => h rfl)]; rfl
theorem weakG_no {n : Nat} {f : Nat → Int} {a b : Nat} (h : hasB (f a) b = false) : weakG n f a b = true := by unfold weakG neHas; rw [h]; simp
theorem weakG_ap {n : Nat} {f : Nat → Int} (hP : WorldP n f) {a b : Nat} {v : Bool} (ha : a < n) (hab : b ≠ a) (h : hasB (f a) b = true) (hv : apB f a b n = v) : weakG n f a b = v := by
  unfold weakG neHas; rw [h, decide_eq_true hab, rests_ne hP ha, hv]; simp
theorem strongG_yes {n : Nat} {f : Nat → Int} {a b : Nat} (h : hasB (f b) a = true) : strongG n f a b = true := by unfold strongG; rw [h]; simp
theorem strongG_ap {n : Nat} {f : Nat → Int} (hP : WorldP n f) {a b : Nat} {v : Bool} (ha : a < n) (h : hasB (f b) a = false) (hv : apB f a b n = v) : strongG n f a b = v := by
  unfold strongG; rw [h, rests_ne hP ha, hv]; simp

theorem weakB_no {n : Nat} {f : Nat → Int} {a c : Nat} (_ : worldB n f = true) (ha : a < n) (hc : c < n) (hac : a ≠ c) (h : weakG n f a c = false) : weakB n f = false := by
  unfold weakB; rw [each_no ha hc hac h, Bool.and_false]
theorem weakB_of {n : Nat} {f : Nat → Int} (hw : worldB n f = true) (h : ∀ a, a < n → ∀ c, c < n → weakG n f a c = true) : weakB n f = true := by
  unfold weakB; rw [hw, each_of h]; rfl

set_option maxRecDepth 100000 in
set_option maxHeartbeats 3200000 in
theorem specWeakOk_in (b o n cap : Nat) (f : Nat → Int) (hg : worldB n f = true) (w : World) (hi : Ints w (some ⟨b, o, none⟩) n f) (hr : Row w b o n f) :
    Calls Tryz.prog 72 #[.slice (some ⟨b, o, none⟩) n cap] w fun e w' => e = .returned (.bool (weakB n f)) ∧ Drew w w' := by
  have h7 := (worldB_7 hg).2
  have HPW := Lib.hid (world_of hi hg)
  have HG := Lib.hid hg; have HN := Lib.hid hi; have HR := Lib.hid hr; clear hg hi hr
  go_enter Tryz.func72, Tryz.ntmps72
  go_wp2_with fail
  refine (specWorldOk_val _ _ _ f true _ HG.out HN.out).mono ?_
  rintro e w0 ⟨rfl, hd0⟩
  go_wp2_with fail
  go_loopw [3] (fun i wr => ∃ k : Nat, k ≤ n ∧ i = .int .i64 k ∧ Hid (∀ a, a < k → ∀ c, c < n → weakG n f a c = true) ∧ Drew w wr) (fun i _ => n - (intOf i).toNat)
  case atStart => exact ⟨0, Nat.zero_le _, rfl, fun a ha => absurd ha (Nat.not_lt_zero _), hd0⟩
  case round =>
    clear hd0
    obtain ⟨k, hk, rfl, hall, hd⟩ := hrel
    by_cases hlt : k < n
    · go_wp2_with fail
      go_loopw [4] (fun i wr => ∃ j : Nat, j ≤ n ∧ i = .int .i64 j ∧ Hid (∀ c, c < j → weakG n f k c = true) ∧ Drew w wr) (fun i _ => n - (intOf i).toNat)
      case atStart => exact ⟨0, Nat.zero_le _, rfl, fun a ha => absurd ha (Nat.not_lt_zero _), hd⟩
      case round =>
        clear hd
        obtain ⟨j, hj, rfl, hin, hd⟩ := hrel
        by_cases hjn : j < n
        · have hrr0 : Row wr b o n f := by obtain ⟨m, rfl⟩ := hd; exact HR.out.drewN m
          have ck0 := hrr0 k hlt
          have cj0 := hrr0 j hjn
          have hnn0 := (HPW.out.rng k hlt).1
          clear hrr0
          by_cases hjk : j = k
          · subst hjk
            have heq : ((j : Int) == (j : Int)) = true := by simp
            have HG2 := Lib.hid (weakG_same n f j)
            clear ck0 cj0
            go_wp2_with fail
            go_roundw
            case rel => exact ⟨j + 1, by omega, by go_num, fun c hc => by
              by_cases hcj : c = j
              · subst hcj; exact HG2.out
              · exact hin c (by omega), hd⟩
            case measure => simp [intOf]; omega
          · have heq : ((j : Int) == (k : Int)) = false := by rw [beq_eq_false_iff_ne]; omega
            have hnot : ∀ (x : Bool) (w : World), (Op.unary .not (.bool x)).run Tryz.prog w = .ok (.bool (!x)) w := fun _ _ => rfl
            cases hh : hasB (f k) j with
            | false =>
              have HH := Lib.hid hh; clear hh
              have HG2 := Lib.hid (weakG_no (n := n) HH.out)
              go_wp2_with fail
              refine (l1Has_val _ _ false _ HH.out (by omega) hnn0).mono ?_
              rintro e w' ⟨rfl, rfl⟩
              go_wp2_with fail
              go_roundw
              case rel => exact ⟨j + 1, by omega, by go_num, fun c hc => by
                by_cases hcj : c = j
                · subst hcj; exact HG2.out
                · exact hin c (by omega), hd⟩
              case measure => simp [intOf]; omega
            | true =>
              have hhX := Lib.hid hh; clear hh
              go_wp2_with fail
              refine (l1Has_val _ _ true _ hhX.out (by omega) hnn0).mono ?_
              rintro e w' ⟨rfl, rfl⟩
              go_wp2_with fail
              clear ck0 cj0 hnn0 heq hnot
              have HJ := Lib.hid hd; clear hd
              go_loopw [5, 6] (fun v i wr => ∃ m : Nat, m ≤ n ∧ i = .int .i64 m ∧ v = .bool (apB f k j m) ∧ Drew w wr) (fun _ i _ => n - (intOf i).toNat)
              case atStart => exact ⟨0, Nat.zero_le _, rfl, by rw [apB_zero], HJ.out⟩
              case round =>
                clear HJ
                obtain ⟨m, hm, rfl, rfl, hd⟩ := hrel
                by_cases hmn : m < n
                · have hrr : Row wr b o n f := by obtain ⟨m, rfl⟩ := hd; exact HR.out.drewN m
                  have ck := hrr k hlt
                  have cj := hrr j hjn
                  have cm := hrr m hmn
                  have hkn : (k : Int) < (n : Int) := by omega
                  have hjn' : (j : Int) < (n : Int) := by omega
                  have hmn' : (m : Int) < (n : Int) := by omega
                  have hnn := (HPW.out.rng k hlt).1
                  clear hrr
                  cases hap : apB f k j m with
                  | true =>
                    have HS := Lib.hid (apB_old hap); clear hap
                    go_wp2_with fail
                    go_quiet (fail)
                    go_wp2_with fail
                    go_roundw
                    case rel => exact ⟨m + 1, by omega, by go_num, by rw [HS.out], hd.more _⟩
                    case measure => simp [intOf]; omega
                  | false =>
                    cases hh : hasB (f k) m with
                    | false =>
                      have HS := Lib.hid (apB_not hap hh); have HH := Lib.hid hh; clear hap hh
                      go_wp2_with fail
                      go_quiet ((go_at_call 87; exact quiet_left (l1Has_val _ _ false _ HH.out (by omega) hnn)))
                      go_wp2_with fail
                      go_roundw
                      case rel => exact ⟨m + 1, by omega, by go_num, by rw [HS.out], hd.more _⟩
                      case measure => simp [intOf]; omega
                    | true =>
                      cases hz : (andI (f m) (f j) == 0) with
                      | true =>
                        have HS := Lib.hid (apB_new hh hz); have HH := Lib.hid hh; have HZ := Lib.hid hz; clear hap hh hz
                        go_wp2_with fail
                        go_quiet ((go_at_call 87; exact quiet_left (l1Has_val _ _ true _ HH.out (by omega) hnn)))
                        go_wp2_with fail
                        go_roundw
                        case rel => exact ⟨m + 1, by omega, by go_num, by rw [HS.out]; exact congrArg Value.bool HZ.out, hd.more _⟩
                        case measure => simp [intOf]; omega
                      | false =>
                        have HS := Lib.hid (apB_meets hap hz); have HH := Lib.hid hh; have HZ := Lib.hid hz; clear hap hh hz
                        go_wp2_with fail
                        go_quiet ((go_at_call 87; exact quiet_left (l1Has_val _ _ true _ HH.out (by omega) hnn)))
                        go_wp2_with fail
                        go_roundw
                        case rel => exact ⟨m + 1, by omega, by go_num, by rw [HS.out]; exact congrArg Value.bool HZ.out, hd.more _⟩
                        case measure => simp [intOf]; omega
                · have hme : m = n := by omega
                  subst hme
                  cases hap : apB f k j m with
                  | true =>
                    have HG2 := Lib.hid (weakG_ap HPW.out hlt hjk hhX.out hap); clear hap
                    go_wp2_with fail
                    go_roundw
                    case rel => exact ⟨j + 1, by omega, by go_num, fun c hc => by
                      by_cases hcj : c = j
                      · subst hcj; exact HG2.out
                      · exact hin c (by omega), hd⟩
                    case measure => simp [intOf]; omega
                  | false =>
                    have HF := Lib.hid (weakB_no HG.out hlt hjn (fun e => hjk e.symm) (weakG_ap HPW.out hlt hjk hhX.out hap)); clear hap
                    go_wp2_with fail
                    go_ret
                    exact ⟨retb HF.out.symm, hd⟩
        · go_wp2_with fail
          go_roundw
          case rel => exact ⟨k + 1, by omega, by go_num, fun a ha c hc => by
            by_cases hak : a = k
            · subst hak; exact hin c (by omega)
            · exact hall a (by omega) c hc, hd⟩
          case measure => simp [intOf]; omega
    · have HF := Lib.hid (weakB_of HG.out (fun a ha c hc => hall a (by omega) c hc))
      go_wp2_with fail
      go_ret
      exact ⟨retb HF.out.symm, hd⟩

theorem specWeakOk_any (a : Option Addr) (n cap : Nat) (f : Nat → Int) (w : World) (hi : Ints w a n f) :
    Calls Tryz.prog 72 #[.slice a n cap] w fun e w' => e = .returned (.bool (weakB n f)) ∧ Drew w w' := by
  cases hg : worldB n f with
  | true =>
    obtain ⟨b, o, rfl, hlt, hr⟩ := hi.row (worldB_7 hg).1
    exact specWeakOk_in b o n cap f hg w hi hr
  | false =>
    have hfin : weakB n f = false := by unfold weakB; rw [hg]; rfl
    have HF := Lib.hid hfin; have HG := Lib.hid hg; have HN := Lib.hid hi; clear hfin hg hi
    have hn := HN.out.1.1
    go_enter Tryz.func72, Tryz.ntmps72
    go_wp2_with fail
    refine (specWorldOk_val _ _ _ f false _ HG.out HN.out).mono ?_
    rintro e w' ⟨rfl, m0, rfl⟩
    go_wp2_with fail
    go_ret
    exact ⟨retb HF.out.symm, _, rfl⟩

theorem strongB_no {n : Nat} {f : Nat → Int} {a c : Nat} (_ : worldB n f = true) (ha : a < n) (hc : c < n) (hac : a ≠ c) (h : strongG n f a c = false) : strongB n f = false := by
  unfold strongB; rw [each_no ha hc hac h, Bool.and_false]
theorem strongB_of {n : Nat} {f : Nat → Int} (hw : worldB n f = true) (h : ∀ a, a < n → ∀ c, c < n → strongG n f a c = true) : strongB n f = true := by
  unfold strongB; rw [hw, each_of h]; rfl

set_option maxRecDepth 100000 in
set_option maxHeartbeats 3200000 in
theorem specStrongOk_in (b o n cap : Nat) (f : Nat → Int) (hg : worldB n f = true) (w : World) (hi : Ints w (some ⟨b, o, none⟩) n f) (hr : Row w b o n f) :
    Calls Tryz.prog 73 #[.slice (some ⟨b, o, none⟩) n cap] w fun e w' => e = .returned (.bool (strongB n f)) ∧ Drew w w' := by
  have h7 := (worldB_7 hg).2
  have HPW := Lib.hid (world_of hi hg)
  have HG := Lib.hid hg; have HN := Lib.hid hi; have HR := Lib.hid hr; clear hg hi hr
  go_enter Tryz.func73, Tryz.ntmps73
  go_wp2_with fail
  refine (specWorldOk_val _ _ _ f true _ HG.out HN.out).mono ?_
  rintro e w0 ⟨rfl, hd0⟩
  go_wp2_with fail
  go_loopw [3] (fun i wr => ∃ k : Nat, k ≤ n ∧ i = .int .i64 k ∧ Hid (∀ a, a < k → ∀ c, c < n → strongG n f a c = true) ∧ Drew w wr) (fun i _ => n - (intOf i).toNat)
  case atStart => exact ⟨0, Nat.zero_le _, rfl, fun a ha => absurd ha (Nat.not_lt_zero _), hd0⟩
  case round =>
    clear hd0
    obtain ⟨k, hk, rfl, hall, hd⟩ := hrel
    by_cases hlt : k < n
    · go_wp2_with fail
      go_loopw [4] (fun i wr => ∃ j : Nat, j ≤ n ∧ i = .int .i64 j ∧ Hid (∀ c, c < j → strongG n f k c = true) ∧ Drew w wr) (fun i _ => n - (intOf i).toNat)
      case atStart => exact ⟨0, Nat.zero_le _, rfl, fun a ha => absurd ha (Nat.not_lt_zero _), hd⟩
      case round =>
        clear hd
        obtain ⟨j, hj, rfl, hin, hd⟩ := hrel
        by_cases hjn : j < n
        · have hrr0 : Row wr b o n f := by obtain ⟨m, rfl⟩ := hd; exact HR.out.drewN m
          have ck0 := hrr0 k hlt
          have cj0 := hrr0 j hjn
          have hnn0 := (HPW.out.rng j hjn).1
          clear hrr0
          cases hh : hasB (f j) k with
          | true =>
            have HH := Lib.hid hh; clear hh
            have HG2 := Lib.hid (strongG_yes (n := n) HH.out)
            go_wp2_with fail
            refine (l1Has_val _ _ true _ HH.out (by omega) hnn0).mono ?_
            rintro e w' ⟨rfl, rfl⟩
            go_wp2_with fail
            go_roundw
            case rel => exact ⟨j + 1, by omega, by go_num, fun c hc => by
              by_cases hcj : c = j
              · subst hcj; exact HG2.out
              · exact hin c (by omega), hd⟩
            case measure => simp [intOf]; omega
          | false =>
            have hhX := Lib.hid hh; clear hh
            go_wp2_with fail
            refine (l1Has_val _ _ false _ hhX.out (by omega) hnn0).mono ?_
            rintro e w' ⟨rfl, rfl⟩
            go_wp2_with fail
            clear ck0 cj0 hnn0
            have HJ := Lib.hid hd; clear hd
            go_loopw [5, 6] (fun v i wr => ∃ m : Nat, m ≤ n ∧ i = .int .i64 m ∧ v = .bool (apB f k j m) ∧ Drew w wr) (fun _ i _ => n - (intOf i).toNat)
            case atStart => exact ⟨0, Nat.zero_le _, rfl, by rw [apB_zero], HJ.out⟩
            case round =>
              clear HJ
              obtain ⟨m, hm, rfl, rfl, hd⟩ := hrel
              by_cases hmn : m < n
              · have hrr : Row wr b o n f := by obtain ⟨m, rfl⟩ := hd; exact HR.out.drewN m
                have ck := hrr k hlt
                have cj := hrr j hjn
                have cm := hrr m hmn
                have hkn : (k : Int) < (n : Int) := by omega
                have hjn' : (j : Int) < (n : Int) := by omega
                have hmn' : (m : Int) < (n : Int) := by omega
                have hnn := (HPW.out.rng k hlt).1
                clear hrr
                cases hap : apB f k j m with
                | true =>
                  have HS := Lib.hid (apB_old hap); clear hap
                  go_wp2_with fail
                  go_quiet (fail)
                  go_wp2_with fail
                  go_roundw
                  case rel => exact ⟨m + 1, by omega, by go_num, by rw [HS.out], hd.more _⟩
                  case measure => simp [intOf]; omega
                | false =>
                  cases hh : hasB (f k) m with
                  | false =>
                    have HS := Lib.hid (apB_not hap hh); have HH := Lib.hid hh; clear hap hh
                    go_wp2_with fail
                    go_quiet ((go_at_call 87; exact quiet_left (l1Has_val _ _ false _ HH.out (by omega) hnn)))
                    go_wp2_with fail
                    go_roundw
                    case rel => exact ⟨m + 1, by omega, by go_num, by rw [HS.out], hd.more _⟩
                    case measure => simp [intOf]; omega
                  | true =>
                    cases hz : (andI (f m) (f j) == 0) with
                    | true =>
                      have HS := Lib.hid (apB_new hh hz); have HH := Lib.hid hh; have HZ := Lib.hid hz; clear hap hh hz
                      go_wp2_with fail
                      go_quiet ((go_at_call 87; exact quiet_left (l1Has_val _ _ true _ HH.out (by omega) hnn)))
                      go_wp2_with fail
                      go_roundw
                      case rel => exact ⟨m + 1, by omega, by go_num, by rw [HS.out]; exact congrArg Value.bool HZ.out, hd.more _⟩
                      case measure => simp [intOf]; omega
                    | false =>
                      have HS := Lib.hid (apB_meets hap hz); have HH := Lib.hid hh; have HZ := Lib.hid hz; clear hap hh hz
                      go_wp2_with fail
                      go_quiet ((go_at_call 87; exact quiet_left (l1Has_val _ _ true _ HH.out (by omega) hnn)))
                      go_wp2_with fail
                      go_roundw
                      case rel => exact ⟨m + 1, by omega, by go_num, by rw [HS.out]; exact congrArg Value.bool HZ.out, hd.more _⟩
                      case measure => simp [intOf]; omega
              · have hme : m = n := by omega
                subst hme
                cases hap : apB f k j m with
                | true =>
                  have HG2 := Lib.hid (strongG_ap HPW.out hlt hhX.out hap); clear hap
                  go_wp2_with fail
                  go_roundw
                  case rel => exact ⟨j + 1, by omega, by go_num, fun c hc => by
                    by_cases hcj : c = j
                    · subst hcj; exact HG2.out
                    · exact hin c (by omega), hd⟩
                  case measure => simp [intOf]; omega
                | false =>
                  have HF := Lib.hid (strongB_no HG.out hlt hjn (fun e => by subst e; have hs := HPW.out.self k hlt; rw [hhX.out] at hs; cases hs) (strongG_ap HPW.out hlt hhX.out hap)); clear hap
                  go_wp2_with fail
                  go_ret
                  exact ⟨retb HF.out.symm, hd⟩
        · go_wp2_with fail
          go_roundw
          case rel => exact ⟨k + 1, by omega, by go_num, fun a ha c hc => by
            by_cases hak : a = k
            · subst hak; exact hin c (by omega)
            · exact hall a (by omega) c hc, hd⟩
          case measure => simp [intOf]; omega
    · have HF := Lib.hid (strongB_of HG.out (fun a ha c hc => hall a (by omega) c hc))
      go_wp2_with fail
      go_ret
      exact ⟨retb HF.out.symm, hd⟩

theorem specStrongOk_any (a : Option Addr) (n cap : Nat) (f : Nat → Int) (w : World) (hi : Ints w a n f) :
    Calls Tryz.prog 73 #[.slice a n cap] w fun e w' => e = .returned (.bool (strongB n f)) ∧ Drew w w' := by
  cases hg : worldB n f with
  | true =>
    obtain ⟨b, o, rfl, hlt, hr⟩ := hi.row (worldB_7 hg).1
    exact specStrongOk_in b o n cap f hg w hi hr
  | false =>
    have hfin : strongB n f = false := by unfold strongB; rw [hg]; rfl
    have HF := Lib.hid hfin; have HG := Lib.hid hg; have HN := Lib.hid hi; clear hfin hg hi
    have hn := HN.out.1.1
    go_enter Tryz.func73, Tryz.ntmps73
    go_wp2_with fail
    refine (specWorldOk_val _ _ _ f false _ HG.out HN.out).mono ?_
    rintro e w' ⟨rfl, m0, rfl⟩
    go_wp2_with fail
    go_ret
    exact ⟨retb HF.out.symm, _, rfl⟩
end Go.Proofs.YthaickihoagnmaaGreatDoor

namespace Go.Proofs.YthaickihoagnmaaGreatDoor
open Go.RowKit

theorem apB_iff (f : Nat → Int) (a b k : Nat) : apB f a b k = true ↔ ∃ c, c < k ∧ hasB (f a) c = true ∧ andI (f c) (f b) = 0 := by
  unfold apB; rw [decide_eq_true_eq]
  constructor
  · rintro ⟨c, h1, h2, h3⟩; exact ⟨c, h1, h2, beq_iff_eq.1 h3⟩
  · rintro ⟨c, h1, h2, h3⟩; exact ⟨c, h1, h2, beq_iff_eq.2 h3⟩

/-- nothing is a part of both -/
theorem apart_not {n : Nat} {f : Nat → Int} (hP : WorldP n f) {c b i : Nat} (h : andI (f c) (f b) = 0) (hi : i < n) (h1 : hasB (f c) i = true) (h2 : hasB (f b) i = true) : False := by
  have h7 := hP.hi
  have := (and_zero_iff (f c) (f b)).1 h i (by omega) h1
  rw [h2] at this; cases this

theorem strong_iff {n : Nat} {f : Nat → Int} (h64 : ∀ i, i < n → I64 (f i)) : strongB n f = true ↔ WorldP n f ∧ ∀ a, a < n → ∀ b, b < n → a ≠ b → hasB (f b) a = false → apB f a b n = true := by
  unfold strongB
  rw [Bool.and_eq_true, worldB_iff n f h64, each_iff]
  constructor
  · rintro ⟨hP, h⟩
    refine ⟨hP, fun a ha b hb hab hh => ?_⟩
    have := h a ha b hb hab
    unfold strongG at this
    rw [hh, rests_ne hP ha] at this
    simpa using this
  · rintro ⟨hP, h⟩
    refine ⟨hP, fun a ha b hb hab => ?_⟩
    unfold strongG
    cases hh : hasB (f b) a with
    | true => rfl
    | false => rw [rests_ne hP ha, h a ha b hb hab hh]; rfl

theorem weak_iff {n : Nat} {f : Nat → Int} (h64 : ∀ i, i < n → I64 (f i)) : weakB n f = true ↔ WorldP n f ∧ ∀ a, a < n → ∀ b, b < n → a ≠ b → hasB (f a) b = true → apB f a b n = true := by
  unfold weakB
  rw [Bool.and_eq_true, worldB_iff n f h64, each_iff]
  constructor
  · rintro ⟨hP, h⟩
    refine ⟨hP, fun a ha b hb hab hh => ?_⟩
    have := h a ha b hb hab
    unfold weakG neHas at this
    rw [hh, rests_ne hP ha, decide_eq_true (show b ≠ a from fun e => hab e.symm)] at this
    simpa using this
  · rintro ⟨hP, h⟩
    refine ⟨hP, fun a ha b hb hab => ?_⟩
    unfold weakG neHas
    cases hh : hasB (f a) b with
    | false => simp
    | true => rw [rests_ne hP ha, h a ha b hb hab hh]; simp

theorem strong_weak {n : Nat} {f : Nat → Int} (h64 : ∀ i, i < n → I64 (f i)) (h : strongB n f = true) : weakB n f = true := by
  obtain ⟨hP, hs⟩ := (strong_iff h64).1 h
  exact (weak_iff h64).2 ⟨hP, fun a ha b hb hab hh => hs a ha b hb hab (hP.anti a ha b hb hab hh)⟩

theorem strong_world {n : Nat} {f : Nat → Int} (h : strongB n f = true) : worldB n f = true := by
  unfold strongB at h; rw [Bool.and_eq_true] at h; exact h.1
theorem weak_world {n : Nat} {f : Nat → Int} (h : weakB n f = true) : worldB n f = true := by
  unfold weakB at h; rw [Bool.and_eq_true] at h; exact h.1
end Go.Proofs.YthaickihoagnmaaGreatDoor
