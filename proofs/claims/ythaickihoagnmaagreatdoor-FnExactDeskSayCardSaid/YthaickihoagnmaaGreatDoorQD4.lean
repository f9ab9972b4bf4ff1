import Derived.Test.YthaickihoagnmaaGreatDoorQD3
import Derived.Defers
import Derived.RegionCalls
import Derived.StillTailTactics
import Derived.Deep.RegionWith
import Derived.Deep.RegionHeld3
set_option linter.unusedVariables false
set_option linter.unusedSimpArgs false
set_option maxHeartbeats 12800000
namespace Go.Proofs.YthaickihoagnmaaGreatDoor
open Go.RowKit
structure AW (w : World) (b : Nat) (s : Value) (d st x : Int) : Prop where
  lt : b < w.heap.size
  c0 : w.cell? ⟨b, 0, none⟩ = some s
  c1 : w.cell? ⟨b, 1, none⟩ = some (.int .u32 d)
  c2 : w.cell? ⟨b, 2, none⟩ = some (.int .i32 st)
  c4 : w.cell? ⟨b, 4, none⟩ = some (.int .i64 x)
  f1 : w.frozen? ⟨b, 1, none⟩ = false
  f2 : w.frozen? ⟨b, 2, none⟩ = false
  f4 : w.frozen? ⟨b, 4, none⟩ = false
theorem size_setCell (w : World) (p : Addr) (v : Value) : (w.setCell p v).heap.size = w.heap.size := by simp [World.setCell]
theorem AW.setD {w : World} {b : Nat} {s : Value} {d st x : Int} (h : AW w b s d st x) (y : Int) : AW (w.setCell ⟨b, 1, none⟩ (.int .u32 y)) b s y st x := by
  obtain ⟨h0, h1, h2, h3, h4, h5, h6, h7⟩ := h
  refine ⟨by rw [size_setCell]; exact h0, ?_, ?_, ?_, ?_, ?_, ?_, ?_⟩
  · rw [World.cell?_setCell_other _ _ _ _ (by simp)]; exact h1
  · exact World.cell?_setCell_same _ _ _ h2
  · rw [World.cell?_setCell_other _ _ _ _ (by simp)]; exact h3
  · rw [World.cell?_setCell_other _ _ _ _ (by simp)]; exact h4
  · rw [← h5]; go_simp
  · rw [← h6]; go_simp
  · rw [← h7]; go_simp
theorem AW.setSt {w : World} {b : Nat} {s : Value} {d st x : Int} (h : AW w b s d st x) (y : Int) : AW (w.setCell ⟨b, 2, none⟩ (.int .i32 y)) b s d y x := by
  obtain ⟨h0, h1, h2, h3, h4, h5, h6, h7⟩ := h
  refine ⟨by rw [size_setCell]; exact h0, ?_, ?_, ?_, ?_, ?_, ?_, ?_⟩
  · rw [World.cell?_setCell_other _ _ _ _ (by simp)]; exact h1
  · rw [World.cell?_setCell_other _ _ _ _ (by simp)]; exact h2
  · exact World.cell?_setCell_same _ _ _ h3
  · rw [World.cell?_setCell_other _ _ _ _ (by simp)]; exact h4
  · rw [← h5]; go_simp
  · rw [← h6]; go_simp
  · rw [← h7]; go_simp
theorem AW.setX {w : World} {b : Nat} {s : Value} {d st x : Int} (h : AW w b s d st x) (y : Int) : AW (w.setCell ⟨b, 4, none⟩ (.int .i64 y)) b s d st y := by
  obtain ⟨h0, h1, h2, h3, h4, h5, h6, h7⟩ := h
  refine ⟨by rw [size_setCell]; exact h0, ?_, ?_, ?_, ?_, ?_, ?_, ?_⟩
  · rw [World.cell?_setCell_other _ _ _ _ (by simp)]; exact h1
  · rw [World.cell?_setCell_other _ _ _ _ (by simp)]; exact h2
  · rw [World.cell?_setCell_other _ _ _ _ (by simp)]; exact h3
  · exact World.cell?_setCell_same _ _ _ h4
  · rw [← h5]; go_simp
  · rw [← h6]; go_simp
  · rw [← h7]; go_simp
theorem AW.below {w w' : World} {b : Nat} {s : Value} {d st x : Int} (h : AW w b s d st x) {B : Nat} (hb : Below B w w') (hB : b < B) : AW w' b s d st x := by
  obtain ⟨h0, h1, h2, h3, h4, h5, h6, h7⟩ := h
  exact ⟨Nat.lt_of_lt_of_le h0 hb.size, (hb.cell (p := ⟨b, 0, none⟩) hB).trans h1, (hb.cell (p := ⟨b, 1, none⟩) hB).trans h2, (hb.cell (p := ⟨b, 2, none⟩) hB).trans h3, (hb.cell (p := ⟨b, 4, none⟩) hB).trans h4,
    (hb.frozen (p := ⟨b, 1, none⟩) hB).trans h5, (hb.frozen (p := ⟨b, 2, none⟩) hB).trans h6, (hb.frozen (p := ⟨b, 4, none⟩) hB).trans h7⟩
theorem AW.drewN {w : World} {b : Nat} {s : Value} {d st x : Int} (h : AW w b s d st x) (n : Nat) : AW (w.drewN n) b s d st x :=
  h.below (below_drewN (Below.refl _ _) n) h.lt
theorem AW.drew {w : World} {b : Nat} {s : Value} {d st x : Int} (h : AW w b s d st x) : AW w.drew b s d st x :=
  h.below (Below.refl _ _).drew h.lt
theorem Only.drew {rb : Nat} {w w' : World} (h : Only rb w w') : Only rb w w'.drew := ⟨h.os, h.tape, h.output, h.size, h.block⟩
theorem once_disable (w : World) : (callFunc 259 #[]).run Tryz.prog w = .ok (.value (.tuple #[])) w := run_call_mark0 Tryz.func259 (by kernel_rfl) (by kernel_rfl) (by kernel_rfl) .disable (by kernel_rfl) w
theorem once_enable (w : World) : (callFunc 261 #[]).run Tryz.prog w = .ok (.value (.tuple #[])) w := run_call_mark0 Tryz.func261 (by kernel_rfl) (by kernel_rfl) (by kernel_rfl) .enable (by kernel_rfl) w
theorem once_acquire (a : Addr) (w : World) : (callFunc 262 #[.pointer (some a)]).run Tryz.prog w = .ok (.value (.tuple #[])) w := run_call_marked Tryz.func262 (by kernel_rfl) (by kernel_rfl) (by kernel_rfl) .acquire (by kernel_rfl) a w
theorem once_release (a : Addr) (w : World) : (callFunc 264 #[.pointer (some a)]).run Tryz.prog w = .ok (.value (.tuple #[])) w := run_call_marked Tryz.func264 (by kernel_rfl) (by kernel_rfl) (by kernel_rfl) .releaseMerge (by kernel_rfl) a w
theorem once_store (a : Addr) (x : Value) (u : FrameMode) (w : World) (hc : w.cell? a = some x) (hz : w.frozen? a = false) :
    CallsD Tryz.prog 251 #[.pointer (some a), .bool true] u w fun e u' w' => u' = u ∧ (e = .returned (.tuple #[]) ∧ w' = w.drew.setCell a (.int .u32 1)) := by
  have hc' : w.drew.cell? a = some x := by go_simp
  have hz' : w.drew.frozen? a = false := by go_simp
  have hst := run_call_store (P := Tryz.prog) Tryz.func255 (by kernel_rfl) (by kernel_rfl) (by kernel_rfl) (by kernel_rfl) (k := .u32) (y := 1) hc' hz'
  go_enter_d Tryz.func251, Tryz.ntmps251
  go_wp2
  go_region_calls
  all_goals (go_end0; exact ⟨rfl, rfl⟩)
set_option maxRecDepth 100000 in
/-- the lock is let go, as a deferred call -/
theorem once_unlock (a : Addr) (u : FrameMode) (w : World) (hc : w.cell? a = some (.int .i32 1)) (hz : w.frozen? a = false) :
    CallsD Tryz.prog 250 #[.pointer (some a)] u w fun e u' w' => u' = u ∧ (e = .returned (.tuple #[]) ∧ w' = w.setCell a (.int .i32 0)) := by
  have hd := once_disable
  have he := once_enable
  have hr := once_release
  have hadd := run_call_add (P := Tryz.prog) Tryz.func265 (by kernel_rfl) (by kernel_rfl) (by kernel_rfl) .i32 (by kernel_rfl) (y := -1) (s := 0) hc hz (by simp [go_sem]; rfl)
  have hcv := run_convert_to_unsafe (P := Tryz.prog) (src := 238) (dst := 151) Tryz.underlying238 Tryz.underlying151 (by kernel_rfl) hc
  go_enter_d Tryz.func250, Tryz.ntmps250
  go_wp2
  go_end0
  go_wp2
  go_end0
  exact ⟨rfl, rfl⟩
set_option maxRecDepth 100000 in
/-- the lock is taken -/
theorem once_lock (a : Addr) (w : World) (hc : w.cell? a = some (.int .i32 0)) (hz : w.frozen? a = false) :
    Calls Tryz.prog 249 #[.pointer (some a)] w fun e w' => e = .returned (.tuple #[]) ∧ w' = w.setCell a (.int .i32 1) := by
  have hd := once_disable
  have he := once_enable
  have ha := once_acquire
  have hcas := run_call_cas_hit (P := Tryz.prog) Tryz.func260 (by kernel_rfl) (by kernel_rfl) (by kernel_rfl) .i32 (by kernel_rfl) (y := 1) hc hz
  have hc' : (w.setCell a (.int .i32 1)).cell? a = some (.int .i32 1) := World.cell?_setCell_same w a _ hc
  have hcv := run_convert_to_unsafe (P := Tryz.prog) (src := 238) (dst := 151) Tryz.underlying238 Tryz.underlying151 (by kernel_rfl) hc'
  go_enter Tryz.func249, Tryz.ntmps249
  go_wp2
  first | go_end0 | (simp only [Exit.inBlock, Exit.then]; refine bodyPost_ret (results_none rfl _ _ _) rfl ?_) | refine bodyPost_ret (results_none rfl _ _ _) rfl ?_
  go_wp2
  go_end0
  exact ⟨rfl, rfl⟩
def OnceEnd (b : Nat) (s : Value) (d st x : Int) (w : World) (e : Ending) (w' : World) : Prop :=
  e = .returned (.tuple #[]) ∧ AW w' b s d st x ∧ Only b w w'
theorem once_load (a : Addr) (d : Int) (v : Bool) (hv : (d != 0) = v) (w : World) (hc : w.cell? a = some (.int .u32 d)) :
    Calls Tryz.prog 235 #[.pointer (some a)] w fun e w' => e = .returned (.bool v) ∧ w = w' := by
  have hl := run_call_load (P := Tryz.prog) Tryz.func248 (by kernel_rfl) (by kernel_rfl) (by kernel_rfl) .u32 (by kernel_rfl) hc
  have HV := Lib.hid hv; clear hv
  go_enter Tryz.func235, Tryz.ntmps235
  go_wp2
  go_ret
  exact ⟨retb HV.out, rfl⟩
set_option maxRecDepth 100000 in
theorem once_slow (K : Nat) (b p : Nat) (s : Value) (x0 x : Int) (w : World) (h : AW w b s 0 0 x0)
    (hE : ∀ (args : Array Value) (w : World), Sem.run Tryz.prog (callFunc K args) w = .ok (.enter K args) w)
    (hF : Hid (∀ w1, AW w1 b s 0 1 x0 → Only b w w1 → Calls Tryz.prog K #[.pointer (some ⟨p, 0, none⟩)] w1 (OnceEnd b s 0 1 x w1))) :
    Calls Tryz.prog 236 #[.pointer (some ⟨b, 1, none⟩), .func (.func K) #[] #[.pointer (some ⟨p, 0, none⟩)]] w (OnceEnd b s 1 0 x w) := by
  have H := Lib.hid h; clear h
  have hnot : ∀ (x : Bool) (w : World), (Op.unary .not (.bool x)).run Tryz.prog w = .ok (.bool (!x)) w := fun _ _ => rfl
  go_enter_defers Tryz.func236, Tryz.ntmps236
  go_wp2_with fail
  refine (once_lock _ _ H.out.c2 H.out.f2).mono ?_
  rintro e w1 ⟨rfl, hw1⟩
  have h1 : AW w1 b s 0 1 x0 := by rw [hw1]; exact H.out.setSt 1
  have o1 : Only b w w1 := by rw [hw1]; exact (Only.refl b w).setCell 2 _
  have H1 := Lib.hid h1; have HW1 := Lib.hid hw1
  clear hw1 h1
  go_wp2_with fail
  refine (once_load _ 0 false rfl _ H1.out.c1).mono ?_
  rintro e w' ⟨rfl, rfl⟩
  go_wp2_with fail
  refine (hF.out w1 H1.out o1).mono ?_
  rintro e w2 ⟨rfl, h2, o2⟩
  have H2 := Lib.hid h2
  replace o1 := o1.trans o2
  clear h2 o2
  go_wp2_with fail
  refine leaves_cons (f := 251) (args := #[.pointer (some ⟨b, 1, none⟩), .bool true]) (by simp) (by simp [go_sem]) ?_
  refine (once_store ⟨b, 1, none⟩ _ .returning _ H2.out.c1 H2.out.f1).mono ?_
  rintro e u' w3 ⟨rfl, rfl, hw3⟩
  have h3 : AW w3 b s 1 1 x := by rw [hw3]; exact H2.out.drew.setD 1
  replace o1 : Only b w w3 := by rw [hw3]; exact o1.drew.setCell 1 _
  clear hw3
  refine leaves_cons (f := 250) (args := #[.pointer (some ⟨b, 2, none⟩)]) (by simp [settle]) (by simp [go_sem]) ?_
  refine (once_unlock ⟨b, 2, none⟩ _ _ h3.c2 h3.f2).mono ?_
  rintro e u' w4 ⟨rfl, rfl, hw4⟩
  have h4 : AW w4 b s 1 0 x := by rw [hw4]; exact h3.setSt 0
  replace o1 : Only b w w4 := by rw [hw4]; exact o1.setCell 2 _
  clear hw4
  have hfin : OnceEnd b s 1 0 x w (.returned (.tuple #[])) w4 := ⟨rfl, h4, o1⟩
  have HF := Lib.hid hfin; clear hfin
  simp [Leaves, settle, results, Tryz.results236]
  exact HF.out
set_option maxRecDepth 100000 in
theorem once_first (K : Nat) (b p : Nat) (s : Value) (x0 x : Int) (w : World) (h : AW w b s 0 0 x0)
    (hE : ∀ (args : Array Value) (w : World), Sem.run Tryz.prog (callFunc K args) w = .ok (.enter K args) w)
    (hF : Hid (∀ w1, AW w1 b s 0 1 x0 → Only b w w1 → Calls Tryz.prog K #[.pointer (some ⟨p, 0, none⟩)] w1 (OnceEnd b s 0 1 x w1))) :
    Calls Tryz.prog 213 #[.pointer (some ⟨b, 1, none⟩), .func (.func K) #[] #[.pointer (some ⟨p, 0, none⟩)]] w (OnceEnd b s 1 0 x w) := by
  have H := Lib.hid h; clear h
  have HE := Lib.hid hE; clear hE
  have hnot : ∀ (x : Bool) (w : World), (Op.unary .not (.bool x)).run Tryz.prog w = .ok (.bool (!x)) w := fun _ _ => rfl
  go_enter Tryz.func213, Tryz.ntmps213
  go_wp2_with fail
  refine (once_load _ 0 false rfl _ H.out.c1).mono ?_
  rintro e w' ⟨rfl, rfl⟩
  go_wp2_with fail
  refine (once_slow K b p s x0 x _ H.out HE.out hF).mono ?_
  rintro e w' ⟨rfl, h1, h2⟩
  have h1 := Lib.hid h1
  go_wp2_with fail
  go_end0
  exact ⟨rfl, h1.out, h2⟩
theorem once_done (b : Nat) (fv s : Value) (x : Int) (w : World) (h : AW w b s 1 0 x) :
    Calls Tryz.prog 213 #[.pointer (some ⟨b, 1, none⟩), fv] w (OnceEnd b s 1 0 x w) := by
  have H := Lib.hid h; clear h
  have hnot : ∀ (x : Bool) (w : World), (Op.unary .not (.bool x)).run Tryz.prog w = .ok (.bool (!x)) w := fun _ _ => rfl
  go_enter Tryz.func213, Tryz.ntmps213
  go_wp2_with fail
  refine (once_load _ 1 true rfl _ H.out.c1).mono ?_
  rintro e w' ⟨rfl, rfl⟩
  go_wp2_with fail
  go_end0
  exact ⟨rfl, H.out, Only.refl b w⟩
theorem thoseM_any (K : Nat) (a : Option Addr) (n cap : Nat) (r : Value) (g : Nat → Bool) (hn : n ≤ 7) (w : World)
    (hE : ∀ (args : Array Value) (w : World), Sem.run Tryz.prog (callFunc K args) w = .ok (.enter K args) w)
    (hF : Hid (∀ (wr : World) (b : Nat), b < n → Drew w wr → Calls Tryz.prog K #[r, .int .i64 b] wr fun e w' => e = .returned (.bool (g b)) ∧ Drew wr w')) :
    Calls Tryz.prog 215 #[.slice a n cap, .func (.func K) #[r] #[]] w fun e w' => e = .returned (.int .i64 (setOf g n)) ∧ Drew w w' := by
  go_enter Tryz.func215, Tryz.ntmps215
  go_wp2_with fail
  go_loopw [5, 9] (fun v i wr => ∃ k : Nat, k ≤ n ∧ i = .int .i64 k ∧ v = .int .i64 (setOf g k) ∧ Drew w wr) (fun _ i _ => n - (intOf i).toNat)
  case atStart => exact ⟨0, Nat.zero_le _, rfl, rfl, Drew.refl w⟩
  case round =>
    obtain ⟨k, hk, rfl, rfl, hd⟩ := hrel
    by_cases hlt : k < n
    · have hk7 : k < 7 := by omega
      have hp := pow_bounds k (by omega)
      obtain ⟨hp1, hp2⟩ := hp
      cases hg : g k with
      | true =>
        have HS := Lib.hid (setOf_yes g k hg); have HG := Lib.hid hg; clear hg
        go_wp2_with fail
        refine (hF.out wr k hlt hd).mono ?_
        rintro e w' ⟨rfl, hd'⟩
        rw [HG.out]
        go_wp2_with fail
        go_roundw
        case rel => exact ⟨k + 1, by omega, by go_num, by rw [HS.out], by obtain ⟨m, rfl⟩ := hd'; exact hd.more m⟩
        case measure => simp [intOf]; omega
      | false =>
        have HS := Lib.hid (setOf_no g k hg); have HG := Lib.hid hg; clear hg
        go_wp2_with fail
        refine (hF.out wr k hlt hd).mono ?_
        rintro e w' ⟨rfl, hd'⟩
        rw [HG.out]
        go_wp2_with fail
        go_roundw
        case rel => exact ⟨k + 1, by omega, by go_num, by rw [HS.out], by obtain ⟨m, rfl⟩ := hd'; exact hd.more m⟩
        case measure => simp [intOf]; omega
    · have hkn : k = n := by omega
      subst hkn
      go_wp2_with fail
      go_ret
      exact ⟨rfl, hd⟩
def atomB (f : Nat → Int) (a : Nat) : Bool := f a == 2 ^ a
def atomsI (n : Nat) (f : Nat → Int) : Int := setOf (atomB f) n
theorem atom_any (bk off n cap : Nat) (a : Nat) (f : Nat → Int) (hn : n ≤ 7) (ha : a < n) (w : World) (hr : Row w bk off n f) :
    Calls Tryz.prog 216 #[.slice (some ⟨bk, off, none⟩) n cap, .int .i64 a] w fun e w' => e = .returned (.bool (atomB f a)) ∧ Drew w w' := by
  have hc := hr a ha
  have ⟨hp1, hp2⟩ := pow_bounds a (by omega)
  have hai : (a : Int) < (n : Int) := by omega
  go_enter Tryz.func216, Tryz.ntmps216
  go_wp2_with fail
  go_quiet (fail)
  go_wp2_with fail
  go_ret
  exact ⟨rfl, _, rfl⟩
/-- the function that is handed to Do: it lays what was found -/
theorem atomsC_any (b p g n cap : Nat) (f : Nat → Int) (d st x0 : Int) (hn : n ≤ 7) (w : World) (h : AW w b (.slice (some ⟨g, 0, none⟩) n cap) d st x0)
    (hp : w.cell? ⟨p, 0, none⟩ = some (.pointer (some ⟨b, 0, none⟩))) (hr : Row w g 0 n f) :
    Calls Tryz.prog 214 #[.pointer (some ⟨p, 0, none⟩)] w (OnceEnd b (.slice (some ⟨g, 0, none⟩) n cap) d st (atomsI n f) w) := by
  have hE : ∀ (args : Array Value) (w : World), Sem.run Tryz.prog (callFunc 216 args) w = .ok (.enter 216 args) w := enters_of Tryz.func216 (by kernel_rfl) rfl
  have c0 := h.c0; have c4 := h.c4; have f4 := h.f4
  have K1 := Lib.hid (show ∀ (W : World) (v : Value), W.cell? ⟨p, 0, none⟩ = some (.pointer (some ⟨b, 0, none⟩)) → (W.setCell ⟨b, 4, none⟩ v).cell? ⟨p, 0, none⟩ = some (.pointer (some ⟨b, 0, none⟩)) from
    fun W v h => (World.cell?_setCell_other _ _ _ _ (by simp)).trans h)
  have K2 := Lib.hid (show ∀ (W : World) (v : Value), W.cell? ⟨b, 0, none⟩ = some (.slice (some ⟨g, 0, none⟩) n cap) → (W.setCell ⟨b, 4, none⟩ v).cell? ⟨b, 0, none⟩ = some (.slice (some ⟨g, 0, none⟩) n cap) from
    fun W v h => (World.cell?_setCell_other _ _ _ _ (by simp)).trans h)
  have H := Lib.hid h; have HE := Lib.hid hE; have HR := Lib.hid hr; clear h hE hr
  have hmf : ∀ (fn : Fn) (first cap : Array Value) (w : World), (Instr.makeFunc fn first cap).run Tryz.prog w = .ok (.func fn first cap) w := fun _ _ _ _ => rfl
  go_enter Tryz.func214, Tryz.ntmps214
  go_wp2_with fail
  go_region_held3 (fun w' => w'.cell? ⟨p, 0, none⟩ = some (.pointer (some ⟨b, 0, none⟩)) ∧ w'.cell? ⟨b, 0, none⟩ = some (.slice (some ⟨g, 0, none⟩) n cap)) (first | go_keep | exact ⟨K1.out _ _ (by simp [*]), K2.out _ _ (by simp [*])⟩)
    (first | (go_at_call 215; refine (thoseM_any _ _ _ _ _ (atomB f) hn _ HE.out ?_).mono ?_; ((rintro wr b hb ⟨m, rfl⟩; exact atom_any g 0 n cap b f hn hb _ (HR.out.drewN m))); rintro e w' ⟨rfl, m, rfl⟩))
  go_wp2_with fail
  go_end0
  exact ⟨rfl, (H.out.drewN _).setX _, ((Only.refl b w).drewN _).setCell 4 _⟩
def AtomW (w : World) (b g n cap : Nat) (f : Nat → Int) : Prop :=
  (∃ d x, AW w b (.slice (some ⟨g, 0, none⟩) n cap) d 0 x ∧ (d = 0 ∨ (d = 1 ∧ x = atomsI n f))) ∧ Row w g 0 n f ∧ g < w.heap.size ∧ g ≠ b
def AtomEnd (b g n cap : Nat) (f : Nat → Int) (v : Value) (w : World) (e : Ending) (w' : World) : Prop :=
  e = .returned v ∧ AtomW w' b g n cap f ∧ Only b w w'
theorem one_cell (w : World) (v : Value) (t : TypeId) :
    (w.alloc (.cells #[v] t)).cell? ⟨w.heap.size, 0, none⟩ = some v ∧ Below w.heap.size w (w.alloc (.cells #[v] t)) :=
  ⟨(World.rowIs_alloc w #[v] t (fun _ => v) (by intro i hi; match i, hi with | 0, _ => rfl)).cell (Nat.zero_lt_one), (Below.refl _ _).alloc (Nat.le_refl _) _⟩
theorem atoms_any (b g n cap : Nat) (f : Nat → Int) (hn : n ≤ 7) (w : World) (h : AtomW w b g n cap f) :
    Calls Tryz.prog 189 #[.pointer (some ⟨b, 0, none⟩)] w (AtomEnd b g n cap f (.int .i64 (atomsI n f)) w) := by
  have hE : ∀ (args : Array Value) (w : World), Sem.run Tryz.prog (callFunc 214 args) w = .ok (.enter 214 args) w := enters_of Tryz.func214 (by kernel_rfl) rfl
  have hmf : ∀ (fn : Fn) (first cap : Array Value) (w : World), (Instr.makeFunc fn first cap).run Tryz.prog w = .ok (.func fn first cap) w := fun _ _ _ _ => rfl
  obtain ⟨⟨d, x, haw, hd⟩, hr, hg, hgb⟩ := h
  have hlt := haw.lt
  obtain ⟨hc1, hbel⟩ := one_cell w (.pointer (some ⟨b, 0, none⟩)) 170
  replace haw := haw.below hbel hlt
  replace hr := hr.below hbel hg
  have hg2 := Nat.lt_of_lt_of_le hg hbel.size
  have o1 : Only b w (w.alloc (.cells #[.pointer (some ⟨b, 0, none⟩)] 170)) := Only.of_below hbel
  have hpb : w.heap.size ≠ b := by omega
  have C1 := Lib.hid hc1; have H := Lib.hid haw; have HR := Lib.hid hr; have HE := Lib.hid hE; have HO := Lib.hid o1
  have CP := Lib.hid (show ∀ W, Only b (w.alloc (.cells #[.pointer (some ⟨b, 0, none⟩)] 170)) W → W.cell? ⟨w.heap.size, 0, none⟩ = some (.pointer (some ⟨b, 0, none⟩)) from
    fun W o => (World.cell?_of_block (o.block w.heap.size (by show _ < (w.heap.push _).size; rw [Array.size_push]; omega) hpb)).trans hc1)
  have RP := Lib.hid (show ∀ W, Only b (w.alloc (.cells #[.pointer (some ⟨b, 0, none⟩)] 170)) W → Row W g 0 n f ∧ g < W.heap.size from
    fun W o => ⟨hr.only o hg2 hgb, Nat.lt_of_lt_of_le hg2 o.size⟩)
  clear hc1 haw hr hE o1 hbel
  rcases hd with rfl | ⟨rfl, rfl⟩
  · go_enter Tryz.func189, Tryz.ntmps189
    go_wp2_with fail
    refine (once_first _ b _ _ x (atomsI n f) _ H.out HE.out ?_).mono ?_
    · exact fun w1 h1 o1 => atomsC_any b _ g n cap f 0 1 x hn w1 h1 (CP.out _ o1) (RP.out _ o1).1
    · rintro e w2 ⟨rfl, h2, o2⟩
      have hcp := CP.out _ o2
      have h4 := h2.c4
      have H2 := Lib.hid h2; have O2 := Lib.hid o2; clear h2 o2
      go_wp2_with fail
      go_ret
      exact ⟨rfl, ⟨⟨1, _, H2.out, .inr ⟨rfl, rfl⟩⟩, (RP.out _ O2.out).1, (RP.out _ O2.out).2, hgb⟩, HO.out.trans O2.out⟩
  · go_enter Tryz.func189, Tryz.ntmps189
    go_wp2_with fail
    refine (once_done b _ _ _ _ H.out).mono ?_
    rintro e w2 ⟨rfl, h2, o2⟩
    have hcp := CP.out _ o2
    have h4 := h2.c4
    have H2 := Lib.hid h2; have O2 := Lib.hid o2; clear h2 o2
    go_wp2_with fail
    go_ret
    exact ⟨rfl, ⟨⟨1, _, H2.out, .inr ⟨rfl, rfl⟩⟩, (RP.out _ O2.out).1, (RP.out _ O2.out).2, hgb⟩, HO.out.trans O2.out⟩
theorem worldWith_nil (a : Option Addr) (n cap : Nat) (f : Nat → Int) (w : World) (hi : Ints w a n f) :
    Calls Tryz.prog 212 #[.slice a n cap, .slice none 0 0] w fun e w' => WithEnd n f 0 (one 0) w e w' := by
  have hn := hi.1.1
  have hno : insB n 0 (one 0) = true := decide_eq_true (fun i hi => absurd hi (Nat.not_lt_zero _))
  have HNO := Lib.hid hno; clear hno
  go_enter Tryz.func212, Tryz.ntmps212
  go_wp2_with fail
  refine (worldOf_end a n cap f w hi).mono ?_
  rintro e w' ⟨hbel, ⟨hb, rfl, hs, hr⟩ | ⟨hb, rfl⟩⟩
  · have HB := Lib.hid hb; clear hb
    go_wp2_with fail
    go_loopw [19] (fun i wr => i = .int .i64 0 ∧ wr = w') (fun i _ => 0)
    case atStart => exact ⟨rfl, rfl⟩
    case round =>
      obtain ⟨rfl, rfl⟩ := hrel
      go_wp2_with fail
      go_ret2
      exact ⟨hbel, .inl ⟨by rw [HB.out, HNO.out]; rfl, rfl, hs, hr⟩⟩
  · have hfin : (worldB n f && insB n 0 (one 0)) = false := by rw [hb]; rfl
    have HF := Lib.hid hfin; clear hfin hb
    go_wp2_with fail
    go_ret2
    exact ⟨hbel, .inr ⟨HF.out, rfl⟩⟩
theorem aw_new (w : World) (s : Value) (t : TypeId) : AW (w.alloc (.cells #[s, .int .u32 0, .int .i32 0, .int .u32 0, .int .i64 0] t)) w.heap.size s 0 0 0 := by
  have hrow := World.rowIs_alloc w #[s, .int .u32 0, .int .i32 0, .int .u32 0, .int .i64 0] t (fun i => if i = 0 then s else if i = 1 then .int .u32 0 else if i = 2 then .int .i32 0 else if i = 3 then .int .u32 0 else .int .i64 0) (by
    intro i hi
    match i, hi with
    | 0, _ => rfl
    | 1, _ => rfl
    | 2, _ => rfl
    | 3, _ => rfl
    | 4, _ => rfl)
  refine ⟨by show _ < (w.heap.push _).size; rw [Array.size_push]; omega, ?_, ?_, ?_, ?_, hrow.frozen 1, hrow.frozen 2, hrow.frozen 4⟩
  · exact hrow.cell (i := 0) (by show 0 < 5; omega)
  · exact hrow.cell (i := 1) (by show 1 < 5; omega)
  · exact hrow.cell (i := 2) (by show 2 < 5; omega)
  · exact hrow.cell (i := 4) (by show 4 < 5; omega)
def AWEnd (n : Nat) (f : Nat → Int) (good : Bool) (w : World) (e : Ending) (w' : World) : Prop :=
  Below w.heap.size w w' ∧ ((good = true ∧ ∃ b g, e = .returned (.tuple #[.pointer (some ⟨b, 0, none⟩), .bool true]) ∧ AtomW w' b g n n f ∧ w.heap.size ≤ b)
    ∨ (good = false ∧ e = .returned (.tuple #[.pointer none, .bool false])))
theorem atomWorldOf_any (a : Option Addr) (n cap : Nat) (f : Nat → Int) (nv : Option Addr) (m mc : Nat) (g : Nat → Int) (w : World)
    (hW : Calls Tryz.prog 212 #[.slice a n cap, .slice nv m mc] w (WithEnd n f m g w)) :
    Calls Tryz.prog 188 #[.slice a n cap, .slice nv m mc] w (AWEnd n f (worldB n f && insB n m g) w) := by
  have HW := Lib.hid hW; clear hW
  have hnot : ∀ (x : Bool) (w : World), (Op.unary .not (.bool x)).run Tryz.prog w = .ok (.bool (!x)) w := fun _ _ => rfl
  go_enter Tryz.func188, Tryz.ntmps188
  go_wp2_with fail
  refine HW.out.mono ?_
  rintro e w' ⟨hbel, ⟨hb, rfl, hs, hr⟩ | ⟨hb, rfl⟩⟩
  · have HB := Lib.hid hb; have HR := Lib.hid hr; have HBel := Lib.hid hbel; clear hb hr
    have hsz : w.heap.size ≤ w'.heap.size := hbel.size
    have hnew := Lib.hid (aw_new w' (.slice (some ⟨w.heap.size, 0, none⟩) n n) 214)
    clear hbel
    go_wp2_with fail
    go_ret2
    refine ⟨HBel.out.alloc hsz _, .inl ⟨HB.out, w'.heap.size, w.heap.size, rfl, ⟨⟨0, 0, hnew.out, .inl rfl⟩, HR.out.below ((Below.refl w'.heap.size w').alloc (Nat.le_refl _) _) hs, ?_, by omega⟩, hsz⟩⟩
    show _ < (w'.heap.push _).size; rw [Array.size_push]; omega
  · have HB := Lib.hid hb; clear hb
    go_wp2_with fail
    go_ret2
    exact ⟨hbel, .inr ⟨HB.out, rfl⟩⟩
theorem atomWorld0 (a : Option Addr) (n cap : Nat) (f : Nat → Int) (w : World) (hi : Ints w a n f) :
    Calls Tryz.prog 188 #[.slice a n cap, .slice none 0 0] w (AWEnd n f (worldB n f) w) := by
  have := atomWorldOf_any a n cap f none 0 0 (one 0) w (worldWith_nil a n cap f w hi)
  rw [show insB n 0 (one 0) = true from decide_eq_true (fun i hi => absurd hi (Nat.not_lt_zero _)), Bool.and_true] at this
  exact this
def atomsB (n : Nat) (f : Nat → Int) : Int := if worldB n f then atomsI n f else -1
theorem only_onto {b : Nat} {w a c : World} (h : Below w.heap.size w a) (k : Only b a c) (hb : w.heap.size ≤ b) : Below w.heap.size w c := h.trans (k.below hb h.size)
theorem AtomsOf_any (a : Option Addr) (n cap : Nat) (f : Nat → Int) (w : World) (hi : Ints w a n f) :
    Calls Tryz.prog 164 #[.slice a n cap] w fun e w' => e = .returned (.int .i64 (atomsB n f)) ∧ Below w.heap.size w w' := by
  have HI := Lib.hid hi; clear hi
  have hnot : ∀ (x : Bool) (w : World), (Op.unary .not (.bool x)).run Tryz.prog w = .ok (.bool (!x)) w := fun _ _ => rfl
  go_enter Tryz.func164, Tryz.ntmps164
  go_wp2_with fail
  refine (atomWorld0 a n cap f _ HI.out).mono ?_
  rintro e w1 ⟨hbel, ⟨hg, b, g, rfl, haw, hbb⟩ | ⟨hg, rfl⟩⟩
  · have h7 := (worldB_7 hg).2
    have hfin : atomsB n f = atomsI n f := by unfold atomsB; rw [if_pos hg]
    have HF := Lib.hid hfin; have HA := Lib.hid haw; clear hfin haw hg
    go_wp2_with fail
    refine (atoms_any b g n n f h7 _ HA.out).mono ?_
    rintro e w2 ⟨rfl, h2, o2⟩
    clear h2
    go_wp2_with fail
    go_ret
    exact ⟨reti HF.out.symm, only_onto hbel o2 hbb⟩
  · have hfin : atomsB n f = -1 := by unfold atomsB; rw [if_neg (by rw [hg]; decide)]
    have HF := Lib.hid hfin; clear hfin hg
    go_wp2_with fail
    go_ret
    exact ⟨reti HF.out.symm, hbel⟩
theorem specAtomsOf_in (b o n cap : Nat) (f : Nat → Int) (hg : worldB n f = true) (w : World) (hi : Ints w (some ⟨b, o, none⟩) n f) (hr : Row w b o n f) :
    Calls Tryz.prog 76 #[.slice (some ⟨b, o, none⟩) n cap] w fun e w' => e = .returned (.int .i64 (atomsI n f)) ∧ Drew w w' := by
  have h7 := (worldB_7 hg).2
  have HG := Lib.hid hg; have HN := Lib.hid hi; clear hg hi
  go_enter Tryz.func76, Tryz.ntmps76
  go_wp2_with fail
  refine (specWorldOk_val _ _ _ f true _ HG.out HN.out).mono ?_
  rintro e w' ⟨rfl, m0, rfl⟩
  replace hr := hr.drewN m0
  go_wp2_with fail
  go_loopw [3, 4] (fun v i wr => ∃ k : Nat, k ≤ n ∧ i = .int .i64 k ∧ v = .int .i64 (setOf (atomB f) k) ∧ Row wr b o n f ∧ Drew w wr) (fun _ i _ => n - (intOf i).toNat)
  case atStart => exact ⟨0, Nat.zero_le _, rfl, rfl, hr, _, rfl⟩
  case round =>
    obtain ⟨k, hk, rfl, rfl, hrk, hd⟩ := hrel
    by_cases hlt2 : k < n
    · have hc := hrk k hlt2
      have hkn : (k : Int) < (n : Int) := by omega
      have ⟨hp1, hp2⟩ := pow_bounds k (by omega)
      cases hb : atomB f k with
      | true =>
        have HS := Lib.hid (setOf_yes (atomB f) k hb)
        have hbb : (f k == 2 ^ k) = true := hb
        clear hb
        go_wp2_with fail
        go_quiet (fail)
        go_wp2_with fail
        go_roundw
        case rel => exact ⟨k + 1, by omega, by go_num, by rw [HS.out], hrk.drewN _, hd.more _⟩
        case measure => simp [intOf]; omega
      | false =>
        have HS := Lib.hid (setOf_no (atomB f) k hb)
        have hbb : (f k == 2 ^ k) = false := hb
        clear hb
        go_wp2_with fail
        go_quiet (fail)
        go_wp2_with fail
        go_roundw
        case rel => exact ⟨k + 1, by omega, by go_num, by rw [HS.out], hrk.drewN _, hd.more _⟩
        case measure => simp [intOf]; omega
    · have hkn : k = n := by omega
      subst hkn
      go_wp2_with fail
      go_ret
      exact ⟨rfl, hd⟩
theorem specAtomsOf_any (a : Option Addr) (n cap : Nat) (f : Nat → Int) (w : World) (hi : Ints w a n f) :
    Calls Tryz.prog 76 #[.slice a n cap] w fun e w' => e = .returned (.int .i64 (atomsB n f)) ∧ Drew w w' := by
  cases hg : worldB n f with
  | true =>
    obtain ⟨b, o, rfl, hlt, hr⟩ := hi.row (worldB_7 hg).1
    rw [show atomsB n f = atomsI n f by unfold atomsB; rw [if_pos hg]]
    exact specAtomsOf_in b o n cap f hg w hi hr
  | false =>
    have hfin : atomsB n f = -1 := by unfold atomsB; rw [if_neg (by rw [hg]; decide)]
    have HF := Lib.hid hfin; have HG := Lib.hid hg; have HN := Lib.hid hi; clear hfin hg hi
    have hn := HN.out.1.1
    go_enter Tryz.func76, Tryz.ntmps76
    go_wp2_with fail
    refine (specWorldOk_val _ _ _ f false _ HG.out HN.out).mono ?_
    rintro e w' ⟨rfl, m0, rfl⟩
    go_wp2_with fail
    go_ret
    exact ⟨reti HF.out.symm, _, rfl⟩
theorem orI_comm (x y : Int) : orI x y = orI y x :=
  ext64 _ _ (orI_I64 _ _) (orI_I64 _ _) (fun i hi => by rw [or_bit _ _ _ hi, or_bit _ _ _ hi, Bool.or_comm])
theorem or_within (x y : Int) (hy : I64 y) : (bits .or .i64 x y == y) = withinB x y := by
  rw [Bool.eq_iff_iff, beq_iff_eq]
  show orI x y = y ↔ _
  rw [orI_comm, or_eq_iff y x hy, within_iff]
theorem within_self (x : Int) : withinB x x = true := (within_iff x x).2 (fun _ _ h => h)
end Go.Proofs.YthaickihoagnmaaGreatDoor
namespace Go.Proofs.YthaickihoagnmaaGreatDoor
open Go.RowKit Go.Maps
def ppsI (f : Nat → Int) (a : Nat) : Int := bits .andNot .i64 (f a) (2 ^ a)
theorem pps_any (bk off n cap : Nat) (a : Nat) (f : Nat → Int) (hn : n ≤ 7) (ha : a < n) (w : World) (hr : Row w bk off n f) :
    Calls Tryz.prog 244 #[.slice (some ⟨bk, off, none⟩) n cap, .int .i64 a] w fun e w' => e = .returned (.int .i64 (ppsI f a)) ∧ ∃ m, w' = w.drewN m := by
  have hc := hr a ha
  have ⟨hp1, hp2⟩ := pow_bounds a (by omega)
  have hai : (a : Int) < (n : Int) := by omega
  go_enter Tryz.func244, Tryz.ntmps244
  go_wp2_with fail
  go_quiet (fail)
  go_wp2_with fail
  go_ret
  exact ⟨rfl, _, rfl⟩
def companyG (f : Nat → Int) (whole part : Nat) : Bool := !neHas (f whole) part whole || ppsI f whole != 2 ^ part
theorem below_of_drewN (w : World) (m : Nat) : Below w.heap.size w (w.drewN m) := below_drewN (Below.refl _ _) m
theorem company_any (bk off n cap : Nat) (a b : Nat) (f : Nat → Int) (hn : n ≤ 7) (ha : a < n) (hb : b < n) (w : World) (hr : Row w bk off n f) :
    Calls Tryz.prog 230 #[.slice (some ⟨bk, off, none⟩) n cap, .int .i64 a, .int .i64 b] w (AskEnd (companyG f a b) w) := by
  have hc := hr a ha
  have hnot : ∀ (x : Bool) (w : World), (Op.unary .not (.bool x)).run Tryz.prog w = .ok (.bool (!x)) w := fun _ _ => rfl
  have ⟨hp1, hp2⟩ := pow_bounds b (by omega)
  have HR := Lib.hid hr; have HC := Lib.hid hc; clear hr hc
  cases hp : neHas (f a) b a with
  | false =>
    have HF := Lib.hid (show companyG f a b = true by unfold companyG; rw [hp]; rfl)
    have HP := Lib.hid hp; clear hp
    go_enter Tryz.func230, Tryz.ntmps230
    go_wp2_with fail
    go_quiet ((go_at_call 243; exact quiet_left (proper_val bk off n cap b a (f a) false ha (by omega) _ HP.out (by rw [World.cell?_drewN]; exact HC.out))))
    go_wp2_with fail
    go_ret
    exact ⟨retb HF.out.symm, below_of_drewN _ _⟩
  | true =>
    have HF := Lib.hid (show companyG f a b = (ppsI f a != 2 ^ b) by unfold companyG; rw [hp]; rfl)
    have HP := Lib.hid hp; clear hp
    go_enter Tryz.func230, Tryz.ntmps230
    go_wp2_with fail
    go_quiet (first | (go_at_call 243; exact quiet_left (proper_val bk off n cap b a (f a) true ha (by omega) _ HP.out (by rw [World.cell?_drewN]; exact HC.out))) | (go_at_call 244; exact Calls.quiet_of (pps_any bk off n cap a f hn ha _ (HR.out.drewN _))))
    go_wp2_with fail
    go_ret
    exact ⟨retb HF.out.symm, below_of_drewN _ _⟩
def companyB (n : Nat) (f : Nat → Int) : Bool := worldB n f && eachB n (companyG f)
theorem CompanyOk_any (a : Option Addr) (n cap : Nat) (f : Nat → Int) (w : World) (hi : Ints w a n f) :
    Calls Tryz.prog 158 #[.slice a n cap] w fun e w' => e = .returned (.bool (companyB n f)) ∧ Below w.heap.size w w' := by
  have HI := Lib.hid hi; clear hi
  go_enter Tryz.func158, Tryz.ntmps158
  go_wp2_with fail
  refine (axiomOk_at nmCompany (by decide) 0 (by omega) (by kernel_rfl) (by kernel_rfl) 230 (fun _ _ _ h => h.2.2.1) (enters_of (P := Tryz.prog) Tryz.func230 (by kernel_rfl) rfl) n f (companyG f) (fun h7 bk cap a b wr ha hb hr _ => company_any bk 0 n cap a b f h7 ha hb wr hr) a cap _ HI.out).mono ?_
  rintro e w' ⟨rfl, hb⟩
  go_wp2_with fail
  go_ret
  exact ⟨rfl, hb⟩
end Go.Proofs.YthaickihoagnmaaGreatDoor
namespace Go.Proofs.YthaickihoagnmaaGreatDoor
open Go.RowKit
def popc : Nat → Nat → Nat
  | 0, _ => 0
  | k + 1, x => x % 2 + popc k (x / 2)
theorem popc_zero : ∀ k, popc k 0 = 0
  | 0 => rfl
  | k + 1 => by rw [popc]; simp [popc_zero k]
def SizeRel (x : Nat) (s c : Value) : Prop := ∃ k s' c' : Nat, s' < 2 ^ k ∧ k ≤ 7 ∧ s = .int .i64 s' ∧ c = .int .i64 c' ∧ c' + popc k s' = popc 7 x ∧ c' + k ≤ 7
theorem l1Size_any (x : Nat) (hx : x < 128) (w : World) :
    Calls Tryz.prog 122 #[.int .i64 x] w fun e w' => e = .returned (.int .i64 (popc 7 x)) ∧ w = w' := by
  go_enter Tryz.func122, Tryz.ntmps122
  go_wp2_with fail
  go_loop [0, 3] (fun s c => SizeRel x s c) (fun s _ => (intOf s).toNat)
  case atStart => exact ⟨7, x, 0, by omega, by omega, rfl, rfl, by omega, by omega⟩
  case round =>
    obtain ⟨k, s, c, hs, hk, rfl, rfl, hsum, hck⟩ := hrel
    have hs128 : s < 128 := Nat.lt_of_lt_of_le hs (Nat.pow_le_pow_right (by decide) hk)
    by_cases h0 : 0 < s
    · obtain ⟨k', rfl⟩ : ∃ k', k = k' + 1 := by
        cases k with
        | zero => simp at hs; omega
        | succ k' => exact ⟨k', rfl⟩
      rw [popc] at hsum
      rw [Nat.pow_succ] at hs
      have HS := Lib.hid hsum; clear hsum
      have h0i : (0 : Int) < (s : Int) := by omega
      go_wp2_with fail
      go_round
      case rel => exact ⟨k', s / 2, c + s % 2, by omega, by omega, by go_num, by go_num, by have := HS.out; omega, by omega⟩
      case measure => simp [intOf]; omega
    · have hs0 : s = 0 := by omega
      subst hs0
      rw [popc_zero] at hsum
      have HS := Lib.hid hsum; clear hsum
      go_wp2_with fail
      go_ret
      exact ⟨reti (by have := HS.out; omega), rfl⟩
def sizeOk (x a : Nat) : Bool := !(hasB x a) || (((popc 7 x == 2) == (List.range 7).any (fun b => b != a && hasB x b && bits .andNot .i64 x (2 ^ a) == 2 ^ b)) && bits .andNot .i64 x (2 ^ a) == x - 2 ^ a)
theorem sizeOk_all : (List.range 128).all (fun x => (List.range 7).all (sizeOk x)) = true := by kernel_rfl
theorem sizeOk_at (x a : Nat) (hx : x < 128) (ha : a < 7) : sizeOk x a = true := by
  have h := sizeOk_all
  rw [List.all_eq_true] at h
  have h2 := h x (List.mem_range.2 hx)
  rw [List.all_eq_true] at h2
  exact h2 a (List.mem_range.2 ha)
theorem pow7le {n : Nat} (h : n ≤ 7) : (2 : Int) ^ n ≤ 128 := by
  match n, h with
  | 0, _ | 1, _ | 2, _ | 3, _ | 4, _ | 5, _ | 6, _ | 7, _ => decide
theorem size_nat {n : Nat} {f : Nat → Int} (hP : WorldP n f) {a : Nat} (ha : a < n) : ∃ X : Nat, f a = X ∧ X < 128 := by
  have h := hP.rng a ha
  have := pow7le hP.hi
  obtain ⟨X, e⟩ := Int.eq_ofNat_of_zero_le h.1
  exact ⟨X, e, by omega⟩
theorem company_size {n : Nat} {f : Nat → Int} (hP : WorldP n f) {a X : Nat} (ha : a < n) (e : f a = X) : (popc 7 X = 2) ↔ ∃ b, b < n ∧ a ≠ b ∧ companyG f a b = false := by
  obtain ⟨X', e', hX⟩ := size_nat hP ha
  obtain rfl : X = X' := by omega
  have hs := hP.self a ha
  have h := sizeOk_at X a hX (by have := hP.hi; omega)
  unfold sizeOk at h
  have hs2 := hs
  rw [e] at hs2
  rw [hs2] at h
  simp only [Bool.not_true, Bool.false_or, Bool.and_eq_true] at h
  have h1 := beq_iff_eq.1 h.1
  have h2 : (popc 7 X = 2) ↔ (popc 7 X == 2) = true := by rw [beq_iff_eq]
  rw [h2, h1, List.any_eq_true]
  constructor
  · rintro ⟨b, _, hb⟩
    simp only [Bool.and_eq_true, bne_iff_ne] at hb
    have hfb : hasB (f a) b = true := by rw [e]; exact hb.1.2
    refine ⟨b, hasB_lt (hP.rng a ha) hfb, fun e => hb.1.1 e.symm, ?_⟩
    unfold companyG neHas ppsI
    rw [hfb, decide_eq_true hb.1.1, e]
    have h3 := beq_iff_eq.1 hb.2
    rw [h3]; simp
  · rintro ⟨b, hb, hab, hc⟩
    unfold companyG at hc
    rw [Bool.or_eq_false_iff] at hc
    have h3 : neHas (f a) b a = true := by have := hc.1; simpa using this
    unfold neHas at h3
    rw [Bool.and_eq_true, decide_eq_true_eq] at h3
    have h4 : ppsI f a = 2 ^ b := by have := hc.2; simpa using this
    refine ⟨b, List.mem_range.2 (by have := hP.hi; omega), ?_⟩
    simp only [Bool.and_eq_true, bne_iff_ne]
    refine ⟨⟨h3.1, by rw [← e]; exact h3.2⟩, ?_⟩
    unfold ppsI at h4; rw [e] at h4
    rw [h4]; simp
theorem companyB_no {n : Nat} {f : Nat → Int} (hP : WorldP n f) {a X : Nat} (ha : a < n) (e : f a = X) (h : popc 7 X = 2) : companyB n f = false := by
  obtain ⟨b, hb, hab, hc⟩ := (company_size hP ha e).1 h
  unfold companyB; rw [each_no ha hb hab hc, Bool.and_false]
theorem companyB_of {n : Nat} {f : Nat → Int} (hw : worldB n f = true) (h : ∀ a, a < n → ∀ c, c < n → a ≠ c → companyG f a c = true) : companyB n f = true := by
  unfold companyB; rw [hw, each_iff.2 h]; rfl
theorem company_row {n : Nat} {f : Nat → Int} (hP : WorldP n f) {a X : Nat} (ha : a < n) (e : f a = X) (h : popc 7 X ≠ 2) : ∀ c, c < n → a ≠ c → companyG f a c = true := by
  intro c hc hac
  cases hg : companyG f a c with
  | true => rfl
  | false => exact absurd ((company_size hP ha e).2 ⟨c, hc, hac, hg⟩) h
set_option maxRecDepth 100000 in
theorem specCompanyOk_in (b o n cap : Nat) (f : Nat → Int) (hg : worldB n f = true) (w : World) (hi : Ints w (some ⟨b, o, none⟩) n f) (hr : Row w b o n f) :
    Calls Tryz.prog 71 #[.slice (some ⟨b, o, none⟩) n cap] w fun e w' => e = .returned (.bool (companyB n f)) ∧ Drew w w' := by
  have h7 := (worldB_7 hg).2
  have HPW := Lib.hid (world_of hi hg)
  have HG := Lib.hid hg; have HN := Lib.hid hi; have HR := Lib.hid hr; clear hg hi hr
  go_enter Tryz.func71, Tryz.ntmps71
  go_wp2_with fail
  go_loopw [3] (fun i wr => ∃ k : Nat, k ≤ n ∧ i = .int .i64 k ∧ Hid (∀ a, a < k → ∀ c, c < n → a ≠ c → companyG f a c = true) ∧ Drew w wr) (fun i _ => n - (intOf i).toNat)
  case atStart => exact ⟨0, Nat.zero_le _, rfl, fun a ha => absurd ha (Nat.not_lt_zero _), Drew.refl _⟩
  case round =>
    obtain ⟨k, hk, rfl, hall, hd⟩ := hrel
    by_cases hlt : k < n
    · go_wp2_with fail
      refine (specWorldOk_val _ _ _ f true _ HG.out (HN.out.drew hd)).mono ?_
      rintro e w1 ⟨rfl, hd1⟩
      have hd2 : Drew w w1 := by obtain ⟨m, rfl⟩ := hd1; exact hd.more m
      clear hd hd1
      obtain ⟨X, hX, hX7⟩ := size_nat HPW.out hlt
      have hc : w1.cell? ⟨b, o + k, none⟩ = some (.int .i64 X) := by
        have hrr : Row w1 b o n f := by obtain ⟨m, rfl⟩ := hd2; exact HR.out.drewN m
        have := hrr k hlt; rwa [hX] at this
      by_cases hp : popc 7 X = 2
      · have hpi : ((popc 7 X : Int) == 2) = true := by rw [beq_iff_eq]; omega
        have HF := Lib.hid (companyB_no HPW.out hlt hX hp); clear hp hX
        go_wp2_with fail
        refine (l1Size_any X hX7 _).mono ?_
        rintro e w' ⟨rfl, rfl⟩
        go_wp2_with fail
        go_ret
        exact ⟨retb HF.out.symm, hd2⟩
      · have hpi : ((popc 7 X : Int) == 2) = false := by rw [beq_eq_false_iff_ne]; omega
        have HF := Lib.hid (company_row HPW.out hlt hX hp); clear hp hX
        go_wp2_with fail
        refine (l1Size_any X hX7 _).mono ?_
        rintro e w' ⟨rfl, rfl⟩
        go_wp2_with fail
        go_roundw
        case rel => exact ⟨k + 1, by omega, by go_num, fun a ha c hcn hac => by
          by_cases hak : a = k
          · subst hak; exact HF.out c hcn hac
          · exact hall a (by omega) c hcn hac, hd2⟩
        case measure => simp [intOf]; omega
    · have HF := Lib.hid (companyB_of HG.out (fun a ha c hc hac => hall a (by omega) c hc hac))
      go_wp2_with fail
      refine (specWorldOk_val _ _ _ f true _ HG.out (HN.out.drew hd)).mono ?_
      rintro e w1 ⟨rfl, hd1⟩
      have hd2 : Drew w w1 := by obtain ⟨m, rfl⟩ := hd1; exact hd.more m
      clear hd hd1
      go_wp2_with fail
      go_ret
      exact ⟨retb HF.out.symm, hd2⟩
theorem specCompanyOk_any (a : Option Addr) (n cap : Nat) (f : Nat → Int) (w : World) (hi : Ints w a n f) :
    Calls Tryz.prog 71 #[.slice a n cap] w fun e w' => e = .returned (.bool (companyB n f)) ∧ Drew w w' := by
  cases hg : worldB n f with
  | true =>
    obtain ⟨b, o, rfl, hlt, hr⟩ := hi.row (worldB_7 hg).1
    exact specCompanyOk_in b o n cap f hg w hi hr
  | false =>
    have hfin : companyB n f = false := by unfold companyB; rw [hg]; rfl
    have HF := Lib.hid hfin; have HG := Lib.hid hg; have HN := Lib.hid hi; clear hfin hg hi
    have hn := HN.out.1.1
    go_enter Tryz.func71, Tryz.ntmps71
    go_wp2_with fail
    go_loopw [3] (fun i wr => i = .int .i64 0 ∧ wr = w) (fun _ _ => 0)
    case atStart => exact ⟨rfl, rfl⟩
    case round =>
      obtain ⟨rfl, rfl⟩ := hrel
      by_cases h0 : 0 < n
      · have h0i : (0 : Int) < (n : Int) := by omega
        go_wp2_with fail
        refine (specWorldOk_val _ _ _ f false _ HG.out HN.out).mono ?_
        rintro e w' ⟨rfl, m0, rfl⟩
        go_wp2_with fail
        refine (specWorldOk_val _ _ _ f false _ HG.out (HN.out.drew ⟨_, rfl⟩)).mono ?_
        rintro e w' ⟨rfl, m1, rfl⟩
        go_wp2_with fail
        go_ret
        exact ⟨retb HF.out.symm, _, rfl⟩
      · have h0i : ¬ (0 : Int) < (n : Int) := by omega
        go_wp2_with fail
        refine (specWorldOk_val _ _ _ f false _ HG.out HN.out).mono ?_
        rintro e w' ⟨rfl, m0, rfl⟩
        go_wp2_with fail
        go_ret
        exact ⟨retb HF.out.symm, _, rfl⟩
def classB (n : Nat) (f : Nat → Int) : Bool := strongB n f && summedB n f
def wfF (n : Nat) (f : Nat → Int) (a : Nat) : Int := setOf (fun b => withinB (f b) (f a)) n
def fam (S : Nat → Bool) : Nat → List Int
  | 0 => []
  | k + 1 => if S k then fam S k ++ [(k : Int)] else fam S k
theorem fam_yes {S : Nat → Bool} {k : Nat} (h : S k = true) : fam S (k + 1) = fam S k ++ [(k : Int)] := by rw [fam, if_pos h]
theorem fam_no {S : Nat → Bool} {k : Nat} (h : S k = false) : fam S (k + 1) = fam S k := by rw [fam, if_neg (by rw [h]; decide)]
theorem fam_mem {S : Nat → Bool} {k : Nat} {x : Int} : x ∈ fam S k ↔ ∃ t : Nat, t < k ∧ S t = true ∧ x = t := by
  induction k with
  | zero => simp [fam]
  | succ k ih =>
    cases h : S k with
    | true =>
      rw [fam_yes h, List.mem_append, ih, List.mem_singleton]
      constructor
      · rintro (⟨t, h1, h2, h3⟩ | rfl)
        · exact ⟨t, by omega, h2, h3⟩
        · exact ⟨k, by omega, h, rfl⟩
      · rintro ⟨t, h1, h2, h3⟩
        by_cases e : t = k
        · subst e; exact .inr h3
        · exact .inl ⟨t, by omega, h2, h3⟩
    | false =>
      rw [fam_no h, ih]
      constructor
      · rintro ⟨t, h1, h2, h3⟩; exact ⟨t, by omega, h2, h3⟩
      · rintro ⟨t, h1, h2, h3⟩
        by_cases e : t = k
        · subst e; rw [h] at h2; cases h2
        · exact ⟨t, by omega, h2, h3⟩
theorem fam_len_le (S : Nat → Bool) (k : Nat) : (fam S k).length ≤ k := by
  induction k with
  | zero => exact Nat.le_refl _
  | succ k ih =>
    rw [fam]; split
    · simp; omega
    · omega
theorem fam_congr {S T : Nat → Bool} (k : Nat) (h : ∀ t, t < k → S t = T t) : fam S k = fam T k := by
  induction k with
  | zero => rfl
  | succ k ih => rw [fam, fam, ih (fun t ht => h t (by omega)), h k (by omega)]
def addS (S : Nat → Bool) (x : Nat) : Nat → Bool := fun t => S t || t == x
theorem addS_self (S : Nat → Bool) (x : Nat) : addS S x x = true := by unfold addS; simp
theorem addS_old {S : Nat → Bool} {x t : Nat} (h : t ≠ x) : addS S x t = S t := by unfold addS; simp [h]
theorem addS_sub {S : Nat → Bool} {x t : Nat} (h : S t = true) : addS S x t = true := by unfold addS; rw [h]; rfl
theorem addS_iff {S : Nat → Bool} {x t : Nat} : addS S x t = true ↔ S t = true ∨ t = x := by unfold addS; simp
theorem addS_have {S : Nat → Bool} {x : Nat} (h : S x = true) : addS S x = S := by
  funext t; unfold addS
  by_cases e : t = x
  · subst e; simp [h]
  · simp [e]
theorem fam_split (S : Nat → Bool) (x k : Nat) (h : x ≤ k) : ∃ R, fam S k = fam S x ++ R ∧ ∀ y ∈ R, (x : Int) ≤ y := by
  induction k with
  | zero =>
    have : x = 0 := by omega
    subst this
    exact ⟨[], rfl, by simp⟩
  | succ k ih =>
    by_cases e : x = k + 1
    · subst e; exact ⟨[], by simp, by simp⟩
    · obtain ⟨R, h1, h2⟩ := ih (by omega)
      cases hs : S k with
      | true =>
        refine ⟨R ++ [(k : Int)], by rw [fam_yes hs, h1, List.append_assoc], fun y hy => ?_⟩
        rcases List.mem_append.1 hy with hy | hy
        · exact h2 y hy
        · rw [List.mem_singleton] at hy; omega
      | false => exact ⟨R, by rw [fam_no hs, h1], h2⟩
theorem fam_add {S : Nat → Bool} {x k : Nat} (hx : x < k) (hn : S x = false) : ∃ R, fam S k = fam S x ++ R ∧ fam (addS S x) k = fam S x ++ ((x : Int) :: R) ∧ ∀ y ∈ R, (x : Int) < y := by
  induction k with
  | zero => omega
  | succ k ih =>
    by_cases e : x = k
    · subst e
      refine ⟨[], by rw [fam_no hn]; simp, ?_, by simp⟩
      rw [fam_yes (addS_self S x), fam_congr x (fun t ht => addS_old (S := S) (x := x) (by omega))]
    · obtain ⟨R, h1, h2, h3⟩ := ih (by omega)
      have ek : addS S x k = S k := addS_old (by omega)
      cases hs : S k with
      | true =>
        refine ⟨R ++ [(k : Int)], by rw [fam_yes hs, h1, List.append_assoc], by rw [fam_yes (by rw [ek]; exact hs), h2, List.append_assoc]; rfl, fun y hy => ?_⟩
        rcases List.mem_append.1 hy with hy | hy
        · exact h3 y hy
        · rw [List.mem_singleton] at hy; omega
      | false => exact ⟨R, by rw [fam_no hs, h1], by rw [fam_no (by rw [ek]; exact hs), h2], h3⟩
theorem fam_add_len {S : Nat → Bool} {x k : Nat} (hx : x < k) (hn : S x = false) : (fam (addS S x) k).length = (fam S k).length + 1 := by
  obtain ⟨R, h1, h2, _⟩ := fam_add hx hn
  rw [h1, h2]; simp; omega
theorem fam_lo {S : Nat → Bool} {k : Nat} {x : Int} (h : x ∈ fam S k) : 0 ≤ x ∧ x < k := by
  obtain ⟨t, h1, _, rfl⟩ := fam_mem.1 h; omega
theorem fam_diff {S F : Nat → Bool} (k : Nat) (h : ∀ t, S t = true → F t = true) : (fam F k).length = (fam S k).length + (fam (fun t => F t && !S t) k).length := by
  induction k with
  | zero => rfl
  | succ k ih =>
    cases hs : S k with
    | true =>
      rw [fam_yes (h k hs), fam_yes hs, fam_no (S := fun t => F t && !S t) (by simp [hs])]
      simp; omega
    | false =>
      cases hf : F k with
      | true => rw [fam_yes hf, fam_no hs, fam_yes (S := fun t => F t && !S t) (by simp [hs, hf])]; simp; omega
      | false => rw [fam_no hf, fam_no hs, fam_no (S := fun t => F t && !S t) (by simp [hf])]; omega
theorem append_getD_left {A R : List Int} {i : Nat} (h : i < A.length) : (A ++ R).getD i 0 = A.getD i 0 := by
  rw [List.getD_eq_getElem?_getD, List.getD_eq_getElem?_getD, List.getElem?_append_left h]
theorem append_getD_right {A R : List Int} {i : Nat} (h : A.length ≤ i) : (A ++ R).getD i 0 = R.getD (i - A.length) 0 := by
  rw [List.getD_eq_getElem?_getD, List.getD_eq_getElem?_getD, List.getElem?_append_right h]
theorem getD_in {xs : List Int} {i : Nat} (hi : i < xs.length) : xs.getD i 0 ∈ xs := by
  rw [List.getD_eq_getElem?_getD, List.getElem?_eq_getElem hi]; exact List.getElem_mem _
theorem fam_place (S : Nat → Bool) (x k : Nat) (hx : x < k) : (fam S x).length ≤ (fam S k).length ∧ (∀ i, i < (fam S x).length → (fam S k).getD i 0 < x) ∧ (∀ i, (fam S x).length ≤ i → i < (fam S k).length → (x : Int) ≤ (fam S k).getD i 0) ∧
    (decide ((fam S x).length < (fam S k).length) && ((fam S k).getD (fam S x).length 0 == (x : Int))) = S x := by
  obtain ⟨R, h1, h2⟩ := fam_split S x k (by omega)
  refine ⟨by rw [h1, List.length_append]; omega, fun i hi => ?_, fun i hi hl => ?_, ?_⟩
  · rw [h1, append_getD_left hi]; exact (fam_lo (getD_in hi)).2
  · rw [h1, List.length_append] at hl
    rw [h1, append_getD_right hi]
    exact h2 _ (getD_in (by omega))
  · cases hs : S x with
    | true =>
      obtain ⟨R', h3, _⟩ := fam_split S (x + 1) k (by omega)
      rw [fam_yes hs, List.append_assoc] at h3
      rw [h3, append_getD_right (Nat.le_refl _), Nat.sub_self, List.length_append]
      simp
    | false =>
      obtain ⟨R', h3, h4⟩ := fam_split S (x + 1) k (by omega)
      rw [fam_no hs] at h3
      rw [Bool.and_eq_false_iff]
      by_cases hl : (fam S x).length < (fam S k).length
      · right
        rw [beq_eq_false_iff_ne]
        rw [h3, List.length_append] at hl
        rw [h3, append_getD_right (Nat.le_refl _), Nat.sub_self]
        have := h4 _ (getD_in (xs := R') (i := 0) (by omega))
        omega
      · left; exact decide_eq_false hl
def famOkB (n : Nat) (f : Nat → Int) : Bool := decide (1 ≤ n ∧ n ≤ 7) && decide (∀ k, k < n → (1 ≤ f k ∧ f k ≤ 15) ∧ ∀ j, j < k → f j ≠ f k)
def memS (n : Nat) (f : Nat → Int) (t : Nat) : Bool := decide (∃ k, k < n ∧ f k = (t : Int))
structure FamP (n : Nat) (f : Nat → Int) : Prop where
  lo : 1 ≤ n
  hi : n ≤ 7
  rng : ∀ k, k < n → 1 ≤ f k ∧ f k ≤ 15
  inj : ∀ k, k < n → ∀ j, j < n → f j = f k → j = k
theorem famOk_iff {n : Nat} {f : Nat → Int} : famOkB n f = true ↔ FamP n f := by
  unfold famOkB
  rw [Bool.and_eq_true, decide_eq_true_eq, decide_eq_true_eq]
  constructor
  · rintro ⟨⟨h1, h2⟩, h3⟩
    refine ⟨h1, h2, fun k hk => (h3 k hk).1, fun k hk j hj e => ?_⟩
    apply Classical.byContradiction; intro hne
    rcases Nat.lt_or_gt_of_ne hne with h | h
    · exact (h3 k hk).2 j h e
    · exact (h3 j hj).2 k h e.symm
  · intro h
    exact ⟨⟨h.lo, h.hi⟩, fun k hk => ⟨h.rng k hk, fun j hj e => by have := h.inj k hk j (by omega) e; omega⟩⟩
theorem famOk_no {n : Nat} {f : Nat → Int} {k : Nat} (hk : k < n) (h : ¬ ((1 ≤ f k ∧ f k ≤ 15) ∧ ∀ j, j < k → f j ≠ f k)) : famOkB n f = false := by
  unfold famOkB; rw [decide_eq_false (p := ∀ k, k < n → (1 ≤ f k ∧ f k ≤ 15) ∧ ∀ j, j < k → f j ≠ f k) (fun h' => h (h' k hk)), Bool.and_false]
theorem famOk_len {n : Nat} {f : Nat → Int} (h : ¬ (1 ≤ n ∧ n ≤ 7)) : famOkB n f = false := by
  unfold famOkB; rw [decide_eq_false h, Bool.false_and]
theorem famOk_of {n : Nat} {f : Nat → Int} (h1 : 1 ≤ n) (h2 : n ≤ 7) (h : ∀ k, k < n → (1 ≤ f k ∧ f k ≤ 15) ∧ ∀ j, j < k → f j ≠ f k) : famOkB n f = true := by
  unfold famOkB; rw [decide_eq_true ⟨h1, h2⟩, decide_eq_true h]; rfl
theorem FamP.nat {n : Nat} {f : Nat → Int} (h : FamP n f) {k : Nat} (hk : k < n) : ∃ x : Nat, f k = x ∧ 1 ≤ x ∧ x < 16 := by
  have := h.rng k hk
  exact ⟨(f k).toNat, by omega, by omega, by omega⟩
theorem memS_iff {n : Nat} {f : Nat → Int} {t : Nat} : memS n f t = true ↔ ∃ k, k < n ∧ f k = (t : Int) := by unfold memS; rw [decide_eq_true_eq]
theorem memS_zero (f : Nat → Int) : memS 0 f = fun _ => false := by
  funext t; unfold memS; exact decide_eq_false (fun ⟨_, h, _⟩ => absurd h (Nat.not_lt_zero _))
theorem fam_none (k : Nat) : fam (fun _ => false) k = [] := by
  induction k with
  | zero => rfl
  | succ k ih => rw [fam_no rfl, ih]
theorem memS_succ {n : Nat} {f : Nat → Int} {x : Nat} (h : f n = (x : Int)) : memS (n + 1) f = addS (memS n f) x := by
  funext t
  rw [Bool.eq_iff_iff, memS_iff, addS_iff, memS_iff]
  constructor
  · rintro ⟨k, h1, h2⟩
    by_cases e : k = n
    · subst e; right; omega
    · exact .inl ⟨k, by omega, h2⟩
  · rintro (⟨k, h1, h2⟩ | rfl)
    · exact ⟨k, by omega, h2⟩
    · exact ⟨n, by omega, h⟩
theorem memS_new {k : Nat} {f : Nat → Int} {x : Nat} (h : f k = (x : Int)) : memS k f x = false ↔ ∀ j, j < k → f j ≠ f k := by
  rw [Bool.eq_false_iff, Ne, memS_iff]
  constructor
  · intro h1 j hj e; exact h1 ⟨j, hj, by omega⟩
  · rintro h1 ⟨j, hj, e⟩; exact h1 j hj (by omega)
theorem mem_len {n : Nat} {f : Nat → Int} (h : FamP n f) : ∀ k, k ≤ n → (fam (memS k f) 16).length = k
  | 0, _ => by rw [memS_zero, fam_none]; rfl
  | k + 1, hk => by
    obtain ⟨x, e, _, hx⟩ := h.nat (k := k) (by omega)
    rw [memS_succ e, fam_add_len hx, mem_len h k (by omega)]
    exact (memS_new e).2 (fun j hj e => by have := h.inj k (by omega) j (by omega) e; omega)
theorem FamP.i64 {n : Nat} {f : Nat → Int} (h : FamP n f) {k : Nat} (hk : k < n) : I64 (f k) := by
  have := h.rng k hk; unfold I64; omega
theorem memS_rng {n : Nat} {f : Nat → Int} (h : FamP n f) {t : Nat} (ht : memS n f t = true) : 1 ≤ t ∧ t < 16 := by
  obtain ⟨k, hk, e⟩ := memS_iff.1 ht
  have := h.rng k hk; omega
theorem within_trans {x y z : Int} (h1 : withinB x y = true) (h2 : withinB y z = true) : withinB x z = true :=
  (within_iff _ _).2 (fun i hi h => (within_iff _ _).1 h2 i hi ((within_iff _ _).1 h1 i hi h))
theorem within_anti {x y : Int} (hx : I64 x) (hy : I64 y) (h1 : withinB x y = true) (h2 : withinB y x = true) : x = y :=
  ext64 _ _ hx hy (fun i hi => by
    rw [Bool.eq_iff_iff]; exact ⟨(within_iff _ _).1 h1 i hi, (within_iff _ _).1 h2 i hi⟩)
theorem within_or (x y : Int) : withinB x (orI x y) = true ∧ withinB y (orI x y) = true :=
  ⟨(within_iff _ _).2 (fun i hi h => by rw [or_bit _ _ _ hi, h]; rfl), (within_iff _ _).2 (fun i hi h => by rw [or_bit _ _ _ hi, h, Bool.or_true])⟩
theorem orI_nat (x y : Nat) (hx : x < 128) (hy : y < 128) : orI x y = ((x ||| y : Nat) : Int) := by
  have h : x ||| y < 128 := Nat.or_lt_two_pow (n := 7) hx hy
  refine ext64 _ _ (orI_I64 _ _) (by unfold I64; omega) (fun i hi => ?_)
  rw [or_bit _ _ _ hi, hasB_nat, hasB_nat, hasB_nat, Nat.testBit_or]
theorem or_nat16 {x y : Nat} (hx : x < 16) (hy : y < 16) : x ||| y < 16 := Nat.or_lt_two_pow (n := 4) hx hy
theorem bit16 {x i : Nat} (hx : x < 16) (h : hasB (x : Int) i = true) : i < 4 := by
  apply Classical.byContradiction; intro hn
  rw [hasB_big (x : Int) 4 (by omega) (by omega) i (by omega)] at h; cases h
theorem wf_bit {n : Nat} {f : Nat → Int} {a b : Nat} (hn : n ≤ 7) (hb : b < n) : hasB (wfF n f a) b = withinB (f b) (f a) := by
  unfold wfF; rw [setOf_bit _ _ _ (by omega), decide_eq_true hb, Bool.true_and]
theorem wf_I64 (n : Nat) (f : Nat → Int) (a : Nat) : I64 (wfF n f a) := setOf_I64 _ _
theorem wf_rng {n : Nat} (f : Nat → Int) (a : Nat) (h7 : n ≤ 7) : 0 ≤ wfF n f a ∧ wfF n f a < 2 ^ n := setOf_rng _ n (by omega)
theorem wf_lt {n : Nat} {f : Nat → Int} {a i : Nat} (h7 : n ≤ 7) (h : hasB (wfF n f a) i = true) : i < n := hasB_lt (wf_rng f a h7) h
theorem wf_P {n : Nat} {f : Nat → Int} (h : FamP n f) : WorldP n (wfF n f) where
  lo := h.lo
  hi := h.hi
  rng := fun a _ => wf_rng f a h.hi
  self := fun a ha => by rw [wf_bit h.hi ha]; exact within_self _
  anti := fun a ha b hb hne h1 => by
    rw [wf_bit h.hi hb] at h1
    rw [wf_bit h.hi ha, Bool.eq_false_iff]
    intro h2
    exact hne (h.inj b hb a ha (within_anti (h.i64 ha) (h.i64 hb) h2 h1))
  trans := fun a ha b hb h1 i h2 => by
    have hi := wf_lt h.hi h2
    rw [wf_bit h.hi hb] at h1
    rw [wf_bit h.hi hi] at h2 ⊢
    exact within_trans h2 h1
theorem wf_world {n : Nat} {f : Nat → Int} (h : FamP n f) : worldB n (wfF n f) = true := (worldB_iff n _ (fun a _ => wf_I64 n f a)).2 (wf_P h)
structure Clos (S : Nat → Bool) (L : Nat → List Int) (F : Nat → Bool) : Prop where
  rng : ∀ s, 1 ≤ s → s < 16 → (L s).length ≤ 16 ∧ ∀ y ∈ L s, ∃ m : Nat, 1 ≤ m ∧ m < 16 ∧ y = m
  sub : ∀ t, S t = true → F t = true
  pos : ∀ t, F t = true → 1 ≤ t ∧ t < 16
  step : ∀ t, F t = true → ∀ m : Nat, (m : Int) ∈ L t → F m = true
  least : ∀ T : Nat → Bool, (∀ t, S t = true → T t = true) → (∀ t, T t = true → F t = true) → (∀ t, T t = true → ∀ m : Nat, (m : Int) ∈ L t → T m = true) → ∀ t, F t = true → T t = true
def ptB (t : Nat) : Bool := t == 1 || t == 2 || t == 4 || t == 8
def FP (S : Nat → Bool) (t : Nat) : Bool := S t || (ptB t && (List.range 16).any (fun s => S s && withinB (t : Int) (s : Int)))
def ptsL (s : Int) : Nat → List Int
  | 0 => []
  | p + 1 => if hasB s p then ptsL s p ++ [(2 : Int) ^ p] else ptsL s p
theorem pts_yes {s : Int} {p : Nat} (h : hasB s p = true) : ptsL s (p + 1) = ptsL s p ++ [(2 : Int) ^ p] := by rw [ptsL, if_pos h]
theorem pts_no {s : Int} {p : Nat} (h : hasB s p = false) : ptsL s (p + 1) = ptsL s p := by rw [ptsL, if_neg (by rw [h]; decide)]
theorem pts_len (s : Int) (p : Nat) : (ptsL s p).length ≤ p := by
  induction p with
  | zero => exact Nat.le_refl _
  | succ k ih =>
    rw [ptsL]; split
    · simp; omega
    · omega
theorem pts_mem {s : Int} {p : Nat} {x : Int} : x ∈ ptsL s p ↔ ∃ i, i < p ∧ hasB s i = true ∧ x = 2 ^ i := by
  induction p with
  | zero => simp [ptsL]
  | succ k ih =>
    cases h : hasB s k with
    | true =>
      rw [pts_yes h, List.mem_append, ih, List.mem_singleton]
      constructor
      · rintro (⟨t, h1, h2, h3⟩ | rfl)
        · exact ⟨t, by omega, h2, h3⟩
        · exact ⟨k, by omega, h, rfl⟩
      · rintro ⟨t, h1, h2, h3⟩
        by_cases e : t = k
        · subst e; exact .inr h3
        · exact .inl ⟨t, by omega, h2, h3⟩
    | false =>
      rw [pts_no h, ih]
      constructor
      · rintro ⟨t, h1, h2, h3⟩; exact ⟨t, by omega, h2, h3⟩
      · rintro ⟨t, h1, h2, h3⟩
        by_cases e : t = k
        · subst e; rw [h] at h2; cases h2
        · exact ⟨t, by omega, h2, h3⟩
theorem pow4 {i : Nat} (hi : i < 4) : ∃ m : Nat, (2 : Int) ^ i = m ∧ 1 ≤ m ∧ m < 16 ∧ ptB m = true ∧ m = 2 ^ i := by
  rcases (show i = 0 ∨ i = 1 ∨ i = 2 ∨ i = 3 by omega) with rfl | rfl | rfl | rfl
  · exact ⟨1, rfl, by omega, by omega, rfl, rfl⟩
  · exact ⟨2, rfl, by omega, by omega, rfl, rfl⟩
  · exact ⟨4, rfl, by omega, by omega, rfl, rfl⟩
  · exact ⟨8, rfl, by omega, by omega, rfl, rfl⟩
theorem pt_pow {t : Nat} (h : ptB t = true) : ∃ i, i < 4 ∧ (2 : Int) ^ i = t := by
  unfold ptB at h
  simp only [Bool.or_eq_true, beq_iff_eq] at h
  rcases h with ((rfl | rfl) | rfl) | rfl
  · exact ⟨0, by omega, rfl⟩
  · exact ⟨1, by omega, rfl⟩
  · exact ⟨2, by omega, rfl⟩
  · exact ⟨3, by omega, rfl⟩
theorem pow_within {i : Nat} {x : Int} : withinB (2 ^ i) x = true ↔ (i < 64 → hasB x i = true) := by
  rw [within_iff]
  constructor
  · intro h hi; exact h i hi (by rw [hasB_pow]; simp)
  · intro h j hj hb
    rw [hasB_pow, decide_eq_true_eq] at hb
    subst hb; exact h hj
theorem FP_iff {S : Nat → Bool} {t : Nat} : FP S t = true ↔ S t = true ∨ (ptB t = true ∧ ∃ s, s < 16 ∧ S s = true ∧ withinB (t : Int) (s : Int) = true) := by
  unfold FP; rw [Bool.or_eq_true, Bool.and_eq_true, List.any_eq_true]
  simp only [List.mem_range, Bool.and_eq_true]
theorem clos_pts {S : Nat → Bool} (hS : ∀ t, S t = true → 1 ≤ t ∧ t < 16) : Clos S (fun s => ptsL (s : Int) 4) (FP S) where
  rng := fun s _ _ => ⟨by have := pts_len (s : Int) 4; omega, fun y hy => by
    obtain ⟨i, hi, _, rfl⟩ := pts_mem.1 hy
    obtain ⟨m, e, h1, h2, _⟩ := pow4 hi
    exact ⟨m, h1, h2, e⟩⟩
  sub := fun t h => FP_iff.2 (.inl h)
  pos := fun t h => by
    rcases FP_iff.1 h with h | ⟨h, _⟩
    · exact hS t h
    · obtain ⟨i, hi, e⟩ := pt_pow h
      obtain ⟨m, e2, h1, h2, _⟩ := pow4 hi
      omega
  step := fun t ht m hm => by
    obtain ⟨i, hi, hb, e⟩ := pts_mem.1 hm
    obtain ⟨m', e2, h1, h2, h3, _⟩ := pow4 hi
    have hmm : m' = m := by omega
    subst hmm
    have key : ∀ s : Nat, S s = true → withinB (t : Int) (s : Int) = true → FP S m' = true := fun s hs hw =>
      FP_iff.2 (.inr ⟨h3, s, (hS s hs).2, hs, by rw [e]; exact pow_within.2 (fun _ => (within_iff _ _).1 hw i (by omega) hb)⟩)
    rcases FP_iff.1 ht with ht | ⟨_, s, _, hs, hw⟩
    · exact key t ht (within_self _)
    · exact key s hs hw
  least := fun T h1 _ h3 t ht => by
    rcases FP_iff.1 ht with ht | ⟨hp, s, hs16, hs, hw⟩
    · exact h1 t ht
    · obtain ⟨i, hi, e⟩ := pt_pow hp
      refine h3 s (h1 s hs) t (pts_mem.2 ⟨i, hi, ?_, e.symm⟩)
      rw [← e] at hw
      exact pow_within.1 hw (by omega)
def gotK (f : Nat → Int) (t : Int) : Nat → Int
  | 0 => 0
  | k + 1 => if withinB (f k) t then orI (gotK f t k) (f k) else gotK f t k
theorem got_yes {f : Nat → Int} {t : Int} {k : Nat} (h : withinB (f k) t = true) : gotK f t (k + 1) = bits .or .i64 (gotK f t k) (f k) := by rw [gotK, if_pos h]; rfl
theorem got_no {f : Nat → Int} {t : Int} {k : Nat} (h : withinB (f k) t = false) : gotK f t (k + 1) = gotK f t k := by rw [gotK, if_neg (by rw [h]; decide)]
theorem got_bit {f : Nat → Int} {t : Int} {k i : Nat} (hi : i < 64) : hasB (gotK f t k) i = true ↔ ∃ j, j < k ∧ withinB (f j) t = true ∧ hasB (f j) i = true := by
  induction k with
  | zero => rw [gotK, hasB_zero]; simp
  | succ k ih =>
    cases h : withinB (f k) t with
    | true =>
      rw [gotK, if_pos h, or_bit _ _ _ hi, Bool.or_eq_true, ih]
      constructor
      · rintro (⟨j, h1, h2, h3⟩ | h3)
        · exact ⟨j, by omega, h2, h3⟩
        · exact ⟨k, by omega, h, h3⟩
      · rintro ⟨j, h1, h2, h3⟩
        by_cases e : j = k
        · subst e; exact .inr h3
        · exact .inl ⟨j, by omega, h2, h3⟩
    | false =>
      rw [got_no h, ih]
      constructor
      · rintro ⟨j, h1, h2, h3⟩; exact ⟨j, by omega, h2, h3⟩
      · rintro ⟨j, h1, h2, h3⟩
        by_cases e : j = k
        · subst e; rw [h] at h2; cases h2
        · exact ⟨j, by omega, h2, h3⟩
theorem got_I64 (f : Nat → Int) (t : Int) (k : Nat) : I64 (gotK f t k) := by
  induction k with
  | zero => exact I64_zero
  | succ k ih => rw [gotK]; split; exact orI_I64 _ _; exact ih
def FS (n : Nat) (f : Nat → Int) (t : Nat) : Bool := decide (1 ≤ t ∧ t < 16) && (gotK f (t : Int) n == (t : Int))
theorem FS_iff {n : Nat} {f : Nat → Int} {t : Nat} : FS n f t = true ↔ (1 ≤ t ∧ t < 16) ∧ ∀ i, i < 4 → hasB (t : Int) i = true → ∃ j, j < n ∧ withinB (f j) (t : Int) = true ∧ hasB (f j) i = true := by
  unfold FS
  rw [Bool.and_eq_true, decide_eq_true_eq, beq_iff_eq]
  constructor
  · rintro ⟨h1, h2⟩
    refine ⟨h1, fun i hi hb => (got_bit (by omega)).1 (by rw [h2]; exact hb)⟩
  · rintro ⟨h1, h2⟩
    refine ⟨h1, ext64 _ _ (got_I64 _ _ _) (by unfold I64; omega) (fun i hi => ?_)⟩
    rw [Bool.eq_iff_iff, got_bit hi]
    constructor
    · rintro ⟨j, _, h3, h4⟩; exact (within_iff _ _).1 h3 i hi h4
    · intro hb; exact h2 i (bit16 h1.2 hb) hb
theorem FS_sub {n : Nat} {f : Nat → Int} (h : FamP n f) {t : Nat} (ht : memS n f t = true) : FS n f t = true := by
  have hr := memS_rng h ht
  obtain ⟨k, hk, e⟩ := memS_iff.1 ht
  exact FS_iff.2 ⟨hr, fun i hi hb => ⟨k, hk, by rw [e]; exact within_self _, by rw [e]; exact hb⟩⟩
theorem FS_or {n : Nat} {f : Nat → Int} {t u m : Nat} (ht : FS n f t = true) (hu : FS n f u = true) (hm : orI (t : Int) (u : Int) = m) : FS n f m = true := by
  obtain ⟨h1, h2⟩ := FS_iff.1 ht
  obtain ⟨h3, h4⟩ := FS_iff.1 hu
  have em := orI_nat t u (by omega) (by omega)
  have h5 := or_nat16 h1.2 h3.2
  have h6 : t ≤ t ||| u := Nat.left_le_or
  refine FS_iff.2 ⟨by omega, fun i hi hb => ?_⟩
  rw [← hm] at hb ⊢
  rw [or_bit _ _ _ (by omega), Bool.or_eq_true] at hb
  rcases hb with hb | hb
  · obtain ⟨j, hj, hw, hbj⟩ := h2 i hi hb
    exact ⟨j, hj, within_trans hw (within_or _ _).1, hbj⟩
  · obtain ⟨j, hj, hw, hbj⟩ := h4 i hi hb
    exact ⟨j, hj, within_trans hw (within_or _ _).2, hbj⟩
theorem FS_least {n : Nat} {f : Nat → Int} (h : FamP n f) {T : Nat → Bool} (h1 : ∀ t, memS n f t = true → T t = true) (h2 : ∀ t u m : Nat, t < 16 → T t = true → memS n f u = true → orI (t : Int) (u : Int) = m → T m = true) {t : Nat} (ht : FS n f t = true) : T t = true := by
  have hr := (FS_iff.1 ht).1
  have key : ∀ k, k ≤ n → gotK f (t : Int) k = 0 ∨ ∃ y : Nat, gotK f (t : Int) k = y ∧ y < 16 ∧ T y = true := by
    intro k
    induction k with
    | zero => intro _; left; rfl
    | succ k ih =>
      intro hk
      obtain ⟨x, e, hx1, hx⟩ := h.nat (k := k) (by omega)
      have hmx : memS n f x = true := memS_iff.2 ⟨k, by omega, e⟩
      cases hw : withinB (f k) (t : Int) with
      | false => rw [got_no hw]; exact ih (by omega)
      | true =>
        right
        rw [gotK, if_pos hw, e]
        rcases ih (by omega) with h0 | ⟨y, ey, hy, hT⟩
        · rw [h0]
          exact ⟨x, by
            have := orI_nat 0 x (by omega) (by omega)
            rw [Nat.zero_or] at this; exact this, hx, h1 x hmx⟩
        · rw [ey]
          exact ⟨y ||| x, orI_nat y x (by omega) (by omega), or_nat16 hy hx, h2 y x _ hy hT hmx (orI_nat y x (by omega) (by omega))⟩
  rcases key n (Nat.le_refl _) with h0 | ⟨y, ey, _, hT⟩
  · unfold FS at ht; rw [h0] at ht; simp at ht; omega
  · unfold FS at ht
    rw [Bool.and_eq_true, beq_iff_eq] at ht
    have : y = t := by omega
    subst this; exact hT
def sumL (S : Nat → Bool) (s : Int) : List Int := (fam S 16).map (fun y => orI s y)
theorem clos_sums {n : Nat} {f : Nat → Int} (h : FamP n f) : Clos (memS n f) (fun s => sumL (memS n f) (s : Int)) (FS n f) where
  rng := fun s h1 hs => ⟨by unfold sumL; rw [List.length_map]; exact fam_len_le _ _, fun y hy => by
    obtain ⟨z, hz, rfl⟩ := List.mem_map.1 hy
    obtain ⟨t, ht, _, rfl⟩ := fam_mem.1 hz
    exact ⟨s ||| t, by have : s ≤ s ||| t := Nat.left_le_or
                       omega, or_nat16 hs ht, orI_nat s t (by omega) (by omega)⟩⟩
  sub := fun t ht => FS_sub h ht
  pos := fun t ht => (FS_iff.1 ht).1
  step := fun t ht m hm => by
    obtain ⟨z, hz, e⟩ := List.mem_map.1 hm
    obtain ⟨u, hu, hu2, rfl⟩ := fam_mem.1 hz
    exact FS_or ht (FS_sub h hu2) e
  least := fun T h1 _ h3 t ht => FS_least h h1 (fun t u m ht hT hu e => h3 t hT m (by
    have hu16 := (memS_rng h hu).2
    exact List.mem_map.2 ⟨u, fam_mem.2 ⟨u, hu16, hu, rfl⟩, e⟩)) ht
def newS (F S : Nat → Bool) (t : Nat) : Bool := F t && !S t
def withL (n : Nat) (f : Nat → Int) (F : Nat → Bool) (k : Nat) : List Int := (List.range n).map f ++ fam (newS F (memS n f)) k
def roomB (n : Nat) (f : Nat → Int) (F : Nat → Bool) : Bool := famOkB n f && decide ((withL n f F 16).length ≤ 7)
def doneL (n : Nat) (f : Nat → Int) (F : Nat → Bool) : List Int := if roomB n f F then withL n f F 16 else []
theorem with_len (n : Nat) (f : Nat → Int) (F : Nat → Bool) (k : Nat) : (withL n f F k).length = n + (fam (newS F (memS n f)) k).length := by
  unfold withL; rw [List.length_append, List.length_map, List.length_range]
theorem with_all {n : Nat} {f : Nat → Int} (h : FamP n f) {F : Nat → Bool} (hF : ∀ t, memS n f t = true → F t = true) : (withL n f F 16).length = (fam F 16).length := by
  rw [with_len, fam_diff 16 hF, mem_len h n (Nat.le_refl _)]
  rfl
end Go.Proofs.YthaickihoagnmaaGreatDoor
namespace Go.Proofs.YthaickihoagnmaaGreatDoor
def famL (xs : List Int) : Bool := famOkB xs.length (fun i => xs.getD i 0)
def deskB (xs : List Int) (L : List (List Int)) : Bool := famL xs && (decide (L.length ≤ 8) && L.all famL)
theorem deskB_iff {xs : List Int} {L : List (List Int)} : deskB xs L = true ↔ famL xs = true ∧ L.length ≤ 8 ∧ ∀ l ∈ L, famL l = true := by
  unfold deskB
  simp only [Bool.and_eq_true, decide_eq_true_eq, List.all_eq_true]
def mdL (xs : List Int) (k x : Int) : List Int :=
  if k = 0 then xs ++ [x] else if k = 1 then xs.filter (fun y => y != x) else if k = 2 then doneL xs.length (fun i => xs.getD i 0) (FP (memS xs.length (fun i => xs.getD i 0)))
  else if k = 3 then doneL xs.length (fun i => xs.getD i 0) (FS xs.length (fun i => xs.getD i 0)) else []
def chB (xs : List Int) (k x : Int) : Bool := dOk k x && (famL (mdL xs k x) && decide ((mdL xs k x).length ≠ xs.length))
def dkB (xs : List Int) (L : List (List Int)) (k x : Int) : Bool := deskB xs L && (if k = 4 then decide (x = 0) && decide (L ≠ []) else chB xs k x)
def dkX (xs : List Int) (L : List (List Int)) (k x : Int) : List Int := if dkB xs L k x then (if k = 4 then L.getLastD [] else mdL xs k x) else if deskB xs L then xs else []
def dkL (xs : List Int) (L : List (List Int)) (k x : Int) : List (List Int) := if dkB xs L k x then (if k = 4 then L.dropLast else (L ++ [xs]).drop (L.length - 7)) else if deskB xs L then L else []
theorem famL_nil : famL [] = false := by decide +kernel
theorem famL_P {xs : List Int} (h : famL xs = true) : FamP xs.length (fun i => xs.getD i 0) := famOk_iff.1 h
theorem famL_len {xs : List Int} (h : famL xs = true) : 1 ≤ xs.length ∧ xs.length ≤ 7 := ⟨(famL_P h).lo, (famL_P h).hi⟩
theorem famL_rng {xs : List Int} (h : famL xs = true) : ∀ x ∈ xs, 1 ≤ x ∧ x ≤ 15 := by
  intro x hx
  obtain ⟨i, hi, rfl⟩ := List.getElem_of_mem hx
  have := (famL_P h).rng i hi
  rw [List.getD_eq_getElem?_getD, List.getElem?_eq_getElem hi] at this
  exact this
theorem famL_I64 {xs : List Int} (h : famL xs = true) : ∀ x ∈ xs, I64 x := fun x hx => by have := famL_rng h x hx; unfold I64; omega
section
variable {xs : List Int} {L : List (List Int)} {k x : Int}
theorem dk_no (h : dkB xs L k x = false) (hd : deskB xs L = true) : dkX xs L k x = xs ∧ dkL xs L k x = L := by
  unfold dkX dkL
  rw [h, hd]
  exact ⟨rfl, rfl⟩
theorem dk_none (h : deskB xs L = false) : dkB xs L k x = false ∧ dkX xs L k x = [] ∧ dkL xs L k x = [] := by
  have e : dkB xs L k x = false := by unfold dkB; rw [h, Bool.false_and]
  refine ⟨e, ?_, ?_⟩
  · unfold dkX; rw [e, h]; rfl
  · unfold dkL; rw [e, h]; rfl
theorem dkB_text (h : dOk k x = false) : dkB xs L k x = false := by
  unfold dkB
  by_cases e : k = 4
  · subst e
    have hx : x ≠ 0 := by
      intro hx
      have := dOk_iff.2 (.inr ⟨by omega, by omega, hx⟩ : (0 ≤ (4 : Int) ∧ (4 : Int) ≤ 1 ∧ 1 ≤ x ∧ x ≤ 15) ∨ (2 ≤ (4 : Int) ∧ (4 : Int) ≤ 4 ∧ x = 0))
      rw [this] at h; cases h
    rw [if_pos rfl, decide_eq_false hx, Bool.false_and, Bool.and_false]
  · rw [if_neg e]
    unfold chB
    rw [h, Bool.false_and, Bool.and_false]
theorem dkB_back (h : deskB xs L = true) : dkB xs L 4 0 = decide (L ≠ []) := by
  unfold dkB
  rw [h, if_pos rfl]
  simp
theorem dk_back (h : deskB xs L = true) (hL : L ≠ []) : dkX xs L 4 0 = L.getLastD [] ∧ dkL xs L 4 0 = L.dropLast := by
  have e : dkB xs L 4 0 = true := by rw [dkB_back h]; simpa using hL
  unfold dkX dkL
  rw [e]
  exact ⟨by rw [if_pos rfl, if_pos rfl], by rw [if_pos rfl, if_pos rfl]⟩
theorem dkB_ch (h : deskB xs L = true) (hk : k ≠ 4) : dkB xs L k x = chB xs k x := by
  unfold dkB
  rw [h, if_neg hk, Bool.true_and]
theorem dk_ch (h : deskB xs L = true) (hk : k ≠ 4) (hc : chB xs k x = true) : dkX xs L k x = mdL xs k x ∧ dkL xs L k x = (L ++ [xs]).drop (L.length - 7) := by
  have e : dkB xs L k x = true := by rw [dkB_ch h hk]; exact hc
  unfold dkX dkL
  rw [e]
  exact ⟨by rw [if_pos rfl, if_neg hk], by rw [if_pos rfl, if_neg hk]⟩
theorem chB_iff : chB xs k x = true ↔ dOk k x = true ∧ famL (mdL xs k x) = true ∧ (mdL xs k x).length ≠ xs.length := by
  unfold chB
  simp only [Bool.and_eq_true, decide_eq_true_eq]
theorem chB_fam (h : famL (mdL xs k x) = false) : chB xs k x = false := by unfold chB; rw [h, Bool.false_and, Bool.and_false]
theorem dk_desk (h : deskB xs L = true) : deskB (dkX xs L k x) (dkL xs L k x) = true := by
  cases hb : dkB xs L k x with
  | false => rw [(dk_no hb h).1, (dk_no hb h).2]; exact h
  | true =>
    obtain ⟨h1, h2, h3⟩ := deskB_iff.1 h
    by_cases e : k = 4
    · subst e
      have hx : x = 0 ∧ L ≠ [] := by
        unfold dkB at hb
        rw [h, if_pos rfl, Bool.true_and, Bool.and_eq_true, decide_eq_true_eq, decide_eq_true_eq] at hb
        exact hb
      obtain ⟨rfl, hL⟩ := hx
      obtain ⟨e1, e2⟩ := dk_back h hL
      rw [e1, e2, deskB_iff]
      refine ⟨?_, by rw [List.length_dropLast]; omega, fun l hl => h3 l (List.dropLast_subset L hl)⟩
      rw [List.getLastD_eq_getLast?, List.getLast?_eq_some_getLast hL]
      exact h3 _ (List.getLast_mem hL)
    · rw [dkB_ch h e] at hb
      obtain ⟨e1, e2⟩ := dk_ch h e hb
      rw [e1, e2, deskB_iff]
      refine ⟨(chB_iff.1 hb).2.1, by rw [List.length_drop, List.length_append, List.length_singleton]; omega, fun l hl => ?_⟩
      rcases List.mem_append.1 (List.mem_of_mem_drop hl) with hl | hl
      · exact h3 l hl
      · rw [List.mem_singleton] at hl; rw [hl]; exact h1
end
end Go.Proofs.YthaickihoagnmaaGreatDoor
