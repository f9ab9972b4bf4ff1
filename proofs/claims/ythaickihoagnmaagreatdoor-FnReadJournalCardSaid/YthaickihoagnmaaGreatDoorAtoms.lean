import Derived.Test.YthaickihoagnmaaGreatDoorBaseB
import Derived.Defers
import Derived.RegionCalls
import Derived.StillTailTactics
import Derived.Deep.RegionWith
import Derived.Deep.RegionHeld3
import Derived.Test.YthaickihoagnmaaGreatDoorBaseA
namespace Go.Proofs.YthaickihoagnmaaGreatDoor
open Go.RowKit

/-- the five cells of a world with its atoms, in the block b: the world, done, the lock's state, what was found -/
structure AW (w : World) (b : Nat) (s : Value) (d st x : Int) : Prop where
  lt : b < w.heap.size
  c0 : w.cell? ⟨b, 0, none⟩ = some s
  c1 : w.cell? ⟨b, 1, none⟩ = some (.int .u32 d)
  c2 : w.cell? ⟨b, 2, none⟩ = some (.int .i32 st)
  c4 : w.cell? ⟨b, 4, none⟩ = some (.int .i64 x)
  f1 : w.frozen? ⟨b, 1, none⟩ = false
  f2 : w.frozen? ⟨b, 2, none⟩ = false
  f4 : w.frozen? ⟨b, 4, none⟩ = false

theorem size_setCell (w : World) (p : Addr) (v : Value) : (w.setCell p v).heap.size = w.heap.size := by simp [World.setCell]

theorem AW.setD {w : World} {b : Nat} {s : Value} {d st x : Int} (h : AW w b s d st x) (y : Int) : AW (w.setCell ⟨b, 1, none⟩ (.int .u32 y)) b s y st x := by
  obtain ⟨h0, h1, h2, h3, h4, h5, h6, h7⟩ := h
  refine ⟨by rw [size_setCell]; exact h0, ?_, ?_, ?_, ?_, ?_, ?_, ?_⟩
  · rw [World.cell?_setCell_other _ _ _ _ (by simp)]; exact h1
  · exact World.cell?_setCell_same _ _ _ h2
  · rw [World.cell?_setCell_other _ _ _ _ (by simp)]; exact h3
  · rw [World.cell?_setCell_other _ _ _ _ (by simp)]; exact h4
  · rw [← h5]; go_simp
  · rw [← h6]; go_simp
  · rw [← h7]; go_simp

theorem AW.setSt {w : World} {b : Nat} {s : Value} {d st x : Int} (h : AW w b s d st x) (y : Int) : AW (w.setCell ⟨b, 2, none⟩ (.int .i32 y)) b s d y x := by
  obtain ⟨h0, h1, h2, h3, h4, h5, h6, h7⟩ := h
  refine ⟨by rw [size_setCell]; exact h0, ?_, ?_, ?_, ?_, ?_, ?_, ?_⟩
  · rw [World.cell?_setCell_other _ _ _ _ (by simp)]; exact h1
  · rw [World.cell?_setCell_other _ _ _ _ (by simp)]; exact h2
  · exact World.cell?_setCell_same _ _ _ h3
  · rw [World.cell?_setCell_other _ _ _ _ (by simp)]; exact h4
  · rw [← h5]; go_simp
  · rw [← h6]; go_simp
  · rw [← h7]; go_simp

theorem AW.setX {w : World} {b : Nat} {s : Value} {d st x : Int} (h : AW w b s d st x) (y : Int) : AW (w.setCell ⟨b, 4, none⟩ (.int .i64 y)) b s d st y := by
  obtain ⟨h0, h1, h2, h3, h4, h5, h6, h7⟩ := h
  refine ⟨by rw [size_setCell]; exact h0, ?_, ?_, ?_, ?_, ?_, ?_, ?_⟩
  · rw [World.cell?_setCell_other _ _ _ _ (by simp)]; exact h1
  · rw [World.cell?_setCell_other _ _ _ _ (by simp)]; exact h2
  · rw [World.cell?_setCell_other _ _ _ _ (by simp)]; exact h3
  · exact World.cell?_setCell_same _ _ _ h4
  · rw [← h5]; go_simp
  · rw [← h6]; go_simp
  · rw [← h7]; go_simp

theorem AW.below {w w' : World} {b : Nat} {s : Value} {d st x : Int} (h : AW w b s d st x) {B : Nat} (hb : Below B w w') (hB : b < B) : AW w' b s d st x := by
  obtain ⟨h0, h1, h2, h3, h4, h5, h6, h7⟩ := h
  exact ⟨Nat.lt_of_lt_of_le h0 hb.size, (hb.cell (p := ⟨b, 0, none⟩) hB).trans h1, (hb.cell (p := ⟨b, 1, none⟩) hB).trans h2, (hb.cell (p := ⟨b, 2, none⟩) hB).trans h3, (hb.cell (p := ⟨b, 4, none⟩) hB).trans h4,
    (hb.frozen (p := ⟨b, 1, none⟩) hB).trans h5, (hb.frozen (p := ⟨b, 2, none⟩) hB).trans h6, (hb.frozen (p := ⟨b, 4, none⟩) hB).trans h7⟩

theorem AW.drewN {w : World} {b : Nat} {s : Value} {d st x : Int} (h : AW w b s d st x) (n : Nat) : AW (w.drewN n) b s d st x :=
  h.below (below_drewN (Below.refl _ _) n) h.lt

theorem AW.drew {w : World} {b : Nat} {s : Value} {d st x : Int} (h : AW w b s d st x) : AW w.drew b s d st x :=
  h.below (Below.refl _ _).drew h.lt

theorem Only.drew {rb : Nat} {w w' : World} (h : Only rb w w') : Only rb w w'.drew := ⟨h.os, h.tape, h.output, h.size, h.block⟩

theorem once_disable (w : World) : (callFunc 259 #[]).run Tryz.prog w = .ok (.value (.tuple #[])) w := run_call_mark0 Tryz.func259 (by kernel_rfl) (by kernel_rfl) (by kernel_rfl) .disable (by kernel_rfl) w
theorem once_enable (w : World) : (callFunc 261 #[]).run Tryz.prog w = .ok (.value (.tuple #[])) w := run_call_mark0 Tryz.func261 (by kernel_rfl) (by kernel_rfl) (by kernel_rfl) .enable (by kernel_rfl) w
theorem once_acquire (a : Addr) (w : World) : (callFunc 262 #[.pointer (some a)]).run Tryz.prog w = .ok (.value (.tuple #[])) w := run_call_marked Tryz.func262 (by kernel_rfl) (by kernel_rfl) (by kernel_rfl) .acquire (by kernel_rfl) a w
theorem once_release (a : Addr) (w : World) : (callFunc 264 #[.pointer (some a)]).run Tryz.prog w = .ok (.value (.tuple #[])) w := run_call_marked Tryz.func264 (by kernel_rfl) (by kernel_rfl) (by kernel_rfl) .releaseMerge (by kernel_rfl) a w

/-- done is laid, as a deferred call -/
theorem once_store (a : Addr) (x : Value) (u : FrameMode) (w : World) (hc : w.cell? a = some x) (hz : w.frozen? a = false) :
    CallsD Tryz.prog 251 #[.pointer (some a), .bool true] u w fun e u' w' => u' = u ∧ (e = .returned (.tuple #[]) ∧ w' = w.drew.setCell a (.int .u32 1)) := by
  have hc' : w.drew.cell? a = some x := by go_simp
  have hz' : w.drew.frozen? a = false := by go_simp
  have hst := run_call_store (P := Tryz.prog) Tryz.func255 (by kernel_rfl) (by kernel_rfl) (by kernel_rfl) (by kernel_rfl) (k := .u32) (y := 1) hc' hz'
  go_enter_d Tryz.func251, Tryz.ntmps251
  go_wp2
  go_region_calls
  all_goals (go_end0; exact ⟨rfl, rfl⟩)

set_option maxRecDepth 100000 in
/-- the lock is let go, as a deferred call -/
theorem once_unlock (a : Addr) (u : FrameMode) (w : World) (hc : w.cell? a = some (.int .i32 1)) (hz : w.frozen? a = false) :
    CallsD Tryz.prog 250 #[.pointer (some a)] u w fun e u' w' => u' = u ∧ (e = .returned (.tuple #[]) ∧ w' = w.setCell a (.int .i32 0)) := by
  have hd := once_disable
  have he := once_enable
  have hr := once_release
  have hadd := run_call_add (P := Tryz.prog) Tryz.func265 (by kernel_rfl) (by kernel_rfl) (by kernel_rfl) .i32 (by kernel_rfl) (y := -1) (s := 0) hc hz (by simp [go_sem]; rfl)
  have hcv := run_convert_to_unsafe (P := Tryz.prog) (src := 238) (dst := 151) Tryz.underlying238 Tryz.underlying151 (by kernel_rfl) hc
  go_enter_d Tryz.func250, Tryz.ntmps250
  go_wp2
  go_end0
  go_wp2
  go_end0
  exact ⟨rfl, rfl⟩

set_option maxRecDepth 100000 in
/-- the lock is taken -/
theorem once_lock (a : Addr) (w : World) (hc : w.cell? a = some (.int .i32 0)) (hz : w.frozen? a = false) :
    Calls Tryz.prog 249 #[.pointer (some a)] w fun e w' => e = .returned (.tuple #[]) ∧ w' = w.setCell a (.int .i32 1) := by
  have hd := once_disable
  have he := once_enable
  have ha := once_acquire
  have hcas := run_call_cas_hit (P := Tryz.prog) Tryz.func260 (by kernel_rfl) (by kernel_rfl) (by kernel_rfl) .i32 (by kernel_rfl) (y := 1) hc hz
  have hc' : (w.setCell a (.int .i32 1)).cell? a = some (.int .i32 1) := World.cell?_setCell_same w a _ hc
  have hcv := run_convert_to_unsafe (P := Tryz.prog) (src := 238) (dst := 151) Tryz.underlying238 Tryz.underlying151 (by kernel_rfl) hc'
  go_enter Tryz.func249, Tryz.ntmps249
  go_wp2
  first | go_end0 | (simp only [Exit.inBlock, Exit.then]; refine bodyPost_ret (results_none rfl _ _ _) rfl ?_) | refine bodyPost_ret (results_none rfl _ _ _) rfl ?_
  go_wp2
  go_end0
  exact ⟨rfl, rfl⟩

end Go.Proofs.YthaickihoagnmaaGreatDoor

namespace Go.Proofs.YthaickihoagnmaaGreatDoor
open Go.RowKit

/-- what the function that is handed to Do leaves: x in the block b -/
def OnceEnd (b : Nat) (s : Value) (d st x : Int) (w : World) (e : Ending) (w' : World) : Prop :=
  e = .returned (.tuple #[]) ∧ AW w' b s d st x ∧ Only b w w'

set_option maxHeartbeats 1600000 in
theorem once_load (a : Addr) (d : Int) (v : Bool) (hv : (d != 0) = v) (w : World) (hc : w.cell? a = some (.int .u32 d)) :
    Calls Tryz.prog 235 #[.pointer (some a)] w fun e w' => e = .returned (.bool v) ∧ w = w' := by
  have hl := run_call_load (P := Tryz.prog) Tryz.func248 (by kernel_rfl) (by kernel_rfl) (by kernel_rfl) .u32 (by kernel_rfl) hc
  have HV := Lib.hid hv; clear hv
  go_enter Tryz.func235, Tryz.ntmps235
  go_wp2
  go_ret
  exact ⟨retb HV.out, rfl⟩

set_option maxRecDepth 100000 in
set_option maxHeartbeats 1600000 in
theorem once_slow (K : Nat) (b p : Nat) (s : Value) (x0 x : Int) (w : World) (h : AW w b s 0 0 x0)
    (hE : ∀ (args : Array Value) (w : World), Sem.run Tryz.prog (callFunc K args) w = .ok (.enter K args) w)
    (hF : Hid (∀ w1, AW w1 b s 0 1 x0 → Only b w w1 → Calls Tryz.prog K #[.pointer (some ⟨p, 0, none⟩)] w1 (OnceEnd b s 0 1 x w1))) :
    Calls Tryz.prog 236 #[.pointer (some ⟨b, 1, none⟩), .func (.func K) #[] #[.pointer (some ⟨p, 0, none⟩)]] w (OnceEnd b s 1 0 x w) := by
  have H := Lib.hid h; clear h
  have hnot : ∀ (x : Bool) (w : World), (Op.unary .not (.bool x)).run Tryz.prog w = .ok (.bool (!x)) w := fun _ _ => rfl
  go_enter_defers Tryz.func236, Tryz.ntmps236
  go_wp2_with fail
  refine (once_lock _ _ H.out.c2 H.out.f2).mono ?_
  rintro e w1 ⟨rfl, hw1⟩
  have h1 : AW w1 b s 0 1 x0 := by rw [hw1]; exact H.out.setSt 1
  have o1 : Only b w w1 := by rw [hw1]; exact (Only.refl b w).setCell 2 _
  have H1 := Lib.hid h1; have HW1 := Lib.hid hw1
  clear hw1 h1
  go_wp2_with fail
  refine (once_load _ 0 false rfl _ H1.out.c1).mono ?_
  rintro e w' ⟨rfl, rfl⟩
  go_wp2_with fail
  refine (hF.out w1 H1.out o1).mono ?_
  rintro e w2 ⟨rfl, h2, o2⟩
  have H2 := Lib.hid h2
  replace o1 := o1.trans o2
  clear h2 o2
  go_wp2_with fail
  refine leaves_cons (f := 251) (args := #[.pointer (some ⟨b, 1, none⟩), .bool true]) (by simp) (by simp [go_sem]) ?_
  refine (once_store ⟨b, 1, none⟩ _ .returning _ H2.out.c1 H2.out.f1).mono ?_
  rintro e u' w3 ⟨rfl, rfl, hw3⟩
  have h3 : AW w3 b s 1 1 x := by rw [hw3]; exact H2.out.drew.setD 1
  replace o1 : Only b w w3 := by rw [hw3]; exact o1.drew.setCell 1 _
  clear hw3
  refine leaves_cons (f := 250) (args := #[.pointer (some ⟨b, 2, none⟩)]) (by simp [settle]) (by simp [go_sem]) ?_
  refine (once_unlock ⟨b, 2, none⟩ _ _ h3.c2 h3.f2).mono ?_
  rintro e u' w4 ⟨rfl, rfl, hw4⟩
  have h4 : AW w4 b s 1 0 x := by rw [hw4]; exact h3.setSt 0
  replace o1 : Only b w w4 := by rw [hw4]; exact o1.setCell 2 _
  clear hw4
  have hfin : OnceEnd b s 1 0 x w (.returned (.tuple #[])) w4 := ⟨rfl, h4, o1⟩
  have HF := Lib.hid hfin; clear hfin
  simp [Leaves, settle, results, Tryz.results236]
  exact HF.out

set_option maxRecDepth 100000 in
set_option maxHeartbeats 1600000 in
theorem once_first (K : Nat) (b p : Nat) (s : Value) (x0 x : Int) (w : World) (h : AW w b s 0 0 x0)
    (hE : ∀ (args : Array Value) (w : World), Sem.run Tryz.prog (callFunc K args) w = .ok (.enter K args) w)
    (hF : Hid (∀ w1, AW w1 b s 0 1 x0 → Only b w w1 → Calls Tryz.prog K #[.pointer (some ⟨p, 0, none⟩)] w1 (OnceEnd b s 0 1 x w1))) :
    Calls Tryz.prog 213 #[.pointer (some ⟨b, 1, none⟩), .func (.func K) #[] #[.pointer (some ⟨p, 0, none⟩)]] w (OnceEnd b s 1 0 x w) := by
  have H := Lib.hid h; clear h
  have HE := Lib.hid hE; clear hE
  have hnot : ∀ (x : Bool) (w : World), (Op.unary .not (.bool x)).run Tryz.prog w = .ok (.bool (!x)) w := fun _ _ => rfl
  go_enter Tryz.func213, Tryz.ntmps213
  go_wp2_with fail
  refine (once_load _ 0 false rfl _ H.out.c1).mono ?_
  rintro e w' ⟨rfl, rfl⟩
  go_wp2_with fail
  refine (once_slow K b p s x0 x _ H.out HE.out hF).mono ?_
  rintro e w' ⟨rfl, h1, h2⟩
  have h1 := Lib.hid h1
  go_wp2_with fail
  go_end0
  exact ⟨rfl, h1.out, h2⟩

set_option maxHeartbeats 1600000 in
theorem once_done (b : Nat) (fv s : Value) (x : Int) (w : World) (h : AW w b s 1 0 x) :
    Calls Tryz.prog 213 #[.pointer (some ⟨b, 1, none⟩), fv] w (OnceEnd b s 1 0 x w) := by
  have H := Lib.hid h; clear h
  have hnot : ∀ (x : Bool) (w : World), (Op.unary .not (.bool x)).run Tryz.prog w = .ok (.bool (!x)) w := fun _ _ => rfl
  go_enter Tryz.func213, Tryz.ntmps213
  go_wp2_with fail
  refine (once_load _ 1 true rfl _ H.out.c1).mono ?_
  rintro e w' ⟨rfl, rfl⟩
  go_wp2_with fail
  go_end0
  exact ⟨rfl, H.out, Only.refl b w⟩

set_option maxHeartbeats 800000 in
theorem thoseM_any (K : Nat) (a : Option Addr) (n cap : Nat) (r : Value) (g : Nat → Bool) (hn : n ≤ 7) (w : World)
    (hE : ∀ (args : Array Value) (w : World), Sem.run Tryz.prog (callFunc K args) w = .ok (.enter K args) w)
    (hF : Hid (∀ (wr : World) (b : Nat), b < n → Drew w wr → Calls Tryz.prog K #[r, .int .i64 b] wr fun e w' => e = .returned (.bool (g b)) ∧ Drew wr w')) :
    Calls Tryz.prog 215 #[.slice a n cap, .func (.func K) #[r] #[]] w fun e w' => e = .returned (.int .i64 (setOf g n)) ∧ Drew w w' := by
  go_enter Tryz.func215, Tryz.ntmps215
  go_wp2_with fail
  go_loopw [5, 9] (fun v i wr => ∃ k : Nat, k ≤ n ∧ i = .int .i64 k ∧ v = .int .i64 (setOf g k) ∧ Drew w wr) (fun _ i _ => n - (intOf i).toNat)
  case atStart => exact ⟨0, Nat.zero_le _, rfl, rfl, Drew.refl w⟩
  case round =>
    obtain ⟨k, hk, rfl, rfl, hd⟩ := hrel
    by_cases hlt : k < n
    · have hk7 : k < 7 := by omega
      have hp := pow_bounds k (by omega)
      obtain ⟨hp1, hp2⟩ := hp
      cases hg : g k with
      | true =>
        have HS := Lib.hid (setOf_yes g k hg); have HG := Lib.hid hg; clear hg
        go_wp2_with fail
        refine (hF.out wr k hlt hd).mono ?_
        rintro e w' ⟨rfl, hd'⟩
        rw [HG.out]
        go_wp2_with fail
        go_roundw
        case rel => exact ⟨k + 1, by omega, by go_num, by rw [HS.out], by obtain ⟨m, rfl⟩ := hd'; exact hd.more m⟩
        case measure => simp [intOf]; omega
      | false =>
        have HS := Lib.hid (setOf_no g k hg); have HG := Lib.hid hg; clear hg
        go_wp2_with fail
        refine (hF.out wr k hlt hd).mono ?_
        rintro e w' ⟨rfl, hd'⟩
        rw [HG.out]
        go_wp2_with fail
        go_roundw
        case rel => exact ⟨k + 1, by omega, by go_num, by rw [HS.out], by obtain ⟨m, rfl⟩ := hd'; exact hd.more m⟩
        case measure => simp [intOf]; omega
    · have hkn : k = n := by omega
      subst hkn
      go_wp2_with fail
      go_ret
      exact ⟨rfl, hd⟩

/-- a thing is an atom: its set is itself alone -/
def atomB (f : Nat → Int) (a : Nat) : Bool := f a == 2 ^ a
def atomsI (n : Nat) (f : Nat → Int) : Int := setOf (atomB f) n

set_option maxHeartbeats 800000 in
theorem atom_any (bk off n cap : Nat) (a : Nat) (f : Nat → Int) (hn : n ≤ 7) (ha : a < n) (w : World) (hr : Row w bk off n f) :
    Calls Tryz.prog 216 #[.slice (some ⟨bk, off, none⟩) n cap, .int .i64 a] w fun e w' => e = .returned (.bool (atomB f a)) ∧ Drew w w' := by
  have hc := hr a ha
  have ⟨hp1, hp2⟩ := pow_bounds a (by omega)
  have hai : (a : Int) < (n : Int) := by omega
  go_enter Tryz.func216, Tryz.ntmps216
  go_wp2_with fail
  go_quiet (fail)
  go_wp2_with fail
  go_ret
  exact ⟨rfl, _, rfl⟩
end Go.Proofs.YthaickihoagnmaaGreatDoor

namespace Go.Proofs.YthaickihoagnmaaGreatDoor
open Go.RowKit

set_option maxHeartbeats 1600000 in
/-- the function that is handed to Do: it lays what was found -/
theorem atomsC_any (b p g n cap : Nat) (f : Nat → Int) (d st x0 : Int) (hn : n ≤ 7) (w : World) (h : AW w b (.slice (some ⟨g, 0, none⟩) n cap) d st x0)
    (hp : w.cell? ⟨p, 0, none⟩ = some (.pointer (some ⟨b, 0, none⟩))) (hr : Row w g 0 n f) :
    Calls Tryz.prog 214 #[.pointer (some ⟨p, 0, none⟩)] w (OnceEnd b (.slice (some ⟨g, 0, none⟩) n cap) d st (atomsI n f) w) := by
  have hE : ∀ (args : Array Value) (w : World), Sem.run Tryz.prog (callFunc 216 args) w = .ok (.enter 216 args) w := enters_of Tryz.func216 (by kernel_rfl) rfl
  have c0 := h.c0; have c4 := h.c4; have f4 := h.f4
  have K1 := Lib.hid (show ∀ (W : World) (v : Value), W.cell? ⟨p, 0, none⟩ = some (.pointer (some ⟨b, 0, none⟩)) → (W.setCell ⟨b, 4, none⟩ v).cell? ⟨p, 0, none⟩ = some (.pointer (some ⟨b, 0, none⟩)) from
    fun W v h => (World.cell?_setCell_other _ _ _ _ (by simp)).trans h)
  have K2 := Lib.hid (show ∀ (W : World) (v : Value), W.cell? ⟨b, 0, none⟩ = some (.slice (some ⟨g, 0, none⟩) n cap) → (W.setCell ⟨b, 4, none⟩ v).cell? ⟨b, 0, none⟩ = some (.slice (some ⟨g, 0, none⟩) n cap) from
    fun W v h => (World.cell?_setCell_other _ _ _ _ (by simp)).trans h)
  have H := Lib.hid h; have HE := Lib.hid hE; have HR := Lib.hid hr; clear h hE hr
  have hmf : ∀ (fn : Fn) (first cap : Array Value) (w : World), (Instr.makeFunc fn first cap).run Tryz.prog w = .ok (.func fn first cap) w := fun _ _ _ _ => rfl
  go_enter Tryz.func214, Tryz.ntmps214
  go_wp2_with fail
  go_region_held3 (fun w' => w'.cell? ⟨p, 0, none⟩ = some (.pointer (some ⟨b, 0, none⟩)) ∧ w'.cell? ⟨b, 0, none⟩ = some (.slice (some ⟨g, 0, none⟩) n cap)) (first | go_keep | exact ⟨K1.out _ _ (by simp [*]), K2.out _ _ (by simp [*])⟩)
    (first | (go_at_call 215; refine (thoseM_any _ _ _ _ _ (atomB f) hn _ HE.out ?_).mono ?_; ((rintro wr b hb ⟨m, rfl⟩; exact atom_any g 0 n cap b f hn hb _ (HR.out.drewN m))); rintro e w' ⟨rfl, m, rfl⟩))
  go_wp2_with fail
  go_end0
  exact ⟨rfl, (H.out.drewN _).setX _, ((Only.refl b w).drewN _).setCell 4 _⟩
/-- a world with its atoms, in the block b; its things lie in the block g -/
def AtomW (w : World) (b g n cap : Nat) (f : Nat → Int) : Prop :=
  (∃ d x, AW w b (.slice (some ⟨g, 0, none⟩) n cap) d 0 x ∧ (d = 0 ∨ (d = 1 ∧ x = atomsI n f))) ∧ Row w g 0 n f ∧ g < w.heap.size ∧ g ≠ b

theorem AtomW.below {w w' : World} {b g n cap : Nat} {f : Nat → Int} (h : AtomW w b g n cap f) (hb : Below w.heap.size w w') : AtomW w' b g n cap f := by
  obtain ⟨⟨d, x, h1, h2⟩, h3, h4, h5⟩ := h
  exact ⟨⟨d, x, h1.below hb h1.lt, h2⟩, h3.below hb h4, Nat.lt_of_lt_of_le h4 hb.size, h5⟩

theorem AtomW.lt {w : World} {b g n cap : Nat} {f : Nat → Int} (h : AtomW w b g n cap f) : b < w.heap.size := by
  obtain ⟨⟨d, x, h1, h2⟩, _⟩ := h; exact h1.lt

theorem AtomW.row {w : World} {b g n cap : Nat} {f : Nat → Int} (h : AtomW w b g n cap f) : Row w g 0 n f := h.2.1

theorem AtomW.c0 {w : World} {b g n cap : Nat} {f : Nat → Int} (h : AtomW w b g n cap f) : w.cell? ⟨b, 0, none⟩ = some (.slice (some ⟨g, 0, none⟩) n cap) := by
  obtain ⟨⟨d, x, h1, h2⟩, _⟩ := h; exact h1.c0

/-- what a call leaves that asks for the atoms -/
def AtomEnd (b g n cap : Nat) (f : Nat → Int) (v : Value) (w : World) (e : Ending) (w' : World) : Prop :=
  e = .returned v ∧ AtomW w' b g n cap f ∧ Only b w w'

theorem one_cell (w : World) (v : Value) (t : TypeId) :
    (w.alloc (.cells #[v] t)).cell? ⟨w.heap.size, 0, none⟩ = some v ∧ Below w.heap.size w (w.alloc (.cells #[v] t)) :=
  ⟨(World.rowIs_alloc w #[v] t (fun _ => v) (by intro i hi; match i, hi with | 0, _ => rfl)).cell (Nat.zero_lt_one), (Below.refl _ _).alloc (Nat.le_refl _) _⟩

set_option maxHeartbeats 1600000 in
theorem atoms_any (b g n cap : Nat) (f : Nat → Int) (hn : n ≤ 7) (w : World) (h : AtomW w b g n cap f) :
    Calls Tryz.prog 189 #[.pointer (some ⟨b, 0, none⟩)] w (AtomEnd b g n cap f (.int .i64 (atomsI n f)) w) := by
  have hE : ∀ (args : Array Value) (w : World), Sem.run Tryz.prog (callFunc 214 args) w = .ok (.enter 214 args) w := enters_of Tryz.func214 (by kernel_rfl) rfl
  have hmf : ∀ (fn : Fn) (first cap : Array Value) (w : World), (Instr.makeFunc fn first cap).run Tryz.prog w = .ok (.func fn first cap) w := fun _ _ _ _ => rfl
  obtain ⟨⟨d, x, haw, hd⟩, hr, hg, hgb⟩ := h
  have hlt := haw.lt
  obtain ⟨hc1, hbel⟩ := one_cell w (.pointer (some ⟨b, 0, none⟩)) 170
  replace haw := haw.below hbel hlt
  replace hr := hr.below hbel hg
  have hg2 := Nat.lt_of_lt_of_le hg hbel.size
  have o1 : Only b w (w.alloc (.cells #[.pointer (some ⟨b, 0, none⟩)] 170)) := Only.of_below hbel
  have hpb : w.heap.size ≠ b := by omega
  have C1 := Lib.hid hc1; have H := Lib.hid haw; have HR := Lib.hid hr; have HE := Lib.hid hE; have HO := Lib.hid o1
  have CP := Lib.hid (show ∀ W, Only b (w.alloc (.cells #[.pointer (some ⟨b, 0, none⟩)] 170)) W → W.cell? ⟨w.heap.size, 0, none⟩ = some (.pointer (some ⟨b, 0, none⟩)) from
    fun W o => (World.cell?_of_block (o.block w.heap.size (by show _ < (w.heap.push _).size; rw [Array.size_push]; omega) hpb)).trans hc1)
  have RP := Lib.hid (show ∀ W, Only b (w.alloc (.cells #[.pointer (some ⟨b, 0, none⟩)] 170)) W → Row W g 0 n f ∧ g < W.heap.size from
    fun W o => ⟨hr.only o hg2 hgb, Nat.lt_of_lt_of_le hg2 o.size⟩)
  clear hc1 haw hr hE o1 hbel
  rcases hd with rfl | ⟨rfl, rfl⟩
  · go_enter Tryz.func189, Tryz.ntmps189
    go_wp2_with fail
    refine (once_first _ b _ _ x (atomsI n f) _ H.out HE.out ?_).mono ?_
    · exact fun w1 h1 o1 => atomsC_any b _ g n cap f 0 1 x hn w1 h1 (CP.out _ o1) (RP.out _ o1).1
    · rintro e w2 ⟨rfl, h2, o2⟩
      have hcp := CP.out _ o2
      have h4 := h2.c4
      have H2 := Lib.hid h2; have O2 := Lib.hid o2; clear h2 o2
      go_wp2_with fail
      go_ret
      exact ⟨rfl, ⟨⟨1, _, H2.out, .inr ⟨rfl, rfl⟩⟩, (RP.out _ O2.out).1, (RP.out _ O2.out).2, hgb⟩, HO.out.trans O2.out⟩
  · go_enter Tryz.func189, Tryz.ntmps189
    go_wp2_with fail
    refine (once_done b _ _ _ _ H.out).mono ?_
    rintro e w2 ⟨rfl, h2, o2⟩
    have hcp := CP.out _ o2
    have h4 := h2.c4
    have H2 := Lib.hid h2; have O2 := Lib.hid o2; clear h2 o2
    go_wp2_with fail
    go_ret
    exact ⟨rfl, ⟨⟨1, _, H2.out, .inr ⟨rfl, rfl⟩⟩, (RP.out _ O2.out).1, (RP.out _ O2.out).2, hgb⟩, HO.out.trans O2.out⟩
end Go.Proofs.YthaickihoagnmaaGreatDoor

namespace Go.Proofs.YthaickihoagnmaaGreatDoor
open Go.RowKit

theorem AtomW.drewN {w : World} {b g n cap : Nat} {f : Nat → Int} (h : AtomW w b g n cap f) (m : Nat) : AtomW (w.drewN m) b g n cap f := h.below (below_drewN (Below.refl _ _) m)

/-- the atoms of a thing -/
def ainI (n : Nat) (f : Nat → Int) (a : Nat) : Int := andI (f a) (atomsI n f)

def madeC (n : Nat) (f : Nat → Int) (a c : Nat) : Bool := hasB (f c) a == withinB (ainI n f a) (ainI n f c)

end Go.Proofs.YthaickihoagnmaaGreatDoor

namespace Go.Proofs.YthaickihoagnmaaGreatDoor
open Go.RowKit


set_option maxHeartbeats 800000 in
theorem worldWith_nil (a : Option Addr) (n cap : Nat) (f : Nat → Int) (w : World) (hi : Ints w a n f) :
    Calls Tryz.prog 212 #[.slice a n cap, .slice none 0 0] w fun e w' => WithEnd n f 0 (one 0) w e w' := by
  have hn := hi.1.1
  have hno : insB n 0 (one 0) = true := decide_eq_true (fun i hi => absurd hi (Nat.not_lt_zero _))
  have HNO := Lib.hid hno; clear hno
  go_enter Tryz.func212, Tryz.ntmps212
  go_wp2_with fail
  refine (worldOf_end a n cap f w hi).mono ?_
  rintro e w' ⟨hbel, ⟨hb, rfl, hs, hr⟩ | ⟨hb, rfl⟩⟩
  · have HB := Lib.hid hb; clear hb
    go_wp2_with fail
    go_loopw [19] (fun i wr => i = .int .i64 0 ∧ wr = w') (fun i _ => 0)
    case atStart => exact ⟨rfl, rfl⟩
    case round =>
      obtain ⟨rfl, rfl⟩ := hrel
      go_wp2_with fail
      go_ret2
      exact ⟨hbel, .inl ⟨by rw [HB.out, HNO.out]; rfl, rfl, hs, hr⟩⟩
  · have hfin : (worldB n f && insB n 0 (one 0)) = false := by rw [hb]; rfl
    have HF := Lib.hid hfin; clear hfin hb
    go_wp2_with fail
    go_ret2
    exact ⟨hbel, .inr ⟨HF.out, rfl⟩⟩
end Go.Proofs.YthaickihoagnmaaGreatDoor

namespace Go.Proofs.YthaickihoagnmaaGreatDoor
open Go.RowKit

theorem aw_new (w : World) (s : Value) (t : TypeId) : AW (w.alloc (.cells #[s, .int .u32 0, .int .i32 0, .int .u32 0, .int .i64 0] t)) w.heap.size s 0 0 0 := by
  have hrow := World.rowIs_alloc w #[s, .int .u32 0, .int .i32 0, .int .u32 0, .int .i64 0] t (fun i => if i = 0 then s else if i = 1 then .int .u32 0 else if i = 2 then .int .i32 0 else if i = 3 then .int .u32 0 else .int .i64 0) (by
    intro i hi
    match i, hi with
    | 0, _ => rfl
    | 1, _ => rfl
    | 2, _ => rfl
    | 3, _ => rfl
    | 4, _ => rfl)
  refine ⟨by show _ < (w.heap.push _).size; rw [Array.size_push]; omega, ?_, ?_, ?_, ?_, hrow.frozen 1, hrow.frozen 2, hrow.frozen 4⟩
  · exact hrow.cell (i := 0) (by show 0 < 5; omega)
  · exact hrow.cell (i := 1) (by show 1 < 5; omega)
  · exact hrow.cell (i := 2) (by show 2 < 5; omega)
  · exact hrow.cell (i := 4) (by show 4 < 5; omega)

def AWEnd (n : Nat) (f : Nat → Int) (good : Bool) (w : World) (e : Ending) (w' : World) : Prop :=
  Below w.heap.size w w' ∧ ((good = true ∧ ∃ b g, e = .returned (.tuple #[.pointer (some ⟨b, 0, none⟩), .bool true]) ∧ AtomW w' b g n n f ∧ w.heap.size ≤ b)
    ∨ (good = false ∧ e = .returned (.tuple #[.pointer none, .bool false])))

set_option maxHeartbeats 1600000 in
theorem atomWorldOf_any (a : Option Addr) (n cap : Nat) (f : Nat → Int) (nv : Option Addr) (m mc : Nat) (g : Nat → Int) (w : World)
    (hW : Calls Tryz.prog 212 #[.slice a n cap, .slice nv m mc] w (WithEnd n f m g w)) :
    Calls Tryz.prog 188 #[.slice a n cap, .slice nv m mc] w (AWEnd n f (worldB n f && insB n m g) w) := by
  have HW := Lib.hid hW; clear hW
  have hnot : ∀ (x : Bool) (w : World), (Op.unary .not (.bool x)).run Tryz.prog w = .ok (.bool (!x)) w := fun _ _ => rfl
  go_enter Tryz.func188, Tryz.ntmps188
  go_wp2_with fail
  refine HW.out.mono ?_
  rintro e w' ⟨hbel, ⟨hb, rfl, hs, hr⟩ | ⟨hb, rfl⟩⟩
  · have HB := Lib.hid hb; have HR := Lib.hid hr; have HBel := Lib.hid hbel; clear hb hr
    have hsz : w.heap.size ≤ w'.heap.size := hbel.size
    have hnew := Lib.hid (aw_new w' (.slice (some ⟨w.heap.size, 0, none⟩) n n) 214)
    clear hbel
    go_wp2_with fail
    go_ret2
    refine ⟨HBel.out.alloc hsz _, .inl ⟨HB.out, w'.heap.size, w.heap.size, rfl, ⟨⟨0, 0, hnew.out, .inl rfl⟩, HR.out.below ((Below.refl w'.heap.size w').alloc (Nat.le_refl _) _) hs, ?_, by omega⟩, hsz⟩⟩
    show _ < (w'.heap.push _).size; rw [Array.size_push]; omega
  · have HB := Lib.hid hb; clear hb
    go_wp2_with fail
    go_ret2
    exact ⟨hbel, .inr ⟨HB.out, rfl⟩⟩
theorem atomWorld0 (a : Option Addr) (n cap : Nat) (f : Nat → Int) (w : World) (hi : Ints w a n f) :
    Calls Tryz.prog 188 #[.slice a n cap, .slice none 0 0] w (AWEnd n f (worldB n f) w) := by
  have := atomWorldOf_any a n cap f none 0 0 (one 0) w (worldWith_nil a n cap f w hi)
  rw [show insB n 0 (one 0) = true from decide_eq_true (fun i hi => absurd hi (Nat.not_lt_zero _)), Bool.and_true] at this
  exact this

theorem AWEnd.onto {n : Nat} {f : Nat → Int} {g : Bool} {w w1 : World} (hb : Below w.heap.size w w1) {e : Ending} {w' : World} (h : AWEnd n f g w1 e w') : AWEnd n f g w e w' := by
  obtain ⟨h1, h2⟩ := h
  refine ⟨below_onto hb h1, ?_⟩
  rcases h2 with ⟨h2, b, gg, h3, h4, h5⟩ | h2
  · exact .inl ⟨h2, b, gg, h3, h4, Nat.le_trans hb.size h5⟩
  · exact .inr h2

theorem atomWorld1 (a : Option Addr) (n cap : Nat) (f : Nat → Int) (x : Int) (w : World) (hi : Ints w a n f) (t : TypeId) :
    Calls Tryz.prog 188 #[.slice a n cap, .slice (some ⟨w.heap.size, 0, none⟩) 1 1] (w.alloc (.cells #[.int .i64 x] t)) (AWEnd n f (good1 n f x) w) := by
  have hal : Below w.heap.size w (w.alloc (.cells #[.int .i64 x] t)) := (Below.refl _ _).alloc (Nat.le_refl _) _
  have hsz : (w.alloc (.cells #[.int .i64 x] t)).heap.size = w.heap.size + 1 := by show (w.heap.push _).size = _; rw [Array.size_push]
  exact (atomWorldOf_any a n cap f _ _ _ (one x) _ (worldWith_any a n cap f _ _ _ _ (one x) (by omega) _ (hi.below hal (Nat.le_refl _)) (row_one w x t) (by rw [hsz]; omega))).mono fun _ _ h => h.onto hal

def atomsB (n : Nat) (f : Nat → Int) : Int := if worldB n f then atomsI n f else -1
def ainB (n : Nat) (f : Nat → Int) (x : Int) : Int := if good1 n f x then ainI n f x.toNat else -1
def toldB (n : Nat) (f : Nat → Int) : Bool := worldB n f && eachB n (fun a c => ainI n f a != ainI n f c)
def madeB (n : Nat) (f : Nat → Int) : Bool := worldB n f && eachB n (madeC n f)

theorem only_onto {b : Nat} {w a c : World} (h : Below w.heap.size w a) (k : Only b a c) (hb : w.heap.size ≤ b) : Below w.heap.size w c := h.trans (k.below hb h.size)

set_option maxHeartbeats 1600000 in
theorem AtomsOf_any (a : Option Addr) (n cap : Nat) (f : Nat → Int) (w : World) (hi : Ints w a n f) :
    Calls Tryz.prog 164 #[.slice a n cap] w fun e w' => e = .returned (.int .i64 (atomsB n f)) ∧ Below w.heap.size w w' := by
  have HI := Lib.hid hi; clear hi
  have hnot : ∀ (x : Bool) (w : World), (Op.unary .not (.bool x)).run Tryz.prog w = .ok (.bool (!x)) w := fun _ _ => rfl
  go_enter Tryz.func164, Tryz.ntmps164
  go_wp2_with fail
  refine (atomWorld0 a n cap f _ HI.out).mono ?_
  rintro e w1 ⟨hbel, ⟨hg, b, g, rfl, haw, hbb⟩ | ⟨hg, rfl⟩⟩
  · have h7 := (worldB_7 hg).2
    have hfin : atomsB n f = atomsI n f := by unfold atomsB; rw [if_pos hg]
    have HF := Lib.hid hfin; have HA := Lib.hid haw; clear hfin haw hg
    go_wp2_with fail
    refine (atoms_any b g n n f h7 _ HA.out).mono ?_
    rintro e w2 ⟨rfl, h2, o2⟩
    clear h2
    go_wp2_with fail
    go_ret
    exact ⟨reti HF.out.symm, only_onto hbel o2 hbb⟩
  · have hfin : atomsB n f = -1 := by unfold atomsB; rw [if_neg (by rw [hg]; decide)]
    have HF := Lib.hid hfin; clear hfin hg
    go_wp2_with fail
    go_ret
    exact ⟨reti HF.out.symm, hbel⟩

end Go.Proofs.YthaickihoagnmaaGreatDoor

namespace Go.Proofs.YthaickihoagnmaaGreatDoor
open Go.RowKit

end Go.Proofs.YthaickihoagnmaaGreatDoor

namespace Go.Proofs.YthaickihoagnmaaGreatDoor
open Go.RowKit

theorem specAtomsOf_in (b o n cap : Nat) (f : Nat → Int) (hg : worldB n f = true) (w : World) (hi : Ints w (some ⟨b, o, none⟩) n f) (hr : Row w b o n f) :
    Calls Tryz.prog 76 #[.slice (some ⟨b, o, none⟩) n cap] w fun e w' => e = .returned (.int .i64 (atomsI n f)) ∧ Drew w w' := by
  have h7 := (worldB_7 hg).2
  have HG := Lib.hid hg; have HN := Lib.hid hi; clear hg hi
  go_enter Tryz.func76, Tryz.ntmps76
  go_wp2_with fail
  refine (specWorldOk_val _ _ _ f true _ HG.out HN.out).mono ?_
  rintro e w' ⟨rfl, m0, rfl⟩
  replace hr := hr.drewN m0
  go_wp2_with fail
  go_loopw [3, 4] (fun v i wr => ∃ k : Nat, k ≤ n ∧ i = .int .i64 k ∧ v = .int .i64 (setOf (atomB f) k) ∧ Row wr b o n f ∧ Drew w wr) (fun _ i _ => n - (intOf i).toNat)
  case atStart => exact ⟨0, Nat.zero_le _, rfl, rfl, hr, _, rfl⟩
  case round =>
    obtain ⟨k, hk, rfl, rfl, hrk, hd⟩ := hrel
    by_cases hlt2 : k < n
    · have hc := hrk k hlt2
      have hkn : (k : Int) < (n : Int) := by omega
      have ⟨hp1, hp2⟩ := pow_bounds k (by omega)
      cases hb : atomB f k with
      | true =>
        have HS := Lib.hid (setOf_yes (atomB f) k hb)
        have hbb : (f k == 2 ^ k) = true := hb
        clear hb
        go_wp2_with fail
        go_quiet (fail)
        go_wp2_with fail
        go_roundw
        case rel => exact ⟨k + 1, by omega, by go_num, by rw [HS.out], hrk.drewN _, hd.more _⟩
        case measure => simp [intOf]; omega
      | false =>
        have HS := Lib.hid (setOf_no (atomB f) k hb)
        have hbb : (f k == 2 ^ k) = false := hb
        clear hb
        go_wp2_with fail
        go_quiet (fail)
        go_wp2_with fail
        go_roundw
        case rel => exact ⟨k + 1, by omega, by go_num, by rw [HS.out], hrk.drewN _, hd.more _⟩
        case measure => simp [intOf]; omega
    · have hkn : k = n := by omega
      subst hkn
      go_wp2_with fail
      go_ret
      exact ⟨rfl, hd⟩

theorem specAtomsOf_any (a : Option Addr) (n cap : Nat) (f : Nat → Int) (w : World) (hi : Ints w a n f) :
    Calls Tryz.prog 76 #[.slice a n cap] w fun e w' => e = .returned (.int .i64 (atomsB n f)) ∧ Drew w w' := by
  cases hg : worldB n f with
  | true =>
    obtain ⟨b, o, rfl, hlt, hr⟩ := hi.row (worldB_7 hg).1
    rw [show atomsB n f = atomsI n f by unfold atomsB; rw [if_pos hg]]
    exact specAtomsOf_in b o n cap f hg w hi hr
  | false =>
    have hfin : atomsB n f = -1 := by unfold atomsB; rw [if_neg (by rw [hg]; decide)]
    have HF := Lib.hid hfin; have HG := Lib.hid hg; have HN := Lib.hid hi; clear hfin hg hi
    have hn := HN.out.1.1
    go_enter Tryz.func76, Tryz.ntmps76
    go_wp2_with fail
    refine (specWorldOk_val _ _ _ f false _ HG.out HN.out).mono ?_
    rintro e w' ⟨rfl, m0, rfl⟩
    go_wp2_with fail
    go_ret
    exact ⟨reti HF.out.symm, _, rfl⟩

theorem andI_comm (x y : Int) : andI x y = andI y x :=
  ext64 _ _ (andI_I64 _ _) (andI_I64 _ _) (fun i hi => by rw [and_bit _ _ _ hi, and_bit _ _ _ hi, Bool.and_comm])
theorem orI_comm (x y : Int) : orI x y = orI y x :=
  ext64 _ _ (orI_I64 _ _) (orI_I64 _ _) (fun i hi => by rw [or_bit _ _ _ hi, or_bit _ _ _ hi, Bool.or_comm])

end Go.Proofs.YthaickihoagnmaaGreatDoor

namespace Go.Proofs.YthaickihoagnmaaGreatDoor
open Go.RowKit

theorem eachB_iff (n : Nat) (g : Nat → Nat → Bool) : eachB n g = true ↔ ∀ a, a < n → ∀ c, c < n → a ≠ c → g a c = true := by
  unfold eachB; rw [decide_eq_true_eq]

theorem eachB_no (n : Nat) (g : Nat → Nat → Bool) (a c : Nat) (ha : a < n) (hc : c < n) (hac : a ≠ c) (h : g a c = false) : eachB n g = false := by
  cases e : eachB n g with
  | false => rfl
  | true => rw [(eachB_iff n g).1 e a ha c hc hac] at h; cases h

theorem told_of (n : Nat) (f : Nat → Int) (hw : worldB n f = true) (h : ∀ a, a < n → ∀ c, c < a → (ainI n f a == ainI n f c) = false) : toldB n f = true := by
  unfold toldB; rw [hw, Bool.true_and, eachB_iff]
  intro a ha c hc hac
  rw [bne_iff_ne]
  rcases Nat.lt_or_gt_of_ne hac with hlt | hlt
  · exact fun e => beq_eq_false_iff_ne.1 (h c hc a hlt) e.symm
  · exact beq_eq_false_iff_ne.1 (h a ha c hlt)

theorem told_no (n : Nat) (f : Nat → Int) (a c : Nat) (ha : a < n) (hc : c < a) (h : (ainI n f a == ainI n f c) = true) : toldB n f = false := by
  unfold toldB
  rw [eachB_no n _ a c ha (by omega) (by omega) (by rw [bne_eq_false_iff_eq]; exact beq_iff_eq.1 h), Bool.and_false]

/-- what the model asks of two things -/
def madeS (n : Nat) (f : Nat → Int) (a c : Nat) : Bool := (bits .or .i64 (ainI n f a) (ainI n f c) == ainI n f c) != hasB (f c) a

theorem or_within (x y : Int) (hy : I64 y) : (bits .or .i64 x y == y) = withinB x y := by
  rw [Bool.eq_iff_iff, beq_iff_eq]
  show orI x y = y ↔ _
  rw [orI_comm, or_eq_iff y x hy, within_iff]

theorem within_self (x : Int) : withinB x x = true := (within_iff x x).2 (fun _ _ h => h)

theorem ainI_I64 (n : Nat) (f : Nat → Int) (a : Nat) : I64 (ainI n f a) := andI_I64 _ _

theorem made_eq (n : Nat) (f : Nat → Int) (a c : Nat) : madeS n f a c = !madeC n f a c := by
  unfold madeS madeC
  rw [or_within _ _ (ainI_I64 n f c)]
  cases hasB (f c) a <;> cases withinB (ainI n f a) (ainI n f c) <;> rfl

theorem made_of (n : Nat) (f : Nat → Int) (hw : worldB n f = true) (h : ∀ a, a < n → ∀ c, c < n → madeS n f a c = false) : madeB n f = true := by
  unfold madeB; rw [hw, Bool.true_and, eachB_iff]
  intro a ha c hc hac
  have := h a ha c hc
  rw [made_eq] at this
  simpa using this

theorem made_no (n : Nat) (f : Nat → Int) (h64 : ∀ i, i < n → I64 (f i)) (hw : worldB n f = true) (a c : Nat) (ha : a < n) (hc : c < n) (h : madeS n f a c = true) : madeB n f = false := by
  have h2 : madeC n f a c = false := by rw [made_eq] at h; simpa using h
  have hac : a ≠ c := by
    intro e; subst e
    unfold madeC at h2
    rw [((worldB_iff n f h64).1 hw).self a ha, within_self] at h2
    cases h2
  unfold madeB
  rw [eachB_no n _ a c ha hc hac h2, Bool.and_false]

end Go.Proofs.YthaickihoagnmaaGreatDoor

namespace Go.Proofs.YthaickihoagnmaaGreatDoor
open Go.RowKit

theorem pow7 {a n : Nat} (h7 : n ≤ 7) (ha : a < n) : I64 (2 ^ a) := by
  have ⟨h1, h2⟩ := pow_bounds a (by omega)
  unfold I64; omega

/-- within a set of numbers from 0 on is at most that -/
theorem le_of_bits {x y : Int} (hx : 0 ≤ x) (hy : 0 ≤ y) (h : ∀ i, hasB x i = true → hasB y i = true) : x ≤ y := by
  obtain ⟨p, rfl⟩ := Int.eq_ofNat_of_zero_le hx
  obtain ⟨q, rfl⟩ := Int.eq_ofNat_of_zero_le hy
  have e : p &&& q = p := by
    apply Nat.eq_of_testBit_eq
    intro i
    rw [Nat.testBit_and]
    have := h i
    rw [hasB_nat, hasB_nat] at this
    cases hp : p.testBit i with
    | false => rfl
    | true => rw [this hp]; rfl
  have := Nat.and_le_right (n := p) (m := q)
  rw [e] at this
  omega

theorem rng64 {n : Nat} {x : Int} (h7 : n ≤ 7) (h : 0 ≤ x ∧ x < 2 ^ n) : I64 x := by
  have ⟨h1, h2⟩ := pow_bounds n (by omega)
  unfold I64; omega

theorem atom_iff {n : Nat} {f : Nat → Int} (hP : WorldP n f) {a : Nat} (ha : a < n) : atomB f a = true ↔ ∀ b, b < n → b ≠ a → hasB (f a) b = false := by
  unfold atomB
  rw [beq_iff_eq]
  constructor
  · intro h b _ hba
    rw [h, hasB_pow]
    exact decide_eq_false (fun e => hba e.symm)
  · intro h
    apply ext64 _ _ (rng64 hP.hi (hP.rng a ha)) (pow7 hP.hi ha)
    intro i _
    rw [hasB_pow]
    by_cases e : a = i
    · subst e; rw [hP.self a ha]; simp
    · rw [decide_eq_false e]
      by_cases hin : i < n
      · exact h i hin (fun e2 => e e2.symm)
      · cases hb : hasB (f a) i with
        | false => rfl
        | true => exact absurd (hasB_lt (hP.rng a ha) hb) hin

theorem below_less {n : Nat} {f : Nat → Int} (hP : WorldP n f) {a b : Nat} (ha : a < n) (hb : b < n) (hba : b ≠ a) (h : hasB (f a) b = true) : f b < f a := by
  have h1 : f b ≤ f a := le_of_bits (hP.rng b hb).1 (hP.rng a ha).1 (fun i hi => hP.trans a ha b hb h i hi)
  have h2 : f b ≠ f a := by
    intro e
    have := hP.anti a ha b hb (fun e2 => hba e2.symm) h
    rw [e, hP.self a ha] at this
    cases this
  omega

/-- each thing has an atom -/
theorem has_atom {n : Nat} {f : Nat → Int} (hP : WorldP n f) : ∀ (k a : Nat), a < n → (f a).toNat ≤ k → ∃ c, c < n ∧ hasB (f a) c = true ∧ atomB f c = true := by
  intro k
  induction k with
  | zero =>
    intro a ha hk
    have h0 : f a = 0 := by have := (hP.rng a ha).1; omega
    have := hP.self a ha
    rw [h0, hasB_zero] at this; cases this
  | succ k ih =>
    intro a ha hk
    cases h : atomB f a with
    | true => exact ⟨a, ha, hP.self a ha, h⟩
    | false =>
      have : ∃ b, b < n ∧ b ≠ a ∧ hasB (f a) b = true := by
        apply Classical.byContradiction
        intro hno
        have h2 := (atom_iff hP ha).2 (fun b hb hba => by
          cases hx : hasB (f a) b with
          | false => rfl
          | true => exact absurd ⟨b, hb, hba, hx⟩ hno)
        rw [h] at h2; cases h2
      obtain ⟨b, hb, hba, hx⟩ := this
      have hlt := below_less hP ha hb hba hx
      have h0 := (hP.rng b hb).1
      obtain ⟨c, hc, h1, h2⟩ := ih b hb (by omega)
      exact ⟨c, hc, hP.trans a ha b hb hx c h1, h2⟩

theorem atomsI_bit (n : Nat) (f : Nat → Int) (i : Nat) (hi : i < 64) : hasB (atomsI n f) i = (decide (i < n) && atomB f i) := setOf_bit (atomB f) n i hi

theorem ain_bit (n : Nat) (f : Nat → Int) (a i : Nat) (hi : i < 64) : hasB (ainI n f a) i = (hasB (f a) i && (decide (i < n) && atomB f i)) := by
  unfold ainI; rw [and_bit _ _ _ hi, atomsI_bit n f i hi]

theorem ain_yes {n : Nat} {f : Nat → Int} {a c : Nat} (h7 : n ≤ 7) (hc : c < n) (h1 : hasB (f a) c = true) (h2 : atomB f c = true) : hasB (ainI n f a) c = true := by
  rw [ain_bit n f a c (by omega), h1, h2, decide_eq_true hc]; rfl

theorem ain_of {n : Nat} {f : Nat → Int} {a c : Nat} (hc : c < 64) (h : hasB (ainI n f a) c = true) : c < n ∧ hasB (f a) c = true ∧ atomB f c = true := by
  rw [ain_bit n f a c hc] at h
  simp only [Bool.and_eq_true, decide_eq_true_eq] at h
  exact ⟨h.2.1, h.1, h.2.2⟩

theorem pos_of_bit {x : Int} {i : Nat} (h : 0 ≤ x) (hi : hasB x i = true) : 0 < x := by
  have : x ≠ 0 := by intro e; rw [e, hasB_zero] at hi; cases hi
  omega

theorem atomsI_rng (n : Nat) (f : Nat → Int) (h7 : n ≤ 7) : 0 ≤ atomsI n f ∧ atomsI n f < 2 ^ n := setOf_rng (atomB f) n (by omega)

theorem ain_rng {n : Nat} {f : Nat → Int} (h7 : n ≤ 7) (a : Nat) : 0 ≤ ainI n f a ∧ ainI n f a < 2 ^ n :=
  lt_of_bits _ n (by omega) (ainI_I64 n f a) (fun i hi hni => by rw [ain_bit n f a i hi, decide_eq_false (by omega)]; simp)

theorem atomsI_pos {n : Nat} {f : Nat → Int} (hP : WorldP n f) : 0 < atomsI n f := by
  have h1 := hP.lo
  obtain ⟨c, hc, _, h2⟩ := has_atom hP (f 0).toNat 0 (by omega) (Nat.le_refl _)
  have h7 := hP.hi
  exact pos_of_bit (atomsI_rng n f h7).1 (i := c) (by rw [atomsI_bit n f c (by omega), decide_eq_true hc, h2]; rfl)

theorem ain_pos {n : Nat} {f : Nat → Int} (hP : WorldP n f) {a : Nat} (ha : a < n) : 0 < ainI n f a := by
  obtain ⟨c, hc, h1, h2⟩ := has_atom hP (f a).toNat a ha (Nat.le_refl _)
  exact pos_of_bit (ain_rng hP.hi a).1 (i := c) (ain_yes hP.hi hc h1 h2)

/-- of a whole there are at least the atoms of a part -/
theorem ain_mono {n : Nat} {f : Nat → Int} (hP : WorldP n f) {a b : Nat} (ha : a < n) (hb : b < n) (h : hasB (f b) a = true) : withinB (ainI n f a) (ainI n f b) = true := by
  rw [within_iff]
  intro i hi hx
  obtain ⟨h1, h2, h3⟩ := ain_of hi hx
  exact ain_yes hP.hi h1 (hP.trans b hb a ha h i h2) h3

/-- two things overlap exactly if they have an atom in common -/
theorem over_atoms {n : Nat} {f : Nat → Int} (hP : WorldP n f) {a b : Nat} (ha : a < n) (hb : b < n) : (andI (f a) (f b) != 0) = (andI (ainI n f a) (ainI n f b) != 0) := by
  have h7 := hP.hi
  rw [Bool.eq_iff_iff, bne_iff_ne, bne_iff_ne]
  constructor
  · intro h h0
    apply h
    rw [and_zero_iff]
    intro i hi hx
    cases hy : hasB (f b) i with
    | false => rfl
    | true =>
      have hin := hasB_lt (hP.rng a ha) hx
      obtain ⟨c, hc, h1, h2⟩ := has_atom hP (f i).toNat i hin (Nat.le_refl _)
      have e := (and_zero_iff _ _).1 h0 c (by omega) (ain_yes h7 hc (hP.trans a ha i hin hx c h1) h2)
      rw [ain_yes h7 hc (hP.trans b hb i hin hy c h1) h2] at e
      cases e
  · intro h h0
    apply h
    rw [and_zero_iff]
    intro i hi hx
    obtain ⟨h1, h2, h3⟩ := ain_of hi hx
    have e := (and_zero_iff _ _).1 h0 i hi h2
    rw [ain_bit n f b i hi, e]; rfl

/-- a thing that meets the same things has the same atoms -/
theorem meet_ain {n : Nat} {f : Nat → Int} (hP : WorldP n f) {a b : Nat} (h : meetI n f a = meetI n f b) : withinB (ainI n f a) (ainI n f b) = true := by
  have h7 := hP.hi
  rw [within_iff]
  intro i hi hx
  obtain ⟨h1, h2, h3⟩ := ain_of hi hx
  have e : hasB (meetI n f a) i = hasB (meetI n f b) i := by rw [h]
  unfold meetI at e
  rw [setOf_bit _ n i hi, setOf_bit _ n i hi, decide_eq_true h1, Bool.true_and, Bool.true_and] at e
  have hfi : f i = 2 ^ i := by unfold atomB at h3; exact beq_iff_eq.1 h3
  have ea : (andI (f a) (f i) != 0) = true := by
    rw [bne_iff_ne]; intro h0
    have := (and_zero_iff _ _).1 h0 i hi h2
    rw [hP.self i h1] at this; cases this
  rw [ea] at e
  apply ain_yes h7 h1 _ h3
  cases hy : hasB (f b) i with
  | true => rfl
  | false =>
    have : andI (f b) (f i) = 0 := by
      rw [and_zero_iff]
      intro j hj hbj
      rw [hfi, hasB_pow]
      apply decide_eq_false
      intro e2; subst e2; rw [hy] at hbj; cases hbj
    rw [this] at e; cases e

theorem made_meets {n : Nat} {f : Nat → Int} (h64 : ∀ i, i < n → I64 (f i)) (h : madeB n f = true) {a b : Nat} (ha : a < n) (hb : b < a) : (meetI n f a == meetI n f b) = false := by
  unfold madeB at h
  rw [Bool.and_eq_true, eachB_iff] at h
  obtain ⟨hw, hE⟩ := h
  have hP := (worldB_iff n f h64).1 hw
  have hbn : b < n := by omega
  rw [beq_eq_false_iff_ne]
  intro e
  have h1 := hE a ha b hbn (by omega)
  have h2 := hE b hbn a ha (by omega)
  unfold madeC at h1 h2
  rw [meet_ain hP e] at h1
  rw [meet_ain hP e.symm] at h2
  have h3 : hasB (f b) a = true := by simpa using h1
  have h4 : hasB (f a) b = true := by simpa using h2
  have := hP.anti b hbn a ha (by omega) h3
  rw [h4] at this; cases this

theorem made_told {n : Nat} {f : Nat → Int} (h64 : ∀ i, i < n → I64 (f i)) (h : madeB n f = true) : toldB n f = true := by
  unfold madeB at h
  rw [Bool.and_eq_true, eachB_iff] at h
  obtain ⟨hw, hE⟩ := h
  have hP := (worldB_iff n f h64).1 hw
  unfold toldB
  rw [hw, Bool.true_and, eachB_iff]
  intro a ha c hc hac
  rw [bne_iff_ne]
  intro e
  have h1 := hE a ha c hc hac
  have h2 := hE c hc a ha (fun e2 => hac e2.symm)
  unfold madeC at h1 h2
  rw [e, within_self] at h1
  rw [e, within_self] at h2
  have h3 : hasB (f c) a = true := by simpa using h1
  have h4 : hasB (f a) c = true := by simpa using h2
  have := hP.anti c hc a ha (fun e2 => hac e2.symm) h3
  rw [h4] at this; cases this

/-- some thing below k is a proper part of a -/
def anyP (n : Nat) (f : Nat → Int) (a k : Nat) : Bool := decide (∃ b, b < k ∧ properB n f (b : Int) (a : Int) = true)

theorem anyP_zero (n : Nat) (f : Nat → Int) (a : Nat) : anyP n f a 0 = false := decide_eq_false (fun ⟨_, h, _⟩ => absurd h (Nat.not_lt_zero _))
theorem anyP_old (n : Nat) (f : Nat → Int) (a k : Nat) (h : anyP n f a k = true) : anyP n f a (k + 1) = true := by
  unfold anyP at h ⊢; rw [decide_eq_true_eq] at h ⊢
  obtain ⟨b, hb, hp⟩ := h; exact ⟨b, by omega, hp⟩
theorem anyP_new (n : Nat) (f : Nat → Int) (a k : Nat) (h : anyP n f a k = false) (v : Bool) (hv : properB n f (k : Int) (a : Int) = v) : anyP n f a (k + 1) = v := by
  unfold anyP at h ⊢; rw [decide_eq_false_iff_not] at h
  cases v with
  | true => exact decide_eq_true ⟨k, by omega, hv⟩
  | false =>
    apply decide_eq_false
    rintro ⟨b, hb, hp⟩
    by_cases e : b = k
    · subst e; rw [hv] at hp; cases hp
    · exact h ⟨b, by omega, hp⟩

theorem proper_iff (n : Nat) (f : Nat → Int) (hw : worldB n f = true) {a b : Nat} (ha : a < n) (hb : b < n) : properB n f (b : Int) (a : Int) = true ↔ b ≠ a ∧ hasB (f a) b = true := by
  unfold properB partB
  rw [(good2_iff n f b a).2 ⟨hw, ⟨by omega, by omega⟩, by omega, by omega⟩]
  simp only [Bool.true_and, Bool.and_eq_true, decide_eq_true_eq, Int.toNat_natCast]
  constructor
  · rintro ⟨h1, h2⟩; exact ⟨by omega, h1⟩
  · rintro ⟨h1, h2⟩; exact ⟨h2, by omega⟩

theorem anyP_atom {n : Nat} {f : Nat → Int} (h64 : ∀ i, i < n → I64 (f i)) (hw : worldB n f = true) {a : Nat} (ha : a < n) : anyP n f a n = !atomB f a := by
  have hP := (worldB_iff n f h64).1 hw
  cases h : atomB f a with
  | true =>
    apply decide_eq_false
    rintro ⟨b, hb, hp⟩
    obtain ⟨h1, h2⟩ := (proper_iff n f hw ha hb).1 hp
    rw [(atom_iff hP ha).1 h b hb h1] at h2; cases h2
  | false =>
    apply decide_eq_true
    apply Classical.byContradiction
    intro hno
    have h2 := (atom_iff hP ha).2 (fun b hb hba => by
      cases hx : hasB (f a) b with
      | false => rfl
      | true => exact absurd ⟨b, hb, (proper_iff n f hw ha hb).2 ⟨hba, hx⟩⟩ hno)
    rw [h] at h2; cases h2
end Go.Proofs.YthaickihoagnmaaGreatDoor
