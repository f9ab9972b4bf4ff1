import Derived.Test.YtidcfcjmjgcfkaaOnce
namespace Go.Proofs.Ytidcfcjmjgcfkaa
open Go.RowKit

/-- what the function that is handed to Do leaves: x in the block b -/
def OnceEnd (b : Nat) (s : Value) (d st x : Int) (w : World) (e : Ending) (w' : World) : Prop :=
  e = .returned (.tuple #[]) ∧ AW w' b s d st x ∧ Only b w w'

set_option maxHeartbeats 1600000 in
theorem once_load (a : Addr) (d : Int) (v : Bool) (hv : (d != 0) = v) (w : World) (hc : w.cell? a = some (.int .u32 d)) :
    Calls Try.prog 65 #[.pointer (some a)] w fun e w' => e = .returned (.bool v) ∧ w = w' := by
  have hl := run_call_load (P := Try.prog) Try.func68 (by kernel_rfl) (by kernel_rfl) (by kernel_rfl) .u32 (by kernel_rfl) hc
  have HV := Lib.hid hv; clear hv
  go_enter Try.func65, Try.ntmps65
  go_wp2
  go_ret
  exact ⟨retb HV.out, rfl⟩

set_option maxRecDepth 100000 in
set_option maxHeartbeats 1600000 in
theorem once_slow (K : Nat) (b p : Nat) (s : Value) (x0 x : Int) (w : World) (h : AW w b s 0 0 x0)
    (hE : ∀ (args : Array Value) (w : World), Sem.run Try.prog (callFunc K args) w = .ok (.enter K args) w)
    (hF : Hid (∀ w1, AW w1 b s 0 1 x0 → Only b w w1 → Calls Try.prog K #[.pointer (some ⟨p, 0, none⟩)] w1 (OnceEnd b s 0 1 x w1))) :
    Calls Try.prog 66 #[.pointer (some ⟨b, 1, none⟩), .func (.func K) #[] #[.pointer (some ⟨p, 0, none⟩)]] w (OnceEnd b s 1 0 x w) := by
  have H := Lib.hid h; clear h
  have hnot : ∀ (x : Bool) (w : World), (Op.unary .not (.bool x)).run Try.prog w = .ok (.bool (!x)) w := fun _ _ => rfl
  go_enter_defers Try.func66, Try.ntmps66
  go_wp2_with fail
  refine (once_lock _ _ H.out.c2 H.out.f2).mono ?_
  rintro e w1 ⟨rfl, hw1⟩
  have h1 : AW w1 b s 0 1 x0 := by rw [hw1]; exact H.out.setSt 1
  have o1 : Only b w w1 := by rw [hw1]; exact (Only.refl b w).setCell 2 _
  have H1 := Lib.hid h1; have HW1 := Lib.hid hw1
  clear hw1 h1
  go_wp2_with fail
  refine (once_load _ 0 false rfl _ H1.out.c1).mono ?_
  rintro e w' ⟨rfl, rfl⟩
  go_wp2_with fail
  refine (hF.out w1 H1.out o1).mono ?_
  rintro e w2 ⟨rfl, h2, o2⟩
  have H2 := Lib.hid h2
  replace o1 := o1.trans o2
  clear h2 o2
  go_wp2_with fail
  refine leaves_cons (f := 71) (args := #[.pointer (some ⟨b, 1, none⟩), .bool true]) (by simp) (by simp [go_sem]) ?_
  refine (once_store ⟨b, 1, none⟩ _ .returning _ H2.out.c1 H2.out.f1).mono ?_
  rintro e u' w3 ⟨rfl, rfl, hw3⟩
  have h3 : AW w3 b s 1 1 x := by rw [hw3]; exact H2.out.drew.setD 1
  replace o1 : Only b w w3 := by rw [hw3]; exact o1.drew.setCell 1 _
  clear hw3
  refine leaves_cons (f := 70) (args := #[.pointer (some ⟨b, 2, none⟩)]) (by simp [settle]) (by simp [go_sem]) ?_
  refine (once_unlock ⟨b, 2, none⟩ _ _ h3.c2 h3.f2).mono ?_
  rintro e u' w4 ⟨rfl, rfl, hw4⟩
  have h4 : AW w4 b s 1 0 x := by rw [hw4]; exact h3.setSt 0
  replace o1 : Only b w w4 := by rw [hw4]; exact o1.setCell 2 _
  clear hw4
  have hfin : OnceEnd b s 1 0 x w (.returned (.tuple #[])) w4 := ⟨rfl, h4, o1⟩
  have HF := Lib.hid hfin; clear hfin
  simp [Leaves, settle, results, Try.results66]
  exact HF.out

set_option maxRecDepth 100000 in
set_option maxHeartbeats 1600000 in
theorem once_first (K : Nat) (b p : Nat) (s : Value) (x0 x : Int) (w : World) (h : AW w b s 0 0 x0)
    (hE : ∀ (args : Array Value) (w : World), Sem.run Try.prog (callFunc K args) w = .ok (.enter K args) w)
    (hF : Hid (∀ w1, AW w1 b s 0 1 x0 → Only b w w1 → Calls Try.prog K #[.pointer (some ⟨p, 0, none⟩)] w1 (OnceEnd b s 0 1 x w1))) :
    Calls Try.prog 57 #[.pointer (some ⟨b, 1, none⟩), .func (.func K) #[] #[.pointer (some ⟨p, 0, none⟩)]] w (OnceEnd b s 1 0 x w) := by
  have H := Lib.hid h; clear h
  have HE := Lib.hid hE; clear hE
  have hnot : ∀ (x : Bool) (w : World), (Op.unary .not (.bool x)).run Try.prog w = .ok (.bool (!x)) w := fun _ _ => rfl
  go_enter Try.func57, Try.ntmps57
  go_wp2_with fail
  refine (once_load _ 0 false rfl _ H.out.c1).mono ?_
  rintro e w' ⟨rfl, rfl⟩
  go_wp2_with fail
  refine (once_slow K b p s x0 x _ H.out HE.out hF).mono ?_
  rintro e w' ⟨rfl, h1, h2⟩
  have h1 := Lib.hid h1
  go_wp2_with fail
  go_end0
  exact ⟨rfl, h1.out, h2⟩

set_option maxHeartbeats 1600000 in
theorem once_done (b : Nat) (fv s : Value) (x : Int) (w : World) (h : AW w b s 1 0 x) :
    Calls Try.prog 57 #[.pointer (some ⟨b, 1, none⟩), fv] w (OnceEnd b s 1 0 x w) := by
  have H := Lib.hid h; clear h
  have hnot : ∀ (x : Bool) (w : World), (Op.unary .not (.bool x)).run Try.prog w = .ok (.bool (!x)) w := fun _ _ => rfl
  go_enter Try.func57, Try.ntmps57
  go_wp2_with fail
  refine (once_load _ 1 true rfl _ H.out.c1).mono ?_
  rintro e w' ⟨rfl, rfl⟩
  go_wp2_with fail
  go_end0
  exact ⟨rfl, H.out, Only.refl b w⟩

set_option maxHeartbeats 800000 in
theorem thoseM_any (K : Nat) (a : Option Addr) (n cap : Nat) (r : Value) (g : Nat → Bool) (hn : n ≤ 7) (w : World)
    (hE : ∀ (args : Array Value) (w : World), Sem.run Try.prog (callFunc K args) w = .ok (.enter K args) w)
    (hF : Hid (∀ (wr : World) (b : Nat), b < n → Drew w wr → Calls Try.prog K #[r, .int .i64 b] wr fun e w' => e = .returned (.bool (g b)) ∧ Drew wr w')) :
    Calls Try.prog 59 #[.slice a n cap, .func (.func K) #[r] #[]] w fun e w' => e = .returned (.int .i64 (setOf g n)) ∧ Drew w w' := by
  go_enter Try.func59, Try.ntmps59
  go_wp2_with fail
  go_loopw [5, 9] (fun v i wr => ∃ k : Nat, k ≤ n ∧ i = .int .i64 k ∧ v = .int .i64 (setOf g k) ∧ Drew w wr) (fun _ i _ => n - (intOf i).toNat)
  case atStart => exact ⟨0, Nat.zero_le _, rfl, rfl, Drew.refl w⟩
  case round =>
    obtain ⟨k, hk, rfl, rfl, hd⟩ := hrel
    by_cases hlt : k < n
    · have hk7 : k < 7 := by omega
      have hp := pow_bounds k (by omega)
      obtain ⟨hp1, hp2⟩ := hp
      cases hg : g k with
      | true =>
        have HS := Lib.hid (setOf_yes g k hg); have HG := Lib.hid hg; clear hg
        go_wp2_with fail
        refine (hF.out wr k hlt hd).mono ?_
        rintro e w' ⟨rfl, hd'⟩
        rw [HG.out]
        go_wp2_with fail
        go_roundw
        case rel => exact ⟨k + 1, by omega, by go_num, by rw [HS.out], by obtain ⟨m, rfl⟩ := hd'; exact hd.more m⟩
        case measure => simp [intOf]; omega
      | false =>
        have HS := Lib.hid (setOf_no g k hg); have HG := Lib.hid hg; clear hg
        go_wp2_with fail
        refine (hF.out wr k hlt hd).mono ?_
        rintro e w' ⟨rfl, hd'⟩
        rw [HG.out]
        go_wp2_with fail
        go_roundw
        case rel => exact ⟨k + 1, by omega, by go_num, by rw [HS.out], by obtain ⟨m, rfl⟩ := hd'; exact hd.more m⟩
        case measure => simp [intOf]; omega
    · have hkn : k = n := by omega
      subst hkn
      go_wp2_with fail
      go_ret
      exact ⟨rfl, hd⟩

/-- a thing is an atom: its set is itself alone -/
def atomB (f : Nat → Int) (a : Nat) : Bool := f a == 2 ^ a
def atomsI (n : Nat) (f : Nat → Int) : Int := setOf (atomB f) n

set_option maxHeartbeats 800000 in
theorem atom_any (bk off n cap : Nat) (a : Nat) (f : Nat → Int) (hn : n ≤ 7) (ha : a < n) (w : World) (hr : Row w bk off n f) :
    Calls Try.prog 60 #[.slice (some ⟨bk, off, none⟩) n cap, .int .i64 a] w fun e w' => e = .returned (.bool (atomB f a)) ∧ Drew w w' := by
  have hc := hr a ha
  have ⟨hp1, hp2⟩ := pow_bounds a (by omega)
  have hai : (a : Int) < (n : Int) := by omega
  go_enter Try.func60, Try.ntmps60
  go_wp2_with fail
  go_quiet (fail)
  go_wp2_with fail
  go_ret
  exact ⟨rfl, _, rfl⟩
end Go.Proofs.Ytidcfcjmjgcfkaa
