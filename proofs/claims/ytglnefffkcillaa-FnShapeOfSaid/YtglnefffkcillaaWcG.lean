import Derived.Test.YtglnefffkcillaaWcF
namespace Go.Proofs.Ytglnefffkcillaa
set_option linter.unusedVariables false
set_option linter.unusedSimpArgs false
open Go.RowKit Go.Maps
attribute [local go_sem] Oper.semAt_some

theorem Picks.next {gc A K K' : Nat} {C : List Int → List Int} {R R' : Nat → Prop} {w W : World} (h : Picks gc A C K R w) (hs : w.heap.size ≤ W.heap.size) (hk : ∀ k, R k → W.heap[k]? = w.heap[k]?) (hR : ∀ k, R k → R' k) (hK : K' ≤ K) : Picks gc A C K' R' W :=
  fun W' hs' hk' v B L ho hl h64 => h W' (Nat.le_trans hs hs') (fun k hr => (hk' k (hR k hr)).trans (hk k hr)) v B L ho (Nat.le_trans hl hK) h64

/-- the iterator over all lists of so many numbers that the choices leave -/
theorem lists_stops (Ac gc M : Nat) (heng : ∀ args w, (callFunc gc args).run Try.prog w = .ok (.enter gc args) w) (C : List Int → List Int) (h64 : ∀ L, ∀ x ∈ C L, I64 x) (hm : ∀ L, (C L).length ≤ M) (hM : M ≤ 100) :
    ∀ (k : Nat), k ≤ 40 → ∀ (N A0 A1 : Nat) (R : Nat → Prop) (w : World), Boxed w A0 3 (.int .i64 (k : Int)) → Boxed w A1 38 (.func (.func gc) #[] #[.pointer (some ⟨Ac, 0, none⟩)]) → R A1 → Picks gc Ac C k R w → (∀ i, R i → i < w.heap.size) →
      SeqQ Fence.wide N Try.prog 87 #[.pointer (some ⟨A0, 0, none⟩), .pointer (some ⟨A1, 0, none⟩)] encL R (LstIn (llK C k) w.heap.size) (LstAll (llK C k) w.heap.size) (M ^ k) w
  | 0, _, N, A0, A1, R, w, hA0, hA1, hR1, hP, hRl => fun l J W hW hJ hY h0 =>
    lists0_in N l A0 A1 w.heap.size R J C W (hJ _ (Nat.le_refl _)) (by simpa using hY) ((hW.block _ hA0.lt).trans hA0) h0
  | k + 1, hk, N, A0, A1, R, w, hA0, hA1, hR1, hP, hRl => fun l J W hW hJ hY h0 => by
    have hA0' : Boxed w A0 3 (.int .i64 ((k : Int) + 1)) := by rw [show (k : Int) + 1 = ((k + 1 : Nat) : Int) by omega]; exact hA0
    refine listsS_in N l A0 A1 Ac gc k w.heap.size M heng C R J W h64 hm hM (by omega) (hJ _ (Nat.le_refl _)) hY ((hW.block _ hA0.lt).trans hA0') ((hW.block _ hA1.lt).trans hA1) hR1 (hP.next hW.size (fun i hi => hW.block i (hRl i hi)) (fun _ h => h) (Nat.le_succ k)) (fun i hi => Nat.lt_of_lt_of_le (hRl i hi) hW.size) hW.size ?_ h0
    intro A0' A1' W2 b0 b1 hb
    refine lists_stops Ac gc M heng C h64 hm hM k (by omega) 2 A0' A1' _ W2 b0 b1 (.inr (.inr rfl)) ?_ ?_
    · refine hP.next (Nat.le_trans hW.size hb.size) (fun i hi => ?_) (fun _ h => .inl h) (Nat.le_succ k)
      exact (hb.block i (Nat.lt_of_lt_of_le (hRl i hi) hW.size)).trans (hW.block i (hRl i hi))
    · intro i hi
      rcases hi with hi | rfl | rfl
      · have := hRl i hi; have := hW.size; have := hb.size; omega
      · exact b0.lt
      · exact b1.lt

/-! ### the choices -/

theorem hasI_any (x : Int) (a : Nat) (ha : a ≤ 63) (w : World) :
    Calls Try.prog 93 #[.int .i64 x, .int .i64 a] w fun e w' => e = .returned (.bool (hasB x a)) ∧ w = w' := by
  go_enter Try.func93, Try.ntmps93
  go_wp2
  go_ret
  exact ⟨retb (has_eq x a), rfl⟩

set_option maxRecDepth 100000 in
theorem self11_any (x : Int) (A n c : Nat) (a : Option Addr) (hn : n ≤ 63) (w : World) (hA : Boxed w A 23 (.slice a n c)) :
    Calls Try.prog 92 #[.int .i64 x, .pointer (some ⟨A, 0, none⟩)] w fun e w' => e = .returned (.bool (!hasB x n)) ∧ w = w' := by
  have hc := hA.cell
  clear hA
  go_enter Try.func92, Try.ntmps92
  go_wp2_with fail
  refine (hasI_any x n hn w).mono ?_
  rintro e w' ⟨rfl, rfl⟩
  go_wp2_with fail
  go_ret
  exact ⟨rfl, rfl⟩
set_option maxRecDepth 100000 in
theorem other11_any (x : Int) (A n c : Nat) (a : Option Addr) (f : Nat → Int) (w : World) (hA : Boxed w A 23 (.slice a n c)) (hi : Ints w a n f) :
    Calls Try.prog 99 #[.int .i64 x, .pointer (some ⟨A, 0, none⟩)] w fun e w' => e = .returned (.bool (inF x n f)) ∧ w = w' := by
  have hc := hA.cell
  have HI := Lib.hid hi
  clear hA hi
  go_enter Try.func99, Try.ntmps99
  go_wp2_with fail
  refine (containsI_any a n c f x w HI.out).mono ?_
  rintro e w' ⟨rfl, rfl⟩
  go_wp2_with fail
  go_ret
  exact ⟨rfl, rfl⟩

/-- the sets with the next thing -/
def selfC (SL : List Int) (L : List Int) : List Int := evL (fun x => !hasB x L.length) SL
/-- those that are not ahead -/
def otherC (SL : List Int) (L : List Int) : List Int := evL (fun x => inF x L.length (fun i => L.getD i 0)) SL

set_option maxRecDepth 100000 in
set_option maxHeartbeats 3200000 in
theorem self1_any (A gs ns cs n c : Nat) (a : Option Addr) (SL L : List Int) (hLn : L.length = n) (hn : n ≤ 63) (hns : SL.length = ns) (h1 : 1 ≤ ns) (h1000 : ns ≤ 1000) (h64 : ∀ x ∈ SL, I64 x) (w : World) (hA : Boxed w A 23 (.slice (some ⟨gs, 0, none⟩) ns cs)) (hr : Row w gs 0 ns (fun i => SL.getD i 0)) (hgs : gs < w.heap.size) :
    Calls Try.prog 90 #[.slice a n c, .pointer (some ⟨A, 0, none⟩)] w (Gives 3 (selfC SL L) w) := by
  have hc := (hA.alloc (.cells #[.slice a n c] 23)).cell
  have hb := Boxed.new w 23 (.slice a n c)
  have hal := alloc_below w (.cells #[.slice a n c] 23)
  have hz : (w.alloc (.cells #[.slice a n c] 23)).heap.size = w.heap.size + 1 := alloc_size _ _
  have hr' := hr.below hal hgs
  have hal := Lib.hid hal
  obtain ⟨w1, hw1⟩ : ∃ w1, w.alloc (.cells #[.slice a n c] 23) = w1 := ⟨_, rfl⟩
  have HE := enters_of (P := Try.prog) Try.func92 (by kernel_rfl) rfl
  have hmf : ∀ (fn : Fn) (first cap : Array Value) (w : World), (Instr.makeFunc fn first cap).run Try.prog w = .ok (.func fn first cap) w := fun _ _ _ _ => rfl
  rw [hw1] at hc hb hz hr' hal
  have HB := Lib.hid hb; have HR := Lib.hid hr'
  clear hA hr hb hr'
  have hgl1 : gs < w1.heap.size := by omega
  go_enter Try.func90, Try.ntmps90
  go_wp2_with fail
  clear hw1
  refine (cloneS_any gs 0 ns cs _ h1 h1000 w1 HR.out hgl1).mono ?_
  rintro e w2 ⟨v2, rfl, ho2, hb2⟩
  have e2 : rowL (fun i => SL.getD i 0) ns = SL := by rw [← hns]; exact rowL_self SL
  rw [e2] at ho2
  have HB2 := Lib.hid hb2
  have hsl := hb2.size
  obtain ⟨g2, c2, hv2, _⟩ := ho2.shape (by omega)
  rw [hns] at hv2
  subst hv2
  have HO2 := Lib.hid ho2
  clear ho2 hb2
  go_wp2_with fail
  refine (deleteFunc_any 92 w.heap.size HE (fun x => !hasB x L.length) w1.heap.size (.slice (some ⟨g2, 0, none⟩) ns c2) SL (by omega) h64 (by omega) w2 hsl HO2.out (fun g hg _ W ho x _ => ?_)).mono ?_
  · have hbx : Boxed w2 w.heap.size 23 (.slice a n c) := (HB2.out.block _ (by omega)).trans HB.out
    have := self11_any x w.heap.size n c a hn W ((ho.block _ hbx.lt (by omega)).trans hbx)
    rw [hLn]; exact this
  rintro e w3 ⟨v3, rfl, ho3, hb3⟩
  have HF := Lib.hid (show OwnX w3 w.heap.size 3 v3 (selfC SL L) ∧ Below w.heap.size w w3 from ⟨ho3.base (by omega), hal.out.trans ((HB2.out.mono (by omega)).trans (hb3.mono (by omega)))⟩)
  clear ho3 hb3
  go_wp2_with fail
  go_ret
  exact ⟨_, rfl, HF.out.1, HF.out.2⟩
set_option maxRecDepth 100000 in
set_option maxHeartbeats 3200000 in
theorem other1_any (A gs os ns cs n c : Nat) (a : Option Addr) (SL L : List Int) (hLn : L.length = n) (hn : n ≤ 63) (h64L : ∀ x ∈ L, I64 x) (B : Nat) (hns : SL.length = ns) (h1 : 1 ≤ ns) (h1000 : ns ≤ 1000) (h64 : ∀ x ∈ SL, I64 x) (w : World) (hoL : OwnX w B 3 (.slice a n c) L) (hA : Boxed w A 23 (.slice (some ⟨gs, os, none⟩) ns cs)) (hr : Row w gs os ns (fun i => SL.getD i 0)) (hgs : gs < w.heap.size) :
    Calls Try.prog 98 #[.slice a n c, .pointer (some ⟨A, 0, none⟩)] w (Gives 3 (otherC SL L) w) := by
  have hc := (hA.alloc (.cells #[.slice a n c] 23)).cell
  have hb := Boxed.new w 23 (.slice a n c)
  have hal := alloc_below w (.cells #[.slice a n c] 23)
  have hz : (w.alloc (.cells #[.slice a n c] 23)).heap.size = w.heap.size + 1 := alloc_size _ _
  have hr' := hr.below hal hgs
  have hal := Lib.hid hal
  obtain ⟨w1, hw1⟩ : ∃ w1, w.alloc (.cells #[.slice a n c] 23) = w1 := ⟨_, rfl⟩
  have HE := enters_of (P := Try.prog) Try.func99 (by kernel_rfl) rfl
  have hmf : ∀ (fn : Fn) (first cap : Array Value) (w : World), (Instr.makeFunc fn first cap).run Try.prog w = .ok (.func fn first cap) w := fun _ _ _ _ => rfl
  rw [hw1] at hc hb hz hr' hal
  have HOL := Lib.hid hoL
  clear hoL
  have HB := Lib.hid hb; have HR := Lib.hid hr'
  clear hA hr hb hr'
  have hgl1 : gs < w1.heap.size := by omega
  go_enter Try.func98, Try.ntmps98
  go_wp2_with fail
  clear hw1
  refine (cloneS_any gs os ns cs _ h1 h1000 w1 HR.out hgl1).mono ?_
  rintro e w2 ⟨v2, rfl, ho2, hb2⟩
  have e2 : rowL (fun i => SL.getD i 0) ns = SL := by rw [← hns]; exact rowL_self SL
  rw [e2] at ho2
  have HB2 := Lib.hid hb2
  have hsl := hb2.size
  obtain ⟨g2, c2, hv2, _⟩ := ho2.shape (by omega)
  rw [hns] at hv2
  subst hv2
  have HO2 := Lib.hid ho2
  clear ho2 hb2
  go_wp2_with fail
  refine (deleteFunc_any 99 w.heap.size HE (fun x => inF x L.length (fun i => L.getD i 0)) w1.heap.size (.slice (some ⟨g2, 0, none⟩) ns c2) SL (by omega) h64 (by omega) w2 hsl HO2.out (fun g hg _ W ho x _ => ?_)).mono ?_
  · have hbx : Boxed w2 w.heap.size 23 (.slice a n c) := (HB2.out.block _ (by omega)).trans HB.out
    have hWb : Below w.heap.size w w2 := hal.out.trans (HB2.out.mono (by omega))
    have hoW : OwnX W B 3 (.slice a n c) L := (HOL.out.kept hWb).other (fun k hk _ hkl => ho.block k hkl (fun e => by
      have h5 := (World.ownsRow.lt HOL.out k hk).2
      omega))
    obtain ⟨a9, cap9, hv9, hh⟩ := hoW.has (by omega) h64L
    simp only [Value.slice.injEq] at hv9
    obtain ⟨rfl, e5, rfl⟩ := hv9
    have h7 := hh.ints
    have := other11_any x w.heap.size L.length c a (fun i => L.getD i 0) W ((ho.block _ hbx.lt (by omega)).trans (by rw [hLn]; exact hbx)) h7
    exact this
  rintro e w3 ⟨v3, rfl, ho3, hb3⟩
  have HF := Lib.hid (show OwnX w3 w.heap.size 3 v3 (otherC SL L) ∧ Below w.heap.size w w3 from ⟨ho3.base (by omega), hal.out.trans ((HB2.out.mono (by omega)).trans (hb3.mono (by omega)))⟩)
  clear ho3 hb3
  go_wp2_with fail
  go_ret
  exact ⟨_, rfl, HF.out.1, HF.out.2⟩

theorem self_picks (A gs ns cs K : Nat) (SL : List Int) (hK : K ≤ 63) (hns : SL.length = ns) (h1 : 1 ≤ ns) (h1000 : ns ≤ 1000) (h64 : ∀ x ∈ SL, I64 x) (R : Nat → Prop) (w : World) (hA : Boxed w A 23 (.slice (some ⟨gs, 0, none⟩) ns cs)) (hRA : R A) (hr : Row w gs 0 ns (fun i => SL.getD i 0)) (hgs : gs < w.heap.size) (hRg : R gs) :
    Picks 90 A (selfC SL) K R w := fun W hs hk v B L ho hl h64L => by
  obtain ⟨a, c, rfl⟩ := ho.slice
  exact self1_any A gs ns cs L.length c a SL L rfl (by omega) hns h1 h1000 h64 W ((hk A hRA).trans hA) (fun i hi => (World.cell?_of_block (hk gs hRg)).trans (hr i hi)) (by omega)
theorem other_picks (A gs os ns cs K : Nat) (SL : List Int) (hK : K ≤ 63) (hns : SL.length = ns) (h1 : 1 ≤ ns) (h1000 : ns ≤ 1000) (h64 : ∀ x ∈ SL, I64 x) (R : Nat → Prop) (w : World) (hA : Boxed w A 23 (.slice (some ⟨gs, os, none⟩) ns cs)) (hRA : R A) (hr : Row w gs os ns (fun i => SL.getD i 0)) (hgs : gs < w.heap.size) (hRg : R gs) :
    Picks 98 A (otherC SL) K R w := fun W hs hk v B L ho hl h64L => by
  obtain ⟨a, c, rfl⟩ := ho.slice
  exact other1_any A gs os ns cs L.length c a SL L rfl (by omega) h64L B hns h1 h1000 h64 W ho ((hk A hRA).trans hA) (fun i hi => (World.cell?_of_block (hk gs hRg)).trans (hr i hi)) (by omega)
end Go.Proofs.Ytglnefffkcillaa
