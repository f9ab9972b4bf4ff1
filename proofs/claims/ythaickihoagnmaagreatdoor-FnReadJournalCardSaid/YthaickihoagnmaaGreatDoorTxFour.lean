import Derived.Test.YthaickihoagnmaaGreatDoorDkSeven
import Derived.Test.YthaickihoagnmaaGreatDoorTxThree
import Derived.RangeFuncBox
namespace Go.Proofs.YthaickihoagnmaaGreatDoor
set_option linter.unusedVariables false
set_option linter.unusedSimpArgs false
open Go.RowKit Go.Maps

def sp6 : List ByteArray := [⟨#[]⟩, ⟨#[48]⟩, ⟨#[32]⟩, ⟨#[10]⟩, ⟨#[45]⟩, ⟨#[98, 97, 99, 107]⟩]
theorem sp6_small : ∀ t ∈ sp6, t.size ≤ 4 := by decide

set_option maxRecDepth 100000 in
set_option maxHeartbeats 3200000 in
theorem spoil_any (rb P : Nat) (hP : P ≤ 100000) (t : ByteArray) (htz : t.size ≤ 900) (w : World) (h : Rdr w rb P) :
    Calls Tryz.prog 43 #[.pointer (some ⟨rb, 0, none⟩), .string t] w fun e w' => ∃ s : ByteArray, e = .returned (.string s) ∧ s.size ≤ t.size + 4 ∧ Only rb w w' := by
  have H := Lib.hid h; clear h
  by_cases ht0 : 0 < t.size
  · have htd : ((t.size : Int) == 0) = false := by rw [beq_eq_false_iff_ne]; omega
    have htd2 : (t.size == 0) = false := by rw [beq_eq_false_iff_ne]; omega
    go_enter Tryz.func43, Tryz.ntmps43
    go_wp2_with fail
    refine (pick_any _ _ _ (by omega) _ H.out).mono ?_
    rintro e w4 ⟨k, rfl, hk, ho, hr⟩
    have HO := Lib.hid ho; have HR := Lib.hid hr; clear ho hr
    have hkt : k < t.size := by omega
    have HHk := Lib.hid hk
    clear hk
    have HQ6 := Lib.hid (lit_text w4 sp6 #[.string ⟨#[]⟩, .string ⟨#[48]⟩, .string ⟨#[32]⟩, .string ⟨#[10]⟩, .string ⟨#[45]⟩, .string ⟨#[98, 97, 99, 107]⟩] 9 rfl)
    have HRA := Lib.hid ((HR.out.below (alloc_below w4 (.cells #[.string ⟨#[]⟩, .string ⟨#[48]⟩, .string ⟨#[32]⟩, .string ⟨#[10]⟩, .string ⟨#[45]⟩, .string ⟨#[98, 97, 99, 107]⟩] 9))).drx)
    have HOA := Lib.hid ((HO.out.alloc (.cells #[.string ⟨#[]⟩, .string ⟨#[48]⟩, .string ⟨#[32]⟩, .string ⟨#[10]⟩, .string ⟨#[45]⟩, .string ⟨#[98, 97, 99, 107]⟩] 9)).trans (only_drx _ _))
    have hrb : rb < w4.heap.size := HR.out.1
    have HSZ := Lib.hid (alloc_size w4 (.cells #[.string ⟨#[]⟩, .string ⟨#[48]⟩, .string ⟨#[32]⟩, .string ⟨#[10]⟩, .string ⟨#[45]⟩, .string ⟨#[98, 97, 99, 107]⟩] 9))
    have hwk : IntKind.i64.wrap ((k : Int) + 1) = (k : Int) + 1 := IntWalk.i64_in _ (by omega)
    have hki : (0 : Int) ≤ (k : Int) := by omega
    have hki2 : (k : Int) ≤ (t.size : Int) := by omega
    have hk0 : (0 : Int) ≤ (k : Int) + 1 := by omega
    have hkt1 : (k : Int) + 1 ≤ (t.size : Int) := by omega
    have hkn : ((k : Int) + 1).toNat = k + 1 := by omega
    have hkt2 : k + 1 ≤ t.size := by omega
    have hkt3 : k ≤ t.size := by omega
    have HQL := Lib.hid (fun (W : World) => lit_text W sp6 #[.string ⟨#[]⟩, .string ⟨#[48]⟩, .string ⟨#[32]⟩, .string ⟨#[10]⟩, .string ⟨#[45]⟩, .string ⟨#[98, 97, 99, 107]⟩] 9 rfl)
    have HA1 := Lib.hid (add_a t k (by omega))
    have HA2 := Lib.hid (add_b t k (by omega))
    go_wp2_with fail
    go_region_with
      (first | (go_at_call 42; refine (pick_any _ _ 6 (by omega) _ HRA.out).mono ?_; rintro e w5 ⟨u, rfl, hu, ho, hr⟩; have hu4 : u < 6 := (by omega); have hui : (u : Int) < 6 := (by omega); have hui0 : (0 : Int) ≤ (u : Int) := (by omega); have hcu := ((World.cell?_of_block (a := ⟨w4.heap.size, u, none⟩) (ho.block w4.heap.size (by have := HSZ.out; show _ < (w4.alloc _).heap.size; omega) (by omega))).trans (HQ6.out u hu4)); have HT := Lib.hid (getD_small sp6_small u); obtain ⟨tq, htq⟩ : ∃ tq, sp6.getD u ByteArray.empty = tq := ⟨_, rfl⟩; rw [htq] at hcu HT; have HF3 := Lib.hid (HOA.out.trans ho); have hA1 := HA1.out tq HT.out; have hA2 := HA2.out tq HT.out; clear htq ho hr) | (go_at_call 42; refine (pick_any _ _ 6 (by omega) _ HR.out.drx).mono ?_; rintro e w5 ⟨u, rfl, hu, ho, hr⟩; have hu4 : u < 6 := (by omega); have hui : (u : Int) < 6 := (by omega); have hui0 : (0 : Int) ≤ (u : Int) := (by omega); have hcu := HQL.out w5 u hu4; have HT := Lib.hid (getD_small sp6_small u); obtain ⟨tq, htq⟩ : ∃ tq, sp6.getD u ByteArray.empty = tq := ⟨_, rfl⟩; rw [htq] at hcu HT; have HF3 := Lib.hid (((HO.out.trans (only_drx _ _)).trans ho).alloc (.cells #[.string ⟨#[]⟩, .string ⟨#[48]⟩, .string ⟨#[32]⟩, .string ⟨#[10]⟩, .string ⟨#[45]⟩, .string ⟨#[98, 97, 99, 107]⟩] 9)); have hA1 := HA1.out tq HT.out; have hA2 := HA2.out tq HT.out; clear htq ho hr))
    all_goals
      go_wp2_with fail
      go_ret
      exact ⟨_, rfl, by rw [ByteArray.size_append, ByteArray.size_append, ByteArray.size_extract, ByteArray.size_extract]; have := HT.out; omega, HF3.out⟩
  · have htd : ((t.size : Int) == 0) = true := by rw [beq_iff_eq]; omega
    have htd2 : (t.size == 0) = true := by rw [beq_iff_eq]; omega
    go_enter Tryz.func43, Tryz.ntmps43
    go_wp2_with fail
    go_ret
    exact ⟨_, rfl, by show 1 ≤ _; omega, Only.refl _ _⟩
end Go.Proofs.YthaickihoagnmaaGreatDoor

namespace Go.Proofs.YthaickihoagnmaaGreatDoor
set_option linter.unusedVariables false
set_option linter.unusedSimpArgs false
open Go.RowKit Go.Maps

theorem OwnD.only {w w' : World} {B rb : Nat} {v : Value} {ds : List (Int × Int)} (h : OwnD w B v ds) (ho : Only rb w w') (hrb : rb < B) : OwnD w' B v ds := by
  refine ⟨h.1, ?_⟩
  rcases h.2 with h1 | ⟨g, cap, cur, hv, hBg, hg, hr⟩
  · exact .inl h1
  · exact .inr ⟨g, cap, cur, hv, hBg, (ho.block g (Array.getElem?_eq_some_iff.1 hg).1 (by omega)).trans hg, hr⟩
def I64D (ds : List (Int × Int)) : Prop := ∀ d ∈ ds, I64 d.1 ∧ I64 d.2
theorem I64D.nil : I64D [] := fun d hd => by cases hd
theorem I64D.snoc {ds : List (Int × Int)} {k x : Int} (h : I64D ds) (hk : I64 k) (hx : I64 x) : I64D (ds ++ [(k, x)]) := by
  intro d hd
  rcases List.mem_append.1 hd with hd | hd
  · exact h d hd
  · rw [List.mem_singleton] at hd; subst hd; exact ⟨hk, hx⟩
theorem new_deed (w : World) (k x : Int) : ∀ (jj : Nat) (u : Value), [Value.int .i64 k, .int .i64 x][jj]? = some u → (w.alloc (.cells #[.int .i64 k, .int .i64 x] 39)).cell? ((⟨w.heap.size, 0, none⟩ : Addr).add jj) = some u := fun jj u h => by
  have hh : (w.alloc (.cells #[.int .i64 k, .int .i64 x] 39)).heap[w.heap.size]? = some (.cells #[.int .i64 k, .int .i64 x] 39) := heap_alloc_new w _
  rw [Addr.add_lit, Nat.zero_add]
  unfold World.cell?
  rw [hh]
  have h4 : jj < 2 := (List.getElem?_eq_some_iff.1 h).1
  have : jj = 0 ∨ jj = 1 := by omega
  rcases this with rfl | rfl <;> exact h
theorem one_deed (k x : Int) : ∀ u ∈ [Value.int .i64 k, .int .i64 x], u.oneCell' = true := by
  intro u hu; simp only [List.mem_cons, List.not_mem_nil, or_false] at hu; rcases hu with rfl | rfl <;> rfl

/-- deeds are drawn -/
def DeedsDrawn (rb P : Nat) (w : World) (e : Ending) (w' : World) : Prop :=
  ∃ (v : Value) (ds : List (Int × Int)), e = .returned v ∧ ds.length ≤ 5 ∧ I64D ds ∧ OwnD w' w.heap.size v ds ∧ Only rb w w' ∧ Rdr w' rb (P + 100)
def DsR (rb P : Nat) (w : World) (v i : Value) (wr : World) : Prop :=
  ∃ (j : Nat) (ds : List (Int × Int)), i = .int .i64 j ∧ ds.length + j ≤ 5 ∧ I64D ds ∧ OwnD wr w.heap.size v ds ∧ Only rb w wr ∧ Rdr wr rb (P + 1 + 10 * ds.length)

set_option maxRecDepth 100000 in
set_option maxHeartbeats 3200000 in
theorem deeds_any (rb P : Nat) (a : Option Addr) (m cap : Nat) (hP : P ≤ 50000) (w : World) (h : Rdr w rb P) (hl : LstR w rb a m) :
    Calls Tryz.prog 50 #[.pointer (some ⟨rb, 0, none⟩), .slice a m cap] w (DeedsDrawn rb P w) := by
  obtain ⟨i0, hii, hz0, hz1, hz2⟩ := info_deed
  have hrb : rb < w.heap.size := h.1
  have HR := Lib.hid (h.al (.cells #[] 39))
  have HO0 := Lib.hid ((Only.refl rb w).alloc (.cells #[] 39))
  have HOW := Lib.hid (OwnD.made w w.heap.size (Nat.le_refl _))
  have HL := Lib.hid hl
  clear h hl
  go_enter Tryz.func50, Tryz.ntmps50
  go_wp2_with fail
  refine (pick_any rb _ 6 (by omega) _ HR.out).mono ?_
  rintro e w1 ⟨y, rfl, hy, ho, hr⟩
  have hst : DsR rb P w (.slice (some ⟨w.heap.size, 0, none⟩) 0 0) (.int .i64 (y : Int)) w1 := ⟨y, [], rfl, by simp; omega, I64D.nil, HOW.out.only ho hrb, HO0.out.trans ho, hr.mono (by simp)⟩
  clear hy ho hr HR HO0 HOW
  go_wp2_with fail
  go_loopw [5, 6] (fun v i wr => DsR rb P w v i wr) (fun _ i _ => (intOf i).toNat)
  case atStart => exact hst
  case round =>
    clear hst
    obtain ⟨j, ds, rfl, hj, h64, hown, hon, hrd⟩ := hrel
    obtain ⟨a5, c5, rfl⟩ := hown.slice
    have HON := Lib.hid hon; have HRD := Lib.hid hrd; have HOWN := Lib.hid hown; have H64 := Lib.hid h64
    clear hon hrd hown h64
    by_cases hj0 : 0 < j
    · have hjb : decide ((0 : Int) < (j : Int)) = true := by simp; omega
      go_wp2_with fail
      refine (deedR_any rb _ a m cap (by omega) _ HRD.out (HL.out.only HON.out)).mono ?_
      rintro e w4 ⟨k, x, rfl, hk0, hk9, hx, ho, hr⟩
      have HON4 := Lib.hid (HON.out.trans ho)
      have HOW4 : Hid (w4.ownsRow w.heap.size 39 2 (.slice a5 ds.length c5) ds.length (cellsD ds)) := Lib.hid (HOWN.out.only ho hrb)
      have HR4 := Lib.hid hr
      have HN64 := Lib.hid (H64.out.snoc (k := k) (x := x) (by unfold I64; omega) hx)
      have HSZ := Lib.hid HON4.out.size
      clear ho hr hx hk0 hk9 HON HRD HOWN H64
      have k1 := Lib.hid (new_deed w4 k x)
      have k2 := Lib.hid (one_deed k x)
      have k3 : Hid (ds.length + 1 ≤ maxLen) := Lib.hid (by unfold maxLen; omega)
      have k4 : Hid ((ds.length + 1) * 16 ≤ 140737488355328) := Lib.hid (by omega)
      have k5 : Hid (w.heap.size ≤ (w4.alloc (.cells #[.int .i64 k, .int .i64 x] 39)).heap.size) := Lib.hid (by rw [alloc_size]; have := HSZ.out; omega)
      go_wp2_with (at_builtin; refine wpList_append_own _ rfl (.tmp 14) (.tmp 18) 24 rfl w.heap.size 39 i0 (.agg #[.int .i64 0, .int .i64 0]) 2 16 Tryz.underlying24 hii hz0 hz1 hz2 rfl (by decide) _ _ _ rfl (HOW4.out.alloc _) ⟨w4.heap.size, 0, none⟩ 1 1 [.int .i64 k, .int .i64 x] rfl rfl k1.out k2.out k3.out k4.out k5.out ?_)
      intro v8 w8 hown8 hgrow8 _
      have hb8 : Below w.heap.size w4 w8 := ((Below.refl w.heap.size w4).alloc HSZ.out _).grown hgrow8 k5.out (fun g hg => (World.ownsRow.lt HOW4.out g hg).1)
      have hlen : (ds ++ [(k, x)]).length = ds.length + 1 := by simp
      have HN : Hid (DsR rb P w v8 (.int .i64 ((j - 1 : Nat) : Int)) w8) := Lib.hid ⟨j - 1, ds ++ [(k, x)], rfl, by omega, HN64.out, OwnD.snoc hown8, HON4.out.below_then hb8, (HR4.out.belowB hb8 hrb).mono (by omega)⟩
      obtain ⟨g8, c8, rfl⟩ := ownsRow_succ hown8
      have hji : (j : Int) - 1 = ((j - 1 : Nat) : Int) := by omega
      clear hown8 hgrow8 hb8 k1 k2 k3 k4 k5 HOW4 hlen
      go_wp2_with fail
      go_roundw
      case rel => first | exact HN.out | (rw [hji]; exact HN.out)
      case measure => simp [intOf]; omega
    · have hjb : decide ((0 : Int) < (j : Int)) = false := by simp; omega
      go_wp2_with fail
      go_ret
      exact ⟨_, ds, rfl, by omega, H64.out, HOWN.out, HON.out, HRD.out.mono (by omega)⟩
end Go.Proofs.YthaickihoagnmaaGreatDoor

namespace Go.Proofs.YthaickihoagnmaaGreatDoor
set_option linter.unusedVariables false
set_option linter.unusedSimpArgs false
open Go.RowKit Go.Maps

theorem Upd.grown {v : Value} {w w' : World} (h : w.grownBy w' v.ownBlock) : Upd v w w' :=
  ⟨h.os, h.tape, h.output, h.size, fun k hk hn => h.block k hk (fun e => hn e.symm)⟩
theorem OwnD.lt {w : World} {B : Nat} {v : Value} {ds : List (Int × Int)} (h : OwnD w B v ds) {g : Nat} (hg : v.ownBlock = some g) : B ≤ g ∧ g < w.heap.size :=
  World.ownsRow.lt h g hg
theorem OwnD.cellsAt {w : World} {B g k : Nat} {o : Nat} {n c : Nat} {ds : List (Int × Int)} (h : OwnD w B (.slice (some ⟨g, o, none⟩) n c) ds) (hk : k < ds.length) :
    o = 0 ∧ n = ds.length ∧ w.cell? ⟨g, k * 2, none⟩ = some (.int .i64 ds[k].1) ∧ w.cell? ⟨g, k * 2 + 1, none⟩ = some (.int .i64 ds[k].2) := by
  obtain ⟨g', c', hv, _, _, _, hr⟩ := h.row (by omega)
  injection hv with hv1 hv2 hv3
  injection hv1 with hv1
  injection hv1 with hv4 hv5 _
  subst hv4
  have := hr k hk
  rw [Nat.zero_add] at this
  exact ⟨hv5, hv2, this.1, this.2⟩

/-- the state of the choice of deeds that have a text -/
structure WrS (rb Q B B1 : Nat) (w : World) (lv : Value) (ds : List (Int × Int)) (k : Nat) (vo : Value) (es : List (Int × Int)) (wr : World) : Prop where
  own : OwnD wr B vo es
  lst : OwnD wr B1 lv ds
  sep : ∀ g, lv.ownBlock = some g → vo.ownBlock ≠ some g
  only : Only rb w wr
  rdr : Rdr wr rb Q
  len : es.length ≤ k
  i64 : I64D es
theorem WrS.below {rb Q B B1 k : Nat} {w : World} {lv vo : Value} {ds es : List (Int × Int)} {wr w' : World} (h : WrS rb Q B B1 w lv ds k vo es wr) (hb : Below wr.heap.size wr w') : WrS rb Q B B1 w lv ds k vo es w' :=
  ⟨h.own.kept hb, h.lst.kept hb, h.sep, h.only.trans (Only.of_below hb), h.rdr.below hb, h.len, h.i64⟩
theorem WrS.later {rb Q B B1 k j : Nat} {w : World} {lv vo : Value} {ds es : List (Int × Int)} {wr : World} (h : WrS rb Q B B1 w lv ds k vo es wr) (hj : k ≤ j) : WrS rb Q B B1 w lv ds j vo es wr :=
  ⟨h.own, h.lst, h.sep, h.only, h.rdr, by have := h.len; omega, h.i64⟩
theorem WrS.more {rb Q B B1 k : Nat} {w : World} {lv vo v8 : Value} {ds es : List (Int × Int)} {wr w8 : World} {kk xx : Int} (h : WrS rb Q B B1 w lv ds k vo es wr) (hrb : rb < B) (hB : B = w.heap.size) (hkk : I64 kk) (hxx : I64 xx)
    (h1 : w8.ownsRow B 39 2 v8 (es.length + 1) (cellsD es ++ [.int .i64 kk, .int .i64 xx])) (hg : wr.grownBy w8 vo.ownBlock) (ha : v8.ownBlock = vo.ownBlock ∨ v8.ownBlock = some wr.heap.size) :
    WrS rb Q B B1 w lv ds (k + 1) v8 (es ++ [(kk, xx)]) w8 := by
  have hu := Upd.grown hg
  have hsz : B ≤ wr.heap.size := by rw [hB]; exact h.only.size
  have hb : Below B wr w8 := hu.below hsz (fun g hg' => (h.own.lt hg').1)
  refine ⟨OwnD.snoc h1, h.lst.upd hu h.sep, fun g hg' => ?_, ?_, h.rdr.belowB hb hrb, by have := h.len; simp; omega, h.i64.snoc hkk hxx⟩
  · rcases ha with ha | ha
    · rw [ha]; exact h.sep g hg'
    · rw [ha]; intro e; injection e with e; have := (h.lst.lt hg').2; omega
  · subst hB; exact h.only.below_then hb
theorem info_deeds_len {es : List (Int × Int)} (h : es.length ≤ 5) : es.length + 1 ≤ maxLen ∧ (es.length + 1) * 16 ≤ 140737488355328 := by unfold maxLen; omega

set_option maxRecDepth 100000 in
set_option maxHeartbeats 3200000 in
theorem written_any (rb P : Nat) (hP : P ≤ 40000) (w : World) (h : Rdr w rb P) :
    Calls Tryz.prog 41 #[.pointer (some ⟨rb, 0, none⟩)] w fun e w' => ∃ (v : Value) (es : List (Int × Int)), e = .returned v ∧ es.length ≤ 5 ∧ I64D es ∧ OwnD w' w.heap.size v es ∧ Only rb w w' ∧ Rdr w' rb (P + 2000) := by
  obtain ⟨i0, hii, hz0, hz1, hz2⟩ := info_deed
  have hrb : rb < w.heap.size := h.1
  have HR := Lib.hid (h.al (.cells #[] 39))
  have HO := Lib.hid ((Only.refl rb w).alloc (.cells #[] 39))
  have HOW := Lib.hid (OwnD.made w w.heap.size (Nat.le_refl _))
  have HSZ := Lib.hid (alloc_size w (.cells #[] 39))
  clear h
  go_enter Tryz.func41, Tryz.ntmps41
  go_wp2_with fail
  refine (sets_any rb _ 0 (by omega) (by omega) (by omega) _ HR.out).mono ?_
  rintro e w1 ⟨lv0, m, rfl, hm, hown, ho, hr⟩
  obtain ⟨a2, c2, rfl, hlst⟩ := hown.lst (by omega) (show rb < (w.alloc (.cells #[] 39)).heap.size by rw [HSZ.out]; omega)
  have HO1 := Lib.hid (HO.out.trans ho); have HR1 := Lib.hid hr; have HL1 := Lib.hid hlst
  have HOW1 := Lib.hid (HOW.out.only ho hrb)
  have HS1 := Lib.hid (show w.heap.size < w1.heap.size by have := ho.size; rw [HSZ.out] at this; omega)
  clear hown ho hr hlst HO HR HOW
  go_wp2_with fail
  refine (deeds_any rb _ a2 m c2 (by omega) _ HR1.out HL1.out).mono ?_
  rintro e w2 ⟨lv, ds, rfl, hdl, hd64, hdown, ho, hr⟩
  have HST : Hid (WrS rb (P + 2000) w.heap.size w1.heap.size w lv ds 0 (.slice (some ⟨w.heap.size, 0, none⟩) 0 0) [] w2) := Lib.hid ⟨HOW1.out.only ho hrb, hdown, fun g hg e => by
    have h1 := (hdown.lt hg).1
    have h2 := HS1.out
    injection e with e
    have e2 : w.heap.size = g := e
    omega, HO1.out.trans ho, hr.mono (by omega), Nat.le_refl _, I64D.nil⟩
  obtain ⟨la, lc, rfl⟩ := hdown.slice
  obtain ⟨n, hn⟩ : ∃ n, ds.length = n := ⟨_, rfl⟩
  have HN := Lib.hid hn
  have HD64 := Lib.hid hd64
  rw [hn] at hdl HST ⊢
  clear hd64 hdown ho hr HO1 HR1 HL1 HOW1 hn
  go_wp2_with fail
  go_loopw [3, 5] (fun v i wr => ∃ (k : Nat) (es : List (Int × Int)), k ≤ n ∧ i = .int .i64 k ∧ Hid (WrS rb (P + 2000) w.heap.size w1.heap.size w (.slice la n lc) ds k v es wr)) (fun _ i _ => n - (intOf i).toNat)
  case atStart => exact ⟨0, [], Nat.zero_le _, rfl, HST⟩
  case round =>
    clear HST
    obtain ⟨k, es, hk, rfl, HS⟩ := hrel
    obtain ⟨av, cv, rfl⟩ := HS.out.own.slice
    by_cases hlt : k < n
    · have hki : (k : Int) < (n : Int) := by omega
      have hk0 : (0 : Int) ≤ (k : Int) := by omega
      have hkl : k < ds.length := by rw [HN.out]; exact hlt
      obtain ⟨g, cg, hv, _, hgl, _, hrow⟩ := HS.out.lst.row (by omega)
      injection hv with hv1 hv2 hv3
      subst hv1
      have HRW := Lib.hid (fun W (hW : Below wr.heap.size wr W) => show W.cell? ⟨g, k * 2, none⟩ = some (.int .i64 ds[k].1) ∧ W.cell? ⟨g, k * 2 + 1, none⟩ = some (.int .i64 ds[k].2) by have := hrow.kept hW hgl k hkl; rwa [Nat.zero_add] at this)
      have HD := Lib.hid (HD64.out ds[k] (List.getElem_mem _))
      obtain ⟨dk, hdk⟩ : ∃ dk, ds[k] = dk := ⟨_, rfl⟩
      rw [hdk] at HRW HD
      obtain ⟨kk, xx⟩ := dk
      dsimp only at HRW HD
      have HEL := Lib.hid (show es.length ≤ 5 by have := HS.out.len; omega)
      clear hrow hgl hdk hv2 hv3 hkl
      obtain ⟨hc0, hc1⟩ := HRW.out wr (Below.refl _ _)
      obtain ⟨t, ht⟩ : ∃ t, deedT kk xx = t := ⟨_, rfl⟩
      have HTT := Lib.hid ht
      clear ht
      cases hem : t.toList.isEmpty with
      | true =>
        go_wp2_with fail
        refine (specDeedText_any _ _ _).mono ?_
        rintro e w5 ⟨rfl, hb5⟩
        rw [HTT.out]
        have HS5 := Lib.hid ((HS.out.below hb5).later (Nat.le_succ k))
        clear hb5 hc0 hc1 HRW
        go_wp2_with fail
        go_roundw
        case rel => exact ⟨k + 1, es, by omega, by go_num, HS5⟩
        case measure => simp [intOf]; omega
      | false =>
        go_wp2_with fail
        refine (specDeedText_any _ _ _).mono ?_
        rintro e w5 ⟨rfl, hb5⟩
        rw [HTT.out]
        obtain ⟨hd0, hd1⟩ := HRW.out w5 hb5
        have hal := alloc_below w5 (.cells #[.int .i64 kk, .int .i64 xx] 39)
        have HS5 := Lib.hid ((HS.out.below hb5).below hal)
        have HOW : Hid ((w5.alloc (.cells #[.int .i64 kk, .int .i64 xx] 39)).ownsRow w.heap.size 39 2 (.slice av es.length cv) es.length (cellsD es)) := Lib.hid HS5.out.own
        have k1 := Lib.hid (new_deed w5 kk xx)
        have k2 := Lib.hid (one_deed kk xx)
        have k3 := Lib.hid (info_deeds_len HEL.out).1
        have k4 := Lib.hid (info_deeds_len HEL.out).2
        have k5 : Hid (w.heap.size ≤ (w5.alloc (.cells #[.int .i64 kk, .int .i64 xx] 39)).heap.size) := Lib.hid HS5.out.only.size
        clear hb5 hc0 hc1 hal HRW
        go_wp2_with (at_builtin; refine wpList_append_own_at _ rfl (.tmp 23) (.tmp 28) 24 rfl w.heap.size 39 i0 (.agg #[.int .i64 0, .int .i64 0]) 2 16 Tryz.underlying24 hii hz0 hz1 hz2 rfl (by decide) _ _ _ rfl HOW.out ⟨w5.heap.size, 0, none⟩ 1 1 [.int .i64 kk, .int .i64 xx] rfl rfl k1.out k2.out k3.out k4.out k5.out ?_)
        intro v8 w8 hown8 hgrow8 _ hat8
        have HN2 := Lib.hid (HS5.out.more hrb rfl HD.out.1 HD.out.2 hown8 hgrow8 (by rw [alloc_size]; exact hat8))
        obtain ⟨g8, c8, rfl⟩ := ownsRow_succ hown8
        clear hown8 hgrow8 hat8 k1 k2 k3 k4 k5 HOW hd0 hd1
        go_wp2_with fail
        go_roundw
        case rel => exact ⟨k + 1, _, by omega, by go_num, HN2⟩
        case measure => simp [intOf]; omega
    · have hki : ¬ (k : Int) < (n : Int) := by omega
      go_wp2_with fail
      go_ret
      exact ⟨_, rfl, es, by have := HS.out.len; omega, HS.out.i64, HS.out.own, HS.out.only, HS.out.rdr⟩
end Go.Proofs.YthaickihoagnmaaGreatDoor
