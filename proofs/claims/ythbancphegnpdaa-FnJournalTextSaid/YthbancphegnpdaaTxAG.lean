import Derived.Test.YthbancphegnpdaaTxAF
namespace Go.Proofs.Ythbancphegnpdaa
set_option linter.unusedVariables false
set_option linter.unusedSimpArgs false
open Go.RowKit Go.Maps

theorem Upd.grown {v : Value} {w w' : World} (h : w.grownBy w' v.ownBlock) : Upd v w w' :=
  ⟨h.os, h.tape, h.output, h.size, fun k hk hn => h.block k hk (fun e => hn e.symm)⟩
theorem OwnD.lt {w : World} {B : Nat} {v : Value} {ds : List (Int × Int)} (h : OwnD w B v ds) {g : Nat} (hg : v.ownBlock = some g) : B ≤ g ∧ g < w.heap.size :=
  World.ownsRow.lt h g hg
theorem OwnD.cellsAt {w : World} {B g k : Nat} {o : Nat} {n c : Nat} {ds : List (Int × Int)} (h : OwnD w B (.slice (some ⟨g, o, none⟩) n c) ds) (hk : k < ds.length) :
    o = 0 ∧ n = ds.length ∧ w.cell? ⟨g, k * 2, none⟩ = some (.int .i64 ds[k].1) ∧ w.cell? ⟨g, k * 2 + 1, none⟩ = some (.int .i64 ds[k].2) := by
  obtain ⟨g', c', hv, _, _, _, hr⟩ := h.row (by omega)
  injection hv with hv1 hv2 hv3
  injection hv1 with hv1
  injection hv1 with hv4 hv5 _
  subst hv4
  have := hr k hk
  rw [Nat.zero_add] at this
  exact ⟨hv5, hv2, this.1, this.2⟩

/-- the state of the choice of deeds that have a text -/
structure WrS (rb Q B B1 : Nat) (w : World) (lv : Value) (ds : List (Int × Int)) (k : Nat) (vo : Value) (es : List (Int × Int)) (wr : World) : Prop where
  own : OwnD wr B vo es
  lst : OwnD wr B1 lv ds
  sep : ∀ g, lv.ownBlock = some g → vo.ownBlock ≠ some g
  only : Only rb w wr
  rdr : Rdr wr rb Q
  len : es.length ≤ k
  i64 : I64D es
theorem WrS.below {rb Q B B1 k : Nat} {w : World} {lv vo : Value} {ds es : List (Int × Int)} {wr w' : World} (h : WrS rb Q B B1 w lv ds k vo es wr) (hb : Below wr.heap.size wr w') : WrS rb Q B B1 w lv ds k vo es w' :=
  ⟨h.own.kept hb, h.lst.kept hb, h.sep, h.only.trans (Only.of_below hb), h.rdr.below hb, h.len, h.i64⟩
theorem WrS.later {rb Q B B1 k j : Nat} {w : World} {lv vo : Value} {ds es : List (Int × Int)} {wr : World} (h : WrS rb Q B B1 w lv ds k vo es wr) (hj : k ≤ j) : WrS rb Q B B1 w lv ds j vo es wr :=
  ⟨h.own, h.lst, h.sep, h.only, h.rdr, by have := h.len; omega, h.i64⟩
theorem WrS.more {rb Q B B1 k : Nat} {w : World} {lv vo v8 : Value} {ds es : List (Int × Int)} {wr w8 : World} {kk xx : Int} (h : WrS rb Q B B1 w lv ds k vo es wr) (hrb : rb < B) (hB : B = w.heap.size) (hkk : I64 kk) (hxx : I64 xx)
    (h1 : w8.ownsRow B 31 2 v8 (es.length + 1) (cellsD es ++ [.int .i64 kk, .int .i64 xx])) (hg : wr.grownBy w8 vo.ownBlock) (ha : v8.ownBlock = vo.ownBlock ∨ v8.ownBlock = some wr.heap.size) :
    WrS rb Q B B1 w lv ds (k + 1) v8 (es ++ [(kk, xx)]) w8 := by
  have hu := Upd.grown hg
  have hsz : B ≤ wr.heap.size := by rw [hB]; exact h.only.size
  have hb : Below B wr w8 := hu.below hsz (fun g hg' => (h.own.lt hg').1)
  refine ⟨OwnD.snoc h1, h.lst.upd hu h.sep, fun g hg' => ?_, ?_, h.rdr.belowB hb hrb, by have := h.len; simp; omega, h.i64.snoc hkk hxx⟩
  · rcases ha with ha | ha
    · rw [ha]; exact h.sep g hg'
    · rw [ha]; intro e; injection e with e; have := (h.lst.lt hg').2; omega
  · subst hB; exact h.only.below_then hb
theorem info_deeds_len {es : List (Int × Int)} (h : es.length ≤ 5) : es.length + 1 ≤ maxLen ∧ (es.length + 1) * 16 ≤ 140737488355328 := by unfold maxLen; omega

set_option maxRecDepth 100000 in
set_option maxHeartbeats 3200000 in
theorem written_any (rb P : Nat) (hP : P ≤ 40000) (w : World) (h : Rdr w rb P) :
    Calls Try.prog 55 #[.pointer (some ⟨rb, 0, none⟩)] w fun e w' => ∃ (v : Value) (es : List (Int × Int)), e = .returned v ∧ es.length ≤ 5 ∧ I64D es ∧ OwnD w' w.heap.size v es ∧ Only rb w w' ∧ Rdr w' rb (P + 2000) := by
  obtain ⟨i0, hii, hz0, hz1, hz2⟩ := info_deed
  have hrb : rb < w.heap.size := h.1
  have HR := Lib.hid (h.al (.cells #[] 31))
  have HO := Lib.hid ((Only.refl rb w).alloc (.cells #[] 31))
  have HOW := Lib.hid (OwnD.made w w.heap.size (Nat.le_refl _))
  have HSZ := Lib.hid (alloc_size w (.cells #[] 31))
  clear h
  go_enter Try.func55, Try.ntmps55
  go_wp2_with fail
  refine (sets_any rb _ 0 (by omega) (by omega) (by omega) _ HR.out).mono ?_
  rintro e w1 ⟨lv0, m, rfl, hm, hown, ho, hr⟩
  obtain ⟨a2, c2, rfl, hlst⟩ := hown.lst (by omega) (show rb < (w.alloc (.cells #[] 31)).heap.size by rw [HSZ.out]; omega)
  have HO1 := Lib.hid (HO.out.trans ho); have HR1 := Lib.hid hr; have HL1 := Lib.hid hlst
  have HOW1 := Lib.hid (HOW.out.only ho hrb)
  have HS1 := Lib.hid (show w.heap.size < w1.heap.size by have := ho.size; rw [HSZ.out] at this; omega)
  clear hown ho hr hlst HO HR HOW
  go_wp2_with fail
  refine (deeds_any rb _ a2 m c2 (by omega) _ HR1.out HL1.out).mono ?_
  rintro e w2 ⟨lv, ds, rfl, hdl, hd64, hdown, ho, hr⟩
  have HST : Hid (WrS rb (P + 2000) w.heap.size w1.heap.size w lv ds 0 (.slice (some ⟨w.heap.size, 0, none⟩) 0 0) [] w2) := Lib.hid ⟨HOW1.out.only ho hrb, hdown, fun g hg e => by
    have h1 := (hdown.lt hg).1
    have h2 := HS1.out
    injection e with e
    have e2 : w.heap.size = g := e
    omega, HO1.out.trans ho, hr.mono (by omega), Nat.le_refl _, I64D.nil⟩
  obtain ⟨la, lc, rfl⟩ := hdown.slice
  obtain ⟨n, hn⟩ : ∃ n, ds.length = n := ⟨_, rfl⟩
  have HN := Lib.hid hn
  have HD64 := Lib.hid hd64
  rw [hn] at hdl HST ⊢
  clear hd64 hdown ho hr HO1 HR1 HL1 HOW1 hn
  go_wp2_with fail
  go_loopw [3, 5] (fun v i wr => ∃ (k : Nat) (es : List (Int × Int)), k ≤ n ∧ i = .int .i64 k ∧ Hid (WrS rb (P + 2000) w.heap.size w1.heap.size w (.slice la n lc) ds k v es wr)) (fun _ i _ => n - (intOf i).toNat)
  case atStart => exact ⟨0, [], Nat.zero_le _, rfl, HST⟩
  case round =>
    clear HST
    obtain ⟨k, es, hk, rfl, HS⟩ := hrel
    obtain ⟨av, cv, rfl⟩ := HS.out.own.slice
    by_cases hlt : k < n
    · have hki : (k : Int) < (n : Int) := by omega
      have hk0 : (0 : Int) ≤ (k : Int) := by omega
      have hkl : k < ds.length := by rw [HN.out]; exact hlt
      obtain ⟨g, cg, hv, _, hgl, _, hrow⟩ := HS.out.lst.row (by omega)
      injection hv with hv1 hv2 hv3
      subst hv1
      have HRW := Lib.hid (fun W (hW : Below wr.heap.size wr W) => show W.cell? ⟨g, k * 2, none⟩ = some (.int .i64 ds[k].1) ∧ W.cell? ⟨g, k * 2 + 1, none⟩ = some (.int .i64 ds[k].2) by have := hrow.kept hW hgl k hkl; rwa [Nat.zero_add] at this)
      have HD := Lib.hid (HD64.out ds[k] (List.getElem_mem _))
      obtain ⟨dk, hdk⟩ : ∃ dk, ds[k] = dk := ⟨_, rfl⟩
      rw [hdk] at HRW HD
      obtain ⟨kk, xx⟩ := dk
      dsimp only at HRW HD
      have HEL := Lib.hid (show es.length ≤ 5 by have := HS.out.len; omega)
      clear hrow hgl hdk hv2 hv3 hkl
      obtain ⟨hc0, hc1⟩ := HRW.out wr (Below.refl _ _)
      obtain ⟨t, ht⟩ : ∃ t, deedT kk xx = t := ⟨_, rfl⟩
      have HTT := Lib.hid ht
      clear ht
      cases hem : t.toList.isEmpty with
      | true =>
        go_wp2_with fail
        refine (specDeedText_any _ _ _).mono ?_
        rintro e w5 ⟨rfl, hb5⟩
        rw [HTT.out]
        have HS5 := Lib.hid ((HS.out.below hb5).later (Nat.le_succ k))
        clear hb5 hc0 hc1 HRW
        go_wp2_with fail
        go_roundw
        case rel => exact ⟨k + 1, es, by omega, by go_num, HS5⟩
        case measure => simp [intOf]; omega
      | false =>
        go_wp2_with fail
        refine (specDeedText_any _ _ _).mono ?_
        rintro e w5 ⟨rfl, hb5⟩
        rw [HTT.out]
        obtain ⟨hd0, hd1⟩ := HRW.out w5 hb5
        have hal := alloc_below w5 (.cells #[.int .i64 kk, .int .i64 xx] 31)
        have HS5 := Lib.hid ((HS.out.below hb5).below hal)
        have HOW : Hid ((w5.alloc (.cells #[.int .i64 kk, .int .i64 xx] 31)).ownsRow w.heap.size 31 2 (.slice av es.length cv) es.length (cellsD es)) := Lib.hid HS5.out.own
        have k1 := Lib.hid (new_deed w5 kk xx)
        have k2 := Lib.hid (one_deed kk xx)
        have k3 := Lib.hid (info_deeds_len HEL.out).1
        have k4 := Lib.hid (info_deeds_len HEL.out).2
        have k5 : Hid (w.heap.size ≤ (w5.alloc (.cells #[.int .i64 kk, .int .i64 xx] 31)).heap.size) := Lib.hid HS5.out.only.size
        clear hb5 hc0 hc1 hal HRW
        go_wp2_with (at_builtin; refine wpList_append_own_at _ rfl (.tmp 23) (.tmp 28) 36 rfl w.heap.size 31 i0 (.agg #[.int .i64 0, .int .i64 0]) 2 16 Try.underlying36 hii hz0 hz1 hz2 rfl (by decide) _ _ _ rfl HOW.out ⟨w5.heap.size, 0, none⟩ 1 1 [.int .i64 kk, .int .i64 xx] rfl rfl k1.out k2.out k3.out k4.out k5.out ?_)
        intro v8 w8 hown8 hgrow8 _ hat8
        have HN2 := Lib.hid (HS5.out.more hrb rfl HD.out.1 HD.out.2 hown8 hgrow8 (by rw [alloc_size]; exact hat8))
        obtain ⟨g8, c8, rfl⟩ := ownsRow_succ hown8
        clear hown8 hgrow8 hat8 k1 k2 k3 k4 k5 HOW hd0 hd1
        go_wp2_with fail
        go_roundw
        case rel => exact ⟨k + 1, _, by omega, by go_num, HN2⟩
        case measure => simp [intOf]; omega
    · have hki : ¬ (k : Int) < (n : Int) := by omega
      go_wp2_with fail
      go_ret
      exact ⟨_, rfl, es, by have := HS.out.len; omega, HS.out.i64, HS.out.own, HS.out.only, HS.out.rdr⟩
end Go.Proofs.Ythbancphegnpdaa
