import Derived.Test.YtibjdmmcnhlgnaaDrawK
namespace Go.Proofs.Ytibjdmmcnhlgnaa
set_option linter.unusedVariables false
set_option linter.unusedSimpArgs false
open Go.RowKit Go.Maps

/-- two ships are drawn -/
def DrawnSS (rb P : Nat) (w : World) (e : Ending) (w' : World) : Prop :=
  ∃ v1 xs v2 ys, e = .returned (.tuple #[v1, v2]) ∧ (xs.length ≤ 7 ∧ ys.length ≤ 7) ∧ ((∀ x ∈ xs, I64 x) ∧ ∀ x ∈ ys, I64 x) ∧ OwnX w' w.heap.size 3 v1 xs ∧ OwnX w' w.heap.size 3 v2 ys ∧ Only rb w w' ∧ Rdr w' rb (P + 100)

/-- the state of two ships -/
structure SsR (rb P : Nat) (w : World) (v1 : Value) (xs : List Int) (v2 : Value) (ys : List Int) (wr : World) : Prop where
  own1 : OwnX wr w.heap.size 3 v1 xs
  own2 : OwnX wr w.heap.size 3 v2 ys
  only : Only rb w wr
  rdr : Rdr wr rb P
theorem SsR.lift {rb P Q : Nat} {w : World} {v1 v2 : Value} {xs ys : List Int} {wr w' : World} (h : SsR rb P w v1 xs v2 ys wr) (ho : Only rb wr w') (hrb : rb < w.heap.size) (hr : Rdr w' rb Q) : SsR rb Q w v1 xs v2 ys w' :=
  ⟨h.own1.lift ho hrb, h.own2.lift ho hrb, h.only.trans ho, hr⟩
theorem SsR.turn {rb P : Nat} {w : World} {v1 v2 v3 : Value} {xs ys zs : List Int} {wr w' : World} (h : SsR rb P w v1 xs v2 ys wr) (hb : Below wr.heap.size wr w') (ho : OwnX w' wr.heap.size 3 v3 zs) : SsR rb P w v1 xs v3 zs w' :=
  ⟨h.own1.kept hb, ho.base h.only.size, h.only.trans (Only.of_below hb), h.rdr.below hb⟩
theorem SsR.kept {rb P : Nat} {w : World} {v1 v2 : Value} {xs ys : List Int} {wr w' : World} (h : SsR rb P w v1 xs v2 ys wr) (hb : Below wr.heap.size wr w') : SsR rb P w v1 xs v2 ys w' :=
  ⟨h.own1.kept hb, h.own2.kept hb, h.only.trans (Only.of_below hb), h.rdr.below hb⟩
theorem SsR.fin {rb P : Nat} {w : World} {v1 v2 : Value} {xs ys : List Int} {wr : World} (h : SsR rb P w v1 xs v2 ys wr) {R : Nat} (hR : P ≤ R + 100) (hl : xs.length ≤ 7 ∧ ys.length ≤ 7) (h64 : (∀ x ∈ xs, I64 x) ∧ ∀ x ∈ ys, I64 x) : DrawnSS rb R w (.returned (.tuple #[v1, v2])) wr :=
  ⟨v1, xs, v2, ys, rfl, hl, h64, h.own1, h.own2, h.only, h.rdr.mono hR⟩

set_option maxRecDepth 100000 in
set_option maxHeartbeats 6400000 in
theorem ships_any (rb P : Nat) (hP : P ≤ 10000) (w : World) (h : Rdr w rb P) :
    Calls Try.prog 59 #[.pointer (some ⟨rb, 0, none⟩)] w (DrawnSS rb P w) := by
  have hrb : rb < w.heap.size := h.1
  have H0 := Lib.hid h; clear h
  go_enter Try.func59, Try.ntmps59
  go_wp2_with fail
  refine (ship_any rb P 12 (by omega) (by omega) (by omega) _ H0.out).mono ?_
  rintro e w1 ⟨v1, xs, rfl, hxl, hx64, hown1, ho1, hr1⟩
  have HX := Lib.hid hown1; have HO := Lib.hid ho1; have HR := Lib.hid hr1; clear hown1 ho1 hr1 H0
  go_wp2_with fail
  refine (ship_any rb _ 12 (by omega) (by omega) (by omega) _ HR.out).mono ?_
  rintro e w2 ⟨v2, ys, rfl, hyl, hy64, hown2, ho2, hr2⟩
  have HS := Lib.hid (show SsR rb (P + 30 + 30) w v1 xs v2 ys w2 from ⟨HX.out.lift ho2 hrb, hown2.base HO.out.size, HO.out.trans ho2, hr2⟩)
  have H64 := Lib.hid (show (∀ x ∈ xs, I64 x) ∧ ∀ x ∈ ys, I64 x from ⟨hx64, hy64⟩)
  clear hown2 ho2 hr2 HX HO HR hx64 hy64
  obtain ⟨a1, c1, hv1, hh1⟩ := HS.out.own1.has (by omega) H64.out.1
  subst hv1
  have HI := Lib.hid hh1.ints
  clear hh1
  obtain ⟨F, hF⟩ : ∃ F : Nat → Int, (fun i => xs.getD i 0) = F := ⟨_, rfl⟩
  rw [hF] at HI
  clear hF
  cases hs : shipB xs.length F with
  | false =>
    have HB := Lib.hid hs; clear hs
    go_wp2_with fail
    refine (specShipOk_val _ _ _ _ false HB.out _ HI.out).mono ?_
    rintro e w3 ⟨rfl, hd⟩
    have HS3 := Lib.hid (HS.out.kept hd.below)
    clear hd
    go_wp2_with fail
    go_ret2
    exact HS3.out.fin (by omega) ⟨hxl, hyl⟩ H64.out
  | true =>
    have HB := Lib.hid hs; clear hs
    go_wp2_with fail
    refine (specShipOk_val _ _ _ _ true HB.out _ HI.out).mono ?_
    rintro e w3 ⟨rfl, hd⟩
    have HS3 := Lib.hid (HS.out.kept hd.below); replace HI := Lib.hid (HI.out.next hd.below)
    clear hd HS
    go_wp2_with fail
    refine (pick_any rb _ 2 (by omega) _ HS3.out.rdr).mono ?_
    rintro e w4 ⟨z, rfl, hz, ho, hr⟩
    have HS4 := Lib.hid (HS3.out.lift ho hrb hr)
    clear hz ho hr HS3 HI
    cases hzb : ((z : Int) == 0) with
    | false =>
      go_wp2_with fail
      go_ret2
      exact HS4.out.fin (by omega) ⟨hxl, hyl⟩ H64.out
    | true =>
      go_wp2_with fail
      refine (pick_any rb _ 6 (by omega) _ HS4.out.rdr).mono ?_
      rintro e w5 ⟨p, rfl, hp, ho, hr⟩
      have HS5 := Lib.hid (HS4.out.lift ho hrb hr)
      clear hp ho hr HS4
      go_wp2_with fail
      refine (pick_any rb _ 30 (by omega) _ HS5.out.rdr).mono ?_
      rintro e w6 ⟨q, rfl, hq, ho, hr⟩
      have HS6 := Lib.hid (HS5.out.lift ho hrb hr)
      clear hq ho hr HS5
      obtain ⟨a2, c2, hv2, hh2⟩ := HS6.out.own1.has (by omega) H64.out.1
      cases hv2
      have HI6 := Lib.hid hh2.ints
      clear hh2
      go_wp2_with fail
      refine (specChangedOf_any _ _ _ _ (p : Int) (q : Int) _ HI6.out).mono ?_
      rintro e w7 ⟨v7, rfl, ho7, hb7⟩
      have HCL := Lib.hid (ch_len xs.length (fun i => xs.getD i 0) (p : Int) (q : Int))
      obtain ⟨L, hL⟩ : ∃ L, chL xs.length (fun i => xs.getD i 0) (p : Int) (q : Int) = L := ⟨_, rfl⟩
      rw [hL] at ho7 HCL
      obtain ⟨ok, hok⟩ : ∃ ok, chB xs.length (fun i => xs.getD i 0) (p : Int) (q : Int) = ok := ⟨_, rfl⟩
      rw [hok]
      have HS7 := Lib.hid (HS6.out.turn hb7 ho7)
      clear hL hok ho7 hb7 HS6 HI6
      obtain ⟨a7, c7, hv7, hh7⟩ := HS7.out.own2.has (by have := HCL.out.1; omega) HCL.out.2
      subst hv7
      clear hh7
      go_wp2_with fail
      refine (pick_any rb _ 2 (by omega) _ HS7.out.rdr).mono ?_
      rintro e w8 ⟨y, rfl, hy, ho, hr⟩
      have HS8 := Lib.hid (HS7.out.lift ho hrb hr)
      clear hy ho hr HS7
      cases hyb : ((y : Int) == 0) with
      | false =>
        go_wp2_with fail
        go_ret2
        exact HS8.out.fin (by omega) ⟨hxl, by have := HCL.out.1; omega⟩ ⟨H64.out.1, HCL.out.2⟩
      | true =>
        go_wp2_with fail
        refine (pick_any rb _ 6 (by omega) _ HS8.out.rdr).mono ?_
        rintro e w9 ⟨p2, rfl, hp, ho, hr⟩
        have HS9 := Lib.hid (HS8.out.lift ho hrb hr)
        clear hp ho hr HS8
        go_wp2_with fail
        refine (pick_any rb _ 30 (by omega) _ HS9.out.rdr).mono ?_
        rintro e wa ⟨q2, rfl, hq, ho, hr⟩
        have HSA := Lib.hid (HS9.out.lift ho hrb hr)
        clear hq ho hr HS9
        obtain ⟨a3, c3, hv3, hh3⟩ := HSA.out.own2.has (by have := HCL.out.1; omega) HCL.out.2
        cases hv3
        have HIA := Lib.hid hh3.ints
        clear hh3
        go_wp2_with fail
        refine (specChangedOf_any _ _ _ _ (p2 : Int) (q2 : Int) _ HIA.out).mono ?_
        rintro e wb ⟨vb, rfl, hob, hbb⟩
        have HCM := Lib.hid (ch_len L.length (fun i => L.getD i 0) (p2 : Int) (q2 : Int))
        have HSB := Lib.hid (HSA.out.turn hbb hob)
        obtain ⟨ok2, hok⟩ : ∃ ok, chB L.length (fun i => L.getD i 0) (p2 : Int) (q2 : Int) = ok := ⟨_, rfl⟩
        rw [hok]
        clear hok hob hbb HSA HIA
        go_wp2_with fail
        go_ret2
        exact HSB.out.fin (by omega) ⟨hxl, by have := HCM.out.1; omega⟩ ⟨H64.out.1, HCM.out.2⟩
end Go.Proofs.Ytibjdmmcnhlgnaa
