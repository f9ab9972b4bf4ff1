import Derived.Test.YtacoeaoaabjkoaaDrawN
import Derived.Test.YtacoeaoaabjkoaaGrdD
import Derived.Deep.RegionHeld3
namespace Go.Proofs.Ytacoeaoaabjkoaa
open Go.RowKit

theorem Rdr.dr8 {w : World} {rb P : Nat} (h : Rdr w rb P) : Rdr w.drew rb P := h.below ((Below.refl _ _).drew)
theorem only_dr8 (rb : Nat) (w : World) : Only rb w w.drew := Only.of_below ((Below.refl _ _).drew)
theorem wrap64_I64 (n : Int) : I64 (wrap64 n) := by unfold I64 wrap64; omega
theorem Only.of_drew {rb : Nat} {w w' : World} (h : Drew w w') : Only rb w w' := Only.of_below h.below

/-- a number is drawn -/
def DrawnInt (rb P : Nat) (w : World) (e : Ending) (w' : World) : Prop :=
  ∃ x : Int, e = .returned (.int .i64 x) ∧ I64 x ∧ Only rb w w' ∧ Rdr w' rb (P + 10)

set_option maxRecDepth 100000 in
set_option maxHeartbeats 6400000 in
theorem thing_any (rb P : Nat) (a : Option Addr) (m cap : Nat) (hm : m ≤ 8) (hP : P ≤ 200000) (w : World) (h : Rdr w rb P) :
    Calls Try.prog 54 #[.pointer (some ⟨rb, 0, none⟩), .slice a m cap] w (DrawnInt rb P w) := by
  have HR := Lib.hid h; clear h
  have HO := Lib.hid (Only.refl rb w)
  have hpm := pow20 m (by omega)
  by_cases hm1 : (m : Int) < 1
  · have hd : decide ((m : Int) < 1) = true := decide_eq_true hm1
    go_enter Try.func54, Try.ntmps54
    go_wp2_with fail
    go_cut [6] (fun s wx => ∃ S : Int, s = .int .i64 S ∧ Only rb w wx ∧ Rdr wx rb (P + 2))
    case first =>
      go_region_held3 (fun _ => True) (first | trivial)
        (first | (go_at_call 55; refine (pick_any rb _ _ (by omega) _ HR.out).mono ?_; rintro e w2 ⟨x, rfl, hx, ho0, hr⟩; have ho := Lib.hid (ho0); replace HO := Lib.hid (HO.out.trans ho.out); replace HR := Lib.hid hr; have hx8 : x < 8 := (by omega); have hpx := pow20 x (by omega); clear hx ho ho0 hr) | (go_at_call 55; refine (pick_any rb _ _ (by omega) _ HR.out.dr8).mono ?_; rintro e w2 ⟨x, rfl, hx, ho0, hr⟩; have ho := Lib.hid ((only_dr8 _ _).trans ho0); replace HO := Lib.hid (HO.out.trans ho.out); replace HR := Lib.hid hr; have hx8 : x < 8 := (by omega); have hpx := pow20 x (by omega); clear hx ho ho0 hr))
      all_goals
        go_wp2_with fail
        go_meet
        exact ⟨_, rfl, HO.out, HR.out⟩
    case rest =>
      obtain ⟨S, rfl, ho, hr⟩ := hcut
      replace HO := Lib.hid ho; replace HR := Lib.hid hr; clear ho hr
      go_wp2_with fail
      refine (pick_any rb _ 2 (by omega) _ HR.out).mono ?_
      rintro e w3 ⟨u, rfl, hu, ho, hr⟩
      replace HO := Lib.hid (HO.out.trans ho); replace HR := Lib.hid hr; clear hu ho hr
      cases hub : ((u : Int) == 0) with
      | false =>
        go_wp2_with fail
        refine (pick_any rb _ 40 (by omega) _ HR.out).mono ?_
        rintro e w5 ⟨y, rfl, hy, ho, hr⟩
        replace HO := Lib.hid (HO.out.trans ho); replace HR := Lib.hid hr; clear ho hr
        have hy40 : y < 40 := by omega
        clear hy
        go_wp2_with fail
        refine (pick_any rb _ 50 (by omega) _ HR.out).mono ?_
        rintro e w6 ⟨v, rfl, hv, ho, hr⟩
        replace HO := Lib.hid (HO.out.trans ho); replace HR := Lib.hid hr; clear ho hr
        have hv50 : v < 50 := by omega
        clear hv
        go_wp2_with fail
        go_ret
        exact ⟨_, rfl, wrap64_I64 _, HO.out, HR.out.mono (by omega)⟩
      | true =>
        go_wp2_with fail
        refine (pick_any rb _ _ (by omega) _ HR.out).mono ?_
        rintro e w4 ⟨z, rfl, hz, ho, hr⟩
        replace HO := Lib.hid (HO.out.trans ho); replace HR := Lib.hid hr; clear hz ho hr
        go_wp2_with fail
        refine (pick_any rb _ 40 (by omega) _ HR.out).mono ?_
        rintro e w5 ⟨y, rfl, hy, ho, hr⟩
        replace HO := Lib.hid (HO.out.trans ho); replace HR := Lib.hid hr; clear ho hr
        have hy40 : y < 40 := by omega
        clear hy
        go_wp2_with fail
        refine (pick_any rb _ 50 (by omega) _ HR.out).mono ?_
        rintro e w6 ⟨v, rfl, hv, ho, hr⟩
        replace HO := Lib.hid (HO.out.trans ho); replace HR := Lib.hid hr; clear ho hr
        have hv50 : v < 50 := by omega
        clear hv
        go_wp2_with fail
        go_ret
        exact ⟨_, rfl, wrap64_I64 _, HO.out, HR.out.mono (by omega)⟩
  · have hd : decide ((m : Int) < 1) = false := decide_eq_false hm1
    go_enter Try.func54, Try.ntmps54
    go_wp2_with fail
    go_cut [6] (fun s wx => ∃ S : Int, s = .int .i64 S ∧ Only rb w wx ∧ Rdr wx rb (P + 2))
    case first =>
      go_region_held3 (fun _ => True) (first | trivial)
        (first | (go_at_call 55; refine (pick_any rb _ _ (by omega) _ HR.out).mono ?_; rintro e w2 ⟨x, rfl, hx, ho0, hr⟩; have ho := Lib.hid (ho0); replace HO := Lib.hid (HO.out.trans ho.out); replace HR := Lib.hid hr; have hx8 : x < 8 := (by omega); have hpx := pow20 x (by omega); clear hx ho ho0 hr) | (go_at_call 55; refine (pick_any rb _ _ (by omega) _ HR.out.dr8).mono ?_; rintro e w2 ⟨x, rfl, hx, ho0, hr⟩; have ho := Lib.hid ((only_dr8 _ _).trans ho0); replace HO := Lib.hid (HO.out.trans ho.out); replace HR := Lib.hid hr; have hx8 : x < 8 := (by omega); have hpx := pow20 x (by omega); clear hx ho ho0 hr))
      all_goals
        go_wp2_with fail
        go_meet
        exact ⟨_, rfl, HO.out, HR.out⟩
    case rest =>
      obtain ⟨S, rfl, ho, hr⟩ := hcut
      replace HO := Lib.hid ho; replace HR := Lib.hid hr; clear ho hr
      go_wp2_with fail
      refine (pick_any rb _ 2 (by omega) _ HR.out).mono ?_
      rintro e w3 ⟨u, rfl, hu, ho, hr⟩
      replace HO := Lib.hid (HO.out.trans ho); replace HR := Lib.hid hr; clear hu ho hr
      cases hub : ((u : Int) == 0) with
      | false =>
        go_wp2_with fail
        refine (pick_any rb _ 40 (by omega) _ HR.out).mono ?_
        rintro e w5 ⟨y, rfl, hy, ho, hr⟩
        replace HO := Lib.hid (HO.out.trans ho); replace HR := Lib.hid hr; clear ho hr
        have hy40 : y < 40 := by omega
        clear hy
        go_wp2_with fail
        refine (pick_any rb _ 50 (by omega) _ HR.out).mono ?_
        rintro e w6 ⟨v, rfl, hv, ho, hr⟩
        replace HO := Lib.hid (HO.out.trans ho); replace HR := Lib.hid hr; clear ho hr
        have hv50 : v < 50 := by omega
        clear hv
        go_wp2_with fail
        go_ret
        exact ⟨_, rfl, wrap64_I64 _, HO.out, HR.out.mono (by omega)⟩
      | true =>
        go_wp2_with fail
        refine (pick_any rb _ _ (by omega) _ HR.out).mono ?_
        rintro e w4 ⟨z, rfl, hz, ho, hr⟩
        replace HO := Lib.hid (HO.out.trans ho); replace HR := Lib.hid hr; clear hz ho hr
        go_wp2_with fail
        refine (pick_any rb _ 40 (by omega) _ HR.out).mono ?_
        rintro e w5 ⟨y, rfl, hy, ho, hr⟩
        replace HO := Lib.hid (HO.out.trans ho); replace HR := Lib.hid hr; clear ho hr
        have hy40 : y < 40 := by omega
        clear hy
        go_wp2_with fail
        refine (pick_any rb _ 50 (by omega) _ HR.out).mono ?_
        rintro e w6 ⟨v, rfl, hv, ho, hr⟩
        replace HO := Lib.hid (HO.out.trans ho); replace HR := Lib.hid hr; clear ho hr
        have hv50 : v < 50 := by omega
        clear hv
        go_wp2_with fail
        go_ret
        exact ⟨_, rfl, wrap64_I64 _, HO.out, HR.out.mono (by omega)⟩

/-- a ground and two things are drawn -/
def DrawnTwo8 (rb : Nat) (w : World) (e : Ending) (w' : World) : Prop :=
  ∃ (v : Value) (m : Nat) (x y : Int), e = .returned (.tuple #[v, .int .i64 x, .int .i64 y]) ∧ m ≤ 8 ∧ I64 x ∧ I64 y ∧ OwnI w' w.heap.size v m ∧ Only rb w w'

set_option maxHeartbeats 800000 in
theorem DrawBorderOf_any (a : Option Addr) (n cap : Nat) (w : World) (h : BytesIn w a n cap) :
    Calls Try.prog 39 #[.slice a n cap] w (DrawnPair w) := by
  have H := Lib.hid h; clear h
  go_enter Try.func39, Try.ntmps39
  go_wp2_with fail
  refine (open_any _ _ _ _ H.out).mono ?_
  rintro e w1 ⟨rfl, hb1, hr1⟩
  have HB1 := Lib.hid hb1; have HR1 := Lib.hid hr1; clear hb1 hr1
  go_wp2_with fail
  refine (ground_any _ 0 12 (by omega) (by omega) (by omega) _ HR1.out).mono ?_
  rintro e w2 ⟨v, m, rfl, hm, hown, ho, hr⟩
  obtain ⟨a2, c2, rfl⟩ := hown.slice
  have HOW := Lib.hid hown; have HO := Lib.hid ho; have HR := Lib.hid hr
  clear hown ho hr
  go_wp2_with fail
  refine (thing_any _ _ a2 m c2 hm (by omega) _ HR.out).mono ?_
  rintro e w3 ⟨x, rfl, hx, ho, hr⟩
  obtain ⟨a3, c3, f, hv, hi, _⟩ := (HOW.out.lift ho HR1.out.1).ints (by omega)
  have hb2 : Below w.heap.size w w3 := HB1.out.trans ((HO.out.trans ho).below (Nat.le_refl _) HB1.out.size)
  injection hv with hv1 hv2 hv3
  subst hv1
  subst hv3
  clear ho hr hv2
  go_wp2_with fail
  go_ret2
  exact ⟨_, m, _, f, x, rfl, hm, hx, hi, hb2⟩

end Go.Proofs.Ytacoeaoaabjkoaa
