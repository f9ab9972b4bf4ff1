import Derived.Test.YtidcfcjmjgcfkaaAtomsB
import Derived.Test.YtidcfcjmjgcfkaaEach
namespace Go.Proofs.Ytidcfcjmjgcfkaa
open Go.RowKit


set_option maxHeartbeats 800000 in
theorem worldWith_nil (a : Option Addr) (n cap : Nat) (f : Nat → Int) (w : World) (hi : Ints w a n f) :
    Calls Try.prog 46 #[.slice a n cap, .slice none 0 0] w fun e w' => WithEnd n f 0 (one 0) w e w' := by
  have hn := hi.1.1
  have hno : insB n 0 (one 0) = true := decide_eq_true (fun i hi => absurd hi (Nat.not_lt_zero _))
  have HNO := Lib.hid hno; clear hno
  go_enter Try.func46, Try.ntmps46
  go_wp2_with fail
  refine (worldOf_end a n cap f w hi).mono ?_
  rintro e w' ⟨hbel, ⟨hb, rfl, hs, hr⟩ | ⟨hb, rfl⟩⟩
  · have HB := Lib.hid hb; clear hb
    go_wp2_with fail
    go_loopw [19] (fun i wr => i = .int .i64 0 ∧ wr = w') (fun i _ => 0)
    case atStart => exact ⟨rfl, rfl⟩
    case round =>
      obtain ⟨rfl, rfl⟩ := hrel
      go_wp2_with fail
      go_ret2
      exact ⟨hbel, .inl ⟨by rw [HB.out, HNO.out]; rfl, rfl, hs, hr⟩⟩
  · have hfin : (worldB n f && insB n 0 (one 0)) = false := by rw [hb]; rfl
    have HF := Lib.hid hfin; clear hfin hb
    go_wp2_with fail
    go_ret2
    exact ⟨hbel, .inr ⟨HF.out, rfl⟩⟩
end Go.Proofs.Ytidcfcjmjgcfkaa
