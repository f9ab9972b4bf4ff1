import Derived.Test.YtacoeaoaabjkoaaGrdD
import Derived.Test.YtacoeaoaabjkoaaGrdS
import Derived.Test.YtacoeaoaabjkoaaBaseB
namespace Go.Proofs.Ytacoeaoaabjkoaa
open Go.RowKit

theorem i64_lit {n : Int} (h : (Lit.int .i64 n).wf = true) : Hid (I64 n) := by
  apply Lib.hid
  unfold I64
  simp [Lit.wf, IntKind.min, IntKind.max, IntKind.bits, IntKind.signed] at h
  exact h

end Go.Proofs.Ytacoeaoaabjkoaa
