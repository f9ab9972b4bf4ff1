import Derived.Test.YtidcfcjmjgcfkaaAtomsE
import Derived.Test.YtidcfcjmjgcfkaaSpecWholes
namespace Go.Proofs.Ytidcfcjmjgcfkaa
open Go.RowKit

theorem andI_comm (x y : Int) : andI x y = andI y x :=
  ext64 _ _ (andI_I64 _ _) (andI_I64 _ _) (fun i hi => by rw [and_bit _ _ _ hi, and_bit _ _ _ hi, Bool.and_comm])
theorem orI_comm (x y : Int) : orI x y = orI y x :=
  ext64 _ _ (orI_I64 _ _) (orI_I64 _ _) (fun i hi => by rw [or_bit _ _ _ hi, or_bit _ _ _ hi, Bool.or_comm])

end Go.Proofs.Ytidcfcjmjgcfkaa
