import Derived.Test.YtdlafcioopclhaaDoorClassN
namespace Go.Proofs.YtdlafcioopclhaaDoor
open Go.RowKit Go.Maps

end Go.Proofs.YtdlafcioopclhaaDoor
