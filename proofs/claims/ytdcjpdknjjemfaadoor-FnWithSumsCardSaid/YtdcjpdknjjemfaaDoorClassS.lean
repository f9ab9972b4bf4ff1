import Derived.Test.YtdcjpdknjjemfaaDoorClassN
namespace Go.Proofs.YtdcjpdknjjemfaaDoor
open Go.RowKit Go.Maps

end Go.Proofs.YtdcjpdknjjemfaaDoor
