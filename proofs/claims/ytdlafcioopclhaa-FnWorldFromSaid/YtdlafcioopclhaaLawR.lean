import Derived.Test.YtdlafcioopclhaaClassS
import Derived.Test.YtdlafcioopclhaaSameX
namespace Go.Proofs.Ytdlafcioopclhaa
end Go.Proofs.Ytdlafcioopclhaa
