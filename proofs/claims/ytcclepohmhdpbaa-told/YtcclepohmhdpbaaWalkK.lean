/- THE WALKS: (*World).stands. -/
import Derived.Test.YtcclepohmhdpbaaWalkJ
namespace Go.Proofs.Ytcclepohmhdpbaa
set_option linter.all false
open Go.RowKit Go.Deep

end Go.Proofs.Ytcclepohmhdpbaa
