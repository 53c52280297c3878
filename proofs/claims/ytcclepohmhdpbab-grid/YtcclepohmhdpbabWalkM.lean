/- THE WALKS: (*World).keep, made. -/
import Derived.Test.YtcclepohmhdpbabInv
import Derived.Test.YtcclepohmhdpbabWalkD
namespace Go.Proofs.Ytcclepohmhdpbab
set_option linter.all false
open Go.RowKit Go.Deep

end Go.Proofs.Ytcclepohmhdpbab
