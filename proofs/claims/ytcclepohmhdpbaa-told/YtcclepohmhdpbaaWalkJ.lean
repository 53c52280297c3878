/- THE WALKS: (*handed).stands. -/
import Derived.Test.YtcclepohmhdpbaaHanded
namespace Go.Proofs.Ytcclepohmhdpbaa
set_option linter.all false
open Go.RowKit Go.Deep

end Go.Proofs.Ytcclepohmhdpbaa
