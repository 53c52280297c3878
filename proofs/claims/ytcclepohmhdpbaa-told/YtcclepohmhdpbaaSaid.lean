/- WHAT THE DOCUMENT's READER HOLDS. -/
import Derived.Test.YtcclepohmhdpbaaStr
import Derived.Test.YtcclepohmhdpbaaFrame
namespace Go.Proofs.Ytcclepohmhdpbaa
set_option linter.all false
open Go.RowKit Go.Deep

end Go.Proofs.Ytcclepohmhdpbaa
