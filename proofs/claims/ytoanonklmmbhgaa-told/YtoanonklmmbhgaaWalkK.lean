/- THE WALKS: (*World).stands. -/
import Derived.Test.YtoanonklmmbhgaaWalkJ
namespace Go.Proofs.Ytoanonklmmbhgaa
set_option linter.all false
open Go.RowKit Go.Deep

end Go.Proofs.Ytoanonklmmbhgaa
