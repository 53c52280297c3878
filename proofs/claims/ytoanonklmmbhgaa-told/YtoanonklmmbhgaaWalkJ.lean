/- THE WALKS: (*handed).stands. -/
import Derived.Test.YtoanonklmmbhgaaHanded
namespace Go.Proofs.Ytoanonklmmbhgaa
set_option linter.all false
open Go.RowKit Go.Deep

end Go.Proofs.Ytoanonklmmbhgaa
