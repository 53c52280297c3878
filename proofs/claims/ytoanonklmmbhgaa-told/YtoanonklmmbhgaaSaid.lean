/- WHAT THE DOCUMENT's READER HOLDS. -/
import Derived.Test.YtoanonklmmbhgaaStr
import Derived.Test.YtoanonklmmbhgaaFrame
namespace Go.Proofs.Ytoanonklmmbhgaa
set_option linter.all false
open Go.RowKit Go.Deep

end Go.Proofs.Ytoanonklmmbhgaa
