/- THE WALKS: (*World).spoil. -/
import Derived.Test.YtoanonklmmbhgaaSpoil
import Derived.Deep.DeepCutAuto
namespace Go.Proofs.Ytoanonklmmbhgaa
set_option linter.all false
open Go.RowKit Go.Deep

end Go.Proofs.Ytoanonklmmbhgaa
