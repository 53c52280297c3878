/- THE WALKS: (*World).spoil. -/
import Derived.Test.YtcclepohmhdpbaaSpoil
import Derived.Deep.DeepCutAuto
namespace Go.Proofs.Ytcclepohmhdpbaa
set_option linter.all false
open Go.RowKit Go.Deep

end Go.Proofs.Ytcclepohmhdpbaa
