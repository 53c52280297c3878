/- THE WALKS: (*World).spoil. -/
import Derived.Test.YtcclepohmhdpbabNoted
import Derived.Deep.DeepCutAuto
namespace Go.Proofs.Ytcclepohmhdpbab
set_option linter.all false
open Go.RowKit Go.Deep

end Go.Proofs.Ytcclepohmhdpbab
