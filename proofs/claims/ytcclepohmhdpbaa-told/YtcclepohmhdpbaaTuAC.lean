/- THE DOCUMENT's NUMBERS: units, with an exponent (C). -/
import Derived.Test.YtcclepohmhdpbaaTuA
namespace Go.Proofs.Ytcclepohmhdpbaa
set_option linter.all false
open Go.RowKit Go.Deep
attribute [local go_sem ↓] Go.wp_at_zero Go.wp_at_succ

end Go.Proofs.Ytcclepohmhdpbaa
