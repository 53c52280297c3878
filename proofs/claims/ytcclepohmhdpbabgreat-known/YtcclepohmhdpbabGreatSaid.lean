import Derived.Test.YtcclepohmhdpbabGreatTuAB
import Derived.Test.YtcclepohmhdpbabGreatStr
import Derived.Test.YtcclepohmhdpbabGreatAppend
/- THE DOCUMENT's NUMBERS: units, with an exponent (C). -/
namespace Go.Proofs.YtcclepohmhdpbabGreat
set_option linter.all false
open Go.RowKit Go.Deep
attribute [local go_sem ↓] Go.wp_at_zero Go.wp_at_succ

end Go.Proofs.YtcclepohmhdpbabGreat

/- WHAT THE DOCUMENT's READER HOLDS. -/
namespace Go.Proofs.YtcclepohmhdpbabGreat
set_option linter.all false
open Go.RowKit Go.Deep

end Go.Proofs.YtcclepohmhdpbabGreat
