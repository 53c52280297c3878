/- THE DOCUMENT's NUMBERS: units. -/
import Derived.Test.YtcclepohmhdpbaaTuD
import Derived.Test.YtcclepohmhdpbaaHanded
import Derived.Test.YtcclepohmhdpbaaTxO
import Derived.Deep.DeepCutAuto
namespace Go.Proofs.Ytcclepohmhdpbaa
set_option linter.all false
open Go.RowKit Go.Deep
attribute [local go_sem ↓] Go.wp_at_zero Go.wp_at_succ


/-- What was scanned. -/
structure Scn (l : List UInt8) (w wr : World) (u : Value) (d : List Nat) (p : Int) (i : Nat) : Prop where
  own : wr.ownsRow w.heap.size 3 1 u d.length (Du.ints d)
  up : Up w wr
  scan : Du.scan l [] (-1) = Du.scan (l.drop i) d p
  len : d.length ≤ i
  dig : ∀ n ∈ d, n ≤ 9

end Go.Proofs.Ytcclepohmhdpbaa
