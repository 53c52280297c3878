/- THE DOCUMENT's READER OF TEXTS: signs. -/
import Derived.Test.YtcclepohmhdpbaaTxG
import Derived.Test.YtcclepohmhdpbaaTxC
namespace Go.Proofs.Ytcclepohmhdpbaa
set_option linter.all false
open Go.RowKit Go.Deep

namespace Tx
theorem pre_nil (c : UInt8) : pre [c] [] = false := rfl
theorem pre_cons (c a : UInt8) (r : List UInt8) : pre [c] (a :: r) = ((a.toNat : Int) == (c.toNat : Int)) := by
  rw [Bool.eq_iff_iff]
  simp [pre]
  constructor
  · intro h; rw [h]
  · intro h; exact UInt8.toNat_inj.1 (by omega)
end Tx

namespace Tx
def fin (t : List UInt8) (bad wide : Bool) : Int := if bad || !t.isEmpty then 3 else if wide then 4 else 0
end Tx

end Go.Proofs.Ytcclepohmhdpbaa
