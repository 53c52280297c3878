/- Known: sets(), walked. -/
import Derived.Test.YtcclepohmhdpbabGreatKnC
namespace Go.Proofs.YtcclepohmhdpbabGreat
set_option linter.all false
open Go.RowKit Go.Deep
set_option maxRecDepth 100000 in
set_option maxHeartbeats 16000000 in
theorem sets_any (w : World) : Calls Tryz.prog 5 #[] w (Kn.SetsP w) := by
  have HP := hide (Kn.sets_post w)
  go_enter Tryz.func5, Tryz.ntmps5
  go_wp2
  go_ret
  exact Eq.mp (by kernel_rfl) HP.out
end Go.Proofs.YtcclepohmhdpbabGreat
