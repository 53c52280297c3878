/- Told: list(), walked. -/
import Derived.Test.YtcclepohmhdpbaaTlB
namespace Go.Proofs.Ytcclepohmhdpbaa
set_option linter.all false
open Go.RowKit Go.Deep
set_option maxRecDepth 100000 in
set_option maxHeartbeats 8000000 in
theorem list_any (w : World) : Calls Try.prog 5 #[] w (LP w) := by
  have HP := hide (list_post w)
  go_enter Try.func5, Try.ntmps5
  go_wp2
  rename_i hk
  refine list_build _ rfl (by kernel_rfl) (hk _ _ ?_)
  go_wp2
  go_ret
  exact HP.out
end Go.Proofs.Ytcclepohmhdpbaa
