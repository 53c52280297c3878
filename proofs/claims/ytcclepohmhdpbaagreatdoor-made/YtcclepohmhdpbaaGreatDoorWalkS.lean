import Derived.Test.YtcclepohmhdpbaaGreatDoorWalkR
import Derived.Deep.DeepCutAuto
namespace Go.Proofs.YtcclepohmhdpbaaGreatDoor
set_option linter.all false
open Go.RowKit Go.Deep
attribute[local go_sem↓]Go.wp_at_zero Go.wp_at_succ
end Go.Proofs.YtcclepohmhdpbaaGreatDoor
