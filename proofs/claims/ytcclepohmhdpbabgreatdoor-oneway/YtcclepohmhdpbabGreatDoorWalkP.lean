import Derived.Test.YtcclepohmhdpbabGreatDoorLists
import Derived.Deep.DeepCutAuto
namespace Go.Proofs.YtcclepohmhdpbabGreatDoor
set_option linter.all false
open Go.RowKit Go.Deep
attribute [local go_sem ↓] Go.wp_at_zero Go.wp_at_succ
theorem el_pts : Elem Tryz.prog 46 48 (.agg #[.int .i64 0, .int .i64 0]) 2 16 := ⟨und_pts, info_pt, rfl, by omega, by omega⟩
end Go.Proofs.YtcclepohmhdpbabGreatDoor
