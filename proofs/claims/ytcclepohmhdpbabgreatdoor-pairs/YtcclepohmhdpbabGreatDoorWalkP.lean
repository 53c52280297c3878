/- THE WALKS: (*World).point. -/
import Derived.Test.YtcclepohmhdpbabGreatDoorLists
import Derived.Deep.DeepCutAuto
namespace Go.Proofs.YtcclepohmhdpbabGreatDoor
set_option linter.all false
open Go.RowKit Go.Deep
attribute [local go_sem ↓] Go.wp_at_zero Go.wp_at_succ

theorem el_pts : Elem Tryz.prog 46 48 (.agg #[.int .i64 0, .int .i64 0]) 2 16 := ⟨und_pts, info_pt, rfl, by omega, by omega⟩

theorem snoc_of {α : Type} {l : List α} (h : l ≠ []) : ∃ A x, l = A ++ [x] := ⟨l.dropLast, l.getLast h, (List.dropLast_concat_getLast h).symm⟩

end Go.Proofs.YtcclepohmhdpbabGreatDoor
