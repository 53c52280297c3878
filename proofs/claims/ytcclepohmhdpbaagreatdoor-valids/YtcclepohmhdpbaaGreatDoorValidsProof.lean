/- THE ROW AND THE CARD OF Valids. -/
import Derived.Test.YtcclepohmhdpbaaGreatDoorVlP
namespace Go.Proofs.YtcclepohmhdpbaaGreatDoor
set_option linter.all false
open Go.ChangeShapes Go.WideShapes Go.ChangeAt Go.RowKit Go.Deep

theorem vl_named : Tryz.prog.funcNamed Rows.validsRow.func = some 7 := by kernel_rfl
theorem valids_said : Rows.ValidsSaid :=
  OpenClaim.holds_of_cond 7 Tryz.f7 rfl rfl rfl rfl rfl rfl rfl ⟨rfl, rfl, rfl, rfl, rfl⟩ rfl rfl rfl rfl rfl vl_named Tryz.func7 vl_closed
    (of_decide_eq_true (by kernel_rfl)) (by unfold Func.isWrapper; first | (rw [if_pos (by decide +kernel)]; kernel_rfl) | (rw [if_neg (by decide +kernel)]; exact ⟨rfl, rfl⟩))
    (fun os started H enc _ F => by rw [OpenClaim.pre_eq_preRow]; exact valids_lifted os started H enc F)

theorem valids_plain (f : FuncId) (fn : Func) (hf : Tryz.pinned.checked.prog.funcNamed "polygons/polygonslaw.Valids" = some f) (hfn : Tryz.pinned.checked.prog.funcs[f]? = some fn) :
    false = Tryz.pinned.checked.prog.looks [] ∧ ∀ (j : Nat) t, fn.params[j]? = some t → Tryz.pinned.checked.prog.wantsStandIn t = false := by
  obtain rfl : f = 7 := Option.some.inj ((show Tryz.prog.funcNamed "polygons/polygonslaw.Valids" = some 7 by kernel_rfl).symm.trans hf) |>.symm
  obtain rfl : fn = Tryz.f7 := (Option.some.inj (Tryz.func7.symm.trans hfn)).symm
  refine ⟨by kernel_rfl, fun j t ht => ?_⟩
  rw [Tryz.params7] at ht
  obtain rfl : t = 22 := by simpa using Array.mem_of_getElem? ht
  exact (show Tryz.prog.wantsStandIn 22 = false by kernel_rfl)

theorem valids_card : Rows.ValidsCardSaid :=
  Claim7.holds_tied_plain_at .later [] _ _ _ _ valids_said (fun _ h => by cases h) (by kernel_rfl) (fun _ h => by cases h) valids_row_tie rfl ⟨rfl, rfl⟩ (by kernel_rfl) rfl valids_plain (by kernel_rfl)
#print axioms valids_card

end Go.Proofs.YtcclepohmhdpbaaGreatDoor
