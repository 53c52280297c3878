/- THE ROW AND THE CARD OF Canons. -/
import Derived.Test.YtcclepohmhdpbaaGreatDoorCaP
namespace Go.Proofs.YtcclepohmhdpbaaGreatDoor
set_option linter.all false
open Go.ChangeShapes Go.WideShapes Go.ChangeAt Go.RowKit Go.Deep

theorem ca_named : Tryz.prog.funcNamed Rows.canonsRow.func = some 8 := by kernel_rfl
theorem canons_said : Rows.CanonsSaid :=
  OpenClaim.holds_of_cond 8 Tryz.f8 rfl rfl rfl rfl rfl rfl rfl ⟨rfl, rfl, rfl, rfl, rfl⟩ rfl rfl rfl rfl rfl ca_named Tryz.func8 ca_closed
    (of_decide_eq_true (by kernel_rfl)) (by unfold Func.isWrapper; first | (rw [if_pos (by decide +kernel)]; kernel_rfl) | (rw [if_neg (by decide +kernel)]; exact ⟨rfl, rfl⟩))
    (fun os started H enc _ F => by rw [OpenClaim.pre_eq_preRow]; exact canons_lifted os started H enc F)

theorem canons_plain (f : FuncId) (fn : Func) (hf : Tryz.pinned.checked.prog.funcNamed "polygons/polygonslaw.Canons" = some f) (hfn : Tryz.pinned.checked.prog.funcs[f]? = some fn) :
    false = Tryz.pinned.checked.prog.looks [] ∧ ∀ (j : Nat) t, fn.params[j]? = some t → Tryz.pinned.checked.prog.wantsStandIn t = false := by
  obtain rfl : f = 8 := Option.some.inj ((show Tryz.prog.funcNamed "polygons/polygonslaw.Canons" = some 8 by kernel_rfl).symm.trans hf) |>.symm
  obtain rfl : fn = Tryz.f8 := (Option.some.inj (Tryz.func8.symm.trans hfn)).symm
  refine ⟨by kernel_rfl, fun j t ht => ?_⟩
  rw [Tryz.params8] at ht
  obtain rfl : t = 22 := by simpa using Array.mem_of_getElem? ht
  exact (show Tryz.prog.wantsStandIn 22 = false by kernel_rfl)

theorem canons_card : Rows.CanonsCardSaid :=
  Claim7.holds_tied_plain_at .later [] _ _ _ _ canons_said (fun _ h => by cases h) (by kernel_rfl) (fun _ h => by cases h) canons_row_tie rfl ⟨rfl, rfl⟩ (by kernel_rfl) rfl canons_plain (by kernel_rfl)
#print axioms canons_card

end Go.Proofs.YtcclepohmhdpbaaGreatDoor
