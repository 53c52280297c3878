import Derived.Test.YtcclepohmhdpbaaGreatDoorSpP
namespace Go.Proofs.YtcclepohmhdpbaaGreatDoor
set_option linter.all false
open Go.ChangeShapes Go.WideShapes Go.ChangeAt Go.RowKit Go.Deep
theorem YF:Tryz.prog.funcNamed Rows.partsRow.func=some 10:=by kernel_rfl
theorem OH:Rows.PartsSaid:=OpenClaim.holds_of_cond 10 Tryz.f10 rfl rfl rfl rfl rfl rfl rfl ⟨rfl,rfl,rfl,rfl,rfl⟩ rfl rfl rfl rfl rfl YF Tryz.func10 TV (IT (by kernel_rfl)) (by unfold Func.isWrapper;first|(rw[mu (by decide+kernel)];kernel_rfl)|(rw[ef (by decide+kernel)];exact⟨rfl,rfl⟩)) (λos started H enc _ F=>by rw[OpenClaim.pre_eq_preRow];exact IQ os started H enc F)
theorem L4(f:FuncId)(fn:Func)(hf:Tryz.pinned.checked.prog.funcNamed "polygons/polygonslaw.Parts" =some f)(hfn:Tryz.pinned.checked.prog.funcs[f]?=some fn):false=Tryz.pinned.checked.prog.looks []/\∀(j:Nat)t,fn.params[j]?=some t->Tryz.pinned.checked.prog.wantsStandIn t=false:=by
 obtain rfl:f=10:=DP ((show Tryz.prog.funcNamed "polygons/polygonslaw.Parts" =some 10 by kernel_rfl).symm.trans hf)|>.symm;obtain rfl:fn=Tryz.f10:=(DP (Tryz.func10.symm.trans hfn)).symm;refine⟨by kernel_rfl,λj t ht=>?_⟩;rw[Tryz.params10]at ht;obtain rfl:t=22:=(by simpa using Array.mem_of_getElem? ht);exact(show Tryz.prog.wantsStandIn 22=false by kernel_rfl)
theorem parts_card:Rows.PartsCardSaid:=Claim7.holds_tied_plain_at .later [] _ _ _ _ OH (λ_ h=>by cases h) (by kernel_rfl) (λ_ h=>by cases h) parts_row_tie rfl ⟨rfl,rfl⟩ (by kernel_rfl) rfl L4 (by kernel_rfl)
end Go.Proofs.YtcclepohmhdpbaaGreatDoor
