import Derived.Test.YtcclepohmhdpbaaGreatDoorSpP
namespace Go.Proofs.YtcclepohmhdpbaaGreatDoor
set_option linter.all false
open Go.ChangeShapes Go.WideShapes Go.ChangeAt Go.RowKit Go.Deep
theorem acy:Tryz.prog.funcNamed Rows.partsRow.func=some 10:=by kernel_rfl
theorem TB:Rows.PartsSaid:=OpenClaim.holds_of_cond 10 Tryz.f10 rfl rfl rfl rfl rfl rfl rfl ⟨rfl,rfl,rfl,rfl,rfl⟩ rfl rfl rfl rfl rfl acy Tryz.func10 Yd (bD (by kernel_rfl)) (by unfold Func.isWrapper;first|(rw[aB (by decide+kernel)];kernel_rfl)|(rw[ah (by decide+kernel)];exact⟨rfl,rfl⟩)) (fun os started H enc _ F=>by rw[OpenClaim.pre_eq_preRow];exact Nd os started H enc F)
theorem Qs(f:FuncId)(fn:Func)(hf:Tryz.pinned.checked.prog.funcNamed "polygons/polygonslaw.Parts" =some f)(hfn:Tryz.pinned.checked.prog.funcs[f]?=some fn):false=Tryz.pinned.checked.prog.looks []∧∀(j:Nat)t,fn.params[j]?=some t->Tryz.pinned.checked.prog.wantsStandIn t=false:=by
 obtain rfl:f=10:=aY ((show Tryz.prog.funcNamed "polygons/polygonslaw.Parts" =some 10 by kernel_rfl).symm.trans hf)|>.symm;obtain rfl:fn=Tryz.f10:=(aY (Tryz.func10.symm.trans hfn)).symm;refine⟨by kernel_rfl,fun j t ht=>?_⟩;rw[Tryz.params10]at ht;obtain rfl:t=22:=(by simpa using Array.mem_of_getElem? ht);exact(show Tryz.prog.wantsStandIn 22=false by kernel_rfl)
theorem parts_card:Rows.PartsCardSaid:=Claim7.holds_tied_plain_at .later [] _ _ _ _ TB (fun _ h=>by cases h) (by kernel_rfl) (fun _ h=>by cases h) parts_row_tie rfl ⟨rfl,rfl⟩ (by kernel_rfl) rfl Qs (by kernel_rfl)
end Go.Proofs.YtcclepohmhdpbaaGreatDoor
