import Derived.Test.YtcclepohmhdpbaaGreatDoorNoted
import Derived.Deep.DeepCutAuto
namespace Go.Proofs.YtcclepohmhdpbaaGreatDoor
set_option linter.all false
open Go.RowKit Go.Deep
attribute[local go_sem↓]Go.wp_at_zero Go.wp_at_succ
theorem Mv{fn:Func}{p:Tmp}{ty:TypeId}(h:fn.results=#[.cell p ty])(tmps:Array Value)(P:Program)(w:World):(results fn tmps).run P w=((asAddr (tmps.getD p undef)).run P w).andThen fun a w₁=>(loadVar ty a).run P w₁:=by
 simp only[results,h];simp[Sem.run_bind,Result.andThen]
end Go.Proofs.YtcclepohmhdpbaaGreatDoor
