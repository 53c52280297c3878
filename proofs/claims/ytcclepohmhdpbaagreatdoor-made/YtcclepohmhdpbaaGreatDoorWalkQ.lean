import Derived.Test.YtcclepohmhdpbaaGreatDoorLists
import Derived.Deep.DeepCutAuto
namespace Go.Proofs.YtcclepohmhdpbaaGreatDoor
set_option linter.all false
open Go.RowKit Go.Deep
attribute[local go_sem↓]Go.wp_at_zero Go.wp_at_succ
theorem Inv.up{w0:World}{w w':World}{Wb:Nat}{k9 jT:Value}{mk:Int}{S:List SG}{O:List OG}{L:L3}{n:Nat}(h:Inv w0 w Wb k9 jT mk S O L n)(k:Up w w'):Inv w0 w' Wb k9 jT mk S O L n:=⟨jr.of_block h.mJ (k.block _ (jr.lt h.mJ)),kL h.ops k,kL h.DX k,h.MS.of fun b hb=>k.block b (h.MS.lt b hb),h.nodup,fun s hs=>(h.sets s hs).keep (Fr.lp (S:=fun _=>False) k) fun b _ hF=>⟨hF,fun e=>e⟩,fun o ho=>(h.outs o ho).keep (Fr.lp (S:=fun _=>False) k) fun b _ hF=>⟨hF,fun e=>e⟩,h.bS,h.bO,h.Sk,h.zo,h.Ue,h.base.trans k,h.low⟩
theorem Inv.more{w0:World}{w:World}{Wb:Nat}{k9 jT:Value}{mk:Int}{S:List SG}{O:List OG}{L:L3}{n:Nat}(h:Inv w0 w Wb k9 jT mk S O L n):Inv w0 w Wb k9 jT mk S O L (n+1):=⟨h.mJ,h.ops,h.DX,h.MS,h.nodup,h.sets,h.outs,by have:=h.bS;omega,by have:=h.bO;omega,h.Sk,by have:=h.zo;omega,by have:=h.Ue;omega,h.base,h.low⟩
theorem rL:Elem Tryz.prog 30 32 (.agg #[.int .i64 0,.int .i64 0]) 2 16:=⟨Eu,Sc,rfl,by omega,by omega⟩
theorem abq{α:Type}{l:List α}(h:l≠[]):∃A x,l=A++[x]:=⟨l.dropLast,l.getLast h,(List.dropLast_concat_getLast h).symm⟩
end Go.Proofs.YtcclepohmhdpbaaGreatDoor
namespace Go.Proofs.YtcclepohmhdpbaaGreatDoor
set_option linter.all false
open Go.RowKit Go.Deep
end Go.Proofs.YtcclepohmhdpbaaGreatDoor
