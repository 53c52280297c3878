import Derived.Test.YtcclepohmhdpbaaGreatDoorLists
import Derived.Deep.DeepCutAuto
namespace Go.Proofs.YtcclepohmhdpbaaGreatDoor
set_option linter.all false
open Go.RowKit Go.Deep
attribute[local go_sem↓]Go.wp_at_zero Go.wp_at_succ
theorem Inv.up{w0:World}{w w':World}{Wb:Nat}{l9 kC:Value}{mk:Int}{S:List SG}{O:List OG}{L:L3}{n:Nat}(h:Inv w0 w Wb l9 kC mk S O L n)(k:Up w w'):Inv w0 w' Wb l9 kC mk S O L n:=⟨jK.of_block h.nY (k.block _ (jK.lt h.nY)),lM h.ops k,lM h.Fj k,h.OI.of fun b hb=>k.block b (h.OI.lt b hb),h.nodup,fun s hs=>(h.sets s hs).keep (Fr.me (S:=fun _=>False) k) fun b _ hF=>⟨hF,fun e=>e⟩,fun o ho=>(h.outs o ho).keep (Fr.me (S:=fun _=>False) k) fun b _ hF=>⟨hF,fun e=>e⟩,h.bS,h.bO,h.Ul,h.AX,h.V7,h.base.trans k,h.low⟩
theorem Inv.more{w0:World}{w:World}{Wb:Nat}{l9 kC:Value}{mk:Int}{S:List SG}{O:List OG}{L:L3}{n:Nat}(h:Inv w0 w Wb l9 kC mk S O L n):Inv w0 w Wb l9 kC mk S O L (n+1):=⟨h.nY,h.ops,h.Fj,h.OI,h.nodup,h.sets,h.outs,by have:=h.bS;omega,by have:=h.bO;omega,h.Ul,by have:=h.AX;omega,by have:=h.V7;omega,h.base,h.low⟩
theorem tq:Elem Tryz.prog 30 32 (.agg #[.int .i64 0,.int .i64 0]) 2 16:=⟨FN,Ud,rfl,by omega,by omega⟩
theorem Tc{α:Type}{l:List α}(h:l≠[]):∃A x,l=A++[x]:=⟨l.dropLast,l.getLast h,(gI h).symm⟩
end Go.Proofs.YtcclepohmhdpbaaGreatDoor
namespace Go.Proofs.YtcclepohmhdpbaaGreatDoor
set_option linter.all false
open Go.RowKit Go.Deep
end Go.Proofs.YtcclepohmhdpbaaGreatDoor
