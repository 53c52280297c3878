import Derived.Test.YtcclepohmhdpbaaGreatDoorWalkB
import Derived.Test.YtcclepohmhdpbaaGreatDoorWalkS
set_option maxHeartbeats 4000000
set_option maxRecDepth 100000
namespace Go.Proofs.YtcclepohmhdpbaaGreatDoor
set_option linter.all false
open Go.RowKit Go.Deep
theorem Inv.start(w:World):Inv w (w.alloc (.cells #[.slice none 0 0,.slice none 0 0,.slice none 0 0,.int .i64 0] 38)) w.heap.size (.slice none 0 0) (.slice none 0 0) 0 [] [] L3.nil 0:=⟨jV.new w [.slice none 0 0,.slice none 0 0,.slice none 0 0,.int .i64 0] _,World.ownsRow_nil _ _ _ _,World.ownsRow_nil _ _ _ _,⟨World.ownsRow_nil _ _ _ _,by simp[L3.nil]⟩,by simp[L3.bl,L3.nil,Cj,Value.ownBlock],by simp,by simp,by simp,by simp,by omega,by omega,by simp[tot,L3.m,L3.nil,Pl.nR,Pl.nP],(Up.refl w).alloc _,by rintro b(e|e|e|e);{omega};{cases e};{cases e};·simp[L3.bl,L3.nil,Cj,Value.ownBlock]at e⟩
theorem RdP.up{w w':World}{v:Value}{P:List Fl}(h:RdP w v P)(k:Up w w'):RdP w' v P:=by
 obtain⟨ao,cap,e,h⟩:=h;exact⟨ao,cap,e,fun i o ho=>by obtain⟨b,off,e1,q0,q1,q2,q3,q4⟩:=h i o ho;exact⟨b,off,e1,k.cell q0,k.cell q1,k.cell q2,k.cell q3,k.cell q4⟩⟩
def WO(P:List Fl)(e:Ending):Prop:=∃B:Bool,e=.returned (.bool B)∧(B=true->P.length<=1048576)
theorem WQ(w:World)(v:Value)(P:List Fl)(hv:RdP w v P)(hb:(P.length:Int)<=9223372036854775807):Calls Tryz.prog 21 #[v] w fun e w'=>WO P e∧w'=w:=by
 obtain⟨ao,cap,rfl,hr⟩:=hv;have hr':=jO hr;clear hr;by_cases h20:(1048576:Int)<(P.length:Int);{go_enter Tryz.func21,Tryz.ntmps21;go_wp2;go_ret;exact⟨⟨false,rfl,fun h=>by cases h⟩,rfl⟩};·go_enter Tryz.func21,Tryz.ntmps21;go_wp2;go_loop[3,4](fun nv i=>∃(k:Nat)(x:Int),k<=P.length∧i=.int .i64 k∧nv=.int .i64 x)(fun _ i=>P.length-(intOf i).toNat);(case atStart=>exact⟨0,_,aD _,rfl,rfl⟩);case round=>obtain⟨k,x,hk,rfl,rfl⟩:=hrel;by_cases hlt:k<P.length;{obtain⟨o,ho⟩:=Pl.jQ hlt;obtain⟨b,off,rfl,q0,q1,q2,q3,q4⟩:=hr'.out k o ho;clear q0 q1 q2 q3 ho;generalize o.s=s at*;by_cases hx:1048576<wrap64 (x+s.size);{go_wp2;go_ret;exact⟨⟨false,rfl,fun h=>by cases h⟩,rfl⟩};·go_wp2;go_round;(case rel=>exact⟨k+1,_,by omega,by go_num,rfl⟩);case measure=>simp[intOf];omega};·have:k=P.length:=(by omega);subst this;go_wp2;go_ret;exact⟨⟨true,rfl,fun _=>by omega⟩,rfl⟩
theorem alb:Elem Tryz.prog 22 46 (.agg #[.int .i64 0,.int .i64 0,.int .i64 0,.int .i64 0,.string ⟨#[]⟩]) 5 48:=⟨by kernel_rfl,by kernel_rfl,rfl,by omega,by omega⟩
theorem aep{w:World}{base:Nat}{v:Value}{P:List Fl}(h:w.ownsRow base 46 5 v P.length (Cc P)):RdP w v P:=by
 obtain⟨ao,cap,e⟩:=kO h;refine⟨ao,cap,e,fun i o ho=>?_⟩;obtain⟨g,cap',e',hc⟩:=lI h (by have:=Pl.jW ho;omega);rw[e]at e';cases e';refine⟨g,0,rfl,?_,?_,?_,?_,?_⟩;{rw[bZ];exact hc _ _ (yl P i o 0 _ ho rfl)};{rw[bZ];exact hc _ _ (yl P i o 1 _ ho rfl)};{rw[bZ];exact hc _ _ (yl P i o 2 _ ho rfl)};{rw[bZ];exact hc _ _ (yl P i o 3 _ ho rfl)};·rw[bZ];exact hc _ _ (yl P i o 4 _ ho rfl)
end Go.Proofs.YtcclepohmhdpbaaGreatDoor
