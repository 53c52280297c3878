import Derived.Test.YtcclepohmhdpbaaGreatDoorWalkB
import Derived.Test.YtcclepohmhdpbaaGreatDoorWalkS
set_option maxHeartbeats 4000000
set_option maxRecDepth 100000
namespace Go.Proofs.YtcclepohmhdpbaaGreatDoor
set_option linter.all false
open Go.RowKit Go.Deep
theorem Inv.start(w:World):Inv w (w.alloc (.cells #[.slice none 0 0,.slice none 0 0,.slice none 0 0,.int .i64 0] 38)) w.heap.size (.slice none 0 0) (.slice none 0 0) 0 [] [] L3.nil 0:=⟨aD.new w [.slice none 0 0,.slice none 0 0,.slice none 0 0,.int .i64 0] _,World.ownsRow_nil _ _ _ _,World.ownsRow_nil _ _ _ _,⟨World.ownsRow_nil _ _ _ _,by simp[L3.nil]⟩,by simp[L3.bl,L3.nil,wV,Value.ownBlock],by simp,by simp,by simp,by simp,by omega,by omega,by simp[tot,L3.m,L3.nil,Pl.nR,Pl.nP],(Up.refl w).alloc _,by rintro b(e|e|e|e);{omega};{cases e};{cases e};·simp[L3.bl,L3.nil,wV,Value.ownBlock]at e⟩
theorem YN.up{w w':World}{v:Value}{P:List Aq}(h:YN w v P)(k:Up w w'):YN w' v P:=by
 obtain⟨ao,cap,e,h⟩:=h;exact⟨ao,cap,e,λi o ho=>by obtain⟨b,off,e1,q0,q1,q2,q3,q4⟩:=h i o ho;exact⟨b,off,e1,k.cell q0,k.cell q1,k.cell q2,k.cell q3,k.cell q4⟩⟩
def SA(P:List Aq)(e:Ending):Prop:=∃B:Bool,e=.returned (.bool B)/\(B=true->P.length<=1048576)
theorem SB(w:World)(v:Value)(P:List Aq)(hv:YN w v P)(hb:(P.length:Int)<=9223372036854775807):Calls Tryz.prog 21 #[v] w λe w'=>SA P e/\w'=w:=by
 obtain⟨ao,cap,rfl,hr⟩:=hv;have hr':=ag hr;clear hr;by_cases h20:(1048576:Int)<(P.length:Int);{go_enter Tryz.func21,Tryz.ntmps21;go_wp2;go_ret;exact⟨⟨false,rfl,λh=>by cases h⟩,rfl⟩};·go_enter Tryz.func21,Tryz.ntmps21;go_wp2;go_loop[3,4](λnv i=>∃(k:Nat)(x:Int),k<=P.length/\i=.int .i64 k/\nv=.int .i64 x)(λ_ i=>P.length-(intOf i).toNat);(case atStart=>exact⟨0,_,oE _,rfl,rfl⟩);case round=>obtain⟨k,x,hk,rfl,rfl⟩:=hrel;by_cases hlt:k<P.length;{obtain⟨o,ho⟩:=Pl.ai hlt;obtain⟨b,off,rfl,q0,q1,q2,q3,q4⟩:=hr'.out k o ho;clear q0 q1 q2 q3 ho;generalize o.s=s at*;by_cases hx:1048576<wrap64 (x+s.size);{go_wp2;go_ret;exact⟨⟨false,rfl,λh=>by cases h⟩,rfl⟩};·go_wp2;go_round;(case rel=>exact⟨k+1,_,by omega,by go_num,rfl⟩);case measure=>simp[intOf];omega};·have:k=P.length:=(by omega);subst this;go_wp2;go_ret;exact⟨⟨true,rfl,λ_=>by omega⟩,rfl⟩
theorem ahB:Elem Tryz.prog 22 46 (.agg #[.int .i64 0,.int .i64 0,.int .i64 0,.int .i64 0,.string ⟨#[]⟩]) 5 48:=⟨by kernel_rfl,by kernel_rfl,rfl,by omega,by omega⟩
theorem aaF{w:World}{base:Nat}{v:Value}{P:List Aq}(h:w.ownsRow base 46 5 v P.length (wQ P)):YN w v P:=by
 obtain⟨ao,cap,e⟩:=bE h;refine⟨ao,cap,e,λi o ho=>?_⟩;obtain⟨g,cap',e',hc⟩:=cE h (by have:=Pl.aE ho;omega);rw[e]at e';cases e';refine⟨g,0,rfl,?_,?_,?_,?_,?_⟩;{rw[SO];exact hc _ _ (qW P i o 0 _ ho rfl)};{rw[SO];exact hc _ _ (qW P i o 1 _ ho rfl)};{rw[SO];exact hc _ _ (qW P i o 2 _ ho rfl)};{rw[SO];exact hc _ _ (qW P i o 3 _ ho rfl)};·rw[SO];exact hc _ _ (qW P i o 4 _ ho rfl)
end Go.Proofs.YtcclepohmhdpbaaGreatDoor
