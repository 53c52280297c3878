import Derived.Test.YtcclepohmhdpbaaGreatDoorBgH
import Derived.Test.YtcclepohmhdpbaaGreatDoorGmO
import Derived.Test.YtcclepohmhdpbaaGreatDoorRfB
namespace Go.Proofs.YtcclepohmhdpbaaGreatDoor
set_option linter.all false
open Go.RowKit Go.Deep
attribute[local go_sem↓]Go.wp_at_zero Go.wp_at_succ
def Lo(p q:jk):Prop:=q.2<p.2∨(p.2=q.2∧q.1<p.1)
instance(p q:jk):Decidable (Lo p q):=by
 unfold Lo;infer_instance
theorem aih(v d k:Int):upB v d k true=decide (v<k*d):=by
 unfold upB;simp
theorem aii(v d k:Int):upB v d k false=decide (v<=k*d):=by
 unfold upB;rw[fF];simp only[di,bM,bC,Bool.not_false,and_true];omega
theorem adh(x:Int):Vd.sg x=0↔x=0:=by
 have:=Vd.Fa x;have:=Vd.A2 x;exact⟨fun h=>by omega,fun h=>by omega⟩
theorem JD{lx ly mx my x y d:Int}(hd:0<d)(hle:ly<my):Vd.has (lx,ly) (mx,my) (x,y) d↔Vd.sg (Vd.cr (lx,ly) (mx,my) (x,y) d)=0∧upB y d ly true=false∧upB y d my false=true:=by
 rw[aih,aii,adh,dr,decide_eq_true_iff];have m:ly*d<my*d:=gJ hle hd;constructor;{rintro⟨h0,-,h2⟩;simp only[Vd.lV]at h2;exact⟨h0,by omega,by omega⟩};·rintro⟨h0,h1,h2⟩;have h3:Vd.has (Vd.sc d (lx,ly)) (Vd.sc d (mx,my)) (x,y) 1:=(by refine Vd.pJ ?_ (Or.inl ⟨?_,?_,?_⟩);{rw[Vd.Q4,aZ,h0,bB]};{show d*ly<=y;rw[e7];omega};{show y<=d*my;rw[e7];omega};·show d*ly<d*my;rw[e7 d ly,e7 d my];exact m);have:=(Vd.mW hd (lx,ly) (mx,my) (x,y) 1).1 h3;rwa[aZ]at this
theorem H7{lx ly mx x y d:Int}(hd:0<d)(hle:lx<mx):Vd.has (lx,ly) (mx,ly) (x,y) d↔Vd.sg (Vd.cr (lx,ly) (mx,ly) (x,y) d)=0∧upB x d lx true=false∧upB x d mx false=true:=by
 rw[aih,aii,adh,dr,decide_eq_true_iff];have m:lx*d<mx*d:=gJ hle hd;have e:Vd.cr (lx,ly) (mx,ly) (x,y) d=(mx-lx)*(y-ly*d):=(by simp only[Vd.cr];grind);rw[e];unfold Vd.has;rw[e];simp only[Vd.lV];constructor;{rintro⟨h0,h1,h2⟩;exact⟨h0,by omega,by omega⟩};·rintro⟨h0,h1,h2⟩;refine⟨h0,by omega,?_⟩;rcases aK.1 h0 with g|g<;>omega
end Go.Proofs.YtcclepohmhdpbaaGreatDoor
