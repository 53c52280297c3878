import Derived.Test.YtcclepohmhdpbaaGreatDoorBgH
import Derived.Test.YtcclepohmhdpbaaGreatDoorGmJ
import Derived.Test.YtcclepohmhdpbaaGreatDoorRfB
namespace Go.Proofs.YtcclepohmhdpbaaGreatDoor
set_option linter.all false
open Go.RowKit Go.Deep
attribute[local go_sem↓]Go.wp_at_zero Go.wp_at_succ
def Lo(p q:jE):Prop:=q.2<p.2∨(p.2=q.2∧q.1<p.1)
instance(p q:jE):Decidable (Lo p q):=by
 unfold Lo;infer_instance
theorem akN(v d k:Int):upB v d k true=decide (v<k*d):=by
 unfold upB;simp
theorem akO(v d k:Int):upB v d k false=decide (v<=k*d):=by
 unfold upB;rw[fe];simp only[di,bT,bF,Bool.not_false,and_true];omega
theorem afg(x:Int):Vd.sg x=0↔x=0:=by
 have:=Vd.zl x;have:=Vd.xk x;exact⟨fun h=>by omega,fun h=>by omega⟩
theorem Lf{lx ly mx my x y d:Int}(hd:0<d)(hle:ly<my):Vd.has (lx,ly) (mx,my) (x,y) d↔Vd.sg (Vd.cr (lx,ly) (mx,my) (x,y) d)=0∧upB y d ly true=false∧upB y d my false=true:=by
 rw[akN,akO,afg,dr,iJ];have m:ly*d<my*d:=gW hle hd;constructor;{rintro⟨h0,-,h2⟩;simp only[Vd.mP]at h2;exact⟨h0,by omega,by omega⟩};·rintro⟨h0,h1,h2⟩;have h3:Vd.has (Vd.sc d (lx,ly)) (Vd.sc d (mx,my)) (x,y) 1:=(by refine Vd.qE ?_ (dS ⟨?_,?_,?_⟩);{rw[Vd.M9,aV,h0,bD]};{show d*ly<=y;rw[dJ];omega};{show y<=d*my;rw[dJ];omega};·show d*ly<d*my;rw[dJ d ly,dJ d my];exact m);have:=(Vd.nT hd (lx,ly) (mx,my) (x,y) 1).1 h3;rwa[aV]at this
theorem JC{lx ly mx x y d:Int}(hd:0<d)(hle:lx<mx):Vd.has (lx,ly) (mx,ly) (x,y) d↔Vd.sg (Vd.cr (lx,ly) (mx,ly) (x,y) d)=0∧upB x d lx true=false∧upB x d mx false=true:=by
 rw[akN,akO,afg,dr,iJ];have m:lx*d<mx*d:=gW hle hd;have e:Vd.cr (lx,ly) (mx,ly) (x,y) d=(mx-lx)*(y-ly*d):=(by simp only[Vd.cr];grind);rw[e];unfold Vd.has;rw[e];simp only[Vd.mP];constructor;{rintro⟨h0,h1,h2⟩;exact⟨h0,by omega,by omega⟩};·rintro⟨h0,h1,h2⟩;refine⟨h0,by omega,?_⟩;rcases aL.1 h0 with g|g<;>omega
end Go.Proofs.YtcclepohmhdpbaaGreatDoor
