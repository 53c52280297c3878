import Derived.Test.YtcclepohmhdpbaaGreatDoorProg
import Derived.Test.YtcclepohmhdpbaaGreatDoorWalkC
import Derived.Test.YtcclepohmhdpbaaGreatDoorGfC
import Derived.WalkLawsBesides
import Derived.Deep.QuietTactic
import Derived.BigQuiet
set_option maxHeartbeats 2000000
namespace Go.Proofs.YtcclepohmhdpbaaGreatDoor
set_option linter.all false
open Go.RowKit Go.Deep
def lZ(p:jk):Value:=.agg #[.int .i64 p.1,.int .i64 p.2]
def nK(s:Vd.jK):Value:=.agg #[.int .i64 s.1.1,.int .i64 s.1.2,.int .i64 s.2.1,.int .i64 s.2.2]
def kT(p:Vd.jC):Value:=.agg #[.int .i64 p.1.1,.int .i64 p.1.2,.int .i64 p.2]
theorem AE{x:Int}(h1:-9223372036854775808<=x)(h2:x<=9223372036854775807):wrap64 x=x:=by
 unfold wrap64;omega
theorem jW{a b A B:Int}(h1:-A<=a)(h2:a<=A)(h3:-B<=b)(h4:b<=B):-(A*B)<=a*b∧a*b<=A*B:=by
 have hA:0<=A:=(by omega);have hB:0<=B:=(by omega);have k1:a*b<=A*B:=(by rcases dG 0 b with h|h;{exact iU (b8 h2 h) (bD h4 hA)};·have e:a*b=(-a)*(-b):=(by grind);rw[e];exact iU (b8 (show-a<=A by omega) (by omega)) (bD (show-b<=B by omega) hA));have k2:-(A*B)<=a*b:=(by have:(-a)*b<=A*B:=(by rcases dG 0 b with h|h;{exact iU (b8 (show-a<=A by omega) h) (bD h4 hA)};·have e:(-a)*b=a*(-b):=(by grind);rw[e];exact iU (b8 h2 (by omega)) (bD (show-b<=B by omega) hA));have e:(-a)*b=-(a*b):=(by grind);omega);exact⟨k2,k1⟩
theorem Yp{fn:Func}{p:Tmp}{ty:TypeId}(h:fn.results=#[.cell p ty])(tmps:Array Value)(P:Program)(w:World):(results fn tmps).run P w=((asAddr (tmps.getD p undef)).run P w).andThen fun a w₁=>(loadVar ty a).run P w₁:=by
 simp only[results,h];simp[Sem.run_bind,Result.andThen]
theorem Yq{W:World}{b:Nat}{v0 v1:Value}(h:jr W b 32 [v0,v1]):(loadVar 32 ⟨b,0,none⟩).run Tryz.prog W=.ok (.agg #[v0,v1]) W:=by
 have c0:=h.cell (i:=0) (v:=v0) rfl;have c1:=h.cell (i:=1) (v:=v1) rfl;simp[go_sem,c0,c1]
theorem Yr{fn:Func}{p:Tmp}{ty:TypeId}(h:fn.results=#[.cell p ty]){a:Act}{W:World}{Q:Ending->World->Prop}{b:Nat}{v:Value}(h4:a.tmps.getD p undef=.pointer (some ⟨b,0,none⟩))(hd:a.defers=[])(hl:(loadVar ty ⟨b,0,none⟩).run Tryz.prog W=.ok v W)(hQ:Q (.returned v) W):bodyPost Tryz.prog fn Q .ret a W:=by
 refine bodyPost_ret (v:=v) ?_ hd hQ;rw[Yp h,h4];simp only[asAddr,Sem.run_pure,Result.andThen_ok];exact hl
theorem mL{a b:Int}(h:a=b):Ending.returned (.int .i64 a)=.returned (.int .i64 b):=by rw[h]
theorem jQ{a b:Bool}(h:a=b):Ending.returned (.bool a)=.returned (.bool b):=by rw[h]
theorem Ux(n:Int)(w:World):Calls Tryz.prog 253 #[.int .i64 n] w fun e w'=>e=.returned (.int .i64 (Vd.sg n))∧w'=w:=by
 rcases Vd.jS n with⟨h,e⟩|⟨h,e⟩|⟨h,e⟩;all_goals rw[e];clear e;go_enter Tryz.func253,Tryz.ntmps253;go_wp2;go_ret;exact⟨rfl,rfl⟩
theorem mo(p q:jk)(w:World):Calls Tryz.prog 236 #[lZ p,lZ q] w fun e w'=>e=.returned (.bool (decide (Vd.jM p q)))∧Up w w':=by
 obtain⟨px,py⟩:=p;obtain⟨qx,qy⟩:=q;simp only[lZ,Vd.jM];rcases bZ px qx with h|h|h;{go_enter Tryz.func236,Tryz.ntmps236;go_wp2;go_ret;exact⟨jQ (by simp[h]),((Up.refl _).alloc _).alloc _⟩};{subst h;by_cases h2:py<qy;all_goals go_enter Tryz.func236,Tryz.ntmps236;go_wp2;go_ret;exact⟨jQ (by simp;omega),((Up.refl _).alloc _).alloc _⟩};·have h1:¬px<qx:=(by omega);have h2:(px==qx)=false:=aj.2 (by omega);have h3:¬px=qx:=(by omega);go_enter Tryz.func236,Tryz.ntmps236;go_wp2;go_ret;exact⟨jQ (by simp;omega),((Up.refl _).alloc _).alloc _⟩
theorem ve(p:jk)(w:World):Calls Tryz.prog 199 #[lZ p] w fun e w'=>e=.returned (kT (Vd.qi p))∧Up w w':=by
 obtain⟨px,py⟩:=p;simp only[lZ,kT,Vd.qi];go_enter Tryz.func199,Tryz.ntmps199;go_wp2;exact bodyPost_ret (v:=.agg #[.int .i64 px,.int .i64 py,.int .i64 1]) (by simp[results,Tryz.results199,go_sem]) rfl ⟨rfl,((Up.refl _).alloc _).alloc _⟩
theorem PK(p q:jk)(hp:Vd.Cd p)(hq:Vd.Cd q)(w:World):Calls Tryz.prog 202 #[lZ p,lZ q] w fun e w'=>e=.returned (kT (Vd.jO p q))∧Up w w':=by
 obtain⟨px,py⟩:=p;obtain⟨qx,qy⟩:=q;simp only[Vd.Cd]at hp hq;simp only[lZ,kT,Vd.jO];go_enter Tryz.func202,Tryz.ntmps202;go_wp2;exact bodyPost_ret (v:=.agg #[.int .i64 (px+qx),.int .i64 (py+qy),.int .i64 2]) (by simp[results,Tryz.results202,go_sem]) rfl ⟨rfl,(((Up.refl _).alloc _).alloc _).alloc _⟩
theorem qq(s:Vd.jK)(p:Vd.jC)(hs:Vd.tB s)(hp:Vd.Sp p)(w:World):Calls Tryz.prog 233 #[nK s,kT p] w fun e w'=>e=.returned (.int .i64 (Vd.side s p))∧Up w w':=by
 obtain⟨⟨ax,ay⟩,⟨bx,bY⟩⟩:=s;obtain⟨⟨x,y⟩,t⟩:=p;simp only[Vd.tB,Vd.Cd,Vd.Sp]at hs hp;obtain⟨⟨a1,a2,a3,a4⟩,b1,b2,b3,b4⟩:=hs;obtain⟨p1,p2,p3,p4,p5,p6⟩:=hp;simp only[nK,kT,Vd.side,Vd.cr];obtain⟨m1,m2⟩:=jW (a:=ax) (b:=t) (A:=32768) (B:=1048576) (by omega) a2 (by omega) p6;obtain⟨m3,m4⟩:=jW (a:=ay) (b:=t) (A:=32768) (B:=1048576) (by omega) a4 (by omega) p6;obtain⟨n1,n2⟩:=jW (a:=bx-ax) (b:=y-ay*t) (A:=65536) (B:=68719476736) (by omega) (by omega) (by omega) (by omega);obtain⟨n3,n4⟩:=jW (a:=bY-ay) (b:=x-ax*t) (A:=65536) (B:=68719476736) (by omega) (by omega) (by omega) (by omega);have w1:wrap64 (ax*t)=ax*t:=AE (by omega) (by omega);have w2:wrap64 (ay*t)=ay*t:=AE (by omega) (by omega);have w3:wrap64 ((bx-ax)*(y-ay*t))=(bx-ax)*(y-ay*t):=AE (by omega) (by omega);have w4:wrap64 ((bY-ay)*(x-ax*t))=(bY-ay)*(x-ax*t):=AE (by omega) (by omega);have w5:wrap64 (x-ax*t)=x-ax*t:=AE (by omega) (by omega);have w6:wrap64 (y-ay*t)=y-ay*t:=AE (by omega) (by omega);have w7:wrap64 ((bx-ax)*(y-ay*t)-(bY-ay)*(x-ax*t))=(bx-ax)*(y-ay*t)-(bY-ay)*(x-ax*t):=AE (by omega) (by omega);go_enter Tryz.func233,Tryz.ntmps233;go_wp2_with(go_at_call 253;refine(Ux _ _).mono ?_;rintro e w1⟨rfl,rfl⟩)
 go_ret;exact⟨rfl,((Up.refl _).alloc _).alloc _⟩
structure Gr(w:World)where
 v:World
 up:Up w v
instance(w:World):Nonempty (Gr w):=⟨⟨w,Up.refl w⟩⟩
theorem jw{P:Program}{id:Nat}{Q:Exit->Act->World->Prop}{a:Act}{w:World}{l:List Oper}(hm:P.follows .mixedOrders=true)(hB:Region.lexB .any l.toArray=true)(h:wpQuiet P l.toArray (fun w'=>∃g:Gr w,w'=g.v) (fun a'=>∀w',(∃g:Gr w,w'=g.v)->Q .normal a' w') l a):(Code.region id l.toArray true).wp P Q a w:=wp_region_quiet (C:=fun w'=>∃g:Gr w,w'=g.v) hm hB ⟨⟨_,(Up.refl w).drew⟩,rfl⟩ (by simpa using h)
theorem Calls.jY{P:Program}{f:FuncId}{args:Array Value}{w:World}{g:Gr w}{v:Value}(h:Calls P f args g.v fun e w'=>e=.returned v∧Up g.v w'):Calls P f args g.v fun e w''=>e=.returned v∧∃m:Gr w,w''=m.v:=h.mono fun _ _⟨he,hu⟩=>⟨he,⟨_,g.up.trans hu⟩,rfl⟩
theorem jr.gr{w:World}{b:Nat}{t:TypeId}{vs:List Value}(h:jr w b t vs){i:Nat}{v:Value}(hi:vs[i]?=some v)(g:Gr w):g.v.cell? ⟨b,i,none⟩=some v:=g.up.cell (h.cell hi)
theorem jB{w:World}{p:Addr}{v:Value}(h:w.cell? p=some v)(g:Gr w):g.v.cell? p=some v:=g.up.cell h
theorem M9{W w1:World}(hb:Up W w1):(∀b o,b<W.heap.size->w1.cell? ⟨b,o,none⟩=W.cell? ⟨b,o,none⟩)∧(∀b o,b<W.heap.size->w1.frozen? ⟨b,o,none⟩=W.frozen? ⟨b,o,none⟩):=⟨fun b o h=>Below.cell hb (p:=⟨b,o,none⟩) h,fun b o h=>Below.frozen hb (p:=⟨b,o,none⟩) h⟩
end Go.Proofs.YtcclepohmhdpbaaGreatDoor
