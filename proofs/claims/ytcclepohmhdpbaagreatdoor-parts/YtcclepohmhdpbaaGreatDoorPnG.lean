import Derived.Test.YtcclepohmhdpbaaGreatDoorWalkU
import Derived.Test.YtcclepohmhdpbaaGreatDoorWalkB
import Derived.Test.YtcclepohmhdpbaaGreatDoorCards
import Derived.Test.YtcclepohmhdpbaaGreatDoorTie
import Derived.WalkKit
import Derived.ProofKit
import Derived.OpenShut
import Derived.Deep.Slices
import Derived.Deep.DeepHandedRow
import Derived.Lib.LaidTab
import Derived.Test.YtcclepohmhdpbaaGreatDoorProg
import Derived.Test.YtcclepohmhdpbaaGreatDoorGfC
import Derived.WalkLawsBesides
import Derived.Deep.QuietTactic
import Derived.BigQuiet
set_option maxHeartbeats 2000000
set_option maxRecDepth 100000
namespace Go.Proofs.YtcclepohmhdpbaaGreatDoor
set_option linter.all false
open Go.ChangeShapes Go.WideShapes Go.ChangeAt Go.RowKit Go.Deep
theorem own:ownKnob Tryz.prog.godebug=none:=by kernel_rfl
theorem laidOut:laidOutB Tryz.prog=true:=by kernel_rfl
theorem UQ:Tryz.prog.underlying 22=some (.slice 46):=by kernel_rfl
theorem Gl:Tryz.prog.underlying 3=some (.int .i64):=by kernel_rfl
theorem Sk:Tryz.prog.underlying 9=some .string:=by kernel_rfl
theorem aaN:Tryz.prog.underlying 4=some .bool:=by kernel_rfl
theorem Pq:Tryz.prog.cellsOf 46=5:=by kernel_rfl
theorem WS:Tryz.prog.cellsOf 3=1:=by kernel_rfl
theorem MF:Tryz.prog.cellsOf 9=1:=by kernel_rfl
theorem aeq:(match Tryz.prog.underlying 46 with|some (.struct fs)=>some (fs.map fun f=>(f.type,f.offset))|_=>none)=some #[(3,0),(3,1),(3,2),(3,3),(9,4)]:=by kernel_rfl
theorem ahE:∃fs:Array Field,Tryz.prog.underlying 46=some (.struct fs)∧(fs.map fun f=>(f.type,f.offset))=#[(3,0),(3,1),(3,2),(3,3),(9,4)]:=by
 have h:=aeq;split at h;{rename_i fs e;exact⟨fs,e,aY h⟩};·cases h
theorem aaO{fs:Array Field}(e:(fs.map fun f=>(f.type,f.offset))=#[(3,0),(3,1),(3,2),(3,3),(9,4)])(i t o:Nat)(h:(#[(3,0),(3,1),(3,2),(3,3),(9,4)]:Array (Nat×Nat))[i]?=some (t,o)):∃f,fs[i]?=some f∧f.type=t∧f.offset=o:=by
 have h2:(fs.map fun f=>(f.type,f.offset))[i]?=some (t,o):=(by rw[e];exact h);rw[Array.getElem?_map]at h2;obtain⟨f,hf,he⟩:=b6.1 h2;simp only[dH]at he;exact⟨f,hf,he.1,he.2⟩
theorem UR{α:Type}{p:Nat->α->Prop}:∀n:Nat,(∀i,i<n->∃x,p i x)->∃l:List α,l.length=n∧∀i x,l[i]?=some x->p i x|0,_=>⟨[],rfl,fun i x h=>by simp at h⟩|n+1,h=>by obtain⟨l,hl,hp⟩:=UR n (fun i hi=>h i (by omega));obtain⟨x,hx⟩:=h n (by omega);refine⟨l++[x],by simp[hl],fun i y hy=>?_⟩;rcases bI i l.length with hi|hi;{rw[bh hi]at hy;exact hp i y hy};·have hin:i=n:=(by have:=Pl.jW hy;simp at this;omega);subst hin;rw[aN hi,show i-l.length=0 by omega]at hy;cases hy;exact hx
theorem aer{H:Type}{enc:TypeId×Value->H}{w:World}{base:Nat}{spare:Nat->Bool}{held:Bool}{fuel:Nat}{cs:List Value}{x:DataW H×List MemPlace}(h:DataW.trod enc Tryz.prog w base spare held fuel 46 cs=some x):∃o:Fl,cs=o.cells∧Mn o:=by
 obtain⟨fs,apm,afR⟩:=ahE;obtain⟨xs,n,_,_,hlen,hxs,hf⟩:=DataW.trod_struct apm h;rw[Pq]at hlen;have hsz:fs.size=5:=(by have:=cg Array.size afR;simpa using this);match cs,hlen with|[c0,c1,c2,c3,c4],_=>have fld:∀(i t o:Nat),(#[(3,0),(3,1),(3,2),(3,3),(9,4)]:Array (Nat×Nat))[i]?=some (t,o)->i<5->∃y,DataW.trod enc Tryz.prog w base spare held n t (([c0,c1,c2,c3,c4].drop o).take (Tryz.prog.cellsOf t))=some y:=(by intro i t o hi hi5;obtain⟨f,h1,h2,h3⟩:=aaO afR i t o hi;have:=hf i f h1;rw[h2,h3]at this;exact⟨xs[i]'(by omega),by rw[this,aL]⟩);obtain⟨y0,q0⟩:=fld 0 _ _ rfl (by omega);obtain⟨y1,q1⟩:=fld 1 _ _ rfl (by omega);obtain⟨y2,q2⟩:=fld 2 _ _ rfl (by omega);obtain⟨y3,q3⟩:=fld 3 _ _ rfl (by omega);obtain⟨y4,q4⟩:=fld 4 _ _ rfl (by omega);rw[WS]at q0 q1 q2 q3;rw[MF]at q4;obtain⟨kd,e0,_,_⟩:=DataW.trod_int Gl q0;obtain⟨a,e1,_,w1⟩:=DataW.trod_int Gl q1;obtain⟨b,e2,_,w2⟩:=DataW.trod_int Gl q2;obtain⟨c,e3,_,w3⟩:=DataW.trod_int Gl q3;obtain⟨s,e4,_,_⟩:=DataW.trod_string Sk q4;simp at e0 e1 e2 e3 e4;subst e0 e1 e2 e3 e4;have hb:=bounds_i64 w1;have Bk:=bounds_i64 w2;have hb3:=bounds_i64 w3;exact⟨⟨kd,a,b,c,s⟩,rfl,⟨by simp only;omega,by simp only;omega,by simp only;omega,by simp only;omega,by simp only;omega,by simp only;omega⟩⟩
theorem Pt(b off k:Nat):(⟨b,off,none⟩:Addr).add k=⟨b,off+k,none⟩:=by
 unfold Addr.add;split<;>simp_all
theorem Pu{H:Type}{enc:TypeId×Value->H}{w:World}{fuel:Nat}{v:Value}{x:DataW H×List MemPlace}(h:DataW.trod enc Tryz.prog w 0 (fun _=>true) true fuel 22 [v]=some x):∃P:List Fl,RdP w v P∧(∀o∈P,Mn o)∧(P.length:Int)<=9223372036854775807:=by
 rcases open_slice UQ h with⟨hcs,_⟩|⟨a,len,cap,m,n,D,Plc,hcs,_,hl,hm,KV,_,hx⟩;{simp at hcs;subst hcs;exact⟨[],⟨none,0,rfl,fun i o ho=>by simp at ho⟩,by simp,by simp⟩};·simp at hcs;subst hcs;have hml:len<=m:=(by rw[KV];simp;exact hl);rw[Pq]at hx;obtain⟨P,hP,hf⟩:=UR (p:=fun i(o:Fl)=>w.cells? 0 (a.add (i*5)) 5=some o.cells∧Mn o) len (fun i hi=>by obtain⟨cs',h1,h2⟩:=hx i (by omega);obtain⟨o,ho,hok⟩:=aer h2;exact⟨o,ho▸h1,hok⟩);refine⟨P,⟨some a,cap,by rw[hP],fun i o ho=>?_⟩,?_,?_⟩;{obtain⟨h1,_⟩:=hf i o ho;obtain⟨_,_,hc⟩:=World.cells?_some h1;have k0:=hc 0 (by omega);have k1:=hc 1 (by omega);have k2:=hc 2 (by omega);have k3:=hc 3 (by omega);have k4:=hc 4 (by omega);obtain⟨b,off,spot⟩:=a;have hspot:spot=none:=(by obtain⟨o0,ho0⟩:=Pl.jQ (l:=P) (k:=0) (by have:=Pl.jW ho;omega);obtain⟨_,_,hc0⟩:=World.cells?_some (hf 0 o0 ho0).1;have z0:w.cell? (((⟨b,off,spot⟩:Addr).add (0*5)).add 0)=some (.int .i64 o0.kd):=hc0 0 (by omega);simpa[Addr.add]using World.cell?_spot z0);subst hspot;rw[Pt,Pt]at k0 k1 k2 k3 k4;exact⟨b,off,rfl,k0,k1,k2,k3,k4⟩};{intro o ho;obtain⟨i,hi,he⟩:=fO ho;exact(hf i o (by rw[aL hi,he])).2};·unfold maxLen at hm;rw[hP];omega
def aaP(d:DataW Unit):Array Value:=match d with|.agg ps=>(ps.map fun x=>match x with|.lit (.int k n)=>Value.int k n|_=>undef).toArray|_=>#[]
def Sl(w:World)(g:Nat)(d:DataW Unit):World:={w with heap:=w.heap.modify g fun|.cells _ t frozen=>.cells (aaP d) t frozen|o=>o}
def IB(w:World):World:=Sl (Sl (Sl w 0 Rows.laid_internal_strconv_uint64pow10) 1 Rows.laid_math_bits_deBruijn32tab) 2 Rows.laid_math_bits_deBruijn64tab
theorem aaQ(os:Os):laidMet Tryz.prog Rows.makesRow.laid ((IB (World.holding Tryz.prog os ⟨#[],#[],[]⟩)).forCall (fun _ _=>0) ⟨#[],#[.slice none 0 0],[]⟩).memory:=laidMet_of_run' 8 (by kernel_rfl) (by kernel_rfl)
theorem aes:mapsRowed Tryz.prog=true:=by kernel_rfl
end Go.Proofs.YtcclepohmhdpbaaGreatDoor
namespace Go.Proofs.YtcclepohmhdpbaaGreatDoor
set_option linter.all false
open Go.RowKit Go.Deep
def nF(p:jS):Value:=.agg #[.int .i64 p.1,.int .i64 p.2]
def pN(s:Vd.kF):Value:=.agg #[.int .i64 s.1.1,.int .i64 s.1.2,.int .i64 s.2.1,.int .i64 s.2.2]
def mo(p:Vd.j9):Value:=.agg #[.int .i64 p.1.1,.int .i64 p.1.2,.int .i64 p.2]
theorem yB{x:Int}(h1:-9223372036854775808<=x)(h2:x<=9223372036854775807):wrap64 x=x:=by
 unfold wrap64;omega
theorem k9{a b A B:Int}(h1:-A<=a)(h2:a<=A)(h3:-B<=b)(h4:b<=B):-(A*B)<=a*b∧a*b<=A*B:=by
 have hA:0<=A:=(by omega);have hB:0<=B:=(by omega);have k1:a*b<=A*B:=(by rcases eF 0 b with h|h;{exact fZ (b7 h2 h) (bA h4 hA)};·have e:a*b=(-a)*(-b):=(by grind);rw[e];exact fZ (b7 (show-a<=A by omega) (by omega)) (bA (show-b<=B by omega) hA));have k2:-(A*B)<=a*b:=(by have:(-a)*b<=A*B:=(by rcases eF 0 b with h|h;{exact fZ (b7 (show-a<=A by omega) h) (bA h4 hA)};·have e:(-a)*b=a*(-b):=(by grind);rw[e];exact fZ (b7 h2 (by omega)) (bA (show-b<=B by omega) hA));have e:(-a)*b=-(a*b):=(by grind);omega);exact⟨k2,k1⟩
theorem aaR{fn:Func}{p:Tmp}{ty:TypeId}(h:fn.results=#[.cell p ty])(tmps:Array Value)(P:Program)(w:World):(results fn tmps).run P w=((asAddr (tmps.getD p undef)).run P w).andThen fun a w₁=>(loadVar ty a).run P w₁:=by
 simp only[results,h];simp[Sem.run_bind,Result.andThen]
theorem aaS{W:World}{b:Nat}{v0 v1:Value}(h:jV W b 32 [v0,v1]):(loadVar 32 ⟨b,0,none⟩).run Tryz.prog W=.ok (.agg #[v0,v1]) W:=by
 have c0:=h.cell (i:=0) (v:=v0) rfl;have c1:=h.cell (i:=1) (v:=v1) rfl;simp[go_sem,c0,c1]
theorem aaT{fn:Func}{p:Tmp}{ty:TypeId}(h:fn.results=#[.cell p ty]){a:Act}{W:World}{Q:Ending->World->Prop}{b:Nat}{v:Value}(h4:a.tmps.getD p undef=.pointer (some ⟨b,0,none⟩))(hd:a.defers=[])(hl:(loadVar ty ⟨b,0,none⟩).run Tryz.prog W=.ok v W)(hQ:Q (.returned v) W):bodyPost Tryz.prog fn Q .ret a W:=by
 refine bodyPost_ret (v:=v) ?_ hd hQ;rw[aaR h,h4];simp only[asAddr,Sem.run_pure,Result.andThen_ok];exact hl
theorem oQ{a b:Int}(h:a=b):Ending.returned (.int .i64 a)=.returned (.int .i64 b):=by rw[h]
theorem kU{a b:Bool}(h:a=b):Ending.returned (.bool a)=.returned (.bool b):=by rw[h]
theorem WT(n:Int)(w:World):Calls Tryz.prog 253 #[.int .i64 n] w fun e w'=>e=.returned (.int .i64 (Vd.sg n))∧w'=w:=by
 rcases Vd.kW n with⟨h,e⟩|⟨h,e⟩|⟨h,e⟩;all_goals rw[e];clear e;go_enter Tryz.func253,Tryz.ntmps253;go_wp2;go_ret;exact⟨rfl,rfl⟩
theorem oq(p q:jS)(w:World):Calls Tryz.prog 236 #[nF p,nF q] w fun e w'=>e=.returned (.bool (decide (Vd.kS p q)))∧Up w w':=by
 obtain⟨px,py⟩:=p;obtain⟨qx,qy⟩:=q;simp only[nF,Vd.kS];rcases cA px qx with h|h|h;{go_enter Tryz.func236,Tryz.ntmps236;go_wp2;go_ret;exact⟨kU (by simp[h]),((Up.refl _).alloc _).alloc _⟩};{subst h;by_cases h2:py<qy;all_goals go_enter Tryz.func236,Tryz.ntmps236;go_wp2;go_ret;exact⟨kU (by simp;omega),((Up.refl _).alloc _).alloc _⟩};·have h1:¬px<qx:=(by omega);have h2:(px==qx)=false:=ai.2 (by omega);have h3:¬px=qx:=(by omega);go_enter Tryz.func236,Tryz.ntmps236;go_wp2;go_ret;exact⟨kU (by simp;omega),((Up.refl _).alloc _).alloc _⟩
theorem xL(p:jS)(w:World):Calls Tryz.prog 199 #[nF p] w fun e w'=>e=.returned (mo (Vd.rG p))∧Up w w':=by
 obtain⟨px,py⟩:=p;simp only[nF,mo,Vd.rG];go_enter Tryz.func199,Tryz.ntmps199;go_wp2;exact bodyPost_ret (v:=.agg #[.int .i64 px,.int .i64 py,.int .i64 1]) (by simp[results,Tryz.results199,go_sem]) rfl ⟨rfl,((Up.refl _).alloc _).alloc _⟩
theorem Sm(p q:jS)(hp:Vd.Cd p)(hq:Vd.Cd q)(w:World):Calls Tryz.prog 202 #[nF p,nF q] w fun e w'=>e=.returned (mo (Vd.kL p q))∧Up w w':=by
 obtain⟨px,py⟩:=p;obtain⟨qx,qy⟩:=q;simp only[Vd.Cd]at hp hq;simp only[nF,mo,Vd.kL];go_enter Tryz.func202,Tryz.ntmps202;go_wp2;exact bodyPost_ret (v:=.agg #[.int .i64 (px+qx),.int .i64 (py+qy),.int .i64 2]) (by simp[results,Tryz.results202,go_sem]) rfl ⟨rfl,(((Up.refl _).alloc _).alloc _).alloc _⟩
theorem rZ(s:Vd.kF)(p:Vd.j9)(hs:Vd.vS s)(hp:Vd.Sp p)(w:World):Calls Tryz.prog 233 #[pN s,mo p] w fun e w'=>e=.returned (.int .i64 (Vd.side s p))∧Up w w':=by
 obtain⟨⟨ax,ay⟩,⟨bx,bY⟩⟩:=s;obtain⟨⟨x,y⟩,t⟩:=p;simp only[Vd.vS,Vd.Cd,Vd.Sp]at hs hp;obtain⟨⟨a1,a2,a3,a4⟩,b1,b2,b3,b4⟩:=hs;obtain⟨p1,p2,p3,p4,p5,p6⟩:=hp;simp only[pN,mo,Vd.side,Vd.cr];obtain⟨m1,m2⟩:=k9 (a:=ax) (b:=t) (A:=32768) (B:=1048576) (by omega) a2 (by omega) p6;obtain⟨m3,m4⟩:=k9 (a:=ay) (b:=t) (A:=32768) (B:=1048576) (by omega) a4 (by omega) p6;obtain⟨n1,n2⟩:=k9 (a:=bx-ax) (b:=y-ay*t) (A:=65536) (B:=68719476736) (by omega) (by omega) (by omega) (by omega);obtain⟨n3,n4⟩:=k9 (a:=bY-ay) (b:=x-ax*t) (A:=65536) (B:=68719476736) (by omega) (by omega) (by omega) (by omega);have w1:wrap64 (ax*t)=ax*t:=yB (by omega) (by omega);have w2:wrap64 (ay*t)=ay*t:=yB (by omega) (by omega);have w3:wrap64 ((bx-ax)*(y-ay*t))=(bx-ax)*(y-ay*t):=yB (by omega) (by omega);have w4:wrap64 ((bY-ay)*(x-ax*t))=(bY-ay)*(x-ax*t):=yB (by omega) (by omega);have w5:wrap64 (x-ax*t)=x-ax*t:=yB (by omega) (by omega);have w6:wrap64 (y-ay*t)=y-ay*t:=yB (by omega) (by omega);have w7:wrap64 ((bx-ax)*(y-ay*t)-(bY-ay)*(x-ax*t))=(bx-ax)*(y-ay*t)-(bY-ay)*(x-ax*t):=yB (by omega) (by omega);go_enter Tryz.func233,Tryz.ntmps233;go_wp2_with(go_at_call 253;refine(WT _ _).mono ?_;rintro e w1⟨rfl,rfl⟩)
 go_ret;exact⟨rfl,((Up.refl _).alloc _).alloc _⟩
structure Gr(w:World)where
 v:World
 up:Up w v
instance(w:World):Nonempty (Gr w):=⟨⟨w,Up.refl w⟩⟩
theorem jZ{P:Program}{id:Nat}{Q:Exit->Act->World->Prop}{a:Act}{w:World}{l:List Oper}(hm:P.follows .mixedOrders=true)(hB:Region.lexB .any l.toArray=true)(h:wpQuiet P l.toArray (fun w'=>∃g:Gr w,w'=g.v) (fun a'=>∀w',(∃g:Gr w,w'=g.v)->Q .normal a' w') l a):(Code.region id l.toArray true).wp P Q a w:=wp_region_quiet (C:=fun w'=>∃g:Gr w,w'=g.v) hm hB ⟨⟨_,(Up.refl w).drew⟩,rfl⟩ (by simpa using h)
theorem Calls.lC{P:Program}{f:FuncId}{args:Array Value}{w:World}{g:Gr w}{v:Value}(h:Calls P f args g.v fun e w'=>e=.returned v∧Up g.v w'):Calls P f args g.v fun e w''=>e=.returned v∧∃m:Gr w,w''=m.v:=h.mono fun _ _⟨he,hu⟩=>⟨he,⟨_,g.up.trans hu⟩,rfl⟩
theorem jV.gr{w:World}{b:Nat}{t:TypeId}{vs:List Value}(h:jV w b t vs){i:Nat}{v:Value}(hi:vs[i]?=some v)(g:Gr w):g.v.cell? ⟨b,i,none⟩=some v:=g.up.cell (h.cell hi)
theorem ki{w:World}{p:Addr}{v:Value}(h:w.cell? p=some v)(g:Gr w):g.v.cell? p=some v:=g.up.cell h
theorem Pv{W w1:World}(hb:Up W w1):(∀b o,b<W.heap.size->w1.cell? ⟨b,o,none⟩=W.cell? ⟨b,o,none⟩)∧(∀b o,b<W.heap.size->w1.frozen? ⟨b,o,none⟩=W.frozen? ⟨b,o,none⟩):=⟨fun b o h=>Below.cell hb (p:=⟨b,o,none⟩) h,fun b o h=>Below.frozen hb (p:=⟨b,o,none⟩) h⟩
end Go.Proofs.YtcclepohmhdpbaaGreatDoor
