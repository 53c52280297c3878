import Derived.Test.YtcclepohmhdpbaaGreatDoorWalkU
import Derived.Test.YtcclepohmhdpbaaGreatDoorWalkB
import Derived.Test.YtcclepohmhdpbaaGreatDoorCards
import Derived.Test.YtcclepohmhdpbaaGreatDoorTie
import Derived.WalkKit
import Derived.ProofKit
import Derived.OpenShut
import Derived.Deep.Slices
import Derived.Deep.DeepHandedRow
import Derived.Lib.LaidTab
import Derived.Test.YtcclepohmhdpbaaGreatDoorProg
import Derived.Test.YtcclepohmhdpbaaGreatDoorGfC
import Derived.WalkLawsBesides
import Derived.Deep.QuietTactic
import Derived.BigQuiet
set_option maxHeartbeats 2000000
set_option maxRecDepth 100000
namespace Go.Proofs.YtcclepohmhdpbaaGreatDoor
set_option linter.all false
open Go.ChangeShapes Go.WideShapes Go.ChangeAt Go.RowKit Go.Deep
theorem own:ownKnob Tryz.prog.godebug=none:=by kernel_rfl
theorem laidOut:laidOutB Tryz.prog=true:=by kernel_rfl
theorem P8:Tryz.prog.underlying 22=some (.slice 46):=by kernel_rfl
theorem Bu:Tryz.prog.underlying 3=some (.int .i64):=by kernel_rfl
theorem Nq:Tryz.prog.underlying 9=some .string:=by kernel_rfl
theorem WH:Tryz.prog.underlying 4=some .bool:=by kernel_rfl
theorem KV:Tryz.prog.cellsOf 46=5:=by kernel_rfl
theorem SC:Tryz.prog.cellsOf 3=1:=by kernel_rfl
theorem Ia:Tryz.prog.cellsOf 9=1:=by kernel_rfl
theorem aaG:(match Tryz.prog.underlying 46 with|some (.struct fs)=>some (fs.map λf=>(f.type,f.offset))|_=>none)=some #[(3,0),(3,1),(3,2),(3,3),(9,4)]:=by kernel_rfl
theorem ad4:∃fs:Array Field,Tryz.prog.underlying 46=some (.struct fs)/\(fs.map λf=>(f.type,f.offset))=#[(3,0),(3,1),(3,2),(3,3),(9,4)]:=by
 have h:=aaG;split at h;{rename_i fs e;exact⟨fs,e,DP h⟩};·cases h
theorem WI{fs:Array Field}(e:(fs.map λf=>(f.type,f.offset))=#[(3,0),(3,1),(3,2),(3,3),(9,4)])(i t o:Nat)(h:(#[(3,0),(3,1),(3,2),(3,3),(9,4)]:Array (Nat×Nat))[i]?=some (t,o)):∃f,fs[i]?=some f/\f.type=t/\f.offset=o:=by
 have h2:(fs.map λf=>(f.type,f.offset))[i]?=some (t,o):=(by rw[e];exact h);rw[Array.getElem?_map]at h2;obtain⟨f,hf,he⟩:=To.1 h2;simp only[abM]at he;exact⟨f,hf,he.1,he.2⟩
theorem P9{α:Type}{p:Nat->α->Prop}:∀n:Nat,(∀i,i<n->∃x,p i x)->∃l:List α,l.length=n/\∀i x,l[i]?=some x->p i x|0,_=>⟨[],rfl,λi x h=>by simp at h⟩|n+1,h=>by obtain⟨l,hl,hp⟩:=P9 n (λi hi=>h i (by omega));obtain⟨x,hx⟩:=h n (by omega);refine⟨l++[x],by simp[hl],λi y hy=>?_⟩;rcases NO i l.length with hi|hi;{rw[EV hi]at hy;exact hp i y hy};·have hin:i=n:=(by have:=Pl.aE hy;simp at this;omega);subst hin;rw[AN hi,show i-l.length=0 by omega]at hy;cases hy;exact hx
theorem aaH{H:Type}{enc:TypeId×Value->H}{w:World}{base:Nat}{spare:Nat->Bool}{held:Bool}{fuel:Nat}{cs:List Value}{x:DataW H×List MemPlace}(h:DataW.trod enc Tryz.prog w base spare held fuel 46 cs=some x):∃o:Aq,cs=o.cells/\G9 o:=by
 obtain⟨fs,alB,ab8⟩:=ad4;obtain⟨xs,n,_,_,hlen,hxs,hf⟩:=DataW.trod_struct alB h;rw[KV]at hlen;have hsz:fs.size=5:=(by have:=US Array.size ab8;simpa using this);match cs,hlen with|[c0,c1,c2,c3,c4],_=>have fld:∀(i t o:Nat),(#[(3,0),(3,1),(3,2),(3,3),(9,4)]:Array (Nat×Nat))[i]?=some (t,o)->i<5->∃y,DataW.trod enc Tryz.prog w base spare held n t (([c0,c1,c2,c3,c4].drop o).take (Tryz.prog.cellsOf t))=some y:=(by intro i t o hi hi5;obtain⟨f,h1,h2,h3⟩:=WI ab8 i t o hi;have:=hf i f h1;rw[h2,h3]at this;exact⟨xs[i]'(by omega),by rw[this,AI]⟩);obtain⟨y0,q0⟩:=fld 0 _ _ rfl (by omega);obtain⟨y1,q1⟩:=fld 1 _ _ rfl (by omega);obtain⟨y2,q2⟩:=fld 2 _ _ rfl (by omega);obtain⟨y3,q3⟩:=fld 3 _ _ rfl (by omega);obtain⟨y4,q4⟩:=fld 4 _ _ rfl (by omega);rw[SC]at q0 q1 q2 q3;rw[Ia]at q4;obtain⟨kd,e0,_,_⟩:=DataW.trod_int Bu q0;obtain⟨a,e1,_,w1⟩:=DataW.trod_int Bu q1;obtain⟨b,e2,_,w2⟩:=DataW.trod_int Bu q2;obtain⟨c,e3,_,w3⟩:=DataW.trod_int Bu q3;obtain⟨s,e4,_,_⟩:=DataW.trod_string Nq q4;simp at e0 e1 e2 e3 e4;subst e0 e1 e2 e3 e4;have hb:=bounds_i64 w1;have vD:=bounds_i64 w2;have hb3:=bounds_i64 w3;exact⟨⟨kd,a,b,c,s⟩,rfl,⟨by simp only;omega,by simp only;omega,by simp only;omega,by simp only;omega,by simp only;omega,by simp only;omega⟩⟩
theorem KW(b off k:Nat):(⟨b,off,none⟩:Addr).add k=⟨b,off+k,none⟩:=by
 unfold Addr.add;split<;>simp_all
theorem KX{H:Type}{enc:TypeId×Value->H}{w:World}{fuel:Nat}{v:Value}{x:DataW H×List MemPlace}(h:DataW.trod enc Tryz.prog w 0 (λ_=>true) true fuel 22 [v]=some x):∃P:List Aq,YN w v P/\(∀o∈P,G9 o)/\(P.length:Int)<=9223372036854775807:=by
 rcases open_slice P8 h with⟨hcs,_⟩|⟨a,len,cap,m,n,D,Plc,hcs,_,hl,hm,FQ,_,hx⟩;{simp at hcs;subst hcs;exact⟨[],⟨none,0,rfl,λi o ho=>by simp at ho⟩,by simp,by simp⟩};·simp at hcs;subst hcs;have hml:len<=m:=(by rw[FQ];simp;exact hl);rw[KV]at hx;obtain⟨P,hP,hf⟩:=P9 (p:=λi(o:Aq)=>w.cells? 0 (a.add (i*5)) 5=some o.cells/\G9 o) len (λi hi=>by obtain⟨cs',h1,h2⟩:=hx i (by omega);obtain⟨o,ho,hok⟩:=aaH h2;exact⟨o,ho▸h1,hok⟩);refine⟨P,⟨some a,cap,by rw[hP],λi o ho=>?_⟩,?_,?_⟩;{obtain⟨h1,_⟩:=hf i o ho;obtain⟨_,_,hc⟩:=World.cells?_some h1;have k0:=hc 0 (by omega);have k1:=hc 1 (by omega);have k2:=hc 2 (by omega);have k3:=hc 3 (by omega);have k4:=hc 4 (by omega);obtain⟨b,off,spot⟩:=a;have hspot:spot=none:=(by obtain⟨o0,ho0⟩:=Pl.ai (l:=P) (k:=0) (by have:=Pl.aE ho;omega);obtain⟨_,_,hc0⟩:=World.cells?_some (hf 0 o0 ho0).1;have z0:w.cell? (((⟨b,off,spot⟩:Addr).add (0*5)).add 0)=some (.int .i64 o0.kd):=hc0 0 (by omega);simpa[Addr.add]using World.cell?_spot z0);subst hspot;rw[KW,KW]at k0 k1 k2 k3 k4;exact⟨b,off,rfl,k0,k1,k2,k3,k4⟩};{intro o ho;obtain⟨i,hi,he⟩:=aer ho;exact(hf i o (by rw[AI hi,he])).2};·unfold maxLen at hm;rw[hP];omega
def WJ(d:DataW Unit):Array Value:=match d with|.agg ps=>(ps.map λx=>match x with|.lit (.int k n)=>Value.int k n|_=>undef).toArray|_=>#[]
def Nr(w:World)(g:Nat)(d:DataW Unit):World:={w with heap:=w.heap.modify g λ|.cells _ t frozen=>.cells (WJ d) t frozen|o=>o}
def Dp(w:World):World:=Nr (Nr (Nr w 0 Rows.laid_internal_strconv_uint64pow10) 1 Rows.laid_math_bits_deBruijn32tab) 2 Rows.laid_math_bits_deBruijn64tab
theorem WK(os:Os):laidMet Tryz.prog Rows.makesRow.laid ((Dp (World.holding Tryz.prog os ⟨#[],#[],[]⟩)).forCall (λ_ _=>0) ⟨#[],#[.slice none 0 0],[]⟩).memory:=laidMet_of_run' 8 (by kernel_rfl) (by kernel_rfl)
theorem aaI:mapsRowed Tryz.prog=true:=by kernel_rfl
end Go.Proofs.YtcclepohmhdpbaaGreatDoor
namespace Go.Proofs.YtcclepohmhdpbaaGreatDoor
set_option linter.all false
open Go.RowKit Go.Deep
def fe(p:aA):Value:=.agg #[.int .i64 p.1,.int .i64 p.2]
def iz(s:Vd.bg):Value:=.agg #[.int .i64 s.1.1,.int .i64 s.1.2,.int .i64 s.2.1,.int .i64 s.2.2]
def dG(p:Vd.aL):Value:=.agg #[.int .i64 p.1.1,.int .i64 p.1.2,.int .i64 p.2]
theorem rA{x:Int}(h1:-9223372036854775808<=x)(h2:x<=9223372036854775807):wrap64 x=x:=by
 unfold wrap64;omega
theorem b7{a b A B:Int}(h1:-A<=a)(h2:a<=A)(h3:-B<=b)(h4:b<=B):-(A*B)<=a*b/\a*b<=A*B:=by
 have hA:0<=A:=(by omega);have hB:0<=B:=(by omega);have k1:a*b<=A*B:=(by rcases acg 0 b with h|h;{exact aex (TO h2 h) (IF h4 hA)};·have e:a*b=(-a)*(-b):=(by grind);rw[e];exact aex (TO (show-a<=A by omega) (by omega)) (IF (show-b<=B by omega) hA));have k2:-(A*B)<=a*b:=(by have:(-a)*b<=A*B:=(by rcases acg 0 b with h|h;{exact aex (TO (show-a<=A by omega) h) (IF h4 hA)};·have e:(-a)*b=a*(-b):=(by grind);rw[e];exact aex (TO h2 (by omega)) (IF (show-b<=B by omega) hA));have e:(-a)*b=-(a*b):=(by grind);omega);exact⟨k2,k1⟩
theorem WL{fn:Func}{p:Tmp}{ty:TypeId}(h:fn.results=#[.cell p ty])(tmps:Array Value)(P:Program)(w:World):(results fn tmps).run P w=((asAddr (tmps.getD p undef)).run P w).andThen λa w₁=>(loadVar ty a).run P w₁:=by
 simp only[results,h];simp[Sem.run_bind,Result.andThen]
theorem WM{W:World}{b:Nat}{v0 v1:Value}(h:aD W b 32 [v0,v1]):(loadVar 32 ⟨b,0,none⟩).run Tryz.prog W=.ok (.agg #[v0,v1]) W:=by
 have c0:=h.cell (i:=0) (v:=v0) rfl;have c1:=h.cell (i:=1) (v:=v1) rfl;simp[go_sem,c0,c1]
theorem WN{fn:Func}{p:Tmp}{ty:TypeId}(h:fn.results=#[.cell p ty]){a:Act}{W:World}{Q:Ending->World->Prop}{b:Nat}{v:Value}(h4:a.tmps.getD p undef=.pointer (some ⟨b,0,none⟩))(hd:a.defers=[])(hl:(loadVar ty ⟨b,0,none⟩).run Tryz.prog W=.ok v W)(hQ:Q (.returned v) W):bodyPost Tryz.prog fn Q .ret a W:=by
 refine bodyPost_ret (v:=v) ?_ hd hQ;rw[WL h,h4];simp only[asAddr,Sem.run_pure,Result.andThen_ok];exact hl
theorem gD{a b:Int}(h:a=b):Ending.returned (.int .i64 a)=.returned (.int .i64 b):=by rw[h]
theorem bK{a b:Bool}(h:a=b):Ending.returned (.bool a)=.returned (.bool b):=by rw[h]
theorem SD(n:Int)(w:World):Calls Tryz.prog 253 #[.int .i64 n] w λe w'=>e=.returned (.int .i64 (Vd.sg n))/\w'=w:=by
 rcases Vd.bM n with⟨h,e⟩|⟨h,e⟩|⟨h,e⟩;all_goals rw[e];clear e;go_enter Tryz.func253,Tryz.ntmps253;go_wp2;go_ret;exact⟨rfl,rfl⟩
theorem fN(p q:aA)(w:World):Calls Tryz.prog 236 #[fe p,fe q] w λe w'=>e=.returned (.bool (decide (Vd.bI p q)))/\Up w w':=by
 obtain⟨px,py⟩:=p;obtain⟨qx,qy⟩:=q;simp only[fe,Vd.bI];rcases aaf px qx with h|h|h;{go_enter Tryz.func236,Tryz.ntmps236;go_wp2;go_ret;exact⟨bK (by simp[h]),((Up.refl _).alloc _).alloc _⟩};{subst h;by_cases h2:py<qy;all_goals go_enter Tryz.func236,Tryz.ntmps236;go_wp2;go_ret;exact⟨bK (by simp;omega),((Up.refl _).alloc _).alloc _⟩};·have h1:¬px<qx:=(by omega);have h2:(px==qx)=false:=ff.2 (by omega);have h3:¬px=qx:=(by omega);go_enter Tryz.func236,Tryz.ntmps236;go_wp2;go_ret;exact⟨bK (by simp;omega),((Up.refl _).alloc _).alloc _⟩
theorem qB(p:aA)(w:World):Calls Tryz.prog 199 #[fe p] w λe w'=>e=.returned (dG (Vd.jZ p))/\Up w w':=by
 obtain⟨px,py⟩:=p;simp only[fe,dG,Vd.jZ];go_enter Tryz.func199,Tryz.ntmps199;go_wp2;exact bodyPost_ret (v:=.agg #[.int .i64 px,.int .i64 py,.int .i64 1]) (by simp[results,Tryz.results199,go_sem]) rfl ⟨rfl,((Up.refl _).alloc _).alloc _⟩
theorem Ns(p q:aA)(hp:Vd.Cd p)(hq:Vd.Cd q)(w:World):Calls Tryz.prog 202 #[fe p,fe q] w λe w'=>e=.returned (dG (Vd.bB p q))/\Up w w':=by
 obtain⟨px,py⟩:=p;obtain⟨qx,qy⟩:=q;simp only[Vd.Cd]at hp hq;simp only[fe,dG,Vd.bB];go_enter Tryz.func202,Tryz.ntmps202;go_wp2;exact bodyPost_ret (v:=.agg #[.int .i64 (px+qx),.int .i64 (py+qy),.int .i64 2]) (by simp[results,Tryz.results202,go_sem]) rfl ⟨rfl,(((Up.refl _).alloc _).alloc _).alloc _⟩
theorem kL(s:Vd.bg)(p:Vd.aL)(hs:Vd.oK s)(hp:Vd.Sp p)(w:World):Calls Tryz.prog 233 #[iz s,dG p] w λe w'=>e=.returned (.int .i64 (Vd.side s p))/\Up w w':=by
 obtain⟨⟨ax,ay⟩,⟨bx,bY⟩⟩:=s;obtain⟨⟨x,y⟩,t⟩:=p;simp only[Vd.oK,Vd.Cd,Vd.Sp]at hs hp;obtain⟨⟨a1,a2,a3,a4⟩,b1,b2,b3,b4⟩:=hs;obtain⟨p1,p2,p3,p4,p5,p6⟩:=hp;simp only[iz,dG,Vd.side,Vd.cr];obtain⟨m1,m2⟩:=b7 (a:=ax) (b:=t) (A:=32768) (B:=1048576) (by omega) a2 (by omega) p6;obtain⟨m3,m4⟩:=b7 (a:=ay) (b:=t) (A:=32768) (B:=1048576) (by omega) a4 (by omega) p6;obtain⟨n1,n2⟩:=b7 (a:=bx-ax) (b:=y-ay*t) (A:=65536) (B:=68719476736) (by omega) (by omega) (by omega) (by omega);obtain⟨n3,n4⟩:=b7 (a:=bY-ay) (b:=x-ax*t) (A:=65536) (B:=68719476736) (by omega) (by omega) (by omega) (by omega);have w1:wrap64 (ax*t)=ax*t:=rA (by omega) (by omega);have w2:wrap64 (ay*t)=ay*t:=rA (by omega) (by omega);have w3:wrap64 ((bx-ax)*(y-ay*t))=(bx-ax)*(y-ay*t):=rA (by omega) (by omega);have w4:wrap64 ((bY-ay)*(x-ax*t))=(bY-ay)*(x-ax*t):=rA (by omega) (by omega);have w5:wrap64 (x-ax*t)=x-ax*t:=rA (by omega) (by omega);have w6:wrap64 (y-ay*t)=y-ay*t:=rA (by omega) (by omega);have w7:wrap64 ((bx-ax)*(y-ay*t)-(bY-ay)*(x-ax*t))=(bx-ax)*(y-ay*t)-(bY-ay)*(x-ax*t):=rA (by omega) (by omega);go_enter Tryz.func233,Tryz.ntmps233;go_wp2_with(go_at_call 253;refine(SD _ _).mono ?_;rintro e w1⟨rfl,rfl⟩);go_ret;exact⟨rfl,((Up.refl _).alloc _).alloc _⟩
structure Gr(w:World)where
 v:World
 up:Up w v
instance(w:World):Nonempty (Gr w):=⟨⟨w,Up.refl w⟩⟩
theorem aH{P:Program}{id:Nat}{Q:Exit->Act->World->Prop}{a:Act}{w:World}{l:List Oper}(hm:P.follows .mixedOrders=true)(hB:Region.lexB .any l.toArray=true)(h:wpQuiet P l.toArray (λw'=>∃g:Gr w,w'=g.v) (λa'=>∀w',(∃g:Gr w,w'=g.v)->Q .normal a' w') l a):(Code.region id l.toArray true).wp P Q a w:=wp_region_quiet (C:=λw'=>∃g:Gr w,w'=g.v) hm hB ⟨⟨_,(Up.refl w).drew⟩,rfl⟩ (by simpa using h)
theorem Calls.ck{P:Program}{f:FuncId}{args:Array Value}{w:World}{g:Gr w}{v:Value}(h:Calls P f args g.v λe w'=>e=.returned v/\Up g.v w'):Calls P f args g.v λe w''=>e=.returned v/\∃m:Gr w,w''=m.v:=h.mono λ_ _⟨he,hu⟩=>⟨he,⟨_,g.up.trans hu⟩,rfl⟩
theorem aD.gr{w:World}{b:Nat}{t:TypeId}{vs:List Value}(h:aD w b t vs){i:Nat}{v:Value}(hi:vs[i]?=some v)(g:Gr w):g.v.cell? ⟨b,i,none⟩=some v:=g.up.cell (h.cell hi)
theorem aO{w:World}{p:Addr}{v:Value}(h:w.cell? p=some v)(g:Gr w):g.v.cell? p=some v:=g.up.cell h
theorem KY{W w1:World}(hb:Up W w1):(∀b o,b<W.heap.size->w1.cell? ⟨b,o,none⟩=W.cell? ⟨b,o,none⟩)/\(∀b o,b<W.heap.size->w1.frozen? ⟨b,o,none⟩=W.frozen? ⟨b,o,none⟩):=⟨λb o h=>Below.cell hb (p:=⟨b,o,none⟩) h,λb o h=>Below.frozen hb (p:=⟨b,o,none⟩) h⟩
end Go.Proofs.YtcclepohmhdpbaaGreatDoor
