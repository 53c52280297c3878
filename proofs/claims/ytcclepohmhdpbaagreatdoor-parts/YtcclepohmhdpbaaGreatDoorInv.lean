import Derived.Test.YtcclepohmhdpbaaGreatDoorWalkJ
import Derived.Test.YtcclepohmhdpbaaGreatDoorWalkF
import Derived.Deep.DeepCutAuto
import Derived.Test.YtcclepohmhdpbaaGreatDoorWalkI
import Derived.Test.YtcclepohmhdpbaaGreatDoorWalkH
import Derived.Test.YtcclepohmhdpbaaGreatDoorWalkB
set_option maxHeartbeats 4000000
set_option maxRecDepth 100000
namespace Go.Proofs.YtcclepohmhdpbaaGreatDoor
set_option linter.all false
open Go.RowKit Go.Deep
theorem Ph(F:Nat->Prop)(w:World)(Wb:Nat)(mF lv kQ:Value)(mk:Int)(O:List OG)(hW:WR w Wb mF lv kQ mk)(hown:w.ownsRow 0 98 6 kQ O.length (Mx O))(hO:∀o∈O,HSo F w o)(hb:O.length<=1073741824):Calls Tryz.prog 44 #[.pointer (some ⟨Wb,0,none⟩)] w fun e w'=>e=.returned (.bool true)∧Dr w w':=by
 obtain⟨ao,cap,rfl⟩:=kO hown;have H2:=jO hW.c2;have KN:=jO hown;have hO':=jO hO;clear hW hown hO;go_enter Tryz.func44,Tryz.ntmps44;go_wp2;go_loopw[3](fun i wr=>∃k:Nat,k<=O.length∧i=.int .i64 k∧Dr w wr)(fun i _=>O.length-(intOf i).toNat);(case atStart=>exact⟨0,aD _,rfl,Dr.refl _⟩);case round=>obtain⟨k,hk,rfl,xO⟩:=hrel;have Jy:=jO xO;have c2:=xO.up.cell H2.out;by_cases hlt:k<O.length;{obtain⟨o,ho⟩:=Pl.jQ hlt;obtain⟨g,cap',e,hc⟩:=lI KN.out (by omega);cases e;obtain⟨R,P,n,hs⟩:=hO'.out o (Pl.jP ho);have hs':=jO (hs.keep (Fr.nS (S:=fun _=>False) xO.up) (fun b _ hb=>⟨hb,fun h=>h⟩));have k0:=jO (xO.up.cell (hc _ _ (wm O k o 0 _ ho rfl)));have k1:=jO (xO.up.cell (hc _ _ (wm O k o 1 _ ho rfl)));have k2:=jO (xO.up.cell (hc _ _ (wm O k o 2 _ ho rfl)));have k3:=jO (xO.up.cell (hc _ _ (wm O k o 3 _ ho rfl)));have k4:=jO (xO.up.cell (hc _ _ (wm O k o 4 _ ho rfl)));have k5:=jO (xO.up.cell (hc _ _ (wm O k o 5 _ ho rfl)));clear xO hs hc ho;go_wp2_with(go_at_call 69;refine(Pg F _ g (k*6) o.sv o.pv o.rv o.rmv o.pmv o.sm R P n hs'.out k0.out k1.out k2.out k3.out k4.out k5.out).mono ?_;rintro e w1⟨rfl,Mu⟩;replace Mu:=jO Mu);go_roundw;(case rel=>exact⟨k+1,by omega,by go_num,Jy.out.trans Mu.out⟩);case measure=>simp[intOf];omega};·have:k=O.length:=(by omega);subst this;clear xO;go_wp2;go_ret;exact⟨rfl,Jy.out⟩
theorem KO(v u:Value)(r:Ring)(w:World)(hv:wh w v r)(hu:wh w u r)(hb:r.length<=1048576):Calls Tryz.prog 54 #[v,u] w fun e w'=>e=.returned (.bool false)∧∃n,w'=w.drewN n:=by
 obtain⟨ao,cap,rfl,hm⟩:=hv;obtain⟨rS,mq,rfl,hm2⟩:=hu;go_enter Tryz.func54,Tryz.ntmps54;go_wp2;go_loopw[5](fun i wr=>∃k:Nat,k<=r.length∧i=.int .i64 k∧∃n,wr=w.drewN n)(fun i _=>r.length-(intOf i).toNat);(case atStart=>exact⟨0,aD _,rfl,0,rfl⟩);case round=>obtain⟨k,hk,rfl,n,rfl⟩:=hrel;by_cases hlt:k<r.length;{obtain⟨⟨x,y⟩,hp⟩:=Pl.jQ hlt;obtain⟨b,rfl,c1,c2⟩:=hm k _ hp;obtain⟨b2,rfl,c3,c4⟩:=hm2 k _ hp;dsimp only at c1 c2 c3 c4;have hm':=jO hm;have aoY:=jO hm2;clear hm hm2 hp;go_wp2;go_quiet(fail);go_wp2;go_quiet(fail);go_wp2;go_roundw;(case rel=>exact⟨k+1,by omega,by go_num,_,rfl⟩);case measure=>simp[intOf];omega};·have:k=r.length:=(by omega);subst this;go_wp2;go_ret;exact⟨rfl,_,rfl⟩
theorem Iy(v u:Value)(m:jX)(w:World)(hv:vM w v m)(hu:vM w u m)(hb:Pl.Bd m):Calls Tryz.prog 29 #[v,u] w fun e w'=>e=.returned (.bool true)∧∃n,w'=w.drewN n:=by
 obtain⟨ao,cap,rfl,hm⟩:=hv;obtain⟨rS,mq,rfl,hm2⟩:=hu;have hlen:=hb.len;have hb':=jO hb;clear hb;go_enter Tryz.func29,Tryz.ntmps29;go_wp2;go_loopw[5](fun i wr=>∃k:Nat,k<=m.length∧i=.int .i64 k∧Dr w wr)(fun i _=>m.length-(intOf i).toNat);(case atStart=>exact⟨0,aD _,rfl,Dr.refl _⟩);case round=>obtain⟨k,hk,rfl,xO⟩:=hrel;have Jy:=jO xO;clear xO;by_cases hlt:k<m.length;{obtain⟨l,hl⟩:=Pl.jQ hlt;obtain⟨b,x,rfl,hc,ao3,vN,rfl,hr⟩:=hm k l hl;obtain⟨b2,y,rfl,zo,ao4,aoZ,rfl,AK⟩:=hm2 k l hl;have UG:=hb'.out.poly l (Pl.jP hl);have hrr:=jO (hb'.out.ring l (Pl.jP hl));have hm':=jO hm;have aoY:=jO hm2;have hr':=jO hr;have ao5:=jO AK;have gc:=Jy.out.up.cell hc;have gc2:=Jy.out.up.cell zo;have hcH:=jO hc;have ao6:=jO zo;clear hm hm2 hl hr AK hc zo;go_wp2;go_quiet(fail);go_wp2;go_loopw[6](fun j wr=>∃q:Nat,q<=l.length∧j=.int .i64 q∧Dr w wr)(fun j _=>l.length-(intOf j).toNat);(case atStart=>exact⟨0,aD _,rfl,Jy.out.n _⟩);case round=>obtain⟨q,hq,rfl,FI⟩:=hrel;have FJ:=jO FI;have ec:=FI.up.cell hcH.out;have ec2:=FI.up.cell ao6.out;clear FI gc gc2;by_cases pS:q<l.length;{obtain⟨r,A6⟩:=Pl.jQ pS;obtain⟨b3,x3,rfl,hc3,hd3⟩:=hr'.out q r A6;obtain⟨b4,x4,rfl,hc4,Jz⟩:=ao5.out q r A6;have hrl:=jO (hrr.out r (Pl.jP A6));have akW:=jO (hd3.up FJ.out.up);have akX:=jO (Jz.up FJ.out.up);have gc3:=FJ.out.up.cell hc3;have gc4:=FJ.out.up.cell hc4;clear A6 hd3 Jz hc3 hc4;go_wp2;go_quiet((go_at_call 54;refine Calls.quiet_of (KO _ _ r _ ?_ ?_ ?_);exact akW.out.up ((Up.refl _).drewN _);exact akX.out.up ((Up.refl _).drewN _);exact hrl.out));have hdx:Dr wr (wr.drewN nq):=⟨nq,rfl⟩;generalize wr.drewN nq=wx at hdx⊢;have ahw:=jO hdx;have xc:=hdx.up.cell ec;have xc2:=hdx.up.cell ec2;have xc3:=hdx.up.cell gc3;have xc4:=hdx.up.cell gc4;clear hdx ec ec2 gc3 gc4;go_wp2;go_quiet((go_at_call 54;refine Calls.quiet_of (KO _ _ r _ ?_ ?_ ?_);exact(akX.out.up ahw.out.up).up ((Up.refl _).drewN _);exact(akW.out.up ahw.out.up).up ((Up.refl _).drewN _);exact hrl.out));go_wp2;go_roundw;(case rel=>exact⟨q+1,by omega,by go_num,(FJ.out.trans ahw.out).n _⟩);case measure=>simp[intOf];omega};·have:q=l.length:=(by omega);subst this;go_wp2;go_roundw;(case rel=>exact⟨k+1,by omega,by go_num,FJ.out⟩);case measure=>simp[intOf];omega};·have:k=m.length:=(by omega);subst this;go_wp2;go_ret;exact⟨rfl,Jy.out⟩
theorem Fr.then{S T:Nat->Prop}{a b c:World}(h:Fr S a b)(k:Fr T b c)(hT:∀x,x<a.heap.size->T x->S x):Fr S a c:=⟨k.os.trans h.os,k.tape.trans h.tape,k.output.trans h.output,cT h.size k.size,fun i hi hs=>(k.block i (gu hi h.size) (fun e=>hs (hT i hi e))).trans (h.block i hi hs)⟩
theorem Fr.ym{w w':World}{row:Option Nat}(h:w.grownBy w' row):Fr (fun b=>row=some b) w w':=⟨h.os,h.tape,h.output,h.size,fun b hb hs=>h.block b hb (fun e=>hs e.symm)⟩
def Rc2(w:World)(v:Value)(l:Poly):Prop:=∃ao cap,v=.slice ao l.length cap∧l.length<=cap∧∀i r,l[i]?=some r->∃b u,ao=some ⟨b,0,none⟩∧w.cell? ⟨b,i,none⟩=some u∧wh w u r
def KP(w:World)(v:Value)(m:jX):Prop:=∃ao cap,v=.slice ao m.length cap∧∀i l,m[i]?=some l->∃b u,ao=some ⟨b,0,none⟩∧w.cell? ⟨b,i,none⟩=some u∧Rc2 w u l
theorem Rc2.up{w w':World}{v:Value}{l:Poly}(h:Rc2 w v l)(k:Up w w'):Rc2 w' v l:=by
 obtain⟨ao,cap,e,hc,h⟩:=h;exact⟨ao,cap,e,hc,fun i r hr=>by obtain⟨b,u,eb,c,q⟩:=h i r hr;exact⟨b,u,eb,k.cell c,q.up k⟩⟩
theorem KP.up{w w':World}{v:Value}{m:jX}(h:KP w v m)(k:Up w w'):KP w' v m:=by
 obtain⟨ao,cap,e,h⟩:=h;exact⟨ao,cap,e,fun i r hr=>by obtain⟨b,u,eb,c,q⟩:=h i r hr;exact⟨b,u,eb,k.cell c,q.up k⟩⟩
theorem Rc2.rd{w:World}{v:Value}{l:Poly}(h:Rc2 w v l):wj w v l:=by
 obtain⟨ao,cap,e,-,h⟩:=h;exact⟨ao,cap,e,h⟩
theorem KP.rd{w:World}{v:Value}{m:jX}(h:KP w v m):vM w v m:=by
 obtain⟨ao,cap,e,h⟩:=h;exact⟨ao,cap,e,fun i r hr=>by obtain⟨b,u,eb,c,q⟩:=h i r hr;exact⟨b,u,eb,c,q.rd⟩⟩
theorem FG.rc{w:World}{d:D2}(h:FG w d):Rc2 w d.v d.pts:=by
 refine⟨some ⟨d.b,0,none⟩,_,by unfold D2.v D2.pts;rw[aH],by unfold D2.pts;rw[aH];exact Nat.le_add_right _ _,fun i r hr=>?_⟩;unfold D2.pts at hr;rw[aI,b6]at hr;obtain⟨y,hy,rfl⟩:=hr;have VC:(d.rs++d.s)[i]?=some y:=(by rw[bh (Pl.jW hy)];exact hy);exact⟨d.b,y.v,rfl,h.row.cell (by rw[aI,VC];rfl),(h.sub y (Pl.jP VC)).rd⟩
theorem Dn.rc{w:World}{d:D3}(h:Dn w d):KP w d.v d.m:=by
 refine⟨some ⟨d.b,0,none⟩,_,by unfold D3.v D3.m;rw[aH],fun i r hr=>?_⟩;unfold D3.m at hr;rw[aI,b6]at hr;obtain⟨y,hy,rfl⟩:=hr;have VC:(d.ps++d.s)[i]?=some y:=(by rw[bh (Pl.jW hy)];exact hy);exact⟨d.b,y.v,rfl,h.row.cell (by rw[aI,VC];rfl),(h.sub y (Pl.jP VC)).rc⟩
def Kept(F:Nat->Prop)(w:World)(R:World->Prop):Prop:=∃l:List Nat,(∀b∈l,b<w.heap.size∧F b)∧∀w':World,(∀b∈l,w'.heap[b]?=w.heap[b]?)->R w'
theorem Kept.now{F:Nat->Prop}{w:World}{R:World->Prop}(h:Kept F w R):R w:=by
 obtain⟨l,_,h⟩:=h;exact h w fun _ _=>rfl
theorem Kept.keep{F F' S:Nat->Prop}{w w':World}{R:World->Prop}(h:Kept F w R)(k:Fr S w w')(hF:∀b,b<w.heap.size->F b->F' b∧¬S b):Kept F' w' R:=by
 obtain⟨l,h1,h2⟩:=h;refine⟨l,fun b hb=>⟨gu (h1 b hb).1 k.size,(hF b (h1 b hb).1 (h1 b hb).2).1⟩,fun w2 e=>h2 w2 fun b hb=>(e b hb).trans ?_⟩;exact k.block b (h1 b hb).1 (hF b (h1 b hb).1 (h1 b hb).2).2
structure SV where
 a:Option Addr
 n:Nat
 c:Nat
def SV.v(d:SV):Value:=.slice d.a d.n d.c
structure SG where
 x:Value
 m:jX
 bx:Nat
 dx:SV
 dm:SV
def SG.cells(s:SG):List Value:=[s.x,s.dm.v]
def tP(S:List SG):List Value:=S.flatMap SG.cells
structure Dt(F:Nat->Prop)(w:World)(s:SG):Prop where
 ptr:s.x=.pointer (some ⟨s.bx,0,none⟩)
 kx:Kept F w fun w=>jV w s.bx 78 [s.dx.v]∧KP w s.dx.v s.m
 km:Kept F w fun w=>KP w s.dm.v s.m
 bd:Pl.Bd s.m
 ok0:Pl.wrong s.m=0
theorem Iq.lt{w:World}{v:Value}{m:jX}{b:Nat}{d:D3}(h:Iq w v m b d):∀x∈b::d.bl,x<w.heap.size:=by
 intro x hx;rcases aF.1 hx with rfl|hx;{exact h.cell.lt};·exact h.ok.lt x hx
theorem Iq.frr{S:Nat->Prop}{w w':World}{v:Value}{m:jX}{b:Nat}{d:D3}(h:Iq w v m b d)(k:Fr S w w')(hs:∀x∈b::d.bl,¬S x):Iq w' v m b d:=⟨h.ptr,k.row h.cell (hs b (by simp)),k.ok3 h.ok (fun x hx=>hs x (by simp[hx])),h.pts⟩
theorem Dt.keep{F F':Nat->Prop}{S:Nat->Prop}{w w':World}{s:SG}(h:Dt F w s)(k:Fr S w w')(hF:∀b,b<w.heap.size->F b->F' b∧¬S b):Dt F' w' s:=⟨h.ptr,h.kx.keep k hF,h.km.keep k hF,h.bd,h.ok0⟩
def D3.sv(d:D3):SV:=⟨some ⟨d.b,0,none⟩,d.ps.length,d.ps.length+d.s.length⟩
theorem Dn.kept{F:Nat->Prop}{w:World}{d:D3}(h:Dn w d)(hf:∀b∈d.bl,F b):Kept F w fun w=>KP w d.sv.v d.m:=⟨d.bl,fun b hb=>⟨h.lt b hb,hf b hb⟩,fun w' e=>(h.of e).rc⟩
theorem Iq.kept{F:Nat->Prop}{w:World}{v:Value}{m:jX}{b:Nat}{d:D3}(h:Iq w v m b d)(hf:∀x∈b::d.bl,F x):Kept F w fun w=>jV w b 78 [d.sv.v]∧KP w d.sv.v m:=⟨b::d.bl,fun x hx=>⟨h.lt x hx,hf x hx⟩,fun w' e=>⟨h.cell.of_block (e b (by simp)),by have:=(h.ok.of fun x hx=>e x (by simp[hx])).rc;rw[h.pts]at this;exact this⟩⟩
theorem Dt.of3{F:Nat->Prop}{w:World}{v:Value}{m:jX}{b:Nat}{d d2:D3}(h:Iq w v m b d)(h2:Dn w d2)(e:d2.m=m)(hf:∀x∈b::d.bl,F x)(Rz:∀x∈d2.bl,F x)(hb:Pl.Bd m)(h0:Pl.wrong m=0):Dt F w ⟨v,m,b,d.sv,d2.sv⟩:=⟨h.ptr,h.kept hf,e▸h2.kept Rz,hb,h0⟩
theorem Pj(S:List SG)(s:SG):tP (S++[s])=tP S++s.cells:=by simp[tP]
theorem WE(S:List SG):∀(i:Nat)(s:SG),S[i]?=some s->(tP S)[i*2]?=some s.x∧(tP S)[i*2+1]?=some s.dm.v:=by induction S with|nil=>intro i s h;simp at h|cons a t ih=>intro i s h;cases i with|zero=>simp at h;subst h;exact⟨rfl,rfl⟩|succ i=>have:=ih i s (by simpa using h);have e1:(i+1)*2=i*2+1+1:=(by omega);rw[e1];show(a.x::a.dm.v::tP t)[i*2+1+1]?=_∧(a.x::a.dm.v::tP t)[i*2+1+1+1]?=_;exact⟨by simpa using this.1,by simpa using this.2⟩
structure L1 where
 v:Value
 r:Ring
structure L2 where
 v:Value
 rs:List L1
structure L3 where
 v:Value
 ps:List L2
def L1.bl(x:L1):List Nat:=x.v.ownBlock.toList
def L2.bl(x:L2):List Nat:=x.v.ownBlock.toList++x.rs.flatMap L1.bl
def L3.bl(x:L3):List Nat:=x.v.ownBlock.toList++x.ps.flatMap L2.bl
def L2.pts(x:L2):Poly:=x.rs.map L1.r
def L3.m(x:L3):jX:=x.ps.map L2.pts
def L1.ok(w:World)(x:L1):Prop:=w.ownsRow 0 32 2 x.v x.r.length (flat x.r)
structure L2.ok(w:World)(x:L2):Prop where
 row:w.ownsRow 0 30 1 x.v x.rs.length (x.rs.map L1.v)
 sub:∀y∈x.rs,y.ok w
structure L3.ok(w:World)(x:L3):Prop where
 row:w.ownsRow 0 33 1 x.v x.ps.length (x.ps.map L2.v)
 sub:∀y∈x.ps,y.ok w
theorem L1.ok.of{w w':World}{x:L1}(h:x.ok w)(k:∀b∈x.bl,w'.heap[b]?=w.heap[b]?):x.ok w':=qz h fun g hg=>k g (by simp[L1.bl,hg])
theorem L2.ok.of{w w':World}{x:L2}(h:x.ok w)(k:∀b∈x.bl,w'.heap[b]?=w.heap[b]?):x.ok w':=⟨qz h.row fun g hg=>k g (by simp[L2.bl,hg]),fun y hy=>(h.sub y hy).of fun b hb=>k b (by simp only[L2.bl,aj,cB];exact .inr ⟨y,hy,hb⟩)⟩
theorem L3.ok.of{w w':World}{x:L3}(h:x.ok w)(k:∀b∈x.bl,w'.heap[b]?=w.heap[b]?):x.ok w':=⟨qz h.row fun g hg=>k g (by simp[L3.bl,hg]),fun y hy=>(h.sub y hy).of fun b hb=>k b (by simp only[L3.bl,aj,cB];exact .inr ⟨y,hy,hb⟩)⟩
theorem L1.ok.lt{w:World}{x:L1}(h:x.ok w):∀b∈x.bl,b<w.heap.size:=fun b hb=>(lH h (by simpa[L1.bl]using hb)).2
theorem L2.ok.lt{w:World}{x:L2}(h:x.ok w):∀b∈x.bl,b<w.heap.size:=fun b hb=>by simp only[L2.bl,aj,cB]at hb;rcases hb with hb|⟨y,hy,hb⟩;{exact(lH h.row (by simpa using hb)).2};·exact(h.sub y hy).lt b hb
theorem L3.ok.lt{w:World}{x:L3}(h:x.ok w):∀b∈x.bl,b<w.heap.size:=fun b hb=>by simp only[L3.bl,aj,cB]at hb;rcases hb with hb|⟨y,hy,hb⟩;{exact(lH h.row (by simpa using hb)).2};·exact(h.sub y hy).lt b hb
theorem L1.ok.rd{w:World}{x:L1}(h:x.ok w):wh w x.v x.r:=by
 obtain⟨ao,cap,e⟩:=kO h;refine⟨ao,cap,e,fun i p hp=>?_⟩;obtain⟨g,cap',e',hc⟩:=lI h (by have:=Pl.jW hp;omega);rw[e]at e';cases e';have:=sC _ _ _ hp;exact⟨g,rfl,hc _ _ this.1,hc _ _ this.2⟩
theorem L2.ok.rd{w:World}{x:L2}(h:x.ok w):wj w x.v x.pts:=by
 obtain⟨ao,cap,e⟩:=kO h.row;refine⟨ao,cap,by rw[e];simp[L2.pts],fun i p hp=>?_⟩;simp only[L2.pts,aI,b6]at hp;obtain⟨y,hy,rfl⟩:=hp;obtain⟨g,cap',e',hc⟩:=lI h.row (by have:=Pl.jW hy;omega);rw[e]at e';cases e';exact⟨g,y.v,rfl,hc _ _ (by rw[aI,hy];rfl),(h.sub y (Pl.jP hy)).rd⟩
theorem L3.ok.rd{w:World}{x:L3}(h:x.ok w):vM w x.v x.m:=by
 obtain⟨ao,cap,e⟩:=kO h.row;refine⟨ao,cap,by rw[e];simp[L3.m],fun i p hp=>?_⟩;simp only[L3.m,aI,b6]at hp;obtain⟨y,hy,rfl⟩:=hp;obtain⟨g,cap',e',hc⟩:=lI h.row (by have:=Pl.jW hy;omega);rw[e]at e';cases e';exact⟨g,y.v,rfl,hc _ _ (by rw[aI,hy];rfl),(h.sub y (Pl.jP hy)).rd⟩
def Mz(Wb:Nat)(mF kQ:Value)(L:L3)(b:Nat):Prop:=b=Wb∨mF.ownBlock=some b∨kQ.ownBlock=some b∨b∈L.bl
def tot(m:jX):Nat:=m.length+Pl.nR m+Pl.nP m
structure Inv(w0 w:World)(Wb:Nat)(mF kQ:Value)(mk:Int)(S:List SG)(O:List OG)(L:L3)(n:Nat):Prop where
 nV:WR w Wb mF L.v kQ mk
 ops:w.ownsRow 0 52 2 mF S.length (tP S)
 FK:w.ownsRow 0 98 6 kQ O.length (Mx O)
 Ah:L.ok w
 nodup:L.bl.Nodup
 sets:∀s∈S,Dt (fun b=>¬Mz Wb mF kQ L b) w s
 outs:∀o∈O,HSo (fun b=>¬Mz Wb mF kQ L b) w o
 bS:S.length<=n
 bO:O.length<=n*3
 mk0:0<=mk
 Sc:mk<=n*2097152
 Cg:tot L.m<=n
 base:Up w0 w
 low:∀b,Mz Wb mF kQ L b->w0.heap.size<=b
theorem EE{l:List Nat}{x:Nat}(h:x∈l):x<=l.sum:=by induction l with|nil=>cases h|cons a t ih=>rw[gd];rcases aF.1 h with rfl|h;{omega};·have:=ih h;omega
theorem ahx{m:jX}{n:Nat}(h:tot m<=n)(hn:n<=1048576):Pl.Bd m:=by
 unfold tot at h;have h1:∀l∈m,l.length<=Pl.nR m:=fun l hl=>(by unfold Pl.nR;exact EE (bJ hl));have h2:∀l∈m,∀r∈l,r.length<=Pl.nP m:=fun l hl r hr=>(by have a:r.length<=Pl.y9 l:=(by unfold Pl.y9;exact EE (bJ hr));have b:Pl.y9 l<=Pl.nP m:=(by unfold Pl.nP;exact EE (bJ hl));omega);exact⟨by omega,fun l hl=>by have:=h1 l hl;omega,fun l hl r hr=>by have:=h2 l hl r hr;omega⟩
end Go.Proofs.YtcclepohmhdpbaaGreatDoor
