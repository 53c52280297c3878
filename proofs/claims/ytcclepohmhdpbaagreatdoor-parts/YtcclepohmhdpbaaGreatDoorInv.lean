import Derived.Test.YtcclepohmhdpbaaGreatDoorWalkJ
import Derived.Test.YtcclepohmhdpbaaGreatDoorWalkF
import Derived.Deep.DeepCutAuto
import Derived.Test.YtcclepohmhdpbaaGreatDoorWalkI
import Derived.Test.YtcclepohmhdpbaaGreatDoorWalkH
import Derived.Test.YtcclepohmhdpbaaGreatDoorWalkB
set_option maxHeartbeats 4000000
set_option maxRecDepth 100000
namespace Go.Proofs.YtcclepohmhdpbaaGreatDoor
set_option linter.all false
open Go.RowKit Go.Deep
theorem KN(F:Nat->Prop)(w:World)(Wb:Nat)(dK lv bG:Value)(mk:Int)(O:List OG)(hW:WR w Wb dK lv bG mk)(hown:w.ownsRow 0 98 6 bG O.length (Hv O))(hO:∀o∈O,HSo F w o)(hb:O.length<=1073741824):Calls Tryz.prog 44 #[.pointer (some ⟨Wb,0,none⟩)] w λe w'=>e=.returned (.bool true)/\Dr w w':=by
 obtain⟨ao,cap,rfl⟩:=bE hown;have H2:=ag hW.c2;have FH:=ag hown;have hO':=ag hO;clear hW hown hO;go_enter Tryz.func44,Tryz.ntmps44;go_wp2;go_loopw[3](λi wr=>∃k:Nat,k<=O.length/\i=.int .i64 k/\Dr w wr)(λi _=>O.length-(intOf i).toNat);(case atStart=>exact⟨0,oE _,rfl,Dr.refl _⟩);case round=>obtain⟨k,hk,rfl,qE⟩:=hrel;have El:=ag qE;have c2:=qE.up.cell H2.out;by_cases hlt:k<O.length;{obtain⟨o,ho⟩:=Pl.ai hlt;obtain⟨g,cap',e,hc⟩:=cE FH.out (by omega);cases e;obtain⟨R,P,n,hs⟩:=hO'.out o (Pl.ah ho);have hs':=ag (hs.keep (Fr.fD (S:=λ_=>False) qE.up) (λb _ hb=>⟨hb,λh=>h⟩));have k0:=ag (qE.up.cell (hc _ _ (oT O k o 0 _ ho rfl)));have k1:=ag (qE.up.cell (hc _ _ (oT O k o 1 _ ho rfl)));have k2:=ag (qE.up.cell (hc _ _ (oT O k o 2 _ ho rfl)));have k3:=ag (qE.up.cell (hc _ _ (oT O k o 3 _ ho rfl)));have k4:=ag (qE.up.cell (hc _ _ (oT O k o 4 _ ho rfl)));have k5:=ag (qE.up.cell (hc _ _ (oT O k o 5 _ ho rfl)));clear qE hs hc ho;go_wp2_with(go_at_call 69;refine(KL F _ g (k*6) o.sv o.pv o.rv o.Wq o.Ws o.sm R P n hs'.out k0.out k1.out k2.out k3.out k4.out k5.out).mono ?_;rintro e w1⟨rfl,Hi⟩;replace Hi:=ag Hi);go_roundw;(case rel=>exact⟨k+1,by omega,by go_num,El.out.trans Hi.out⟩);case measure=>simp[intOf];omega};·have:k=O.length:=(by omega);subst this;clear qE;go_wp2;go_ret;exact⟨rfl,El.out⟩
theorem FI(v u:Value)(r:Ring)(w:World)(hv:oQ w v r)(hu:oQ w u r)(hb:r.length<=1048576):Calls Tryz.prog 54 #[v,u] w λe w'=>e=.returned (.bool false)/\∃n,w'=w.drewN n:=by
 obtain⟨ao,cap,rfl,hm⟩:=hv;obtain⟨kD,dH,rfl,hm2⟩:=hu;go_enter Tryz.func54,Tryz.ntmps54;go_wp2;go_loopw[5](λi wr=>∃k:Nat,k<=r.length/\i=.int .i64 k/\∃n,wr=w.drewN n)(λi _=>r.length-(intOf i).toNat);(case atStart=>exact⟨0,oE _,rfl,0,rfl⟩);case round=>obtain⟨k,hk,rfl,n,rfl⟩:=hrel;by_cases hlt:k<r.length;{obtain⟨⟨x,y⟩,hp⟩:=Pl.ai hlt;obtain⟨b,rfl,c1,c2⟩:=hm k _ hp;obtain⟨b2,rfl,c3,c4⟩:=hm2 k _ hp;dsimp only at c1 c2 c3 c4;have hm':=ag hm;have alg:=ag hm2;clear hm hm2 hp;go_wp2;go_quiet(fail);go_wp2;go_quiet(fail);go_wp2;go_roundw;(case rel=>exact⟨k+1,by omega,by go_num,_,rfl⟩);case measure=>simp[intOf];omega};·have:k=r.length:=(by omega);subst this;go_wp2;go_ret;exact⟨rfl,_,rfl⟩
theorem Dl(v u:Value)(m:aF)(w:World)(hv:oF w v m)(hu:oF w u m)(hb:Pl.Bd m):Calls Tryz.prog 29 #[v,u] w λe w'=>e=.returned (.bool true)/\∃n,w'=w.drewN n:=by
 obtain⟨ao,cap,rfl,hm⟩:=hv;obtain⟨kD,dH,rfl,hm2⟩:=hu;have hlen:=hb.len;have hb':=ag hb;clear hb;go_enter Tryz.func29,Tryz.ntmps29;go_wp2;go_loopw[5](λi wr=>∃k:Nat,k<=m.length/\i=.int .i64 k/\Dr w wr)(λi _=>m.length-(intOf i).toNat);(case atStart=>exact⟨0,oE _,rfl,Dr.refl _⟩);case round=>obtain⟨k,hk,rfl,qE⟩:=hrel;have El:=ag qE;clear qE;by_cases hlt:k<m.length;{obtain⟨l,hl⟩:=Pl.ai hlt;obtain⟨b,x,rfl,hc,ao3,oG,rfl,hr⟩:=hm k l hl;obtain⟨b2,y,rfl,sG,ao4,alh,rfl,uF⟩:=hm2 k l hl;have PV:=hb'.out.poly l (Pl.ah hl);have hrr:=ag (hb'.out.ring l (Pl.ah hl));have hm':=ag hm;have alg:=ag hm2;have hr':=ag hr;have ali:=ag uF;have gc:=El.out.up.cell hc;have gc2:=El.out.up.cell sG;have hcH:=ag hc;have alj:=ag sG;clear hm hm2 hl hr uF hc sG;go_wp2;go_quiet(fail);go_wp2;go_loopw[6](λj wr=>∃q:Nat,q<=l.length/\j=.int .i64 q/\Dr w wr)(λj _=>l.length-(intOf j).toNat);(case atStart=>exact⟨0,oE _,rfl,El.out.n _⟩);case round=>obtain⟨q,hq,rfl,AR⟩:=hrel;have AU:=ag AR;have ec:=AR.up.cell hcH.out;have ec2:=AR.up.cell alj.out;clear AR gc gc2;by_cases iF:q<l.length;{obtain⟨r,uY⟩:=Pl.ai iF;obtain⟨b3,x3,rfl,hc3,hd3⟩:=hr'.out q r uY;obtain⟨b4,x4,rfl,hc4,Em⟩:=ali.out q r uY;have hrl:=ag (hrr.out r (Pl.ah uY));have ahl:=ag (hd3.up AU.out.up);have ahm:=ag (Em.up AU.out.up);have gc3:=AU.out.up.cell hc3;have gc4:=AU.out.up.cell hc4;clear uY hd3 Em hc3 hc4;go_wp2;go_quiet((go_at_call 54;refine Calls.quiet_of (FI _ _ r _ ?_ ?_ ?_);exact ahl.out.up ((Up.refl _).drewN _);exact ahm.out.up ((Up.refl _).drewN _);exact hrl.out));have hdx:Dr wr (wr.drewN nq):=⟨nq,rfl⟩;generalize wr.drewN nq=wx at hdx⊢;have adW:=ag hdx;have xc:=hdx.up.cell ec;have xc2:=hdx.up.cell ec2;have xc3:=hdx.up.cell gc3;have xc4:=hdx.up.cell gc4;clear hdx ec ec2 gc3 gc4;go_wp2;go_quiet((go_at_call 54;refine Calls.quiet_of (FI _ _ r _ ?_ ?_ ?_);exact(ahm.out.up adW.out.up).up ((Up.refl _).drewN _);exact(ahl.out.up adW.out.up).up ((Up.refl _).drewN _);exact hrl.out));go_wp2;go_roundw;(case rel=>exact⟨q+1,by omega,by go_num,(AU.out.trans adW.out).n _⟩);case measure=>simp[intOf];omega};·have:q=l.length:=(by omega);subst this;go_wp2;go_roundw;(case rel=>exact⟨k+1,by omega,by go_num,AU.out⟩);case measure=>simp[intOf];omega};·have:k=m.length:=(by omega);subst this;go_wp2;go_ret;exact⟨rfl,El.out⟩
theorem Fr.then{S T:Nat->Prop}{a b c:World}(h:Fr S a b)(k:Fr T b c)(hT:∀x,x<a.heap.size->T x->S x):Fr S a c:=⟨k.os.trans h.os,k.tape.trans h.tape,k.output.trans h.output,aa0 h.size k.size,λi hi hs=>(k.block i (aeJ hi h.size) (λe=>hs (hT i hi e))).trans (h.block i hi hs)⟩
theorem Fr.qX{w w':World}{row:Option Nat}(h:w.grownBy w' row):Fr (λb=>row=some b) w w':=⟨h.os,h.tape,h.output,h.size,λb hb hs=>h.block b hb (λe=>hs e.symm)⟩
def Wt(w:World)(v:Value)(l:Poly):Prop:=∃ao cap,v=.slice ao l.length cap/\l.length<=cap/\∀i r,l[i]?=some r->∃b u,ao=some ⟨b,0,none⟩/\w.cell? ⟨b,i,none⟩=some u/\oQ w u r
def FJ(w:World)(v:Value)(m:aF):Prop:=∃ao cap,v=.slice ao m.length cap/\∀i l,m[i]?=some l->∃b u,ao=some ⟨b,0,none⟩/\w.cell? ⟨b,i,none⟩=some u/\Wt w u l
theorem Wt.up{w w':World}{v:Value}{l:Poly}(h:Wt w v l)(k:Up w w'):Wt w' v l:=by
 obtain⟨ao,cap,e,hc,h⟩:=h;exact⟨ao,cap,e,hc,λi r hr=>by obtain⟨b,u,eb,c,q⟩:=h i r hr;exact⟨b,u,eb,k.cell c,q.up k⟩⟩
theorem FJ.up{w w':World}{v:Value}{m:aF}(h:FJ w v m)(k:Up w w'):FJ w' v m:=by
 obtain⟨ao,cap,e,h⟩:=h;exact⟨ao,cap,e,λi r hr=>by obtain⟨b,u,eb,c,q⟩:=h i r hr;exact⟨b,u,eb,k.cell c,q.up k⟩⟩
theorem Wt.rd{w:World}{v:Value}{l:Poly}(h:Wt w v l):oR w v l:=by
 obtain⟨ao,cap,e,-,h⟩:=h;exact⟨ao,cap,e,h⟩
theorem FJ.rd{w:World}{v:Value}{m:aF}(h:FJ w v m):oF w v m:=by
 obtain⟨ao,cap,e,h⟩:=h;exact⟨ao,cap,e,λi r hr=>by obtain⟨b,u,eb,c,q⟩:=h i r hr;exact⟨b,u,eb,c,q.rd⟩⟩
theorem AP.rc{w:World}{d:D2}(h:AP w d):Wt w d.v d.pts:=by
 refine⟨some ⟨d.b,0,none⟩,_,by unfold D2.v D2.pts;rw[wg],by unfold D2.pts;rw[wg];exact Nat.le_add_right _ _,λi r hr=>?_⟩;unfold D2.pts at hr;rw[An,To]at hr;obtain⟨y,hy,rfl⟩:=hr;have QU:(d.rs++d.s)[i]?=some y:=(by rw[EV (Pl.aE hy)];exact hy);exact⟨d.b,y.v,rfl,h.row.cell (by rw[An,QU];rfl),(h.sub y (Pl.ah QU)).rd⟩
theorem yg.rc{w:World}{d:D3}(h:yg w d):FJ w d.v d.m:=by
 refine⟨some ⟨d.b,0,none⟩,_,by unfold D3.v D3.m;rw[wg],λi r hr=>?_⟩;unfold D3.m at hr;rw[An,To]at hr;obtain⟨y,hy,rfl⟩:=hr;have QU:(d.ps++d.s)[i]?=some y:=(by rw[EV (Pl.aE hy)];exact hy);exact⟨d.b,y.v,rfl,h.row.cell (by rw[An,QU];rfl),(h.sub y (Pl.ah QU)).rc⟩
def Kept(F:Nat->Prop)(w:World)(R:World->Prop):Prop:=∃l:List Nat,(∀b∈l,b<w.heap.size/\F b)/\∀w':World,(∀b∈l,w'.heap[b]?=w.heap[b]?)->R w'
theorem Kept.now{F:Nat->Prop}{w:World}{R:World->Prop}(h:Kept F w R):R w:=by
 obtain⟨l,_,h⟩:=h;exact h w λ_ _=>rfl
theorem Kept.keep{F F' S:Nat->Prop}{w w':World}{R:World->Prop}(h:Kept F w R)(k:Fr S w w')(hF:∀b,b<w.heap.size->F b->F' b/\¬S b):Kept F' w' R:=by
 obtain⟨l,h1,h2⟩:=h;refine⟨l,λb hb=>⟨aeJ (h1 b hb).1 k.size,(hF b (h1 b hb).1 (h1 b hb).2).1⟩,λw2 e=>h2 w2 λb hb=>(e b hb).trans ?_⟩;exact k.block b (h1 b hb).1 (hF b (h1 b hb).1 (h1 b hb).2).2
structure SV where
 a:Option Addr
 n:Nat
 c:Nat
def SV.v(d:SV):Value:=.slice d.a d.n d.c
structure SG where
 x:Value
 m:aF
 bx:Nat
 dx:SV
 dm:SV
def SG.cells(s:SG):List Value:=[s.x,s.dm.v]
def l7(S:List SG):List Value:=S.flatMap SG.cells
structure yo(F:Nat->Prop)(w:World)(s:SG):Prop where
 ptr:s.x=.pointer (some ⟨s.bx,0,none⟩)
 kx:Kept F w λw=>aD w s.bx 78 [s.dx.v]/\FJ w s.dx.v s.m
 km:Kept F w λw=>FJ w s.dm.v s.m
 bd:Pl.Bd s.m
 ok0:Pl.wrong s.m=0
theorem ym.lt{w:World}{v:Value}{m:aF}{b:Nat}{d:D3}(h:ym w v m b d):∀x∈b::d.bl,x<w.heap.size:=by
 intro x hx;rcases v7.1 hx with rfl|hx;{exact h.cell.lt};·exact h.ok.lt x hx
theorem ym.frr{S:Nat->Prop}{w w':World}{v:Value}{m:aF}{b:Nat}{d:D3}(h:ym w v m b d)(k:Fr S w w')(hs:∀x∈b::d.bl,¬S x):ym w' v m b d:=⟨h.ptr,k.row h.cell (hs b (by simp)),k.ok3 h.ok (λx hx=>hs x (by simp[hx])),h.pts⟩
theorem yo.keep{F F':Nat->Prop}{S:Nat->Prop}{w w':World}{s:SG}(h:yo F w s)(k:Fr S w w')(hF:∀b,b<w.heap.size->F b->F' b/\¬S b):yo F' w' s:=⟨h.ptr,h.kx.keep k hF,h.km.keep k hF,h.bd,h.ok0⟩
def D3.sv(d:D3):SV:=⟨some ⟨d.b,0,none⟩,d.ps.length,d.ps.length+d.s.length⟩
theorem yg.kept{F:Nat->Prop}{w:World}{d:D3}(h:yg w d)(hf:∀b∈d.bl,F b):Kept F w λw=>FJ w d.sv.v d.m:=⟨d.bl,λb hb=>⟨h.lt b hb,hf b hb⟩,λw' e=>(h.of e).rc⟩
theorem ym.kept{F:Nat->Prop}{w:World}{v:Value}{m:aF}{b:Nat}{d:D3}(h:ym w v m b d)(hf:∀x∈b::d.bl,F x):Kept F w λw=>aD w b 78 [d.sv.v]/\FJ w d.sv.v m:=⟨b::d.bl,λx hx=>⟨h.lt x hx,hf x hx⟩,λw' e=>⟨h.cell.of_block (e b (by simp)),by have:=(h.ok.of λx hx=>e x (by simp[hx])).rc;rw[h.pts]at this;exact this⟩⟩
theorem yo.of3{F:Nat->Prop}{w:World}{v:Value}{m:aF}{b:Nat}{d d2:D3}(h:ym w v m b d)(h2:yg w d2)(e:d2.m=m)(hf:∀x∈b::d.bl,F x)(M1:∀x∈d2.bl,F x)(hb:Pl.Bd m)(h0:Pl.wrong m=0):yo F w ⟨v,m,b,d.sv,d2.sv⟩:=⟨h.ptr,h.kept hf,e▸h2.kept M1,hb,h0⟩
theorem KO(S:List SG)(s:SG):l7 (S++[s])=l7 S++s.cells:=by simp[l7]
theorem Sq(S:List SG):∀(i:Nat)(s:SG),S[i]?=some s->(l7 S)[i*2]?=some s.x/\(l7 S)[i*2+1]?=some s.dm.v:=by induction S with|nil=>intro i s h;simp at h|cons a t ih=>intro i s h;cases i with|zero=>simp at h;subst h;exact⟨rfl,rfl⟩|succ i=>have:=ih i s (by simpa using h);have e1:(i+1)*2=i*2+1+1:=(by omega);rw[e1];show(a.x::a.dm.v::l7 t)[i*2+1+1]?=_/\(a.x::a.dm.v::l7 t)[i*2+1+1+1]?=_;exact⟨by simpa using this.1,by simpa using this.2⟩
structure L1 where
 v:Value
 r:Ring
structure L2 where
 v:Value
 rs:List L1
structure L3 where
 v:Value
 ps:List L2
def L1.bl(x:L1):List Nat:=x.v.ownBlock.toList
def L2.bl(x:L2):List Nat:=x.v.ownBlock.toList++x.rs.flatMap L1.bl
def L3.bl(x:L3):List Nat:=x.v.ownBlock.toList++x.ps.flatMap L2.bl
def L2.pts(x:L2):Poly:=x.rs.map L1.r
def L3.m(x:L3):aF:=x.ps.map L2.pts
def L1.ok(w:World)(x:L1):Prop:=w.ownsRow 0 32 2 x.v x.r.length (flat x.r)
structure L2.ok(w:World)(x:L2):Prop where
 row:w.ownsRow 0 30 1 x.v x.rs.length (x.rs.map L1.v)
 sub:∀y∈x.rs,y.ok w
structure L3.ok(w:World)(x:L3):Prop where
 row:w.ownsRow 0 33 1 x.v x.ps.length (x.ps.map L2.v)
 sub:∀y∈x.ps,y.ok w
theorem L1.ok.of{w w':World}{x:L1}(h:x.ok w)(k:∀b∈x.bl,w'.heap[b]?=w.heap[b]?):x.ok w':=jf h λg hg=>k g (by simp[L1.bl,hg])
theorem L2.ok.of{w w':World}{x:L2}(h:x.ok w)(k:∀b∈x.bl,w'.heap[b]?=w.heap[b]?):x.ok w':=⟨jf h.row λg hg=>k g (by simp[L2.bl,hg]),λy hy=>(h.sub y hy).of λb hb=>k b (by simp only[L2.bl,gd,aak];exact .inr ⟨y,hy,hb⟩)⟩
theorem L3.ok.of{w w':World}{x:L3}(h:x.ok w)(k:∀b∈x.bl,w'.heap[b]?=w.heap[b]?):x.ok w':=⟨jf h.row λg hg=>k g (by simp[L3.bl,hg]),λy hy=>(h.sub y hy).of λb hb=>k b (by simp only[L3.bl,gd,aak];exact .inr ⟨y,hy,hb⟩)⟩
theorem L1.ok.lt{w:World}{x:L1}(h:x.ok w):∀b∈x.bl,b<w.heap.size:=λb hb=>(cw h (by simpa[L1.bl]using hb)).2
theorem L2.ok.lt{w:World}{x:L2}(h:x.ok w):∀b∈x.bl,b<w.heap.size:=λb hb=>by simp only[L2.bl,gd,aak]at hb;rcases hb with hb|⟨y,hy,hb⟩;{exact(cw h.row (by simpa using hb)).2};·exact(h.sub y hy).lt b hb
theorem L3.ok.lt{w:World}{x:L3}(h:x.ok w):∀b∈x.bl,b<w.heap.size:=λb hb=>by simp only[L3.bl,gd,aak]at hb;rcases hb with hb|⟨y,hy,hb⟩;{exact(cw h.row (by simpa using hb)).2};·exact(h.sub y hy).lt b hb
theorem L1.ok.rd{w:World}{x:L1}(h:x.ok w):oQ w x.v x.r:=by
 obtain⟨ao,cap,e⟩:=bE h;refine⟨ao,cap,e,λi p hp=>?_⟩;obtain⟨g,cap',e',hc⟩:=cE h (by have:=Pl.aE hp;omega);rw[e]at e';cases e';have:=kT _ _ _ hp;exact⟨g,rfl,hc _ _ this.1,hc _ _ this.2⟩
theorem L2.ok.rd{w:World}{x:L2}(h:x.ok w):oR w x.v x.pts:=by
 obtain⟨ao,cap,e⟩:=bE h.row;refine⟨ao,cap,by rw[e];simp[L2.pts],λi p hp=>?_⟩;simp only[L2.pts,An,To]at hp;obtain⟨y,hy,rfl⟩:=hp;obtain⟨g,cap',e',hc⟩:=cE h.row (by have:=Pl.aE hy;omega);rw[e]at e';cases e';exact⟨g,y.v,rfl,hc _ _ (by rw[An,hy];rfl),(h.sub y (Pl.ah hy)).rd⟩
theorem L3.ok.rd{w:World}{x:L3}(h:x.ok w):oF w x.v x.m:=by
 obtain⟨ao,cap,e⟩:=bE h.row;refine⟨ao,cap,by rw[e];simp[L3.m],λi p hp=>?_⟩;simp only[L3.m,An,To]at hp;obtain⟨y,hy,rfl⟩:=hp;obtain⟨g,cap',e',hc⟩:=cE h.row (by have:=Pl.aE hy;omega);rw[e]at e';cases e';exact⟨g,y.v,rfl,hc _ _ (by rw[An,hy];rfl),(h.sub y (Pl.ah hy)).rd⟩
def FK(Wb:Nat)(dK bG:Value)(L:L3)(b:Nat):Prop:=b=Wb\/dK.ownBlock=some b\/bG.ownBlock=some b\/b∈L.bl
def tot(m:aF):Nat:=m.length+Pl.nR m+Pl.nP m
structure Inv(w0 w:World)(Wb:Nat)(dK bG:Value)(mk:Int)(S:List SG)(O:List OG)(L:L3)(n:Nat):Prop where
 fE:WR w Wb dK L.v bG mk
 ops:w.ownsRow 0 52 2 dK S.length (l7 S)
 zJ:w.ownsRow 0 98 6 bG O.length (Hv O)
 sJ:L.ok w
 nodup:L.bl.Nodup
 sets:∀s∈S,yo (λb=>¬FK Wb dK bG L b) w s
 outs:∀o∈O,HSo (λb=>¬FK Wb dK bG L b) w o
 bS:S.length<=n
 bO:O.length<=n*3
 mk0:0<=mk
 Ng:mk<=n*2097152
 wT:tot L.m<=n
 base:Up w0 w
 low:∀b,FK Wb dK bG L b->w0.heap.size<=b
theorem zK{l:List Nat}{x:Nat}(h:x∈l):x<=l.sum:=by induction l with|nil=>cases h|cons a t ih=>rw[aey];rcases v7.1 h with rfl|h;{omega};·have:=ih h;omega
theorem adX{m:aF}{n:Nat}(h:tot m<=n)(hn:n<=1048576):Pl.Bd m:=by
 unfold tot at h;have h1:∀l∈m,l.length<=Pl.nR m:=λl hl=>(by unfold Pl.nR;exact zK (OF hl));have h2:∀l∈m,∀r∈l,r.length<=Pl.nP m:=λl hl r hr=>(by have a:r.length<=Pl.r6 l:=(by unfold Pl.r6;exact zK (OF hr));have b:Pl.r6 l<=Pl.nP m:=(by unfold Pl.nP;exact zK (OF hl));omega);exact⟨by omega,λl hl=>by have:=h1 l hl;omega,λl hl r hr=>by have:=h2 l hl r hr;omega⟩
end Go.Proofs.YtcclepohmhdpbaaGreatDoor
