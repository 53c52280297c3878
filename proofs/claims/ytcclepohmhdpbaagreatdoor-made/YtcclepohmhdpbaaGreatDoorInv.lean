import Derived.Test.YtcclepohmhdpbaaGreatDoorWalkJ
import Derived.Test.YtcclepohmhdpbaaGreatDoorWalkC
import Derived.Deep.DeepCutAuto
import Derived.Test.YtcclepohmhdpbaaGreatDoorWalkI
import Derived.Test.YtcclepohmhdpbaaGreatDoorWalkH
set_option maxHeartbeats 4000000
set_option maxRecDepth 100000
namespace Go.Proofs.YtcclepohmhdpbaaGreatDoor
set_option linter.all false
open Go.RowKit Go.Deep
theorem MP(F:Nat->Prop)(w:World)(Wb:Nat)(k9 lv jT:Value)(mk:Int)(O:List OG)(hW:WR w Wb k9 lv jT mk)(hown:w.ownsRow 0 98 6 jT O.length (rK O))(hO:∀o∈O,HSo F w o)(hb:O.length<=1073741824):Calls Tryz.prog 44 #[.pointer (some ⟨Wb,0,none⟩)] w fun e w'=>e=.returned (.bool true)∧Dr w w':=by
 obtain⟨ao,cap,rfl⟩:=jI hown;have H2:=jg hW.c2;have Sj:=jg hown;have hO':=jg hO;clear hW hown hO;go_enter Tryz.func44,Tryz.ntmps44;go_wp2;go_loopw[3](fun i wr=>∃k:Nat,k<=O.length∧i=.int .i64 k∧Dr w wr)(fun i _=>O.length-(intOf i).toNat);(case atStart=>exact⟨0,au _,rfl,Dr.refl _⟩);case round=>obtain⟨k,hk,rfl,tg⟩:=hrel;have GQ:=jg tg;have c2:=tg.up.cell H2.out;by_cases hlt:k<O.length;{obtain⟨o,ho⟩:=Pl.ji hlt;obtain⟨g,cap',e,hc⟩:=ku Sj.out (by omega);cases e;obtain⟨R,P,n,hs⟩:=hO'.out o (Pl.jh ho);have hs':=jg (hs.keep (Fr.lp (S:=fun _=>False) tg.up) (fun b _ hb=>⟨hb,fun h=>h⟩));have k0:=jg (tg.up.cell (hc _ _ (tI O k o 0 _ ho rfl)));have k1:=jg (tg.up.cell (hc _ _ (tI O k o 1 _ ho rfl)));have k2:=jg (tg.up.cell (hc _ _ (tI O k o 2 _ ho rfl)));have k3:=jg (tg.up.cell (hc _ _ (tI O k o 3 _ ho rfl)));have k4:=jg (tg.up.cell (hc _ _ (tI O k o 4 _ ho rfl)));have k5:=jg (tg.up.cell (hc _ _ (tI O k o 5 _ ho rfl)));clear tg hs hc ho;go_wp2_with(go_at_call 69;refine(MO F _ g (k*6) o.sv o.pv o.rv o.qE o.qj o.sm R P n hs'.out k0.out k1.out k2.out k3.out k4.out k5.out).mono ?_;rintro e w1⟨rfl,T6⟩;replace T6:=jg T6);go_roundw;(case rel=>exact⟨k+1,by omega,by go_num,GQ.out.trans T6.out⟩);case measure=>simp[intOf];omega};·have:k=O.length:=(by omega);subst this;clear tg;go_wp2;go_ret;exact⟨rfl,GQ.out⟩
theorem IV(v u:Value)(r:Ring)(w:World)(hv:tH w v r)(hu:tH w u r)(hb:r.length<=1048576):Calls Tryz.prog 54 #[v,u] w fun e w'=>e=.returned (.bool false)∧∃n,w'=w.drewN n:=by
 obtain⟨ao,cap,rfl,hm⟩:=hv;obtain⟨sR,lQ,rfl,hm2⟩:=hu;go_enter Tryz.func54,Tryz.ntmps54;go_wp2;go_loopw[5](fun i wr=>∃k:Nat,k<=r.length∧i=.int .i64 k∧∃n,wr=w.drewN n)(fun i _=>r.length-(intOf i).toNat);(case atStart=>exact⟨0,au _,rfl,0,rfl⟩);case round=>obtain⟨k,hk,rfl,n,rfl⟩:=hrel;by_cases hlt:k<r.length;{obtain⟨⟨x,y⟩,hp⟩:=Pl.ji hlt;obtain⟨b,rfl,c1,c2⟩:=hm k _ hp;obtain⟨b2,rfl,c3,c4⟩:=hm2 k _ hp;dsimp only at c1 c2 c3 c4;have hm':=jg hm;have alE:=jg hm2;clear hm hm2 hp;go_wp2;go_quiet(fail);go_wp2;go_quiet(fail);go_wp2;go_roundw;(case rel=>exact⟨k+1,by omega,by go_num,_,rfl⟩);case measure=>simp[intOf];omega};·have:k=r.length:=(by omega);subst this;go_wp2;go_ret;exact⟨rfl,_,rfl⟩
theorem Aq(v u:Value)(m:jy)(w:World)(hv:pR w v m)(hu:pR w u m)(hb:Pl.Bd m):Calls Tryz.prog 29 #[v,u] w fun e w'=>e=.returned (.bool true)∧∃n,w'=w.drewN n:=by
 obtain⟨ao,cap,rfl,hm⟩:=hv;obtain⟨sR,lQ,rfl,hm2⟩:=hu;have hlen:=hb.len;have hb':=jg hb;clear hb;go_enter Tryz.func29,Tryz.ntmps29;go_wp2;go_loopw[5](fun i wr=>∃k:Nat,k<=m.length∧i=.int .i64 k∧Dr w wr)(fun i _=>m.length-(intOf i).toNat);(case atStart=>exact⟨0,au _,rfl,Dr.refl _⟩);case round=>obtain⟨k,hk,rfl,tg⟩:=hrel;have GQ:=jg tg;clear tg;by_cases hlt:k<m.length;{obtain⟨l,hl⟩:=Pl.ji hlt;obtain⟨b,x,rfl,hc,XG,CJ,rfl,hr⟩:=hm k l hl;obtain⟨b2,y,rfl,rq,ao4,alF,rfl,vS⟩:=hm2 k l hl;have VF:=hb'.out.poly l (Pl.jh hl);have hrr:=jg (hb'.out.ring l (Pl.jh hl));have hm':=jg hm;have alE:=jg hm2;have hr':=jg hr;have alG:=jg vS;have gc:=GQ.out.up.cell hc;have gc2:=GQ.out.up.cell rq;have hcH:=jg hc;have alH:=jg rq;clear hm hm2 hl hr vS hc rq;go_wp2;go_quiet(fail);go_wp2;go_loopw[6](fun j wr=>∃q:Nat,q<=l.length∧j=.int .i64 q∧Dr w wr)(fun j _=>l.length-(intOf j).toNat);(case atStart=>exact⟨0,au _,rfl,GQ.out.n _⟩);case round=>obtain⟨q,hq,rfl,B8⟩:=hrel;have yq:=jg B8;have ec:=B8.up.cell hcH.out;have ec2:=B8.up.cell alH.out;clear B8 gc gc2;by_cases nO:q<l.length;{obtain⟨r,uO⟩:=Pl.ji nO;obtain⟨b3,x3,rfl,hc3,ZX⟩:=hr'.out q r uO;obtain⟨b4,x4,rfl,hc4,Kh⟩:=alG.out q r uO;have hrl:=jg (hrr.out r (Pl.jh uO));have ahO:=jg (ZX.up yq.out.up);have ahP:=jg (Kh.up yq.out.up);have gc3:=yq.out.up.cell hc3;have gc4:=yq.out.up.cell hc4;clear uO ZX Kh hc3 hc4;go_wp2;go_quiet((go_at_call 54;refine Calls.quiet_of (IV _ _ r _ ?_ ?_ ?_);exact ahO.out.up ((Up.refl _).drewN _);exact ahP.out.up ((Up.refl _).drewN _);exact hrl.out));have hdx:Dr wr (wr.drewN nq):=⟨nq,rfl⟩;generalize wr.drewN nq=wx at hdx⊢;have aeF:=jg hdx;have xc:=hdx.up.cell ec;have xc2:=hdx.up.cell ec2;have xc3:=hdx.up.cell gc3;have xc4:=hdx.up.cell gc4;clear hdx ec ec2 gc3 gc4;go_wp2;go_quiet((go_at_call 54;refine Calls.quiet_of (IV _ _ r _ ?_ ?_ ?_);exact(ahP.out.up aeF.out.up).up ((Up.refl _).drewN _);exact(ahO.out.up aeF.out.up).up ((Up.refl _).drewN _);exact hrl.out));go_wp2;go_roundw;(case rel=>exact⟨q+1,by omega,by go_num,(yq.out.trans aeF.out).n _⟩);case measure=>simp[intOf];omega};·have:q=l.length:=(by omega);subst this;go_wp2;go_roundw;(case rel=>exact⟨k+1,by omega,by go_num,yq.out⟩);case measure=>simp[intOf];omega};·have:k=m.length:=(by omega);subst this;go_wp2;go_ret;exact⟨rfl,GQ.out⟩
theorem B7.header{w:World}{d:D2}(h:B7 w d)(hb:d.bare){i:Nat}{x:D1}(hx:d.rs[i]?=some x):w.cell? ⟨d.b,i,none⟩=some (.slice (some ⟨x.b,0,none⟩) x.r.length x.r.length):=by
 have hx':(d.rs++d.s)[i]?=some x:=(by rw[aT (Pl.jo hx)];exact hx);have:=h.row.cell (i:=i) (v:=x.v) (by simp only[aB,hx'];rfl);rw[this,D1.v,hb.2 x (Pl.jh hx)];rfl
theorem wX.header{w:World}{d:D3}(h:wX w d)(hb:d.bare){i:Nat}{x:D2}(hx:d.ps[i]?=some x):w.cell? ⟨d.b,i,none⟩=some (.slice (some ⟨x.b,0,none⟩) x.rs.length x.rs.length):=by
 have hx':(d.ps++d.s)[i]?=some x:=(by rw[aT (Pl.jo hx)];exact hx);have:=h.row.cell (i:=i) (v:=x.v) (by simp only[aB,hx'];rfl);rw[this,D2.v,(hb.2 x (Pl.jh hx)).1];rfl
theorem wX.alI{w:World}{d:D3}(h:wX w d){i:Nat}{x:D2}(hx:d.ps[i]?=some x):B7 w x:=h.sub x (bw _ (Pl.jh hx))
theorem XQ(d:D3)(u:Value)(m:jy)(w:World)(hd:wX w d)(hdb:d.bare)(hm:d.m=m)(hu:pR w u m)(hb:Pl.Bd m):Calls Tryz.prog 83 #[d.v,u] w fun e w'=>e=.returned (.bool true)∧Dr w w':=by
 have hr:=jg hd.rd;rw[hm]at hr;have Lp:=jg hu;have hb':=jg hb;have hlen:=hb.len;have N8:d.ps.length=m.length:=(by rw[←hm];simp[D3.m]);have oD:Hid (∀x∈d.ps,x.rs.length<=1048576):=(by intro x hx;have:=hb.poly x.pts (by rw[←hm];exact aU hx);simpa[D2.pts]using this);have hd':=jg hd;have ahQ:=jg hdb;have hv:d.v=.slice (some ⟨d.b,0,none⟩) d.ps.length d.ps.length:=(by rw[D3.v,hdb.1];rfl);rw[hv]at hr⊢;have XJ:d.ps.length<=1048576:=(by omega);clear hv hu hb hm hd hdb N8 hlen;go_enter Tryz.func83,Tryz.ntmps83;go_wp2_with(go_at_call 29;refine(Aq _ _ m _ ?_ ?_ ?_).mono ?_;exact hr.out;exact Lp.out;exact hb'.out;rintro e w1⟨rfl,tg⟩;replace tg:=jg (show Dr w w1 from tg));go_loopw[6](fun i wr=>∃k:Nat,k<=d.ps.length∧i=.int .i64 k∧Dr w wr)(fun i _=>d.ps.length-(intOf i).toNat);(case atStart=>exact⟨0,au _,rfl,tg.out⟩);case round=>obtain⟨k,hk,rfl,hdk⟩:=hrel;have Ub:=jg hdk;clear hdk;by_cases hlt:k<d.ps.length;{obtain⟨x,hx⟩:=Pl.ji hlt;have hxl:=oD.out x (Pl.jh hx);have hc:=jg (hd'.out.header ahQ.out hx);have gc:=Ub.out.up.cell hc.out;have hox:=jg (hd'.out.alI hx);have alJ:=jg (ahQ.out.2 x (Pl.jh hx));clear hx;go_wp2;go_quiet(fail);go_wp2;clear gc;go_loopw[7](fun j wr=>∃q:Nat,q<=x.rs.length∧j=.int .i64 q∧Dr w wr)(fun j _=>x.rs.length-(intOf j).toNat);(case atStart=>exact⟨0,au _,rfl,Ub.out.n _⟩);case round=>obtain⟨q,hq,rfl,B8⟩:=hrel;have yq:=jg B8;clear B8;have ec:=yq.out.up.cell hc.out;by_cases nO:q<x.rs.length;{obtain⟨y,hy⟩:=Pl.ji nO;have ec2:=yq.out.up.cell (hox.out.header alJ.out hy);clear hy;go_wp2;go_quiet(fail);go_wp2;go_roundw;(case rel=>exact⟨q+1,by omega,by go_num,yq.out.n _⟩);case measure=>simp[intOf];omega};·have:q=x.rs.length:=(by omega);subst this;go_wp2;go_roundw;(case rel=>exact⟨k+1,by omega,by go_num,yq.out⟩);case measure=>simp[intOf];omega};·have:k=d.ps.length:=(by omega);subst this;go_wp2;go_ret;exact⟨rfl,Ub.out⟩
theorem Fr.then{S T:Nat->Prop}{a b c:World}(h:Fr S a b)(k:Fr T b c)(hT:∀x,x<a.heap.size->T x->S x):Fr S a c:=⟨k.os.trans h.os,k.tape.trans h.tape,k.output.trans h.output,cg h.size k.size,fun i hi hs=>(k.block i (eG hi h.size) (fun e=>hs (hT i hi e))).trans (h.block i hi hs)⟩
theorem Fr.Bv{w w':World}{row:Option Nat}(h:w.grownBy w' row):Fr (fun b=>row=some b) w w':=⟨h.os,h.tape,h.output,h.size,fun b hb hs=>h.block b hb (fun e=>hs e.symm)⟩
theorem Fr.aeG(w:World)(a:Addr)(v:Value):Fr (fun b=>b=a.block) w (w.setCell a v):=Fr.setCell (S:=fun b=>b=a.block) (Fr.refl _ w) rfl v
theorem Uc:Elem Tryz.prog 36 98 (.agg y6.toArray) 6 128:=⟨by kernel_rfl,by kernel_rfl,rfl,by omega,by omega⟩
structure TS(w wr:World)(Wb:Nat)(k9 lv MQ:Value)(Sk:Int)(F:Nat->Prop)(n0 i:Nat)(jT:Value)(O:List OG)(mk:Int):Prop where
 fr:Fr (fun b=>b=Wb∨MQ.ownBlock=some b) w wr
 mJ:WR wr Wb k9 lv jT mk
 own:wr.ownsRow 0 98 6 jT O.length (rK O)
 at_:jT.ownBlock=MQ.ownBlock∨∃g,jT.ownBlock=some g∧w.heap.size<=g
 hs:∀o∈O,HSo (fun b=>(F b∨w.heap.size<=b)∧b≠Wb∧jT.ownBlock≠some b) wr o
 len:O.length=n0+i
 zo:Sk<=mk
 mk2:mk<=Sk+i*32
theorem TS.step{w wr w1 w3 w4 w5 w6 w8:World}{Wb:Nat}{k9 lv MQ jT:Value}{Sk mk:Int}{F:Nat->Prop}{n0 i:Nat}{O:List OG}(h:TS w wr Wb k9 lv MQ Sk F n0 i jT O mk)(Pe:Wb<w.heap.size){d:D3}(T4:∀b∈d.bl,wr.heap.size<=b)(ZU:wX w1 d)(u1:Up wr w1)(u3:Up w1 w3){pv rv qE qj:Value}(hn:Sh w3 w4 pv rv qE qj (nY d.ps mk) (oG d.ps mk))(u5:Up w4 w5){g cap:Nat}(hg:w5.grownBy w6 jT.ownBlock)(hown:w6.ownsRow 0 98 6 (.slice (some ⟨g,0,none⟩) (O.length+1) cap) (O.length+1) (rK O++(OG.mk d.v pv rv qE qj (mk+off d.ps)).cells))(zq:jT.ownBlock=some g∨g=w5.heap.size)(hlt:g<w6.heap.size)(hs:y5 (w6.setCell ⟨Wb,2,none⟩ (.slice (some ⟨g,0,none⟩) (O.length+1) cap)) w8 d Wb k9 lv (.slice (some ⟨g,0,none⟩) (O.length+1) cap) mk)(hb:Pl.Bd d.m)(hnr:Pl.nR d.m<=12)(hnp:d.m.length<=8):TS w w8 Wb k9 lv MQ Sk F n0 (i+1) (.slice (some ⟨g,0,none⟩) (O.length+1) cap) (O++[OG.mk d.v pv rv qE qj (mk+off d.ps)]) (mk+off d.ps+1):=by
 have s0:=h.fr.size;have s1:=u1.size;have s3:=u3.size;have s4:=hn.up.size;have s5:=u5.size;have s6:=hg.size;have s7:(w6.setCell ⟨Wb,2,none⟩ (.slice (some ⟨g,0,none⟩) (O.length+1) cap)).heap.size=w6.heap.size:=(by simp[World.setCell]);have XO:∀b∈d.bl,b<w1.heap.size:=ZU.lt;have hold:∀b,jT.ownBlock=some b->b<wr.heap.size:=fun b e=>(jJ h.own e).2;have hgo:g<wr.heap.size∧jT.ownBlock=some g∨g=w5.heap.size:=(by rcases zq with e|e;{exact .inl ⟨hold g e,e⟩};·exact .inr e);have f47:Fr (fun b=>b=Wb∨jT.ownBlock=some b) w4 (w6.setCell ⟨Wb,2,none⟩ (.slice (some ⟨g,0,none⟩) (O.length+1) cap)):=(((Fr.lp u5).then (Fr.Bv hg) fun x _ e=>.inr e)).setCell (.inl rfl) _;have frt:Fr (fun b=>b=Wb∨jT.ownBlock=some b∨b∈d.bl) wr w8:=((((Fr.lp (((u1.trans u3).trans hn.up))).then f47 fun x _ e=>by rcases e with e|e;{exact .inl e};·exact .inr (.inl e))).then hs.fr fun x _ e=>by rcases e with e|e;{exact .inr (.inr e)};·exact .inl e);have hoff:=XP d;have LG:d.m.length=d.ps.length:=(by simp[D3.m]);refine⟨?_,hs.mJ,?_,?_,?_,?_,?_,?_⟩;·refine h.fr.then frt fun x hx e=>?_;rcases e with e|e|e;{exact .inl e};{rcases h.at_ with e2|⟨g2,e2,e3⟩;{exact .inr (by rw[←e2];exact e)};·rw[e2]at e;cases e;omega};·have:=T4 x e;omega
 {rw[MN,ah];have o7:=kE hown (a:=⟨Wb,2,none⟩) (show some g≠some Wb by intro e;have e:=aN e;rcases hgo with e2|e2;{have hr:=h.mJ;exact jz h.own hr (by decide) (by rw[e2.2,e])};·omega) (.slice (some ⟨g,0,none⟩) (O.length+1) cap);refine uf o7 hs.fr ?_;intro b eb;have eb:g=b:=aN eb;subst eb;rintro(e|e);{rcases hgo with e2|e2;{have:=T4 g e;omega};·have:=XO g e;omega};·rcases hgo with e2|e2;{exact jz h.own h.mJ (by decide) (by rw[e2.2,e])};·omega};{rcases hgo with e2|e2;{rcases h.at_ with e3|⟨g2,e3,e4⟩;{exact .inl (by rw[←e3,e2.2];rfl)};·rw[e2.2]at e3;cases e3;exact .inr ⟨g,rfl,e4⟩};·exact .inr ⟨g,rfl,by omega⟩};·intro o ho;rcases aD.1 ho with ho|ho;{refine(h.hs o ho).keep frt fun b hb hF=>⟨⟨hF.1,hF.2.1,?_⟩,?_⟩;{show some g≠some b;intro e;have e:=aN e;rcases hgo with e2|e2;{exact hF.2.2 (by rw[e2.2,e])};·omega};·rintro(e|e|e);{exact hF.2.1 e};{exact hF.2.2 e};·have:=T4 b e;omega};·simp at ho;subst ho;have hm:=HS.made hn f47 hs (fun b hb=>by have:=XO b hb;omega) (by omega) (fun b h1 h2 e=>by rcases e with e|e;{omega};·have:=hold b e;omega) hb (by omega);refine⟨_,_,_,hm.keep (Fr.refl (fun _=>False) _) fun b _ hF=>⟨?_,fun h=>h⟩⟩;rw[s7]at hF;rcases hF with hF|⟨hF1,hF2⟩|hF;{have h1:=T4 b hF;have h2:=XO b hF;exact⟨.inr (by omega),by omega,fun e=>by have e:g=b:=aN e;rcases hgo with e2|e2<;>omega⟩};{exact⟨.inr (by omega),by omega,fun e=>by have e:g=b:=aN e;rcases hgo with e2|e2<;>omega⟩};·exact⟨.inr (by omega),by omega,fun e=>by have e:g=b:=aN e;omega⟩
 {rw[ah,h.len];rfl};{have:=h.zo;omega};·have:=h.mk2;have h1:off d.ps<=20:=(by omega);omega
def VH(w:World)(v:Value)(l:Poly):Prop:=∃ao cap,v=.slice ao l.length cap∧l.length<=cap∧∀i r,l[i]?=some r->∃b u,ao=some ⟨b,0,none⟩∧w.cell? ⟨b,i,none⟩=some u∧tH w u r
def Ex(w:World)(v:Value)(m:jy):Prop:=∃ao cap,v=.slice ao m.length cap∧∀i l,m[i]?=some l->∃b u,ao=some ⟨b,0,none⟩∧w.cell? ⟨b,i,none⟩=some u∧VH w u l
theorem VH.up{w w':World}{v:Value}{l:Poly}(h:VH w v l)(k:Up w w'):VH w' v l:=by
 obtain⟨ao,cap,e,hc,h⟩:=h;exact⟨ao,cap,e,hc,fun i r hr=>by obtain⟨b,u,eb,c,q⟩:=h i r hr;exact⟨b,u,eb,k.cell c,q.up k⟩⟩
theorem Ex.up{w w':World}{v:Value}{m:jy}(h:Ex w v m)(k:Up w w'):Ex w' v m:=by
 obtain⟨ao,cap,e,h⟩:=h;exact⟨ao,cap,e,fun i r hr=>by obtain⟨b,u,eb,c,q⟩:=h i r hr;exact⟨b,u,eb,k.cell c,q.up k⟩⟩
theorem VH.rd{w:World}{v:Value}{l:Poly}(h:VH w v l):td w v l:=by
 obtain⟨ao,cap,e,-,h⟩:=h;exact⟨ao,cap,e,h⟩
theorem Ex.rd{w:World}{v:Value}{m:jy}(h:Ex w v m):pR w v m:=by
 obtain⟨ao,cap,e,h⟩:=h;exact⟨ao,cap,e,fun i r hr=>by obtain⟨b,u,eb,c,q⟩:=h i r hr;exact⟨b,u,eb,c,q.rd⟩⟩
theorem B7.rc{w:World}{d:D2}(h:B7 w d):VH w d.v d.pts:=by
 refine⟨some ⟨d.b,0,none⟩,_,by unfold D2.v D2.pts;rw[aA],by unfold D2.pts;rw[aA];exact Nat.le_add_right _ _,fun i r hr=>?_⟩;unfold D2.pts at hr;rw[aB,bI]at hr;obtain⟨y,hy,rfl⟩:=hr;have VC:(d.rs++d.s)[i]?=some y:=(by rw[aT (Pl.jo hy)];exact hy);exact⟨d.b,y.v,rfl,h.row.cell (by rw[aB,VC];rfl),(h.sub y (Pl.jh VC)).rd⟩
theorem wX.rc{w:World}{d:D3}(h:wX w d):Ex w d.v d.m:=by
 refine⟨some ⟨d.b,0,none⟩,_,by unfold D3.v D3.m;rw[aA],fun i r hr=>?_⟩;unfold D3.m at hr;rw[aB,bI]at hr;obtain⟨y,hy,rfl⟩:=hr;have VC:(d.ps++d.s)[i]?=some y:=(by rw[aT (Pl.jo hy)];exact hy);exact⟨d.b,y.v,rfl,h.row.cell (by rw[aB,VC];rfl),(h.sub y (Pl.jh VC)).rc⟩
def Kept(F:Nat->Prop)(w:World)(R:World->Prop):Prop:=∃l:List Nat,(∀b∈l,b<w.heap.size∧F b)∧∀w':World,(∀b∈l,w'.heap[b]?=w.heap[b]?)->R w'
theorem Kept.now{F:Nat->Prop}{w:World}{R:World->Prop}(h:Kept F w R):R w:=by
 obtain⟨l,_,h⟩:=h;exact h w fun _ _=>rfl
theorem Kept.keep{F F' S:Nat->Prop}{w w':World}{R:World->Prop}(h:Kept F w R)(k:Fr S w w')(hF:∀b,b<w.heap.size->F b->F' b∧¬S b):Kept F' w' R:=by
 obtain⟨l,h1,h2⟩:=h;refine⟨l,fun b hb=>⟨eG (h1 b hb).1 k.size,(hF b (h1 b hb).1 (h1 b hb).2).1⟩,fun w2 e=>h2 w2 fun b hb=>(e b hb).trans ?_⟩;exact k.block b (h1 b hb).1 (hF b (h1 b hb).1 (h1 b hb).2).2
theorem Kept.mono{F:Nat->Prop}{w:World}{R R':World->Prop}(h:Kept F w R)(k:∀w,R w->R' w):Kept F w R':=by
 obtain⟨l,h1,h2⟩:=h;exact⟨l,h1,fun w' e=>k w' (h2 w' e)⟩
structure SV where
 a:Option Addr
 n:Nat
 c:Nat
def SV.v(d:SV):Value:=.slice d.a d.n d.c
structure SG where
 x:Value
 m:jy
 bx:Nat
 dx:SV
 dm:SV
def SG.cells(s:SG):List Value:=[s.x,s.dm.v]
def qJ(S:List SG):List Value:=S.flatMap SG.cells
structure Bw(F:Nat->Prop)(w:World)(s:SG):Prop where
 ptr:s.x=.pointer (some ⟨s.bx,0,none⟩)
 kx:Kept F w fun w=>jr w s.bx 78 [s.dx.v]∧Ex w s.dx.v s.m
 km:Kept F w fun w=>Ex w s.dm.v s.m
 bd:Pl.Bd s.m
 ok0:Pl.wrong s.m=0
theorem FP.lt{w:World}{v:Value}{m:jy}{b:Nat}{d:D3}(h:FP w v m b d):∀x∈b::d.bl,x<w.heap.size:=by
 intro x hx;rcases aE.1 hx with rfl|hx;{exact h.cell.lt};·exact h.ok.lt x hx
theorem FP.frr{S:Nat->Prop}{w w':World}{v:Value}{m:jy}{b:Nat}{d:D3}(h:FP w v m b d)(k:Fr S w w')(hs:∀x∈b::d.bl,¬S x):FP w' v m b d:=⟨h.ptr,k.row h.cell (hs b (by simp)),k.ok3 h.ok (fun x hx=>hs x (by simp[hx])),h.pts⟩
theorem Bw.keep{F F':Nat->Prop}{S:Nat->Prop}{w w':World}{s:SG}(h:Bw F w s)(k:Fr S w w')(hF:∀b,b<w.heap.size->F b->F' b∧¬S b):Bw F' w' s:=⟨h.ptr,h.kx.keep k hF,h.km.keep k hF,h.bd,h.ok0⟩
def D3.sv(d:D3):SV:=⟨some ⟨d.b,0,none⟩,d.ps.length,d.ps.length+d.s.length⟩
theorem wX.kept{F:Nat->Prop}{w:World}{d:D3}(h:wX w d)(hf:∀b∈d.bl,F b):Kept F w fun w=>Ex w d.sv.v d.m:=⟨d.bl,fun b hb=>⟨h.lt b hb,hf b hb⟩,fun w' e=>(h.of e).rc⟩
theorem FP.kept{F:Nat->Prop}{w:World}{v:Value}{m:jy}{b:Nat}{d:D3}(h:FP w v m b d)(hf:∀x∈b::d.bl,F x):Kept F w fun w=>jr w b 78 [d.sv.v]∧Ex w d.sv.v m:=⟨b::d.bl,fun x hx=>⟨h.lt x hx,hf x hx⟩,fun w' e=>⟨h.cell.of_block (e b (by simp)),by have:=(h.ok.of fun x hx=>e x (by simp[hx])).rc;rw[h.pts]at this;exact this⟩⟩
theorem Bw.of3{F:Nat->Prop}{w:World}{v:Value}{m:jy}{b:Nat}{d d2:D3}(h:FP w v m b d)(h2:wX w d2)(e:d2.m=m)(hf:∀x∈b::d.bl,F x)(O6:∀x∈d2.bl,F x)(hb:Pl.Bd m)(h0:Pl.wrong m=0):Bw F w ⟨v,m,b,d.sv,d2.sv⟩:=⟨h.ptr,h.kept hf,e▸h2.kept O6,hb,h0⟩
theorem MR(S:List SG)(s:SG):qJ (S++[s])=qJ S++s.cells:=by simp[qJ]
theorem Ud(S:List SG):∀(i:Nat)(s:SG),S[i]?=some s->(qJ S)[i*2]?=some s.x∧(qJ S)[i*2+1]?=some s.dm.v:=by induction S with|nil=>intro i s h;simp at h|cons a t ih=>intro i s h;cases i with|zero=>simp at h;subst h;exact⟨rfl,rfl⟩|succ i=>have:=ih i s (by simpa using h);have e1:(i+1)*2=i*2+1+1:=(by omega);rw[e1];show(a.x::a.dm.v::qJ t)[i*2+1+1]?=_∧(a.x::a.dm.v::qJ t)[i*2+1+1+1]?=_;exact⟨by simpa using this.1,by simpa using this.2⟩
structure L1 where
 v:Value
 r:Ring
structure L2 where
 v:Value
 rs:List L1
structure L3 where
 v:Value
 ps:List L2
def L1.bl(x:L1):List Nat:=x.v.ownBlock.toList
def L2.bl(x:L2):List Nat:=x.v.ownBlock.toList++x.rs.flatMap L1.bl
def L3.bl(x:L3):List Nat:=x.v.ownBlock.toList++x.ps.flatMap L2.bl
def L2.pts(x:L2):Poly:=x.rs.map L1.r
def L3.m(x:L3):jy:=x.ps.map L2.pts
def L1.ok(w:World)(x:L1):Prop:=w.ownsRow 0 32 2 x.v x.r.length (flat x.r)
structure L2.ok(w:World)(x:L2):Prop where
 row:w.ownsRow 0 30 1 x.v x.rs.length (x.rs.map L1.v)
 sub:∀y∈x.rs,y.ok w
structure L3.ok(w:World)(x:L3):Prop where
 row:w.ownsRow 0 33 1 x.v x.ps.length (x.ps.map L2.v)
 sub:∀y∈x.ps,y.ok w
theorem L1.ok.of{w w':World}{x:L1}(h:x.ok w)(k:∀b∈x.bl,w'.heap[b]?=w.heap[b]?):x.ok w':=lO h fun g hg=>k g (by simp[L1.bl,hg])
theorem L2.ok.of{w w':World}{x:L2}(h:x.ok w)(k:∀b∈x.bl,w'.heap[b]?=w.heap[b]?):x.ok w':=⟨lO h.row fun g hg=>k g (by simp[L2.bl,hg]),fun y hy=>(h.sub y hy).of fun b hb=>k b (by simp only[L2.bl,aD,bQ];exact .inr ⟨y,hy,hb⟩)⟩
theorem L3.ok.of{w w':World}{x:L3}(h:x.ok w)(k:∀b∈x.bl,w'.heap[b]?=w.heap[b]?):x.ok w':=⟨lO h.row fun g hg=>k g (by simp[L3.bl,hg]),fun y hy=>(h.sub y hy).of fun b hb=>k b (by simp only[L3.bl,aD,bQ];exact .inr ⟨y,hy,hb⟩)⟩
theorem L1.ok.lt{w:World}{x:L1}(h:x.ok w):∀b∈x.bl,b<w.heap.size:=fun b hb=>(jJ h (by simpa[L1.bl]using hb)).2
theorem L2.ok.lt{w:World}{x:L2}(h:x.ok w):∀b∈x.bl,b<w.heap.size:=fun b hb=>by simp only[L2.bl,aD,bQ]at hb;rcases hb with hb|⟨y,hy,hb⟩;{exact(jJ h.row (by simpa using hb)).2};·exact(h.sub y hy).lt b hb
theorem L3.ok.lt{w:World}{x:L3}(h:x.ok w):∀b∈x.bl,b<w.heap.size:=fun b hb=>by simp only[L3.bl,aD,bQ]at hb;rcases hb with hb|⟨y,hy,hb⟩;{exact(jJ h.row (by simpa using hb)).2};·exact(h.sub y hy).lt b hb
theorem L1.ok.rd{w:World}{x:L1}(h:x.ok w):tH w x.v x.r:=by
 obtain⟨ao,cap,e⟩:=jI h;refine⟨ao,cap,e,fun i p hp=>?_⟩;obtain⟨g,cap',e',hc⟩:=ku h (by have:=Pl.jo hp;omega);rw[e]at e';cases e';have:=qD _ _ _ hp;exact⟨g,rfl,hc _ _ this.1,hc _ _ this.2⟩
theorem L2.ok.rd{w:World}{x:L2}(h:x.ok w):td w x.v x.pts:=by
 obtain⟨ao,cap,e⟩:=jI h.row;refine⟨ao,cap,by rw[e];simp[L2.pts],fun i p hp=>?_⟩;simp only[L2.pts,aB,bI]at hp;obtain⟨y,hy,rfl⟩:=hp;obtain⟨g,cap',e',hc⟩:=ku h.row (by have:=Pl.jo hy;omega);rw[e]at e';cases e';exact⟨g,y.v,rfl,hc _ _ (by rw[aB,hy];rfl),(h.sub y (Pl.jh hy)).rd⟩
theorem L3.ok.rd{w:World}{x:L3}(h:x.ok w):pR w x.v x.m:=by
 obtain⟨ao,cap,e⟩:=jI h.row;refine⟨ao,cap,by rw[e];simp[L3.m],fun i p hp=>?_⟩;simp only[L3.m,aB,bI]at hp;obtain⟨y,hy,rfl⟩:=hp;obtain⟨g,cap',e',hc⟩:=ku h.row (by have:=Pl.jo hy;omega);rw[e]at e';cases e';exact⟨g,y.v,rfl,hc _ _ (by rw[aB,hy];rfl),(h.sub y (Pl.jh hy)).rd⟩
def GR(Wb:Nat)(k9 jT:Value)(L:L3)(b:Nat):Prop:=b=Wb∨k9.ownBlock=some b∨jT.ownBlock=some b∨b∈L.bl
def tot(m:jy):Nat:=m.length+Pl.nR m+Pl.nP m
structure Inv(w0 w:World)(Wb:Nat)(k9 jT:Value)(mk:Int)(S:List SG)(O:List OG)(L:L3)(n:Nat):Prop where
 mJ:WR w Wb k9 L.v jT mk
 ops:w.ownsRow 0 52 2 k9 S.length (qJ S)
 DX:w.ownsRow 0 98 6 jT O.length (rK O)
 MS:L.ok w
 nodup:L.bl.Nodup
 sets:∀s∈S,Bw (fun b=>¬GR Wb k9 jT L b) w s
 outs:∀o∈O,HSo (fun b=>¬GR Wb k9 jT L b) w o
 bS:S.length<=n
 bO:O.length<=n*3
 Sk:0<=mk
 zo:mk<=n*2097152
 Ue:tot L.m<=n
 base:Up w0 w
 low:∀b,GR Wb k9 jT L b->w0.heap.size<=b
theorem tJ{l:List Nat}{x:Nat}(h:x∈l):x<=l.sum:=by induction l with|nil=>cases h|cons a t ih=>rw[fh];rcases aE.1 h with rfl|h;{omega};·have:=ih h;omega
theorem aeH{m:jy}{n:Nat}(h:tot m<=n)(hn:n<=1048576):Pl.Bd m:=by
 unfold tot at h;have h1:∀l∈m,l.length<=Pl.nR m:=fun l hl=>(by unfold Pl.nR;exact tJ (aU hl));have h2:∀l∈m,∀r∈l,r.length<=Pl.nP m:=fun l hl r hr=>(by have a:r.length<=Pl.xj l:=(by unfold Pl.xj;exact tJ (aU hr));have b:Pl.xj l<=Pl.nP m:=(by unfold Pl.nP;exact tJ (aU hl));omega);exact⟨by omega,fun l hl=>by have:=h1 l hl;omega,fun l hl r hr=>by have:=h2 l hl r hr;omega⟩
end Go.Proofs.YtcclepohmhdpbaaGreatDoor
