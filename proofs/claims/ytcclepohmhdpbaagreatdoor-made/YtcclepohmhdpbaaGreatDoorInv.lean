import Derived.Test.YtcclepohmhdpbaaGreatDoorWalkJ
import Derived.Test.YtcclepohmhdpbaaGreatDoorWalkC
import Derived.Deep.DeepCutAuto
import Derived.Test.YtcclepohmhdpbaaGreatDoorWalkI
import Derived.Test.YtcclepohmhdpbaaGreatDoorWalkH
set_option maxHeartbeats 4000000
set_option maxRecDepth 100000
namespace Go.Proofs.YtcclepohmhdpbaaGreatDoor
set_option linter.all false
open Go.RowKit Go.Deep
theorem OD(F:Nat->Prop)(w:World)(Wb:Nat)(l9 lv kC:Value)(mk:Int)(O:List OG)(hW:WR w Wb l9 lv kC mk)(hown:w.ownsRow 0 98 6 kC O.length (tn O))(hO:∀o∈O,HSo F w o)(hb:O.length<=1073741824):Calls Tryz.prog 44 #[.pointer (some ⟨Wb,0,none⟩)] w fun e w'=>e=.returned (.bool true)∧Dr w w':=by
 obtain⟨ao,cap,rfl⟩:=j6 hown;have H2:=jy hW.c2;have Uk:=jy hown;have hO':=jy hO;clear hW hown hO;go_enter Tryz.func44,Tryz.ntmps44;go_wp2;go_loopw[3](fun i wr=>∃k:Nat,k<=O.length∧i=.int .i64 k∧Dr w wr)(fun i _=>O.length-(intOf i).toNat);(case atStart=>exact⟨0,au _,rfl,Dr.refl _⟩);case round=>obtain⟨k,hk,rfl,uK⟩:=hrel;have Jb:=jy uK;have c2:=uK.up.cell H2.out;by_cases hlt:k<O.length;{obtain⟨o,ho⟩:=Pl.jC hlt;obtain⟨g,cap',e,hc⟩:=kU Uk.out (by omega);cases e;obtain⟨R,P,n,hs⟩:=hO'.out o (Pl.jz ho);have hs':=jy (hs.keep (Fr.me (S:=fun _=>False) uK.up) (fun b _ hb=>⟨hb,fun h=>h⟩));have k0:=jy (uK.up.cell (hc _ _ (uV O k o 0 _ ho rfl)));have k1:=jy (uK.up.cell (hc _ _ (uV O k o 1 _ ho rfl)));have k2:=jy (uK.up.cell (hc _ _ (uV O k o 2 _ ho rfl)));have k3:=jy (uK.up.cell (hc _ _ (uV O k o 3 _ ho rfl)));have k4:=jy (uK.up.cell (hc _ _ (uV O k o 4 _ ho rfl)));have k5:=jy (uK.up.cell (hc _ _ (uV O k o 5 _ ho rfl)));clear uK hs hc ho;go_wp2_with(go_at_call 69;refine(OC F _ g (k*6) o.sv o.pv o.rv o.rH o.q8 o.sm R P n hs'.out k0.out k1.out k2.out k3.out k4.out k5.out).mono ?_;rintro e w1⟨rfl,VX⟩;replace VX:=jy VX);go_roundw;(case rel=>exact⟨k+1,by omega,by go_num,Jb.out.trans VX.out⟩);case measure=>simp[intOf];omega};·have:k=O.length:=(by omega);subst this;clear uK;go_wp2;go_ret;exact⟨rfl,Jb.out⟩
theorem Kp(v u:Value)(r:Ring)(w:World)(hv:uU w v r)(hu:uU w u r)(hb:r.length<=1048576):Calls Tryz.prog 54 #[v,u] w fun e w'=>e=.returned (.bool false)∧∃n,w'=w.drewN n:=by
 obtain⟨ao,cap,rfl,hm⟩:=hv;obtain⟨uC,mG,rfl,hm2⟩:=hu;go_enter Tryz.func54,Tryz.ntmps54;go_wp2;go_loopw[5](fun i wr=>∃k:Nat,k<=r.length∧i=.int .i64 k∧∃n,wr=w.drewN n)(fun i _=>r.length-(intOf i).toNat);(case atStart=>exact⟨0,au _,rfl,0,rfl⟩);case round=>obtain⟨k,hk,rfl,n,rfl⟩:=hrel;by_cases hlt:k<r.length;{obtain⟨⟨x,y⟩,hp⟩:=Pl.jC hlt;obtain⟨b,rfl,c1,c2⟩:=hm k _ hp;obtain⟨b2,rfl,c3,c4⟩:=hm2 k _ hp;dsimp only at c1 c2 c3 c4;have hm':=jy hm;have aot:=jy hm2;clear hm hm2 hp;go_wp2;go_quiet(fail);go_wp2;go_quiet(fail);go_wp2;go_roundw;(case rel=>exact⟨k+1,by omega,by go_num,_,rfl⟩);case measure=>simp[intOf];omega};·have:k=r.length:=(by omega);subst this;go_wp2;go_ret;exact⟨rfl,_,rfl⟩
theorem BN(v u:Value)(m:jL)(w:World)(hv:qN w v m)(hu:qN w u m)(hb:Pl.Bd m):Calls Tryz.prog 29 #[v,u] w fun e w'=>e=.returned (.bool true)∧∃n,w'=w.drewN n:=by
 obtain⟨ao,cap,rfl,hm⟩:=hv;obtain⟨uC,mG,rfl,hm2⟩:=hu;have hlen:=hb.len;have hb':=jy hb;clear hb;go_enter Tryz.func29,Tryz.ntmps29;go_wp2;go_loopw[5](fun i wr=>∃k:Nat,k<=m.length∧i=.int .i64 k∧Dr w wr)(fun i _=>m.length-(intOf i).toNat);(case atStart=>exact⟨0,au _,rfl,Dr.refl _⟩);case round=>obtain⟨k,hk,rfl,uK⟩:=hrel;have Jb:=jy uK;clear uK;by_cases hlt:k<m.length;{obtain⟨l,hl⟩:=Pl.jC hlt;obtain⟨b,x,rfl,hc,ZH,Eb,rfl,hr⟩:=hm k l hl;obtain⟨b2,y,rfl,sM,ao4,aou,rfl,wV⟩:=hm2 k l hl;have XL:=hb'.out.poly l (Pl.jz hl);have hrr:=jy (hb'.out.ring l (Pl.jz hl));have hm':=jy hm;have aot:=jy hm2;have hr':=jy hr;have aov:=jy wV;have gc:=Jb.out.up.cell hc;have gc2:=Jb.out.up.cell sM;have hcH:=jy hc;have aow:=jy sM;clear hm hm2 hl hr wV hc sM;go_wp2;go_quiet(fail);go_wp2;go_loopw[6](fun j wr=>∃q:Nat,q<=l.length∧j=.int .i64 q∧Dr w wr)(fun j _=>l.length-(intOf j).toNat);(case atStart=>exact⟨0,au _,rfl,Jb.out.n _⟩);case round=>obtain⟨q,hq,rfl,Dx⟩:=hrel;have zR:=jy Dx;have ec:=Dx.up.cell hcH.out;have ec2:=Dx.up.cell aow.out;clear Dx gc gc2;by_cases oQ:q<l.length;{obtain⟨r,vG⟩:=Pl.jC oQ;obtain⟨b3,x3,rfl,hc3,hd3⟩:=hr'.out q r vG;obtain⟨b4,x4,rfl,hc4,LY⟩:=aov.out q r vG;have hrl:=jy (hrr.out r (Pl.jz vG));have akl:=jy (hd3.up zR.out.up);have akm:=jy (LY.up zR.out.up);have gc3:=zR.out.up.cell hc3;have gc4:=zR.out.up.cell hc4;clear vG hd3 LY hc3 hc4;go_wp2;go_quiet((go_at_call 54;refine Calls.quiet_of (Kp _ _ r _ ?_ ?_ ?_);exact akl.out.up ((Up.refl _).drewN _);exact akm.out.up ((Up.refl _).drewN _);exact hrl.out));have hdx:Dr wr (wr.drewN nq):=⟨nq,rfl⟩;generalize wr.drewN nq=wx at hdx⊢;have agR:=jy hdx;have xc:=hdx.up.cell ec;have xc2:=hdx.up.cell ec2;have xc3:=hdx.up.cell gc3;have xc4:=hdx.up.cell gc4;clear hdx ec ec2 gc3 gc4;go_wp2;go_quiet((go_at_call 54;refine Calls.quiet_of (Kp _ _ r _ ?_ ?_ ?_);exact(akm.out.up agR.out.up).up ((Up.refl _).drewN _);exact(akl.out.up agR.out.up).up ((Up.refl _).drewN _);exact hrl.out));go_wp2;go_roundw;(case rel=>exact⟨q+1,by omega,by go_num,(zR.out.trans agR.out).n _⟩);case measure=>simp[intOf];omega};·have:q=l.length:=(by omega);subst this;go_wp2;go_roundw;(case rel=>exact⟨k+1,by omega,by go_num,zR.out⟩);case measure=>simp[intOf];omega};·have:k=m.length:=(by omega);subst this;go_wp2;go_ret;exact⟨rfl,Jb.out⟩
theorem Dw.header{w:World}{d:D2}(h:Dw w d)(hb:d.bare){i:Nat}{x:D1}(hx:d.rs[i]?=some x):w.cell? ⟨d.b,i,none⟩=some (.slice (some ⟨x.b,0,none⟩) x.r.length x.r.length):=by
 have hx':(d.rs++d.s)[i]?=some x:=(by rw[aT (Pl.jI hx)];exact hx);have:=h.row.cell (i:=i) (v:=x.v) (by simp only[aE,hx'];rfl);rw[this,D1.v,hb.2 x (Pl.jz hx)];rfl
theorem yE.header{w:World}{d:D3}(h:yE w d)(hb:d.bare){i:Nat}{x:D2}(hx:d.ps[i]?=some x):w.cell? ⟨d.b,i,none⟩=some (.slice (some ⟨x.b,0,none⟩) x.rs.length x.rs.length):=by
 have hx':(d.ps++d.s)[i]?=some x:=(by rw[aT (Pl.jI hx)];exact hx);have:=h.row.cell (i:=i) (v:=x.v) (by simp only[aE,hx'];rfl);rw[this,D2.v,(hb.2 x (Pl.jz hx)).1];rfl
theorem yE.aox{w:World}{d:D3}(h:yE w d){i:Nat}{x:D2}(hx:d.ps[i]?=some x):Dw w x:=h.sub x (bA _ (Pl.jz hx))
theorem ZT(d:D3)(u:Value)(m:jL)(w:World)(hd:yE w d)(hdb:d.bare)(hm:d.m=m)(hu:qN w u m)(hb:Pl.Bd m):Calls Tryz.prog 83 #[d.v,u] w fun e w'=>e=.returned (.bool true)∧Dr w w':=by
 have hr:=jy hd.rd;rw[hm]at hr;have MZ:=jy hu;have hb':=jy hb;have hlen:=hb.len;have Qa:d.ps.length=m.length:=(by rw[←hm];simp[D3.m]);have pL:Hid (∀x∈d.ps,x.rs.length<=1048576):=(by intro x hx;have:=hb.poly x.pts (by rw[←hm];exact aW hx);simpa[D2.pts]using this);have hd':=jy hd;have akn:=jy hdb;have hv:d.v=.slice (some ⟨d.b,0,none⟩) d.ps.length d.ps.length:=(by rw[D3.v,hdb.1];rfl);rw[hv]at hr⊢;have ZK:d.ps.length<=1048576:=(by omega);clear hv hu hb hm hd hdb Qa hlen;go_enter Tryz.func83,Tryz.ntmps83;go_wp2_with(go_at_call 29;refine(BN _ _ m _ ?_ ?_ ?_).mono ?_;exact hr.out;exact MZ.out;exact hb'.out;rintro e w1⟨rfl,uK⟩;replace uK:=jy (show Dr w w1 from uK));go_loopw[6](fun i wr=>∃k:Nat,k<=d.ps.length∧i=.int .i64 k∧Dr w wr)(fun i _=>d.ps.length-(intOf i).toNat);(case atStart=>exact⟨0,au _,rfl,uK.out⟩);case round=>obtain⟨k,hk,rfl,hdk⟩:=hrel;have V4:=jy hdk;clear hdk;by_cases hlt:k<d.ps.length;{obtain⟨x,hx⟩:=Pl.jC hlt;have hxl:=pL.out x (Pl.jz hx);have hc:=jy (hd'.out.header akn.out hx);have gc:=V4.out.up.cell hc.out;have hox:=jy (hd'.out.aox hx);have aoy:=jy (akn.out.2 x (Pl.jz hx));clear hx;go_wp2;go_quiet(fail);go_wp2;clear gc;go_loopw[7](fun j wr=>∃q:Nat,q<=x.rs.length∧j=.int .i64 q∧Dr w wr)(fun j _=>x.rs.length-(intOf j).toNat);(case atStart=>exact⟨0,au _,rfl,V4.out.n _⟩);case round=>obtain⟨q,hq,rfl,Dx⟩:=hrel;have zR:=jy Dx;clear Dx;have ec:=zR.out.up.cell hc.out;by_cases oQ:q<x.rs.length;{obtain⟨y,hy⟩:=Pl.jC oQ;have ec2:=zR.out.up.cell (hox.out.header aoy.out hy);clear hy;go_wp2;go_quiet(fail);go_wp2;go_roundw;(case rel=>exact⟨q+1,by omega,by go_num,zR.out.n _⟩);case measure=>simp[intOf];omega};·have:q=x.rs.length:=(by omega);subst this;go_wp2;go_roundw;(case rel=>exact⟨k+1,by omega,by go_num,zR.out⟩);case measure=>simp[intOf];omega};·have:k=d.ps.length:=(by omega);subst this;go_wp2;go_ret;exact⟨rfl,V4.out⟩
theorem Fr.then{S T:Nat->Prop}{a b c:World}(h:Fr S a b)(k:Fr T b c)(hT:∀x,x<a.heap.size->T x->S x):Fr S a c:=⟨k.os.trans h.os,k.tape.trans h.tape,k.output.trans h.output,cq h.size k.size,fun i hi hs=>(k.block i (eV hi h.size) (fun e=>hs (hT i hi e))).trans (h.block i hi hs)⟩
theorem Fr.CZ{w w':World}{row:Option Nat}(h:w.grownBy w' row):Fr (fun b=>row=some b) w w':=⟨h.os,h.tape,h.output,h.size,fun b hb hs=>h.block b hb (fun e=>hs e.symm)⟩
theorem Fr.agS(w:World)(a:Addr)(v:Value):Fr (fun b=>b=a.block) w (w.setCell a v):=Fr.setCell (S:=fun b=>b=a.block) (Fr.refl _ w) rfl v
theorem V5:Elem Tryz.prog 36 98 (.agg AG.toArray) 6 128:=⟨by kernel_rfl,by kernel_rfl,rfl,by omega,by omega⟩
structure TS(w wr:World)(Wb:Nat)(l9 lv OE:Value)(Ul:Int)(F:Nat->Prop)(n0 i:Nat)(kC:Value)(O:List OG)(mk:Int):Prop where
 fr:Fr (fun b=>b=Wb∨OE.ownBlock=some b) w wr
 nY:WR wr Wb l9 lv kC mk
 own:wr.ownsRow 0 98 6 kC O.length (tn O)
 at_:kC.ownBlock=OE.ownBlock∨∃g,kC.ownBlock=some g∧w.heap.size<=g
 hs:∀o∈O,HSo (fun b=>(F b∨w.heap.size<=b)∧b≠Wb∧kC.ownBlock≠some b) wr o
 len:O.length=n0+i
 AX:Ul<=mk
 mk2:mk<=Ul+i*32
theorem TS.step{w wr w1 w3 w4 w5 w6 w8:World}{Wb:Nat}{l9 lv OE kC:Value}{Ul mk:Int}{F:Nat->Prop}{n0 i:Nat}{O:List OG}(h:TS w wr Wb l9 lv OE Ul F n0 i kC O mk)(Ri:Wb<w.heap.size){d:D3}(VV:∀b∈d.bl,wr.heap.size<=b)(hdo:yE w1 d)(u1:Up wr w1)(u3:Up w1 w3){pv rv rH q8:Value}(hn:Ui w3 w4 pv rv rH q8 (o8 d.ps mk) (pP d.ps mk))(u5:Up w4 w5){g cap:Nat}(hg:w5.grownBy w6 kC.ownBlock)(hown:w6.ownsRow 0 98 6 (.slice (some ⟨g,0,none⟩) (O.length+1) cap) (O.length+1) (tn O++(OG.mk d.v pv rv rH q8 (mk+off d.ps)).cells))(AY:kC.ownBlock=some g∨g=w5.heap.size)(hlt:g<w6.heap.size)(hs:AE (w6.setCell ⟨Wb,2,none⟩ (.slice (some ⟨g,0,none⟩) (O.length+1) cap)) w8 d Wb l9 lv (.slice (some ⟨g,0,none⟩) (O.length+1) cap) mk)(hb:Pl.Bd d.m)(hnr:Pl.nR d.m<=12)(hnp:d.m.length<=8):TS w w8 Wb l9 lv OE Ul F n0 (i+1) (.slice (some ⟨g,0,none⟩) (O.length+1) cap) (O++[OG.mk d.v pv rv rH q8 (mk+off d.ps)]) (mk+off d.ps+1):=by
 have s0:=h.fr.size;have s1:=u1.size;have s3:=u3.size;have s4:=hn.up.size;have s5:=u5.size;have s6:=hg.size;have s7:(w6.setCell ⟨Wb,2,none⟩ (.slice (some ⟨g,0,none⟩) (O.length+1) cap)).heap.size=w6.heap.size:=(by simp[World.setCell]);have ZP:∀b∈d.bl,b<w1.heap.size:=hdo.lt;have hold:∀b,kC.ownBlock=some b->b<wr.heap.size:=fun b e=>(j8 h.own e).2;have hgo:g<wr.heap.size∧kC.ownBlock=some g∨g=w5.heap.size:=(by rcases AY with e|e;{exact .inl ⟨hold g e,e⟩};·exact .inr e);have f47:Fr (fun b=>b=Wb∨kC.ownBlock=some b) w4 (w6.setCell ⟨Wb,2,none⟩ (.slice (some ⟨g,0,none⟩) (O.length+1) cap)):=(((Fr.me u5).then (Fr.CZ hg) fun x _ e=>.inr e)).setCell (.inl rfl) _;have frt:Fr (fun b=>b=Wb∨kC.ownBlock=some b∨b∈d.bl) wr w8:=((((Fr.me (((u1.trans u3).trans hn.up))).then f47 fun x _ e=>by rcases e with e|e;{exact .inl e};·exact .inr (.inl e))).then hs.fr fun x _ e=>by rcases e with e|e;{exact .inr (.inr e)};·exact .inl e);have hoff:=ZQ d;have Fe:d.m.length=d.ps.length:=(by simp[D3.m]);refine⟨?_,hs.nY,?_,?_,?_,?_,?_,?_⟩;·refine h.fr.then frt fun x hx e=>?_;rcases e with e|e|e;{exact .inl e};{rcases h.at_ with e2|⟨g2,e2,e3⟩;{exact .inr (by rw[←e2];exact e)};·rw[e2]at e;cases e;omega};·have:=VV x e;omega
 {rw[OB,aj];have o7:=k9 hown (a:=⟨Wb,2,none⟩) (show some g≠some Wb by intro e;have e:=aO e;rcases hgo with e2|e2;{have hr:=h.nY;exact jO h.own hr (by decide) (by rw[e2.2,e])};·omega) (.slice (some ⟨g,0,none⟩) (O.length+1) cap);refine vL o7 hs.fr ?_;intro b eb;have eb:g=b:=aO eb;subst eb;rintro(e|e);{rcases hgo with e2|e2;{have:=VV g e;omega};·have:=ZP g e;omega};·rcases hgo with e2|e2;{exact jO h.own h.nY (by decide) (by rw[e2.2,e])};·omega};{rcases hgo with e2|e2;{rcases h.at_ with e3|⟨g2,e3,e4⟩;{exact .inl (by rw[←e3,e2.2];rfl)};·rw[e2.2]at e3;cases e3;exact .inr ⟨g,rfl,e4⟩};·exact .inr ⟨g,rfl,by omega⟩};·intro o ho;rcases aC.1 ho with ho|ho;{refine(h.hs o ho).keep frt fun b hb hF=>⟨⟨hF.1,hF.2.1,?_⟩,?_⟩;{show some g≠some b;intro e;have e:=aO e;rcases hgo with e2|e2;{exact hF.2.2 (by rw[e2.2,e])};·omega};·rintro(e|e|e);{exact hF.2.1 e};{exact hF.2.2 e};·have:=VV b e;omega};·simp at ho;subst ho;have hm:=HS.made hn f47 hs (fun b hb=>by have:=ZP b hb;omega) (by omega) (fun b h1 h2 e=>by rcases e with e|e;{omega};·have:=hold b e;omega) hb (by omega);refine⟨_,_,_,hm.keep (Fr.refl (fun _=>False) _) fun b _ hF=>⟨?_,fun h=>h⟩⟩;rw[s7]at hF;rcases hF with hF|⟨hF1,hF2⟩|hF;{have h1:=VV b hF;have h2:=ZP b hF;exact⟨.inr (by omega),by omega,fun e=>by have e:g=b:=aO e;rcases hgo with e2|e2<;>omega⟩};{exact⟨.inr (by omega),by omega,fun e=>by have e:g=b:=aO e;rcases hgo with e2|e2<;>omega⟩};·exact⟨.inr (by omega),by omega,fun e=>by have e:g=b:=aO e;omega⟩
 {rw[aj,h.len];rfl};{have:=h.AX;omega};·have:=h.mk2;have h1:off d.ps<=20:=(by omega);omega
def XN(w:World)(v:Value)(l:Poly):Prop:=∃ao cap,v=.slice ao l.length cap∧l.length<=cap∧∀i r,l[i]?=some r->∃b u,ao=some ⟨b,0,none⟩∧w.cell? ⟨b,i,none⟩=some u∧uU w u r
def FP(w:World)(v:Value)(m:jL):Prop:=∃ao cap,v=.slice ao m.length cap∧∀i l,m[i]?=some l->∃b u,ao=some ⟨b,0,none⟩∧w.cell? ⟨b,i,none⟩=some u∧XN w u l
theorem XN.up{w w':World}{v:Value}{l:Poly}(h:XN w v l)(k:Up w w'):XN w' v l:=by
 obtain⟨ao,cap,e,hc,h⟩:=h;exact⟨ao,cap,e,hc,fun i r hr=>by obtain⟨b,u,eb,c,q⟩:=h i r hr;exact⟨b,u,eb,k.cell c,q.up k⟩⟩
theorem FP.up{w w':World}{v:Value}{m:jL}(h:FP w v m)(k:Up w w'):FP w' v m:=by
 obtain⟨ao,cap,e,h⟩:=h;exact⟨ao,cap,e,fun i r hr=>by obtain⟨b,u,eb,c,q⟩:=h i r hr;exact⟨b,u,eb,k.cell c,q.up k⟩⟩
theorem XN.rd{w:World}{v:Value}{l:Poly}(h:XN w v l):uJ w v l:=by
 obtain⟨ao,cap,e,-,h⟩:=h;exact⟨ao,cap,e,h⟩
theorem FP.rd{w:World}{v:Value}{m:jL}(h:FP w v m):qN w v m:=by
 obtain⟨ao,cap,e,h⟩:=h;exact⟨ao,cap,e,fun i r hr=>by obtain⟨b,u,eb,c,q⟩:=h i r hr;exact⟨b,u,eb,c,q.rd⟩⟩
theorem Dw.rc{w:World}{d:D2}(h:Dw w d):XN w d.v d.pts:=by
 refine⟨some ⟨d.b,0,none⟩,_,by unfold D2.v D2.pts;rw[aB],by unfold D2.pts;rw[aB];exact Nat.le_add_right _ _,fun i r hr=>?_⟩;unfold D2.pts at hr;rw[aE,bM]at hr;obtain⟨y,hy,rfl⟩:=hr;have XE:(d.rs++d.s)[i]?=some y:=(by rw[aT (Pl.jI hy)];exact hy);exact⟨d.b,y.v,rfl,h.row.cell (by rw[aE,XE];rfl),(h.sub y (Pl.jz XE)).rd⟩
theorem yE.rc{w:World}{d:D3}(h:yE w d):FP w d.v d.m:=by
 refine⟨some ⟨d.b,0,none⟩,_,by unfold D3.v D3.m;rw[aB],fun i r hr=>?_⟩;unfold D3.m at hr;rw[aE,bM]at hr;obtain⟨y,hy,rfl⟩:=hr;have XE:(d.ps++d.s)[i]?=some y:=(by rw[aT (Pl.jI hy)];exact hy);exact⟨d.b,y.v,rfl,h.row.cell (by rw[aE,XE];rfl),(h.sub y (Pl.jz XE)).rc⟩
def Kept(F:Nat->Prop)(w:World)(R:World->Prop):Prop:=∃l:List Nat,(∀b∈l,b<w.heap.size∧F b)∧∀w':World,(∀b∈l,w'.heap[b]?=w.heap[b]?)->R w'
theorem Kept.now{F:Nat->Prop}{w:World}{R:World->Prop}(h:Kept F w R):R w:=by
 obtain⟨l,_,h⟩:=h;exact h w fun _ _=>rfl
theorem Kept.keep{F F' S:Nat->Prop}{w w':World}{R:World->Prop}(h:Kept F w R)(k:Fr S w w')(hF:∀b,b<w.heap.size->F b->F' b∧¬S b):Kept F' w' R:=by
 obtain⟨l,h1,h2⟩:=h;refine⟨l,fun b hb=>⟨eV (h1 b hb).1 k.size,(hF b (h1 b hb).1 (h1 b hb).2).1⟩,fun w2 e=>h2 w2 fun b hb=>(e b hb).trans ?_⟩;exact k.block b (h1 b hb).1 (hF b (h1 b hb).1 (h1 b hb).2).2
theorem Kept.mono{F:Nat->Prop}{w:World}{R R':World->Prop}(h:Kept F w R)(k:∀w,R w->R' w):Kept F w R':=by
 obtain⟨l,h1,h2⟩:=h;exact⟨l,h1,fun w' e=>k w' (h2 w' e)⟩
structure SV where
 a:Option Addr
 n:Nat
 c:Nat
def SV.v(d:SV):Value:=.slice d.a d.n d.c
structure SG where
 x:Value
 m:jL
 bx:Nat
 dx:SV
 dm:SV
def SG.cells(s:SG):List Value:=[s.x,s.dm.v]
def rM(S:List SG):List Value:=S.flatMap SG.cells
structure C3(F:Nat->Prop)(w:World)(s:SG):Prop where
 ptr:s.x=.pointer (some ⟨s.bx,0,none⟩)
 kx:Kept F w fun w=>jK w s.bx 78 [s.dx.v]∧FP w s.dx.v s.m
 km:Kept F w fun w=>FP w s.dm.v s.m
 bd:Pl.Bd s.m
 ok0:Pl.wrong s.m=0
theorem Hh.lt{w:World}{v:Value}{m:jL}{b:Nat}{d:D3}(h:Hh w v m b d):∀x∈b::d.bl,x<w.heap.size:=by
 intro x hx;rcases aD.1 hx with rfl|hx;{exact h.cell.lt};·exact h.ok.lt x hx
theorem Hh.frr{S:Nat->Prop}{w w':World}{v:Value}{m:jL}{b:Nat}{d:D3}(h:Hh w v m b d)(k:Fr S w w')(hs:∀x∈b::d.bl,¬S x):Hh w' v m b d:=⟨h.ptr,k.row h.cell (hs b (by simp)),k.ok3 h.ok (fun x hx=>hs x (by simp[hx])),h.pts⟩
theorem C3.keep{F F':Nat->Prop}{S:Nat->Prop}{w w':World}{s:SG}(h:C3 F w s)(k:Fr S w w')(hF:∀b,b<w.heap.size->F b->F' b∧¬S b):C3 F' w' s:=⟨h.ptr,h.kx.keep k hF,h.km.keep k hF,h.bd,h.ok0⟩
def D3.sv(d:D3):SV:=⟨some ⟨d.b,0,none⟩,d.ps.length,d.ps.length+d.s.length⟩
theorem yE.kept{F:Nat->Prop}{w:World}{d:D3}(h:yE w d)(hf:∀b∈d.bl,F b):Kept F w fun w=>FP w d.sv.v d.m:=⟨d.bl,fun b hb=>⟨h.lt b hb,hf b hb⟩,fun w' e=>(h.of e).rc⟩
theorem Hh.kept{F:Nat->Prop}{w:World}{v:Value}{m:jL}{b:Nat}{d:D3}(h:Hh w v m b d)(hf:∀x∈b::d.bl,F x):Kept F w fun w=>jK w b 78 [d.sv.v]∧FP w d.sv.v m:=⟨b::d.bl,fun x hx=>⟨h.lt x hx,hf x hx⟩,fun w' e=>⟨h.cell.of_block (e b (by simp)),by have:=(h.ok.of fun x hx=>e x (by simp[hx])).rc;rw[h.pts]at this;exact this⟩⟩
theorem C3.of3{F:Nat->Prop}{w:World}{v:Value}{m:jL}{b:Nat}{d d2:D3}(h:Hh w v m b d)(h2:yE w d2)(e:d2.m=m)(hf:∀x∈b::d.bl,F x)(Q0:∀x∈d2.bl,F x)(hb:Pl.Bd m)(h0:Pl.wrong m=0):C3 F w ⟨v,m,b,d.sv,d2.sv⟩:=⟨h.ptr,h.kept hf,e▸h2.kept Q0,hb,h0⟩
theorem OH(S:List SG)(s:SG):rM (S++[s])=rM S++s.cells:=by simp[rM]
theorem V6(S:List SG):∀(i:Nat)(s:SG),S[i]?=some s->(rM S)[i*2]?=some s.x∧(rM S)[i*2+1]?=some s.dm.v:=by induction S with|nil=>intro i s h;simp at h|cons a t ih=>intro i s h;cases i with|zero=>simp at h;subst h;exact⟨rfl,rfl⟩|succ i=>have:=ih i s (by simpa using h);have e1:(i+1)*2=i*2+1+1:=(by omega);rw[e1];show(a.x::a.dm.v::rM t)[i*2+1+1]?=_∧(a.x::a.dm.v::rM t)[i*2+1+1+1]?=_;exact⟨by simpa using this.1,by simpa using this.2⟩
structure L1 where
 v:Value
 r:Ring
structure L2 where
 v:Value
 rs:List L1
structure L3 where
 v:Value
 ps:List L2
def L1.bl(x:L1):List Nat:=x.v.ownBlock.toList
def L2.bl(x:L2):List Nat:=x.v.ownBlock.toList++x.rs.flatMap L1.bl
def L3.bl(x:L3):List Nat:=x.v.ownBlock.toList++x.ps.flatMap L2.bl
def L2.pts(x:L2):Poly:=x.rs.map L1.r
def L3.m(x:L3):jL:=x.ps.map L2.pts
def L1.ok(w:World)(x:L1):Prop:=w.ownsRow 0 32 2 x.v x.r.length (flat x.r)
structure L2.ok(w:World)(x:L2):Prop where
 row:w.ownsRow 0 30 1 x.v x.rs.length (x.rs.map L1.v)
 sub:∀y∈x.rs,y.ok w
structure L3.ok(w:World)(x:L3):Prop where
 row:w.ownsRow 0 33 1 x.v x.ps.length (x.ps.map L2.v)
 sub:∀y∈x.ps,y.ok w
theorem L1.ok.of{w w':World}{x:L1}(h:x.ok w)(k:∀b∈x.bl,w'.heap[b]?=w.heap[b]?):x.ok w':=mE h fun g hg=>k g (by simp[L1.bl,hg])
theorem L2.ok.of{w w':World}{x:L2}(h:x.ok w)(k:∀b∈x.bl,w'.heap[b]?=w.heap[b]?):x.ok w':=⟨mE h.row fun g hg=>k g (by simp[L2.bl,hg]),fun y hy=>(h.sub y hy).of fun b hb=>k b (by simp only[L2.bl,aC,bQ];exact .inr ⟨y,hy,hb⟩)⟩
theorem L3.ok.of{w w':World}{x:L3}(h:x.ok w)(k:∀b∈x.bl,w'.heap[b]?=w.heap[b]?):x.ok w':=⟨mE h.row fun g hg=>k g (by simp[L3.bl,hg]),fun y hy=>(h.sub y hy).of fun b hb=>k b (by simp only[L3.bl,aC,bQ];exact .inr ⟨y,hy,hb⟩)⟩
theorem L1.ok.lt{w:World}{x:L1}(h:x.ok w):∀b∈x.bl,b<w.heap.size:=fun b hb=>(j8 h (by simpa[L1.bl]using hb)).2
theorem L2.ok.lt{w:World}{x:L2}(h:x.ok w):∀b∈x.bl,b<w.heap.size:=fun b hb=>by simp only[L2.bl,aC,bQ]at hb;rcases hb with hb|⟨y,hy,hb⟩;{exact(j8 h.row (by simpa using hb)).2};·exact(h.sub y hy).lt b hb
theorem L3.ok.lt{w:World}{x:L3}(h:x.ok w):∀b∈x.bl,b<w.heap.size:=fun b hb=>by simp only[L3.bl,aC,bQ]at hb;rcases hb with hb|⟨y,hy,hb⟩;{exact(j8 h.row (by simpa using hb)).2};·exact(h.sub y hy).lt b hb
theorem L1.ok.rd{w:World}{x:L1}(h:x.ok w):uU w x.v x.r:=by
 obtain⟨ao,cap,e⟩:=j6 h;refine⟨ao,cap,e,fun i p hp=>?_⟩;obtain⟨g,cap',e',hc⟩:=kU h (by have:=Pl.jI hp;omega);rw[e]at e';cases e';have:=rG _ _ _ hp;exact⟨g,rfl,hc _ _ this.1,hc _ _ this.2⟩
theorem L2.ok.rd{w:World}{x:L2}(h:x.ok w):uJ w x.v x.pts:=by
 obtain⟨ao,cap,e⟩:=j6 h.row;refine⟨ao,cap,by rw[e];simp[L2.pts],fun i p hp=>?_⟩;simp only[L2.pts,aE,bM]at hp;obtain⟨y,hy,rfl⟩:=hp;obtain⟨g,cap',e',hc⟩:=kU h.row (by have:=Pl.jI hy;omega);rw[e]at e';cases e';exact⟨g,y.v,rfl,hc _ _ (by rw[aE,hy];rfl),(h.sub y (Pl.jz hy)).rd⟩
theorem L3.ok.rd{w:World}{x:L3}(h:x.ok w):qN w x.v x.m:=by
 obtain⟨ao,cap,e⟩:=j6 h.row;refine⟨ao,cap,by rw[e];simp[L3.m],fun i p hp=>?_⟩;simp only[L3.m,aE,bM]at hp;obtain⟨y,hy,rfl⟩:=hp;obtain⟨g,cap',e',hc⟩:=kU h.row (by have:=Pl.jI hy;omega);rw[e]at e';cases e';exact⟨g,y.v,rfl,hc _ _ (by rw[aE,hy];rfl),(h.sub y (Pl.jz hy)).rd⟩
def Jc(Wb:Nat)(l9 kC:Value)(L:L3)(b:Nat):Prop:=b=Wb∨l9.ownBlock=some b∨kC.ownBlock=some b∨b∈L.bl
def tot(m:jL):Nat:=m.length+Pl.nR m+Pl.nP m
structure Inv(w0 w:World)(Wb:Nat)(l9 kC:Value)(mk:Int)(S:List SG)(O:List OG)(L:L3)(n:Nat):Prop where
 nY:WR w Wb l9 L.v kC mk
 ops:w.ownsRow 0 52 2 l9 S.length (rM S)
 Fj:w.ownsRow 0 98 6 kC O.length (tn O)
 OI:L.ok w
 nodup:L.bl.Nodup
 sets:∀s∈S,C3 (fun b=>¬Jc Wb l9 kC L b) w s
 outs:∀o∈O,HSo (fun b=>¬Jc Wb l9 kC L b) w o
 bS:S.length<=n
 bO:O.length<=n*3
 Ul:0<=mk
 AX:mk<=n*2097152
 V7:tot L.m<=n
 base:Up w0 w
 low:∀b,Jc Wb l9 kC L b->w0.heap.size<=b
theorem uW{l:List Nat}{x:Nat}(h:x∈l):x<=l.sum:=by induction l with|nil=>cases h|cons a t ih=>rw[fB];rcases aD.1 h with rfl|h;{omega};·have:=ih h;omega
theorem agT{m:jL}{n:Nat}(h:tot m<=n)(hn:n<=1048576):Pl.Bd m:=by
 unfold tot at h;have h1:∀l∈m,l.length<=Pl.nR m:=fun l hl=>(by unfold Pl.nR;exact uW (aW hl));have h2:∀l∈m,∀r∈l,r.length<=Pl.nP m:=fun l hl r hr=>(by have a:r.length<=Pl.yM l:=(by unfold Pl.yM;exact uW (aW hr));have b:Pl.yM l<=Pl.nP m:=(by unfold Pl.nP;exact uW (aW hl));omega);exact⟨by omega,fun l hl=>by have:=h1 l hl;omega,fun l hl r hr=>by have:=h2 l hl r hr;omega⟩
end Go.Proofs.YtcclepohmhdpbaaGreatDoor
