import Derived.Test.YtcclepohmhdpbaaGreatDoorWalkF
import Derived.Test.YtcclepohmhdpbaaGreatDoorWalkB
import Derived.Deep.DrawnRows
set_option maxHeartbeats 4000000
set_option maxRecDepth 100000
namespace Go.Proofs.YtcclepohmhdpbaaGreatDoor
set_option linter.all false
open Go.RowKit Go.Deep
theorem FG.xO{w:World}{d:D2}(h:FG w d){i:Nat}{x:D1}(hx:d.rs[i]?=some x):w.cell? ⟨d.b,i,none⟩=some (.slice (some ⟨x.b,0,none⟩) x.r.length (x.r.length+x.s.length)):=by
 have hx':(d.rs++d.s)[i]?=some x:=(by rw[bh (Pl.jW hx)];exact hx);exact h.row.cell (i:=i) (v:=x.v) (by simp only[aI,hx'];rfl)
theorem Dn.xO{w:World}{d:D3}(h:Dn w d){i:Nat}{x:D2}(hx:d.ps[i]?=some x):w.cell? ⟨d.b,i,none⟩=some (.slice (some ⟨x.b,0,none⟩) x.rs.length (x.rs.length+x.s.length)):=by
 have hx':(d.ps++d.s)[i]?=some x:=(by rw[bh (Pl.jW hx)];exact hx);exact h.row.cell (i:=i) (v:=x.v) (by simp only[aI,hx'];rfl)
theorem Sd{w:World}{x:D1}(h:R9 w x)(hs:x.s=Sc):w.cell? ⟨x.b,x.r.length*2,none⟩=some (.int .i64 91)∧w.cell? ⟨x.b,x.r.length*2+1,none⟩=some (.int .i64 (-91))∧w.cell? ⟨x.b,(x.r.length+1)*2,none⟩=some (.int .i64 92)∧w.cell? ⟨x.b,(x.r.length+1)*2+1,none⟩=some (.int .i64 (-92)):=by
 have h':pE w x.b (x.r++Sc):=(by rw[←hs];exact h);have h1:=h'.cells (i:=x.r.length) (p:=(91,-91)) (by rw[aN (bB _),cC];rfl);have h2:=h'.cells (i:=x.r.length+1) (p:=(92,-92)) (by rw[aN (by omega),show x.r.length+1-x.r.length=1 by omega];rfl);exact⟨h1.1,h1.2,h2.1,h2.2⟩
theorem Se{w:World}{x:D2}(h:FG w x)(hs:x.marked):∃c,w.cell? ⟨x.b,x.rs.length,none⟩=some (.slice (some ⟨c,0,none⟩) 1 1)∧w.cell? ⟨c,0,none⟩=some (.int .i64 93)∧w.cell? ⟨c,1,none⟩=some (.int .i64 (-93)):=by
 obtain⟨⟨c,e⟩,_⟩:=hs;have h1:=h.row.cell (i:=x.rs.length) (v:=.slice (some ⟨c,0,none⟩) 1 1) (by rw[e,aV,aN (by simp),aH,cC];rfl);have h2:=h.sub ⟨c,[(93,-93)],[]⟩ (by rw[e];simp);have h3:=pE.cells h2 (i:=0) (p:=(93,-93)) rfl;exact⟨c,h1,h3.1,h3.2⟩
theorem Wz{w:World}{x:D3}(h:Dn w x)(hs:x.marked):∃b c,w.cell? ⟨x.b,x.ps.length,none⟩=some (.slice (some ⟨b,0,none⟩) 1 1)∧w.cell? ⟨b,0,none⟩=some (.slice (some ⟨c,0,none⟩) 1 1)∧w.cell? ⟨c,0,none⟩=some (.int .i64 94)∧w.cell? ⟨c,1,none⟩=some (.int .i64 (-94)):=by
 obtain⟨⟨b,c,e⟩,_⟩:=hs;have h1:=h.row.cell (i:=x.ps.length) (v:=.slice (some ⟨b,0,none⟩) 1 1) (by rw[e,aV,aN (by simp),aH,cC];rfl);have h2:=h.sub ⟨b,[⟨c,[(94,-94)],[]⟩],[]⟩ (by rw[e];simp);have Qw:=h2.row.cell (i:=0) (v:=.slice (some ⟨c,0,none⟩) 1 1) rfl;have h3:=pE.cells (h2.sub ⟨c,[(94,-94)],[]⟩ (by simp)) (i:=0) (p:=(94,-94)) rfl;exact⟨b,c,h1,Qw,h3.1,h3.2⟩
theorem Iw(d:D3)(m:jX)(w:World)(hd:Dn w d)(hmk:d.marked)(hm:d.m=m)(hb:Pl.Bd m):Calls Tryz.prog 30 #[d.v] w fun e w'=>e=.returned (.bool true)∧w'=w:=by
 have Pc:d.ps.length=m.length:=(by rw[←hm];simp[D3.m]);have qF:Hid (∀x∈d.ps,x.rs.length<=1048576):=(by intro x hx;have:=hb.poly x.pts (by rw[←hm];exact bJ hx);simpa[D2.pts]using this);have hl4:Hid (∀x∈d.ps,∀y∈x.rs,y.r.length<=1048576):=(by intro x hx y hy;exact hb.ring x.pts (by rw[←hm];exact bJ hx) y.r (bJ hy));have Mr:d.ps.length<=1048576:=(by have:=hb.len;omega);have hv:d.v=.slice (some ⟨d.b,0,none⟩) d.ps.length (d.ps.length+1):=(by obtain⟨⟨b,c,e⟩,_⟩:=hmk;rw[D3.v,e];rfl);rw[hv];obtain⟨b0,c0,m1,m2,m3,m4⟩:=Wz hd hmk;have hd':=jO hd;have aoI:=jO hmk;clear hd hmk hm hb hv Pc;go_enter Tryz.func30,Tryz.ntmps30;go_wp2;clear m1 m2 m3 m4;go_loop[5](fun i=>∃k:Nat,k<=d.ps.length∧i=.int .i64 k)(fun i=>d.ps.length-(intOf i).toNat);(case atStart=>exact⟨0,aD _,rfl⟩);case round=>obtain⟨k,hk,rfl⟩:=hrel;by_cases hlt:k<d.ps.length;{obtain⟨x,hx⟩:=Pl.jQ hlt;have hxl:=qF.out x (Pl.jP hx);have hc:=hd'.out.xO hx;have hox:=jO (hd'.out.sub x (bw _ (Pl.jP hx)));have hmx:=jO (aoI.out.2 x (Pl.jP hx));have hxs:x.s.length=1:=(by obtain⟨c,e⟩:=hmx.out.1;rw[e];rfl);rw[hxs]at hc;obtain⟨c,n1,n2,n3⟩:=Se hox.out hmx.out;have hl5:=jO (hl4.out x (Pl.jP hx));clear hx hxs;go_wp2;clear n1 n2 n3;go_loop[8](fun j=>∃q:Nat,q<=x.rs.length∧j=.int .i64 q)(fun j=>x.rs.length-(intOf j).toNat);(case atStart=>exact⟨0,aD _,rfl⟩);case round=>obtain⟨q,hq,rfl⟩:=hrel;by_cases pS:q<x.rs.length;{obtain⟨y,hy⟩:=Pl.jQ pS;have hyl:=hl5.out y (Pl.jP hy);have hcy:=hox.out.xO hy;have hys:=hmx.out.2 y (Pl.jP hy);obtain⟨r1,r2,r3,r4⟩:=Sd (hox.out.sub y (bw _ (Pl.jP hy))) hys;rw[hys,show Sc.length=2 from rfl]at hcy;clear hy hys;go_wp2;go_round;(case rel=>exact⟨q+1,by omega,by go_num⟩);case measure=>simp[intOf];omega};·have:q=x.rs.length:=(by omega);subst this;go_wp2;go_round;(case rel=>exact⟨k+1,by omega,by go_num⟩);case measure=>simp[intOf];omega};·have:k=d.ps.length:=(by omega);subst this;go_wp2;go_ret;exact⟨rfl,rfl⟩
def Mu(c:Nat):Value:=.slice (some ⟨c,0,none⟩) 1 1
def off(ps:List D2):Nat:=(ps.map fun x=>x.rs.length+1).sum
def spt(r s:Ring)(i:Nat)(mk:Int):Ring:=List.replicate i (-77,mk)++(r.drop i++s)
theorem aar(r s:Ring)(mk:Int):spt r s r.length mk=List.replicate r.length (-77,mk)++s:=by simp[spt]
theorem aas(r s:Ring)(i:Nat)(mk:Int)(h:i<r.length):(spt r s i mk).set i (-77,mk)=spt r s (i+1) mk:=by
 unfold spt;rw[cO _ _ (by simp),dJ,cC,cI h,bE,fI,List.replicate_succ',cG];rfl
theorem aat(r s:Ring)(i:Nat)(mk:Int)(h:i<r.length):∃p,(spt r s i mk)[i]?=some p:=by
 unfold spt;rw[aN (by simp),dJ,cC,cI h];exact⟨_,rfl⟩
structure RL(w wq:World)(x:D2)(Wb:Nat)(ps l out:Value)(kk:Int)(q:Nat):Prop where
 fr:Fr (fun b=>b∈x.rs.map D1.b∨b=Wb) w wq
 nV:WR wq Wb ps l out (kk+q)
 done:∀i y,i<q->x.rs[i]?=some y->pE wq y.b (List.replicate y.r.length (-77,kk+i)++y.s)
 todo:∀i y,q<=i->x.rs[i]?=some y->R9 wq y
structure HL(w wq:World)(x:D2)(mk:Int)(i:Nat)(cs:List Nat):Prop where
 fr:Fr (fun b=>b=x.b) w wq
 row:jV wq x.b 30 (cs.map Mu++(x.rs.drop i++x.s).map D1.v)
 len:cs.length=i
 new:∀c∈cs,w.heap.size<=c∧pE wq c [(77,mk)]
def PD(w wq:World)(x:D2)(kk:Int):Prop:=(∀(i:Nat)y,x.rs[i]?=some y->RF1 (fun b=>b∈x.bl∨w.heap.size<=b) wq y.v (List.replicate y.r.length (-77,kk+i)))∧RF2 (fun b=>b∈x.bl∨w.heap.size<=b) wq x.v (List.replicate x.rs.length [(77,kk+x.rs.length)])
structure SP(w wq:World)(d:D3)(Wb:Nat)(ps l out:Value)(k:Int)(p:Nat):Prop where
 fr:Fr (fun b=>b∈d.bl∨b=Wb) w wq
 nV:WR wq Wb ps l out (k+off (d.ps.take p))
 row:jV wq d.b 33 ((d.ps++d.s).map D2.v)
 todo:∀j x,p<=j->d.ps[j]?=some x->FG wq x
 done:∀j x,j<p->d.ps[j]?=some x->PD w wq x (k+off (d.ps.take j))
structure FL(w wq:World)(d:D3)(mk:Int)(i:Nat)(es:List (Nat×Nat)):Prop where
 fr:Fr (fun b=>b=d.b) w wq
 row:jV wq d.b 33 ((es.map fun e=>Mu e.1)++(d.ps.drop i++d.s).map D2.v)
 len:es.length=i
 new:∀e∈es,w.heap.size<=e.1∧w.heap.size<=e.2∧jV wq e.1 30 [Mu e.2]∧pE wq e.2 [(777,mk)]
theorem D3.EC{d:D3}(h:d.bl.Nodup){x:D2}(hx:x∈d.ps):d.b∉x.bl:=fun hb=>(b9.1 h).1 (cB.2 ⟨x,bw _ hx,hb⟩)
theorem D3.pZ{d:D3}{x:D2}(hx:x∈d.ps){b:Nat}(hb:b∈x.bl):b∈d.bl:=dP _ (cB.2 ⟨x,bw _ hx,hb⟩)
theorem D3.ED{d:D3}(h:d.bl.Nodup){x:D2}(hx:x∈d.ps):x.bl.Nodup:=(List.pairwise_flatMap.1 (b9.1 h).2).1 x (bw _ hx)
theorem D3.apart{d:D3}(h:d.bl.Nodup){i j:Nat}{x y:D2}(hx:d.ps[i]?=some x)(hy:d.ps[j]?=some y)(hij:i≠j){b:Nat}(hb:b∈x.bl):b∉y.bl:=by
 have hp:=(List.pairwise_flatMap.1 (b9.1 h).2).2;rw[c8]at hp;have hi:=Pl.jW hx;have hj:=Pl.jW hy;have hil:i<(d.ps++d.s).length:=(by rw[aE];omega);have hjl:j<(d.ps++d.s).length:=(by rw[aE];omega);have ex:(d.ps++d.s)[i]=x:=(by have:(d.ps++d.s)[i]?=some x:=(by rw[bh hi];exact hx);rw[aL hil]at this;exact aY this);have ey:(d.ps++d.s)[j]=y:=(by have:(d.ps++d.s)[j]?=some y:=(by rw[bh hj];exact hy);rw[aL hjl]at this;exact aY this);intro Bk;rcases gl hij with hl|hl;{have:=hp i j hil hjl hl b (by rw[ex];exact hb) b (by rw[ey];exact Bk);exact this rfl};·have:=hp j i hjl hil hl b (by rw[ey];exact Bk) b (by rw[ex];exact hb);exact this rfl
theorem D2.EC{x:D2}(h:x.bl.Nodup){y:D1}(hy:y∈x.rs):x.b≠y.b:=fun e=>(b9.1 h).1 (by rw[e];exact bJ (bw _ hy))
theorem D2.pZ{x:D2}{y:D1}(hy:y∈x.rs):y.b∈x.bl:=dP _ (bJ (bw _ hy))
theorem D2.UL{x:D2}{b:Nat}(h:b∈x.rs.map D1.b):b∈x.bl:=by
 obtain⟨y,hy,rfl⟩:=aJ.1 h;exact D2.pZ hy
theorem D2.apart{x:D2}(h:x.bl.Nodup){i j:Nat}{y z:D1}(hy:x.rs[i]?=some y)(hz:x.rs[j]?=some z)(hij:i≠j):y.b≠z.b:=by
 have hp:List.Pairwise (·≠·) ((x.rs++x.s).map D1.b):=(b9.1 h).2;rw[c8]at hp;have hi:=Pl.jW hy;have hj:=Pl.jW hz;have hil:i<((x.rs++x.s).map D1.b).length:=(by rw[aH,aE];omega);have hjl:j<((x.rs++x.s).map D1.b).length:=(by rw[aH,aE];omega);have ey:((x.rs++x.s).map D1.b)[i]=y.b:=(by have:((x.rs++x.s).map D1.b)[i]?=some y.b:=(by rw[aI,bh hi,hy];rfl);rw[aL hil]at this;exact aY this);have ez:((x.rs++x.s).map D1.b)[j]=z.b:=(by have:((x.rs++x.s).map D1.b)[j]?=some z.b:=(by rw[aI,bh hj,hz];rfl);rw[aL hjl]at this;exact aY this);rcases gl hij with hl|hl;{have:=hp i j hil hjl hl;rw[ey,ez]at this;exact this};·have:=hp j i hjl hil hl;rw[ey,ez]at this;exact fun e=>this e.symm
theorem aau{ps:List D2}(h:∀x∈ps,x.rs.length<=1048576)(p:Nat):off (ps.take p)<=p*1048577:=by
 unfold off;refine cT (Pl.yD (b:=1048577) ?_) ?_;{intro n hn;obtain⟨x,hx,rfl⟩:=aJ.1 hn;have:=h x (dU hx);omega};·rw[aH,bH];exact iP _ (jw _ _)
theorem aav{ps:List D2}{p:Nat}{x:D2}(h:ps[p]?=some x):off (ps.take (p+1))=off (ps.take p)+(x.rs.length+1):=by
 unfold off;rw[Pl.take_one h];simp
theorem RL.step{w wq wz:World}{x:D2}{Wb:Nat}{ps l out:Value}{kk:Int}{q:Nat}(h:RL w wq x Wb ps l out kk q)(hnd:x.bl.Nodup)(hWx:Wb∉x.bl){y:D1}(hy:x.rs[q]?=some y)(hfr:Fr (fun b=>b=y.b) wq wz)(hrow:pE wz y.b (spt y.r y.s y.r.length (kk+q))):RL w (wz.setCell ⟨Wb,3,none⟩ (.int .i64 (kk+q+1))) x Wb ps l out kk (q+1):=by
 have WA:y∈x.rs:=Pl.jP hy;have hyW:Wb≠y.b:=fun e=>hWx (e▸D2.pZ WA);refine⟨?_,?_,?_,?_⟩;{refine(h.fr.trans (hfr.mono ?_)).setCell (.inr rfl) _;rintro b _ rfl;exact .inl (bJ WA)};{have:=WR.mark (jV.of_block h.nV (hfr.block Wb (jV.lt h.nV) hyW)) (kk+q+1);rw[show kk+((q+1:Nat):Int)=kk+q+1 by omega];exact this};{intro i z hi hz;have hzW:z.b≠Wb:=fun e=>hWx (e▸D2.pZ (Pl.jP hz));refine jV.setOther ?_ hzW _;rcases bI i q with hlt|hge;{exact hfr.row (h.done i z hlt hz) (D2.apart hnd hz hy (by omega))};·obtain rfl:i=q:=(by omega);rw[hy]at hz;cases hz;rw[aar]at hrow;exact hrow};·intro i z hi hz;have hzW:z.b≠Wb:=fun e=>hWx (e▸D2.pZ (Pl.jP hz));exact jV.setOther (hfr.ok1 (h.todo i z (by omega) hz) (D2.apart hnd hz hy (by omega))) hzW _
theorem HL.step{w wq:World}{x:D2}{mk:Int}{i:Nat}{cs:List Nat}(h:HL w wq x mk i cs)(hi:i<x.rs.length):HL w ((wq.alloc (.cells #[.int .i64 77,.int .i64 mk] 32)).setCell ⟨x.b,i,none⟩ (.slice (some ⟨wq.heap.size,0,none⟩) 1 1)) x mk (i+1) (cs++[wq.heap.size]):=by
 have hlt:=h.row.lt;refine⟨(h.fr.alloc _).setCell rfl _,?_,by simp[h.len],?_⟩;{have:=(h.row.alloc (.cells #[.int .i64 77,.int .i64 mk] 32)).set i (Mu wq.heap.size);rw[cO _ _ (by simp[h.len]),aH,h.len,cC,cI hi,bE,cU,fI]at this;rw[aV,cG];exact this};·intro c hc;rcases aj.1 hc with hc|hc;{obtain⟨h1,h2⟩:=h.new c hc;exact⟨h1,jV.setOther (jV.alloc h2 _) (by show c≠x.b;intro e;have e1:jV wq x.b 32 (flat [(77,mk)]):=e▸h2;have e2:=h.row;unfold jV at e1 e2;rw[e1]at e2;simp at e2) _⟩};·simp at hc;subst hc;have:=h.fr.size;exact⟨by omega,jV.setOther (b:=wq.heap.size) (jV.new wq (flat [(77,mk)]) _) (by show wq.heap.size≠x.b;omega) _⟩
theorem FL.step{w wq:World}{d:D3}{mk:Int}{i:Nat}{es:List (Nat×Nat)}(h:FL w wq d mk i es)(hi:i<d.ps.length)(hdw:d.b<w.heap.size):FL w (((wq.alloc (.cells #[.int .i64 777,.int .i64 mk] 32)).alloc (.cells #[.slice (some ⟨wq.heap.size,0,none⟩) 1 1] 30)).setCell ⟨d.b,i,none⟩ (.slice (some ⟨wq.heap.size+1,0,none⟩) 1 1)) d mk (i+1) (es++[(wq.heap.size+1,wq.heap.size)]):=by
 have hlt:=h.row.lt;have hs1:(wq.alloc (.cells #[.int .i64 777,.int .i64 mk] 32)).heap.size=wq.heap.size+1:=(by simp);refine⟨((h.fr.alloc _).alloc _).setCell rfl _,?_,by simp[h.len],?_⟩;{have:=((h.row.alloc (.cells #[.int .i64 777,.int .i64 mk] 32)).alloc (.cells #[.slice (some ⟨wq.heap.size,0,none⟩) 1 1] 30)).set i (Mu (wq.heap.size+1));rw[cO _ _ (by simp[h.len]),aH,h.len,cC,cI hi,bE,cU,fI]at this;rw[aV,cG];exact this};·intro e he;rcases aj.1 he with he|he;{obtain⟨h1,h2,h3,h4⟩:=h.new e he;exact⟨h1,h2,jV.setOther ((jV.alloc h3 _).alloc _) (by show e.1≠d.b;omega) _,jV.setOther (jV.alloc (jV.alloc h4 _) _) (by show e.2≠d.b;omega) _⟩};·simp at he;subst he;have:=h.fr.size;refine⟨by simp only;omega,by simp only;omega,?_,?_⟩;{refine jV.setOther (b:=wq.heap.size+1) ?_ (by show wq.heap.size+1≠d.b;omega) _;have:=jV.new (wq.alloc (.cells #[.int .i64 777,.int .i64 mk] 32)) [Mu wq.heap.size] 30;rw[hs1]at this;exact this};·exact jV.setOther (b:=wq.heap.size) (jV.alloc (jV.new wq (flat [(777,mk)]) 32) _) (by show wq.heap.size≠d.b;omega) _
theorem PD.keep{w wr wz:World}{x:D2}{kk:Int}{S:Nat->Prop}(h:PD w wr x kk)(k:Fr S wr wz)(hF:∀b,b∈x.bl∨w.heap.size<=b->¬S b):PD w wz x kk:=⟨fun i y hy=>(h.1 i y hy).keep k fun b _ hb=>⟨hb,hF b hb⟩,h.2.keep k fun b _ hb=>⟨hb,hF b hb⟩⟩
theorem SP.step{w wr w1 w2:World}{d:D3}{Wb:Nat}{ps l out:Value}{k:Int}{p:Nat}(h:SP w wr d Wb ps l out k p)(hnd:d.bl.Nodup)(UM:Wb∉d.bl)(hdw:∀b∈d.bl,b<w.heap.size)(hWw:Wb<w.heap.size){x:D2}(hx:d.ps[p]?=some x){cs:List Nat}(h1:RL wr w1 x Wb ps l out (k+off (d.ps.take p)) x.rs.length)(h2:HL w1 w2 x (k+off (d.ps.take p)+x.rs.length) x.rs.length cs):SP w (w2.setCell ⟨Wb,3,none⟩ (.int .i64 (k+off (d.ps.take p)+x.rs.length+1))) d Wb ps l out k (p+1):=by
 have WB:x∈d.ps:=Pl.jP hx;have hxn:=D3.ED hnd WB;have hxb:x.b∈x.bl:=(by simp[D2.bl]);have hWx:Wb∉x.bl:=fun e=>UM (D3.pZ WB e);have hnx:∀b,b∉x.bl->b≠Wb->¬(b∈x.rs.map D1.b∨b=Wb):=fun b e1 e2 e3=>(by rcases e3 with e3|e3;{exact e1 (D2.UL e3)};·exact e2 e3);have avf:∀b,b∉x.bl->¬(b=x.b):=fun b e1 e2=>e1 (e2▸hxb);have f12:Fr (fun b=>b∈x.bl∨b=Wb) wr (w2.setCell ⟨Wb,3,none⟩ (.int .i64 (k+off (d.ps.take p)+x.rs.length+1))):=(by refine((h1.fr.mono ?_).trans (h2.fr.mono ?_)).setCell (.inr rfl) _;{rintro b _(e|e);{exact .inl (D2.UL e)};·exact .inr e};·rintro b _ e;exact .inl (by rw[e];exact hxb));refine⟨?_,?_,?_,?_,?_⟩;{refine h.fr.trans (f12.mono ?_);rintro b _(e|e);{exact .inl (D3.pZ WB e)};·exact .inr e};{have:=WR.mark (h2.fr.row h1.nV (fun e=>hWx (e▸hxb))) (k+off (d.ps.take p)+x.rs.length+1);rw[aav hx,show k+((off (d.ps.take p)+(x.rs.length+1):Nat):Int)=k+off (d.ps.take p)+x.rs.length+1 by omega];exact this};{refine f12.row h.row ?_;rintro(e|e);{exact D3.EC hnd WB e};·exact UM (by rw[←e];simp[D3.bl])};·intro j z hj hz;refine f12.ok2 (h.todo j z (by omega) hz) ?_;rintro b hb(e|e);{exact D3.apart hnd hz hx (by omega) hb e};·exact UM (e▸D3.pZ (Pl.jP hz) hb)
 ·intro j z hj hz;rcases bI j p with hlt|hge;{refine(h.done j z hlt hz).keep f12 ?_;rintro b(hb|hb)(e|e);{exact D3.apart hnd hz hx (by omega) hb e};{exact UM (e▸D3.pZ (Pl.jP hz) hb)};{have:=hdw b (D3.pZ WB e);omega};·omega};·obtain rfl:j=p:=(by omega);rw[hx]at hz;cases hz;have hsz:w.heap.size<=w1.heap.size:=cT h.fr.size h1.fr.size;refine⟨fun i y hy=>?_,?_⟩;{have WA:=Pl.jP hy;have hyr:pE (w2.setCell ⟨Wb,3,none⟩ (.int .i64 (k+off (d.ps.take j)+x.rs.length+1))) y.b (List.replicate y.r.length (-77,k+off (d.ps.take j)+i)++y.s):=jV.setOther (h2.fr.row (h1.done i y (Pl.jW hy) hy) (dS (D2.EC hxn WA))) (show y.b≠Wb from fun e=>hWx (e▸D2.pZ WA)) _;refine⟨_,_,by rw[dJ];rfl,fun a pt hpt=>⟨y.b,.inl (D2.pZ WA),rfl,?_⟩⟩;exact hyr.cells (by rw[bh (Pl.jW hpt)];exact hpt)};·refine⟨_,_,by rw[dJ];rfl,fun a r hr=>?_⟩;have ha:a<x.rs.length:=(by have:=Pl.jW hr;rwa[dJ]at this);have hr':r=[(77,k+off (d.ps.take j)+x.rs.length)]:=(by rw[uz ha]at hr;exact(aY hr).symm);subst hr';obtain⟨c,hc⟩:=Pl.jQ (l:=cs) (k:=a) (by rw[h2.len];exact ha);obtain⟨g1,g2⟩:=h2.new c (Pl.jP hc);have hxr:=jV.setOther h2.row (a:=⟨Wb,3,none⟩) (show x.b≠Wb from fun e=>hWx (e▸hxb)) (.int .i64 (k+off (d.ps.take j)+x.rs.length+1));have vC:pE (w2.setCell ⟨Wb,3,none⟩ (.int .i64 (k+off (d.ps.take j)+x.rs.length+1))) c [(77,k+off (d.ps.take j)+x.rs.length)]:=jV.setOther g2 (by show c≠Wb;omega) _;refine⟨x.b,Mu c,.inl hxb,rfl,hxr.cell (by rw[bh (by rw[aH];exact Pl.jW hc),aI,hc];rfl),_,_,rfl,fun b pt hpt=>⟨c,.inr (by omega),rfl,?_⟩⟩;exact vC.cells hpt
structure KI(w w':World)(d:D3)(Wb:Nat)(ps l out:Value)(k:Int):Prop where
 fr:Fr (fun b=>b∈d.bl∨b=Wb) w w'
 nV:WR w' Wb ps l out (k+off d.ps+1)
 aax:∀j x,d.ps[j]?=some x->PD w w' x (k+off (d.ps.take j))
 set:RF3 (fun b=>b∈d.bl∨w.heap.size<=b) w' d.v (List.replicate d.ps.length [[(777,k+off d.ps)]])
theorem SP.last{w wr w1:World}{d:D3}{Wb:Nat}{ps l out:Value}{k:Int}(h:SP w wr d Wb ps l out k d.ps.length)(hnd:d.bl.Nodup)(UM:Wb∉d.bl)(hdw:∀b∈d.bl,b<w.heap.size)(hWw:Wb<w.heap.size){es:List (Nat×Nat)}(h2:FL wr w1 d (k+off d.ps) d.ps.length es):KI w (w1.setCell ⟨Wb,3,none⟩ (.int .i64 (k+off d.ps+1))) d Wb ps l out k:=by
 have hdb:d.b∈d.bl:=(by simp[D3.bl]);have hdW:d.b≠Wb:=fun e=>UM (e▸hdb);have f:Fr (fun b=>b=d.b∨b=Wb) wr (w1.setCell ⟨Wb,3,none⟩ (.int .i64 (k+off d.ps+1))):=(h2.fr.mono fun b _ e=>.inl e).setCell (.inr rfl) _;have hsz:=h.fr.size;refine⟨h.fr.trans (f.mono ?_),?_,?_,?_⟩;{rintro b _(e|e);{exact .inl (e▸hdb)};·exact .inr e};{have hw:=h.nV;rw[aO]at hw;exact WR.mark (h2.fr.row hw (dS hdW)) (k+off d.ps+1)};{intro j x hx;refine(h.done j x (Pl.jW hx) hx).keep f ?_;rintro b(hb|hb)(e|e);{exact D3.EC hnd (Pl.jP hx) (e▸hb)};{exact UM (e▸D3.pZ (Pl.jP hx) hb)};{have:=hdw b (e▸hdb);omega};·omega};·refine⟨_,_,by rw[dJ];rfl,fun a l2 qF=>?_⟩;have ha:a<d.ps.length:=(by have:=Pl.jW qF;rwa[dJ]at this);have aoM:l2=[[(777,k+off d.ps)]]:=(by rw[uz ha]at qF;exact(aY qF).symm);subst aoM;obtain⟨⟨c,e⟩,hc⟩:=Pl.jQ (l:=es) (k:=a) (by rw[h2.len];exact ha);obtain⟨g1,g2,g3,g4⟩:=h2.new (c,e) (Pl.jP hc);dsimp only at g1 g2 g3 g4;have xO:=jV.setOther h2.row (a:=⟨Wb,3,none⟩) hdW (.int .i64 (k+off d.ps+1));have vC:=jV.setOther g3 (a:=⟨Wb,3,none⟩) (show c≠Wb by omega) (.int .i64 (k+off d.ps+1));have her:pE (w1.setCell ⟨Wb,3,none⟩ (.int .i64 (k+off d.ps+1))) e [(777,k+off d.ps)]:=jV.setOther g4 (show e≠Wb by omega) _;refine⟨d.b,Mu c,.inl hdb,rfl,xO.cell (by rw[bh (by rw[aH];exact Pl.jW hc),aI,hc];rfl),_,_,rfl,fun b r hr=>?_⟩;have hb0:b=0:=(by have:=Pl.jW hr;simp at this;exact this);subst hb0;cases hr;exact⟨c,Mu e,.inr (by omega),rfl,vC.cell rfl,_,_,rfl,fun b2 pt hpt=>⟨e,.inr (by omega),rfl,her.cells hpt⟩⟩
theorem aay(x:D2)(t:List D2):off (x::t)=x.rs.length+1+off t:=rfl
theorem Ix:Elem Tryz.prog 28 33 (.slice none 0 0) 1 24:=⟨KG,Ce,rfl,by omega,by omega⟩
theorem wS:Elem Tryz.prog 33 30 (.slice none 0 0) 1 24:=⟨KF,Pa,rfl,by omega,by omega⟩
theorem nZ:Elem Tryz.prog 24 3 (.int .i64 0) 1 8:=⟨by kernel_rfl,by kernel_rfl,rfl,by omega,by omega⟩
theorem Pd{w a b:World}{row:Option Nat}(h:Up w a)(hg:a.grownBy b row)(hr:∀k,row=some k->w.heap.size<=k):Up w b:=Below.grown h hg h.size hr
def WC(l:List (Value×Int)):List Value:=l.map fun e=>.int .i64 e.2
def WD(l:List (Value×Int)):List Value:=l.map fun e=>e.1
theorem Pe(l:List (Value×Int)):(WD l).length=l.length:=by simp[WD]
theorem Pf(l:List (Value×Int)):(WC l).length=l.length:=by simp[WC]
theorem uA{w:World}{base:Nat}{e:TypeId}{size:Nat}{v:Value}{n:Nat}{xs:List Value}(h:w.ownsRow base e size v n xs):∃a n k,v=.slice a n k:=by
 rcases h.2 with⟨rfl,_⟩|⟨g,cap,cur,rfl,_⟩;{exact⟨_,_,_,rfl⟩};·exact⟨_,_,_,rfl⟩
end Go.Proofs.YtcclepohmhdpbaaGreatDoor
