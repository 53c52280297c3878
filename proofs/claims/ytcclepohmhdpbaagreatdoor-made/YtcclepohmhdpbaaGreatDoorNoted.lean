import Derived.Test.YtcclepohmhdpbaaGreatDoorWalkG
import Derived.Test.YtcclepohmhdpbaaGreatDoorWalkC
import Derived.Deep.DrawnRows
namespace Go.Proofs.YtcclepohmhdpbaaGreatDoor
set_option linter.all false
open Go.RowKit Go.Deep
def VX(c:Nat):Value:=.slice (some ⟨c,0,none⟩) 1 1
def off(ps:List D2):Nat:=(ps.map fun x=>x.rs.length+1).sum
def spt(r s:Ring)(i:Nat)(mk:Int):Ring:=List.replicate i (-77,mk)++(r.drop i++s)
theorem ZL(r s:Ring)(mk:Int):spt r s r.length mk=List.replicate r.length (-77,mk)++s:=by simp[spt]
theorem ZM(r s:Ring)(i:Nat)(mk:Int)(h:i<r.length):(spt r s i mk).set i (-77,mk)=spt r s (i+1) mk:=by
 unfold spt;rw[cE _ _ (by simp),c7,b9,cB h,bg,dU,List.replicate_succ',bu];rfl
theorem ZN(r s:Ring)(i:Nat)(mk:Int)(h:i<r.length):∃p,(spt r s i mk)[i]?=some p:=by
 unfold spt;rw[aK (by simp),c7,b9,cB h];exact⟨_,rfl⟩
structure RL(w wq:World)(x:D2)(Wb:Nat)(ps l out:Value)(kk:Int)(q:Nat):Prop where
 fr:Fr (fun b=>b∈x.rs.map D1.b∨b=Wb) w wq
 nY:WR wq Wb ps l out (kk+q)
 done:∀i y,i<q->x.rs[i]?=some y->o6 wq y.b (List.replicate y.r.length (-77,kk+i)++y.s)
 todo:∀i y,q<=i->x.rs[i]?=some y->Ra wq y
structure HL(w wq:World)(x:D2)(mk:Int)(i:Nat)(cs:List Nat):Prop where
 fr:Fr (fun b=>b=x.b) w wq
 row:jK wq x.b 30 (cs.map VX++(x.rs.drop i++x.s).map D1.v)
 len:cs.length=i
 new:∀c∈cs,w.heap.size<=c∧o6 wq c [(77,mk)]
def PD(w wq:World)(x:D2)(kk:Int):Prop:=(∀(i:Nat)y,x.rs[i]?=some y->RF1 (fun b=>b∈x.bl∨w.heap.size<=b) wq y.v (List.replicate y.r.length (-77,kk+i)))∧RF2 (fun b=>b∈x.bl∨w.heap.size<=b) wq x.v (List.replicate x.rs.length [(77,kk+x.rs.length)])
structure SP(w wq:World)(d:D3)(Wb:Nat)(ps l out:Value)(k:Int)(p:Nat):Prop where
 fr:Fr (fun b=>b∈d.bl∨b=Wb) w wq
 nY:WR wq Wb ps l out (k+off (d.ps.take p))
 row:jK wq d.b 33 ((d.ps++d.s).map D2.v)
 todo:∀j x,p<=j->d.ps[j]?=some x->Dw wq x
 done:∀j x,j<p->d.ps[j]?=some x->PD w wq x (k+off (d.ps.take j))
structure FL(w wq:World)(d:D3)(mk:Int)(i:Nat)(es:List (Nat×Nat)):Prop where
 fr:Fr (fun b=>b=d.b) w wq
 row:jK wq d.b 33 ((es.map fun e=>VX e.1)++(d.ps.drop i++d.s).map D2.v)
 len:es.length=i
 new:∀e∈es,w.heap.size<=e.1∧w.heap.size<=e.2∧jK wq e.1 30 [VX e.2]∧o6 wq e.2 [(777,mk)]
theorem D3.Ed{d:D3}(h:d.bl.Nodup){x:D2}(hx:x∈d.ps):d.b∉x.bl:=fun hb=>(b8.1 h).1 (bQ.2 ⟨x,bA _ hx,hb⟩)
theorem D3.oo{d:D3}{x:D2}(hx:x∈d.ps){b:Nat}(hb:b∈x.bl):b∈d.bl:=cH _ (bQ.2 ⟨x,bA _ hx,hb⟩)
theorem D3.Ee{d:D3}(h:d.bl.Nodup){x:D2}(hx:x∈d.ps):x.bl.Nodup:=(List.pairwise_flatMap.1 (b8.1 h).2).1 x (bA _ hx)
theorem D3.apart{d:D3}(h:d.bl.Nodup){i j:Nat}{x y:D2}(hx:d.ps[i]?=some x)(hy:d.ps[j]?=some y)(hij:i≠j){b:Nat}(hb:b∈x.bl):b∉y.bl:=by
 have hp:=(List.pairwise_flatMap.1 (b8.1 h).2).2;rw[cW]at hp;have hi:=Pl.jI hx;have hj:=Pl.jI hy;have hil:i<(d.ps++d.s).length:=(by rw[aj];omega);have hjl:j<(d.ps++d.s).length:=(by rw[aj];omega);have ex:(d.ps++d.s)[i]=x:=(by have:(d.ps++d.s)[i]?=some x:=(by rw[aT hi];exact hx);rw[aI hil]at this;exact aO this);have ey:(d.ps++d.s)[j]=y:=(by have:(d.ps++d.s)[j]?=some y:=(by rw[aT hj];exact hy);rw[aI hjl]at this;exact aO this);intro Ba;rcases fF hij with hl|hl;{have:=hp i j hil hjl hl b (by rw[ex];exact hb) b (by rw[ey];exact Ba);exact this rfl};·have:=hp j i hjl hil hl b (by rw[ey];exact Ba) b (by rw[ex];exact hb);exact this rfl
theorem D2.Ed{x:D2}(h:x.bl.Nodup){y:D1}(hy:y∈x.rs):x.b≠y.b:=fun e=>(b8.1 h).1 (by rw[e];exact aW (bA _ hy))
theorem D2.oo{x:D2}{y:D1}(hy:y∈x.rs):y.b∈x.bl:=cH _ (aW (bA _ hy))
theorem D2.Ug{x:D2}{b:Nat}(h:b∈x.rs.map D1.b):b∈x.bl:=by
 obtain⟨y,hy,rfl⟩:=aH.1 h;exact D2.oo hy
theorem D2.apart{x:D2}(h:x.bl.Nodup){i j:Nat}{y z:D1}(hy:x.rs[i]?=some y)(hz:x.rs[j]?=some z)(hij:i≠j):y.b≠z.b:=by
 have hp:List.Pairwise (·≠·) ((x.rs++x.s).map D1.b):=(b8.1 h).2;rw[cW]at hp;have hi:=Pl.jI hy;have hj:=Pl.jI hz;have hil:i<((x.rs++x.s).map D1.b).length:=(by rw[aB,aj];omega);have hjl:j<((x.rs++x.s).map D1.b).length:=(by rw[aB,aj];omega);have ey:((x.rs++x.s).map D1.b)[i]=y.b:=(by have:((x.rs++x.s).map D1.b)[i]?=some y.b:=(by rw[aE,aT hi,hy];rfl);rw[aI hil]at this;exact aO this);have ez:((x.rs++x.s).map D1.b)[j]=z.b:=(by have:((x.rs++x.s).map D1.b)[j]?=some z.b:=(by rw[aE,aT hj,hz];rfl);rw[aI hjl]at this;exact aO this);rcases fF hij with hl|hl;{have:=hp i j hil hjl hl;rw[ey,ez]at this;exact this};·have:=hp j i hjl hil hl;rw[ey,ez]at this;exact fun e=>this e.symm
theorem Rh{ps:List D2}(h:∀x∈ps,x.rs.length<=1048576)(p:Nat):off (ps.take p)<=p*1048577:=by
 unfold off;refine cq (Pl.xV (b:=1048577) ?_) ?_;{intro n hn;obtain⟨x,hx,rfl⟩:=aH.1 hn;have:=h x (dX hx);omega};·rw[aB,bH];exact gj _ (jd _ _)
theorem Ou{ps:List D2}{p:Nat}{x:D2}(h:ps[p]?=some x):off (ps.take (p+1))=off (ps.take p)+(x.rs.length+1):=by
 unfold off;rw[Pl.take_one h];simp
theorem RL.step{w wq wz:World}{x:D2}{Wb:Nat}{ps l out:Value}{kk:Int}{q:Nat}(h:RL w wq x Wb ps l out kk q)(hnd:x.bl.Nodup)(hWx:Wb∉x.bl){y:D1}(hy:x.rs[q]?=some y)(hfr:Fr (fun b=>b=y.b) wq wz)(hrow:o6 wz y.b (spt y.r y.s y.r.length (kk+q))):RL w (wz.setCell ⟨Wb,3,none⟩ (.int .i64 (kk+q+1))) x Wb ps l out kk (q+1):=by
 have VY:y∈x.rs:=Pl.jz hy;have hyW:Wb≠y.b:=fun e=>hWx (e▸D2.oo VY);refine⟨?_,?_,?_,?_⟩;{refine(h.fr.trans (hfr.mono ?_)).setCell (.inr rfl) _;rintro b _ rfl;exact .inl (aW VY)};{have:=WR.mark (jK.of_block h.nY (hfr.block Wb (jK.lt h.nY) hyW)) (kk+q+1);rw[show kk+((q+1:Nat):Int)=kk+q+1 by omega];exact this};{intro i z hi hz;have hzW:z.b≠Wb:=fun e=>hWx (e▸D2.oo (Pl.jz hz));refine jK.setOther ?_ hzW _;rcases bK i q with hlt|hge;{exact hfr.row (h.done i z hlt hz) (D2.apart hnd hz hy (by omega))};·obtain rfl:i=q:=(by omega);rw[hy]at hz;cases hz;rw[ZL]at hrow;exact hrow};·intro i z hi hz;have hzW:z.b≠Wb:=fun e=>hWx (e▸D2.oo (Pl.jz hz));exact jK.setOther (hfr.ok1 (h.todo i z (by omega) hz) (D2.apart hnd hz hy (by omega))) hzW _
theorem HL.step{w wq:World}{x:D2}{mk:Int}{i:Nat}{cs:List Nat}(h:HL w wq x mk i cs)(hi:i<x.rs.length):HL w ((wq.alloc (.cells #[.int .i64 77,.int .i64 mk] 32)).setCell ⟨x.b,i,none⟩ (.slice (some ⟨wq.heap.size,0,none⟩) 1 1)) x mk (i+1) (cs++[wq.heap.size]):=by
 have hlt:=h.row.lt;refine⟨(h.fr.alloc _).setCell rfl _,?_,by simp[h.len],?_⟩;{have:=(h.row.alloc (.cells #[.int .i64 77,.int .i64 mk] 32)).set i (VX wq.heap.size);rw[cE _ _ (by simp[h.len]),aB,h.len,b9,cB hi,bg,cD,dU]at this;rw[aJ,bu];exact this};·intro c hc;rcases aC.1 hc with hc|hc;{obtain⟨h1,h2⟩:=h.new c hc;exact⟨h1,jK.setOther (jK.alloc h2 _) (by show c≠x.b;intro e;have e1:jK wq x.b 32 (flat [(77,mk)]):=e▸h2;have e2:=h.row;unfold jK at e1 e2;rw[e1]at e2;simp at e2) _⟩};·simp at hc;subst hc;have:=h.fr.size;exact⟨by omega,jK.setOther (b:=wq.heap.size) (jK.new wq (flat [(77,mk)]) _) (by show wq.heap.size≠x.b;omega) _⟩
theorem FL.step{w wq:World}{d:D3}{mk:Int}{i:Nat}{es:List (Nat×Nat)}(h:FL w wq d mk i es)(hi:i<d.ps.length)(hdw:d.b<w.heap.size):FL w (((wq.alloc (.cells #[.int .i64 777,.int .i64 mk] 32)).alloc (.cells #[.slice (some ⟨wq.heap.size,0,none⟩) 1 1] 30)).setCell ⟨d.b,i,none⟩ (.slice (some ⟨wq.heap.size+1,0,none⟩) 1 1)) d mk (i+1) (es++[(wq.heap.size+1,wq.heap.size)]):=by
 have hlt:=h.row.lt;have hs1:(wq.alloc (.cells #[.int .i64 777,.int .i64 mk] 32)).heap.size=wq.heap.size+1:=(by simp);refine⟨((h.fr.alloc _).alloc _).setCell rfl _,?_,by simp[h.len],?_⟩;{have:=((h.row.alloc (.cells #[.int .i64 777,.int .i64 mk] 32)).alloc (.cells #[.slice (some ⟨wq.heap.size,0,none⟩) 1 1] 30)).set i (VX (wq.heap.size+1));rw[cE _ _ (by simp[h.len]),aB,h.len,b9,cB hi,bg,cD,dU]at this;rw[aJ,bu];exact this};·intro e he;rcases aC.1 he with he|he;{obtain⟨h1,h2,h3,h4⟩:=h.new e he;exact⟨h1,h2,jK.setOther ((jK.alloc h3 _).alloc _) (by show e.1≠d.b;omega) _,jK.setOther (jK.alloc (jK.alloc h4 _) _) (by show e.2≠d.b;omega) _⟩};·simp at he;subst he;have:=h.fr.size;refine⟨by simp only;omega,by simp only;omega,?_,?_⟩;{refine jK.setOther (b:=wq.heap.size+1) ?_ (by show wq.heap.size+1≠d.b;omega) _;have:=jK.new (wq.alloc (.cells #[.int .i64 777,.int .i64 mk] 32)) [VX wq.heap.size] 30;rw[hs1]at this;exact this};·exact jK.setOther (b:=wq.heap.size) (jK.alloc (jK.new wq (flat [(777,mk)]) 32) _) (by show wq.heap.size≠d.b;omega) _
theorem PD.keep{w wr wz:World}{x:D2}{kk:Int}{S:Nat->Prop}(h:PD w wr x kk)(k:Fr S wr wz)(hF:∀b,b∈x.bl∨w.heap.size<=b->¬S b):PD w wz x kk:=⟨fun i y hy=>(h.1 i y hy).keep k fun b _ hb=>⟨hb,hF b hb⟩,h.2.keep k fun b _ hb=>⟨hb,hF b hb⟩⟩
theorem SP.step{w wr w1 w2:World}{d:D3}{Wb:Nat}{ps l out:Value}{k:Int}{p:Nat}(h:SP w wr d Wb ps l out k p)(hnd:d.bl.Nodup)(Uh:Wb∉d.bl)(hdw:∀b∈d.bl,b<w.heap.size)(Ri:Wb<w.heap.size){x:D2}(hx:d.ps[p]?=some x){cs:List Nat}(h1:RL wr w1 x Wb ps l out (k+off (d.ps.take p)) x.rs.length)(h2:HL w1 w2 x (k+off (d.ps.take p)+x.rs.length) x.rs.length cs):SP w (w2.setCell ⟨Wb,3,none⟩ (.int .i64 (k+off (d.ps.take p)+x.rs.length+1))) d Wb ps l out k (p+1):=by
 have VZ:x∈d.ps:=Pl.jz hx;have hxn:=D3.Ee hnd VZ;have hxb:x.b∈x.bl:=(by simp[D2.bl]);have hWx:Wb∉x.bl:=fun e=>Uh (D3.oo VZ e);have hnx:∀b,b∉x.bl->b≠Wb->¬(b∈x.rs.map D1.b∨b=Wb):=fun b e1 e2 e3=>(by rcases e3 with e3|e3;{exact e1 (D2.Ug e3)};·exact e2 e3);have at3:∀b,b∉x.bl->¬(b=x.b):=fun b e1 e2=>e1 (e2▸hxb);have f12:Fr (fun b=>b∈x.bl∨b=Wb) wr (w2.setCell ⟨Wb,3,none⟩ (.int .i64 (k+off (d.ps.take p)+x.rs.length+1))):=(by refine((h1.fr.mono ?_).trans (h2.fr.mono ?_)).setCell (.inr rfl) _;{rintro b _(e|e);{exact .inl (D2.Ug e)};·exact .inr e};·rintro b _ e;exact .inl (by rw[e];exact hxb));refine⟨?_,?_,?_,?_,?_⟩;{refine h.fr.trans (f12.mono ?_);rintro b _(e|e);{exact .inl (D3.oo VZ e)};·exact .inr e};{have:=WR.mark (h2.fr.row h1.nY (fun e=>hWx (e▸hxb))) (k+off (d.ps.take p)+x.rs.length+1);rw[Ou hx,show k+((off (d.ps.take p)+(x.rs.length+1):Nat):Int)=k+off (d.ps.take p)+x.rs.length+1 by omega];exact this};{refine f12.row h.row ?_;rintro(e|e);{exact D3.Ed hnd VZ e};·exact Uh (by rw[←e];simp[D3.bl])};·intro j z hj hz;refine f12.ok2 (h.todo j z (by omega) hz) ?_;rintro b hb(e|e);{exact D3.apart hnd hz hx (by omega) hb e};·exact Uh (e▸D3.oo (Pl.jz hz) hb)
 ·intro j z hj hz;rcases bK j p with hlt|hge;{refine(h.done j z hlt hz).keep f12 ?_;rintro b(hb|hb)(e|e);{exact D3.apart hnd hz hx (by omega) hb e};{exact Uh (e▸D3.oo (Pl.jz hz) hb)};{have:=hdw b (D3.oo VZ e);omega};·omega};·obtain rfl:j=p:=(by omega);rw[hx]at hz;cases hz;have hsz:w.heap.size<=w1.heap.size:=cq h.fr.size h1.fr.size;refine⟨fun i y hy=>?_,?_⟩;{have VY:=Pl.jz hy;have hyr:o6 (w2.setCell ⟨Wb,3,none⟩ (.int .i64 (k+off (d.ps.take j)+x.rs.length+1))) y.b (List.replicate y.r.length (-77,k+off (d.ps.take j)+i)++y.s):=jK.setOther (h2.fr.row (h1.done i y (Pl.jI hy) hy) (dh (D2.Ed hxn VY))) (show y.b≠Wb from fun e=>hWx (e▸D2.oo VY)) _;refine⟨_,_,by rw[c7];rfl,fun a pt hpt=>⟨y.b,.inl (D2.oo VY),rfl,?_⟩⟩;exact hyr.cells (by rw[aT (Pl.jI hpt)];exact hpt)};·refine⟨_,_,by rw[c7];rfl,fun a r hr=>?_⟩;have ha:a<x.rs.length:=(by have:=Pl.jI hr;rwa[c7]at this);have hr':r=[(77,k+off (d.ps.take j)+x.rs.length)]:=(by rw[tg ha]at hr;exact(aO hr).symm);subst hr';obtain⟨c,hc⟩:=Pl.jC (l:=cs) (k:=a) (by rw[h2.len];exact ha);obtain⟨g1,g2⟩:=h2.new c (Pl.jz hc);have hxr:=jK.setOther h2.row (a:=⟨Wb,3,none⟩) (show x.b≠Wb from fun e=>hWx (e▸hxb)) (.int .i64 (k+off (d.ps.take j)+x.rs.length+1));have vW:o6 (w2.setCell ⟨Wb,3,none⟩ (.int .i64 (k+off (d.ps.take j)+x.rs.length+1))) c [(77,k+off (d.ps.take j)+x.rs.length)]:=jK.setOther g2 (by show c≠Wb;omega) _;refine⟨x.b,VX c,.inl hxb,rfl,hxr.cell (by rw[aT (by rw[aB];exact Pl.jI hc),aE,hc];rfl),_,_,rfl,fun b pt hpt=>⟨c,.inr (by omega),rfl,?_⟩⟩;exact vW.cells hpt
structure AE(w w':World)(d:D3)(Wb:Nat)(ps l out:Value)(k:Int):Prop where
 fr:Fr (fun b=>b∈d.bl∨b=Wb) w w'
 nY:WR w' Wb ps l out (k+off d.ps+1)
 Ov:∀j x,d.ps[j]?=some x->PD w w' x (k+off (d.ps.take j))
 set:RF3 (fun b=>b∈d.bl∨w.heap.size<=b) w' d.v (List.replicate d.ps.length [[(777,k+off d.ps)]])
theorem SP.last{w wr w1:World}{d:D3}{Wb:Nat}{ps l out:Value}{k:Int}(h:SP w wr d Wb ps l out k d.ps.length)(hnd:d.bl.Nodup)(Uh:Wb∉d.bl)(hdw:∀b∈d.bl,b<w.heap.size)(Ri:Wb<w.heap.size){es:List (Nat×Nat)}(h2:FL wr w1 d (k+off d.ps) d.ps.length es):AE w (w1.setCell ⟨Wb,3,none⟩ (.int .i64 (k+off d.ps+1))) d Wb ps l out k:=by
 have hdb:d.b∈d.bl:=(by simp[D3.bl]);have hdW:d.b≠Wb:=fun e=>Uh (e▸hdb);have f:Fr (fun b=>b=d.b∨b=Wb) wr (w1.setCell ⟨Wb,3,none⟩ (.int .i64 (k+off d.ps+1))):=(h2.fr.mono fun b _ e=>.inl e).setCell (.inr rfl) _;have hsz:=h.fr.size;refine⟨h.fr.trans (f.mono ?_),?_,?_,?_⟩;{rintro b _(e|e);{exact .inl (e▸hdb)};·exact .inr e};{have hw:=h.nY;rw[aN]at hw;exact WR.mark (h2.fr.row hw (dh hdW)) (k+off d.ps+1)};{intro j x hx;refine(h.done j x (Pl.jI hx) hx).keep f ?_;rintro b(hb|hb)(e|e);{exact D3.Ed hnd (Pl.jz hx) (e▸hb)};{exact Uh (e▸D3.oo (Pl.jz hx) hb)};{have:=hdw b (e▸hdb);omega};·omega};·refine⟨_,_,by rw[c7];rfl,fun a l2 pL=>?_⟩;have ha:a<d.ps.length:=(by have:=Pl.jI pL;rwa[c7]at this);have an3:l2=[[(777,k+off d.ps)]]:=(by rw[tg ha]at pL;exact(aO pL).symm);subst an3;obtain⟨⟨c,e⟩,hc⟩:=Pl.jC (l:=es) (k:=a) (by rw[h2.len];exact ha);obtain⟨g1,g2,g3,g4⟩:=h2.new (c,e) (Pl.jz hc);dsimp only at g1 g2 g3 g4;have uK:=jK.setOther h2.row (a:=⟨Wb,3,none⟩) hdW (.int .i64 (k+off d.ps+1));have vW:=jK.setOther g3 (a:=⟨Wb,3,none⟩) (show c≠Wb by omega) (.int .i64 (k+off d.ps+1));have her:o6 (w1.setCell ⟨Wb,3,none⟩ (.int .i64 (k+off d.ps+1))) e [(777,k+off d.ps)]:=jK.setOther g4 (show e≠Wb by omega) _;refine⟨d.b,VX c,.inl hdb,rfl,uK.cell (by rw[aT (by rw[aB];exact Pl.jI hc),aE,hc];rfl),_,_,rfl,fun b r hr=>?_⟩;have hb0:b=0:=(by have:=Pl.jI hr;simp at this;exact this);subst hb0;cases hr;exact⟨c,VX e,.inr (by omega),rfl,vW.cell rfl,_,_,rfl,fun b2 pt hpt=>⟨e,.inr (by omega),rfl,her.cells hpt⟩⟩
def IV:List D1->Int->List (Value×Int)|[],_=>[]|y::t,k=>(y.v,k)::IV t (k+1)
def pP:List D2->Int->List (Value×Int)|[],_=>[]|x::t,k=>IV x.rs k++pP t (k+x.rs.length+1)
def o8:List D2->Int->List (Value×Int)|[],_=>[]|x::t,k=>(x.v,k+x.rs.length)::o8 t (k+x.rs.length+1)
theorem ZO(a:List D1)(y:D1):∀k:Int,IV (a++[y]) k=IV a k++[(y.v,k+a.length)]:=by induction a with|nil=>intro k;simp[IV]|cons z t ih=>intro k;show(z.v,k)::IV (t++[y]) (k+1)=(z.v,k)::(IV t (k+1)++_);rw[ih,aZ,show k+1+(t.length:Int)=k+((t.length+1:Nat):Int)by omega]
theorem Hv(a:List D1):∀k:Int,(IV a k).length=a.length:=by induction a with|nil=>intro k;rfl|cons z t ih=>intro k;simp[IV,ih]
theorem ads(a:List D1):∀(k:Int)(e:Value×Int),e∈IV a k->∃(i:Nat)(y:D1),a[i]?=some y∧e=(y.v,k+i):=by induction a with|nil=>intro k e h;cases h|cons z t ih=>intro k e h;rcases aD.1 h with rfl|h;{exact⟨0,z,rfl,by simp⟩};·obtain⟨i,y,hy,he⟩:=ih (k+1) e h;exact⟨i+1,y,by simpa using hy,by rw[he];congr 1;omega⟩
theorem zP(x:D2)(t:List D2):off (x::t)=x.rs.length+1+off t:=rfl
theorem Ow(a:List D2)(x:D2):∀k:Int,pP (a++[x]) k=pP a k++IV x.rs (k+off a):=by induction a with|nil=>intro k;simp[pP,off]|cons z t ih=>intro k;show IV z.rs k++pP (t++[x]) (k+z.rs.length+1)=(IV z.rs k++pP t (k+z.rs.length+1))++_;rw[ih,zP,bu,show k+(z.rs.length:Int)+1+(off t:Int)=k+((z.rs.length+1+off t:Nat):Int)by omega]
theorem Ox(a:List D2)(x:D2):∀k:Int,o8 (a++[x]) k=o8 a k++[(x.v,k+off a+x.rs.length)]:=by induction a with|nil=>intro k;simp[o8,off]|cons z t ih=>intro k;show(z.v,k+z.rs.length)::o8 (t++[x]) (k+z.rs.length+1)=(z.v,k+z.rs.length)::(o8 t (k+z.rs.length+1)++_);rw[ih,zP,show k+(z.rs.length:Int)+1+(off t:Int)+(x.rs.length:Int)=k+((z.rs.length+1+off t:Nat):Int)+x.rs.length by omega]
theorem Rj(a:List D2):∀(k:Int)(e:Value×Int),e∈pP a k->∃(j:Nat)(x:D2)(i:Nat)(y:D1),a[j]?=some x∧x.rs[i]?=some y∧e=(y.v,k+off (a.take j)+i):=by induction a with|nil=>intro k e h;cases h|cons z t ih=>intro k e h;rcases aC.1 h with h|h;{obtain⟨i,y,hy,he⟩:=ads _ _ _ h;exact⟨0,z,i,y,rfl,hy,by rw[he];simp[off]⟩};·obtain⟨j,x,i,y,hx,hy,he⟩:=ih _ e h;exact⟨j+1,x,i,y,by simpa using hx,hy,by rw[he,jm,zP];congr 1;omega⟩
theorem Rk(a:List D2):∀(k:Int)(e:Value×Int),e∈o8 a k->∃(j:Nat)(x:D2),a[j]?=some x∧e=(x.v,k+off (a.take j)+x.rs.length):=by induction a with|nil=>intro k e h;cases h|cons z t ih=>intro k e h;rcases aD.1 h with rfl|h;{exact⟨0,z,rfl,by simp[off]⟩};·obtain⟨j,x,hx,he⟩:=ih _ e h;exact⟨j+1,x,by simpa using hx,by rw[he,jm,zP];congr 1;omega⟩
theorem Bc(a:List D2):∀k:Int,(o8 a k).length=a.length:=by induction a with|nil=>intro k;rfl|cons z t ih=>intro k;simp[o8,ih]
theorem CW:Elem Tryz.prog 28 33 (.slice none 0 0) 1 24:=⟨Ki,BJ,rfl,by omega,by omega⟩
theorem ue:Elem Tryz.prog 33 30 (.slice none 0 0) 1 24:=⟨Kh,Om,rfl,by omega,by omega⟩
theorem FO:Elem Tryz.prog 24 3 (.int .i64 0) 1 8:=⟨by kernel_rfl,by kernel_rfl,rfl,by omega,by omega⟩
def AG:List Value:=[.slice none 0 0,.slice none 0 0,.slice none 0 0,.slice none 0 0,.slice none 0 0,.int .i64 0]
structure NL(w wr:World)(hb:Nat)(dv pv rv rH q8:Value)(pc rc Fh Fi:List Value)(sm:Int):Prop where
 up:Up w wr
 low:w.heap.size<=hb
 row:jK wr hb 98 [dv,pv,rv,rH,q8,.int .i64 sm]
 Hw:wr.ownsRow w.heap.size 33 1 pv pc.length pc
 H6:wr.ownsRow w.heap.size 30 1 rv rc.length rc
 IW:wr.ownsRow w.heap.size 3 1 rH Fh.length Fh
 IX:wr.ownsRow w.heap.size 3 1 q8 Fi.length Fi
 apart:rH.ownBlock=none∨rH.ownBlock≠q8.ownBlock
 apart':q8.ownBlock=none∨q8.ownBlock≠rH.ownBlock
 res:jK wr w.heap.size 98 AG
 ne:w.heap.size≠hb
theorem NL.alloc{w wr:World}{hb:Nat}{dv pv rv rH q8:Value}{pc rc Fh Fi:List Value}{sm:Int}(h:NL w wr hb dv pv rv rH q8 pc rc Fh Fi sm)(o:Obj):NL w (wr.alloc o) hb dv pv rv rH q8 pc rc Fh Fi sm:=⟨h.up.alloc o,h.low,h.row.alloc o,h.Hw.alloc o,h.H6.alloc o,h.IW.alloc o,h.IX.alloc o,h.apart,h.apart',h.res.alloc o,h.ne⟩
theorem uf{w a b:World}{row:Option Nat}(h:Up w a)(hg:a.grownBy b row)(hr:∀k,row=some k->w.heap.size<=k):Up w b:=Below.grown h hg h.size hr
theorem NL.pv{w wr w1:World}{hb:Nat}{dv pv rv rH q8:Value}{pc rc Fh Fi:List Value}{sm:Int}(h:NL w wr hb dv pv rv rH q8 pc rc Fh Fi sm){g cap:Nat}{u:Value}(hown:w1.ownsRow w.heap.size 33 1 (.slice (some ⟨g,0,none⟩) (pc.length+1) cap) (pc.length+1) (pc++[u]))(hg:wr.grownBy w1 pv.ownBlock):NL w (w1.setCell ⟨hb,1,none⟩ (.slice (some ⟨g,0,none⟩) (pc.length+1) cap)) hb dv (.slice (some ⟨g,0,none⟩) (pc.length+1) cap) rv rH q8 (pc++[u]) rc Fh Fi sm:=by
 have r1:=h.row.grown hg (jO h.Hw h.row (by decide));have o2:=h.H6.kept hg (mN h.H6 h.Hw (by decide));have o3:=h.IW.kept hg (mN h.IW h.Hw (by decide));have o4:=h.IX.kept hg (mN h.IX h.Hw (by decide));have r2:=h.res.grown hg (jO h.Hw h.res (by decide));refine⟨(uf h.up hg (fun k e=>(j8 h.Hw e).1)).setCell h.low _,h.low,r1.set 1 _,?_,?_,?_,?_,h.apart,h.apart',r2.setOther h.ne _,h.ne⟩;{rw[aj];exact k9 hown (jO hown r1 (by decide)) _};{exact k9 o2 (jO o2 r1 (by decide)) _};{exact k9 o3 (jO o3 r1 (by decide)) _};·exact k9 o4 (jO o4 r1 (by decide)) _
theorem NL.rv{w wr w1:World}{hb:Nat}{dv pv rv rH q8:Value}{pc rc Fh Fi:List Value}{sm:Int}(h:NL w wr hb dv pv rv rH q8 pc rc Fh Fi sm){g cap:Nat}{u:Value}(hown:w1.ownsRow w.heap.size 30 1 (.slice (some ⟨g,0,none⟩) (rc.length+1) cap) (rc.length+1) (rc++[u]))(hg:wr.grownBy w1 rv.ownBlock):NL w (w1.setCell ⟨hb,2,none⟩ (.slice (some ⟨g,0,none⟩) (rc.length+1) cap)) hb dv pv (.slice (some ⟨g,0,none⟩) (rc.length+1) cap) rH q8 pc (rc++[u]) Fh Fi sm:=by
 have r1:=h.row.grown hg (jO h.H6 h.row (by decide));have o2:=h.Hw.kept hg (mN h.Hw h.H6 (by decide));have o3:=h.IW.kept hg (mN h.IW h.H6 (by decide));have o4:=h.IX.kept hg (mN h.IX h.H6 (by decide));have r2:=h.res.grown hg (jO h.H6 h.res (by decide));refine⟨(uf h.up hg (fun k e=>(j8 h.H6 e).1)).setCell h.low _,h.low,r1.set 2 _,?_,?_,?_,?_,h.apart,h.apart',r2.setOther h.ne _,h.ne⟩;{exact k9 o2 (jO o2 r1 (by decide)) _};{rw[aj];exact k9 hown (jO hown r1 (by decide)) _};{exact k9 o3 (jO o3 r1 (by decide)) _};·exact k9 o4 (jO o4 r1 (by decide)) _
theorem NL.rm{w wr w1:World}{hb:Nat}{dv pv rv rH q8:Value}{pc rc Fh Fi:List Value}{sm:Int}(h:NL w wr hb dv pv rv rH q8 pc rc Fh Fi sm){g cap:Nat}{u:Value}(hown:w1.ownsRow w.heap.size 3 1 (.slice (some ⟨g,0,none⟩) (Fh.length+1) cap) (Fh.length+1) (Fh++[u]))(hg:wr.grownBy w1 rH.ownBlock)(AY:rH.ownBlock=some g∨g=wr.heap.size):NL w (w1.setCell ⟨hb,3,none⟩ (.slice (some ⟨g,0,none⟩) (Fh.length+1) cap)) hb dv pv rv (.slice (some ⟨g,0,none⟩) (Fh.length+1) cap) q8 pc rc (Fh++[u]) Fi sm:=by
 have r1:=h.row.grown hg (jO h.IW h.row (by decide));have o2:=h.Hw.kept hg (mN h.Hw h.IW (by decide));have o3:=h.H6.kept hg (mN h.H6 h.IW (by decide));have o4:=h.IX.kept hg h.apart';have hne:q8.ownBlock≠some g:=(by intro e;rcases AY with e2|e2;{rcases h.apart' with e3|e3;{rw[e3]at e;cases e};·exact e3 (by rw[e,e2])};·have:=(j8 h.IX e).2;omega);have r2:=h.res.grown hg (jO h.IW h.res (by decide));refine⟨(uf h.up hg (fun k e=>(j8 h.IW e).1)).setCell h.low _,h.low,r1.set 3 _,?_,?_,?_,?_,.inr (fun e=>hne e.symm),.inr hne,r2.setOther h.ne _,h.ne⟩;{exact k9 o2 (jO o2 r1 (by decide)) _};{exact k9 o3 (jO o3 r1 (by decide)) _};{rw[aj];exact k9 hown (jO hown r1 (by decide)) _};·exact k9 o4 (jO o4 r1 (by decide)) _
theorem NL.pm{w wr w1:World}{hb:Nat}{dv pv rv rH q8:Value}{pc rc Fh Fi:List Value}{sm:Int}(h:NL w wr hb dv pv rv rH q8 pc rc Fh Fi sm){g cap:Nat}{u:Value}(hown:w1.ownsRow w.heap.size 3 1 (.slice (some ⟨g,0,none⟩) (Fi.length+1) cap) (Fi.length+1) (Fi++[u]))(hg:wr.grownBy w1 q8.ownBlock)(AY:q8.ownBlock=some g∨g=wr.heap.size):NL w (w1.setCell ⟨hb,4,none⟩ (.slice (some ⟨g,0,none⟩) (Fi.length+1) cap)) hb dv pv rv rH (.slice (some ⟨g,0,none⟩) (Fi.length+1) cap) pc rc Fh (Fi++[u]) sm:=by
 have r1:=h.row.grown hg (jO h.IX h.row (by decide));have o2:=h.Hw.kept hg (mN h.Hw h.IX (by decide));have o3:=h.H6.kept hg (mN h.H6 h.IX (by decide));have o4:=h.IW.kept hg h.apart;have hne:rH.ownBlock≠some g:=(by intro e;rcases AY with e2|e2;{rcases h.apart with e3|e3;{rw[e3]at e;cases e};·exact e3 (by rw[e,e2])};·have:=(j8 h.IW e).2;omega);have r2:=h.res.grown hg (jO h.IX h.res (by decide));refine⟨(uf h.up hg (fun k e=>(j8 h.IX e).1)).setCell h.low _,h.low,r1.set 4 _,?_,?_,?_,?_,.inr hne,.inr (fun e=>hne e.symm),r2.setOther h.ne _,h.ne⟩;{exact k9 o2 (jO o2 r1 (by decide)) _};{exact k9 o3 (jO o3 r1 (by decide)) _};{exact k9 o4 (jO o4 r1 (by decide)) _};·rw[aj];exact k9 hown (jO hown r1 (by decide)) _
theorem NL.sm{w wr:World}{hb:Nat}{dv pv rv rH q8:Value}{pc rc Fh Fi:List Value}{sm:Int}(h:NL w wr hb dv pv rv rH q8 pc rc Fh Fi sm)(n:Int):NL w (wr.setCell ⟨hb,5,none⟩ (.int .i64 n)) hb dv pv rv rH q8 pc rc Fh Fi n:=⟨h.up.setCell h.low _,h.low,h.row.set 5 _,k9 h.Hw (jO h.Hw h.row (by decide)) _,k9 h.H6 (jO h.H6 h.row (by decide)) _,k9 h.IW (jO h.IW h.row (by decide)) _,k9 h.IX (jO h.IX h.row (by decide)) _,h.apart,h.apart',h.res.setOther h.ne _,h.ne⟩
def th(l:List (Value×Int)):List Value:=l.map fun e=>.int .i64 e.2
def pV(l:List (Value×Int)):List Value:=l.map fun e=>e.1
theorem Kl(l:List (Value×Int))(e:Value×Int):pV (l++[e])=pV l++[e.1]:=by simp[pV]
theorem Km(l:List (Value×Int))(e:Value×Int):th (l++[e])=th l++[.int .i64 e.2]:=by simp[th]
theorem wP(l:List (Value×Int)):(pV l).length=l.length:=by simp[pV]
theorem wQ(l:List (Value×Int)):(th l).length=l.length:=by simp[th]
structure NQ(w wr:World)(d:D3)(k:Int)(p:Nat)(pv rv rH q8:Value):Prop where
 nl:NL w wr (w.heap.size+1) d.v pv rv rH q8 (pV (o8 (d.ps.take p) k)) (pV (pP (d.ps.take p) k)) (th (pP (d.ps.take p) k)) (th (o8 (d.ps.take p) k)) 0
theorem I9(a:List D2):∀k:Int,(pP a k).length=(a.map fun x=>x.rs.length).sum:=by induction a with|nil=>intro k;rfl|cons z t ih=>intro k;simp[pP,Hv,ih]
theorem Kn(d:D3)(p:Nat)(k:Int):(pP (d.ps.take p) k).length<=Pl.nR d.m:=by
 rw[I9];have e:Pl.nR d.m=(d.ps.map fun x=>x.rs.length).sum:=(by unfold Pl.nR D3.m;rw[cI];congr 1;apply cw;intro x _;simp[D2.pts]);rw[e,List.map_take];exact Pl.wD _ _
theorem rW{w:World}{base:Nat}{e:TypeId}{size:Nat}{v:Value}{n:Nat}{xs:List Value}(h:w.ownsRow base e size v n xs):∃a n k,v=.slice a n k:=by
 rcases h.2 with⟨rfl,_⟩|⟨g,cap,cur,rfl,_⟩;{exact⟨_,_,_,rfl⟩};·exact⟨_,_,_,rfl⟩
structure Ui(w w':World)(pv rv rH q8:Value)(P R:List (Value×Int)):Prop where
 up:Up w w'
 Hw:w'.ownsRow w.heap.size 33 1 pv P.length (pV P)
 H6:w'.ownsRow w.heap.size 30 1 rv R.length (pV R)
 IW:w'.ownsRow w.heap.size 3 1 rH R.length (th R)
 IX:w'.ownsRow w.heap.size 3 1 q8 P.length (th P)
theorem NL.post{w wr w':World}{hb:Nat}{dv pv rv rH q8:Value}{P R:List (Value×Int)}{sm:Int}(h:NL w wr hb dv pv rv rH q8 (pV P) (pV R) (th R) (th P) sm)(k:Fr (fun b=>b=w.heap.size) wr w'):Ui w w' pv rv rH q8 P R:=by
 have o1:=vL h.Hw k (fun g e e2=>jO h.Hw h.res (by decide) (e2▸e));have o2:=vL h.H6 k (fun g e e2=>jO h.H6 h.res (by decide) (e2▸e));have o3:=vL h.IW k (fun g e e2=>jO h.IW h.res (by decide) (e2▸e));have o4:=vL h.IX k (fun g e e2=>jO h.IX h.res (by decide) (e2▸e));rw[wP]at o1 o2;rw[wQ]at o3 o4;refine⟨⟨k.os.trans h.up.os,k.tape.trans h.up.tape,k.output.trans h.up.output,cq h.up.size k.size,fun b Ba=>?_⟩,o1,o2,o3,o4⟩;exact(k.block b (eV Ba h.up.size) (by omega)).trans (h.up.block b Ba)
theorem NL.start(w:World)(d:D3):NL w ((w.alloc (.cells AG.toArray 98)).alloc (.cells [d.v,.slice none 0 0,.slice none 0 0,.slice none 0 0,.slice none 0 0,.int .i64 0].toArray 98)) (w.heap.size+1) d.v (.slice none 0 0) (.slice none 0 0) (.slice none 0 0) (.slice none 0 0) [] [] [] [] 0:=by
 have hs1:(w.alloc (.cells AG.toArray 98)).heap.size=w.heap.size+1:=(by simp);have h1:=jK.new (w.alloc (.cells AG.toArray 98)) [d.v,.slice none 0 0,.slice none 0 0,.slice none 0 0,.slice none 0 0,.int .i64 0] 98;rw[hs1]at h1;exact⟨((Up.refl _).alloc _).alloc _,by omega,h1,World.ownsRow_nil _ _ _ _,World.ownsRow_nil _ _ _ _,World.ownsRow_nil _ _ _ _,World.ownsRow_nil _ _ _ _,.inl rfl,.inl rfl,(jK.new w AG _).alloc _,by omega⟩
end Go.Proofs.YtcclepohmhdpbaaGreatDoor
