import Derived.Test.YtcclepohmhdpbaaGreatDoorGfC
import Derived.WalkKit
import Derived.WalkSpells
import Derived.Deep.OwnRows
import Derived.Deep.Draws
import Derived.Deep.QuietTactic
import Derived.BigQuiet
import Derived.Deep.LoopGhost
import Derived.Laws.CopyOwn
import Derived.Deep.AppendLies
import Derived.Deep.RegionLaw
import Derived.Deep.RegionHeld3
import Derived.Test.YtcclepohmhdpbaaGreatDoorProg
import Derived.WalkLawsBesides
set_option maxHeartbeats 1000000
namespace Go.Proofs.YtcclepohmhdpbaaGreatDoor
set_option linter.all false
open Go.RowKit
theorem jO{p:Prop}(h:p):Hid p:=h
abbrev Up(w w':World):Prop:=Below w.heap.size w w'
theorem Up.refl(w:World):Up w w:=Below.refl _ _
theorem Up.trans{a b c:World}(h:Up a b)(k:Up b c):Up a c:=Below.trans h (Below.mono k h.size)
theorem Up.alloc{a w:World}(h:Up a w)(o:Obj):Up a (w.alloc o):=Below.alloc h h.size o
theorem Up.drew{a w:World}(h:Up a w):Up a w.drew:=Below.drew h
theorem Up.drewN{a w:World}(h:Up a w)(n:Nat):Up a (w.drewN n):=by induction n with|zero=>exact h|succ n ih=>exact Below.drew ih
theorem Up.setCell{a w:World}(h:Up a w){p:Addr}(hp:a.heap.size<=p.block)(u:Value):Up a (w.setCell p u):=Below.setCell h hp u
theorem rB{w:World}{a:Addr}{v:Value}(h:w.cell? a=some v):a.block<w.heap.size:=by
 unfold World.cell? at h;rcases bI a.block w.heap.size with g|g;{exact g};·rw[Array.getElem?_eq_none g]at h;simp at h
theorem Up.cell{w w':World}(h:Up w w'){a:Addr}{v:Value}(hc:w.cell? a=some v):w'.cell? a=some v:=by
 rw[Below.cell h (rB hc)];exact hc
theorem UF{w w':World}(h:Up w w'){a:Addr}{v:Value}(hc:w.cell? a=some v):a.block≠w'.heap.size:=by
 have h1:=rB hc;have h2:=h.size;omega
def Dr(w w':World):Prop:=∃n,w'=w.drewN n
theorem Dr.refl(w:World):Dr w w:=⟨0,rfl⟩
theorem Dr.trans{a b c:World}(h:Dr a b)(k:Dr b c):Dr a c:=by
 obtain⟨n,rfl⟩:=h;obtain⟨m,rfl⟩:=k;exact⟨n+m,World.drewN_drewN _ _ _⟩
theorem Dr.n{a b:World}(h:Dr a b)(n:Nat):Dr a (b.drewN n):=h.trans ⟨n,rfl⟩
theorem Dr.up{a b:World}(h:Dr a b):Up a b:=by
 obtain⟨n,rfl⟩:=h;exact(Up.refl _).drewN n
def wh(w:World)(v:Value)(r:Ring):Prop:=∃ao cap,v=.slice ao r.length cap∧∀i p,r[i]?=some p->∃b,ao=some ⟨b,0,none⟩∧w.cell? ⟨b,i*2,none⟩=some (.int .i64 p.1)∧w.cell? ⟨b,i*2+1,none⟩=some (.int .i64 p.2)
def wj(w:World)(v:Value)(l:Poly):Prop:=∃ao cap,v=.slice ao l.length cap∧∀i r,l[i]?=some r->∃b u,ao=some ⟨b,0,none⟩∧w.cell? ⟨b,i,none⟩=some u∧wh w u r
def vM(w:World)(v:Value)(m:jX):Prop:=∃ao cap,v=.slice ao m.length cap∧∀i l,m[i]?=some l->∃b u,ao=some ⟨b,0,none⟩∧w.cell? ⟨b,i,none⟩=some u∧wj w u l
theorem wh.up{w w':World}{v:Value}{r:Ring}(h:wh w v r)(k:Up w w'):wh w' v r:=by
 obtain⟨ao,cap,e,h⟩:=h;exact⟨ao,cap,e,fun i p hp=>by obtain⟨b,e1,e2,e3⟩:=h i p hp;exact⟨b,e1,k.cell e2,k.cell e3⟩⟩
theorem wj.up{w w':World}{v:Value}{l:Poly}(h:wj w v l)(k:Up w w'):wj w' v l:=by
 obtain⟨ao,cap,e,h⟩:=h;exact⟨ao,cap,e,fun i p hp=>by obtain⟨b,u,e1,e2,e3⟩:=h i p hp;exact⟨b,u,e1,k.cell e2,e3.up k⟩⟩
theorem vM.up{w w':World}{v:Value}{m:jX}(h:vM w v m)(k:Up w w'):vM w' v m:=by
 obtain⟨ao,cap,e,h⟩:=h;exact⟨ao,cap,e,fun i p hp=>by obtain⟨b,u,e1,e2,e3⟩:=h i p hp;exact⟨b,u,e1,k.cell e2,e3.up k⟩⟩
end Go.Proofs.YtcclepohmhdpbaaGreatDoor
namespace Go.Proofs.YtcclepohmhdpbaaGreatDoor
set_option linter.all false
open Go.RowKit Go.Deep
def flat(r:Ring):List Value:=r.flatMap fun p=>[.int .i64 p.1,.int .i64 p.2]
theorem aam:flat []=[]:=rfl
theorem uu(p:jS)(r:Ring):flat (p::r)=.int .i64 p.1::.int .i64 p.2::flat r:=rfl
theorem nQ(a b:Ring):flat (a++b)=flat a++flat b:=by simp[flat]
theorem mN(r:Ring):(flat r).length=r.length*2:=by induction r with|nil=>rfl|cons p r ih=>rw[uu];simp only[bG,ih];omega
theorem H6(r:Ring):∀v∈flat r,v.oneCell'=true:=by
 intro v hv;obtain⟨p,_,hp⟩:=cB.1 hv;simp at hp;rcases hp with rfl|rfl<;>rfl
theorem sC(r:Ring):∀(i:Nat)(p:jS),r[i]?=some p->(flat r)[i*2]?=some (.int .i64 p.1)∧(flat r)[i*2+1]?=some (.int .i64 p.2):=by induction r with|nil=>intro i p h;simp at h|cons q r ih=>intro i p h;cases i with|zero=>simp at h;subst h;exact⟨rfl,rfl⟩|succ i=>have:=ih i p (by simpa using h);rw[uu];have e1:(i+1)*2=i*2+1+1:=(by omega);rw[e1];exact⟨by simpa using this.1,by simpa using this.2⟩
theorem O8(r:Ring):∀(i:Nat)(p:jS),flat (r.set i p)=((flat r).set (i*2) (.int .i64 p.1)).set (i*2+1) (.int .i64 p.2):=by induction r with|nil=>intro i p;rfl|cons q r ih=>intro i p;cases i with|zero=>rfl|succ i=>have e1:(i+1)*2=i*2+1+1:=(by omega);rw[e1,List.set_cons_succ,uu,uu,ih];rfl
def jV(w:World)(b:Nat)(t:TypeId)(vs:List Value):Prop:=w.heap[b]?=some (.cells vs.toArray t (0,0))
def pE(w:World)(b:Nat)(r:Ring):Prop:=jV w b 32 (flat r)
theorem jV.lt{w:World}{b:Nat}{t:TypeId}{vs:List Value}(h:jV w b t vs):b<w.heap.size:=(Array.getElem?_eq_some_iff.1 h).1
theorem jV.cell{w:World}{b:Nat}{t:TypeId}{vs:List Value}(h:jV w b t vs){i:Nat}{v:Value}(hi:vs[i]?=some v):w.cell? ⟨b,i,none⟩=some v:=by
 unfold jV at h;simp[World.cell?,h,hi]
theorem jV.frozen{w:World}{b:Nat}{t:TypeId}{vs:List Value}(h:jV w b t vs)(i:Nat):w.frozen? ⟨b,i,none⟩=false:=by
 unfold jV at h;simp[World.frozen?,h]
theorem jV.of_block{w w':World}{b:Nat}{t:TypeId}{vs:List Value}(h:jV w b t vs)(e:w'.heap[b]?=w.heap[b]?):jV w' b t vs:=e.trans h
theorem jV.alloc{w:World}{b:Nat}{t:TypeId}{vs:List Value}(h:jV w b t vs)(o:Obj):jV (w.alloc o) b t vs:=h.of_block (Below.heap_alloc _ _ _ h.lt)
theorem jV.new(w:World)(vs:List Value)(t:TypeId):jV (w.alloc (.cells vs.toArray t)) w.heap.size t vs:=heap_alloc_new w _
theorem jV.set{w:World}{b:Nat}{t:TypeId}{vs:List Value}(h:jV w b t vs)(i:Nat)(v:Value):jV (w.setCell ⟨b,i,none⟩ v) b t (vs.set i v):=by
 unfold jV at*;simp[World.setCell,ju,h]
theorem jV.setOther{w:World}{b:Nat}{t:TypeId}{vs:List Value}(h:jV w b t vs){a:Addr}(ha:b≠a.block)(v:Value):jV (w.setCell a v) b t vs:=h.of_block (Below.heap_setCell _ _ _ _ ha)
theorem jV.drewN{w:World}{b:Nat}{t:TypeId}{vs:List Value}(h:jV w b t vs)(n:Nat):jV (w.drewN n) b t vs:=h
theorem pE.cells{w:World}{b:Nat}{r:Ring}(h:pE w b r){i:Nat}{p:jS}(hi:r[i]?=some p):w.cell? ⟨b,i*2,none⟩=some (.int .i64 p.1)∧w.cell? ⟨b,i*2+1,none⟩=some (.int .i64 p.2):=⟨jV.cell h (sC r i p hi).1,jV.cell h (sC r i p hi).2⟩
theorem pE.set{w:World}{b:Nat}{r:Ring}(h:pE w b r)(i:Nat)(p:jS):pE ((w.setCell ⟨b,i*2,none⟩ (.int .i64 p.1)).setCell ⟨b,i*2+1,none⟩ (.int .i64 p.2)) b (r.set i p):=by
 unfold pE;rw[O8];exact(jV.set h _ _).set _ _
structure D1 where
 b:Nat
 r:Ring
 s:Ring
structure D2 where
 b:Nat
 rs:List D1
 s:List D1
structure D3 where
 b:Nat
 ps:List D2
 s:List D2
def D1.v(d:D1):Value:=.slice (some ⟨d.b,0,none⟩) d.r.length (d.r.length+d.s.length)
def D2.v(d:D2):Value:=.slice (some ⟨d.b,0,none⟩) d.rs.length (d.rs.length+d.s.length)
def D3.v(d:D3):Value:=.slice (some ⟨d.b,0,none⟩) d.ps.length (d.ps.length+d.s.length)
def D2.pts(d:D2):Poly:=d.rs.map D1.r
def D3.m(d:D3):jX:=d.ps.map D2.pts
def D2.bl(d:D2):List Nat:=d.b::(d.rs++d.s).map D1.b
def D3.bl(d:D3):List Nat:=d.b::(d.ps++d.s).flatMap D2.bl
def R9(w:World)(d:D1):Prop:=pE w d.b (d.r++d.s)
structure FG(w:World)(d:D2):Prop where
 row:jV w d.b 30 ((d.rs++d.s).map D1.v)
 sub:∀x∈d.rs++d.s,R9 w x
structure Dn(w:World)(d:D3):Prop where
 row:jV w d.b 33 ((d.ps++d.s).map D2.v)
 sub:∀x∈d.ps++d.s,FG w x
theorem R9.of{w w':World}{d:D1}(h:R9 w d)(e:w'.heap[d.b]?=w.heap[d.b]?):R9 w' d:=jV.of_block h e
theorem FG.of{w w':World}{d:D2}(h:FG w d)(e:∀b∈d.bl,w'.heap[b]?=w.heap[b]?):FG w' d:=⟨h.row.of_block (e _ (by simp[D2.bl])),fun x hx=>(h.sub x hx).of (e _ (by simp only[D2.bl,aF];exact .inr (bJ hx)))⟩
theorem Dn.of{w w':World}{d:D3}(h:Dn w d)(e:∀b∈d.bl,w'.heap[b]?=w.heap[b]?):Dn w' d:=⟨h.row.of_block (e _ (by simp[D3.bl])),fun x hx=>(h.sub x hx).of (fun b hb=>e b (by simp only[D3.bl,aF,cB];exact .inr ⟨x,hx,hb⟩))⟩
theorem FG.lt{w:World}{d:D2}(h:FG w d):∀b∈d.bl,b<w.heap.size:=by
 intro b hb;simp only[D2.bl,aF,aJ]at hb;rcases hb with rfl|⟨x,hx,rfl⟩;{exact h.row.lt};·exact jV.lt (h.sub x hx)
theorem Dn.lt{w:World}{d:D3}(h:Dn w d):∀b∈d.bl,b<w.heap.size:=by
 intro b hb;simp only[D3.bl,aF,cB]at hb;rcases hb with rfl|⟨x,hx,hb⟩;{exact h.row.lt};·exact(h.sub x hx).lt b hb
theorem R9.up{w w':World}{d:D1}(h:R9 w d)(k:Up w w'):R9 w' d:=h.of (k.block _ (jV.lt h))
theorem FG.up{w w':World}{d:D2}(h:FG w d)(k:Up w w'):FG w' d:=h.of fun b hb=>k.block _ (h.lt b hb)
theorem Dn.up{w w':World}{d:D3}(h:Dn w d)(k:Up w w'):Dn w' d:=h.of fun b hb=>k.block _ (h.lt b hb)
theorem R9.rd{w:World}{d:D1}(h:R9 w d):wh w d.v d.r:=⟨_,_,rfl,fun i p hp=>⟨d.b,rfl,pE.cells h (by rw[bh (Pl.jW hp)];exact hp)⟩⟩
theorem FG.rd{w:World}{d:D2}(h:FG w d):wj w d.v d.pts:=by
 refine⟨_,_,by simp only[D2.v,D2.pts,aH];rfl,fun i r hr=>?_⟩;simp only[D2.pts,aI,b6]at hr;obtain⟨x,hx,rfl⟩:=hr;have hx':(d.rs++d.s)[i]?=some x:=(by rw[bh (Pl.jW hx)];exact hx);exact⟨d.b,x.v,rfl,h.row.cell (by simp only[aI,hx'];rfl),(h.sub x (Pl.jP hx')).rd⟩
theorem Dn.rd{w:World}{d:D3}(h:Dn w d):vM w d.v d.m:=by
 refine⟨_,_,by simp only[D3.v,D3.m,aH];rfl,fun i r hr=>?_⟩;simp only[D3.m,aI,b6]at hr;obtain⟨x,hx,rfl⟩:=hr;have hx':(d.ps++d.s)[i]?=some x:=(by rw[bh (Pl.jW hx)];exact hx);exact⟨d.b,x.v,rfl,h.row.cell (by simp only[aI,hx'];rfl),(h.sub x (Pl.jP hx')).rd⟩
theorem Dp(w:World)(c c':Array Value)(t:TypeId):(w.alloc (.cells c t)).setRow w.heap.size c'=w.alloc (.cells c' t):=by
 show({w with heap:=(w.heap.push (.cells c t)).modify w.heap.size _}:World)={w with heap:=w.heap.push (.cells c' t)};congr 1;apply Array.ext_getElem?;intro k;rw[ju,Array.getElem?_push,Array.getElem?_push];by_cases hk:w.heap.size=k;{subst hk;simp};·have hk':¬k=w.heap.size:=fun e=>hk e.symm;simp[hk,hk']
theorem Dq{P:Program}(w:World)(dT sT ty elem:TypeId)(g dLen dCap:Nat)(ao:Option Addr)(sCap:Nat)(t:TypeId)(cur:List Value)(r:Ring)(hu:P.underlying dT=some (.slice elem))(hs:(P.info? elem).map (·.size)=some 2)(hg:w.heap[g]?=some (.cells cur.toArray t (0,0)))(hn:r.length<=dLen)(hsrc:∀i p,r[i]?=some p->∃b,ao=some ⟨b,0,none⟩∧w.cell? ⟨b,i*2,none⟩=some (.int .i64 p.1)∧w.cell? ⟨b,i*2+1,none⟩=some (.int .i64 p.2))(hfit:r.length*2<=cur.length):(Builtin.copy_ #[dT,sT] ty #[.slice (some ⟨g,0,none⟩) dLen dCap,.slice ao r.length sCap]).run P w=.ok (goInt r.length) (w.setRow g (flat r++cur.drop (r.length*2)).toArray):=by
 have hst:=run_storeCells_at P g 0 t (flat r) 0 cur.toArray w hg (by simpa[mN]using hfit) (H6 r);simp only[bZ,iM,dF,mN]at hst;have hmin:Nat.min r.length dLen=r.length:=fN hn;cases hq:P.info? elem with|none=>simp[hq]at hs|some i=>have hi:i.size=2:=(by simpa[hq]using hs);cases hr:r with|nil=>subst hr;simp only[aam,dF,cZ,ig,List.drop_zero]at hst⊢;(cases ao with|none=>simp[Builtin.copy_,run_underlying hu,Builtin.lenOf,Builtin.firstCells,sizeOf,typeInfo,hq,hi,storeCells,setRow_self w g cur.toArray t (0,0) hg]|some a=>have hl:=run_loadCells_list (P:=P) w a [] (by intro j v h;simp at h);simp only[cZ]at hl;simp[Builtin.copy_,run_underlying hu,Builtin.lenOf,Builtin.firstCells,sizeOf,typeInfo,hq,hi,storeCells,hl,setRow_self w g cur.toArray t (0,0) hg])|cons p0 r0=>obtain⟨b,rfl,_⟩:=hsrc 0 p0 (by rw[hr];rfl);have hl:=run_loadCells_list (P:=P) w ⟨b,0,none⟩ (flat r) (by intro j v hj;have hjl:j<r.length*2:=(by have:=Pl.jW hj;rwa[mN]at this);obtain⟨p,hp⟩:=Pl.jQ (l:=r) (k:=j/2) (by omega);obtain⟨b',hb',e1,e2⟩:=hsrc _ p hp;cases hb';have hf:=sC r _ p hp;have ahj:(⟨b,0,none⟩:Addr).add j=⟨b,j,none⟩:=(by unfold Addr.add;split<;>simp_all);rw[ahj];rcases iR j with h2|h2;{rw[show j/2*2=j by omega]at hf e1;rw[hf.1]at hj;cases hj;exact e1};·rw[show j/2*2+1=j by omega]at hf e2;rw[hf.2]at hj;cases hj;exact e2);rw[mN]at hl;rw[←hr];simp[Builtin.copy_,run_underlying hu,Builtin.lenOf,Builtin.firstCells,sizeOf,typeInfo,hq,hi,hmin,hl,hst,mN]
structure Fr(S:Nat->Prop)(w w':World):Prop where
 os:w'.os=w.os
 tape:w'.tape=w.tape
 output:w'.output=w.output
 size:w.heap.size<=w'.heap.size
 block:∀b,b<w.heap.size->¬S b->w'.heap[b]?=w.heap[b]?
theorem Fr.refl(S:Nat->Prop)(w:World):Fr S w w:=⟨rfl,rfl,rfl,bB _,fun _ _ _=>rfl⟩
theorem Fr.trans{S:Nat->Prop}{a b c:World}(h:Fr S a b)(k:Fr S b c):Fr S a c:=⟨k.os.trans h.os,k.tape.trans h.tape,k.output.trans h.output,cT h.size k.size,fun i hi hs=>(k.block i (gu hi h.size) hs).trans (h.block i hi hs)⟩
theorem Fr.mono{S T:Nat->Prop}{a b:World}(h:Fr S a b)(k:∀x,x<a.heap.size->S x->T x):Fr T a b:=⟨h.os,h.tape,h.output,h.size,fun i hi hs=>h.block i hi (fun e=>hs (k i hi e))⟩
theorem Fr.nS{S:Nat->Prop}{a b:World}(h:Up a b):Fr S a b:=⟨h.os,h.tape,h.output,h.size,fun i hi _=>h.block i hi⟩
theorem Fr.up{S:Nat->Prop}{a b:World}(h:Fr S a b)(k:∀x,x<a.heap.size->¬S x):Up a b:=⟨h.os,h.tape,h.output,h.size,fun i hi=>h.block i hi (k i hi)⟩
theorem Fr.alloc{S:Nat->Prop}{a b:World}(h:Fr S a b)(o:Obj):Fr S a (b.alloc o):=h.trans (Fr.nS ((Up.refl _).alloc o))
theorem Fr.drewN{S:Nat->Prop}{a b:World}(h:Fr S a b)(n:Nat):Fr S a (b.drewN n):=h.trans (Fr.nS ((Up.refl _).drewN n))
theorem Fr.drew{S:Nat->Prop}{a b:World}(h:Fr S a b):Fr S a b.drew:=h.trans (Fr.nS (Up.refl _).drew)
theorem Fr.setCell{S:Nat->Prop}{a b:World}(h:Fr S a b){p:Addr}(hp:S p.block)(u:Value):Fr S a (b.setCell p u):=h.trans ⟨rfl,rfl,rfl,by simp[World.setCell],fun k _ hs=>Below.heap_setCell _ _ _ _ (fun e=>hs (e▸hp))⟩
theorem Fr.grown{S:Nat->Prop}{a b c:World}(h:Fr S a b){row:Option Nat}(hg:b.grownBy c row)(hr:∀k,row=some k->S k∨a.heap.size<=k):Fr S a c:=⟨hg.os.trans h.os,hg.tape.trans h.tape,hg.output.trans h.output,cT h.size hg.size,fun i hi hs=>(hg.block i (gu hi h.size) (fun e=>by rcases hr i e.symm with h1|h1;{exact hs h1};·omega)).trans (h.block i hi hs)⟩
theorem Fr.row{S:Nat->Prop}{a c:World}(h:Fr S a c){b:Nat}{t:TypeId}{vs:List Value}(hv:jV a b t vs)(hs:¬S b):jV c b t vs:=hv.of_block (h.block b hv.lt hs)
theorem Fr.cell{S:Nat->Prop}{a c:World}(h:Fr S a c){p:Addr}{v:Value}(hv:a.cell? p=some v)(hs:¬S p.block):c.cell? p=some v:=(World.cell?_of_block (h.block _ (rB hv) hs)).trans hv
theorem Fr.ok1{S:Nat->Prop}{a c:World}(h:Fr S a c){d:D1}(hv:R9 a d)(hs:¬S d.b):R9 c d:=h.row hv hs
theorem Fr.ok2{S:Nat->Prop}{a c:World}(h:Fr S a c){d:D2}(hv:FG a d)(hs:∀b∈d.bl,¬S b):FG c d:=hv.of fun b hb=>h.block b (hv.lt b hb) (hs b hb)
theorem Fr.ok3{S:Nat->Prop}{a c:World}(h:Fr S a c){d:D3}(hv:Dn a d)(hs:∀b∈d.bl,¬S b):Dn c d:=hv.of fun b hb=>h.block b (hv.lt b hb) (hs b hb)
def RF1(F:Nat->Prop)(w:World)(v:Value)(r:Ring):Prop:=∃ao cap,v=.slice ao r.length cap∧∀i p,r[i]?=some p->∃b,F b∧ao=some ⟨b,0,none⟩∧w.cell? ⟨b,i*2,none⟩=some (.int .i64 p.1)∧w.cell? ⟨b,i*2+1,none⟩=some (.int .i64 p.2)
def RF2(F:Nat->Prop)(w:World)(v:Value)(l:Poly):Prop:=∃ao cap,v=.slice ao l.length cap∧∀i r,l[i]?=some r->∃b u,F b∧ao=some ⟨b,0,none⟩∧w.cell? ⟨b,i,none⟩=some u∧RF1 F w u r
def RF3(F:Nat->Prop)(w:World)(v:Value)(m:jX):Prop:=∃ao cap,v=.slice ao m.length cap∧∀i l,m[i]?=some l->∃b u,F b∧ao=some ⟨b,0,none⟩∧w.cell? ⟨b,i,none⟩=some u∧RF2 F w u l
theorem RF1.keep{F F':Nat->Prop}{S:Nat->Prop}{w w':World}{v:Value}{r:Ring}(h:RF1 F w v r)(k:Fr S w w')(hF:∀b,b<w.heap.size->F b->F' b∧¬S b):RF1 F' w' v r:=by
 obtain⟨ao,cap,e,h⟩:=h;refine⟨ao,cap,e,fun i p hp=>?_⟩;obtain⟨b,f,e1,e2,e3⟩:=h i p hp;obtain⟨g1,g2⟩:=hF b (rB e2) f;exact⟨b,g1,e1,k.cell e2 g2,k.cell e3 g2⟩
theorem RF2.keep{F F':Nat->Prop}{S:Nat->Prop}{w w':World}{v:Value}{l:Poly}(h:RF2 F w v l)(k:Fr S w w')(hF:∀b,b<w.heap.size->F b->F' b∧¬S b):RF2 F' w' v l:=by
 obtain⟨ao,cap,e,h⟩:=h;refine⟨ao,cap,e,fun i p hp=>?_⟩;obtain⟨b,u,f,e1,e2,e3⟩:=h i p hp;obtain⟨g1,g2⟩:=hF b (rB e2) f;exact⟨b,u,g1,e1,k.cell e2 g2,e3.keep k hF⟩
theorem RF3.keep{F F':Nat->Prop}{S:Nat->Prop}{w w':World}{v:Value}{m:jX}(h:RF3 F w v m)(k:Fr S w w')(hF:∀b,b<w.heap.size->F b->F' b∧¬S b):RF3 F' w' v m:=by
 obtain⟨ao,cap,e,h⟩:=h;refine⟨ao,cap,e,fun i p hp=>?_⟩;obtain⟨b,u,f,e1,e2,e3⟩:=h i p hp;obtain⟨g1,g2⟩:=hF b (rB e2) f;exact⟨b,u,g1,e1,k.cell e2 g2,e3.keep k hF⟩
def WR(w:World)(b:Nat)(ps l out:Value)(mk:Int):Prop:=jV w b 38 [ps,l,out,.int .i64 mk]
theorem WR.mark{w:World}{b:Nat}{ps l out:Value}{mk:Int}(h:WR w b ps l out mk)(n:Int):WR (w.setCell ⟨b,3,none⟩ (.int .i64 n)) b ps l out n:=jV.set h 3 _
theorem WR.c0{w:World}{b:Nat}{ps l out:Value}{mk:Int}(h:WR w b ps l out mk):w.cell? ⟨b,0,none⟩=some ps:=jV.cell h rfl
theorem WR.c1{w:World}{b:Nat}{ps l out:Value}{mk:Int}(h:WR w b ps l out mk):w.cell? ⟨b,1,none⟩=some l:=jV.cell h rfl
theorem WR.c2{w:World}{b:Nat}{ps l out:Value}{mk:Int}(h:WR w b ps l out mk):w.cell? ⟨b,2,none⟩=some out:=jV.cell h rfl
theorem WR.c3{w:World}{b:Nat}{ps l out:Value}{mk:Int}(h:WR w b ps l out mk):w.cell? ⟨b,3,none⟩=some (.int .i64 mk):=jV.cell h rfl
structure Elem(P:Program)(t e:TypeId)(z:Value)(size bytes:Nat):Prop where
 und:P.underlying t=some (.slice e)
 info:(P.info? e).map (fun i=>(i.zero,i.size,i.bytes))=some (some z,size,bytes)
 zs:z.cells.size=size
 pos:0<size
 small:bytes<=4096
theorem Ds{P:Program}{t e:TypeId}{z:Value}{size bytes:Nat}(E0:Elem P t e z size bytes){ops:Array Oper}{o:Oper}{a:Act}{w:World}{K:Act->World->Prop}{Q:Exit->Act->World->Prop}{E:Prop}(hgd:o.guard=none)(s x:Operand)(ho:o.op=.call {callee:=.builtin .append,args:=#[s,x],argTypes:=#[t,t]})(base:Nat)(v:Value)(n:Nat)(xs:List Value)(hs:a.eval s=v)(hown:w.ownsRow base e size v n xs)(g0:Nat)(news:List Value)(hx:a.eval x=.slice (some ⟨g0,0,none⟩) 1 1)(hl:news.length=size)(hg0:w.heap[g0]?=some (.cells news.toArray e (0,0)))(h1:∀u∈news,u.oneCell'=true)(hn:n<=1073741824)(hbase:base<=w.heap.size)(h:∀g cap w',w'.ownsRow base e size (.slice (some ⟨g,0,none⟩) (n+1) cap) (n+1) (xs++news)->w.grownBy w' v.ownBlock->(v.ownBlock=some g∨g=w.heap.size)->g<w'.heap.size->K (a.put o.dst (.slice (some ⟨g,0,none⟩) (n+1) cap)) w'):if Region.wanted o (yielded ops a.tmps)=true then Oper.wp P o a w K Q else E:=by
 obtain⟨i,hi,Wq⟩:=b6.1 E0.info;simp only[dH]at Wq;obtain⟨z1,z2,z3⟩:=Wq;refine step_append_lies w hgd s x t ho base e i z size bytes E0.und hi z1 z2 z3 E0.zs E0.pos v n xs hs hown ⟨g0,0,none⟩ 1 1 news hx (by omega) ?_ h1 (by omega) (by unfold maxLen;omega) ?_ hbase w.heap.size rfl h;{have:=World.news_of_block hg0;simpa using this};·have:=E0.small;have h2:(n+1)*bytes<=(n+1)*4096:=gE _ this;omega
theorem kG{P:Program}{t e:TypeId}{z:Value}{size bytes:Nat}(E0:Elem P t e z size bytes){ops:Array Oper}{rest:List Oper}{o:Oper}{a:Act}{w:World}{Q:Exit->Act->World->Prop}(hgd:o.guard=none)(s x:Operand)(ho:o.op=.call {callee:=.builtin .append,args:=#[s,x],argTypes:=#[t,t]})(base:Nat)(v:Value)(n:Nat)(xs:List Value)(hs:a.eval s=v)(hown:w.ownsRow base e size v n xs)(g0:Nat)(news:List Value)(hx:a.eval x=.slice (some ⟨g0,0,none⟩) 1 1)(hl:news.length=size)(hg0:w.heap[g0]?=some (.cells news.toArray e (0,0)))(h1:∀u∈news,u.oneCell'=true)(hn:n<=1073741824)(hbase:base<=w.heap.size)(h:∀g cap w',w'.ownsRow base e size (.slice (some ⟨g,0,none⟩) (n+1) cap) (n+1) (xs++news)->w.grownBy w' v.ownBlock->(v.ownBlock=some g∨g=w.heap.size)->g<w'.heap.size->wpList P ops Q rest (a.put o.dst (.slice (some ⟨g,0,none⟩) (n+1) cap)) w'):wpList P ops Q (o::rest) a w:=by
 obtain⟨i,hi,Wq⟩:=b6.1 E0.info;simp only[dH]at Wq;obtain⟨z1,z2,z3⟩:=Wq;refine wpList_append_lies w hgd s x t ho base e i z size bytes E0.und hi z1 z2 z3 E0.zs E0.pos v n xs hs hown ⟨g0,0,none⟩ 1 1 news hx (by omega) ?_ h1 (by omega) (by unfold maxLen;omega) ?_ hbase w.heap.size rfl h;{have:=World.news_of_block hg0;simpa using this};·have:=E0.small;have h2:(n+1)*bytes<=(n+1)*4096:=gE _ this;omega
theorem rY{w:World}{base:Nat}{e:TypeId}{size:Nat}{v:Value}{n:Nat}{xs:List Value}(h:w.ownsRow base e size v n xs){g:Nat}(hg:v.ownBlock=some g):∃cur,w.heap[g]?=some (.cells cur e (0,0)):=by
 rcases h.2 with⟨rfl,_⟩|⟨g',cap,cur,rfl,_,hh,_⟩;{cases hg};·cases hg;exact⟨cur,hh⟩
theorem uw{w:World}{base base':Nat}{e e':TypeId}{size size':Nat}{v v':Value}{n n':Nat}{xs xs':List Value}(h:w.ownsRow base e size v n xs)(h':w.ownsRow base' e' size' v' n' xs')(he:e≠e'):v.ownBlock=none∨v.ownBlock≠v'.ownBlock:=by cases hv:v.ownBlock with|none=>exact .inl rfl|some g=>refine .inr fun e2=>?_;obtain⟨c,hc⟩:=rY h hv;obtain⟨c',hc'⟩:=rY h' e2.symm;rw[hc]at hc';simp at hc';exact he hc'.2
theorem ko{w:World}{base:Nat}{e:TypeId}{size:Nat}{v:Value}{n:Nat}{xs:List Value}(h:w.ownsRow base e size v n xs){b:Nat}{t:TypeId}{vs:List Value}(hb:jV w b t vs)(he:e≠t):v.ownBlock≠some b:=by
 intro e2;obtain⟨c,hc⟩:=rY h e2;unfold jV at hb;rw[hb]at hc;simp at hc;exact he hc.2.symm
theorem qz{w w':World}{base:Nat}{e:TypeId}{size:Nat}{v:Value}{n:Nat}{xs:List Value}(h:w.ownsRow base e size v n xs)(k:∀g,v.ownBlock=some g->w'.heap[g]?=w.heap[g]?):w'.ownsRow base e size v n xs:=by
 refine⟨h.1,?_⟩;rcases h.2 with h2|⟨g,cap,cur,rfl,hb,hh,r⟩;{exact .inl h2};·exact .inr ⟨g,cap,cur,rfl,hb,(k g rfl).trans hh,r⟩
theorem lH{w:World}{base:Nat}{e:TypeId}{size:Nat}{v:Value}{n:Nat}{xs:List Value}(h:w.ownsRow base e size v n xs){g:Nat}(hg:v.ownBlock=some g):base<=g∧g<w.heap.size:=h.lt g hg
theorem pY{w:World}{base:Nat}{e:TypeId}{size:Nat}{v:Value}{n:Nat}{xs:List Value}(h:w.ownsRow base e size v n xs){a:Addr}(ha:v.ownBlock≠some a.block)(u:Value):(w.setCell a u).ownsRow base e size v n xs:=qz h fun g hg=>Below.heap_setCell _ _ _ _ (fun e=>ha (e▸hg))
theorem mA{w w':World}{base:Nat}{e:TypeId}{size:Nat}{v:Value}{n:Nat}{xs:List Value}(h:w.ownsRow base e size v n xs)(k:Up w w'):w'.ownsRow base e size v n xs:=qz h fun g hg=>k.block g (lH h hg).2
theorem Ae{S:Nat->Prop}{w w':World}{base:Nat}{e:TypeId}{size:Nat}{v:Value}{n:Nat}{xs:List Value}(h:w.ownsRow base e size v n xs)(k:Fr S w w')(hs:∀g,v.ownBlock=some g->¬S g):w'.ownsRow base e size v n xs:=qz h fun g hg=>k.block g (lH h hg).2 (hs g hg)
theorem Af{w:World}{base base':Nat}{e:TypeId}{size:Nat}{v:Value}{n:Nat}{xs:List Value}(h:w.ownsRow base e size v n xs)(hb:base'<=base):w.ownsRow base' e size v n xs:=by
 refine⟨h.1,?_⟩;rcases h.2 with h2|⟨g,cap,cur,rfl,Bk,r⟩;{exact .inl h2};·exact .inr ⟨g,cap,cur,rfl,by omega,r⟩
theorem jV.grown{w w':World}{row:Option Nat}{b:Nat}{t:TypeId}{vs:List Value}(h:jV w b t vs)(hg:w.grownBy w' row)(hne:row≠some b):jV w' b t vs:=h.of_block (hg.block b h.lt (fun e=>hne e.symm))
structure Fl where
 kd:Int
 a:Int
 b:Int
 c:Int
 s:ByteArray
def Fl.cells(o:Fl):List Value:=[.int .i64 o.kd,.int .i64 o.a,.int .i64 o.b,.int .i64 o.c,.string o.s]
def Cc(P:List Fl):List Value:=P.flatMap Fl.cells
theorem O9(P:List Fl)(o:Fl):Cc (P++[o])=Cc P++o.cells:=by simp[Cc]
theorem yl(P:List Fl):∀(i:Nat)(o:Fl)(c:Nat)(v:Value),P[i]?=some o->o.cells[c]?=some v->(Cc P)[i*5+c]?=some v:=by induction P with|nil=>intro i o c v h;simp at h|cons a t ih=>intro i o c v h hc;have hc6:c<5:=(by have:=Pl.jW hc;simpa[Fl.cells]using this);show(a.cells++Cc t)[i*5+c]?=some v;cases i with|zero=>simp at h;subst h;rw[bh (by simp[Fl.cells];omega)];simpa using hc|succ i=>have:=ih i o c v (by simpa using h) hc;rw[aN (by simp[Fl.cells];omega)];rw[show(i+1)*5+c-a.cells.length=i*5+c by simp[Fl.cells];omega];exact this
def RdP(w:World)(v:Value)(P:List Fl):Prop:=∃ao cap,v=.slice ao P.length cap∧∀i o,P[i]?=some o->∃b off,ao=some ⟨b,off,none⟩∧w.cell? ⟨b,off+i*5,none⟩=some (.int .i64 o.kd)∧w.cell? ⟨b,off+i*5+1,none⟩=some (.int .i64 o.a)∧w.cell? ⟨b,off+i*5+2,none⟩=some (.int .i64 o.b)∧w.cell? ⟨b,off+i*5+3,none⟩=some (.int .i64 o.c)∧w.cell? ⟨b,off+i*5+4,none⟩=some (.string o.s)
structure Mn(o:Fl):Prop where
 a0:-9223372036854775808<=o.a
 a1:o.a<=9223372036854775807
 b0:-9223372036854775808<=o.b
 b1:o.b<=9223372036854775807
 c0:-9223372036854775808<=o.c
 c1:o.c<=9223372036854775807
theorem EA(x:Int)(w:World):Calls Tryz.prog 120 #[.int .i64 x] w fun e w'=>e=.returned (.bool (Pl.zl x))∧w'=w:=by
 have:Pl.zl x=(decide (32768<x)||decide (x< -32768)):=rfl;by_cases h1:32768<x;{go_enter Tryz.func120,Tryz.ntmps120;go_wp2;go_ret;exact⟨by simp[Pl.zl,h1],rfl⟩};·by_cases h2:x< -32768;all_goals go_enter Tryz.func120,Tryz.ntmps120;go_wp2;go_ret;exact⟨by simp[Pl.zl,h1,h2],rfl⟩
theorem qH{a b:Bool}(h:a=b):Ending.returned (.bool a)=.returned (.bool b):=by rw[h]
theorem Fo(v:Value)(m:jX)(w:World)(hv:vM w v m)(hb:Pl.Bd m):Calls Tryz.prog 85 #[v] w fun e w'=>e=.returned (.bool (Pl.many m))∧w'=w:=by
 obtain⟨ao,cap,rfl,hm⟩:=hv;have hlen:=hb.len;by_cases h8:8<m.length;{go_enter Tryz.func85,Tryz.ntmps85;go_wp2;go_ret;exact⟨qH (by simp[Pl.many,h8]),rfl⟩};·go_enter Tryz.func85,Tryz.ntmps85;go_wp2;go_loop[3,4,14](fun rc pc i=>∃k:Nat,k<=m.length∧i=.int .i64 k∧rc=.int .i64 (Pl.nR (m.take k):Nat)∧pc=.int .i64 (Pl.nP (m.take k):Nat)∧Pl.nR (m.take k)<=12∧Pl.nP (m.take k)<=100)(fun _ _ i=>m.length-(intOf i).toNat);(case atStart=>exact⟨0,aD _,rfl,rfl,rfl,by simp[Pl.nR],by simp[Pl.nP]⟩);case round=>obtain⟨k,hk,rfl,rfl,rfl,h12,ahk⟩:=hrel;by_cases hlt:k<m.length;{obtain⟨l,hl⟩:=Pl.jQ hlt;obtain⟨b,u,rfl,hc,rS,mq,rfl,hr⟩:=hm k l hl;have UG:=hb.poly l (Pl.jP hl);have hrr:=hb.ring l (Pl.jP hl);have eR:Hid (Pl.nR (m.take (k+1))=Pl.nR (m.take k)+l.length):=Pl.TC hl;have eP:Hid (Pl.nP (m.take (k+1))=Pl.nP (m.take k)+Pl.y9 l):=Pl.TD hl;have gR:=Pl.ajJ m (k+1);have gP:=Pl.ajK m (k+1);have HL:Hid (m[k]?=some l):=hl;have hm':=jO hm;clear hl hm;generalize hrc:Pl.nR (m.take k)=rc at*;generalize Uz:Pl.nP (m.take k)=pc at*;have Hrc:Hid (Pl.nR (m.take k)=rc):=hrc;have Hpc:Hid (Pl.nP (m.take k)=pc):=Uz;clear hrc Uz;by_cases g12:12<rc+l.length;{go_wp2;go_ret;exact⟨qH (by have:=eR.out;simp[Pl.many];omega),rfl⟩};·go_wp2;go_loop[4,26](fun p j=>∃q:Nat,q<=l.length∧j=.int .i64 q∧p=.int .i64 (pc+Pl.y9 (l.take q):Nat)∧pc+Pl.y9 (l.take q)<=100)(fun _ j=>l.length-(intOf j).toNat);(case atStart=>exact⟨0,aD _,rfl,by simp[Pl.y9],by simpa[Pl.y9]using ahk⟩);case round=>obtain⟨q,hq,rfl,rfl,akE⟩:=hrel;by_cases pS:q<l.length;{obtain⟨r,A6⟩:=Pl.jQ pS;obtain⟨b2,u2,rfl,zo,ao3,vN,rfl,hp⟩:=hr q r A6;have hrl:=hrr r (Pl.jP A6);have eQ:Hid (Pl.y9 (l.take (q+1))=Pl.y9 (l.take q)+r.length):=Pl.Nq A6;have gQ:=Pl.agm l (q+1);have hr':=jO hr;have au9:=jO hrr;clear hr A6 hp hrr;generalize hx:Pl.y9 (l.take q)=x at*;have Hx:Hid (Pl.y9 (l.take q)=x):=hx;clear hx;by_cases au':100<pc+x+r.length;{go_wp2;go_ret;exact⟨qH (by have:=eQ.out;have:=eP.out;simp[Pl.many];omega),rfl⟩};·go_wp2;go_round;(case rel=>exact⟨q+1,by omega,by go_num,by rw[eQ.out];go_num,by rw[eQ.out];omega⟩);case measure=>simp[intOf];omega};·have:q=l.length:=(by omega);subst this;go_wp2;go_round;(case rel=>exact⟨k+1,by omega,by go_num,by rw[eR.out];go_num,by rw[eP.out];simp,by rw[eR.out];omega,by rw[eP.out];simpa using akE⟩);case measure=>simp[intOf];omega};·have:k=m.length:=(by omega);subst this;go_wp2;go_ret;exact⟨qH (by simp[Pl.many]at*;omega),rfl⟩
theorem Bv(v:Value)(l:Poly)(w:World)(hv:wj w v l)(hb:l.length<=1048576)(Bk:∀r∈l,r.length<=1048576):Calls Tryz.prog 86 #[v] w fun e w'=>e=.returned (.bool (Pl.uK l))∧∃n,w'=w.drewN n:=by
 obtain⟨ao,cap,rfl,hm⟩:=hv;by_cases h0:l.length=0;{go_enter Tryz.func86,Tryz.ntmps86;go_wp2;go_ret;exact⟨qH (by simp[Pl.uK,List.length_eq_zero_iff.1 h0]),0,rfl⟩};·have h0':((l.length:Int)==0)=false:=ai.2 (by omega);go_enter Tryz.func86,Tryz.ntmps86;go_wp2;go_loopw[10](fun i wr=>∃k:Nat,k<=l.length∧i=.int .i64 k∧(l.take k).any Pl.wV=false∧∃n,wr=w.drewN n)(fun i _=>l.length-(intOf i).toNat);(case atStart=>exact⟨0,aD _,rfl,rfl,0,rfl⟩);case round=>obtain⟨k,hk,rfl,xJ,n,rfl⟩:=hrel;by_cases hlt:k<l.length;{obtain⟨r,hr⟩:=Pl.jQ hlt;obtain⟨b,u,rfl,hc,rS,mq,rfl,hp⟩:=hm k r hr;have hrl:=Bk r (Pl.jP hr);have e1:=jO (Pl.kM Pl.wV hr);have HR:=jO hr;have hm':=jO hm;have Fp:=jO xJ;have akF:=jO Bk;clear hr hm xJ Bk;by_cases h4:r.length<4;{have hd:decide ((r.length:Int)<4)=true:=(by simp;omega);have hb4:Hid (Pl.wV r=true):=(by simp[Hid,Pl.wV,h4]);go_wp2;go_quiet(fail);go_wp2;go_ret;exact⟨qH (by simp[Pl.uK,Pl.Gw,Pl.lD Pl.wV HR.out hb4.out]),_,World.drewN_drewN _ _ _⟩};·have hd:decide ((r.length:Int)<4)=false:=(by simp;omega);obtain⟨p0,hp0⟩:=Pl.jQ (l:=r) (k:=0) (by omega);obtain⟨p1,FE⟩:=Pl.jQ (l:=r) (k:=r.length-1) (by omega);have HB:=jO (Pl.JM h4 hp0 FE);obtain⟨b2,rfl,c00,c01⟩:=hp 0 p0 hp0;obtain⟨b2',e2,c10,c11⟩:=hp (r.length-1) p1 FE;cases e2;clear hp hp0 FE;obtain⟨x0,y0⟩:=p0;obtain⟨x1,y1⟩:=p1;dsimp only at c00 c01 c10 c11;have q0:0<r.length:=(by omega);have q1:(1:Int)<=(r.length:Int):=(by omega);rcases(show(x0=x1∧y0=y1)∨(x0≠x1)∨(x0=x1∧y0≠y1)from by omega)with⟨rfl,rfl⟩|hx|⟨rfl,hy⟩;{go_wp2;refine wp_region_quiet_lit (by kernel_rfl) (by kernel_rfl) ?_;(repeat first|go_big_quiet_step(fail)|quiet_step(fail));refine wpQuiet_nil ?_;intro _ hw';obtain⟨nq,hw''⟩:=hw';subst hw'';go_wp2;go_roundw;(case rel=>exact⟨k+1,by omega,by go_num,by rw[e1.out,Fp.out,HB.out];simp,n+nq,by simp⟩);case measure=>simp[intOf];omega};all_goals go_wp2;refine wp_region_quiet_lit (by kernel_rfl) (by kernel_rfl) ?_;(repeat first|go_big_quiet_step(fail)|quiet_step(fail));refine wpQuiet_nil ?_;intro _ hw';obtain⟨nq,hw''⟩:=hw';subst hw'';go_wp2;go_ret;exact⟨qH (by simp[Pl.uK,Pl.Gw,Pl.lD Pl.wV HR.out (by rw[HB.out];simp[*])]),_,World.drewN_drewN _ _ _⟩};·have:k=l.length:=(by omega);subst this;go_wp2;go_ret;have hne:l≠[]:=fun e=>h0 (by simp[e]);rw[aO]at xJ;exact⟨qH (by simp[Pl.uK,Pl.Gw,xJ,hne]),_,rfl⟩
theorem Mo(x y:Int):Pl.xg (x,y)=(Pl.zl x||Pl.zl y):=rfl
theorem Ag(v:Value)(l:Poly)(w:World)(hv:wj w v l)(hb:l.length<=1048576)(Bk:∀r∈l,r.length<=1048576):Calls Tryz.prog 87 #[v] w fun e w'=>e=.returned (.bool (Pl.wA l))∧Up w w':=by
 obtain⟨ao,cap,rfl,hm⟩:=hv;go_enter Tryz.func87,Tryz.ntmps87;go_wp2;go_loopw[9](fun i wr=>∃k:Nat,k<=l.length∧i=.int .i64 k∧(l.take k).any Pl.zu=false∧Up w wr)(fun i _=>l.length-(intOf i).toNat);(case atStart=>exact⟨0,aD _,rfl,rfl,Up.refl _⟩);case round=>obtain⟨k,hk,rfl,xJ,qC⟩:=hrel;by_cases hlt:k<l.length;{obtain⟨r,hr⟩:=Pl.jQ hlt;obtain⟨b,u,rfl,hc,rS,mq,rfl,hp⟩:=hm k r hr;have hrl:=Bk r (Pl.jP hr);have hc':=qC.cell hc;have e1:=jO (Pl.kM Pl.zu hr);have HR:=jO hr;have hm':=jO hm;have Fp:=jO xJ;have akF:=jO Bk;have Ws:=jO qC;have hp':=jO hp;clear hr hm xJ Bk qC hc hp;go_wp2;go_loopw[15](fun j wq=>∃q:Nat,q<=r.length∧j=.int .i64 q∧(r.take q).any Pl.xg=false∧Up w wq)(fun j _=>r.length-(intOf j).toNat);(case atStart=>exact⟨0,aD _,rfl,rfl,Ws.out⟩);case round=>obtain⟨q,hq,rfl,hbq,huq⟩:=hrel;by_cases pS:q<r.length;{obtain⟨⟨x,y⟩,hxy⟩:=Pl.jQ pS;obtain⟨b2,rfl,cx,cy⟩:=hp'.out q (x,y) hxy;have Wt:=huq.cell cx;have Wu:=huq.cell cy;dsimp only at Wt Wu;have e2:=jO (Pl.kM Pl.xg hxy);have HXY:=jO hxy;have ahm:=jO hbq;have ahn:=jO huq;clear hxy hbq huq cx cy hp';cases hfx:Pl.zl x;{cases hfy:Pl.zl y;{have Uc:Hid (Pl.xg (x,y)=false):=(by simp[Hid,Mo,hfx,hfy]);go_wp2_with(go_at_call 120;refine(EA _ _).mono ?_;rintro e w'⟨rfl,rfl⟩);go_roundw;(case rel=>exact⟨q+1,by omega,by go_num,by rw[e2.out,ahm.out,Uc.out];rfl,ahn.out.alloc _⟩);case measure=>simp[intOf];omega};·have Uc:Hid (Pl.xg (x,y)=true):=(by simp[Hid,Mo,hfx,hfy]);go_wp2_with(go_at_call 120;refine(EA _ _).mono ?_;rintro e w'⟨rfl,rfl⟩);go_ret;exact⟨qH (Pl.lD Pl.zu HR.out (Pl.lD Pl.xg HXY.out Uc.out)).symm,(ahn.out.alloc _)⟩};·have Uc:Hid (Pl.xg (x,y)=true):=(by simp[Hid,Mo,hfx]);go_wp2_with(go_at_call 120;refine(EA _ _).mono ?_;rintro e w'⟨rfl,rfl⟩);go_ret;exact⟨qH (Pl.lD Pl.zu HR.out (Pl.lD Pl.xg HXY.out Uc.out)).symm,(ahn.out.alloc _)⟩};·have:q=r.length:=(by omega);subst this;rw[aO]at hbq;have ahm:=jO hbq;clear hbq;go_wp2;go_roundw;(case rel=>exact⟨k+1,by omega,by go_num,by rw[e1.out,Fp.out,show Pl.zu r=false from ahm.out];rfl,huq⟩);case measure=>simp[intOf];omega};·have:k=l.length:=(by omega);subst this;go_wp2;go_ret;rw[aO]at xJ;exact⟨qH xJ.symm,qC⟩
theorem KE(v:Value)(m:jX)(w:World)(hv:vM w v m)(hb:Pl.Bd m):Calls Tryz.prog 51 #[v] w fun e w'=>e=.returned (.int .i64 (Pl.wrong m))∧Up w w':=by
 have hv':=jO hv;have hb':=jO hb;obtain⟨ao,cap,rfl,hm⟩:=hv;have hlen:=hb.len;clear hb;cases zh:Pl.many m;·go_enter Tryz.func51,Tryz.ntmps51;go_wp2_with(go_at_call 85;refine(Fo _ m _ ?_ ?_).mono ?_;exact hv'.out;exact hb'.out;rintro e w'⟨rfl,rfl⟩);go_loopw[11](fun i wr=>∃k:Nat,k<=m.length∧i=.int .i64 k∧(m.take k).any Pl.uK=false∧Up w' wr)(fun i _=>m.length-(intOf i).toNat);(case atStart=>exact⟨0,aD _,rfl,rfl,Up.refl _⟩);case round=>obtain⟨k,hk,rfl,xJ,qC⟩:=hrel;by_cases hlt:k<m.length;{obtain⟨l,hl⟩:=Pl.jQ hlt;obtain⟨b,u,rfl,hc,hu⟩:=hm k l hl;have hc':=qC.cell hc;have FW:=jO (hu.up qC);have e1:=jO (Pl.kM Pl.uK hl);have HR:=jO hl;have Fp:=jO xJ;have Ws:=jO qC;have hm':=jO hm;clear hl xJ qC hc hu hm;have B1:=jO (hb'.out.poly l (Pl.jP HR.out));have B2:=jO (hb'.out.ring l (Pl.jP HR.out));cases hbl:Pl.uK l;{have Il:=jO hbl;go_wp2_with(go_at_call 86;refine(Bv _ l _ ?_ ?_ ?_).mono ?_;exact FW.out;exact B1.out;exact B2.out;rintro e w'⟨rfl,nq,rfl⟩;rw[Il.out]);go_roundw;(case rel=>exact⟨k+1,by omega,by go_num,by rw[e1.out,Fp.out,Il.out];rfl,Ws.out.drewN _⟩);case measure=>simp[intOf];omega};·have Il:=jO hbl;go_wp2_with(go_at_call 86;refine(Bv _ l _ ?_ ?_ ?_).mono ?_;exact FW.out;exact B1.out;exact B2.out;rintro e w'⟨rfl,nq,rfl⟩;rw[Il.out]);go_ret;exact⟨by rw[Pl.wrong,zh,Pl.lD Pl.uK HR.out Il.out];rfl,Ws.out.drewN _⟩};·have:k=m.length:=(by omega);subst this;rw[aO]at xJ;have Fp:=jO xJ;have Ws:=jO qC;clear xJ qC;go_wp2;go_loopw[20](fun i wr=>∃k:Nat,k<=m.length∧i=.int .i64 k∧(m.take k).any Pl.wA=false∧Up w' wr)(fun i _=>m.length-(intOf i).toNat);(case atStart=>exact⟨0,aD _,rfl,rfl,Ws.out⟩);case round=>obtain⟨k,hk,rfl,xJ,qC⟩:=hrel;by_cases hlt:k<m.length;{obtain⟨l,hl⟩:=Pl.jQ hlt;obtain⟨b,u,rfl,hc,hu⟩:=hm k l hl;have hc':=qC.cell hc;have FW:=jO (hu.up qC);have e1:=jO (Pl.kM Pl.wA hl);have HR:=jO hl;have hbd:=jO xJ;have Mq:=jO qC;have hm':=jO hm;clear hl xJ qC hc hu hm;have B1:=jO (hb'.out.poly l (Pl.jP HR.out));have B2:=jO (hb'.out.ring l (Pl.jP HR.out));cases hbl:Pl.wA l;{have Il:=jO hbl;go_wp2_with(go_at_call 87;refine(Ag _ l _ ?_ ?_ ?_).mono ?_;exact FW.out;exact B1.out;exact B2.out;rintro e w2⟨rfl,Uc⟩;rw[Il.out];replace Uc:=jO Uc);go_roundw;(case rel=>exact⟨k+1,by omega,by go_num,by rw[e1.out,hbd.out,Il.out];rfl,Mq.out.trans Uc.out⟩);case measure=>simp[intOf];omega};·have Il:=jO hbl;go_wp2_with(go_at_call 87;refine(Ag _ l _ ?_ ?_ ?_).mono ?_;exact FW.out;exact B1.out;exact B2.out;rintro e w2⟨rfl,Uc⟩;rw[Il.out];replace Uc:=jO Uc);go_ret;exact⟨by rw[Pl.wrong,zh,Fp.out,Pl.lD Pl.wA HR.out Il.out];rfl,Mq.out.trans Uc.out⟩};·have:k=m.length:=(by omega);subst this;rw[aO]at xJ;have hbd:=jO xJ;have Mq:=jO qC;clear xJ qC;go_wp2;go_ret;exact⟨by rw[Pl.wrong,zh,Fp.out,hbd.out];rfl,Mq.out⟩
 ·go_enter Tryz.func51,Tryz.ntmps51;go_wp2_with(go_at_call 85;refine(Fo _ m _ ?_ ?_).mono ?_;exact hv'.out;exact hb'.out;rintro e w'⟨rfl,rfl⟩);go_ret;exact⟨by rw[Pl.wrong,zh];rfl,Up.refl _⟩
end Go.Proofs.YtcclepohmhdpbaaGreatDoor
