import Derived.Test.YtcclepohmhdpbaaGreatDoorGfC
import Derived.WalkKit
import Derived.WalkSpells
import Derived.Deep.OwnRows
import Derived.Deep.Draws
import Derived.Deep.QuietTactic
import Derived.BigQuiet
import Derived.Deep.LoopGhost
import Derived.Laws.CopyOwn
import Derived.Deep.AppendLies
import Derived.Deep.RegionLaw
import Derived.Deep.RegionHeld3
import Derived.Test.YtcclepohmhdpbaaGreatDoorProg
import Derived.WalkLawsBesides
set_option maxHeartbeats 1000000
set_option maxRecDepth 100000
namespace Go.Proofs.YtcclepohmhdpbaaGreatDoor
set_option linter.all false
open Go.RowKit
theorem jg{p:Prop}(h:p):Hid p:=h
abbrev Up(w w':World):Prop:=Below w.heap.size w w'
theorem Up.refl(w:World):Up w w:=Below.refl _ _
theorem Up.trans{a b c:World}(h:Up a b)(k:Up b c):Up a c:=Below.trans h (Below.mono k h.size)
theorem Up.alloc{a w:World}(h:Up a w)(o:Obj):Up a (w.alloc o):=Below.alloc h h.size o
theorem Up.drew{a w:World}(h:Up a w):Up a w.drew:=Below.drew h
theorem Up.drewN{a w:World}(h:Up a w)(n:Nat):Up a (w.drewN n):=by induction n with|zero=>exact h|succ n ih=>exact Below.drew ih
theorem Up.setCell{a w:World}(h:Up a w){p:Addr}(hp:a.heap.size<=p.block)(u:Value):Up a (w.setCell p u):=Below.setCell h hp u
theorem pP{w:World}{a:Addr}{v:Value}(h:w.cell? a=some v):a.block<w.heap.size:=by
 unfold World.cell? at h;rcases bH a.block w.heap.size with g|g;{exact g};·rw[iE g]at h;simp at h
theorem Up.cell{w w':World}(h:Up w w'){a:Addr}{v:Value}(hc:w.cell? a=some v):w'.cell? a=some v:=by
 rw[Below.cell h (pP hc)];exact hc
theorem Sb{w w':World}(h:Up w w'){a:Addr}{v:Value}(hc:w.cell? a=some v):a.block≠w'.heap.size:=by
 have h1:=pP hc;have h2:=h.size;omega
def Dr(w w':World):Prop:=∃n,w'=w.drewN n
theorem Dr.refl(w:World):Dr w w:=⟨0,rfl⟩
theorem Dr.trans{a b c:World}(h:Dr a b)(k:Dr b c):Dr a c:=by
 obtain⟨n,rfl⟩:=h;obtain⟨m,rfl⟩:=k;exact⟨n+m,World.drewN_drewN _ _ _⟩
theorem Dr.n{a b:World}(h:Dr a b)(n:Nat):Dr a (b.drewN n):=h.trans ⟨n,rfl⟩
theorem Dr.up{a b:World}(h:Dr a b):Up a b:=by
 obtain⟨n,rfl⟩:=h;exact(Up.refl _).drewN n
def tH(w:World)(v:Value)(r:Ring):Prop:=∃ao cap,v=.slice ao r.length cap∧∀i p,r[i]?=some p->∃b,ao=some ⟨b,0,none⟩∧w.cell? ⟨b,i*2,none⟩=some (.int .i64 p.1)∧w.cell? ⟨b,i*2+1,none⟩=some (.int .i64 p.2)
def td(w:World)(v:Value)(l:Poly):Prop:=∃ao cap,v=.slice ao l.length cap∧∀i r,l[i]?=some r->∃b u,ao=some ⟨b,0,none⟩∧w.cell? ⟨b,i,none⟩=some u∧tH w u r
def pR(w:World)(v:Value)(m:jy):Prop:=∃ao cap,v=.slice ao m.length cap∧∀i l,m[i]?=some l->∃b u,ao=some ⟨b,0,none⟩∧w.cell? ⟨b,i,none⟩=some u∧td w u l
theorem tH.up{w w':World}{v:Value}{r:Ring}(h:tH w v r)(k:Up w w'):tH w' v r:=by
 obtain⟨ao,cap,e,h⟩:=h;exact⟨ao,cap,e,fun i p hp=>by obtain⟨b,e1,e2,e3⟩:=h i p hp;exact⟨b,e1,k.cell e2,k.cell e3⟩⟩
theorem td.up{w w':World}{v:Value}{l:Poly}(h:td w v l)(k:Up w w'):td w' v l:=by
 obtain⟨ao,cap,e,h⟩:=h;exact⟨ao,cap,e,fun i p hp=>by obtain⟨b,u,e1,e2,e3⟩:=h i p hp;exact⟨b,u,e1,k.cell e2,e3.up k⟩⟩
theorem pR.up{w w':World}{v:Value}{m:jy}(h:pR w v m)(k:Up w w'):pR w' v m:=by
 obtain⟨ao,cap,e,h⟩:=h;exact⟨ao,cap,e,fun i p hp=>by obtain⟨b,u,e1,e2,e3⟩:=h i p hp;exact⟨b,u,e1,k.cell e2,e3.up k⟩⟩
end Go.Proofs.YtcclepohmhdpbaaGreatDoor
namespace Go.Proofs.YtcclepohmhdpbaaGreatDoor
set_option linter.all false
open Go.RowKit Go.Deep
def flat(r:Ring):List Value:=r.flatMap fun p=>[.int .i64 p.1,.int .i64 p.2]
theorem XD:flat []=[]:=rfl
theorem rH(p:jk)(r:Ring):flat (p::r)=.int .i64 p.1::.int .i64 p.2::flat r:=rfl
theorem mG(a b:Ring):flat (a++b)=flat a++flat b:=by simp[flat]
theorem lE(r:Ring):(flat r).length=r.length*2:=by induction r with|nil=>rfl|cons p r ih=>rw[rH];simp only[aX,ih];omega
theorem Bm(r:Ring):∀v∈flat r,v.oneCell'=true:=by
 intro v hv;obtain⟨p,_,hp⟩:=bQ.1 hv;simp at hp;rcases hp with rfl|rfl<;>rfl
theorem qD(r:Ring):∀(i:Nat)(p:jk),r[i]?=some p->(flat r)[i*2]?=some (.int .i64 p.1)∧(flat r)[i*2+1]?=some (.int .i64 p.2):=by induction r with|nil=>intro i p h;simp at h|cons q r ih=>intro i p h;cases i with|zero=>simp at h;subst h;exact⟨rfl,rfl⟩|succ i=>have:=ih i p (by simpa using h);rw[rH];have e1:(i+1)*2=i*2+1+1:=(by omega);rw[e1];exact⟨by simpa using this.1,by simpa using this.2⟩
theorem My(r:Ring):∀(i:Nat)(p:jk),flat (r.set i p)=((flat r).set (i*2) (.int .i64 p.1)).set (i*2+1) (.int .i64 p.2):=by induction r with|nil=>intro i p;rfl|cons q r ih=>intro i p;cases i with|zero=>rfl|succ i=>have e1:(i+1)*2=i*2+1+1:=(by omega);rw[e1,List.set_cons_succ,rH,rH,ih];rfl
def jr(w:World)(b:Nat)(t:TypeId)(vs:List Value):Prop:=w.heap[b]?=some (.cells vs.toArray t (0,0))
def nX(w:World)(b:Nat)(r:Ring):Prop:=jr w b 32 (flat r)
theorem jr.lt{w:World}{b:Nat}{t:TypeId}{vs:List Value}(h:jr w b t vs):b<w.heap.size:=(Array.getElem?_eq_some_iff.1 h).1
theorem jr.cell{w:World}{b:Nat}{t:TypeId}{vs:List Value}(h:jr w b t vs){i:Nat}{v:Value}(hi:vs[i]?=some v):w.cell? ⟨b,i,none⟩=some v:=by
 unfold jr at h;simp[World.cell?,h,hi]
theorem jr.frozen{w:World}{b:Nat}{t:TypeId}{vs:List Value}(h:jr w b t vs)(i:Nat):w.frozen? ⟨b,i,none⟩=false:=by
 unfold jr at h;simp[World.frozen?,h]
theorem jr.of_block{w w':World}{b:Nat}{t:TypeId}{vs:List Value}(h:jr w b t vs)(e:w'.heap[b]?=w.heap[b]?):jr w' b t vs:=e.trans h
theorem jr.alloc{w:World}{b:Nat}{t:TypeId}{vs:List Value}(h:jr w b t vs)(o:Obj):jr (w.alloc o) b t vs:=h.of_block (Below.heap_alloc _ _ _ h.lt)
theorem jr.new(w:World)(vs:List Value)(t:TypeId):jr (w.alloc (.cells vs.toArray t)) w.heap.size t vs:=heap_alloc_new w _
theorem jr.set{w:World}{b:Nat}{t:TypeId}{vs:List Value}(h:jr w b t vs)(i:Nat)(v:Value):jr (w.setCell ⟨b,i,none⟩ v) b t (vs.set i v):=by
 unfold jr at*;simp[World.setCell,iL,h]
theorem jr.setOther{w:World}{b:Nat}{t:TypeId}{vs:List Value}(h:jr w b t vs){a:Addr}(ha:b≠a.block)(v:Value):jr (w.setCell a v) b t vs:=h.of_block (Below.heap_setCell _ _ _ _ ha)
theorem jr.drewN{w:World}{b:Nat}{t:TypeId}{vs:List Value}(h:jr w b t vs)(n:Nat):jr (w.drewN n) b t vs:=h
theorem nX.cells{w:World}{b:Nat}{r:Ring}(h:nX w b r){i:Nat}{p:jk}(hi:r[i]?=some p):w.cell? ⟨b,i*2,none⟩=some (.int .i64 p.1)∧w.cell? ⟨b,i*2+1,none⟩=some (.int .i64 p.2):=⟨jr.cell h (qD r i p hi).1,jr.cell h (qD r i p hi).2⟩
theorem nX.set{w:World}{b:Nat}{r:Ring}(h:nX w b r)(i:Nat)(p:jk):nX ((w.setCell ⟨b,i*2,none⟩ (.int .i64 p.1)).setCell ⟨b,i*2+1,none⟩ (.int .i64 p.2)) b (r.set i p):=by
 unfold nX;rw[My];exact(jr.set h _ _).set _ _
structure D1 where
 b:Nat
 r:Ring
 s:Ring
structure D2 where
 b:Nat
 rs:List D1
 s:List D1
structure D3 where
 b:Nat
 ps:List D2
 s:List D2
def D1.v(d:D1):Value:=.slice (some ⟨d.b,0,none⟩) d.r.length (d.r.length+d.s.length)
def D2.v(d:D2):Value:=.slice (some ⟨d.b,0,none⟩) d.rs.length (d.rs.length+d.s.length)
def D3.v(d:D3):Value:=.slice (some ⟨d.b,0,none⟩) d.ps.length (d.ps.length+d.s.length)
def D2.pts(d:D2):Poly:=d.rs.map D1.r
def D3.m(d:D3):jy:=d.ps.map D2.pts
def D2.bl(d:D2):List Nat:=d.b::(d.rs++d.s).map D1.b
def D3.bl(d:D3):List Nat:=d.b::(d.ps++d.s).flatMap D2.bl
def O7(w:World)(d:D1):Prop:=nX w d.b (d.r++d.s)
structure B7(w:World)(d:D2):Prop where
 row:jr w d.b 30 ((d.rs++d.s).map D1.v)
 sub:∀x∈d.rs++d.s,O7 w x
structure wX(w:World)(d:D3):Prop where
 row:jr w d.b 33 ((d.ps++d.s).map D2.v)
 sub:∀x∈d.ps++d.s,B7 w x
theorem O7.of{w w':World}{d:D1}(h:O7 w d)(e:w'.heap[d.b]?=w.heap[d.b]?):O7 w' d:=jr.of_block h e
theorem B7.of{w w':World}{d:D2}(h:B7 w d)(e:∀b∈d.bl,w'.heap[b]?=w.heap[b]?):B7 w' d:=⟨h.row.of_block (e _ (by simp[D2.bl])),fun x hx=>(h.sub x hx).of (e _ (by simp only[D2.bl,aE];exact .inr (aU hx)))⟩
theorem wX.of{w w':World}{d:D3}(h:wX w d)(e:∀b∈d.bl,w'.heap[b]?=w.heap[b]?):wX w' d:=⟨h.row.of_block (e _ (by simp[D3.bl])),fun x hx=>(h.sub x hx).of (fun b hb=>e b (by simp only[D3.bl,aE,bQ];exact .inr ⟨x,hx,hb⟩))⟩
theorem B7.lt{w:World}{d:D2}(h:B7 w d):∀b∈d.bl,b<w.heap.size:=by
 intro b hb;simp only[D2.bl,aE,aO]at hb;rcases hb with rfl|⟨x,hx,rfl⟩;{exact h.row.lt};·exact jr.lt (h.sub x hx)
theorem wX.lt{w:World}{d:D3}(h:wX w d):∀b∈d.bl,b<w.heap.size:=by
 intro b hb;simp only[D3.bl,aE,bQ]at hb;rcases hb with rfl|⟨x,hx,hb⟩;{exact h.row.lt};·exact(h.sub x hx).lt b hb
theorem O7.up{w w':World}{d:D1}(h:O7 w d)(k:Up w w'):O7 w' d:=h.of (k.block _ (jr.lt h))
theorem B7.up{w w':World}{d:D2}(h:B7 w d)(k:Up w w'):B7 w' d:=h.of fun b hb=>k.block _ (h.lt b hb)
theorem wX.up{w w':World}{d:D3}(h:wX w d)(k:Up w w'):wX w' d:=h.of fun b hb=>k.block _ (h.lt b hb)
theorem O7.rd{w:World}{d:D1}(h:O7 w d):tH w d.v d.r:=⟨_,_,rfl,fun i p hp=>⟨d.b,rfl,nX.cells h (by rw[aT (Pl.jo hp)];exact hp)⟩⟩
theorem B7.rd{w:World}{d:D2}(h:B7 w d):td w d.v d.pts:=by
 refine⟨_,_,by simp only[D2.v,D2.pts,aA];rfl,fun i r hr=>?_⟩;simp only[D2.pts,aB,bI]at hr;obtain⟨x,hx,rfl⟩:=hr;have hx':(d.rs++d.s)[i]?=some x:=(by rw[aT (Pl.jo hx)];exact hx);exact⟨d.b,x.v,rfl,h.row.cell (by simp only[aB,hx'];rfl),(h.sub x (Pl.jh hx')).rd⟩
theorem wX.rd{w:World}{d:D3}(h:wX w d):pR w d.v d.m:=by
 refine⟨_,_,by simp only[D3.v,D3.m,aA];rfl,fun i r hr=>?_⟩;simp only[D3.m,aB,bI]at hr;obtain⟨x,hx,rfl⟩:=hr;have hx':(d.ps++d.s)[i]?=some x:=(by rw[aT (Pl.jo hx)];exact hx);exact⟨d.b,x.v,rfl,h.row.cell (by simp only[aB,hx'];rfl),(h.sub x (Pl.jh hx')).rd⟩
theorem Bo(w:World)(c c':Array Value)(t:TypeId):(w.alloc (.cells c t)).setRow w.heap.size c'=w.alloc (.cells c' t):=by
 show({w with heap:=(w.heap.push (.cells c t)).modify w.heap.size _}:World)={w with heap:=w.heap.push (.cells c' t)};congr 1;apply Array.ext_getElem?;intro k;rw[iL,Array.getElem?_push,Array.getElem?_push];by_cases hk:w.heap.size=k;{subst hk;simp};·have hk':¬k=w.heap.size:=fun e=>hk e.symm;simp[hk,hk']
theorem Bp{P:Program}(w:World)(dT sT ty elem:TypeId)(g dLen dCap:Nat)(ao:Option Addr)(sCap:Nat)(t:TypeId)(cur:List Value)(r:Ring)(hu:P.underlying dT=some (.slice elem))(hs:(P.info? elem).map (·.size)=some 2)(hg:w.heap[g]?=some (.cells cur.toArray t (0,0)))(hn:r.length<=dLen)(hsrc:∀i p,r[i]?=some p->∃b,ao=some ⟨b,0,none⟩∧w.cell? ⟨b,i*2,none⟩=some (.int .i64 p.1)∧w.cell? ⟨b,i*2+1,none⟩=some (.int .i64 p.2))(hfit:r.length*2<=cur.length):(Builtin.copy_ #[dT,sT] ty #[.slice (some ⟨g,0,none⟩) dLen dCap,.slice ao r.length sCap]).run P w=.ok (goInt r.length) (w.setRow g (flat r++cur.drop (r.length*2)).toArray):=by
 have hst:=run_storeCells_at P g 0 t (flat r) 0 cur.toArray w hg (by simpa[lE]using hfit) (Bm r);simp only[cL,gH,cK,lE]at hst;have hmin:Nat.min r.length dLen=r.length:=gq hn;cases hq:P.info? elem with|none=>simp[hq]at hs|some i=>have hi:i.size=2:=(by simpa[hq]using hs);cases hr:r with|nil=>subst hr;simp only[XD,cK,cF,Nat.zero_mul,List.drop_zero]at hst⊢;(cases ao with|none=>simp[Builtin.copy_,run_underlying hu,Builtin.lenOf,Builtin.firstCells,sizeOf,typeInfo,hq,hi,storeCells,setRow_self w g cur.toArray t (0,0) hg]|some a=>have hl:=run_loadCells_list (P:=P) w a [] (by intro j v h;simp at h);simp only[cF]at hl;simp[Builtin.copy_,run_underlying hu,Builtin.lenOf,Builtin.firstCells,sizeOf,typeInfo,hq,hi,storeCells,hl,setRow_self w g cur.toArray t (0,0) hg])|cons p0 r0=>obtain⟨b,rfl,_⟩:=hsrc 0 p0 (by rw[hr];rfl);have hl:=run_loadCells_list (P:=P) w ⟨b,0,none⟩ (flat r) (by intro j v hj;have hjl:j<r.length*2:=(by have:=Pl.jo hj;rwa[lE]at this);obtain⟨p,hp⟩:=Pl.ji (l:=r) (k:=j/2) (by omega);obtain⟨b',hb',e1,e2⟩:=hsrc _ p hp;cases hb';have hf:=qD r _ p hp;have XE:(⟨b,0,none⟩:Addr).add j=⟨b,j,none⟩:=(by unfold Addr.add;split<;>simp_all);rw[XE];rcases gO j with h2|h2;{rw[show j/2*2=j by omega]at hf e1;rw[hf.1]at hj;cases hj;exact e1};·rw[show j/2*2+1=j by omega]at hf e2;rw[hf.2]at hj;cases hj;exact e2);rw[lE]at hl;rw[←hr];simp[Builtin.copy_,run_underlying hu,Builtin.lenOf,Builtin.firstCells,sizeOf,typeInfo,hq,hi,hmin,hl,hst,lE]
structure Fr(S:Nat->Prop)(w w':World):Prop where
 os:w'.os=w.os
 tape:w'.tape=w.tape
 output:w'.output=w.output
 size:w.heap.size<=w'.heap.size
 block:∀b,b<w.heap.size->¬S b->w'.heap[b]?=w.heap[b]?
theorem Fr.refl(S:Nat->Prop)(w:World):Fr S w w:=⟨rfl,rfl,rfl,bA _,fun _ _ _=>rfl⟩
theorem Fr.trans{S:Nat->Prop}{a b c:World}(h:Fr S a b)(k:Fr S b c):Fr S a c:=⟨k.os.trans h.os,k.tape.trans h.tape,k.output.trans h.output,cg h.size k.size,fun i hi hs=>(k.block i (eG hi h.size) hs).trans (h.block i hi hs)⟩
theorem Fr.mono{S T:Nat->Prop}{a b:World}(h:Fr S a b)(k:∀x,x<a.heap.size->S x->T x):Fr T a b:=⟨h.os,h.tape,h.output,h.size,fun i hi hs=>h.block i hi (fun e=>hs (k i hi e))⟩
theorem Fr.lp{S:Nat->Prop}{a b:World}(h:Up a b):Fr S a b:=⟨h.os,h.tape,h.output,h.size,fun i hi _=>h.block i hi⟩
theorem Fr.up{S:Nat->Prop}{a b:World}(h:Fr S a b)(k:∀x,x<a.heap.size->¬S x):Up a b:=⟨h.os,h.tape,h.output,h.size,fun i hi=>h.block i hi (k i hi)⟩
theorem Fr.alloc{S:Nat->Prop}{a b:World}(h:Fr S a b)(o:Obj):Fr S a (b.alloc o):=h.trans (Fr.lp ((Up.refl _).alloc o))
theorem Fr.drewN{S:Nat->Prop}{a b:World}(h:Fr S a b)(n:Nat):Fr S a (b.drewN n):=h.trans (Fr.lp ((Up.refl _).drewN n))
theorem Fr.drew{S:Nat->Prop}{a b:World}(h:Fr S a b):Fr S a b.drew:=h.trans (Fr.lp (Up.refl _).drew)
theorem Fr.setCell{S:Nat->Prop}{a b:World}(h:Fr S a b){p:Addr}(hp:S p.block)(u:Value):Fr S a (b.setCell p u):=h.trans ⟨rfl,rfl,rfl,by simp[World.setCell],fun k _ hs=>Below.heap_setCell _ _ _ _ (fun e=>hs (e▸hp))⟩
theorem Fr.grown{S:Nat->Prop}{a b c:World}(h:Fr S a b){row:Option Nat}(hg:b.grownBy c row)(hr:∀k,row=some k->S k∨a.heap.size<=k):Fr S a c:=⟨hg.os.trans h.os,hg.tape.trans h.tape,hg.output.trans h.output,cg h.size hg.size,fun i hi hs=>(hg.block i (eG hi h.size) (fun e=>by rcases hr i e.symm with h1|h1;{exact hs h1};·omega)).trans (h.block i hi hs)⟩
theorem Fr.row{S:Nat->Prop}{a c:World}(h:Fr S a c){b:Nat}{t:TypeId}{vs:List Value}(hv:jr a b t vs)(hs:¬S b):jr c b t vs:=hv.of_block (h.block b hv.lt hs)
theorem Fr.cell{S:Nat->Prop}{a c:World}(h:Fr S a c){p:Addr}{v:Value}(hv:a.cell? p=some v)(hs:¬S p.block):c.cell? p=some v:=(World.cell?_of_block (h.block _ (pP hv) hs)).trans hv
theorem Fr.ok1{S:Nat->Prop}{a c:World}(h:Fr S a c){d:D1}(hv:O7 a d)(hs:¬S d.b):O7 c d:=h.row hv hs
theorem Fr.ok2{S:Nat->Prop}{a c:World}(h:Fr S a c){d:D2}(hv:B7 a d)(hs:∀b∈d.bl,¬S b):B7 c d:=hv.of fun b hb=>h.block b (hv.lt b hb) (hs b hb)
theorem Fr.ok3{S:Nat->Prop}{a c:World}(h:Fr S a c){d:D3}(hv:wX a d)(hs:∀b∈d.bl,¬S b):wX c d:=hv.of fun b hb=>h.block b (hv.lt b hb) (hs b hb)
def RF1(F:Nat->Prop)(w:World)(v:Value)(r:Ring):Prop:=∃ao cap,v=.slice ao r.length cap∧∀i p,r[i]?=some p->∃b,F b∧ao=some ⟨b,0,none⟩∧w.cell? ⟨b,i*2,none⟩=some (.int .i64 p.1)∧w.cell? ⟨b,i*2+1,none⟩=some (.int .i64 p.2)
def RF2(F:Nat->Prop)(w:World)(v:Value)(l:Poly):Prop:=∃ao cap,v=.slice ao l.length cap∧∀i r,l[i]?=some r->∃b u,F b∧ao=some ⟨b,0,none⟩∧w.cell? ⟨b,i,none⟩=some u∧RF1 F w u r
def RF3(F:Nat->Prop)(w:World)(v:Value)(m:jy):Prop:=∃ao cap,v=.slice ao m.length cap∧∀i l,m[i]?=some l->∃b u,F b∧ao=some ⟨b,0,none⟩∧w.cell? ⟨b,i,none⟩=some u∧RF2 F w u l
theorem RF1.keep{F F':Nat->Prop}{S:Nat->Prop}{w w':World}{v:Value}{r:Ring}(h:RF1 F w v r)(k:Fr S w w')(hF:∀b,b<w.heap.size->F b->F' b∧¬S b):RF1 F' w' v r:=by
 obtain⟨ao,cap,e,h⟩:=h;refine⟨ao,cap,e,fun i p hp=>?_⟩;obtain⟨b,f,e1,e2,e3⟩:=h i p hp;obtain⟨g1,g2⟩:=hF b (pP e2) f;exact⟨b,g1,e1,k.cell e2 g2,k.cell e3 g2⟩
theorem RF2.keep{F F':Nat->Prop}{S:Nat->Prop}{w w':World}{v:Value}{l:Poly}(h:RF2 F w v l)(k:Fr S w w')(hF:∀b,b<w.heap.size->F b->F' b∧¬S b):RF2 F' w' v l:=by
 obtain⟨ao,cap,e,h⟩:=h;refine⟨ao,cap,e,fun i p hp=>?_⟩;obtain⟨b,u,f,e1,e2,e3⟩:=h i p hp;obtain⟨g1,g2⟩:=hF b (pP e2) f;exact⟨b,u,g1,e1,k.cell e2 g2,e3.keep k hF⟩
theorem RF3.keep{F F':Nat->Prop}{S:Nat->Prop}{w w':World}{v:Value}{m:jy}(h:RF3 F w v m)(k:Fr S w w')(hF:∀b,b<w.heap.size->F b->F' b∧¬S b):RF3 F' w' v m:=by
 obtain⟨ao,cap,e,h⟩:=h;refine⟨ao,cap,e,fun i p hp=>?_⟩;obtain⟨b,u,f,e1,e2,e3⟩:=h i p hp;obtain⟨g1,g2⟩:=hF b (pP e2) f;exact⟨b,u,g1,e1,k.cell e2 g2,e3.keep k hF⟩
def WR(w:World)(b:Nat)(ps l out:Value)(mk:Int):Prop:=jr w b 38 [ps,l,out,.int .i64 mk]
theorem WR.mark{w:World}{b:Nat}{ps l out:Value}{mk:Int}(h:WR w b ps l out mk)(n:Int):WR (w.setCell ⟨b,3,none⟩ (.int .i64 n)) b ps l out n:=jr.set h 3 _
theorem WR.c0{w:World}{b:Nat}{ps l out:Value}{mk:Int}(h:WR w b ps l out mk):w.cell? ⟨b,0,none⟩=some ps:=jr.cell h rfl
theorem WR.c2{w:World}{b:Nat}{ps l out:Value}{mk:Int}(h:WR w b ps l out mk):w.cell? ⟨b,2,none⟩=some out:=jr.cell h rfl
theorem WR.c3{w:World}{b:Nat}{ps l out:Value}{mk:Int}(h:WR w b ps l out mk):w.cell? ⟨b,3,none⟩=some (.int .i64 mk):=jr.cell h rfl
structure Elem(P:Program)(t e:TypeId)(z:Value)(size bytes:Nat):Prop where
 und:P.underlying t=some (.slice e)
 info:(P.info? e).map (fun i=>(i.zero,i.size,i.bytes))=some (some z,size,bytes)
 zs:z.cells.size=size
 pos:0<size
 small:bytes<=4096
theorem yl{P:Program}{t e:TypeId}{z:Value}{size bytes:Nat}(E0:Elem P t e z size bytes){ops:Array Oper}{o:Oper}{a:Act}{w:World}{K:Act->World->Prop}{Q:Exit->Act->World->Prop}{E:Prop}(hgd:o.guard=none)(s x:Operand)(ho:o.op=.call {callee:=.builtin .append,args:=#[s,x],argTypes:=#[t,t]})(base:Nat)(v:Value)(n:Nat)(xs:List Value)(hs:a.eval s=v)(hown:w.ownsRow base e size v n xs)(g0:Nat)(news:List Value)(hx:a.eval x=.slice (some ⟨g0,0,none⟩) 1 1)(hl:news.length=size)(XF:w.heap[g0]?=some (.cells news.toArray e (0,0)))(h1:∀u∈news,u.oneCell'=true)(hn:n<=1073741824)(hbase:base<=w.heap.size)(h:∀g cap w',w'.ownsRow base e size (.slice (some ⟨g,0,none⟩) (n+1) cap) (n+1) (xs++news)->w.grownBy w' v.ownBlock->(v.ownBlock=some g∨g=w.heap.size)->g<w'.heap.size->K (a.put o.dst (.slice (some ⟨g,0,none⟩) (n+1) cap)) w'):if Region.wanted o (yielded ops a.tmps)=true then Oper.wp P o a w K Q else E:=by
 obtain⟨i,hi,TT⟩:=bI.1 E0.info;simp only[dF]at TT;obtain⟨z1,z2,z3⟩:=TT;refine step_append_lies w hgd s x t ho base e i z size bytes E0.und hi z1 z2 z3 E0.zs E0.pos v n xs hs hown ⟨g0,0,none⟩ 1 1 news hx (by omega) ?_ h1 (by omega) (by unfold maxLen;omega) ?_ hbase w.heap.size rfl h;{have:=World.news_of_block XF;simpa using this};·have:=E0.small;have h2:(n+1)*bytes<=(n+1)*4096:=gW _ this;omega
theorem kg{P:Program}{t e:TypeId}{z:Value}{size bytes:Nat}(E0:Elem P t e z size bytes){ops:Array Oper}{rest:List Oper}{o:Oper}{a:Act}{w:World}{Q:Exit->Act->World->Prop}(hgd:o.guard=none)(s x:Operand)(ho:o.op=.call {callee:=.builtin .append,args:=#[s,x],argTypes:=#[t,t]})(base:Nat)(v:Value)(n:Nat)(xs:List Value)(hs:a.eval s=v)(hown:w.ownsRow base e size v n xs)(g0:Nat)(news:List Value)(hx:a.eval x=.slice (some ⟨g0,0,none⟩) 1 1)(hl:news.length=size)(XF:w.heap[g0]?=some (.cells news.toArray e (0,0)))(h1:∀u∈news,u.oneCell'=true)(hn:n<=1073741824)(hbase:base<=w.heap.size)(h:∀g cap w',w'.ownsRow base e size (.slice (some ⟨g,0,none⟩) (n+1) cap) (n+1) (xs++news)->w.grownBy w' v.ownBlock->(v.ownBlock=some g∨g=w.heap.size)->g<w'.heap.size->wpList P ops Q rest (a.put o.dst (.slice (some ⟨g,0,none⟩) (n+1) cap)) w'):wpList P ops Q (o::rest) a w:=by
 obtain⟨i,hi,TT⟩:=bI.1 E0.info;simp only[dF]at TT;obtain⟨z1,z2,z3⟩:=TT;refine wpList_append_lies w hgd s x t ho base e i z size bytes E0.und hi z1 z2 z3 E0.zs E0.pos v n xs hs hown ⟨g0,0,none⟩ 1 1 news hx (by omega) ?_ h1 (by omega) (by unfold maxLen;omega) ?_ hbase w.heap.size rfl h;{have:=World.news_of_block XF;simpa using this};·have:=E0.small;have h2:(n+1)*bytes<=(n+1)*4096:=gW _ this;omega
theorem qp{w:World}{base:Nat}{e:TypeId}{size:Nat}{v:Value}{n:Nat}{xs:List Value}(h:w.ownsRow base e size v n xs){g:Nat}(hg:v.ownBlock=some g):∃cur,w.heap[g]?=some (.cells cur e (0,0)):=by
 rcases h.2 with⟨rfl,_⟩|⟨g',cap,cur,rfl,_,hh,_⟩;{cases hg};·cases hg;exact⟨cur,hh⟩
theorem lU{w:World}{base base':Nat}{e e':TypeId}{size size':Nat}{v v':Value}{n n':Nat}{xs xs':List Value}(h:w.ownsRow base e size v n xs)(h':w.ownsRow base' e' size' v' n' xs')(he:e≠e'):v.ownBlock=none∨v.ownBlock≠v'.ownBlock:=by cases hv:v.ownBlock with|none=>exact .inl rfl|some g=>refine .inr fun e2=>?_;obtain⟨c,hc⟩:=qp h hv;obtain⟨c',hc'⟩:=qp h' e2.symm;rw[hc]at hc';simp at hc';exact he hc'.2
theorem jz{w:World}{base:Nat}{e:TypeId}{size:Nat}{v:Value}{n:Nat}{xs:List Value}(h:w.ownsRow base e size v n xs){b:Nat}{t:TypeId}{vs:List Value}(hb:jr w b t vs)(he:e≠t):v.ownBlock≠some b:=by
 intro e2;obtain⟨c,hc⟩:=qp h e2;unfold jr at hb;rw[hb]at hc;simp at hc;exact he hc.2.symm
theorem lO{w w':World}{base:Nat}{e:TypeId}{size:Nat}{v:Value}{n:Nat}{xs:List Value}(h:w.ownsRow base e size v n xs)(k:∀g,v.ownBlock=some g->w'.heap[g]?=w.heap[g]?):w'.ownsRow base e size v n xs:=by
 refine⟨h.1,?_⟩;rcases h.2 with h2|⟨g,cap,cur,rfl,hb,hh,r⟩;{exact .inl h2};·exact .inr ⟨g,cap,cur,rfl,hb,(k g rfl).trans hh,r⟩
theorem jJ{w:World}{base:Nat}{e:TypeId}{size:Nat}{v:Value}{n:Nat}{xs:List Value}(h:w.ownsRow base e size v n xs){g:Nat}(hg:v.ownBlock=some g):base<=g∧g<w.heap.size:=h.lt g hg
theorem kE{w:World}{base:Nat}{e:TypeId}{size:Nat}{v:Value}{n:Nat}{xs:List Value}(h:w.ownsRow base e size v n xs){a:Addr}(ha:v.ownBlock≠some a.block)(u:Value):(w.setCell a u).ownsRow base e size v n xs:=lO h fun g hg=>Below.heap_setCell _ _ _ _ (fun e=>ha (e▸hg))
theorem kL{w w':World}{base:Nat}{e:TypeId}{size:Nat}{v:Value}{n:Nat}{xs:List Value}(h:w.ownsRow base e size v n xs)(k:Up w w'):w'.ownsRow base e size v n xs:=lO h fun g hg=>k.block g (jJ h hg).2
theorem uf{S:Nat->Prop}{w w':World}{base:Nat}{e:TypeId}{size:Nat}{v:Value}{n:Nat}{xs:List Value}(h:w.ownsRow base e size v n xs)(k:Fr S w w')(hs:∀g,v.ownBlock=some g->¬S g):w'.ownsRow base e size v n xs:=lO h fun g hg=>k.block g (jJ h hg).2 (hs g hg)
theorem ug{w:World}{base base':Nat}{e:TypeId}{size:Nat}{v:Value}{n:Nat}{xs:List Value}(h:w.ownsRow base e size v n xs)(hb:base'<=base):w.ownsRow base' e size v n xs:=by
 refine⟨h.1,?_⟩;rcases h.2 with h2|⟨g,cap,cur,rfl,zJ,r⟩;{exact .inl h2};·exact .inr ⟨g,cap,cur,rfl,by omega,r⟩
theorem jr.grown{w w':World}{row:Option Nat}{b:Nat}{t:TypeId}{vs:List Value}(h:jr w b t vs)(hg:w.grownBy w' row)(hne:row≠some b):jr w' b t vs:=h.of_block (hg.block b h.lt (fun e=>hne e.symm))
theorem CH(x:Int)(w:World):Calls Tryz.prog 120 #[.int .i64 x] w fun e w'=>e=.returned (.bool (Pl.vW x))∧w'=w:=by
 have:Pl.vW x=(decide (32768<x)||decide (x< -32768)):=rfl;by_cases h1:32768<x;{go_enter Tryz.func120,Tryz.ntmps120;go_wp2;go_ret;exact⟨by simp[Pl.vW,h1],rfl⟩};·by_cases h2:x< -32768;all_goals go_enter Tryz.func120,Tryz.ntmps120;go_wp2;go_ret;exact⟨by simp[Pl.vW,h1,h2],rfl⟩
theorem oM{a b:Bool}(h:a=b):Ending.returned (.bool a)=.returned (.bool b):=by rw[h]
theorem Du(v:Value)(m:jy)(w:World)(hv:pR w v m)(hb:Pl.Bd m):Calls Tryz.prog 85 #[v] w fun e w'=>e=.returned (.bool (Pl.many m))∧w'=w:=by
 obtain⟨ao,cap,rfl,hm⟩:=hv;have hlen:=hb.len;by_cases h8:8<m.length;{go_enter Tryz.func85,Tryz.ntmps85;go_wp2;go_ret;exact⟨oM (by simp[Pl.many,h8]),rfl⟩};·go_enter Tryz.func85,Tryz.ntmps85;go_wp2;go_loop[3,4,14](fun rc pc i=>∃k:Nat,k<=m.length∧i=.int .i64 k∧rc=.int .i64 (Pl.nR (m.take k):Nat)∧pc=.int .i64 (Pl.nP (m.take k):Nat)∧Pl.nR (m.take k)<=12∧Pl.nP (m.take k)<=100)(fun _ _ i=>m.length-(intOf i).toNat);(case atStart=>exact⟨0,au _,rfl,rfl,rfl,by simp[Pl.nR],by simp[Pl.nP]⟩);case round=>obtain⟨k,hk,rfl,rfl,rfl,h12,aeq⟩:=hrel;by_cases hlt:k<m.length;{obtain⟨l,hl⟩:=Pl.ji hlt;obtain⟨b,u,rfl,hc,sR,lQ,rfl,hr⟩:=hm k l hl;have VF:=hb.poly l (Pl.jh hl);have hrr:=hb.ring l (Pl.jh hl);have eR:Hid (Pl.nR (m.take (k+1))=Pl.nR (m.take k)+l.length):=Pl.QO hl;have eP:Hid (Pl.nP (m.take (k+1))=Pl.nP (m.take k)+Pl.xj l):=Pl.QS hl;have gR:=Pl.agF m (k+1);have gP:=Pl.agG m (k+1);have HL:Hid (m[k]?=some l):=hl;have hm':=jg hm;clear hl hm;generalize hrc:Pl.nR (m.take k)=rc at*;generalize O8:Pl.nP (m.take k)=pc at*;have Hrc:Hid (Pl.nR (m.take k)=rc):=hrc;have Hpc:Hid (Pl.nP (m.take k)=pc):=O8;clear hrc O8;by_cases g12:12<rc+l.length;{go_wp2;go_ret;exact⟨oM (by have:=eR.out;simp[Pl.many];omega),rfl⟩};·go_wp2;go_loop[4,26](fun p j=>∃q:Nat,q<=l.length∧j=.int .i64 q∧p=.int .i64 (pc+Pl.xj (l.take q):Nat)∧pc+Pl.xj (l.take q)<=100)(fun _ j=>l.length-(intOf j).toNat);(case atStart=>exact⟨0,au _,rfl,by simp[Pl.xj],by simpa[Pl.xj]using aeq⟩);case round=>obtain⟨q,hq,rfl,rfl,ahl⟩:=hrel;by_cases nO:q<l.length;{obtain⟨r,uO⟩:=Pl.ji nO;obtain⟨b2,u2,rfl,rq,XG,CJ,rfl,hp⟩:=hr q r uO;have hrl:=hrr r (Pl.jh uO);have eQ:Hid (Pl.xj (l.take (q+1))=Pl.xj (l.take q)+r.length):=Pl.K8 uO;have gQ:=Pl.adC l (q+1);have hr':=jg hr;have aqK:=jg hrr;clear hr uO hp hrr;generalize hx:Pl.xj (l.take q)=x at*;have Hx:Hid (Pl.xj (l.take q)=x):=hx;clear hx;by_cases aqL:100<pc+x+r.length;{go_wp2;go_ret;exact⟨oM (by have:=eQ.out;have:=eP.out;simp[Pl.many];omega),rfl⟩};·go_wp2;go_round;(case rel=>exact⟨q+1,by omega,by go_num,by rw[eQ.out];go_num,by rw[eQ.out];omega⟩);case measure=>simp[intOf];omega};·have:q=l.length:=(by omega);subst this;go_wp2;go_round;(case rel=>exact⟨k+1,by omega,by go_num,by rw[eR.out];go_num,by rw[eP.out];simp,by rw[eR.out];omega,by rw[eP.out];simpa using ahl⟩);case measure=>simp[intOf];omega};·have:k=m.length:=(by omega);subst this;go_wp2;go_ret;exact⟨oM (by simp[Pl.many]at*;omega),rfl⟩
theorem zK(v:Value)(l:Poly)(w:World)(hv:td w v l)(hb:l.length<=1048576)(zJ:∀r∈l,r.length<=1048576):Calls Tryz.prog 86 #[v] w fun e w'=>e=.returned (.bool (Pl.rZ l))∧∃n,w'=w.drewN n:=by
 obtain⟨ao,cap,rfl,hm⟩:=hv;by_cases h0:l.length=0;{go_enter Tryz.func86,Tryz.ntmps86;go_wp2;go_ret;exact⟨oM (by simp[Pl.rZ,List.length_eq_zero_iff.1 h0]),0,rfl⟩};·have h0':((l.length:Int)==0)=false:=aj.2 (by omega);go_enter Tryz.func86,Tryz.ntmps86;go_wp2;go_loopw[10](fun i wr=>∃k:Nat,k<=l.length∧i=.int .i64 k∧(l.take k).any Pl.uw=false∧∃n,wr=w.drewN n)(fun i _=>l.length-(intOf i).toNat);(case atStart=>exact⟨0,au _,rfl,rfl,0,rfl⟩);case round=>obtain⟨k,hk,rfl,uZ,n,rfl⟩:=hrel;by_cases hlt:k<l.length;{obtain⟨r,hr⟩:=Pl.ji hlt;obtain⟨b,u,rfl,hc,sR,lQ,rfl,hp⟩:=hm k r hr;have hrl:=zJ r (Pl.jh hr);have e1:=jg (Pl.jL Pl.uw hr);have HR:=jg hr;have hm':=jg hm;have Dv:=jg uZ;have ahm:=jg zJ;clear hr hm uZ zJ;by_cases h4:r.length<4;{have hd:decide ((r.length:Int)<4)=true:=(by simp;omega);have hb4:Hid (Pl.uw r=true):=(by simp[Hid,Pl.uw,h4]);go_wp2;go_quiet(fail);go_wp2;go_ret;exact⟨oM (by simp[Pl.rZ,Pl.EI,Pl.kj Pl.uw HR.out hb4.out]),_,World.drewN_drewN _ _ _⟩};·have hd:decide ((r.length:Int)<4)=false:=(by simp;omega);obtain⟨p0,hp0⟩:=Pl.ji (l:=r) (k:=0) (by omega);obtain⟨p1,Ok⟩:=Pl.ji (l:=r) (k:=r.length-1) (by omega);have HB:=jg (Pl.Hg h4 hp0 Ok);obtain⟨b2,rfl,c00,c01⟩:=hp 0 p0 hp0;obtain⟨b2',e2,c10,c11⟩:=hp (r.length-1) p1 Ok;cases e2;clear hp hp0 Ok;obtain⟨x0,y0⟩:=p0;obtain⟨x1,y1⟩:=p1;dsimp only at c00 c01 c10 c11;have q0:0<r.length:=(by omega);have q1:(1:Int)<=(r.length:Int):=(by omega);rcases(show(x0=x1∧y0=y1)∨(x0≠x1)∨(x0=x1∧y0≠y1)from by omega)with⟨rfl,rfl⟩|hx|⟨rfl,hy⟩;{go_wp2;refine wp_region_quiet_lit (by kernel_rfl) (by kernel_rfl) ?_;(repeat first|go_big_quiet_step(fail)|quiet_step(fail));refine wpQuiet_nil ?_;intro _ hw';obtain⟨nq,hw''⟩:=hw';subst hw'';go_wp2;go_roundw;(case rel=>exact⟨k+1,by omega,by go_num,by rw[e1.out,Dv.out,HB.out];simp,n+nq,by simp⟩);case measure=>simp[intOf];omega};all_goals go_wp2;refine wp_region_quiet_lit (by kernel_rfl) (by kernel_rfl) ?_;(repeat first|go_big_quiet_step(fail)|quiet_step(fail));refine wpQuiet_nil ?_;intro _ hw';obtain⟨nq,hw''⟩:=hw';subst hw'';go_wp2;go_ret;exact⟨oM (by simp[Pl.rZ,Pl.EI,Pl.kj Pl.uw HR.out (by rw[HB.out];simp[*])]),_,World.drewN_drewN _ _ _⟩};·have:k=l.length:=(by omega);subst this;go_wp2;go_ret;have hne:l≠[]:=fun e=>h0 (by simp[e]);rw[aL]at uZ;exact⟨oM (by simp[Pl.rZ,Pl.EI,uZ,hne]),_,rfl⟩
theorem Kc(x y:Int):Pl.sQ (x,y)=(Pl.vW x||Pl.vW y):=rfl
theorem ym(v:Value)(l:Poly)(w:World)(hv:td w v l)(hb:l.length<=1048576)(zJ:∀r∈l,r.length<=1048576):Calls Tryz.prog 87 #[v] w fun e w'=>e=.returned (.bool (Pl.rY l))∧Up w w':=by
 obtain⟨ao,cap,rfl,hm⟩:=hv;go_enter Tryz.func87,Tryz.ntmps87;go_wp2;go_loopw[9](fun i wr=>∃k:Nat,k<=l.length∧i=.int .i64 k∧(l.take k).any Pl.xh=false∧Up w wr)(fun i _=>l.length-(intOf i).toNat);(case atStart=>exact⟨0,au _,rfl,rfl,Up.refl _⟩);case round=>obtain⟨k,hk,rfl,uZ,xB⟩:=hrel;by_cases hlt:k<l.length;{obtain⟨r,hr⟩:=Pl.ji hlt;obtain⟨b,u,rfl,hc,sR,lQ,rfl,hp⟩:=hm k r hr;have hrl:=zJ r (Pl.jh hr);have hc':=xB.cell hc;have e1:=jg (Pl.jL Pl.xh hr);have HR:=jg hr;have hm':=jg hm;have Dv:=jg uZ;have ahm:=jg zJ;have TU:=jg xB;have hp':=jg hp;clear hr hm uZ zJ xB hc hp;go_wp2;go_loopw[15](fun j wq=>∃q:Nat,q<=r.length∧j=.int .i64 q∧(r.take q).any Pl.sQ=false∧Up w wq)(fun j _=>r.length-(intOf j).toNat);(case atStart=>exact⟨0,au _,rfl,rfl,TU.out⟩);case round=>obtain⟨q,hq,rfl,hbq,huq⟩:=hrel;by_cases nO:q<r.length;{obtain⟨⟨x,y⟩,hxy⟩:=Pl.ji nO;obtain⟨b2,rfl,cx,cy⟩:=hp'.out q (x,y) hxy;have TV:=huq.cell cx;have TW:=huq.cell cy;dsimp only at TV TW;have e2:=jg (Pl.jL Pl.sQ hxy);have HXY:=jg hxy;have aes:=jg hbq;have aet:=jg huq;clear hxy hbq huq cx cy hp';cases hfx:Pl.vW x;{cases hfy:Pl.vW y;{have Rx:Hid (Pl.sQ (x,y)=false):=(by simp[Hid,Kc,hfx,hfy]);go_wp2_with(go_at_call 120;refine(CH _ _).mono ?_;rintro e w'⟨rfl,rfl⟩);go_roundw;(case rel=>exact⟨q+1,by omega,by go_num,by rw[e2.out,aes.out,Rx.out];rfl,aet.out.alloc _⟩);case measure=>simp[intOf];omega};·have Rx:Hid (Pl.sQ (x,y)=true):=(by simp[Hid,Kc,hfx,hfy]);go_wp2_with(go_at_call 120;refine(CH _ _).mono ?_;rintro e w'⟨rfl,rfl⟩);go_ret;exact⟨oM (Pl.kj Pl.xh HR.out (Pl.kj Pl.sQ HXY.out Rx.out)).symm,(aet.out.alloc _)⟩};·have Rx:Hid (Pl.sQ (x,y)=true):=(by simp[Hid,Kc,hfx]);go_wp2_with(go_at_call 120;refine(CH _ _).mono ?_;rintro e w'⟨rfl,rfl⟩);go_ret;exact⟨oM (Pl.kj Pl.xh HR.out (Pl.kj Pl.sQ HXY.out Rx.out)).symm,(aet.out.alloc _)⟩};·have:q=r.length:=(by omega);subst this;rw[aL]at hbq;have aes:=jg hbq;clear hbq;go_wp2;go_roundw;(case rel=>exact⟨k+1,by omega,by go_num,by rw[e1.out,Dv.out,show Pl.xh r=false from aes.out];rfl,huq⟩);case measure=>simp[intOf];omega};·have:k=l.length:=(by omega);subst this;go_wp2;go_ret;rw[aL]at uZ;exact⟨oM uZ.symm,xB⟩
theorem II(v:Value)(m:jy)(w:World)(hv:pR w v m)(hb:Pl.Bd m):Calls Tryz.prog 51 #[v] w fun e w'=>e=.returned (.int .i64 (Pl.wrong m))∧Up w w':=by
 have hv':=jg hv;have hb':=jg hb;obtain⟨ao,cap,rfl,hm⟩:=hv;have hlen:=hb.len;clear hb;cases uh:Pl.many m;·go_enter Tryz.func51,Tryz.ntmps51;go_wp2_with(go_at_call 85;refine(Du _ m _ ?_ ?_).mono ?_;exact hv'.out;exact hb'.out;rintro e w'⟨rfl,rfl⟩);go_loopw[11](fun i wr=>∃k:Nat,k<=m.length∧i=.int .i64 k∧(m.take k).any Pl.rZ=false∧Up w' wr)(fun i _=>m.length-(intOf i).toNat);(case atStart=>exact⟨0,au _,rfl,rfl,Up.refl _⟩);case round=>obtain⟨k,hk,rfl,uZ,xB⟩:=hrel;by_cases hlt:k<m.length;{obtain⟨l,hl⟩:=Pl.ji hlt;obtain⟨b,u,rfl,hc,hu⟩:=hm k l hl;have hc':=xB.cell hc;have Lp:=jg (hu.up xB);have e1:=jg (Pl.jL Pl.rZ hl);have HR:=jg hl;have Dv:=jg uZ;have TU:=jg xB;have hm':=jg hm;clear hl uZ xB hc hu hm;have B1:=jg (hb'.out.poly l (Pl.jh HR.out));have B2:=jg (hb'.out.ring l (Pl.jh HR.out));cases hbl:Pl.rZ l;{have FK:=jg hbl;go_wp2_with(go_at_call 86;refine(zK _ l _ ?_ ?_ ?_).mono ?_;exact Lp.out;exact B1.out;exact B2.out;rintro e w'⟨rfl,nq,rfl⟩;rw[FK.out]);go_roundw;(case rel=>exact⟨k+1,by omega,by go_num,by rw[e1.out,Dv.out,FK.out];rfl,TU.out.drewN _⟩);case measure=>simp[intOf];omega};·have FK:=jg hbl;go_wp2_with(go_at_call 86;refine(zK _ l _ ?_ ?_ ?_).mono ?_;exact Lp.out;exact B1.out;exact B2.out;rintro e w'⟨rfl,nq,rfl⟩;rw[FK.out]);go_ret;exact⟨by rw[Pl.wrong,uh,Pl.kj Pl.rZ HR.out FK.out];rfl,TU.out.drewN _⟩};·have:k=m.length:=(by omega);subst this;rw[aL]at uZ;have Dv:=jg uZ;have TU:=jg xB;clear uZ xB;go_wp2;go_loopw[20](fun i wr=>∃k:Nat,k<=m.length∧i=.int .i64 k∧(m.take k).any Pl.rY=false∧Up w' wr)(fun i _=>m.length-(intOf i).toNat);(case atStart=>exact⟨0,au _,rfl,rfl,TU.out⟩);case round=>obtain⟨k,hk,rfl,uZ,xB⟩:=hrel;by_cases hlt:k<m.length;{obtain⟨l,hl⟩:=Pl.ji hlt;obtain⟨b,u,rfl,hc,hu⟩:=hm k l hl;have hc':=xB.cell hc;have Lp:=jg (hu.up xB);have e1:=jg (Pl.jL Pl.rY hl);have HR:=jg hl;have hbd:=jg uZ;have Ke:=jg xB;have hm':=jg hm;clear hl uZ xB hc hu hm;have B1:=jg (hb'.out.poly l (Pl.jh HR.out));have B2:=jg (hb'.out.ring l (Pl.jh HR.out));cases hbl:Pl.rY l;{have FK:=jg hbl;go_wp2_with(go_at_call 87;refine(ym _ l _ ?_ ?_ ?_).mono ?_;exact Lp.out;exact B1.out;exact B2.out;rintro e w2⟨rfl,Rx⟩;rw[FK.out];replace Rx:=jg Rx);go_roundw;(case rel=>exact⟨k+1,by omega,by go_num,by rw[e1.out,hbd.out,FK.out];rfl,Ke.out.trans Rx.out⟩);case measure=>simp[intOf];omega};·have FK:=jg hbl;go_wp2_with(go_at_call 87;refine(ym _ l _ ?_ ?_ ?_).mono ?_;exact Lp.out;exact B1.out;exact B2.out;rintro e w2⟨rfl,Rx⟩;rw[FK.out];replace Rx:=jg Rx);go_ret;exact⟨by rw[Pl.wrong,uh,Dv.out,Pl.kj Pl.rY HR.out FK.out];rfl,Ke.out.trans Rx.out⟩};·have:k=m.length:=(by omega);subst this;rw[aL]at uZ;have hbd:=jg uZ;have Ke:=jg xB;clear uZ xB;go_wp2;go_ret;exact⟨by rw[Pl.wrong,uh,Dv.out,hbd.out];rfl,Ke.out⟩
 ·go_enter Tryz.func51,Tryz.ntmps51;go_wp2_with(go_at_call 85;refine(Du _ m _ ?_ ?_).mono ?_;exact hv'.out;exact hb'.out;rintro e w'⟨rfl,rfl⟩);go_ret;exact⟨by rw[Pl.wrong,uh];rfl,Up.refl _⟩
theorem Eu:Tryz.prog.underlying 30=some (.slice 32):=by kernel_rfl
theorem IJ:Tryz.prog.underlying 33=some (.slice 30):=by kernel_rfl
theorem IK:Tryz.prog.underlying 28=some (.slice 33):=by kernel_rfl
theorem Sc:(Tryz.prog.info? 32).map (fun i=>(i.zero,i.size,i.bytes))=some (some (.agg #[.int .i64 0,.int .i64 0]),2,16):=by kernel_rfl
theorem Mz:(Tryz.prog.info? 30).map (fun i=>(i.zero,i.size,i.bytes))=some (some (.slice none 0 0),1,24):=by kernel_rfl
theorem Am:(Tryz.prog.info? 33).map (fun i=>(i.zero,i.size,i.bytes))=some (some (.slice none 0 0),1,24):=by kernel_rfl
theorem Sd:(Tryz.prog.info? 32).map (·.size)=some 2:=by kernel_rfl
def pQ(n:Nat):Ring:=List.replicate n (0,0)
def qT(n:Nat):List Value:=List.replicate n (.slice none 0 0)
theorem rI{α:Type}{n k:Nat}{x:α}(h:k<n):(List.replicate n x)[k]?=some x:=by rw[List.getElem?_replicate,ai h]
theorem TX(n:Nat):madeCells #[.int .i64 0,.int .i64 0] (n*2)=(flat (pQ n)).toArray:=by
 apply Array.ext;{rw[size_madeCells];simp[lE,pQ]};·intro i h1 h2;have hi:i<n*2:=(by rwa[size_madeCells]at h1);have hp:(pQ n)[i/2]?=some (0,0):=rI (by omega);have hf:=qD _ _ _ hp;have e:(flat (pQ n))[i]?=some (.int .i64 0):=(by rcases gO i with h|h;{rw[show i/2*2=i by omega]at hf;exact hf.1};·rw[show i/2*2+1=i by omega]at hf;exact hf.2);have e2:(flat (pQ n)).toArray[i]=.int .i64 0:=(by have:=ee.1 e;obtain⟨_,q⟩:=this;simpa using q);rw[e2];simp only[madeCells,Array.getElem_map,Array.getElem_range];rcases gO i with h|h<;>simp[h]
theorem FM(n:Nat)(hn:n<=2097152)(w:World):(Instr.makeSlice 30 (.int .i64 (n:Int)) (.int .i64 (n:Int))).run Tryz.prog w=.ok (.slice (some ⟨w.heap.size,0,none⟩) n n) (w.alloc (.cells (flat (pQ n)).toArray 32)):=by
 obtain⟨i,hi,TT⟩:=bI.1 Sc;simp only[dF]at TT;obtain⟨z1,z2,z3⟩:=TT;have hr:=run_make (P:=Tryz.prog) w 30 32 i _ Eu hi z1 .i64 .i64 n n (by omega) (dj _) (by rw[z3];omega) (by omega);rw[hr,z2];simp only[Int.toNat_natCast,Value.cells,TX]
theorem FN(n:Nat)(hn:n<=2097152)(w:World):(Instr.makeSlice 33 (.int .i64 (n:Int)) (.int .i64 (n:Int))).run Tryz.prog w=.ok (.slice (some ⟨w.heap.size,0,none⟩) n n) (w.alloc (.cells (qT n).toArray 30)):=by
 rw[run_make_row' 33 30 _ 24 IJ Mz rfl .i64 .i64 n (by omega) (by omega) w];congr 3;rw[←gN (xs:=madeCells _ _),toList_madeCells_one];rfl
theorem Ao(n:Nat)(hn:n<=2097152)(w:World):(Instr.makeSlice 28 (.int .i64 (n:Int)) (.int .i64 (n:Int))).run Tryz.prog w=.ok (.slice (some ⟨w.heap.size,0,none⟩) n n) (w.alloc (.cells (qT n).toArray 33)):=by
 rw[run_make_row' 28 33 _ 24 IK Am rfl .i64 .i64 n (by omega) (by omega) w];congr 3;rw[←gN (xs:=madeCells _ _),toList_madeCells_one];rfl
structure CR(w wr:World)(B:Nat)(l:Poly)(k:Nat)(ds:List D1):Prop where
 row:jr wr B 30 (ds.map D1.v++qT (l.length-k))
 rs:ds.map D1.r=l.take k
 len:ds.length=k
 bare:∀d∈ds,d.s=[]
 ok:∀d∈ds,O7 wr d
 nodup:(B::ds.map D1.b).Nodup
 low:∀b∈B::ds.map D1.b,w.heap.size<=b
 up:Up w wr
theorem CK{α:Type}(a:List α)(x y:α)(n:Nat):(a++List.replicate (n+1) x).set a.length y=a++[y]++List.replicate n x:=by
 rw[cC _ _ (bA _),b7,fJ,dQ];simp
theorem CR.step{w wr:World}{B:Nat}{l:Poly}{k:Nat}{ds:List D1}(h:CR w wr B l k ds){r:Ring}(hr:l[k]?=some r):CR w ((wr.alloc (.cells (flat r).toArray 32)).setCell ⟨B,k,none⟩ (.slice (some ⟨wr.heap.size,0,none⟩) r.length r.length)) B l (k+1) (ds++[⟨wr.heap.size,r,[]⟩]):=by
 have hk:=Pl.jo hr;have hB:B<wr.heap.size:=h.row.lt;have hW:w.heap.size<=wr.heap.size:=h.up.size;have MA:=h.low B (by simp);refine⟨?_,?_,?_,?_,?_,?_,?_,?_⟩;{have:=(h.row.alloc (.cells (flat r).toArray 32)).set k (.slice (some ⟨wr.heap.size,0,none⟩) r.length r.length);have e:l.length-k=(l.length-(k+1))+1:=(by omega);rw[e]at this;have e2:=CK (ds.map D1.v) (.slice none 0 0) (.slice (some ⟨wr.heap.size,0,none⟩) r.length r.length) (l.length-(k+1));rw[aA,h.len]at e2;rw[qT,e2]at this;simpa[D1.v,qT]using this};{rw[Pl.take_one hr,aH,h.rs];rfl};{simp[h.len]};{intro d hd;rcases aD.1 hd with hd|hd;{exact h.bare d hd};·simp at hd;subst hd;rfl};{intro d hd;rcases aD.1 hd with hd|hd;{have hne:d.b≠B:=fun e=>(b6.1 h.nodup).1 (by rw[←e];exact aU hd);exact jr.setOther (jr.alloc (h.ok d hd) _) hne _};·simp at hd;subst hd;refine jr.setOther (b:=wr.heap.size) ?_ (by show wr.heap.size≠B;omega) _;simpa using jr.new wr (flat r) _};{have h1:∀x∈B::ds.map D1.b,x<wr.heap.size:=(by intro x hx;rcases aE.1 hx with rfl|hx;{exact hB};·obtain⟨d,hd,rfl⟩:=aO.1 hx;exact jr.lt (h.ok d hd));rw[aH,←aY,cq];refine⟨h.nodup,by simp,?_⟩;intro a ha b hb;simp at hb;subst hb;have:=h1 a ha;omega};·intro b hb;rw[aH,←aY]at hb;rcases aD.1 hb with hb|hb;{exact h.low b hb};·simp at hb;omega
 ·exact(h.up.alloc _).setCell MA _
theorem CR.start(w:World)(l:Poly):CR w (w.alloc (.cells (qT l.length).toArray 30)) w.heap.size l 0 []:=⟨by simpa using jr.new w (qT l.length) _,rfl,rfl,by simp,by simp,by simp,by simp,(Up.refl _).alloc _⟩
def D2.bare(d:D2):Prop:=d.s=[]∧∀x∈d.rs,x.s=[]
def D3.bare(d:D3):Prop:=d.s=[]∧∀x∈d.ps,x.bare
theorem GN(v:Value)(l:Poly)(w:World)(hv:td w v l)(hb:l.length<=1048576)(zJ:∀r∈l,r.length<=1048576):Calls Tryz.prog 88 #[v] w fun e w'=>∃d:D2,e=.returned d.v∧B7 w' d∧d.pts=l∧d.bare∧d.bl.Nodup∧(∀b∈d.bl,w.heap.size<=b)∧Up w w':=by
 obtain⟨ao,cap,rfl,hm⟩:=hv;have hmk:=FN l.length (by omega);have hst:=CR.start w l;go_enter Tryz.func88,Tryz.ntmps88;go_wp2;clear hmk;have akS:=jg hst;clear hst;go_loopw[12](fun i wr=>∃(k:Nat)(ds:List D1),k<=l.length∧i=.int .i64 k∧CR w wr w.heap.size l k ds)(fun i _=>l.length-(intOf i).toNat);(case atStart=>exact⟨0,[],au _,rfl,akS.out⟩);case round=>obtain⟨k,ds,hk,rfl,xA⟩:=hrel;by_cases hlt:k<l.length;{obtain⟨r,hr⟩:=Pl.ji hlt;obtain⟨b,u,rfl,hc,sR,lQ,rfl,hp⟩:=hm k r hr;have hrl:=zJ r (Pl.jh hr);have hc':=xA.up.cell hc;have hmk:=FM r.length (by omega);have hfz:∀o,(wr.alloc o).frozen? ⟨w.heap.size,k,none⟩=false:=fun o=>(xA.row.alloc o).frozen k;have hce:∀o,(wr.alloc o).cell? ⟨w.heap.size,k,none⟩=some (.slice none 0 0):=fun o=>(xA.row.alloc o).cell (by rw[aI (by rw[aA,xA.len];omega),aA,xA.len,b7];exact rI (by omega));have hsrc:Hid (∀o,∀i p,r[i]?=some p->∃b,sR=some ⟨b,0,none⟩∧(wr.alloc o).cell? ⟨b,i*2,none⟩=some (.int .i64 p.1)∧(wr.alloc o).cell? ⟨b,i*2+1,none⟩=some (.int .i64 p.2)):=(by intro o i p hip;obtain⟨b,e,c1,c2⟩:=hp i p hip;exact⟨b,e,(xA.up.alloc o).cell c1,(xA.up.alloc o).cell c2⟩);have hfit:Hid (r.length*2<=(flat (pQ r.length)).length):=(by simp[Hid,lE,pQ]);have MC:(flat (pQ r.length)).drop (r.length*2)=[]:=gu (by simp[lE,pQ]);have Se:=Bp (P:=Tryz.prog) (wr.alloc (.cells (flat (pQ r.length)).toArray 32)) 30 30 3 32 wr.heap.size r.length r.length sR lQ 32 (flat (pQ r.length)) r Eu Sd (heap_alloc_new wr _) (bA _) (hsrc.out _) hfit.out;rw[Bo,MC,bu]at Se;clear MC;have O9:=jg xA;have hr':=jg hr;have hp':=jg hp;have hm':=jg hm;have ahm:=jg zJ;clear xA hr hp hm zJ hc;go_wp2;go_roundw;(case rel=>exact⟨k+1,_,by omega,by go_num,O9.out.step hr'.out⟩);case measure=>simp[intOf];omega};·have:k=l.length:=(by omega);subst this;have O9:=jg xA;clear xA;go_wp2;go_ret;have h:=O9.out;have hrs:=h.rs;rw[aL]at hrs;refine⟨⟨w.heap.size,ds,[]⟩,?_,⟨?_,?_⟩,hrs,⟨rfl,h.bare⟩,?_,?_,h.up⟩;{simp[D2.v,h.len]};{have:=h.row;simpa[qT]using this};{intro x hx;exact h.ok x (by simpa using hx)};{simpa[D2.bl]using h.nodup};·intro b hb;exact h.low b (by simpa[D2.bl]using hb)
structure CP(w wr:World)(B:Nat)(m:jy)(k:Nat)(ds:List D2):Prop where
 row:jr wr B 33 (ds.map D2.v++qT (m.length-k))
 rs:ds.map D2.pts=m.take k
 len:ds.length=k
 bare:∀d∈ds,d.bare
 ok:∀d∈ds,B7 wr d
 nodup:(B::ds.flatMap D2.bl).Nodup
 low:∀b∈B::ds.flatMap D2.bl,w.heap.size<=b
 up:Up w wr
theorem CP.start(w:World)(m:jy):CP w (w.alloc (.cells (qT m.length).toArray 33)) w.heap.size m 0 []:=⟨by simpa using jr.new w (qT m.length) _,rfl,rfl,by simp,by simp,by simp,by simp,(Up.refl _).alloc _⟩
theorem CP.lt{w wr:World}{B:Nat}{m:jy}{k:Nat}{ds:List D2}(h:CP w wr B m k ds):∀x∈B::ds.flatMap D2.bl,x<wr.heap.size:=by
 intro x hx;rcases aE.1 hx with rfl|hx;{exact h.row.lt};·obtain⟨d,hd,hx⟩:=bQ.1 hx;exact(h.ok d hd).lt x hx
theorem CP.step{w wr wn:World}{B:Nat}{m:jy}{k:Nat}{ds:List D2}(h:CP w wr B m k ds){l:Poly}(hl:m[k]?=some l){d:D2}(xB:Up wr wn)(hd:B7 wn d)(Pa:d.pts=l)(FO:d.bare)(hnd:d.bl.Nodup)(uj:∀b∈d.bl,wr.heap.size<=b):CP w (wn.setCell ⟨B,k,none⟩ d.v) B m (k+1) (ds++[d]):=by
 have hk:=Pl.jo hl;have hB:B<wr.heap.size:=h.row.lt;have hW:w.heap.size<=wr.heap.size:=h.up.size;have MA:=h.low B (by simp);have hlt:=h.lt;refine⟨?_,?_,?_,?_,?_,?_,?_,?_⟩;{have:=(h.row.of_block (xB.block B hB)).set k d.v;have e:m.length-k=(m.length-(k+1))+1:=(by omega);rw[e]at this;have e2:=CK (ds.map D2.v) (.slice none 0 0) d.v (m.length-(k+1));rw[aA,h.len]at e2;rw[qT,e2]at this;simpa[qT]using this};{rw[Pl.take_one hl,aH,h.rs];simp[Pa]};{simp[h.len]};{intro x hx;rcases aD.1 hx with hx|hx;{exact h.bare x hx};·simp at hx;subst hx;exact FO};{intro x hx;rcases aD.1 hx with hx|hx;{refine((h.ok x hx).up xB).of fun b hb=>Below.heap_setCell _ _ _ _ ?_;intro e;subst e;exact(b6.1 h.nodup).1 (bQ.2 ⟨x,hx,hb⟩)};·simp at hx;subst hx;refine hd.of fun b hb=>Below.heap_setCell _ _ _ _ ?_;have:=uj b hb;show b≠B;omega};{rw[fK,←aY,cq];refine⟨h.nodup,by simpa using hnd,?_⟩;intro a ha b hb;have h1:=hlt a ha;have h2:=uj b (by simpa using hb);omega};{intro b hb;rw[fK,←aY]at hb;rcases aD.1 hb with hb|hb;{exact h.low b hb};·have:=uj b (by simpa using hb);omega};·exact(h.up.trans xB).setCell MA _
theorem ME(v:Value)(m:jy)(w:World)(hv:pR w v m)(hb:Pl.Bd m):Calls Tryz.prog 52 #[v] w fun e w'=>∃d:D3,e=.returned d.v∧wX w' d∧d.m=m∧d.bare∧d.bl.Nodup∧(∀b∈d.bl,w.heap.size<=b)∧Up w w':=by
 obtain⟨ao,cap,rfl,hm⟩:=hv;have hlen:=hb.len;have hb':=jg hb;have hmk:=Ao m.length (by omega);have hst:=jg (CP.start w m);clear hb;go_enter Tryz.func52,Tryz.ntmps52;go_wp2;clear hmk;go_loopw[11](fun i wr=>∃(k:Nat)(ds:List D2),k<=m.length∧i=.int .i64 k∧CP w wr w.heap.size m k ds)(fun i _=>m.length-(intOf i).toNat);(case atStart=>exact⟨0,[],au _,rfl,hst.out⟩);case round=>obtain⟨k,ds,hk,rfl,xA⟩:=hrel;by_cases hlt:k<m.length;{obtain⟨l,hl⟩:=Pl.ji hlt;obtain⟨b,u,rfl,hc,hu⟩:=hm k l hl;have hc':=xA.up.cell hc;have Lp:=jg (hu.up xA.up);have hl':=jg hl;have hm':=jg hm;have hold:Hid (wr.cell? ⟨w.heap.size,k,none⟩=some (.slice none 0 0)):=xA.row.cell (by rw[aI (by rw[aA,xA.len];omega),aA,xA.len,b7];exact rI (by omega));have hfz:Hid (wr.frozen? ⟨w.heap.size,k,none⟩=false):=xA.row.frozen k;have O9:=jg xA;have MA:Hid (w.heap.size<wr.heap.size):=xA.row.lt;clear hl hm hc hu xA;have B1:=jg (hb'.out.poly l (Pl.jh hl'.out));have B2:=jg (hb'.out.ring l (Pl.jh hl'.out));go_wp2_with(go_at_call 88;refine(GN _ l _ ?_ ?_ ?_).mono ?_;exact Lp.out;exact B1.out;exact B2.out;rintro e wn⟨d,rfl,hd,Pa,FO,hnd,uj,xB⟩;simp only[D2.v];replace hd:=jg hd;replace Pa:=jg Pa;replace FO:=jg FO;replace hnd:=jg hnd;replace uj:=jg uj;have anZ:=xB.cell hold.out;have aqN:wn.frozen? ⟨w.heap.size,k,none⟩=false:=(Below.frozen xB (p:=⟨w.heap.size,k,none⟩) MA.out).trans hfz.out;replace xB:=jg xB);go_roundw;(case rel=>exact⟨k+1,_,by omega,by go_num,O9.out.step hl'.out xB.out hd.out Pa.out FO.out hnd.out uj.out⟩);case measure=>simp[intOf];omega};·have:k=m.length:=(by omega);subst this;have O9:=jg xA;clear xA;go_wp2;go_ret;have h:=O9.out;have hrs:=h.rs;rw[aL]at hrs;refine⟨⟨w.heap.size,ds,[]⟩,?_,⟨?_,?_⟩,hrs,⟨rfl,h.bare⟩,?_,?_,h.up⟩;{simp[D3.v,h.len]};{have:=h.row;simpa[qT]using this};{intro x hx;exact h.ok x (by simpa using hx)};{simpa[D3.bl]using h.nodup};·intro b hb;exact h.low b (by simpa[D3.bl]using hb)
structure FP(w:World)(v:Value)(m:jy)(b:Nat)(d:D3):Prop where
 ptr:v=.pointer (some ⟨b,0,none⟩)
 cell:jr w b 78 [d.v]
 ok:wX w d
 pts:d.m=m
theorem abb(v:Value)(m:jy)(w:World)(hv:pR w v m)(hb:Pl.Bd m)(h0:Pl.wrong m=0):Calls Tryz.prog 27 #[v] w fun e w'=>∃p b d,e=.returned (.tuple #[p,.int .i64 0])∧FP w' p m b d∧(∀x∈b::d.bl,w.heap.size<=x)∧Up w w':=by
 have hv':=jg hv;have hb':=jg hb;have h0':=jg h0;clear hv hb h0;go_enter Tryz.func27,Tryz.ntmps27;go_wp2_with(first|(go_at_call 51;refine(II _ m _ ?_ ?_).mono ?_;exact hv'.out;exact hb'.out;rintro e w1⟨rfl,Br⟩;replace Br:=jg Br;rw[h0'.out])|(go_at_call 52;refine(ME _ m _ ?_ ?_).mono ?_;exact hv'.out.up Br.out;exact hb'.out;rintro e w2⟨d,rfl,hd,hm,FO,hnd,uj,Ke⟩;simp only[D3.v];replace hd:=jg hd;replace hm:=jg hm;replace Ke:=jg Ke;replace uj:=jg uj;clear FO hnd));go_ret2;refine⟨_,_,d,rfl,⟨rfl,jr.new w2 [d.v] _,hd.out.up ((Up.refl _).alloc _),hm.out⟩,?_,(Br.out.trans Ke.out).alloc _⟩;intro x hx;have s1:=Br.out.size;have s2:=Ke.out.size;rcases aE.1 hx with rfl|hx;{omega};·have:=uj.out x hx;omega
theorem XH(v:Value)(m:jy)(w:World)(hv:pR w v m)(hb:Pl.Bd m)(h0:Pl.wrong m≠0):Calls Tryz.prog 27 #[v] w fun e w'=>e=.returned (.tuple #[.pointer none,.int .i64 (Pl.wrong m)])∧Up w w':=by
 have hv':=jg hv;have hb':=jg hb;have h0':(Pl.wrong m==0)=false:=aj.2 h0;clear hv hb h0;generalize hx:Pl.wrong m=x at*;have hx':=jg hx;clear hx;go_enter Tryz.func27,Tryz.ntmps27;go_wp2_with(go_at_call 51;refine(II _ m _ ?_ ?_).mono ?_;exact hv'.out;exact hb'.out;rintro e w1⟨rfl,Br⟩;replace Br:=jg Br;rw[hx'.out]);go_ret2;exact⟨rfl,Br.out⟩
end Go.Proofs.YtcclepohmhdpbaaGreatDoor
