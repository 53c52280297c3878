import Derived.Test.YtcclepohmhdpbaaGreatDoorWalkU
import Derived.Test.YtcclepohmhdpbaaGreatDoorWalkC
import Derived.Test.YtcclepohmhdpbaaGreatDoorCards
import Derived.Test.YtcclepohmhdpbaaGreatDoorTie
import Derived.WalkKit
import Derived.ProofKit
import Derived.OpenShut
import Derived.Deep.Slices
import Derived.Deep.DeepHandedRow
import Derived.Lib.LaidTab
import Derived.Test.YtcclepohmhdpbaaGreatDoorInv
import Derived.Test.YtcclepohmhdpbaaGreatDoorProg
import Derived.WalkLawsBesides
import Derived.Lib.Strings
import Derived.Test.YtcclepohmhdpbaaGreatDoorLists
import Derived.Test.YtcclepohmhdpbaaGreatDoorWalkR
set_option maxHeartbeats 1000000
namespace Go.Proofs.YtcclepohmhdpbaaGreatDoor
set_option linter.all false
open Go.ChangeShapes Go.WideShapes Go.ChangeAt Go.RowKit Go.Deep
theorem own:ownKnob Tryz.prog.godebug=none:=by kernel_rfl
theorem laidOut:laidOutB Tryz.prog=true:=by kernel_rfl
theorem abt:Tryz.prog.underlying 3=some (.int .i64):=by kernel_rfl
theorem XZ:Tryz.prog.underlying 4=some .bool:=by kernel_rfl
theorem Ui:Tryz.prog.cellsOf 3=1:=by kernel_rfl
theorem Su{α:Type}{p:Nat->α->Prop}:∀n:Nat,(∀i,i<n->∃x,p i x)->∃l:List α,l.length=n∧∀i x,l[i]?=some x->p i x|0,_=>⟨[],rfl,fun i x h=>by simp at h⟩|n+1,h=>by obtain⟨l,hl,hp⟩:=Su n (fun i hi=>h i (by omega));obtain⟨x,hx⟩:=h n (by omega);refine⟨l++[x],by simp[hl],fun i y hy=>?_⟩;rcases bH i l.length with hi|hi;{rw[aT hi]at hy;exact hp i y hy};·have hin:i=n:=(by have:=Pl.jo hy;simp at this;omega);subst hin;rw[aI hi,show i-l.length=0 by omega]at hy;cases hy;exact hx
theorem MW(b off k:Nat):(⟨b,off,none⟩:Addr).add k=⟨b,off+k,none⟩:=by
 unfold Addr.add;split<;>simp_all
def X4(d:DataW Unit):Array Value:=match d with|.agg ps=>(ps.map fun x=>match x with|.lit (.int k n)=>Value.int k n|_=>undef).toArray|_=>#[]
def Po(w:World)(g:Nat)(d:DataW Unit):World:={w with heap:=w.heap.modify g fun|.cells _ t frozen=>.cells (X4 d) t frozen|o=>o}
def F0(w:World):World:=Po (Po (Po w 0 Rows.laid_internal_strconv_uint64pow10) 1 Rows.laid_math_bits_deBruijn32tab) 2 Rows.laid_math_bits_deBruijn64tab
theorem abu:mapsRowed Tryz.prog=true:=by kernel_rfl
end Go.Proofs.YtcclepohmhdpbaaGreatDoor
namespace Go.Proofs.YtcclepohmhdpbaaGreatDoor
set_option linter.all false
open Go.RowKit Go.Deep
theorem L3.ah4{w w1:World}{v:Value}{A:List L2}{x:L2}{y:L1}(h:L3.ok w ⟨v,A++[x]⟩)(hnd:(L3.bl ⟨v,A++[x]⟩).Nodup){G:Nat}(hG:v.ownBlock=some G){g cap:Nat}(hg:w.grownBy w1 x.v.ownBlock)(hown:w1.ownsRow 0 30 1 (.slice (some ⟨g,0,none⟩) (x.rs.length+1) cap) (x.rs.length+1) (x.rs.map L1.v++[y.v]))(zq:x.v.ownBlock=some g∨g=w.heap.size)(hy:y.ok w)(hyd:∀b∈y.bl,b∉L3.bl ⟨v,A++[x]⟩):L3.ok (w1.setCell ⟨G,A.length,none⟩ (.slice (some ⟨g,0,none⟩) (x.rs.length+1) cap)) ⟨v,A++[⟨.slice (some ⟨g,0,none⟩) (x.rs.length+1) cap,x.rs++[y]⟩]⟩∧(L3.bl ⟨v,A++[⟨.slice (some ⟨g,0,none⟩) (x.rs.length+1) cap,x.rs++[y]⟩]⟩).Nodup∧(∀b∈L3.bl ⟨v,A++[⟨.slice (some ⟨g,0,none⟩) (x.rs.length+1) cap,x.rs++[y]⟩]⟩,b∈L3.bl ⟨v,A++[x]⟩∨b∈y.bl∨w.heap.size<=b):=by
 have ebl:L3.bl ⟨v,A++[x]⟩=(v.ownBlock.toList++A.flatMap L2.bl)++(x.v.ownBlock.toList++x.rs.flatMap L1.bl):=(by simp[L3.bl,L2.bl]);have ah6:L3.bl ⟨v,A++[⟨.slice (some ⟨g,0,none⟩) (x.rs.length+1) cap,x.rs++[y]⟩]⟩=((v.ownBlock.toList++A.flatMap L2.bl)++((Value.slice (some ⟨g,0,none⟩) (x.rs.length+1) cap).ownBlock.toList++x.rs.flatMap L1.bl))++y.bl:=(by simp[L3.bl,L2.bl]);have hlt:=h.lt;rw[ebl]at hnd hlt hyd;have hx:x.ok w:=h.sub x (by simp);have hGP:G∈v.ownBlock.toList++A.flatMap L2.bl:=bw _ (by rw[hG];simp);have hGn:∀b∈x.v.ownBlock.toList++x.rs.flatMap L1.bl,b≠G:=fun b hb e=>(cq.1 hnd).2.2 G hGP b hb e.symm;have hGA:∀b∈A.flatMap L2.bl,b≠G:=fun b hb e=>(by have h1:=(cq.1 hnd).1;rw[hG]at h1;exact(b6.1 h1).1 (e▸hb));have fr:Fr (fun b=>x.v.ownBlock=some b∨b=G) w (w1.setCell ⟨G,A.length,none⟩ (.slice (some ⟨g,0,none⟩) (x.rs.length+1) cap)):=(((Fr.Bv hg).mono fun b _ e=>.inl e)).setCell (.inr rfl) _;have hold:∀b,b∈(v.ownBlock.toList++A.flatMap L2.bl)++((Value.slice (some ⟨g,0,none⟩) (x.rs.length+1) cap).ownBlock.toList++x.rs.flatMap L1.bl)->b∈(v.ownBlock.toList++A.flatMap L2.bl)++(x.v.ownBlock.toList++x.rs.flatMap L1.bl)∨w.heap.size<=b:=fun b hb=>by rcases aD.1 hb with hb|hb;{exact .inl (bw _ hb)};·rcases aD.1 hb with hb|hb;{rcases wY (n:=x.rs.length+1) (cap:=cap) zq with e|⟨e,e2⟩;{rw[e]at hb;exact .inl (b9 _ (bw _ hb))};·rw[e]at hb;simp at hb;exact .inr (by omega)};·exact .inl (b9 _ (b9 _ hb))
 refine⟨⟨?_,fun z hz=>?_⟩,?_,?_⟩;{have o1:=h.row.kept hg (lU h.row hx.row (by decide));have o2:=FY o1 hG (i:=A.length) (by simp) (.slice (some ⟨g,0,none⟩) (x.rs.length+1) cap);rw[aH,cC _ _ (by simp),aA,b7]at o2;simpa using o2};{rcases aD.1 hz with hz|hz;{refine(h.sub z (bw _ hz)).keep fr fun b hb e=>?_;have hbA:b∈A.flatMap L2.bl:=bQ.2 ⟨z,hz,hb⟩;rcases e with e|e;{exact(CQ hnd (b:=b) (by rw[e];simp)).1 (b9 _ hbA)};·exact hGA b hbA e};·simp at hz;subst hz;refine⟨?_,fun z hz=>?_⟩;{have:=kE hown (a:=⟨G,A.length,none⟩) (show some g≠some G from fun e=>by have e:g=G:=aN e;rcases zq with e2|e2;{exact hGn g (bw _ (by rw[e2];simp)) e};·have:=hlt G (bw _ hGP);omega) (.slice (some ⟨g,0,none⟩) (x.rs.length+1) cap);simpa using this};·rcases aD.1 hz with hz|hz;{refine(hx.sub z hz).keep fr fun b hb e=>?_;have hbQ:b∈x.rs.flatMap L1.bl:=bQ.2 ⟨z,hz,hb⟩;rcases e with e|e;{exact(CQ hnd (b:=b) (by rw[e];simp)).2 hbQ};·exact hGn b (b9 _ hbQ) e};·simp at hz;subst hz;refine hy.keep fr fun b hb e=>hyd b hb ?_;rcases e with e|e;{exact b9 _ (bw _ (by rw[e];simp))};·subst e;exact bw _ hGP};·rw[ah6,cq];refine⟨?_,?_,fun a ha b hb e=>?_⟩;{rcases wY (n:=x.rs.length+1) (cap:=cap) zq with e|⟨e,e2⟩;{rw[e];exact hnd};·rw[e];refine zO hnd fun b hb=>?_;have:=hlt b (by rcases aD.1 hb with hb|hb;{exact bw _ hb};·exact b9 _ (b9 _ hb));omega};{unfold L1.bl;cases y.v.ownBlock<;>simp};·subst e;rcases hold a ha with h1|h1;{exact hyd a hb h1};·have:=hy.lt a hb;omega
 ·intro b hb;rw[ah6]at hb;rcases aD.1 hb with hb|hb;{rw[ebl];rcases hold b hb with h1|h1;{exact .inl h1};·exact .inr (.inr h1)};·exact .inr (.inl hb)
structure MB(w wr:World)(L:L3)(t:Nat):Prop where
 ok:L.ok wr
 nd:L.bl.Nodup
 low:∀b∈L.bl,w.heap.size<=b
 up:Up w wr
 t:tot L.m<=t
theorem MB.nil(w:World):MB w w L3.nil 0:=⟨⟨World.ownsRow_nil _ _ _ _,by simp[L3.nil]⟩,by simp[L3.bl,L3.nil,GS,Value.ownBlock],by simp[L3.bl,L3.nil,GS,Value.ownBlock],Up.refl w,by simp[tot,L3.m,L3.nil,Pl.nR,Pl.nP]⟩
theorem MB.le{w wr:World}{L:L3}{t t':Nat}(h:MB w wr L t)(k:t<=t'):MB w wr L t':=⟨h.ok,h.nd,h.low,h.up,cg h.t k⟩
theorem MB.upto{w wr w':World}{L:L3}{t:Nat}(h:MB w wr L t)(k:Up wr w'):MB w w' L t:=⟨h.ok.of fun b hb=>k.block b (h.ok.lt b hb),h.nd,h.low,h.up.trans k,h.t⟩
theorem MB.poly{w wr w1:World}{L:L3}{t:Nat}(h:MB w wr L t){g cap:Nat}(hg:wr.grownBy w1 L.v.ownBlock)(hown:w1.ownsRow 0 33 1 (.slice (some ⟨g,0,none⟩) (L.ps.length+1) cap) (L.ps.length+1) (L.ps.map L2.v++[GS]))(zq:L.v.ownBlock=some g∨g=wr.heap.size):MB w w1 ⟨.slice (some ⟨g,0,none⟩) (L.ps.length+1) cap,L.ps++[L2.nil]⟩ (t+1):=by
 obtain⟨p1,p0,p2,p3⟩:=L3.poly h.ok h.nd hg hown zq;refine⟨p1,p2,fun b hb=>?_,sE h.up hg (fun g e=>h.low g (by simp[L3.bl,e])),?_⟩;{rcases p3 b hb with h1|h1;{exact h.low b h1};·have:=h.up.size;omega};·rw[XV];have:=h.t;omega
theorem MB.ring{w wr w1:World}{v:Value}{A:List L2}{x:L2}{y:L1}{t:Nat}(h:MB w wr ⟨v,A++[x]⟩ t){G g cap:Nat}(hG:v.ownBlock=some G)(hg:wr.grownBy w1 x.v.ownBlock)(hown:w1.ownsRow 0 30 1 (.slice (some ⟨g,0,none⟩) (x.rs.length+1) cap) (x.rs.length+1) (x.rs.map L1.v++[y.v]))(zq:x.v.ownBlock=some g∨g=wr.heap.size)(hy:y.ok wr)(hyd:∀b∈y.bl,b∉L3.bl ⟨v,A++[x]⟩)(hyl:∀b∈y.bl,w.heap.size<=b){r:Nat}(hr:y.r.length<=r):MB w (w1.setCell ⟨G,A.length,none⟩ (.slice (some ⟨g,0,none⟩) (x.rs.length+1) cap)) ⟨v,A++[⟨.slice (some ⟨g,0,none⟩) (x.rs.length+1) cap,x.rs++[y]⟩]⟩ (t+1+r):=by
 obtain⟨p1,p2,p3⟩:=L3.ah4 h.ok h.nd hG hg hown zq hy hyd;refine⟨p1,p2,fun b hb=>?_,(sE h.up hg (fun g e=>h.low g (by simp[L3.bl,L2.bl,e]))).setCell (h.low G (by simp[L3.bl,hG])) _,?_⟩;{rcases p3 b hb with h1|h1|h1;{exact h.low b h1};{exact hyl b h1};·have:=h.up.size;omega};·have:=h.t;simp[tot,L3.m,L2.pts,Pl.nR,Pl.nP,Pl.xj]at this⊢;omega
theorem Kj{w:World}{base base':Nat}{e e':TypeId}{size size':Nat}{v v':Value}{n n':Nat}{xs xs':List Value}(h:w.ownsRow base e size v n xs)(h':w.ownsRow base' e' size' v' n' xs')(he:e≠e'){b:Nat}(hb:v.ownBlock=some b):¬v'.ownBlock=some b:=fun hb'=>by rcases lU h h' he with k|k;{rw[hb]at k;cases k};·exact k (hb.trans hb'.symm)
structure sN(w:World)(v:Value)(m:jy)(b:Nat)(u:Value):Prop where
 ptr:v=.pointer (some ⟨b,0,none⟩)
 cell:jr w b 78 [u]
 rd:pR w u m
theorem sN.up{w w':World}{v:Value}{m:jy}{b:Nat}{u:Value}(h:sN w v m b u)(k:Up w w'):sN w' v m b u:=⟨h.ptr,h.cell.of_block (k.block _ h.cell.lt),h.rd.up k⟩
def bs(l:List UInt8):ByteArray:=⟨l.toArray⟩
theorem jm(l:List UInt8):(bs l).size=l.length:=by simp[bs,ByteArray.size]
theorem oR(l:List UInt8):(bs l).toList=l:=by simp[bs]
theorem aeR(l:List UInt8)(i:Nat)(h:i<(bs l).size):(bs l)[i]'h=l[i]'(by simpa[jm]using h):=by simp[bs,ByteArray.getElem_eq_getElem_data]
theorem F3(l:List UInt8)(a b:Nat):(bs l).extract a b=bs ((l.drop a).take (b-a)):=by simp[bs,Lib.extract_eq]
theorem abv(l:List UInt8)(a:Nat):(bs l).extract a l.length=bs (l.drop a):=by
 rw[F3];congr 1;apply ff;simp
theorem abw(l:List UInt8)(b:Nat):(bs l).extract 0 b=bs (l.take b):=by
 rw[F3];simp
theorem jl(a b:List UInt8):bs a++bs b=bs (a++b):=by simp[bs,ByteArray.mk_append_mk]
namespace Tx
def at_(l:List UInt8)(i:Nat):Int:=match l[i]?with|some c=>(c.toNat:Int)|none=>-1
theorem X5{l:List UInt8}{i:Nat}(h:i<l.length):at_ l i=(l[i].toNat:Int):=by simp[at_,h]
end Tx
structure ah7(S:ByteArray)(l:List UInt8):Prop where
 size:S.size=l.length
 get:∀i(h:i<S.size),((S[i]'h).toNat:Int)=Tx.at_ l i
 drop:∀a,S.extract a l.length=bs (l.drop a)
 take:∀b,S.extract 0 b=bs (l.take b)
 list:S.toList=l
 out:S=bs l
theorem Bx(l:List UInt8):ah7 (bs l) l:=⟨jm l,fun i h=>by rw[aeR,Tx.X5],abv l,abw l,oR l,rfl⟩
theorem Bz(f:Int)(w:World)(hf:f=0∨f=1∨f=2):Calls Tryz.prog 62 #[.int .i64 f] w fun e w'=>e=.returned (.bool true)∧w'=w:=by
 rcases hf with rfl|rfl|rfl;all_goals go_enter Tryz.func62,Tryz.ntmps62;go_wp2;go_ret;exact⟨rfl,rfl⟩
theorem Dw(f o:Int)(B:Bool)(w:World)(hB:B=(o==0||(o==1&&f==1))):Calls Tryz.prog 64 #[.int .i64 f,.int .i64 o] w fun e w'=>e=.returned (.bool B)∧w'=w:=by
 subst hB;cases h0:o==0<;>cases h1:o==1<;>cases h2:f==1;all_goals go_enter Tryz.func64,Tryz.ntmps64;go_wp2;go_ret;exact⟨rfl,rfl⟩
theorem Sv(f o:Int)(p:Value)(m:jy)(b:Nat)(u:Value)(w:World)(hf:f=0∨f=1∨f=2)(hs:sN w p m b u)(ho:(o==0||(o==1&&f==1))=false):Calls Tryz.prog 39 #[p,.int .i64 f,.int .i64 o] w fun e w'=>e=.returned (.tuple #[.string ⟨#[]⟩,.int .i64 1])∧Up w w':=by
 obtain⟨rfl,hc,hr⟩:=hs;have HF:=jg hf;have HO:=jg ho;clear hf ho hc hr;go_enter Tryz.func39,Tryz.ntmps39;go_wp2_with(first|(go_at_call 62;refine(Bz _ _ HF.out).mono ?_;rintro e w1⟨rfl,rfl⟩)|(go_at_call 64;refine(Dw _ _ false _ HO.out.symm).mono ?_;rintro e w1⟨rfl,rfl⟩));go_ret2;exact⟨rfl,Up.refl _⟩
theorem Pp(f o:Int)(p:Value)(m:jy)(b:Nat)(u:Value)(w:World)(hf:f=0∨f=1∨f=2)(hs:sN w p m b u)(ho:(o==0||(o==1&&f==1))=true)(T:List UInt8)(X6:∀v,pR w v m->Calls Tryz.prog 65 #[v,.int .i64 f,.int .i64 o] w fun e w'=>e=.returned (.string (bs T))∧Up w w'):Calls Tryz.prog 39 #[p,.int .i64 f,.int .i64 o] w fun e w'=>e=.returned (.tuple #[.string (bs T),.int .i64 0])∧Up w w':=by
 obtain⟨rfl,hc,hr⟩:=hs;obtain⟨ua,uc,rfl⟩:∃a c,u=.slice a m.length c:=(by obtain⟨a,c,e,_⟩:=hr;exact⟨a,c,e⟩);have HR:=jg hr;have HF:=jg hf;have HO:=jg ho;have HW:=jg X6;have hc':=jr.cell hc (i:=0) (v:=.slice ua m.length uc) rfl;clear hf ho hc hr X6;go_enter Tryz.func39,Tryz.ntmps39;go_wp2_with(first|(go_at_call 62;refine(Bz _ _ HF.out).mono ?_;rintro e w1⟨rfl,rfl⟩)|(go_at_call 64;refine(Dw _ _ true _ HO.out.symm).mono ?_;rintro e w1⟨rfl,rfl⟩)|(go_at_call 65;refine(HW.out _ HR.out).mono ?_;rintro e w2⟨rfl,u2⟩;replace u2:=jg u2));go_ret2;exact⟨rfl,u2.out⟩
end Go.Proofs.YtcclepohmhdpbaaGreatDoor
