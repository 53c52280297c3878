import Derived.Test.YtcclepohmhdpbaaGreatDoorApD
import Derived.Test.YtcclepohmhdpbaaGreatDoorGiL
import Derived.Test.YtcclepohmhdpbaaGreatDoorWalkC
import Derived.Test.YtcclepohmhdpbaaGreatDoorCnC
import Derived.Test.YtcclepohmhdpbaaGreatDoorLaw
import Derived.Test.YtcclepohmhdpbaaGreatDoorInv
import Derived.Test.YtcclepohmhdpbaaGreatDoorBgK
import Derived.Test.YtcclepohmhdpbaaGreatDoorShelf
set_option maxHeartbeats 8000000
set_option maxRecDepth 8000
namespace Go.Proofs.YtcclepohmhdpbaaGreatDoor
set_option linter.all false
open Go.RowKit Go.Deep
def Vls(w:World)(v:Value)(us:List Value):Prop:=∃ao cap,v=.slice ao us.length cap∧∀i u,us[i]?=some u->∃b,ao=some ⟨b,0,none⟩∧w.cell? ⟨b,i,none⟩=some u
def Zp(us:List Value)(i:Nat):Value:=us.getD i (.slice none 0 0)
theorem Da{us:List Value}{i:Nat}{u:Value}(h:us[i]?=some u):Zp us i=u:=by
 unfold Zp;rw[az,h];rfl
def Db(m:jy)(us:List Value)(n:Nat):List Value:=Vd.JS (fun i=>Vd.oK m i m.length) (Zp us) (qT m.length) n
theorem Gt(m:jy)(us:List Value)(n:Nat):(Db m us n).length=m.length:=by
 unfold Db;rw[Vd.vv];simp[qT]
theorem Vm(m:jy)(us:List Value)(n:Nat):Db m us (n+1)=(Db m us n).set (Vd.oK m n m.length) (Zp us n):=by
 unfold Db;rw[Vd.Cu]
theorem SS{m:jy}{us:List Value}{i:Nat}(hi:i<m.length):(Db m us m.length)[Vd.oK m i m.length]?=some (Zp us i):=Vd.Eo (f:=fun i=>Vd.oK m i m.length) (N:=m.length) (fun i h=>by simpa[qT]using Vd.qM h) (fun i k h1 h2=>Vd.yP h1 h2) m.length (bA _) i hi
theorem DM(v:Value)(m:jy)(us:List Value)(w:World)(hv:pR w v m)(hu:Vls w v us)(hlen:us.length=m.length)(hm:m.length<=1048576)(hl:∀l∈m,l.length<=1048576)(hr:∀l∈m,∀r∈l,r.length<=1048576):Calls Tryz.prog 132 #[v] w fun e w'=>∃G:Nat,e=.returned (.slice (some ⟨G,0,none⟩) m.length m.length)∧w.heap.size<=G∧jr w' G 33 (Db m us m.length)∧Up w w':=by
 have HL:=jg hl;have HR:=jg hr;obtain⟨ao,cap,rfl,hU⟩:=hu;have DK:=jg hU;have VL:=jg hlen;rw[hlen]at hv⊢;have HV:=jg hv;have HSl:Hid (∀(i:Nat)(u:Value),us[i]?=some u->∃a n c,u=.slice a n c):=fun i u hu=>(by obtain⟨b,e,c⟩:=DK.out i u hu;obtain⟨sR,lQ,e2,h2⟩:=HV.out;cases e2;obtain⟨l,hl⟩:=Pl.ji (show i<m.length by rw[←VL.out];exact Pl.jo hu);obtain⟨b',u',e',c',Lp⟩:=h2 i l hl;rw[e]at e';cases e';rw[c]at c';cases c';obtain⟨a,cp,rfl,-⟩:=Lp;exact⟨_,_,_,rfl⟩);have hmk:=Ao m.length (by omega);clear hv hl hr hU hlen;go_enter Tryz.func132,Tryz.ntmps132;go_wp2;have Oa:Hid (Up w (w.alloc (.cells (qT m.length).toArray 33))):=(Up.refl _).alloc _;have RB:Hid (jr (w.alloc (.cells (qT m.length).toArray 33)) w.heap.size 33 (Db m us 0)):=jr.new w _ _;obtain⟨G,hG⟩:∃G,w.heap.size=G:=⟨_,rfl⟩;rw[hG]at RB⊢;have HG:=jg hG;generalize w.alloc (.cells (qT m.length).toArray 33)=W0 at*;clear hmk hG;go_loopw[11](fun i wq=>∃t:Nat,i=.int .i64 t∧t<=m.length∧Hid (Up w wq)∧Hid (jr wq G 33 (Db m us t)))(fun i _=>m.length-(intOf i).toNat);(case atStart=>exact⟨0,rfl,au _,Oa,RB⟩);case round=>clear Oa RB;obtain⟨k,rfl,hk,HU,RB⟩:=hrel;by_cases hlt:k<m.length;{obtain⟨u,hu⟩:=Pl.ji (show k<us.length by rw[VL.out];exact hlt);obtain⟨b,rfl,c0⟩:=DK.out k u hu;obtain⟨ua,un,uc,rfl⟩:=HSl.out k u hu;have HX:=jg (Vm m us k);rw[Da hu]at HX;have e0:=HU.out.cell c0;have hcl:=Vd.qM (m:=m) hlt;have HKc:=jg (Gl _ m k wr (HV.out.up HU.out) hlt hm HL.out HR.out);generalize Vd.oK m k m.length=C at*;have i1:(0:Int)<=(k:Int):=(by omega);have i2:(k:Int)<(m.length:Int):=(by omega);have i3:(0:Int)<=(C:Int):=(by omega);have i4:(C:Int)<(m.length:Int):=(by omega);clear hu c0;go_wp2_with fail;refine HKc.out.mono ?_;rintro e w2⟨rfl,oO⟩;have kR:=jg (HU.out.trans oO);have RB2:=jg (RB.out.up oO);obtain⟨z,hz⟩:=Pl.ji (show C<(Db m us k).length by rw[Gt];exact hcl);have z0:=RB2.out.cell hz;have zf:=fun i=>RB2.out.frozen i;have uj:Hid (w.heap.size<=G):=fE HG.out;(try dsimp only at z0 zf);clear oO e0 HKc hz RB;go_wp2;go_roundw;(case rel=>exact⟨k+1,by go_num,by omega,kR.out.setCell uj.out _,by rw[HX.out];exact RB2.out.set C _⟩);case measure=>simp[intOf];omega};·have hk2:k=m.length:=(by omega);have Yk:Hid (jr wr G 33 (Db m us m.length)):=(by have:=RB.out;rw[hk2]at this;exact this);have i2:¬(k:Int)<(m.length:Int):=(by omega);clear hk2;go_wp2;go_ret;exact⟨G,rfl,fE HG.out,Yk.out,HU.out⟩
structure RG where
 g:Nat
 r:Ring
def RG.v(q:RG):Value:=.slice (some ⟨q.g,0,none⟩) q.r.length q.r.length
def RG.ok(base:Nat)(w:World)(q:RG):Prop:=base<=q.g∧nX w q.g q.r
theorem RG.ok.up{base:Nat}{w w':World}{q:RG}(h:q.ok base w)(k:Up w w'):q.ok base w':=⟨h.1,jr.up h.2 k⟩
theorem RG.ok.grown{base base' n:Nat}{w w':World}{q:RG}{v:Value}{xs:List Value}{e:TypeId}(h:q.ok base w)(ho:w.ownsRow base' e 1 v n xs)(he:e≠32)(hg:w.grownBy w' v.ownBlock):q.ok base w':=⟨h.1,jr.grown h.2 hg (jz ho h.2 he)⟩
structure QF(base:Nat)(w:World)(v:Value)(Q:List RG):Prop where
 own:w.ownsRow base 30 1 v Q.length (Q.map RG.v)
 ok:∀q∈Q,q.ok base w
theorem QF.up{base:Nat}{w w':World}{v:Value}{Q:List RG}(h:QF base w v Q)(k:Up w w'):QF base w' v Q:=⟨kL h.own k,fun q hq=>(h.ok q hq).up k⟩
structure HB where
 p:Nat
 q:RG
def HB.v(h:HB):Value:=.slice (some ⟨h.p,0,none⟩) 1 1
def HB.ok(base:Nat)(w:World)(h:HB):Prop:=base<=h.p∧jr w h.p 30 [h.q.v]∧h.q.ok base w
theorem HB.ok.up{base:Nat}{w w':World}{q:HB}(h:q.ok base w)(k:Up w w'):q.ok base w':=⟨h.1,h.2.1.up k,h.2.2.up k⟩
structure QH(base:Nat)(w:World)(fv v:Value)(H:List HB):Prop where
 own:w.ownsRow base 33 1 v H.length (H.map HB.v)
 ok:∀h∈H,h.ok base w
 ne:∀h∈H,fv.ownBlock≠some h.p
theorem QH.up{base:Nat}{w w':World}{fv v:Value}{H:List HB}(h:QH base w fv v H)(k:Up w w'):QH base w' fv v H:=⟨kL h.own k,fun q hq=>(h.ok q hq).up k,h.ne⟩
theorem vQ{base base' n n' s s':Nat}{w w':World}{v v':Value}{xs xs':List Value}{e e':TypeId}(h:w.ownsRow base e s v n xs)(ho:w.ownsRow base' e' s' v' n' xs')(he:e≠e')(hg:w.grownBy w' v'.ownBlock):w'.ownsRow base e s v n xs:=lO h fun g hb=>hg.block g (jJ h hb).2 (fun e2=>Kj h ho he hb e2.symm)
theorem QF.push{base:Nat}{w w':World}{v:Value}{Q:List RG}{q:RG}{g cap:Nat}(h:QF base w v Q)(hq:q.ok base w)(hg:w.grownBy w' v.ownBlock)(hown:w'.ownsRow base 30 1 (.slice (some ⟨g,0,none⟩) (Q.length+1) cap) (Q.length+1) (Q.map RG.v++[q.v])):QF base w' (.slice (some ⟨g,0,none⟩) (Q.length+1) cap) (Q++[q]):=by
 refine⟨by rw[aH,ah];exact hown,fun x hx=>?_⟩;rcases aD.1 hx with hx|hx;{exact(h.ok x hx).grown h.own (by decide) hg};·rw[bF.1 hx];exact hq.grown h.own (by decide) hg
theorem QF.byH{base:Nat}{w w':World}{fv v:Value}{Q:List RG}{H:List HB}(h:QF base w fv Q)(k:QH base w fv v H)(hg:w.grownBy w' v.ownBlock):QF base w' fv Q:=⟨vQ h.own k.own (by decide) hg,fun x hx=>(h.ok x hx).grown k.own (by decide) hg⟩
theorem HB.ok.byF{base:Nat}{w w':World}{fv:Value}{Q:List RG}{h:HB}(k:h.ok base w)(hf:QF base w fv Q)(hne:fv.ownBlock≠some h.p)(hg:w.grownBy w' fv.ownBlock):h.ok base w':=⟨k.1,k.2.1.grown hg hne,k.2.2.grown hf.own (by decide) hg⟩
theorem QH.byF{base:Nat}{w w':World}{fv v:Value}{Q:List RG}{H:List HB}{g cap n:Nat}(k:QH base w fv v H)(h:QF base w fv Q)(hg:w.grownBy w' fv.ownBlock)(zq:fv.ownBlock=some g∨g=w.heap.size):QH base w' (.slice (some ⟨g,0,none⟩) n cap) v H:=by
 refine⟨vQ k.own h.own (by decide) hg,fun x hx=>(k.ok x hx).byF h (k.ne x hx) hg,fun x hx e=>?_⟩;have hlt:x.p<w.heap.size:=jr.lt (k.ok x hx).2.1;have e':g=x.p:=aN e;rcases zq with e2|e2;{exact k.ne x hx (e'▸e2)};·omega
theorem QH.push{base:Nat}{w w':World}{fv v:Value}{H:List HB}{x:HB}{g cap:Nat}(h:QH base w fv v H)(hx:x.ok base w)(hne:fv.ownBlock≠some x.p)(hg:w.grownBy w' v.ownBlock)(hown:w'.ownsRow base 33 1 (.slice (some ⟨g,0,none⟩) (H.length+1) cap) (H.length+1) (H.map HB.v++[x.v])):QH base w' fv (.slice (some ⟨g,0,none⟩) (H.length+1) cap) (H++[x]):=by
 refine⟨by rw[aH,ah];exact hown,fun y hy=>?_,fun y hy=>?_⟩;{have one:∀y:HB,y.ok base w->y.ok base w':=fun y k=>⟨k.1,k.2.1.grown hg (jz h.own k.2.1 (by decide)),k.2.2.grown h.own (by decide) hg⟩;rcases aD.1 hy with hy|hy;{exact one y (h.ok y hy)};·rw[bF.1 hy];exact one x hx};·rcases aD.1 hy with hy|hy;{exact h.ne y hy};·rw[bF.1 hy];exact hne
theorem QF.nil(base:Nat)(w:World):QF base w (.slice none 0 0) []:=⟨World.ownsRow_nil _ _ _ _,fun q hq=>by simp at hq⟩
theorem QH.nil(base:Nat)(w:World):QH base w (.slice none 0 0) (.slice none 0 0) []:=⟨World.ownsRow_nil _ _ _ _,fun q hq=>by simp at hq,fun q hq=>by simp at hq⟩
def HB.m(H:List HB):jy:=H.map fun h=>[h.q.r]
theorem RG.ok.rd{base:Nat}{w:World}{q:RG}(h:q.ok base w):tH w q.v q.r:=⟨some ⟨q.g,0,none⟩,_,rfl,fun i p hp=>⟨q.g,rfl,(nX.cells h.2 hp).1,(nX.cells h.2 hp).2⟩⟩
theorem QH.rd{base:Nat}{w:World}{fv v:Value}{H:List HB}(h:QH base w fv v H):pR w v (HB.m H)∧Vls w v (H.map HB.v):=by
 obtain⟨ao,cap,e⟩:=jI h.own;have key:∀i x,H[i]?=some x->∃g,ao=some ⟨g,0,none⟩∧w.cell? ⟨g,i,none⟩=some x.v:=fun i x hx=>(by obtain⟨g,cap',e',hc⟩:=ku h.own (by have:=Pl.jo hx;omega);rw[e]at e';cases e';exact⟨g,rfl,hc i _ (by rw[aB,hx];rfl)⟩);constructor;{refine⟨ao,cap,by rw[e];simp[HB.m],fun i l hl=>?_⟩;unfold HB.m at hl;rw[aB,bI]at hl;obtain⟨x,hx,rfl⟩:=hl;obtain⟨g,eg,c⟩:=key i x hx;refine⟨g,x.v,eg,c,some ⟨x.p,0,none⟩,1,rfl,fun j r hr=>?_⟩;cases j with|zero=>simp at hr;subst hr;exact⟨x.p,x.q.v,rfl,(h.ok x (Pl.jh hx)).2.1.cell (i:=0) rfl,(h.ok x (Pl.jh hx)).2.2.rd⟩|succ j=>simp at hr};·refine⟨ao,cap,by rw[e];simp,fun i u hu=>?_⟩;rw[aB,bI]at hu;obtain⟨x,hx,rfl⟩:=hu;obtain⟨g,eg,c⟩:=key i x hx;exact⟨g,eg,c⟩
def Gu(H:List HB):List HB:=Vd.JS (fun i=>Vd.oK (HB.m H) i H.length) (fun i=>H.getD i ⟨0,⟨0,[]⟩⟩) (List.replicate H.length ⟨0,⟨0,[]⟩⟩) H.length
theorem BW(H:List HB):(Gu H).length=H.length:=by
 unfold Gu;rw[Vd.vv];simp
theorem HB.og(H:List HB):(HB.m H).length=H.length:=by simp[HB.m]
theorem KH{H:List HB}{j:Nat}(hj:j<H.length):∃(i:Nat)(x:HB),H[i]?=some x∧Vd.oK (HB.m H) i H.length=j∧(Gu H)[j]?=some x:=by
 obtain⟨i,hi,e⟩:=Vd.xW (m:=HB.m H) hj;obtain⟨x,hx⟩:=Pl.ji hi;refine⟨i,x,hx,e,?_⟩;rw[←e];unfold Gu;rw[Vd.Eo (f:=fun i=>Vd.oK (HB.m H) i H.length) (N:=H.length) (fun i h=>by simpa using Vd.qM h) (fun i k h1 h2=>Vd.yP h1 h2) H.length (bA _) i hi,az,hx];rfl
theorem NM{H:List HB}{x:HB}(h:x∈Gu H):x∈H:=by
 obtain⟨j,hj⟩:=eK h;have:=Pl.jo hj;rw[BW]at this;obtain⟨i,y,hy,-,e⟩:=KH this;rw[hj]at e;cases e;exact Pl.jh hy
theorem Vn(H:List HB):Db (HB.m H) (H.map HB.v) (HB.m H).length=(Gu H).map HB.v:=by
 refine cT fun j=>?_;rcases bH j H.length with hj|hj;{obtain⟨i,x,hx,e,ho⟩:=KH hj;rw[aB,ho];have:=SS (m:=HB.m H) (us:=H.map HB.v) (i:=i) (by rw[HB.og];exact Pl.jo hx);rw[HB.og,e]at this;rw[HB.og,this,Da (u:=x.v) (by rw[aB,hx];rfl)];rfl};·rw[aW (by rw[Gt,HB.og];exact hj),aW (by rw[aA,BW];exact hj)]
theorem Qx(H:List HB):Vd.kM (HB.m H)=(Gu H).map fun h=>[h.q.r]:=by
 refine cT fun j=>?_;rcases bH j H.length with hj|hj;{obtain⟨i,x,hx,e,ho⟩:=KH hj;rw[aB,ho];have:=Vd.wM (HB.m H) (i:=i) (by rw[HB.og];exact Pl.jo hx);rw[HB.og,e]at this;rw[this];have h2:(HB.m H)[i]?=some [x.q.r]:=(by unfold HB.m;rw[aB,hx];rfl);rw[qZ h2];rfl};·rw[aW (by rw[Vd.sr,HB.og];exact hj),aW (by rw[aA,BW];exact hj)]
theorem Vo(L:List HB):(L.map fun h=>[h.q.r]).flatten=L.map fun h=>h.q.r:=by induction L with|nil=>rfl|cons a t ih=>simp[ih]
structure RZ(r:Ring):Prop where
 len:r.length<=1048575
 cd:Vd.Cb r
 cn:(Vd.jq r).length≠0
theorem Gv{r:Ring}{l:Bool}(h:RZ r):(Vd.jA r l).length<=1048576:=by
 rw[Vd.Jo h.cn];have:(Vd.jq r).length<=r.length:=Vd.xg r r.length;have:=h.len;omega
theorem Ea (v : Value) (l : Poly) (w : World) (hv : td w v l) (hl : l.length ≤ 1048576) (hz : ∀ r ∈ l, RZ r) :
    Calls Tryz.prog 131 #[v] w fun e w' => ∃ (fv : Value) (Q : List RG), e = .returned fv ∧ QF w.heap.size w' fv Q ∧ Q.map RG.r = Vd.kn l ∧ Up w w' := by
  obtain ⟨ao, cap, rfl, hm⟩ := hv
  have HM := jg hm
  have HZ := jg hz
  clear hm hz
  go_enter Tryz.func131, Tryz.ntmps131
  go_wp2
  go_loopw [3, 4, 11] (fun fv hv i wr => ∃ (k : Nat) (u x : Value) (Q : List RG) (H : List HB), i = .int .i64 k ∧ u = fv ∧ x = hv ∧ k ≤ l.length ∧ Hid (Up w wr) ∧ Hid (QF w.heap.size wr u Q) ∧ Hid (QH w.heap.size wr u x H) ∧ Hid (Q.map RG.r = ((l.take k).take 1).map (Vd.jA · true)) ∧ Hid ((H.map fun h => h.q.r) = ((l.take k).drop 1).map (Vd.jA · false))) (fun _ _ i _ => l.length - (intOf i).toNat)
  case atStart => exact ⟨0, _, _, [], [], rfl, rfl, rfl, Nat.zero_le _, Up.refl _, QF.nil _ _, QH.nil _ _, rfl, rfl⟩
  case round =>
    obtain ⟨k, u, x, Q, H, rfl, rfl, rfl, hk, HU, HQ, HH, B9, sO⟩ := hrel
    by_cases hlt : k < l.length
    · obtain ⟨r, hr⟩ := Pl.ji hlt
      obtain ⟨b, y, rfl, cy, hy⟩ := HM.out k r hr
      have e0 := HU.out.cell cy
      have Hy := jg (hy.up HU.out)
      have HZr := jg (HZ.out r (Pl.jh hr))
      have HTk := jg (Pl.take_one hr)
      have i1 : (0 : Int) ≤ (k : Int) := by omega
      have i2 : (k : Int) < (l.length : Int) := by omega
      have hsz : Hid (w.heap.size ≤ wr.heap.size) := HU.out.size
      have hQl : Hid (Q.length ≤ 1073741824) := by
        have := congrArg List.length B9.out
        simp only [List.length_map, List.length_take] at this
        show _ ≤ _; omega
      have hHl : Hid (H.length ≤ 1073741824) := by
        have := congrArg List.length sO.out
        simp only [List.length_map, List.length_take, List.length_drop] at this
        show _ ≤ _; omega
      clear hr cy hy
      by_cases mV : k = 0
      · subst mV
        have afK : Hid (∀ q : RG, q.r = Vd.jA r true → (Q ++ [q]).map RG.r = ((l.take (0 + 1)).take 1).map (Vd.jA · true)) := fun q hq => by
          rw [List.map_append, B9.out, HTk.out]; simp [hq]
        have afL : Hid ((H.map fun h => h.q.r) = ((l.take (0 + 1)).drop 1).map (Vd.jA · false)) := by
          rw [sO.out, HTk.out]; simp [Hid]
        go_wp2_with fail
        refine (BV _ r true _ Hy.out HZr.out.len HZr.out.cd HZr.out.cn).mono ?_
        rintro e w2 ⟨g, rfl, hg, hP, oO⟩
        have kR := jg oO
        have Hq : Hid (RG.ok w.heap.size w2 ⟨g, Vd.jA r true⟩) := ⟨Nat.le_trans hsz.out hg, hP⟩
        generalize hF : Vd.jA r true = F at *
        clear oO hP e0 hF
        have Av : Hid (Up wr (w2.alloc (.cells #[.slice (some ⟨g, 0, none⟩) F.length F.length] 30))) := kR.out.alloc _
        have Hqa : Hid (RG.ok w.heap.size (w2.alloc (.cells #[.slice (some ⟨g, 0, none⟩) F.length F.length] 30)) ⟨g, F⟩) := Hq.out.up ((Up.refl _).alloc _)
        have NN := jg (HQ.out.up Av.out)
        have HHa := jg (HH.out.up Av.out)
        have abl : Hid (w.heap.size ≤ w2.heap.size) := Nat.le_trans hsz.out kR.out.size
        have vR : Hid ((w2.alloc (.cells #[.slice (some ⟨g, 0, none⟩) F.length F.length] 30)).heap[w2.heap.size]? = some (.cells [Value.slice (some ⟨g, 0, none⟩) F.length F.length].toArray 30 (0, 0))) := jr.new w2 [.slice (some ⟨g, 0, none⟩) F.length F.length] 30
        have K6 : Hid (w.heap.size ≤ (w2.alloc (.cells #[.slice (some ⟨g, 0, none⟩) F.length F.length] 30)).heap.size) := by
          have := abl.out; simp [Hid]; omega
        obtain ⟨xa, xc, rfl⟩ := jI HH.out.own
        obtain ⟨ua, uc, rfl⟩ := jI HQ.out.own
        go_wp2_with (at_builtin; refine kg sD rfl (.tmp 18) (.tmp 21) rfl w.heap.size _ _ _ (by rfl) NN.out.own w2.heap.size [.slice (some ⟨g, 0, none⟩) F.length F.length] (by rfl) rfl vR.out (by intro z hz; simp at hz; subst hz; rfl) hQl.out K6.out ?_; intro g5 vg w5 kq od pq qh; have Vp := jg (NN.out.push Hqa.out od kq); have HH5 := jg (HHa.out.byF (n := Q.length + 1) (cap := vg) NN.out od pq); have oT : Hid (Up w w5) := Fr.up (S := fun _ => False) ((Fr.lp (HU.out.trans Av.out)).grown od fun z hz => .inr (jJ HQ.out.own hz).1) (fun _ _ h => h); clear kq od pq qh)
        go_roundw
        case rel => exact ⟨0 + 1, _, _, _, H, by go_num, rfl, rfl, by omega, oT, Vp, HH5, afK.out _ rfl, afL⟩
        case measure => simp [intOf]; omega
      · have amF : ((k : Int) == 0) = false := beq_eq_false_iff_ne.2 (by omega)
        have afK : Hid (Q.map RG.r = ((l.take (k + 1)).take 1).map (Vd.jA · true)) := by
          rw [B9.out, HTk.out]; show _ = _; rw [List.take_append_of_le_length (by rw [List.length_take]; omega)]
        have afL : Hid (∀ q : HB, q.q.r = Vd.jA r false → ((H ++ [q]).map fun h => h.q.r) = ((l.take (k + 1)).drop 1).map (Vd.jA · false)) := fun q hq => by
          rw [List.map_append, sO.out, HTk.out, List.drop_append_of_le_length (by rw [List.length_take]; omega), List.map_append]; simp [hq]
        clear mV
        go_wp2_with fail
        refine (BV _ r false _ Hy.out HZr.out.len HZr.out.cd HZr.out.cn).mono ?_
        rintro e w2 ⟨g, rfl, hg, hP, oO⟩
        have kR := jg oO
        have Hq : Hid (RG.ok w.heap.size w2 ⟨g, Vd.jA r false⟩) := ⟨Nat.le_trans hsz.out hg, hP⟩
        have hfl := jg (Gv (l := false) HZr.out)
        generalize hF : Vd.jA r false = F at *
        clear oO hP e0 hF
        have Av : Hid (Up wr ((w2.alloc (.cells #[.slice (some ⟨g, 0, none⟩) F.length F.length] 30)).alloc (.cells #[.slice (some ⟨w2.heap.size, 0, none⟩) 1 1] 33))) := (kR.out.alloc _).alloc _
        have HXo : Hid (HB.ok w.heap.size ((w2.alloc (.cells #[.slice (some ⟨g, 0, none⟩) F.length F.length] 30)).alloc (.cells #[.slice (some ⟨w2.heap.size, 0, none⟩) 1 1] 33)) ⟨w2.heap.size, ⟨g, F⟩⟩) :=
          ⟨Nat.le_trans hsz.out kR.out.size, (jr.new w2 _ _).up ((Up.refl _).alloc _), Hq.out.up (((Up.refl _).alloc _).alloc _)⟩
        have NN := jg (HQ.out.up Av.out)
        have HHa := jg (HH.out.up Av.out)
        have hne : Hid (u.ownBlock ≠ some w2.heap.size) := fun e => by have := (jJ HQ.out.own e).2; have := kR.out.size; omega
        have abl : Hid (w.heap.size ≤ w2.heap.size) := Nat.le_trans hsz.out kR.out.size
        have vR : Hid (((w2.alloc (.cells #[.slice (some ⟨g, 0, none⟩) F.length F.length] 30)).alloc (.cells #[.slice (some ⟨w2.heap.size, 0, none⟩) 1 1] 33)).heap[w2.heap.size + 1]? = some (.cells [Value.slice (some ⟨w2.heap.size, 0, none⟩) 1 1].toArray 33 (0, 0))) := by
          have := jr.new (w2.alloc (.cells #[.slice (some ⟨g, 0, none⟩) F.length F.length] 30)) [.slice (some ⟨w2.heap.size, 0, none⟩) 1 1] 33
          unfold jr at this
          rw [show (w2.alloc (.cells #[.slice (some ⟨g, 0, none⟩) F.length F.length] 30)).heap.size = w2.heap.size + 1 by simp] at this
          exact this
        have K6 : Hid (w.heap.size ≤ ((w2.alloc (.cells #[.slice (some ⟨g, 0, none⟩) F.length F.length] 30)).alloc (.cells #[.slice (some ⟨w2.heap.size, 0, none⟩) 1 1] 33)).heap.size) := by
          have := abl.out; simp [Hid]; omega
        obtain ⟨xa, xc, rfl⟩ := jI HH.out.own
        obtain ⟨ua, uc, rfl⟩ := jI HQ.out.own
        go_wp2_with (at_builtin; refine kg Bs rfl (.tmp 23) (.tmp 27) rfl w.heap.size _ _ _ (by rfl) HHa.out.own (w2.heap.size + 1) [.slice (some ⟨w2.heap.size, 0, none⟩) 1 1] (by rfl) rfl vR.out (by intro z hz; simp at hz; subst hz; rfl) hHl.out K6.out ?_; intro g5 vg w5 kq od pq qh; have HH5 := jg (HHa.out.push HXo.out hne.out od kq); have Vp := jg (NN.out.byH HHa.out od); have oT : Hid (Up w w5) := Fr.up (S := fun _ => False) ((Fr.lp (HU.out.trans Av.out)).grown od fun z hz => .inr (jJ HH.out.own hz).1) (fun _ _ h => h); clear kq od pq qh)
        go_roundw
        case rel => exact ⟨k + 1, _, _, Q, _, by go_num, rfl, rfl, by omega, oT, Vp, HH5, afK, afL.out _ rfl⟩
        case measure => simp [intOf]; omega
    · have i2 : ¬ (k : Int) < (l.length : Int) := by omega
      have hkl : k = l.length := by omega
      have HF1 : Hid (Q.map RG.r = (l.take 1).map (Vd.jA · true)) := by have := B9.out; rw [hkl, List.take_length] at this; exact this
      have SJ : Hid ((H.map fun h => h.q.r) = (l.drop 1).map (Vd.jA · false)) := by have := sO.out; rw [hkl, List.take_length] at this; exact this
      have hHl : H.length ≤ 1048576 := by
        have := congrArg List.length SJ.out
        simp only [List.length_map, List.length_drop] at this
        omega
      have hQl : Q.length ≤ 1 := by
        have := congrArg List.length HF1.out
        simp only [List.length_map, List.length_take] at this
        omega
      have HRl : Hid (∀ h ∈ H, h.q.r.length ≤ 1048576) := fun h hh => by
        have : h.q.r ∈ (l.drop 1).map (Vd.jA · false) := by rw [← SJ.out]; exact List.mem_map.2 ⟨h, hh, rfl⟩
        obtain ⟨r, hr, e⟩ := List.mem_map.1 this
        rw [← e]
        exact Gv (HZ.out r (List.mem_of_mem_drop hr))
      have HPF : Hid (∀ Q' : List RG, Q'.map RG.r = Q.map RG.r ++ ((Gu H).map fun h => h.q.r) → Q'.map RG.r = Vd.kn l) := fun Q' hQ' => by
        rw [hQ', HF1.out]
        cases l with
        | nil =>
          have hn : H = [] := by have := congrArg List.length SJ.out; simp at this; exact this
          subst hn
          rfl
        | cons r0 t =>
          have e : Vd.mC t = HB.m H := by
            unfold Vd.mC HB.m
            have := SJ.out
            simp only [List.drop_succ_cons, List.drop_zero] at this
            have h2 := congrArg (List.map fun r : Ring => [r]) this
            simp only [List.map_map] at h2
            exact h2.symm
          show [Vd.jA r0 true] ++ _ = Vd.jA r0 true :: (Vd.kM (Vd.mC t)).flatten
          rw [e, Qx, Vo]; rfl
      have HIO := jg (DM _ (HB.m H) (H.map HB.v) wr HH.out.rd.1 HH.out.rd.2 (by rw [List.length_map, HB.og]) (by rw [HB.og]; exact hHl) (fun p hp => by unfold HB.m at hp; obtain ⟨h, _, rfl⟩ := List.mem_map.1 hp; simp) (fun p hp r hr => by unfold HB.m at hp; obtain ⟨h, hh, rfl⟩ := List.mem_map.1 hp; rw [List.mem_singleton.1 hr]; exact HRl.out h hh))
      rw [Vn, HB.og] at HIO
      clear hkl B9 sO
      obtain ⟨xa, xc, rfl⟩ := jI HH.out.own
      obtain ⟨ua, uc, rfl⟩ := jI HQ.out.own
      go_wp2_with fail
      refine HIO.out.mono ?_
      rintro e w2 ⟨G, rfl, hG, Zq, oO⟩
      have kR := jg (HU.out.trans oO)
      have HQ2 := jg (HQ.out.up oO)
      have DA : Hid (∀ h ∈ Gu H, h.ok w.heap.size w2 ∧ (Value.slice ua Q.length uc).ownBlock ≠ some h.p) := fun h hh => ⟨(HH.out.ok h (NM hh)).up oO, HH.out.ne h (NM hh)⟩
      have hOl : (Gu H).length = H.length := BW H
      have KB := jg Zq
      have HGn : Hid ((Value.slice ua Q.length uc).ownBlock ≠ some G) := fun e => by have := (jJ HQ.out.own e).2; omega
      generalize Gu H = O at *
      clear hG Zq oO HIO HH HF1 SJ HQ HU HRl
      go_wp2
      go_loopw [3, 33] (fun fv i wq => ∃ (t : Nat) (u : Value) (Q' : List RG), i = .int .i64 t ∧ u = fv ∧ t ≤ H.length ∧ Hid (Up w wq) ∧ Hid (QF w.heap.size wq u Q') ∧ Hid (jr wq G 33 (O.map HB.v)) ∧ Hid (u.ownBlock ≠ some G) ∧ Hid (∀ h ∈ O, h.ok w.heap.size wq ∧ u.ownBlock ≠ some h.p) ∧ Hid (Q'.map RG.r = Q.map RG.r ++ ((O.take t).map fun h => h.q.r))) (fun _ i _ => H.length - (intOf i).toNat)
      case atStart => exact ⟨0, _, Q, rfl, rfl, Nat.zero_le _, kR, HQ2, KB, HGn, DA, by simp [Hid]⟩
      case round =>
        clear kR HQ2 KB HGn DA
        obtain ⟨t, u, Q', rfl, rfl, ht, HU, HQ, KB, HGn, HK, HE⟩ := hrel
        by_cases uo : t < H.length
        · obtain ⟨h, hh⟩ := Pl.ji (show t < O.length by omega)
          have e0 := KB.out.cell (i := t) (v := h.v) (by rw [List.getElem?_map, hh]; rfl)
          have Hk := jg (HK.out h (Pl.jh hh))
          have HEn : Hid ((Q' ++ [h.q]).map RG.r = Q.map RG.r ++ ((O.take (t + 1)).map fun h => h.q.r)) := by rw [Pl.take_one hh, List.map_append, HE.out, List.map_append, List.append_assoc]; exact rfl
          have am2 : Hid (Q'.length ≤ 1073741824) := by
            have := congrArg List.length HE.out
            simp only [List.length_map, List.length_append, List.length_take] at this
            show _ ≤ _; omega
          have K6 : Hid (w.heap.size ≤ wr.heap.size) := HU.out.size
          have vR : Hid (wr.heap[h.p]? = some (.cells [h.q.v].toArray 30 (0, 0))) := Hk.out.1.2.1
          have j1 : (0 : Int) ≤ (t : Int) := by omega
          have j2 : (t : Int) < (H.length : Int) := by omega
          rw [HB.v] at e0
          obtain ⟨ua', uc', rfl⟩ := jI HQ.out.own
          clear hh
          go_wp2_with (at_builtin; refine kg sD rfl (.tmp 37) (.tmp 38) rfl w.heap.size _ _ _ (by rfl) HQ.out.own h.p [h.q.v] (by rfl) rfl vR.out (by intro z hz; simp at hz; subst hz; rfl) am2.out K6.out ?_; intro g5 vg w5 kq od pq qh; have Vp := jg (HQ.out.push Hk.out.1.2.2 od kq); have oT : Hid (Up w w5) := Fr.up (S := fun _ => False) ((Fr.lp HU.out).grown od fun z hz => .inr (jJ HQ.out.own hz).1) (fun _ _ h => h); have HR5 := jg (KB.out.grown od HGn.out); have HG5 : Hid ((Value.slice (some ⟨g5, 0, none⟩) (Q'.length + 1) vg).ownBlock ≠ some G) := (fun e => by have hlt := KB.out.lt; have e' : g5 = G := Option.some.inj e; rcases pq with e2 | e2; exact HGn.out (e' ▸ e2); omega); have HK5 : Hid (∀ h ∈ O, h.ok w.heap.size w5 ∧ (Value.slice (some ⟨g5, 0, none⟩) (Q'.length + 1) vg).ownBlock ≠ some h.p) := (fun x hx => ⟨(HK.out x hx).1.byF HQ.out (HK.out x hx).2 od, fun e => by have hlt : x.p < wr.heap.size := (HK.out x hx).1.2.1.lt; have e' : g5 = x.p := Option.some.inj e; rcases pq with e2 | e2; exact (HK.out x hx).2 (e' ▸ e2); omega⟩); clear kq od pq qh)
          go_roundw
          case rel => exact ⟨t + 1, _, _, by go_num, rfl, by omega, oT, Vp, HR5, HG5, HK5, HEn⟩
          case measure => simp [intOf]; omega
        · have j2 : ¬ (t : Int) < (H.length : Int) := by omega
          have HR := jg (HPF.out Q' (by rw [HE.out, List.take_of_length_le (by omega)]))
          go_wp2
          go_ret
          exact ⟨_, rfl, Q', HQ.out, HR.out, HU.out⟩
structure PG where
 v:Value
 q:List RG
def PG.l(x:PG):Poly:=x.q.map RG.r
structure QP(base:Nat)(w:World)(v:Value)(X:List PG):Prop where
 own:w.ownsRow base 33 1 v X.length (X.map PG.v)
 ok:∀x∈X,QF base w x.v x.q
theorem QF.base{base base':Nat}{w:World}{v:Value}{Q:List RG}(h:QF base w v Q)(hb:base'<=base):QF base' w v Q:=⟨ug h.own hb,fun q hq=>⟨cg hb (h.ok q hq).1,(h.ok q hq).2⟩⟩
theorem QF.byP{base base' n:Nat}{w w':World}{v u:Value}{Q:List RG}{xs:List Value}(h:QF base w v Q)(k:w.ownsRow base' 33 1 u n xs)(hg:w.grownBy w' u.ownBlock):QF base w' v Q:=⟨vQ h.own k (by decide) hg,fun x hx=>(h.ok x hx).grown k (by decide) hg⟩
theorem QP.nil(base:Nat)(w:World):QP base w (.slice none 0 0) []:=⟨World.ownsRow_nil _ _ _ _,fun q hq=>by simp at hq⟩
theorem QP.up{base:Nat}{w w':World}{v:Value}{X:List PG}(h:QP base w v X)(k:Up w w'):QP base w' v X:=⟨kL h.own k,fun q hq=>(h.ok q hq).up k⟩
theorem QP.push{base:Nat}{w w':World}{v:Value}{X:List PG}{x:PG}{g cap:Nat}(h:QP base w v X)(hx:QF base w x.v x.q)(hg:w.grownBy w' v.ownBlock)(hown:w'.ownsRow base 33 1 (.slice (some ⟨g,0,none⟩) (X.length+1) cap) (X.length+1) (X.map PG.v++[x.v])):QP base w' (.slice (some ⟨g,0,none⟩) (X.length+1) cap) (X++[x]):=by
 refine⟨by rw[aH,ah];exact hown,fun y hy=>?_⟩;rcases aD.1 hy with hy|hy;{exact(h.ok y hy).byP h.own hg};·rw[bF.1 hy];exact hx.byP h.own hg
theorem QF.rc{base:Nat}{w:World}{v:Value}{Q:List RG}(h:QF base w v Q):VH w v (Q.map RG.r):=by
 obtain⟨ao,cap,e⟩:=jI h.own;refine⟨ao,cap,by rw[e,aA],?_,fun i r hr=>?_⟩;{rw[aA];rcases h.own.2 with⟨e2,h0⟩|⟨g,cap',cur,e2,hb,hh,hc⟩;{rw[h0];exact au _};·rw[e]at e2;cases e2;exact hc.1};·rw[aB,bI]at hr;obtain⟨q,hq,rfl⟩:=hr;obtain⟨g,cap',e',hc⟩:=ku h.own (by have:=Pl.jo hq;omega);rw[e]at e';cases e';exact⟨g,q.v,rfl,hc i _ (by rw[aB,hq];rfl),(h.ok q (Pl.jh hq)).rd⟩
namespace Vd
theorem SU{m:jy}{x:Poly}(h:x∈kM m):x∈m:=by
 obtain⟨j,hj⟩:=eK h;have hl:=Pl.jo hj;rw[sr]at hl;obtain⟨i,hi,e⟩:=xW (m:=m) hl;have:=wM m hi;rw[e,hj]at this;cases this;obtain⟨l,hl⟩:=Pl.ji hi;unfold mS;rw[az,hl];exact Pl.jh hl
theorem KI{l:Poly}{x:Ring}(h:x∈kn l):∃r∈l,∃b,x=jA r b:=by cases l with|nil=>simp[kn]at h|cons r0 t=>rw[kn]at h;rcases aE.1 h with rfl|h;{exact⟨r0,by simp,true,rfl⟩};·obtain⟨p,hp,hx⟩:=cE.1 h;obtain⟨r,hr,rfl⟩:=aO.1 (SU hp);exact⟨r,by simp[hr],false,bF.1 hx⟩
theorem KJ{m:jy}(h:∀x∈m,x.length=1):m.flatten.length=m.length:=by induction m with|nil=>rfl|cons a t ih=>rw[fH,ah,h a (by simp),ih fun x hx=>h x (by simp[hx]),aX];omega
theorem KL(l:Poly):(kn l).length=l.length:=by cases l with|nil=>rfl|cons r0 t=>rw[kn,aX,aX,KJ,sr];{unfold mC;rw[aA]};·intro x hx;obtain⟨r,_,rfl⟩:=aO.1 (SU hx);rfl
end Vd
def PG.m(X:List PG):jy:=X.map PG.l
theorem PG.og(X:List PG):(PG.m X).length=X.length:=by simp[PG.m]
theorem QP.rd{base:Nat}{w:World}{v:Value}{X:List PG}(h:QP base w v X):pR w v (PG.m X)∧Vls w v (X.map PG.v):=by
 obtain⟨ao,cap,e⟩:=jI h.own;have key:∀i x,X[i]?=some x->∃g,ao=some ⟨g,0,none⟩∧w.cell? ⟨g,i,none⟩=some x.v:=fun i x hx=>(by obtain⟨g,cap',e',hc⟩:=ku h.own (by have:=Pl.jo hx;omega);rw[e]at e';cases e';exact⟨g,rfl,hc i _ (by rw[aB,hx];rfl)⟩);constructor;{refine⟨ao,cap,by rw[e,PG.og],fun i l hl=>?_⟩;unfold PG.m at hl;rw[aB,bI]at hl;obtain⟨x,hx,rfl⟩:=hl;obtain⟨g,eg,c⟩:=key i x hx;exact⟨g,x.v,eg,c,(h.ok x (Pl.jh hx)).rc.rd⟩};·refine⟨ao,cap,by rw[e,aA],fun i u hu=>?_⟩;rw[aB,bI]at hu;obtain⟨x,hx,rfl⟩:=hu;obtain⟨g,eg,c⟩:=key i x hx;exact⟨g,eg,c⟩
def Gw(X:List PG):List PG:=Vd.JS (fun i=>Vd.oK (PG.m X) i X.length) (fun i=>X.getD i ⟨.slice none 0 0,[]⟩) (List.replicate X.length ⟨.slice none 0 0,[]⟩) X.length
theorem BX(X:List PG):(Gw X).length=X.length:=by
 unfold Gw;rw[Vd.vv];simp
theorem KN{X:List PG}{j:Nat}(hj:j<X.length):∃(i:Nat)(x:PG),X[i]?=some x∧Vd.oK (PG.m X) i X.length=j∧(Gw X)[j]?=some x:=by
 obtain⟨i,hi,e⟩:=Vd.xW (m:=PG.m X) hj;obtain⟨x,hx⟩:=Pl.ji hi;refine⟨i,x,hx,e,?_⟩;rw[←e];unfold Gw;rw[Vd.Eo (f:=fun i=>Vd.oK (PG.m X) i X.length) (N:=X.length) (fun i h=>by simpa using Vd.qM h) (fun i k h1 h2=>Vd.yP h1 h2) X.length (bA _) i hi,az,hx];rfl
theorem Zr{X:List PG}{x:PG}(h:x∈Gw X):x∈X:=by
 obtain⟨j,hj⟩:=eK h;have:=Pl.jo hj;rw[BX]at this;obtain⟨i,y,hy,-,e⟩:=KN this;rw[hj]at e;cases e;exact Pl.jh hy
theorem Vq(X:List PG):Db (PG.m X) (X.map PG.v) (PG.m X).length=(Gw X).map PG.v:=by
 refine cT fun j=>?_;rcases bH j X.length with hj|hj;{obtain⟨i,x,hx,e,ho⟩:=KN hj;rw[aB,ho];have:=SS (m:=PG.m X) (us:=X.map PG.v) (i:=i) (by rw[PG.og];exact Pl.jo hx);rw[PG.og,e]at this;rw[PG.og,this,Da (u:=x.v) (by rw[aB,hx];rfl)];rfl};·rw[aW (by rw[Gt,PG.og];exact hj),aW (by rw[aA,BX];exact hj)]
theorem Qy(X:List PG):Vd.kM (PG.m X)=(Gw X).map PG.l:=by
 refine cT fun j=>?_;rcases bH j X.length with hj|hj;{obtain⟨i,x,hx,e,ho⟩:=KN hj;rw[aB,ho];have:=Vd.wM (PG.m X) (i:=i) (by rw[PG.og];exact Pl.jo hx);rw[PG.og,e]at this;rw[this];have h2:(PG.m X)[i]?=some x.l:=(by unfold PG.m;rw[aB,hx];rfl);rw[qZ h2];rfl};·rw[aW (by rw[Vd.sr,PG.og];exact hj),aW (by rw[aA,BX];exact hj)]
structure FZ(m:jy):Prop where
 len:m.length<=1048576
 poly:∀l∈m,l.length<=1048576
 ring:∀l∈m,∀r∈l,RZ r
structure NS(base:Nat)(w:World)(G:Nat)(X:List PG):Prop where
 low:base<=G
 row:jr w G 33 (X.map PG.v)
 ok:∀x∈X,QF base w x.v x.q
theorem Zs(v:Value)(m:jy)(w:World)(hv:pR w v m)(hz:FZ m):Calls Tryz.prog 93 #[v] w fun e w'=>∃(G:Nat)(X:List PG),e=.returned (.slice (some ⟨G,0,none⟩) X.length X.length)∧NS w.heap.size w' G X∧PG.m X=Vd.form m∧Up w w':=by
 obtain⟨ao,cap,rfl,hm⟩:=hv;have HM:=jg hm;have HZ:=jg hz;have hl:=hz.len;have HDf:Hid (Vd.form m=Vd.kM (m.map Vd.kn)):=rfl;clear hm hz;go_enter Tryz.func93,Tryz.ntmps93;go_wp2;go_loopw[3,8](fun fv i wr=>∃(k:Nat)(u:Value)(X:List PG),i=.int .i64 k∧u=fv∧k<=m.length∧Hid (Up w wr)∧Hid (QP w.heap.size wr u X)∧Hid (PG.m X=(m.take k).map Vd.kn))(fun _ i _=>m.length-(intOf i).toNat);(case atStart=>exact⟨0,_,[],rfl,rfl,au _,Up.refl _,QP.nil _ _,rfl⟩);case round=>obtain⟨k,u,X,rfl,rfl,hk,HU,HQ,HE⟩:=hrel;have hXl:X.length=k:=(by have:=bh List.length HE.out;rw[PG.og,aA,bE]at this;omega);by_cases hlt:k<m.length;{obtain⟨l,hr⟩:=Pl.ji hlt;obtain⟨b,y,rfl,cy,hy⟩:=HM.out k l hr;have e0:=HU.out.cell cy;have HKp:=jg (Ea y l wr (hy.up HU.out) (HZ.out.poly l (Pl.jh hr)) (HZ.out.ring l (Pl.jh hr)));have HEn:Hid (∀x:PG,x.l=Vd.kn l->PG.m (X++[x])=(m.take (k+1)).map Vd.kn):=fun x hx=>(by unfold PG.m at*;rw[aH,HE.out,Pl.take_one hr,aH];simp[hx]);have i1:(0:Int)<=(k:Int):=(by omega);have i2:(k:Int)<(m.length:Int):=(by omega);have hsz:Hid (w.heap.size<=wr.heap.size):=HU.out.size;have hXb:Hid (X.length<=1073741824):=(by show _<=_;omega);clear hr cy hy hXl;go_wp2_with fail;refine HKp.out.mono ?_;rintro e w2⟨fv,Q,rfl,hQF,hQe,oO⟩;have kR:=jg oO;have HQF:=jg (hQF.base hsz.out);have HQe:=jg hQe;obtain⟨fa,fc,rfl⟩:=jI hQF.own;clear oO hQF hQe e0 HKp;have Av:Hid (Up wr (w2.alloc (.cells #[.slice fa Q.length fc] 33))):=kR.out.alloc _;have HFa:Hid (QF w.heap.size (w2.alloc (.cells #[.slice fa Q.length fc] 33)) (.slice fa Q.length fc) Q):=HQF.out.up ((Up.refl _).alloc _);have NN:=jg (HQ.out.up Av.out);have vR:Hid ((w2.alloc (.cells #[.slice fa Q.length fc] 33)).heap[w2.heap.size]?=some (.cells [Value.slice fa Q.length fc].toArray 33 (0,0))):=jr.new w2 [.slice fa Q.length fc] 33;have K6:Hid (w.heap.size<=(w2.alloc (.cells #[.slice fa Q.length fc] 33)).heap.size):=(by have:=cg hsz.out kR.out.size;simp[Hid];omega);obtain⟨ua,uc,rfl⟩:=jI HQ.out.own;go_wp2_with(at_builtin;refine kg Bs rfl (.tmp 12) (.tmp 15) rfl w.heap.size _ _ _ (by rfl) NN.out.own w2.heap.size [.slice fa Q.length fc] (by rfl) rfl vR.out (by intro z hz;simp at hz;subst hz;rfl) hXb.out K6.out ?_;intro g5 vg w5 kq od pq qh;have Vp:=jg (NN.out.push (x:=⟨.slice fa Q.length fc,Q⟩) HFa.out od kq);have oT:Hid (Up w w5):=Fr.up (S:=fun _=>False) ((Fr.lp (HU.out.trans Av.out)).grown od fun z hz=>.inr (jJ HQ.out.own hz).1) (fun _ _ h=>h);clear kq od pq qh);go_roundw;(case rel=>exact⟨k+1,_,_,by go_num,rfl,by omega,oT,Vp,HEn.out _ HQe.out⟩);case measure=>simp[intOf];omega};·have i2:¬(k:Int)<(m.length:Int):=(by omega);have HEf:Hid (PG.m X=m.map Vd.kn):=(by have:=HE.out;rw[show k=m.length by omega,aL]at this;exact this);have HIO:=jg (DM _ (PG.m X) (X.map PG.v) wr HQ.out.rd.1 HQ.out.rd.2 (by rw[aA,PG.og]) (by rw[PG.og];omega) (fun p hp=>by rw[HEf.out]at hp;obtain⟨l,hl,rfl⟩:=aO.1 hp;rw[Vd.KL];exact HZ.out.poly l hl) (fun p hp r hr=>by rw[HEf.out]at hp;obtain⟨l,hl,rfl⟩:=aO.1 hp;obtain⟨r0,DY,b,rfl⟩:=Vd.KI hr;exact Gv (HZ.out.ring l hl r0 DY)));rw[Vq,PG.og]at HIO;have HRf:Hid (PG.m (Gw X)=Vd.form m):=(by rw[HDf.out,←HEf.out,Qy];exact rfl);have hOl:(Gw X).length=X.length:=BX X;have HOk:Hid (∀x∈Gw X,QF w.heap.size wr x.v x.q):=fun x hx=>HQ.out.ok x (Zr hx);have hsz:Hid (w.heap.size<=wr.heap.size):=HU.out.size;obtain⟨ua,uc,rfl⟩:=jI HQ.out.own;generalize Gw X=O at*;clear hXl;go_wp2_with fail;refine HIO.out.mono ?_;rintro e w2⟨G,rfl,hG,Zq,oO⟩;have HN:Hid (NS w.heap.size w2 G O):=⟨cg hsz.out hG,Zq,fun x hx=>(HOk.out x hx).up oO⟩;have kR:=jg (HU.out.trans oO);rw[←hOl];clear hG Zq oO HIO;go_wp2;go_ret;exact⟨G,O,by rw[hOl];rfl,HN.out,HRf.out,kR.out⟩
theorem BZ(v:Value)(m:jy)(w:World)(g:Nat)(u:Value)(hs:sN w v m g u)(hz:Sz m)(hv:Vd.least m≠0):Calls Tryz.prog 57 #[v] w fun e w'=>e=.returned (.tuple #[.pointer none,.int .i64 7])∧Up w w':=by
 have HK:=jg (Gj (aC hv) hs hz);obtain⟨rfl,-,-⟩:=hs;clear hz hv;go_enter Tryz.func57,Tryz.ntmps57;go_wp2_with fail;refine HK.out.mono ?_;rintro e w2⟨rfl,hu⟩;replace hu:=jg hu;go_wp2;go_ret2;exact⟨rfl,hu.out⟩
theorem B0(v:Value)(m:jy)(w:World)(g:Nat)(u:Value)(hs:sN w v m g u)(hz:Sz m)(hf:FZ m)(hv:Vd.least m=0):Calls Tryz.prog 57 #[v] w fun e w'=>∃(b G:Nat)(X:List PG),e=.returned (.tuple #[.pointer (some ⟨b,0,none⟩),.int .i64 0])∧w.heap.size<=b∧jr w' b 78 [.slice (some ⟨G,0,none⟩) X.length X.length]∧NS w.heap.size w' G X∧PG.m X=Vd.form m∧Up w w':=by
 have HK:=jg (Gj (aq hv) hs hz);have HS:=jg hs;have HF:=jg hf;obtain⟨rfl,-,-⟩:=hs;obtain⟨ua,uc,rfl,-⟩:=HS.out.rd;clear hz hv hf;go_enter Tryz.func57,Tryz.ntmps57;go_wp2_with fail;refine HK.out.mono ?_;rintro e w2⟨rfl,hu⟩;have HU:=jg hu;have c0:=((HS.out.up hu).cell).cell (i:=0) rfl;have HFm:=jg (Zs _ m w2 (HS.out.rd.up hu) HF.out);clear hu HK;go_wp2_with fail;refine HFm.out.mono ?_;rintro e w3⟨G,X,rfl,hN,hE,zu⟩;have kV:=jg (HU.out.trans zu);have hb:Hid (w.heap.size<=w2.heap.size):=HU.out.size;have HN:Hid (NS w.heap.size (w3.alloc (.cells #[.slice (some ⟨G,0,none⟩) X.length X.length] 78)) G X):=⟨cg hb.out hN.low,hN.row.up ((Up.refl _).alloc _),fun x hx=>((hN.ok x hx).base hb.out).up ((Up.refl _).alloc _)⟩;have HE:=jg hE;have HR:=jg (jr.new w3 [.slice (some ⟨G,0,none⟩) X.length X.length] 78);have hs3:Hid (w.heap.size<=w3.heap.size):=kV.out.size;clear hN hE zu HFm c0;go_wp2;go_ret2;exact⟨w3.heap.size,G,X,rfl,hs3.out,HR.out,HN.out,HE.out,kV.out.alloc _⟩
theorem afN{base:Nat}{w:World}{G:Nat}{X:List PG}(h:NS base w G X):pR w (.slice (some ⟨G,0,none⟩) X.length X.length) (PG.m X):=by
 refine⟨_,_,by rw[PG.og],fun i l hl=>?_⟩;unfold PG.m at hl;rw[aB,bI]at hl;obtain⟨x,hx,rfl⟩:=hl;exact⟨G,x.v,rfl,h.row.cell (by rw[aB,hx];rfl),(h.ok x (Pl.jh hx)).rc.rd⟩
def AA(w:World):Prop:=Lib.TabIs Tryz.prog w "internal/strconv.uint64pow10" .u64 Lib.pow10Tab
theorem AA.up{w w':World}(h:AA w)(k:Up w w'):AA w':=by
 unfold AA Lib.TabIs World.var? at*;generalize Tryz.prog.globalNamed "internal/strconv.uint64pow10" =o at*;cases o with|none=>simp at h|some g=>simp only[iJ]at h⊢;have hg:g<w.heap.size:=(by rcases bH g w.heap.size with e|e;{exact e};·rw[iE e]at h;simp at h);rw[k.block g hg];exact h
theorem Zt(w:World)(os:Array Obj):Up w (Go.Sort.grow w os):=⟨rfl,rfl,rfl,by simp[Go.Sort.grow],fun b hb=>by simp[Go.Sort.grow,Array.getElem?_append_left hb]⟩
theorem G8(n:Int)(h0:-9223372036854775808<=n)(h1:n<=9223372036854775807)(w:World)(ht:AA w):Calls Tryz.prog 137 #[.int .i64 n,.int .i64 10] w fun e w'=>e=.returned (.string (bs (Lib.itoa n)))∧Up w w':=(Tryz.strconv_FormatInt_10 n h0 h1 w ht).mono fun e w'⟨h1,k,os,h2⟩=>⟨by rw[h1];rfl,by rw[h2];exact((Up.refl w).drewN k).trans (Zt _ os)⟩
theorem AD(n:Int)(h0:-9223372036854775808<=n)(h1:n<=9223372036854775807)(w:World)(ht:AA w):Calls Tryz.prog 98 #[.int .i64 n] w fun e w'=>e=.returned (.string (bs (Lib.itoa n)))∧Up w w':=by
 have HK:=jg (G8 n h0 h1 w ht);clear h0 h1 ht;generalize bs (Lib.itoa n)=s at*;go_enter Tryz.func98,Tryz.ntmps98;go_wp2_with fail;refine HK.out.mono ?_;rintro e w2⟨rfl,hu⟩;replace hu:=jg hu;go_wp2;go_ret;exact⟨rfl,hu.out⟩
def Fit(p:Vd.jC):Prop:=((-9223372036854775808<=p.1.1∧p.1.1<=9223372036854775807)∧(-9223372036854775808<=p.1.2∧p.1.2<=9223372036854775807))∧-9223372036854775808<=p.2∧p.2<=9223372036854775807
theorem acy{p:Vd.jC}{u:jk}(hp:Mp p)(hu:rU 65536 u):∀(l:List Vd.jK)(n:Int),(∀s∈l,Vd.tB s)->1<=n->n<=17179869185->1<=l.foldl (Vd.tO p u) n∧l.foldl (Vd.tO p u) n<=17179869185:=by
 intro l;induction l with|nil=>intro n _ h1 h2;exact⟨h1,h2⟩|cons s t ih=>intro n hl h1 h2;have hb:=Gp hp hu (hl s (by simp));rw[dO];refine ih _ (fun s hs=>hl s (cH _ hs)) ?_ ?_;{unfold Vd.tO;split<;>omega};·unfold Vd.tO;split<;>omega
theorem Gx{both:List Vd.jK}{p:Vd.jC}{u:jk}(hp:Mp p)(hu:rU 65536 u)(hc:∀s∈both,Vd.tB s):Fit (Vd.near both p u):=by
 obtain⟨n1,n2⟩:=acy hp hu both 1 hc (by omega) (by omega);unfold Vd.near Vd.VY;generalize both.foldl (Vd.tO p u) 1=n at*;obtain⟨⟨x1,x2⟩,⟨y1,y2⟩,t1,t2⟩:=hp;obtain⟨⟨u1,u2⟩,u3,u4⟩:=hu;have m1:=jW (a:=p.1.1) (b:=n) (A:=65536) (B:=17179869185) (by omega) (by omega) (by omega) (by omega);have m2:=jW (a:=p.1.2) (b:=n) (A:=65536) (B:=17179869185) (by omega) (by omega) (by omega) (by omega);have m3:=jW (a:=p.2) (b:=n) (A:=2) (B:=17179869185) (by omega) (by omega) (by omega) (by omega);have m4:=jW (a:=p.2) (b:=u.1) (A:=2) (B:=65536) (by omega) (by omega) (by omega) (by omega);have m5:=jW (a:=p.2) (b:=u.2) (A:=2) (B:=65536) (by omega) (by omega) (by omega) (by omega);unfold Fit;simp only;omega
theorem Zu{o:jy}{both:List Vd.jK}{s:Vd.jK}{m:Vd.jC}(hm:Mp m)(hs:Vd.tB s)(hc:∀s∈both,Vd.tB s):∀(l:List Vd.jK),(∀t∈l,Vd.tB t)->∀p,Vd.p8 o both s m l=some p->Fit p:=by
 have hmf:Fit m:=(by obtain⟨⟨x1,x2⟩,⟨y1,y2⟩,t1,t2⟩:=hm;unfold Fit;omega);intro l;induction l with|nil=>intro _ p h;rw[Jl]at h;split at h;{cases h;exact Gx hm (Jj (lF hs)) hc};{cases h;exact hmf}|cons t k ih=>intro hl p h;rw[Gq]at h;split at h;{unfold Vd.uU at h;split at h;{cases h;exact Gx hm (lF (hl t (by simp))) hc};·split at h;{cases h;exact Gx hm (SQ (lF (hl t (by simp)))) hc};·cases h};·exact ih (fun t ht=>hl t (cH _ ht)) p h
theorem Gy{a b:jy}(za:Jn a)(zb:Jn b){p:Vd.jC}(h:Vd.mw a b=some p):Fit p:=by
 unfold Vd.mw at h;obtain⟨s,hs,h⟩:=fk h;obtain⟨m,hm,h⟩:=fk h;have hS:=vO za.cd s hs;have hC:=(za.r2 zb).cd;exact Zu (SR hS hC m hm) hS (vO hC) _ (vO zb.cd) p h
theorem Zv{a b:jy}(za:Jn a)(zb:Jn b){p:Vd.jC}(h:Vd.spot a b=some p):Fit p:=by
 unfold Vd.spot at h;split at h;{rename_i q hq;cases h;exact Gy za zb hq};·exact Gy zb za h
def afO:Option Vd.jC->Value|none=>.tuple #[.string ⟨#[]⟩,.string ⟨#[]⟩,.string ⟨#[]⟩,.int .i64 8]|some p=>.tuple #[.string (bs (Lib.itoa p.1.1)),.string (bs (Lib.itoa p.1.2)),.string (bs (Lib.itoa p.2)),.int .i64 0]
end Go.Proofs.YtcclepohmhdpbaaGreatDoor
