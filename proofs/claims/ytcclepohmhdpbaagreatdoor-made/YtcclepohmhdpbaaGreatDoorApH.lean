import Derived.Test.YtcclepohmhdpbaaGreatDoorCnE
import Derived.Test.YtcclepohmhdpbaaGreatDoorLaw
import Derived.Test.YtcclepohmhdpbaaGreatDoorInv
import Derived.Test.YtcclepohmhdpbaaGreatDoorBgK
import Derived.Test.YtcclepohmhdpbaaGreatDoorShelf
set_option maxHeartbeats 8000000
set_option maxRecDepth 8000
namespace Go.Proofs.YtcclepohmhdpbaaGreatDoor
set_option linter.all false
open Go.RowKit Go.Deep
structure RG where
 g:Nat
 r:Ring
def RG.v(q:RG):Value:=.slice (some ⟨q.g,0,none⟩) q.r.length q.r.length
def RG.ok(base:Nat)(w:World)(q:RG):Prop:=base<=q.g∧o6 w q.g q.r
theorem RG.ok.up{base:Nat}{w w':World}{q:RG}(h:q.ok base w)(k:Up w w'):q.ok base w':=⟨h.1,jK.up h.2 k⟩
theorem RG.ok.grown{base base' n:Nat}{w w':World}{q:RG}{v:Value}{xs:List Value}{e:TypeId}(h:q.ok base w)(ho:w.ownsRow base' e 1 v n xs)(he:e≠32)(hg:w.grownBy w' v.ownBlock):q.ok base w':=⟨h.1,jK.grown h.2 hg (jO ho h.2 he)⟩
structure QF(base:Nat)(w:World)(v:Value)(Q:List RG):Prop where
 own:w.ownsRow base 30 1 v Q.length (Q.map RG.v)
 ok:∀q∈Q,q.ok base w
theorem QF.up{base:Nat}{w w':World}{v:Value}{Q:List RG}(h:QF base w v Q)(k:Up w w'):QF base w' v Q:=⟨lM h.own k,fun q hq=>(h.ok q hq).up k⟩
structure HB where
 p:Nat
 q:RG
def HB.v(h:HB):Value:=.slice (some ⟨h.p,0,none⟩) 1 1
def HB.ok(base:Nat)(w:World)(h:HB):Prop:=base<=h.p∧jK w h.p 30 [h.q.v]∧h.q.ok base w
theorem HB.ok.up{base:Nat}{w w':World}{q:HB}(h:q.ok base w)(k:Up w w'):q.ok base w':=⟨h.1,h.2.1.up k,h.2.2.up k⟩
structure QH(base:Nat)(w:World)(fv v:Value)(H:List HB):Prop where
 own:w.ownsRow base 33 1 v H.length (H.map HB.v)
 ok:∀h∈H,h.ok base w
 ne:∀h∈H,fv.ownBlock≠some h.p
theorem QH.up{base:Nat}{w w':World}{fv v:Value}{H:List HB}(h:QH base w fv v H)(k:Up w w'):QH base w' fv v H:=⟨lM h.own k,fun q hq=>(h.ok q hq).up k,h.ne⟩
theorem xP{base base' n n' s s':Nat}{w w':World}{v v':Value}{xs xs':List Value}{e e':TypeId}(h:w.ownsRow base e s v n xs)(ho:w.ownsRow base' e' s' v' n' xs')(he:e≠e')(hg:w.grownBy w' v'.ownBlock):w'.ownsRow base e s v n xs:=mE h fun g hb=>hg.block g (j8 h hb).2 (fun e2=>L0 h ho he hb e2.symm)
theorem QF.push{base:Nat}{w w':World}{v:Value}{Q:List RG}{q:RG}{g cap:Nat}(h:QF base w v Q)(hq:q.ok base w)(hg:w.grownBy w' v.ownBlock)(hown:w'.ownsRow base 30 1 (.slice (some ⟨g,0,none⟩) (Q.length+1) cap) (Q.length+1) (Q.map RG.v++[q.v])):QF base w' (.slice (some ⟨g,0,none⟩) (Q.length+1) cap) (Q++[q]):=by
 refine⟨by rw[aJ,aj];exact hown,fun x hx=>?_⟩;rcases aC.1 hx with hx|hx;{exact(h.ok x hx).grown h.own (by decide) hg};·rw[bB.1 hx];exact hq.grown h.own (by decide) hg
theorem QF.byH{base:Nat}{w w':World}{fv v:Value}{Q:List RG}{H:List HB}(h:QF base w fv Q)(k:QH base w fv v H)(hg:w.grownBy w' v.ownBlock):QF base w' fv Q:=⟨xP h.own k.own (by decide) hg,fun x hx=>(h.ok x hx).grown k.own (by decide) hg⟩
theorem HB.ok.byF{base:Nat}{w w':World}{fv:Value}{Q:List RG}{h:HB}(k:h.ok base w)(hf:QF base w fv Q)(hne:fv.ownBlock≠some h.p)(hg:w.grownBy w' fv.ownBlock):h.ok base w':=⟨k.1,k.2.1.grown hg hne,k.2.2.grown hf.own (by decide) hg⟩
theorem QH.byF{base:Nat}{w w':World}{fv v:Value}{Q:List RG}{H:List HB}{g cap n:Nat}(k:QH base w fv v H)(h:QF base w fv Q)(hg:w.grownBy w' fv.ownBlock)(AY:fv.ownBlock=some g∨g=w.heap.size):QH base w' (.slice (some ⟨g,0,none⟩) n cap) v H:=by
 refine⟨xP k.own h.own (by decide) hg,fun x hx=>(k.ok x hx).byF h (k.ne x hx) hg,fun x hx e=>?_⟩;have hlt:x.p<w.heap.size:=jK.lt (k.ok x hx).2.1;have e':g=x.p:=aO e;rcases AY with e2|e2;{exact k.ne x hx (e'▸e2)};·omega
theorem QH.push{base:Nat}{w w':World}{fv v:Value}{H:List HB}{x:HB}{g cap:Nat}(h:QH base w fv v H)(hx:x.ok base w)(hne:fv.ownBlock≠some x.p)(hg:w.grownBy w' v.ownBlock)(hown:w'.ownsRow base 33 1 (.slice (some ⟨g,0,none⟩) (H.length+1) cap) (H.length+1) (H.map HB.v++[x.v])):QH base w' fv (.slice (some ⟨g,0,none⟩) (H.length+1) cap) (H++[x]):=by
 refine⟨by rw[aJ,aj];exact hown,fun y hy=>?_,fun y hy=>?_⟩;{have one:∀y:HB,y.ok base w->y.ok base w':=fun y k=>⟨k.1,k.2.1.grown hg (jO h.own k.2.1 (by decide)),k.2.2.grown h.own (by decide) hg⟩;rcases aC.1 hy with hy|hy;{exact one y (h.ok y hy)};·rw[bB.1 hy];exact one x hx};·rcases aC.1 hy with hy|hy;{exact h.ne y hy};·rw[bB.1 hy];exact hne
theorem QF.nil(base:Nat)(w:World):QF base w (.slice none 0 0) []:=⟨World.ownsRow_nil _ _ _ _,fun q hq=>by simp at hq⟩
theorem QH.nil(base:Nat)(w:World):QH base w (.slice none 0 0) (.slice none 0 0) []:=⟨World.ownsRow_nil _ _ _ _,fun q hq=>by simp at hq,fun q hq=>by simp at hq⟩
def HB.m(H:List HB):jL:=H.map fun h=>[h.q.r]
theorem RG.ok.rd{base:Nat}{w:World}{q:RG}(h:q.ok base w):uU w q.v q.r:=⟨some ⟨q.g,0,none⟩,_,rfl,fun i p hp=>⟨q.g,rfl,(o6.cells h.2 hp).1,(o6.cells h.2 hp).2⟩⟩
theorem QH.rd{base:Nat}{w:World}{fv v:Value}{H:List HB}(h:QH base w fv v H):qN w v (HB.m H)∧Vls w v (H.map HB.v):=by
 obtain⟨ao,cap,e⟩:=j6 h.own;have key:∀i x,H[i]?=some x->∃g,ao=some ⟨g,0,none⟩∧w.cell? ⟨g,i,none⟩=some x.v:=fun i x hx=>(by obtain⟨g,cap',e',hc⟩:=kU h.own (by have:=Pl.jI hx;omega);rw[e]at e';cases e';exact⟨g,rfl,hc i _ (by rw[aE,hx];rfl)⟩);constructor;{refine⟨ao,cap,by rw[e];simp[HB.m],fun i l hl=>?_⟩;unfold HB.m at hl;rw[aE,bM]at hl;obtain⟨x,hx,rfl⟩:=hl;obtain⟨g,eg,c⟩:=key i x hx;refine⟨g,x.v,eg,c,some ⟨x.p,0,none⟩,1,rfl,fun j r hr=>?_⟩;cases j with|zero=>simp at hr;subst hr;exact⟨x.p,x.q.v,rfl,(h.ok x (Pl.jz hx)).2.1.cell (i:=0) rfl,(h.ok x (Pl.jz hx)).2.2.rd⟩|succ j=>simp at hr};·refine⟨ao,cap,by rw[e];simp,fun i u hu=>?_⟩;rw[aE,bM]at hu;obtain⟨x,hx,rfl⟩:=hu;obtain⟨g,eg,c⟩:=key i x hx;exact⟨g,eg,c⟩
def IG(H:List HB):List HB:=Vd.Lw (fun i=>Vd.pT (HB.m H) i H.length) (fun i=>H.getD i ⟨0,⟨0,[]⟩⟩) (List.replicate H.length ⟨0,⟨0,[]⟩⟩) H.length
theorem Dq(H:List HB):(IG H).length=H.length:=by
 unfold IG;rw[Vd.xA];simp
theorem HB.pG(H:List HB):(HB.m H).length=H.length:=by simp[HB.m]
theorem Mr{H:List HB}{j:Nat}(hj:j<H.length):∃(i:Nat)(x:HB),H[i]?=some x∧Vd.pT (HB.m H) i H.length=j∧(IG H)[j]?=some x:=by
 obtain⟨i,hi,e⟩:=Vd.zu (m:=HB.m H) hj;obtain⟨x,hx⟩:=Pl.jC hi;refine⟨i,x,hx,e,?_⟩;rw[←e];unfold IG;rw[Vd.FG (f:=fun i=>Vd.pT (HB.m H) i H.length) (N:=H.length) (fun i h=>by simpa using Vd.rR h) (fun i k h1 h2=>Vd.Ao h1 h2) H.length (bC _) i hi,az,hx];rfl
theorem PJ{H:List HB}{x:HB}(h:x∈IG H):x∈H:=by
 obtain⟨j,hj⟩:=eZ h;have:=Pl.jI hj;rw[Dq]at this;obtain⟨i,y,hy,-,e⟩:=Mr this;rw[hj]at e;cases e;exact Pl.jz hy
theorem Xn(H:List HB):Ex (HB.m H) (H.map HB.v) (HB.m H).length=(IG H).map HB.v:=by
 refine cT fun j=>?_;rcases bK j H.length with hj|hj;{obtain⟨i,x,hx,e,ho⟩:=Mr hj;rw[aE,ho];have:=UN (m:=HB.m H) (us:=H.map HB.v) (i:=i) (by rw[HB.pG];exact Pl.jI hx);rw[HB.pG,e]at this;rw[HB.pG,this,Ew (u:=x.v) (by rw[aE,hx];rfl)];rfl};·rw[aY (by rw[IE,HB.pG];exact hj),aY (by rw[aB,Dq];exact hj)]
theorem SR(H:List HB):Vd.lN (HB.m H)=(IG H).map fun h=>[h.q.r]:=by
 refine cT fun j=>?_;rcases bK j H.length with hj|hj;{obtain⟨i,x,hx,e,ho⟩:=Mr hj;rw[aE,ho];have:=Vd.yp (HB.m H) (i:=i) (by rw[HB.pG];exact Pl.jI hx);rw[HB.pG,e]at this;rw[this];have h2:(HB.m H)[i]?=some [x.q.r]:=(by unfold HB.m;rw[aE,hx];rfl);rw[sE h2];rfl};·rw[aY (by rw[Vd.tW,HB.pG];exact hj),aY (by rw[aB,Dq];exact hj)]
theorem Xo(L:List HB):(L.map fun h=>[h.q.r]).flatten=L.map fun h=>h.q.r:=by induction L with|nil=>rfl|cons a t ih=>simp[ih]
structure RZ(r:Ring):Prop where
 len:r.length<=1048575
 cd:Vd.DA r
 cn:(Vd.jJ r).length≠0
theorem II{r:Ring}{l:Bool}(h:RZ r):(Vd.jP r l).length<=1048576:=by
 rw[Vd.KV h.cn];have:(Vd.jJ r).length<=r.length:=Vd.yJ r r.length;have:=h.len;omega
theorem Fs (v : Value) (l : Poly) (w : World) (hv : uJ w v l) (hl : l.length ≤ 1048576) (hz : ∀ r ∈ l, RZ r) :
    Calls Tryz.prog 131 #[v] w fun e w' => ∃ (fv : Value) (Q : List RG), e = .returned fv ∧ QF w.heap.size w' fv Q ∧ Q.map RG.r = Vd.kR l ∧ Up w w' := by
  obtain ⟨ao, cap, rfl, hm⟩ := hv
  have HM := jy hm
  have HZ := jy hz
  clear hm hz
  go_enter Tryz.func131, Tryz.ntmps131
  go_wp2
  go_loopw [3, 4, 11] (fun fv hv i wr => ∃ (k : Nat) (u x : Value) (Q : List RG) (H : List HB), i = .int .i64 k ∧ u = fv ∧ x = hv ∧ k ≤ l.length ∧ Hid (Up w wr) ∧ Hid (QF w.heap.size wr u Q) ∧ Hid (QH w.heap.size wr u x H) ∧ Hid (Q.map RG.r = ((l.take k).take 1).map (Vd.jP · true)) ∧ Hid ((H.map fun h => h.q.r) = ((l.take k).drop 1).map (Vd.jP · false))) (fun _ _ i _ => l.length - (intOf i).toNat)
  case atStart => exact ⟨0, _, _, [], [], rfl, rfl, rfl, Nat.zero_le _, Up.refl _, QF.nil _ _, QH.nil _ _, rfl, rfl⟩
  case round =>
    obtain ⟨k, u, x, Q, H, rfl, rfl, rfl, hk, HU, HQ, HH, Dy, uu⟩ := hrel
    by_cases hlt : k < l.length
    · obtain ⟨r, hr⟩ := Pl.jC hlt
      obtain ⟨b, y, rfl, cy, hy⟩ := HM.out k r hr
      have e0 := HU.out.cell cy
      have Hy := jy (hy.up HU.out)
      have HZr := jy (HZ.out r (Pl.jz hr))
      have HTk := jy (Pl.take_one hr)
      have i1 : (0 : Int) ≤ (k : Int) := by omega
      have i2 : (k : Int) < (l.length : Int) := by omega
      have hsz : Hid (w.heap.size ≤ wr.heap.size) := HU.out.size
      have hQl : Hid (Q.length ≤ 1073741824) := by
        have := congrArg List.length Dy.out
        simp only [List.length_map, List.length_take] at this
        show _ ≤ _; omega
      have hHl : Hid (H.length ≤ 1073741824) := by
        have := congrArg List.length uu.out
        simp only [List.length_map, List.length_take, List.length_drop] at this
        show _ ≤ _; omega
      clear hr cy hy
      by_cases mL : k = 0
      · subst mL
        have ahW : Hid (∀ q : RG, q.r = Vd.jP r true → (Q ++ [q]).map RG.r = ((l.take (0 + 1)).take 1).map (Vd.jP · true)) := fun q hq => by
          rw [List.map_append, Dy.out, HTk.out]; simp [hq]
        have ahX : Hid ((H.map fun h => h.q.r) = ((l.take (0 + 1)).drop 1).map (Vd.jP · false)) := by
          rw [uu.out, HTk.out]; simp [Hid]
        go_wp2_with fail
        refine (Dp _ r true _ Hy.out HZr.out.len HZr.out.cd HZr.out.cn).mono ?_
        rintro e w2 ⟨g, rfl, hg, hP, pW⟩
        have lQ := jy pW
        have Hq : Hid (RG.ok w.heap.size w2 ⟨g, Vd.jP r true⟩) := ⟨Nat.le_trans hsz.out hg, hP⟩
        generalize hF : Vd.jP r true = F at *
        clear pW hP e0 hF
        have BQ : Hid (Up wr (w2.alloc (.cells #[.slice (some ⟨g, 0, none⟩) F.length F.length] 30))) := lQ.out.alloc _
        have Hqa : Hid (RG.ok w.heap.size (w2.alloc (.cells #[.slice (some ⟨g, 0, none⟩) F.length F.length] 30)) ⟨g, F⟩) := Hq.out.up ((Up.refl _).alloc _)
        have PK := jy (HQ.out.up BQ.out)
        have HHa := jy (HH.out.up BQ.out)
        have adw : Hid (w.heap.size ≤ w2.heap.size) := Nat.le_trans hsz.out lQ.out.size
        have xQ : Hid ((w2.alloc (.cells #[.slice (some ⟨g, 0, none⟩) F.length F.length] 30)).heap[w2.heap.size]? = some (.cells [Value.slice (some ⟨g, 0, none⟩) F.length F.length].toArray 30 (0, 0))) := jK.new w2 [.slice (some ⟨g, 0, none⟩) F.length F.length] 30
        have MJ : Hid (w.heap.size ≤ (w2.alloc (.cells #[.slice (some ⟨g, 0, none⟩) F.length F.length] 30)).heap.size) := by
          have := adw.out; simp [Hid]; omega
        obtain ⟨xa, xc, rfl⟩ := j6 HH.out.own
        obtain ⟨ua, uc, rfl⟩ := j6 HQ.out.own
        go_wp2_with (at_builtin; refine kP ue rfl (.tmp 18) (.tmp 21) rfl w.heap.size _ _ _ (by rfl) PK.out.own w2.heap.size [.slice (some ⟨g, 0, none⟩) F.length F.length] (by rfl) rfl xQ.out (by intro z hz; simp at hz; subst hz; rfl) hQl.out MJ.out ?_; intro g5 xg w5 kS pF qw qZ; have Xp := jy (PK.out.push Hqa.out pF kS); have HH5 := jy (HHa.out.byF (n := Q.length + 1) (cap := xg) PK.out pF qw); have p8 : Hid (Up w w5) := Fr.up (S := fun _ => False) ((Fr.me (HU.out.trans BQ.out)).grown pF fun z hz => .inr (j8 HQ.out.own hz).1) (fun _ _ h => h); clear kS pF qw qZ)
        go_roundw
        case rel => exact ⟨0 + 1, _, _, _, H, by go_num, rfl, rfl, by omega, p8, Xp, HH5, ahW.out _ rfl, ahX⟩
        case measure => simp [intOf]; omega
      · have apy : ((k : Int) == 0) = false := beq_eq_false_iff_ne.2 (by omega)
        have ahW : Hid (Q.map RG.r = ((l.take (k + 1)).take 1).map (Vd.jP · true)) := by
          rw [Dy.out, HTk.out]; show _ = _; rw [List.take_append_of_le_length (by rw [List.length_take]; omega)]
        have ahX : Hid (∀ q : HB, q.q.r = Vd.jP r false → ((H ++ [q]).map fun h => h.q.r) = ((l.take (k + 1)).drop 1).map (Vd.jP · false)) := fun q hq => by
          rw [List.map_append, uu.out, HTk.out, List.drop_append_of_le_length (by rw [List.length_take]; omega), List.map_append]; simp [hq]
        clear mL
        go_wp2_with fail
        refine (Dp _ r false _ Hy.out HZr.out.len HZr.out.cd HZr.out.cn).mono ?_
        rintro e w2 ⟨g, rfl, hg, hP, pW⟩
        have lQ := jy pW
        have Hq : Hid (RG.ok w.heap.size w2 ⟨g, Vd.jP r false⟩) := ⟨Nat.le_trans hsz.out hg, hP⟩
        have hfl := jy (II (l := false) HZr.out)
        generalize hF : Vd.jP r false = F at *
        clear pW hP e0 hF
        have BQ : Hid (Up wr ((w2.alloc (.cells #[.slice (some ⟨g, 0, none⟩) F.length F.length] 30)).alloc (.cells #[.slice (some ⟨w2.heap.size, 0, none⟩) 1 1] 33))) := (lQ.out.alloc _).alloc _
        have HXo : Hid (HB.ok w.heap.size ((w2.alloc (.cells #[.slice (some ⟨g, 0, none⟩) F.length F.length] 30)).alloc (.cells #[.slice (some ⟨w2.heap.size, 0, none⟩) 1 1] 33)) ⟨w2.heap.size, ⟨g, F⟩⟩) :=
          ⟨Nat.le_trans hsz.out lQ.out.size, (jK.new w2 _ _).up ((Up.refl _).alloc _), Hq.out.up (((Up.refl _).alloc _).alloc _)⟩
        have PK := jy (HQ.out.up BQ.out)
        have HHa := jy (HH.out.up BQ.out)
        have hne : Hid (u.ownBlock ≠ some w2.heap.size) := fun e => by have := (j8 HQ.out.own e).2; have := lQ.out.size; omega
        have adw : Hid (w.heap.size ≤ w2.heap.size) := Nat.le_trans hsz.out lQ.out.size
        have xQ : Hid (((w2.alloc (.cells #[.slice (some ⟨g, 0, none⟩) F.length F.length] 30)).alloc (.cells #[.slice (some ⟨w2.heap.size, 0, none⟩) 1 1] 33)).heap[w2.heap.size + 1]? = some (.cells [Value.slice (some ⟨w2.heap.size, 0, none⟩) 1 1].toArray 33 (0, 0))) := by
          have := jK.new (w2.alloc (.cells #[.slice (some ⟨g, 0, none⟩) F.length F.length] 30)) [.slice (some ⟨w2.heap.size, 0, none⟩) 1 1] 33
          unfold jK at this
          rw [show (w2.alloc (.cells #[.slice (some ⟨g, 0, none⟩) F.length F.length] 30)).heap.size = w2.heap.size + 1 by simp] at this
          exact this
        have MJ : Hid (w.heap.size ≤ ((w2.alloc (.cells #[.slice (some ⟨g, 0, none⟩) F.length F.length] 30)).alloc (.cells #[.slice (some ⟨w2.heap.size, 0, none⟩) 1 1] 33)).heap.size) := by
          have := adw.out; simp [Hid]; omega
        obtain ⟨xa, xc, rfl⟩ := j6 HH.out.own
        obtain ⟨ua, uc, rfl⟩ := j6 HQ.out.own
        go_wp2_with (at_builtin; refine kP CW rfl (.tmp 23) (.tmp 27) rfl w.heap.size _ _ _ (by rfl) HHa.out.own (w2.heap.size + 1) [.slice (some ⟨w2.heap.size, 0, none⟩) 1 1] (by rfl) rfl xQ.out (by intro z hz; simp at hz; subst hz; rfl) hHl.out MJ.out ?_; intro g5 xg w5 kS pF qw qZ; have HH5 := jy (HHa.out.push HXo.out hne.out pF kS); have Xp := jy (PK.out.byH HHa.out pF); have p8 : Hid (Up w w5) := Fr.up (S := fun _ => False) ((Fr.me (HU.out.trans BQ.out)).grown pF fun z hz => .inr (j8 HH.out.own hz).1) (fun _ _ h => h); clear kS pF qw qZ)
        go_roundw
        case rel => exact ⟨k + 1, _, _, Q, _, by go_num, rfl, rfl, by omega, p8, Xp, HH5, ahW, ahX.out _ rfl⟩
        case measure => simp [intOf]; omega
    · have i2 : ¬ (k : Int) < (l.length : Int) := by omega
      have hkl : k = l.length := by omega
      have HF1 : Hid (Q.map RG.r = (l.take 1).map (Vd.jP · true)) := by have := Dy.out; rw [hkl, List.take_length] at this; exact this
      have UG : Hid ((H.map fun h => h.q.r) = (l.drop 1).map (Vd.jP · false)) := by have := uu.out; rw [hkl, List.take_length] at this; exact this
      have hHl : H.length ≤ 1048576 := by
        have := congrArg List.length UG.out
        simp only [List.length_map, List.length_drop] at this
        omega
      have hQl : Q.length ≤ 1 := by
        have := congrArg List.length HF1.out
        simp only [List.length_map, List.length_take] at this
        omega
      have HRl : Hid (∀ h ∈ H, h.q.r.length ≤ 1048576) := fun h hh => by
        have : h.q.r ∈ (l.drop 1).map (Vd.jP · false) := by rw [← UG.out]; exact List.mem_map.2 ⟨h, hh, rfl⟩
        obtain ⟨r, hr, e⟩ := List.mem_map.1 this
        rw [← e]
        exact II (HZ.out r (List.mem_of_mem_drop hr))
      have HPF : Hid (∀ Q' : List RG, Q'.map RG.r = Q.map RG.r ++ ((IG H).map fun h => h.q.r) → Q'.map RG.r = Vd.kR l) := fun Q' hQ' => by
        rw [hQ', HF1.out]
        cases l with
        | nil =>
          have hn : H = [] := by have := congrArg List.length UG.out; simp at this; exact this
          subst hn
          rfl
        | cons r0 t =>
          have e : Vd.nJ t = HB.m H := by
            unfold Vd.nJ HB.m
            have := UG.out
            simp only [List.drop_succ_cons, List.drop_zero] at this
            have h2 := congrArg (List.map fun r : Ring => [r]) this
            simp only [List.map_map] at h2
            exact h2.symm
          show [Vd.jP r0 true] ++ _ = Vd.jP r0 true :: (Vd.lN (Vd.nJ t)).flatten
          rw [e, SR, Xo]; rfl
      have HIO := jy (E9 _ (HB.m H) (H.map HB.v) wr HH.out.rd.1 HH.out.rd.2 (by rw [List.length_map, HB.pG]) (by rw [HB.pG]; exact hHl) (fun p hp => by unfold HB.m at hp; obtain ⟨h, _, rfl⟩ := List.mem_map.1 hp; simp) (fun p hp r hr => by unfold HB.m at hp; obtain ⟨h, hh, rfl⟩ := List.mem_map.1 hp; rw [List.mem_singleton.1 hr]; exact HRl.out h hh))
      rw [Xn, HB.pG] at HIO
      clear hkl Dy uu
      obtain ⟨xa, xc, rfl⟩ := j6 HH.out.own
      obtain ⟨ua, uc, rfl⟩ := j6 HQ.out.own
      go_wp2_with fail
      refine HIO.out.mono ?_
      rintro e w2 ⟨G, rfl, hG, abm, pW⟩
      have lQ := jy (HU.out.trans pW)
      have HQ2 := jy (HQ.out.up pW)
      have EU : Hid (∀ h ∈ IG H, h.ok w.heap.size w2 ∧ (Value.slice ua Q.length uc).ownBlock ≠ some h.p) := fun h hh => ⟨(HH.out.ok h (PJ hh)).up pW, HH.out.ne h (PJ hh)⟩
      have hOl : (IG H).length = H.length := Dq H
      have Mj := jy abm
      have HGn : Hid ((Value.slice ua Q.length uc).ownBlock ≠ some G) := fun e => by have := (j8 HQ.out.own e).2; omega
      generalize IG H = O at *
      clear hG abm pW HIO HH HF1 UG HQ HU HRl
      go_wp2
      go_loopw [3, 33] (fun fv i wq => ∃ (t : Nat) (u : Value) (Q' : List RG), i = .int .i64 t ∧ u = fv ∧ t ≤ H.length ∧ Hid (Up w wq) ∧ Hid (QF w.heap.size wq u Q') ∧ Hid (jK wq G 33 (O.map HB.v)) ∧ Hid (u.ownBlock ≠ some G) ∧ Hid (∀ h ∈ O, h.ok w.heap.size wq ∧ u.ownBlock ≠ some h.p) ∧ Hid (Q'.map RG.r = Q.map RG.r ++ ((O.take t).map fun h => h.q.r))) (fun _ i _ => H.length - (intOf i).toNat)
      case atStart => exact ⟨0, _, Q, rfl, rfl, Nat.zero_le _, lQ, HQ2, Mj, HGn, EU, by simp [Hid]⟩
      case round =>
        clear lQ HQ2 Mj HGn EU
        obtain ⟨t, u, Q', rfl, rfl, ht, HU, HQ, Mj, HGn, HK, HE⟩ := hrel
        by_cases vU : t < H.length
        · obtain ⟨h, hh⟩ := Pl.jC (show t < O.length by omega)
          have e0 := Mj.out.cell (i := t) (v := h.v) (by rw [List.getElem?_map, hh]; rfl)
          have Hk := jy (HK.out h (Pl.jz hh))
          have HEn : Hid ((Q' ++ [h.q]).map RG.r = Q.map RG.r ++ ((O.take (t + 1)).map fun h => h.q.r)) := by rw [Pl.take_one hh, List.map_append, HE.out, List.map_append, List.append_assoc]; exact rfl
          have apV : Hid (Q'.length ≤ 1073741824) := by
            have := congrArg List.length HE.out
            simp only [List.length_map, List.length_append, List.length_take] at this
            show _ ≤ _; omega
          have MJ : Hid (w.heap.size ≤ wr.heap.size) := HU.out.size
          have xQ : Hid (wr.heap[h.p]? = some (.cells [h.q.v].toArray 30 (0, 0))) := Hk.out.1.2.1
          have j1 : (0 : Int) ≤ (t : Int) := by omega
          have j2 : (t : Int) < (H.length : Int) := by omega
          rw [HB.v] at e0
          obtain ⟨ua', uc', rfl⟩ := j6 HQ.out.own
          clear hh
          go_wp2_with (at_builtin; refine kP ue rfl (.tmp 37) (.tmp 38) rfl w.heap.size _ _ _ (by rfl) HQ.out.own h.p [h.q.v] (by rfl) rfl xQ.out (by intro z hz; simp at hz; subst hz; rfl) apV.out MJ.out ?_; intro g5 xg w5 kS pF qw qZ; have Xp := jy (HQ.out.push Hk.out.1.2.2 pF kS); have p8 : Hid (Up w w5) := Fr.up (S := fun _ => False) ((Fr.me HU.out).grown pF fun z hz => .inr (j8 HQ.out.own hz).1) (fun _ _ h => h); have HR5 := jy (Mj.out.grown pF HGn.out); have HG5 : Hid ((Value.slice (some ⟨g5, 0, none⟩) (Q'.length + 1) xg).ownBlock ≠ some G) := (fun e => by have hlt := Mj.out.lt; have e' : g5 = G := Option.some.inj e; rcases qw with e2 | e2; exact HGn.out (e' ▸ e2); omega); have HK5 : Hid (∀ h ∈ O, h.ok w.heap.size w5 ∧ (Value.slice (some ⟨g5, 0, none⟩) (Q'.length + 1) xg).ownBlock ≠ some h.p) := (fun x hx => ⟨(HK.out x hx).1.byF HQ.out (HK.out x hx).2 pF, fun e => by have hlt : x.p < wr.heap.size := (HK.out x hx).1.2.1.lt; have e' : g5 = x.p := Option.some.inj e; rcases qw with e2 | e2; exact (HK.out x hx).2 (e' ▸ e2); omega⟩); clear kS pF qw qZ)
          go_roundw
          case rel => exact ⟨t + 1, _, _, by go_num, rfl, by omega, p8, Xp, HR5, HG5, HK5, HEn⟩
          case measure => simp [intOf]; omega
        · have j2 : ¬ (t : Int) < (H.length : Int) := by omega
          have HR := jy (HPF.out Q' (by rw [HE.out, List.take_of_length_le (by omega)]))
          go_wp2
          go_ret
          exact ⟨_, rfl, Q', HQ.out, HR.out, HU.out⟩
structure PG where
 v:Value
 q:List RG
def PG.l(x:PG):Poly:=x.q.map RG.r
structure QP(base:Nat)(w:World)(v:Value)(X:List PG):Prop where
 own:w.ownsRow base 33 1 v X.length (X.map PG.v)
 ok:∀x∈X,QF base w x.v x.q
theorem QF.base{base base':Nat}{w:World}{v:Value}{Q:List RG}(h:QF base w v Q)(hb:base'<=base):QF base' w v Q:=⟨vM h.own hb,fun q hq=>⟨cq hb (h.ok q hq).1,(h.ok q hq).2⟩⟩
theorem QF.byP{base base' n:Nat}{w w':World}{v u:Value}{Q:List RG}{xs:List Value}(h:QF base w v Q)(k:w.ownsRow base' 33 1 u n xs)(hg:w.grownBy w' u.ownBlock):QF base w' v Q:=⟨xP h.own k (by decide) hg,fun x hx=>(h.ok x hx).grown k (by decide) hg⟩
theorem QP.nil(base:Nat)(w:World):QP base w (.slice none 0 0) []:=⟨World.ownsRow_nil _ _ _ _,fun q hq=>by simp at hq⟩
theorem QP.up{base:Nat}{w w':World}{v:Value}{X:List PG}(h:QP base w v X)(k:Up w w'):QP base w' v X:=⟨lM h.own k,fun q hq=>(h.ok q hq).up k⟩
theorem QP.push{base:Nat}{w w':World}{v:Value}{X:List PG}{x:PG}{g cap:Nat}(h:QP base w v X)(hx:QF base w x.v x.q)(hg:w.grownBy w' v.ownBlock)(hown:w'.ownsRow base 33 1 (.slice (some ⟨g,0,none⟩) (X.length+1) cap) (X.length+1) (X.map PG.v++[x.v])):QP base w' (.slice (some ⟨g,0,none⟩) (X.length+1) cap) (X++[x]):=by
 refine⟨by rw[aJ,aj];exact hown,fun y hy=>?_⟩;rcases aC.1 hy with hy|hy;{exact(h.ok y hy).byP h.own hg};·rw[bB.1 hy];exact hx.byP h.own hg
theorem QF.rc{base:Nat}{w:World}{v:Value}{Q:List RG}(h:QF base w v Q):XN w v (Q.map RG.r):=by
 obtain⟨ao,cap,e⟩:=j6 h.own;refine⟨ao,cap,by rw[e,aB],?_,fun i r hr=>?_⟩;{rw[aB];rcases h.own.2 with⟨e2,h0⟩|⟨g,cap',cur,e2,hb,hh,hc⟩;{rw[h0];exact au _};·rw[e]at e2;cases e2;exact hc.1};·rw[aE,bM]at hr;obtain⟨q,hq,rfl⟩:=hr;obtain⟨g,cap',e',hc⟩:=kU h.own (by have:=Pl.jI hq;omega);rw[e]at e';cases e';exact⟨g,q.v,rfl,hc i _ (by rw[aE,hq];rfl),(h.ok q (Pl.jz hq)).rd⟩
namespace Vd
theorem UO{m:jL}{x:Poly}(h:x∈lN m):x∈m:=by
 obtain⟨j,hj⟩:=eZ h;have hl:=Pl.jI hj;rw[tW]at hl;obtain⟨i,hi,e⟩:=zu (m:=m) hl;have:=yp m hi;rw[e,hj]at this;cases this;obtain⟨l,hl⟩:=Pl.jC hi;unfold kY;rw[az,hl];exact Pl.jz hl
theorem Mu{l:Poly}{x:Ring}(h:x∈kR l):∃r∈l,∃b,x=jP r b:=by cases l with|nil=>simp[kR]at h|cons r0 t=>rw[kR]at h;rcases aD.1 h with rfl|h;{exact⟨r0,by simp,true,rfl⟩};·obtain⟨p,hp,hx⟩:=bh.1 h;obtain⟨r,hr,rfl⟩:=aH.1 (UO hp);exact⟨r,by simp[hr],false,bB.1 hx⟩
theorem Mv{m:jL}(h:∀x∈m,x.length=1):m.flatten.length=m.length:=by induction m with|nil=>rfl|cons a t ih=>rw[fM,aj,h a (by simp),ih fun x hx=>h x (by simp[hx]),aZ];omega
theorem Mw(l:Poly):(kR l).length=l.length:=by cases l with|nil=>rfl|cons r0 t=>rw[kR,aZ,aZ,Mv,tW];{unfold nJ;rw[aB]};·intro x hx;obtain⟨r,_,rfl⟩:=aH.1 (UO hx);rfl
end Vd
def PG.m(X:List PG):jL:=X.map PG.l
theorem PG.pG(X:List PG):(PG.m X).length=X.length:=by simp[PG.m]
theorem QP.rd{base:Nat}{w:World}{v:Value}{X:List PG}(h:QP base w v X):qN w v (PG.m X)∧Vls w v (X.map PG.v):=by
 obtain⟨ao,cap,e⟩:=j6 h.own;have key:∀i x,X[i]?=some x->∃g,ao=some ⟨g,0,none⟩∧w.cell? ⟨g,i,none⟩=some x.v:=fun i x hx=>(by obtain⟨g,cap',e',hc⟩:=kU h.own (by have:=Pl.jI hx;omega);rw[e]at e';cases e';exact⟨g,rfl,hc i _ (by rw[aE,hx];rfl)⟩);constructor;{refine⟨ao,cap,by rw[e,PG.pG],fun i l hl=>?_⟩;unfold PG.m at hl;rw[aE,bM]at hl;obtain⟨x,hx,rfl⟩:=hl;obtain⟨g,eg,c⟩:=key i x hx;exact⟨g,x.v,eg,c,(h.ok x (Pl.jz hx)).rc.rd⟩};·refine⟨ao,cap,by rw[e,aB],fun i u hu=>?_⟩;rw[aE,bM]at hu;obtain⟨x,hx,rfl⟩:=hu;obtain⟨g,eg,c⟩:=key i x hx;exact⟨g,eg,c⟩
def IJ(X:List PG):List PG:=Vd.Lw (fun i=>Vd.pT (PG.m X) i X.length) (fun i=>X.getD i ⟨.slice none 0 0,[]⟩) (List.replicate X.length ⟨.slice none 0 0,[]⟩) X.length
theorem Ds(X:List PG):(IJ X).length=X.length:=by
 unfold IJ;rw[Vd.xA];simp
theorem Mx{X:List PG}{j:Nat}(hj:j<X.length):∃(i:Nat)(x:PG),X[i]?=some x∧Vd.pT (PG.m X) i X.length=j∧(IJ X)[j]?=some x:=by
 obtain⟨i,hi,e⟩:=Vd.zu (m:=PG.m X) hj;obtain⟨x,hx⟩:=Pl.jC hi;refine⟨i,x,hx,e,?_⟩;rw[←e];unfold IJ;rw[Vd.FG (f:=fun i=>Vd.pT (PG.m X) i X.length) (N:=X.length) (fun i h=>by simpa using Vd.rR h) (fun i k h1 h2=>Vd.Ao h1 h2) X.length (bC _) i hi,az,hx];rfl
theorem abn{X:List PG}{x:PG}(h:x∈IJ X):x∈X:=by
 obtain⟨j,hj⟩:=eZ h;have:=Pl.jI hj;rw[Ds]at this;obtain⟨i,y,hy,-,e⟩:=Mx this;rw[hj]at e;cases e;exact Pl.jz hy
theorem Xq(X:List PG):Ex (PG.m X) (X.map PG.v) (PG.m X).length=(IJ X).map PG.v:=by
 refine cT fun j=>?_;rcases bK j X.length with hj|hj;{obtain⟨i,x,hx,e,ho⟩:=Mx hj;rw[aE,ho];have:=UN (m:=PG.m X) (us:=X.map PG.v) (i:=i) (by rw[PG.pG];exact Pl.jI hx);rw[PG.pG,e]at this;rw[PG.pG,this,Ew (u:=x.v) (by rw[aE,hx];rfl)];rfl};·rw[aY (by rw[IE,PG.pG];exact hj),aY (by rw[aB,Ds];exact hj)]
theorem SS(X:List PG):Vd.lN (PG.m X)=(IJ X).map PG.l:=by
 refine cT fun j=>?_;rcases bK j X.length with hj|hj;{obtain⟨i,x,hx,e,ho⟩:=Mx hj;rw[aE,ho];have:=Vd.yp (PG.m X) (i:=i) (by rw[PG.pG];exact Pl.jI hx);rw[PG.pG,e]at this;rw[this];have h2:(PG.m X)[i]?=some x.l:=(by unfold PG.m;rw[aE,hx];rfl);rw[sE h2];rfl};·rw[aY (by rw[Vd.tW,PG.pG];exact hj),aY (by rw[aB,Ds];exact hj)]
structure FZ(m:jL):Prop where
 len:m.length<=1048576
 poly:∀l∈m,l.length<=1048576
 ring:∀l∈m,∀r∈l,RZ r
structure NS(base:Nat)(w:World)(G:Nat)(X:List PG):Prop where
 low:base<=G
 row:jK w G 33 (X.map PG.v)
 ok:∀x∈X,QF base w x.v x.q
theorem abo(v:Value)(m:jL)(w:World)(hv:qN w v m)(hz:FZ m):Calls Tryz.prog 93 #[v] w fun e w'=>∃(G:Nat)(X:List PG),e=.returned (.slice (some ⟨G,0,none⟩) X.length X.length)∧NS w.heap.size w' G X∧PG.m X=Vd.form m∧Up w w':=by
 obtain⟨ao,cap,rfl,hm⟩:=hv;have HM:=jy hm;have HZ:=jy hz;have hl:=hz.len;have HDf:Hid (Vd.form m=Vd.lN (m.map Vd.kR)):=rfl;clear hm hz;go_enter Tryz.func93,Tryz.ntmps93;go_wp2;go_loopw[3,8](fun fv i wr=>∃(k:Nat)(u:Value)(X:List PG),i=.int .i64 k∧u=fv∧k<=m.length∧Hid (Up w wr)∧Hid (QP w.heap.size wr u X)∧Hid (PG.m X=(m.take k).map Vd.kR))(fun _ i _=>m.length-(intOf i).toNat);(case atStart=>exact⟨0,_,[],rfl,rfl,au _,Up.refl _,QP.nil _ _,rfl⟩);case round=>obtain⟨k,u,X,rfl,rfl,hk,HU,HQ,HE⟩:=hrel;have hXl:X.length=k:=(by have:=aX List.length HE.out;rw[PG.pG,aB,bH]at this;omega);by_cases hlt:k<m.length;{obtain⟨l,hr⟩:=Pl.jC hlt;obtain⟨b,y,rfl,cy,hy⟩:=HM.out k l hr;have e0:=HU.out.cell cy;have HKp:=jy (Fs y l wr (hy.up HU.out) (HZ.out.poly l (Pl.jz hr)) (HZ.out.ring l (Pl.jz hr)));have HEn:Hid (∀x:PG,x.l=Vd.kR l->PG.m (X++[x])=(m.take (k+1)).map Vd.kR):=fun x hx=>(by unfold PG.m at*;rw[aJ,HE.out,Pl.take_one hr,aJ];simp[hx]);have i1:(0:Int)<=(k:Int):=(by omega);have i2:(k:Int)<(m.length:Int):=(by omega);have hsz:Hid (w.heap.size<=wr.heap.size):=HU.out.size;have hXb:Hid (X.length<=1073741824):=(by show _<=_;omega);clear hr cy hy hXl;go_wp2_with fail;refine HKp.out.mono ?_;rintro e w2⟨fv,Q,rfl,hQF,hQe,pW⟩;have lQ:=jy pW;have HQF:=jy (hQF.base hsz.out);have HQe:=jy hQe;obtain⟨fa,fc,rfl⟩:=j6 hQF.own;clear pW hQF hQe e0 HKp;have BQ:Hid (Up wr (w2.alloc (.cells #[.slice fa Q.length fc] 33))):=lQ.out.alloc _;have HFa:Hid (QF w.heap.size (w2.alloc (.cells #[.slice fa Q.length fc] 33)) (.slice fa Q.length fc) Q):=HQF.out.up ((Up.refl _).alloc _);have PK:=jy (HQ.out.up BQ.out);have xQ:Hid ((w2.alloc (.cells #[.slice fa Q.length fc] 33)).heap[w2.heap.size]?=some (.cells [Value.slice fa Q.length fc].toArray 33 (0,0))):=jK.new w2 [.slice fa Q.length fc] 33;have MJ:Hid (w.heap.size<=(w2.alloc (.cells #[.slice fa Q.length fc] 33)).heap.size):=(by have:=cq hsz.out lQ.out.size;simp[Hid];omega);obtain⟨ua,uc,rfl⟩:=j6 HQ.out.own;go_wp2_with(at_builtin;refine kP CW rfl (.tmp 12) (.tmp 15) rfl w.heap.size _ _ _ (by rfl) PK.out.own w2.heap.size [.slice fa Q.length fc] (by rfl) rfl xQ.out (by intro z hz;simp at hz;subst hz;rfl) hXb.out MJ.out ?_;intro g5 xg w5 kS pF qw qZ;have Xp:=jy (PK.out.push (x:=⟨.slice fa Q.length fc,Q⟩) HFa.out pF kS);have p8:Hid (Up w w5):=Fr.up (S:=fun _=>False) ((Fr.me (HU.out.trans BQ.out)).grown pF fun z hz=>.inr (j8 HQ.out.own hz).1) (fun _ _ h=>h);clear kS pF qw qZ);go_roundw;(case rel=>exact⟨k+1,_,_,by go_num,rfl,by omega,p8,Xp,HEn.out _ HQe.out⟩);case measure=>simp[intOf];omega};·have i2:¬(k:Int)<(m.length:Int):=(by omega);have HEf:Hid (PG.m X=m.map Vd.kR):=(by have:=HE.out;rw[show k=m.length by omega,aN]at this;exact this);have HIO:=jy (E9 _ (PG.m X) (X.map PG.v) wr HQ.out.rd.1 HQ.out.rd.2 (by rw[aB,PG.pG]) (by rw[PG.pG];omega) (fun p hp=>by rw[HEf.out]at hp;obtain⟨l,hl,rfl⟩:=aH.1 hp;rw[Vd.Mw];exact HZ.out.poly l hl) (fun p hp r hr=>by rw[HEf.out]at hp;obtain⟨l,hl,rfl⟩:=aH.1 hp;obtain⟨r0,Fk,b,rfl⟩:=Vd.Mu hr;exact II (HZ.out.ring l hl r0 Fk)));rw[Xq,PG.pG]at HIO;have HRf:Hid (PG.m (IJ X)=Vd.form m):=(by rw[HDf.out,←HEf.out,SS];exact rfl);have hOl:(IJ X).length=X.length:=Ds X;have HOk:Hid (∀x∈IJ X,QF w.heap.size wr x.v x.q):=fun x hx=>HQ.out.ok x (abn hx);have hsz:Hid (w.heap.size<=wr.heap.size):=HU.out.size;obtain⟨ua,uc,rfl⟩:=j6 HQ.out.own;generalize IJ X=O at*;clear hXl;go_wp2_with fail;refine HIO.out.mono ?_;rintro e w2⟨G,rfl,hG,abm,pW⟩;have HN:Hid (NS w.heap.size w2 G O):=⟨cq hsz.out hG,abm,fun x hx=>(HOk.out x hx).up pW⟩;have lQ:=jy (HU.out.trans pW);rw[←hOl];clear hG abm pW HIO;go_wp2;go_ret;exact⟨G,O,by rw[hOl];rfl,HN.out,HRf.out,lQ.out⟩
theorem Dt(v:Value)(m:jL)(w:World)(g:Nat)(u:Value)(hs:ur w v m g u)(hz:Sz m)(hv:Vd.least m≠0):Calls Tryz.prog 57 #[v] w fun e w'=>e=.returned (.tuple #[.pointer none,.int .i64 7])∧Up w w':=by
 have HK:=jy (Iv (aA hv) hs hz);obtain⟨rfl,-,-⟩:=hs;clear hz hv;go_enter Tryz.func57,Tryz.ntmps57;go_wp2_with fail;refine HK.out.mono ?_;rintro e w2⟨rfl,hu⟩;replace hu:=jy hu;go_wp2;go_ret2;exact⟨rfl,hu.out⟩
theorem Du(v:Value)(m:jL)(w:World)(g:Nat)(u:Value)(hs:ur w v m g u)(hz:Sz m)(hf:FZ m)(hv:Vd.least m=0):Calls Tryz.prog 57 #[v] w fun e w'=>∃(b G:Nat)(X:List PG),e=.returned (.tuple #[.pointer (some ⟨b,0,none⟩),.int .i64 0])∧w.heap.size<=b∧jK w' b 78 [.slice (some ⟨G,0,none⟩) X.length X.length]∧NS w.heap.size w' G X∧PG.m X=Vd.form m∧Up w w':=by
 have HK:=jy (Iv (ah hv) hs hz);have HS:=jy hs;have HF:=jy hf;obtain⟨rfl,-,-⟩:=hs;obtain⟨ua,uc,rfl,-⟩:=HS.out.rd;clear hz hv hf;go_enter Tryz.func57,Tryz.ntmps57;go_wp2_with fail;refine HK.out.mono ?_;rintro e w2⟨rfl,hu⟩;have HU:=jy hu;have c0:=((HS.out.up hu).cell).cell (i:=0) rfl;have HFm:=jy (abo _ m w2 (HS.out.rd.up hu) HF.out);clear hu HK;go_wp2_with fail;refine HFm.out.mono ?_;rintro e w3⟨G,X,rfl,hN,hE,AZ⟩;have lV:=jy (HU.out.trans AZ);have hb:Hid (w.heap.size<=w2.heap.size):=HU.out.size;have HN:Hid (NS w.heap.size (w3.alloc (.cells #[.slice (some ⟨G,0,none⟩) X.length X.length] 78)) G X):=⟨cq hb.out hN.low,hN.row.up ((Up.refl _).alloc _),fun x hx=>((hN.ok x hx).base hb.out).up ((Up.refl _).alloc _)⟩;have HE:=jy hE;have HR:=jy (jK.new w3 [.slice (some ⟨G,0,none⟩) X.length X.length] 78);have hs3:Hid (w.heap.size<=w3.heap.size):=lV.out.size;clear hN hE AZ HFm c0;go_wp2;go_ret2;exact⟨w3.heap.size,G,X,rfl,hs3.out,HR.out,HN.out,HE.out,lV.out.alloc _⟩
theorem ahZ{base:Nat}{w:World}{G:Nat}{X:List PG}(h:NS base w G X):qN w (.slice (some ⟨G,0,none⟩) X.length X.length) (PG.m X):=by
 refine⟨_,_,by rw[PG.pG],fun i l hl=>?_⟩;unfold PG.m at hl;rw[aE,bM]at hl;obtain⟨x,hx,rfl⟩:=hl;exact⟨G,x.v,rfl,h.row.cell (by rw[aE,hx];rfl),(h.ok x (Pl.jz hx)).rc.rd⟩
def BV(w:World):Prop:=Lib.TabIs Tryz.prog w "internal/strconv.uint64pow10" .u64 Lib.pow10Tab
theorem BV.up{w w':World}(h:BV w)(k:Up w w'):BV w':=by
 unfold BV Lib.TabIs World.var? at*;generalize Tryz.prog.globalNamed "internal/strconv.uint64pow10" =o at*;cases o with|none=>simp at h|some g=>simp only[iX]at h⊢;have hg:g<w.heap.size:=(by rcases bK g w.heap.size with e|e;{exact e};·rw[iQ e]at h;simp at h);rw[k.block g hg];exact h
theorem abp(w:World)(os:Array Obj):Up w (Go.Sort.grow w os):=⟨rfl,rfl,rfl,by simp[Go.Sort.grow],fun b hb=>by simp[Go.Sort.grow,Array.getElem?_append_left hb]⟩
theorem Jr(n:Int)(h0:-9223372036854775808<=n)(h1:n<=9223372036854775807)(w:World)(ht:BV w):Calls Tryz.prog 137 #[.int .i64 n,.int .i64 10] w fun e w'=>e=.returned (.string (bs (Lib.itoa n)))∧Up w w':=(Tryz.strconv_FormatInt_10 n h0 h1 w ht).mono fun e w'⟨h1,k,os,h2⟩=>⟨by rw[h1];rfl,by rw[h2];exact((Up.refl w).drewN k).trans (abp _ os)⟩
theorem BW(n:Int)(h0:-9223372036854775808<=n)(h1:n<=9223372036854775807)(w:World)(ht:BV w):Calls Tryz.prog 98 #[.int .i64 n] w fun e w'=>e=.returned (.string (bs (Lib.itoa n)))∧Up w w':=by
 have HK:=jy (Jr n h0 h1 w ht);clear h0 h1 ht;generalize bs (Lib.itoa n)=s at*;go_enter Tryz.func98,Tryz.ntmps98;go_wp2_with fail;refine HK.out.mono ?_;rintro e w2⟨rfl,hu⟩;replace hu:=jy hu;go_wp2;go_ret;exact⟨rfl,hu.out⟩
def Fit(p:Vd.jS):Prop:=((-9223372036854775808<=p.1.1∧p.1.1<=9223372036854775807)∧(-9223372036854775808<=p.1.2∧p.1.2<=9223372036854775807))∧-9223372036854775808<=p.2∧p.2<=9223372036854775807
theorem aey{p:Vd.jS}{u:jE}(hp:Mp p)(hu:tK 65536 u):∀(l:List Vd.jZ)(n:Int),(∀s∈l,Vd.uP s)->1<=n->n<=17179869185->1<=l.foldl (Vd.vf p u) n∧l.foldl (Vd.vf p u) n<=17179869185:=by
 intro l;induction l with|nil=>intro n _ h1 h2;exact⟨h1,h2⟩|cons s t ih=>intro n hl h1 h2;have hb:=IA hp hu (hl s (by simp));rw[dP];refine ih _ (fun s hs=>hl s (cH _ hs)) ?_ ?_;{unfold Vd.vf;split<;>omega};·unfold Vd.vf;split<;>omega
theorem IK{both:List Vd.jZ}{p:Vd.jS}{u:jE}(hp:Mp p)(hu:tK 65536 u)(hc:∀s∈both,Vd.uP s):Fit (Vd.near both p u):=by
 obtain⟨n1,n2⟩:=aey hp hu both 1 hc (by omega) (by omega);unfold Vd.near Vd.X7;generalize both.foldl (Vd.vf p u) 1=n at*;obtain⟨⟨x1,x2⟩,⟨y1,y2⟩,t1,t2⟩:=hp;obtain⟨⟨u1,u2⟩,u3,u4⟩:=hu;have m1:=kG (a:=p.1.1) (b:=n) (A:=65536) (B:=17179869185) (by omega) (by omega) (by omega) (by omega);have m2:=kG (a:=p.1.2) (b:=n) (A:=65536) (B:=17179869185) (by omega) (by omega) (by omega) (by omega);have m3:=kG (a:=p.2) (b:=n) (A:=2) (B:=17179869185) (by omega) (by omega) (by omega) (by omega);have m4:=kG (a:=p.2) (b:=u.1) (A:=2) (B:=65536) (by omega) (by omega) (by omega) (by omega);have m5:=kG (a:=p.2) (b:=u.2) (A:=2) (B:=65536) (by omega) (by omega) (by omega) (by omega);unfold Fit;simp only;omega
theorem abq{o:jL}{both:List Vd.jZ}{s:Vd.jZ}{m:Vd.jS}(hm:Mp m)(hs:Vd.uP s)(hc:∀s∈both,Vd.uP s):∀(l:List Vd.jZ),(∀t∈l,Vd.uP t)->∀p,Vd.qV o both s m l=some p->Fit p:=by
 have hmf:Fit m:=(by obtain⟨⟨x1,x2⟩,⟨y1,y2⟩,t1,t2⟩:=hm;unfold Fit;omega);intro l;induction l with|nil=>intro _ p h;rw[KR]at h;split at h;{cases h;exact IK hm (KP (mA hs)) hc};{cases h;exact hmf}|cons t k ih=>intro hl p h;rw[IB]at h;split at h;{unfold Vd.wU at h;split at h;{cases h;exact IK hm (mA (hl t (by simp))) hc};·split at h;{cases h;exact IK hm (UL (mA (hl t (by simp)))) hc};·cases h};·exact ih (fun t ht=>hl t (cH _ ht)) p h
theorem IL{a b:jL}(za:KU a)(zb:KU b){p:Vd.jS}(h:Vd.nE a b=some p):Fit p:=by
 unfold Vd.nE at h;obtain⟨s,hs,h⟩:=fC h;obtain⟨m,hm,h⟩:=fC h;have hS:=xN za.cd s hs;have hC:=(za.r2 zb).cd;exact abq (UM hS hC m hm) hS (xN hC) _ (xN zb.cd) p h
theorem abr{a b:jL}(za:KU a)(zb:KU b){p:Vd.jS}(h:Vd.spot a b=some p):Fit p:=by
 unfold Vd.spot at h;split at h;{rename_i q hq;cases h;exact IL za zb hq};·exact IL zb za h
def ah0:Option Vd.jS->Value|none=>.tuple #[.string ⟨#[]⟩,.string ⟨#[]⟩,.string ⟨#[]⟩,.int .i64 8]|some p=>.tuple #[.string (bs (Lib.itoa p.1.1)),.string (bs (Lib.itoa p.1.2)),.string (bs (Lib.itoa p.2)),.int .i64 0]
end Go.Proofs.YtcclepohmhdpbaaGreatDoor
