import Derived.Test.YtcclepohmhdpbaaGreatDoorRfF
import Derived.Test.YtcclepohmhdpbaaGreatDoorGmO
set_option maxHeartbeats 8000000
set_option maxRecDepth 4000
namespace Go.Proofs.YtcclepohmhdpbaaGreatDoor
set_option linter.all false
open Go.RowKit Go.Deep
theorem UR{a b:jk}{rings:Poly}:∀(n:Nat)(x:jk),∀m∈Vd.r9 a b rings n x,m.2=2:=by
 intro n;induction n with|zero=>intro x m h;cases h|succ n ih=>intro x m h;unfold Vd.r9 at h;split at h;{cases h};·rcases aE.1 h with rfl|h;{rfl};·exact ih _ m h
theorem YT{a b:jk}{rings:Poly}(hb:Vd.Cd b)(hc:Vd.xI rings):∀(n:Nat)(x:jk),Vd.Cd x->∀m∈Vd.r9 a b rings n x,Vd.Sp m:=by
 intro n;induction n with|zero=>intro x _ m h;cases h|succ n ih=>intro x hx m h;unfold Vd.r9 at h;have hn:=Vd.Nt (a:=a) (b:=b) (x:=x) hb hc;split at h;{cases h};·rcases aE.1 h with rfl|h;{unfold Vd.Cd at hx hn;unfold Vd.Sp Vd.jO;simp only;omega};·exact ih _ hn m h
theorem YU(a b:jk)(rings:Poly):(Vd.zV a b rings).length<=rings.flatten.length+1:=by
 unfold Vd.zV;generalize rings.flatten.length+1=n;have key:∀(n:Nat)(x:jk),(Vd.r9 a b rings n x).length<=n:=(by intro n;induction n with|zero=>intro x;exact bA _|succ n ih=>intro x;unfold Vd.r9;split;exact au _;simp only[aX];have:=ih (Vd.xL a b x rings);omega);exact key n a
theorem SI{o:Nat}(v u:Value)(r:Ring)(r0:Ring)(t:List Ring)(so:Int)(w:World)(hv:tH w v r)(hu:Rdo o w u (r0::t))(hr:r.length<=1048576)(hl:t.length<=1048575)(oD:∀r∈r0::t,r.length<=1048576)(hf:(r0::t).flatten.length<=1048576)(hc:Vd.Cb r)(rq:Vd.xI (r0::t)):Calls Tryz.prog 130 #[v,u,.int .i64 so] w fun e w'=>e=.returned (.bool (Vd.sW r (r0::t) so))∧Up w w':=by
 obtain⟨ao,cap,rfl,hm⟩:=hv;have HM:=jg hm;have Ky:=jg hu;obtain⟨sR,lQ,rfl,-⟩:=Ky.out;have HC:=jg hc;have xC:=jg rq;have HL:=jg oD;have SJ:=jg hf;have XJ:(r0::t).length<=1048576:=(by simp only[aX];omega);obtain⟨f,hf'⟩:∃f:Vd.jK->Bool,f=fun s=>(Vd.zV s.1 s.2 (r0::t)).any fun m=>decide (Vd.Ta (r0::t) m≠so):=⟨_,rfl⟩;have HT:Hid (Vd.sW r (r0::t) so=!((Vd.jt r).any f)):=(by subst hf';exact rfl);have HF:Hid (∀s,f s=(Vd.zV s.1 s.2 (r0::t)).any fun m=>decide (Vd.Ta (r0::t) m≠so)):=(by subst hf';exact fun _=>rfl);have rR:=jg (fun a b=>YU a b (r0::t));have HSp:Hid (∀a b,Vd.Cd a->Vd.Cd b->∀m∈Vd.zV a b (r0::t),Vd.Sp m):=fun a b ha hb m hm=>YT hb rq _ a ha m hm;have HTw:Hid (∀a b,∀m∈Vd.zV a b (r0::t),m.2=2):=fun a b m hm=>UR _ a m hm;clear hm hu hc rq oD hf hf';go_enter Tryz.func130,Tryz.ntmps130;go_wp2;go_loopw[7](fun i wr=>∃k:Nat,i=.int .i64 k∧k<=r.length∧Hid (Up w wr)∧Hid ((Vd.jt r).any f=((Vd.jt r).drop k).any f))(fun i _=>r.length-(intOf i).toNat);(case atStart=>exact⟨0,rfl,au _,Up.refl _,rfl⟩);case round=>obtain⟨k,rfl,hk,HU,HA⟩:=hrel;by_cases hlt:k+1<r.length;{obtain⟨⟨ax,ay⟩,hpa⟩:=Pl.ji (show k<r.length by omega);obtain⟨⟨bx,bY⟩,Ar⟩:=Pl.ji hlt;obtain⟨g,rfl,c0,c1⟩:=HM.out k _ hpa;obtain⟨g',e',d0,d1⟩:=HM.out (k+1) _ Ar;cases e';have ca:=jg (HC.out _ (Pl.jh hpa));have cb:=jg (HC.out _ (Pl.jh Ar));replace HA:=jg (HA.out.trans (BK (Vd.kF hpa Ar)));rw[HF.out]at HA;have c0':=HU.out.cell c0;have c1':=HU.out.cell c1;have d0':=HU.out.cell d0;have d1':=HU.out.cell d1;have i1:(0:Int)<=(k:Int):=(by omega);have i2:(k:Int)<(r.length:Int):=(by omega);have i3:(k:Int)+1<(r.length:Int):=(by omega);have i4:(0:Int)<=(k:Int)+1:=(by omega);have i5:IntKind.i64.wrap ((k:Int)+1)=(k:Int)+1:=kG (by omega) (by omega);have i6:wrap64 ((k:Int)+1)=(k:Int)+1:=AE (by omega) (by omega);clear hpa Ar c0 c1 d0 d1;(try dsimp only at c0' c1' d0' d1');go_wp2;go_region_held3(fun w'=>w'.cell? ⟨g,k*2,none⟩=some (.int .i64 ax)∧w'.cell? ⟨g,k*2+1,none⟩=some (.int .i64 ay)∧w'.cell? ⟨g,(k+1)*2,none⟩=some (.int .i64 bx)∧w'.cell? ⟨g,(k+1)*2+1,none⟩=some (.int .i64 bY))(go_keep)(first|(go_at_call 166;refine(YS (ax,ay) (bx,bY) _ (r0::t) _ ca.out cb.out (Ky.out.up (HU.out.drew)) XJ HL.out SJ.out xC.out).mono ?_;rintro e w2⟨mv,rfl,hz,ho⟩;have HUm:=jg (HU.out.drew.trans hz);have HOm:=jg ho;have k0:=(((Up.refl wr).drew).trans hz).cell c0';have k1:=(((Up.refl wr).drew).trans hz).cell c1';have k2:=(((Up.refl wr).drew).trans hz).cell d0';have k3:=(((Up.refl wr).drew).trans hz).cell d1';clear hz ho));obtain⟨ma,mc,rfl⟩:=jI HOm.out;have hLl:=rR.out (ax,ay) (bx,bY);have hF3:=SJ.out;have Ca:=jg (HSp.out (ax,ay) (bx,bY) ca.out cb.out);have vG:=jg (HTw.out (ax,ay) (bx,bY));generalize Vd.zV (ax,ay) (bx,bY) (r0::t)=L at*;have hRd:tH w2 (.slice ma L.length mc) (L.map (·.1)):=uR (by rw[aA];exact HOm.out);obtain⟨ma',mc',e',Jb⟩:=hRd;simp only[aA,Value.slice.injEq]at e';obtain⟨rfl,-,rfl⟩:=e';have HMM:=jg Jb;have hLb:L.length<=1048577:=(by omega);clear k0 k1 k2 k3 c0' c1' d0' d1' hLl hF3 Jb i5 i6;go_wp2;go_loopw[9](fun i wq=>∃q:Nat,i=.int .i64 q∧q<=L.length∧Hid (Up w2 wq)∧Hid ((Vd.jt r).any f=((L.drop q).any (fun m=>decide (Vd.Ta (r0::t) m≠so))||((Vd.jt r).drop (k+1)).any f)))(fun i _=>L.length-(intOf i).toNat);(case atStart=>exact⟨0,rfl,au _,Up.refl _,HA⟩);case round=>clear HU HA;obtain⟨q,rfl,hq,pe,HA⟩:=hrel;by_cases nO:q<L.length;{obtain⟨⟨⟨mx,my⟩,md⟩,hm⟩:=Pl.ji nO;have e2:=vG.out _ (Pl.jh hm);simp only at e2;subst e2;have HSm:=jg (Ca.out _ (Pl.jh hm));obtain⟨gm,rfl,c0,c1⟩:=HMM.out q (mx,my) (by rw[aB,hm];rfl);rw[BK hm]at HA;have c0':=pe.out.cell c0;have c1':=pe.out.cell c1;(try dsimp only at c0' c1');have i7:(0:Int)<=(q:Int):=(by omega);have i8:(q:Int)<(L.length:Int):=(by omega);clear hm c0 c1;go_wp2_with fail;refine(afq _ r0 t ((mx,my),2) _ (Ky.out.up (HUm.out.trans pe.out)) hl HL.out xC.out HSm.out).mono ?_;rintro e w3⟨rfl,hz⟩;have kV:=jg (pe.out.trans hz);generalize Vd.Ta (r0::t) ((mx,my),2)=I at*;clear hz c0' c1' i7 i8;by_cases hI:I=so;{have D7:Hid ((Vd.jt r).any f=((L.drop (q+1)).any (fun m=>decide (Vd.Ta (r0::t) m≠so))||((Vd.jt r).drop (k+1)).any f)):=(by show _=_;rw[HA.out];simp[hI]);subst hI;go_wp2;go_roundw;(case rel=>exact⟨q+1,by go_num,by omega,kV,D7⟩);case measure=>simp[intOf];omega};·have HR:Hid (Vd.sW r (r0::t) so=false):=(by show _=_;rw[HT.out,HA.out];simp[hI]);have hI':=aj.2 hI;have hI2:=dN.2 hI;go_wp2;go_ret;exact⟨jQ HR.out.symm,HUm.out.trans kV.out⟩};·have D7:Hid ((Vd.jt r).any f=((Vd.jt r).drop (k+1)).any f):=(by show _=_;rw[HA.out,BM (by omega)];rfl);go_wp2;go_roundw;(case rel=>exact⟨k+1,by go_num,by omega,HUm.out.trans pe.out,D7⟩);case measure=>simp[intOf];omega};·have HR:Hid (Vd.sW r (r0::t) so=true):=(by show _=_;rw[HT.out,HA.out,BM (by rw[Vd.j6];omega)];rfl);go_wp2;go_ret;exact⟨jQ HR.out.symm,HU.out⟩
def zR(acc:List jk)(p:jk):List jk:=if p∈acc then acc else acc++[p]
def q8(l:List jk):List jk:=l.foldl zR []
theorem Qg(l:List jk)(p:jk):q8 (l++[p])=zR (q8 l) p:=by
 unfold q8;rw[dX];rfl
theorem Ax:∀(l acc:List jk),acc.Nodup->(l.foldl zR acc).Nodup∧(∀p,p∈l.foldl zR acc↔p∈acc∨p∈l)∧(l.foldl zR acc).length<=acc.length+l.length:=by
 intro l;induction l with|nil=>intro acc h;exact⟨h,fun p=>by simp,by simp⟩|cons x l ih=>intro acc h;rw[dO];by_cases hx:x∈acc;{rw[show zR acc x=acc from ai hx];obtain⟨h1,h2,h3⟩:=ih acc h;refine⟨h1,fun p=>?_,by simp only[aX];omega⟩;rw[h2,aE];constructor;{rintro(a|a);exact .inl a;exact .inr (.inr a)};·rintro(a|rfl|a);exact .inl a;exact .inl hx;exact .inr a};·rw[show zR acc x=acc++[x]from ag hx];obtain⟨h1,h2,h3⟩:=ih (acc++[x]) (by rw[cq];refine⟨h,by simp,?_⟩;intro a ha b hb;rw[bF]at hb;subst hb;exact fun e=>hx (e▸ha));refine⟨h1,fun p=>?_,by simp only[aX,ah,cF]at*;omega⟩;rw[h2,aD,bF,aE];constructor;{rintro((a|a)|a);exact .inl a;exact .inr (.inl a);exact .inr (.inr a)};·rintro(a|a|a);exact .inl (.inl a);exact .inl (.inr a);exact .inr a
theorem Nu(l:List jk):(q8 l).Nodup:=(Ax l [] fo).1
theorem UT{l:List jk}{p:jk}:p∈q8 l↔p∈l:=by
 have:=(Ax l [] fo).2.1 p;unfold q8;rw[this];simp
theorem Jc(l:List jk):(q8 l).length<=l.length:=by
 have:=(Ax l [] fo).2.2;unfold q8;simp at this;omega
def heads(l:Poly):List jk:=(l.map List.dropLast).flatten
theorem BN{r:Ring}(h:Vd.Shut r)(p:jk):p∈r.dropLast↔p∈r:=by
 constructor;{exact fun k=>List.dropLast_subset r k};·intro k;obtain⟨i,hi,e⟩:=eT k;have hl:=h.len;by_cases c:i<r.length-1;{have:r.dropLast[i]'(by rw[gd];exact c)=r[i]:=List.getElem_dropLast _;exact List.mem_of_getElem (this.trans e)};·have e0:r[0]'(by omega)=p:=(by have h1:=Vd.ju (r:=r) (i:=0) (by omega);have h2:=Vd.ju (r:=r) (i:=r.length-1) (by omega);have e3:i=r.length-1:=(by omega);subst e3;rw[aG (by omega)]at h1 h2;rw[aN h1,h.eq,←aN h2];exact e);have:r.dropLast[0]'(by rw[gd];omega)=r[0]'(by omega):=List.getElem_dropLast _;exact List.mem_of_getElem (this.trans e0)
theorem UU{l:Poly}(h:∀r∈l,Vd.Shut r)(p:jk):p∈heads l↔p∈l.flatten:=by
 unfold heads;simp only[cE,aO];constructor;{rintro⟨_,⟨r,hr,rfl⟩,hp⟩;exact⟨r,hr,(BN (h r hr) p).1 hp⟩};·rintro⟨r,hr,hp⟩;exact⟨_,⟨r,hr,rfl⟩,(BN (h r hr) p).2 hp⟩
theorem Qh{l:Poly}{k:Nat}{r:Ring}(h:l[k]?=some r):heads (l.take (k+1))=heads (l.take k)++r.dropLast:=by
 unfold heads;rw[Pl.take_one h,aH,eU];simp
theorem Je(l:Poly):(heads l).length<=l.flatten.length:=by
 unfold heads;induction l with|nil=>simp|cons r l ih=>simp only[cB,fH,ah,gd];omega
theorem UW:Tryz.prog.underlying 196=some (.slice 4):=by kernel_rfl
theorem UX:(Tryz.prog.info? 4).map (fun i=>(i.zero,i.size,i.bytes))=some (some (.bool false),1,1):=by kernel_rfl
theorem Qi:Tryz.prog.underlying 195=some (.slice 196):=by kernel_rfl
theorem Qj:(Tryz.prog.info? 196).map (fun i=>(i.zero,i.size,i.bytes))=some (some (.slice none 0 0),1,24):=by kernel_rfl
theorem UY:Elem Tryz.prog 195 196 (.slice none 0 0) 1 24:=⟨Qi,Qj,rfl,by omega,by omega⟩
def bools(m:List Bool):List Value:=m.map Value.bool
theorem C3(m:List Bool)(i:Nat)(b:Bool):bools (m.set i b)=(bools m).set i (.bool b):=by simp[bools]
theorem vM{m:List Bool}{i:Nat}{b:Bool}(h:m[i]?=some b):(bools m)[i]?=some (.bool b):=by simp[bools,h]
theorem Qk(n:Nat)(hn:n<=2097152)(w:World):(Instr.makeSlice 196 (.int .i64 (n:Int)) (.int .i64 (n:Int))).run Tryz.prog w=.ok (.slice (some ⟨w.heap.size,0,none⟩) n n) (w.alloc (.cells (bools (List.replicate n false)).toArray 4)):=by
 rw[run_make_row' 196 4 _ 1 UW UX rfl .i64 .i64 n (by omega) (by omega) w];congr 3;rw[←gN (xs:=madeCells _ _),toList_madeCells_one];congr 1;simp[bools]
def UZ(n:Nat)(b:Nat):List Value:=[.slice (some ⟨b,0,none⟩) n n]
structure HT(base:Nat)(w:World)(hv:Value)(bs:List Nat)(M:List (List Bool))(n:Nat):Prop where
 own:w.ownsRow base 196 1 hv bs.length (me (UZ n) bs)
 len:M.length=bs.length
 row:∀(i b:Nat)(m:List Bool),bs[i]?=some b->M[i]?=some m->m.length=n∧jr w b 4 (bools m)
 nd:bs.Nodup
 low:∀b∈bs,base<=b
theorem HT.nil(base:Nat)(w:World)(n:Nat):HT base w (.slice none 0 0) [] [] n:=⟨World.ownsRow_nil _ _ _ _,rfl,fun i b m h=>by simp at h,fo,fun b h=>by simp at h⟩
theorem HT.up{base:Nat}{w w':World}{hv:Value}{bs:List Nat}{M:List (List Bool)}{n:Nat}(h:HT base w hv bs M n)(k:Up w w'):HT base w' hv bs M n:=⟨kL h.own k,h.len,fun i b m hb hm=>⟨(h.row i b m hb hm).1,(h.row i b m hb hm).2.up k⟩,h.nd,h.low⟩
theorem HT.shape{base:Nat}{w:World}{hv:Value}{bs:List Nat}{M:List (List Bool)}{n:Nat}(h:HT base w hv bs M n):∃ao cap,hv=.slice ao M.length cap:=by
 obtain⟨ao,cap,e⟩:=jI h.own;exact⟨ao,cap,by rw[e,h.len]⟩
theorem HT.blk{base:Nat}{w:World}{hv:Value}{bs:List Nat}{M:List (List Bool)}{n:Nat}(h:HT base w hv bs M n){i:Nat}{m:List Bool}(hm:M[i]?=some m):∃b g cap,bs[i]?=some b∧hv=.slice (some ⟨g,0,none⟩) M.length cap∧w.cell? ⟨g,i,none⟩=some (.slice (some ⟨b,0,none⟩) n n)∧m.length=n∧jr w b 4 (bools m)∧base<=b:=by
 obtain⟨b,hb⟩:=Pl.ji (show i<bs.length by rw[←h.len];exact Pl.jo hm);obtain⟨ao,cap,e,hc⟩:=pY (f:=UZ n) (fun _=>rfl) h.own;obtain⟨g,rfl,rq⟩:=hc i b hb;have c:=rq 0 _ rfl;obtain⟨h1,h2⟩:=h.row i b m hb hm;exact⟨b,g,cap,hb,by rw[e,h.len],by simpa using c,h1,h2,h.low b (Pl.jh hb)⟩
theorem HT.store{base:Nat}{w:World}{hv:Value}{bs:List Nat}{M:List (List Bool)}{n:Nat}(h:HT base w hv bs M n){i b:Nat}{m:List Bool}(hb:bs[i]?=some b)(hm:M[i]?=some m)(k:Nat)(x:Bool):HT base (w.setCell ⟨b,k,none⟩ (.bool x)) hv bs (M.set i (m.set k x)) n:=by
 obtain⟨h1,h2⟩:=h.row i b m hb hm;refine⟨kE h.own (jz h.own h2 (by decide)) _,by rw[dP];exact h.len,?_,h.nd,h.low⟩;intro j c mm hc Jb;by_cases e:j=i;{subst e;obtain rfl:=aN (hb.symm.trans hc);rw[fe (Pl.jo hm)]at Jb;obtain rfl:=aN Jb;refine⟨by rw[dP];exact h1,?_⟩;rw[C3];exact h2.set k _};·rw[gL (fun e2=>e e2.symm)]at Jb;obtain⟨q1,q2⟩:=h.row j c mm hc Jb;refine⟨q1,q2.setOther ?_ _⟩;intro e2;refine e ?_;simp only at e2;subst e2;obtain⟨l1,e1⟩:=ee.1 hc;obtain⟨l2,e3⟩:=ee.1 hb;rcases dL j i with q|q|q;{exact absurd (e1.trans e3.symm) (cV.1 h.nd j i l1 l2 q)};{exact q};·exact absurd (e3.trans e1.symm) (cV.1 h.nd i j l2 l1 q)
theorem HT.push{base:Nat}{w w':World}{hv hv':Value}{bs:List Nat}{M:List (List Bool)}{n b:Nat}{m:List Bool}(h:HT base w hv bs M n)(hr:jr w b 4 (bools m))(hl:m.length=n)(hb:base<=b)(hn:b∉bs)(hg:w.grownBy w' hv.ownBlock)(ho:w'.ownsRow base 196 1 hv' (bs.length+1) (me (UZ n) bs++UZ n b)):HT base w' hv' (bs++[b]) (M++[m]) n:=by
 refine⟨?_,by simp[h.len],?_,?_,?_⟩;{rw[pX,ah];exact ho};{intro i c mm hc Jb;by_cases q:i<bs.length;{rw[aT q]at hc;rw[aT (by rw[h.len];exact q)]at Jb;obtain⟨q1,q2⟩:=h.row i c mm hc Jb;exact⟨q1,q2.grown hg (jz h.own q2 (by decide))⟩};·have l1:=Pl.jo hc;simp only[ah,gF]at l1;have e:i=bs.length:=(by omega);subst e;rw[aI (bA _),b7]at hc;rw[aI (by rw[h.len];exact bA _),h.len,b7]at Jb;cases hc;cases Jb;exact⟨hl,hr.grown hg (jz h.own hr (by decide))⟩};{rw[cq];refine⟨h.nd,by simp,?_⟩;intro a ha c hc;rw[bF]at hc;subst hc;exact fun e=>hn (e▸ha)};·intro c hc;rcases aD.1 hc with hc|hc;{exact h.low c hc};·rw[bF]at hc;subst hc;exact hb
def oV(M:List (List Bool))(r k:Nat):Bool:=((M[r]?).bind fun m=>m[k]?).getD false
theorem Kz{M:List (List Bool)}{r k:Nat}{m:List Bool}{b:Bool}(hm:M[r]?=some m)(hb:m[k]?=some b):oV M r k=b:=by
 unfold oV;rw[hm];simp[hb]
theorem DF{M:List (List Bool)}{r k:Nat}{m:List Bool}(hm:M[r]?=some m):oV (M.set r (m.set k false))=Vd.strike (oV M) r k:=by
 funext s j;unfold Vd.strike;by_cases e:s=r;{subst e;unfold oV;rw[fe (Pl.jo hm),hm];by_cases e2:j=k;{subst e2;rw[ai ⟨rfl,rfl⟩];by_cases c:j<m.length;{simp[fe c]};·have e3:(m.set j false)[j]?=none:=aW (by rw[dP];omega);simp[e3]};·rw[ag (fun q=>e2 q.2)];simp[gL (fun q=>e2 q.symm)]};·rw[ag (fun q=>e q.1)];unfold oV;rw[gL (fun q=>e q.symm)]
def cnt(M:List (List Bool)):Nat:=(M.map fun m=>m.countP id).sum
def rowOf(T:List jk)(r:Ring):List Bool:=T.map fun p=>decide (Vd.mh r (Vd.qi p)=0)
theorem YV{T:List jk}{r:Ring}{t:Nat}{p:jk}(h:T[t]?=some p):(rowOf T r)[t]?=some (decide (Vd.mh r (Vd.qi p)=0)):=by
 unfold rowOf;rw[aB,h];rfl
def yB(m:List Bool)(t:Nat):List Bool:=m.take t++List.replicate (m.length-t) false
theorem Ql(m:List Bool):yB m 0=List.replicate m.length false:=by simp[yB]
theorem U0(m:List Bool):yB m m.length=m:=by simp[yB]
theorem YW{m:List Bool}{t:Nat}(h:t<m.length):(yB m t)[t]?=some false:=by
 unfold yB;rw[aI (by rw[bE];omega),bE,show t-min t m.length=0 by omega,show m.length-t=m.length-(t+1)+1 by omega,fJ];rfl
theorem Jf{m:List Bool}{t:Nat}{x:Bool}(h:m[t]?=some x):(yB m t).set t x=yB m (t+1):=by
 have hl:=Pl.jo h;unfold yB;rw[cC _ _ (by rw[bE];omega),bE,show t-min t m.length=0 by omega,show m.length-t=m.length-(t+1)+1 by omega,fJ,dQ,Pl.take_one h,bg];rfl
theorem HT.new{base:Nat}{w:World}{hv:Value}{bs:List Nat}{M:List (List Bool)}{n:Nat}(h:HT base w hv bs M n):w.heap.size∉bs:=by
 intro k;obtain⟨i,hi,e⟩:=eT k;have hb:bs[i]?=some w.heap.size:=(by rw[aG hi,e]);obtain⟨m,hm⟩:=Pl.ji (show i<M.length by rw[h.len];exact hi);have:=(h.row i _ m hb hm).2.lt;omega
end Go.Proofs.YtcclepohmhdpbaaGreatDoor
namespace Go.Proofs.YtcclepohmhdpbaaGreatDoor
set_option linter.all false
namespace Vd
def Qm(M:Nat->Nat->Bool)(r:Nat):Prop:=∀s,s<r->(∀k,M s k=true->∃s',s'≠s∧M s' k=true)∧(∀k,M s k=true->∃j,j≠k∧M s j=true)
def Shared(M:Nat->Nat->Bool)(r k:Nat):Prop:=∀j,j<k->M r j=true->∃s,s≠r∧M s j=true
theorem Nv(M:Nat->Nat->Bool)(r:Nat):Shared M r 0:=fun j h=>absurd h (by omega)
theorem Shared.step{M:Nat->Nat->Bool}{r k:Nat}(h:Shared M r k)(hk:M r k=true->∃s,s≠r∧M s k=true):Shared M r (k+1):=fun j hj hm=>by by_cases e:j=k;{subst e;exact hk hm};·exact h j (by omega) hm
structure NA(f:Nat->Bool)(k n at_:Nat):Prop where
 le:n<=k
 zero:n=0->∀j,j<k->f j=false
 one:n=1->∀j,j<k->j≠at_->f j=false
 pos:1<=n->at_<k∧f at_=true
 two:2<=n->∃i j,i≠j∧i<k∧j<k∧f i=true∧f j=true
theorem NA.start(f:Nat->Bool):NA f 0 0 0:=⟨bA _,fun _ j h=>absurd h (by omega),fun h=>absurd h (by omega),fun h=>absurd h (by omega),fun h=>absurd h (by omega)⟩
theorem NA.yes{f:Nat->Bool}{k n a:Nat}(h:NA f k n a)(hk:f k=true):NA f (k+1) (n+1) k:=by
 refine⟨by have:=h.le;omega,fun e=>absurd e (by omega),?_,fun _=>⟨by omega,hk⟩,?_⟩;{intro e j hj hne;exact h.zero (by omega) j (by omega)};·intro e;obtain⟨h1,h2⟩:=h.pos (by omega);exact⟨a,k,by omega,by omega,by omega,h2,hk⟩
theorem NA.no{f:Nat->Bool}{k n a:Nat}(h:NA f k n a)(hk:f k=false):NA f (k+1) n a:=by
 refine⟨by have:=h.le;omega,?_,?_,fun e=>⟨by have:=(h.pos e).1;omega,(h.pos e).2⟩,?_⟩;{intro e j hj;by_cases q:j=k;{rw[q];exact hk};·exact h.zero e j (by omega)};{intro e j hj hne;by_cases q:j=k;{rw[q];exact hk};·exact h.one e j (by omega) hne};·intro e;obtain⟨i,j,q1,q2,q3,q4,q5⟩:=h.two e;exact⟨i,j,q1,by omega,by omega,q4,q5⟩
theorem NA.congr{f g:Nat->Bool}{k n a:Nat}(h:NA f k n a)(e:∀j,j<k->g j=f j):NA g k n a:=by
 refine⟨h.le,fun q j hj=>by rw[e j hj];exact h.zero q j hj,fun q j hj hne=>by rw[e j hj];exact h.one q j hj hne,fun q=>⟨(h.pos q).1,by rw[e _ (h.pos q).1];exact(h.pos q).2⟩,fun q=>?_⟩;obtain⟨i,j,q1,q2,q3,q4,q5⟩:=h.two q;exact⟨i,j,q1,q2,q3,by rw[e i q2];exact q4,by rw[e j q3];exact q5⟩
theorem NA.ring{f:Nat->Bool}{k n a:Nat}(h:NA f k n a)(hn:n≠1)(hf:∀j,k<=j->f j=false):∀j,f j=true->∃i,i≠j∧f i=true:=by
 intro j hj;have hjk:j<k:=(by rcases bH j k with q|q;{exact q};·rw[hf j q]at hj;cases hj);rcases bH n 2 with q|q;{rw[h.zero (by omega) j hjk]at hj;cases hj};·obtain⟨x,y,q1,q2,q3,q4,q5⟩:=h.two q;by_cases e:x=j;{exact⟨y,by rw[←e];exact fun q=>q1 q.symm,q5⟩};·exact⟨x,e,q4⟩
theorem Qm.step{M:Nat->Nat->Bool}{r:Nat}(h:Qm M r)(h1:∀k,M r k=true->∃s,s≠r∧M s k=true)(h2:∀k,M r k=true->∃j,j≠k∧M r j=true):Qm M (r+1):=fun s hs=>by by_cases e:s=r;{subst e;exact⟨h1,h2⟩};·exact h s (by omega)
end Vd
theorem zS:∀(m:List Bool)(k:Nat),m[k]?=some true->(m.set k false).countP id<m.countP id|[],k,h=>by simp at h|x::m,0,h=>by simp only[List.getElem?_cons_zero,fG]at h;subst h;simp[fj]|x::m,k+1,h=>by have:=zS m k (by simpa using h);simp only[List.set_cons_succ,fj];omega
theorem Ay:∀(M:List (List Bool))(r k:Nat)(m:List Bool),M[r]?=some m->m[k]?=some true->cnt (M.set r (m.set k false))<cnt M|[],r,k,m,h,_=>by simp at h|x::M,0,k,m,h,hk=>by simp only[List.getElem?_cons_zero,fG]at h;subst h;have:=zS x k hk;simp only[cnt,dQ,cB,fh];omega|x::M,r+1,k,m,h,hk=>by have:=Ay M r k m (by simpa using h) hk;simp only[cnt,List.set_cons_succ,cB,fh]at*;omega
theorem YX{M:List (List Bool)}{r k:Nat}(h:oV M r k=true):∃m,M[r]?=some m∧m[k]?=some true:=by
 unfold oV at h;cases hm:M[r]?with|none=>rw[hm]at h;simp at h|some m=>rw[hm]at h;simp only[iJ]at h;cases hk:m[k]?with|none=>rw[hk]at h;simp at h|some b=>rw[hk]at h;simp at h;subst h;exact⟨m,rfl,hk⟩
def sP(M:List (List Bool))(r k t:Nat):Bool:=Vd.anyI t fun s=>decide (s≠r)&&oV M s k
theorem DG(M:List (List Bool))(r k t:Nat):sP M r k (t+1)=(sP M r k t||(decide (t≠r)&&oV M t k)):=by
 unfold sP;rw[Vd.nS]
end Go.Proofs.YtcclepohmhdpbaaGreatDoor
