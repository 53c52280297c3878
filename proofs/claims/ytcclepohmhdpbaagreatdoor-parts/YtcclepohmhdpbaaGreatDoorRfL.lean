import Derived.Test.YtcclepohmhdpbaaGreatDoorRfF
import Derived.Test.YtcclepohmhdpbaaGreatDoorGmD
set_option maxHeartbeats 8000000
set_option maxRecDepth 4000
namespace Go.Proofs.YtcclepohmhdpbaaGreatDoor
set_option linter.all false
open Go.RowKit Go.Deep
theorem Tc{a b:aA}{rings:Poly}:∀(n:Nat)(x:aA),∀m∈Vd.nD a b rings n x,m.2=2:=by
 intro n;induction n with|zero=>intro x m h;cases h|succ n ih=>intro x m h;unfold Vd.nD at h;split at h;{cases h};·rcases v7.1 h with rfl|h;{rfl};·exact ih _ m h
theorem XD{a b:aA}{rings:Poly}(hb:Vd.Cd b)(hc:Vd.sU rings):∀(n:Nat)(x:aA),Vd.Cd x->∀m∈Vd.nD a b rings n x,Vd.Sp m:=by
 intro n;induction n with|zero=>intro x _ m h;cases h|succ n ih=>intro x hx m h;unfold Vd.nD at h;have hn:=Vd.Ls (a:=a) (b:=b) (x:=x) hb hc;split at h;{cases h};·rcases v7.1 h with rfl|h;{unfold Vd.Cd at hx hn;unfold Vd.Sp Vd.bB;simp only;omega};·exact ih _ hn m h
theorem XE(a b:aA)(rings:Poly):(Vd.wm a b rings).length<=rings.flatten.length+1:=by
 unfold Vd.wm;generalize rings.flatten.length+1=n;have key:∀(n:Nat)(x:aA),(Vd.nD a b rings n x).length<=n:=(by intro n;induction n with|zero=>intro x;exact IN _|succ n ih=>intro x;unfold Vd.nD;split;exact oE _;simp only[L7];have:=ih (Vd.sZ a b x rings);omega);exact key n a
theorem Qk{o:Nat}(v u:Value)(r:Ring)(r0:Ring)(t:List Ring)(so:Int)(w:World)(hv:oQ w v r)(hu:Rdo o w u (r0::t))(hr:r.length<=1048576)(hl:t.length<=1048575)(jl:∀r∈r0::t,r.length<=1048576)(hf:(r0::t).flatten.length<=1048576)(hc:Vd.yT r)(sG:Vd.sU (r0::t)):Calls Tryz.prog 130 #[v,u,.int .i64 so] w λe w'=>e=.returned (.bool (Vd.ot r (r0::t) so))/\Up w w':=by
 obtain⟨ao,cap,rfl,hm⟩:=hv;have HM:=ag hm;have Ea:=ag hu;obtain⟨kD,dH,rfl,-⟩:=Ea.out;have HC:=ag hc;have su:=ag sG;have HL:=ag jl;have Ql:=ag hf;have Hh:(r0::t).length<=1048576:=(by simp only[L7];omega);obtain⟨f,hf'⟩:∃f:Vd.bg->Bool,f=λs=>(Vd.wm s.1 s.2 (r0::t)).any λm=>decide (Vd.QL (r0::t) m≠so):=⟨_,rfl⟩;have HT:Hid (Vd.ot r (r0::t) so=!((Vd.aB r).any f)):=(by subst hf';exact rfl);have HF:Hid (∀s,f s=(Vd.wm s.1 s.2 (r0::t)).any λm=>decide (Vd.QL (r0::t) m≠so)):=(by subst hf';exact λ_=>rfl);have kM:=ag (λa b=>XE a b (r0::t));have HSp:Hid (∀a b,Vd.Cd a->Vd.Cd b->∀m∈Vd.wm a b (r0::t),Vd.Sp m):=λa b ha hb m hm=>XD hb sG _ a ha m hm;have HTw:Hid (∀a b,∀m∈Vd.wm a b (r0::t),m.2=2):=λa b m hm=>Tc _ a m hm;clear hm hu hc sG jl hf hf';go_enter Tryz.func130,Tryz.ntmps130;go_wp2;go_loopw[7](λi wr=>∃k:Nat,i=.int .i64 k/\k<=r.length/\Hid (Up w wr)/\Hid ((Vd.aB r).any f=((Vd.aB r).drop k).any f))(λi _=>r.length-(intOf i).toNat);(case atStart=>exact⟨0,rfl,oE _,Up.refl _,rfl⟩);case round=>obtain⟨k,rfl,hk,HU,HA⟩:=hrel;by_cases hlt:k+1<r.length;{obtain⟨⟨ax,ay⟩,hpa⟩:=Pl.ai (show k<r.length by omega);obtain⟨⟨bx,bY⟩,Ie⟩:=Pl.ai hlt;obtain⟨g,rfl,c0,c1⟩:=HM.out k _ hpa;obtain⟨g',e',d0,d1⟩:=HM.out (k+1) _ Ie;cases e';have ca:=ag (HC.out _ (Pl.ah hpa));have cb:=ag (HC.out _ (Pl.ah Ie));replace HA:=ag (HA.out.trans (yC (Vd.cN hpa Ie)));rw[HF.out]at HA;have Y1:=HU.out.cell c0;have Y4:=HU.out.cell c1;have d0':=HU.out.cell d0;have d1':=HU.out.cell d1;have i1:(0:Int)<=(k:Int):=(by omega);have i2:(k:Int)<(r.length:Int):=(by omega);have i3:(k:Int)+1<(r.length:Int):=(by omega);have i4:(0:Int)<=(k:Int)+1:=(by omega);have i5:IntKind.i64.wrap ((k:Int)+1)=(k:Int)+1:=aU (by omega) (by omega);have i6:wrap64 ((k:Int)+1)=(k:Int)+1:=rA (by omega) (by omega);clear hpa Ie c0 c1 d0 d1;(try dsimp only at Y1 Y4 d0' d1');go_wp2;go_region_held3(λw'=>w'.cell? ⟨g,k*2,none⟩=some (.int .i64 ax)/\w'.cell? ⟨g,k*2+1,none⟩=some (.int .i64 ay)/\w'.cell? ⟨g,(k+1)*2,none⟩=some (.int .i64 bx)/\w'.cell? ⟨g,(k+1)*2+1,none⟩=some (.int .i64 bY))(go_keep)(first|(go_at_call 166;refine(XC (ax,ay) (bx,bY) _ (r0::t) _ ca.out cb.out (Ea.out.up (HU.out.drew)) Hh HL.out Ql.out su.out).mono ?_;rintro e w2⟨mv,rfl,hz,ho⟩;have HUm:=ag (HU.out.drew.trans hz);have HOm:=ag ho;have k0:=(((Up.refl wr).drew).trans hz).cell Y1;have k1:=(((Up.refl wr).drew).trans hz).cell Y4;have k2:=(((Up.refl wr).drew).trans hz).cell d0';have k3:=(((Up.refl wr).drew).trans hz).cell d1';clear hz ho));obtain⟨ma,mc,rfl⟩:=bE HOm.out;have hLl:=kM.out (ax,ay) (bx,bY);have hF3:=Ql.out;have HS2:=ag (HSp.out (ax,ay) (bx,bY) ca.out cb.out);have FN:=ag (HTw.out (ax,ay) (bx,bY));generalize Vd.wm (ax,ay) (bx,bY) (r0::t)=L at*;have hRd:oQ w2 (.slice ma L.length mc) (L.map (·.1)):=qj (by rw[wg];exact HOm.out);obtain⟨ma',mc',e',FQ⟩:=hRd;simp only[wg,Value.slice.injEq]at e';obtain⟨rfl,-,rfl⟩:=e';have HMM:=ag FQ;have hLb:L.length<=1048577:=(by omega);clear k0 k1 k2 k3 Y1 Y4 d0' d1' hLl hF3 FQ i5 i6;go_wp2;go_loopw[9](λi wq=>∃q:Nat,i=.int .i64 q/\q<=L.length/\Hid (Up w2 wq)/\Hid ((Vd.aB r).any f=((L.drop q).any (λm=>decide (Vd.QL (r0::t) m≠so))||((Vd.aB r).drop (k+1)).any f)))(λi _=>L.length-(intOf i).toNat);(case atStart=>exact⟨0,rfl,oE _,Up.refl _,HA⟩);case round=>clear HU HA;obtain⟨q,rfl,hq,jG,HA⟩:=hrel;by_cases iF:q<L.length;{obtain⟨⟨⟨mx,my⟩,md⟩,hm⟩:=Pl.ai iF;have e2:=FN.out _ (Pl.ah hm);simp only at e2;subst e2;have HSm:=ag (HS2.out _ (Pl.ah hm));obtain⟨gm,rfl,c0,c1⟩:=HMM.out q (mx,my) (by rw[An,hm];rfl);rw[yC hm]at HA;have Y1:=jG.out.cell c0;have Y4:=jG.out.cell c1;(try dsimp only at Y1 Y4);have i7:(0:Int)<=(q:Int):=(by omega);have i8:(q:Int)<(L.length:Int):=(by omega);clear hm c0 c1;go_wp2_with fail;refine(aeF _ r0 t ((mx,my),2) _ (Ea.out.up (HUm.out.trans jG.out)) hl HL.out su.out HSm.out).mono ?_;rintro e w3⟨rfl,hz⟩;have dQ:=ag (jG.out.trans hz);generalize Vd.QL (r0::t) ((mx,my),2)=I at*;clear hz Y1 Y4 i7 i8;by_cases hI:I=so;{have AX:Hid ((Vd.aB r).any f=((L.drop (q+1)).any (λm=>decide (Vd.QL (r0::t) m≠so))||((Vd.aB r).drop (k+1)).any f)):=(by show _=_;rw[HA.out];simp[hI]);subst hI;go_wp2;go_roundw;(case rel=>exact⟨q+1,by go_num,by omega,dQ,AX⟩);case measure=>simp[intOf];omega};·have HR:Hid (Vd.ot r (r0::t) so=false):=(by show _=_;rw[HT.out,HA.out];simp[hI]);have hI':=ff.2 hI;have hI2:=ab2.2 hI;go_wp2;go_ret;exact⟨bK HR.out.symm,HUm.out.trans dQ.out⟩};·have AX:Hid ((Vd.aB r).any f=((Vd.aB r).drop (k+1)).any f):=(by show _=_;rw[HA.out,yD (by omega)];rfl);go_wp2;go_roundw;(case rel=>exact⟨k+1,by go_num,by omega,HUm.out.trans jG.out,AX⟩);case measure=>simp[intOf];omega};·have HR:Hid (Vd.ot r (r0::t) so=true):=(by show _=_;rw[HT.out,HA.out,yD (by rw[Vd.b8];omega)];rfl);go_wp2;go_ret;exact⟨bK HR.out.symm,HU.out⟩
def vZ(acc:List aA)(p:aA):List aA:=if p∈acc then acc else acc++[p]
def mg(l:List aA):List aA:=l.foldl vZ []
theorem N7(l:List aA)(p:aA):mg (l++[p])=vZ (mg l) p:=by
 unfold mg;rw[adD];rfl
theorem xd:∀(l acc:List aA),acc.Nodup->(l.foldl vZ acc).Nodup/\(∀p,p∈l.foldl vZ acc↔p∈acc\/p∈l)/\(l.foldl vZ acc).length<=acc.length+l.length:=by
 intro l;induction l with|nil=>intro acc h;exact⟨h,λp=>by simp,by simp⟩|cons x l ih=>intro acc h;rw[aci];by_cases hx:x∈acc;{rw[show vZ acc x=acc from mu hx];obtain⟨h1,h2,h3⟩:=ih acc h;refine⟨h1,λp=>?_,by simp only[L7];omega⟩;rw[h2,v7];constructor;{rintro(a|a);exact .inl a;exact .inr (.inr a)};·rintro(a|rfl|a);exact .inl a;exact .inl hx;exact .inr a};·rw[show vZ acc x=acc++[x]from ef hx];obtain⟨h1,h2,h3⟩:=ih (acc++[x]) (by rw[aaq];refine⟨h,by simp,?_⟩;intro a ha b hb;rw[Is]at hb;subst hb;exact λe=>hx (e▸ha));refine⟨h1,λp=>?_,by simp only[L7,oS,aa8]at*;omega⟩;rw[h2,gd,Is,v7];constructor;{rintro((a|a)|a);exact .inl a;exact .inr (.inl a);exact .inr (.inr a)};·rintro(a|a|a);exact .inl (.inl a);exact .inl (.inr a);exact .inr a
theorem Lu(l:List aA):(mg l).Nodup:=(xd l [] aeG).1
theorem Td{l:List aA}{p:aA}:p∈mg l↔p∈l:=by
 have:=(xd l [] aeG).2.1 p;unfold mg;rw[this];simp
theorem FY(l:List aA):(mg l).length<=l.length:=by
 have:=(xd l [] aeG).2.2;unfold mg;simp at this;omega
def heads(l:Poly):List aA:=(l.map List.dropLast).flatten
theorem yE{r:Ring}(h:Vd.Shut r)(p:aA):p∈r.dropLast↔p∈r:=by
 constructor;{exact λk=>List.dropLast_subset r k};·intro k;obtain⟨i,hi,e⟩:=aer k;have hl:=h.len;by_cases c:i<r.length-1;{have:r.dropLast[i]'(by rw[afp];exact c)=r[i]:=List.getElem_dropLast _;exact List.mem_of_getElem (this.trans e)};·have e0:r[0]'(by omega)=p:=(by have h1:=Vd.aG (r:=r) (i:=0) (by omega);have h2:=Vd.aG (r:=r) (i:=r.length-1) (by omega);have e3:i=r.length-1:=(by omega);subst e3;rw[AI (by omega)]at h1 h2;rw[DP h1,h.eq,<-DP h2];exact e);have:r.dropLast[0]'(by rw[afp];omega)=r[0]'(by omega):=List.getElem_dropLast _;exact List.mem_of_getElem (this.trans e0)
theorem Te{l:Poly}(h:∀r∈l,Vd.Shut r)(p:aA):p∈heads l↔p∈l.flatten:=by
 unfold heads;simp only[By,As];constructor;{rintro⟨_,⟨r,hr,rfl⟩,hp⟩;exact⟨r,hr,(yE (h r hr) p).1 hp⟩};·rintro⟨r,hr,hp⟩;exact⟨_,⟨r,hr,rfl⟩,(yE (h r hr) p).2 hp⟩
theorem N8{l:Poly}{k:Nat}{r:Ring}(h:l[k]?=some r):heads (l.take (k+1))=heads (l.take k)++r.dropLast:=by
 unfold heads;rw[Pl.take_one h,C',adL];simp
theorem F3(l:Poly):(heads l).length<=l.flatten.length:=by
 unfold heads;induction l with|nil=>simp|cons r l ih=>simp only[aa1,aeh,oS,afp];omega
theorem Tf:Tryz.prog.underlying 196=some (.slice 4):=by kernel_rfl
theorem Tg:(Tryz.prog.info? 4).map (λi=>(i.zero,i.size,i.bytes))=some (some (.bool false),1,1):=by kernel_rfl
theorem N9:Tryz.prog.underlying 195=some (.slice 196):=by kernel_rfl
theorem Oa:(Tryz.prog.info? 196).map (λi=>(i.zero,i.size,i.bytes))=some (some (.slice none 0 0),1,24):=by kernel_rfl
theorem Th:Elem Tryz.prog 195 196 (.slice none 0 0) 1 24:=⟨N9,Oa,rfl,by omega,by omega⟩
def bools(m:List Bool):List Value:=m.map Value.bool
theorem zO(m:List Bool)(i:Nat)(b:Bool):bools (m.set i b)=(bools m).set i (.bool b):=by simp[bools]
theorem q8{m:List Bool}{i:Nat}{b:Bool}(h:m[i]?=some b):(bools m)[i]?=some (.bool b):=by simp[bools,h]
theorem Oc(n:Nat)(hn:n<=2097152)(w:World):(Instr.makeSlice 196 (.int .i64 (n:Int)) (.int .i64 (n:Int))).run Tryz.prog w=.ok (.slice (some ⟨w.heap.size,0,none⟩) n n) (w.alloc (.cells (bools (List.replicate n false)).toArray 4)):=by
 rw[run_make_row' 196 4 _ 1 Tf Tg rfl .i64 .i64 n (by omega) (by omega) w];congr 3;rw[<-agW (xs:=madeCells _ _),toList_madeCells_one];congr 1;simp[bools]
def Ti(n:Nat)(b:Nat):List Value:=[.slice (some ⟨b,0,none⟩) n n]
structure HT(base:Nat)(w:World)(hv:Value)(bs:List Nat)(M:List (List Bool))(n:Nat):Prop where
 own:w.ownsRow base 196 1 hv bs.length (fI (Ti n) bs)
 len:M.length=bs.length
 row:∀(i b:Nat)(m:List Bool),bs[i]?=some b->M[i]?=some m->m.length=n/\aD w b 4 (bools m)
 nd:bs.Nodup
 low:∀b∈bs,base<=b
theorem HT.nil(base:Nat)(w:World)(n:Nat):HT base w (.slice none 0 0) [] [] n:=⟨World.ownsRow_nil _ _ _ _,rfl,λi b m h=>by simp at h,aeG,λb h=>by simp at h⟩
theorem HT.up{base:Nat}{w w':World}{hv:Value}{bs:List Nat}{M:List (List Bool)}{n:Nat}(h:HT base w hv bs M n)(k:Up w w'):HT base w' hv bs M n:=⟨dJ h.own k,h.len,λi b m hb hm=>⟨(h.row i b m hb hm).1,(h.row i b m hb hm).2.up k⟩,h.nd,h.low⟩
theorem HT.shape{base:Nat}{w:World}{hv:Value}{bs:List Nat}{M:List (List Bool)}{n:Nat}(h:HT base w hv bs M n):∃ao cap,hv=.slice ao M.length cap:=by
 obtain⟨ao,cap,e⟩:=bE h.own;exact⟨ao,cap,by rw[e,h.len]⟩
theorem HT.blk{base:Nat}{w:World}{hv:Value}{bs:List Nat}{M:List (List Bool)}{n:Nat}(h:HT base w hv bs M n){i:Nat}{m:List Bool}(hm:M[i]?=some m):∃b g cap,bs[i]?=some b/\hv=.slice (some ⟨g,0,none⟩) M.length cap/\w.cell? ⟨g,i,none⟩=some (.slice (some ⟨b,0,none⟩) n n)/\m.length=n/\aD w b 4 (bools m)/\base<=b:=by
 obtain⟨b,hb⟩:=Pl.ai (show i<bs.length by rw[<-h.len];exact Pl.aE hm);obtain⟨ao,cap,e,hc⟩:=ki (f:=Ti n) (λ_=>rfl) h.own;obtain⟨g,rfl,sG⟩:=hc i b hb;have c:=sG 0 _ rfl;obtain⟨h1,h2⟩:=h.row i b m hb hm;exact⟨b,g,cap,hb,by rw[e,h.len],by simpa using c,h1,h2,h.low b (Pl.ah hb)⟩
theorem HT.store{base:Nat}{w:World}{hv:Value}{bs:List Nat}{M:List (List Bool)}{n:Nat}(h:HT base w hv bs M n){i b:Nat}{m:List Bool}(hb:bs[i]?=some b)(hm:M[i]?=some m)(k:Nat)(x:Bool):HT base (w.setCell ⟨b,k,none⟩ (.bool x)) hv bs (M.set i (m.set k x)) n:=by
 obtain⟨h1,h2⟩:=h.row i b m hb hm;refine⟨iL h.own (aV h.own h2 (by decide)) _,by rw[acr];exact h.len,?_,h.nd,h.low⟩;intro j c mm hc FQ;by_cases e:j=i;{subst e;obtain rfl:=DP (hb.symm.trans hc);rw[aev (Pl.aE hm)]at FQ;obtain rfl:=DP FQ;refine⟨by rw[acr];exact h1,?_⟩;rw[zO];exact h2.set k _};·rw[afO (λe2=>e e2.symm)]at FQ;obtain⟨q1,q2⟩:=h.row j c mm hc FQ;refine⟨q1,q2.setOther ?_ _⟩;intro e2;refine e ?_;simp only at e2;subst e2;obtain⟨l1,e1⟩:=adU.1 hc;obtain⟨l2,e3⟩:=adU.1 hb;rcases aco j i with q|q|q;{exact absurd (e1.trans e3.symm) (abe.1 h.nd j i l1 l2 q)};{exact q};·exact absurd (e3.trans e1.symm) (abe.1 h.nd i j l2 l1 q)
theorem HT.push{base:Nat}{w w':World}{hv hv':Value}{bs:List Nat}{M:List (List Bool)}{n b:Nat}{m:List Bool}(h:HT base w hv bs M n)(hr:aD w b 4 (bools m))(hl:m.length=n)(hb:base<=b)(hn:b∉bs)(hg:w.grownBy w' hv.ownBlock)(ho:w'.ownsRow base 196 1 hv' (bs.length+1) (fI (Ti n) bs++Ti n b)):HT base w' hv' (bs++[b]) (M++[m]) n:=by
 refine⟨?_,by simp[h.len],?_,?_,?_⟩;{rw[kg,oS];exact ho};{intro i c mm hc FQ;by_cases q:i<bs.length;{rw[EV q]at hc;rw[EV (by rw[h.len];exact q)]at FQ;obtain⟨q1,q2⟩:=h.row i c mm hc FQ;exact⟨q1,q2.grown hg (aV h.own q2 (by decide))⟩};·have l1:=Pl.aE hc;simp only[oS,abN]at l1;have e:i=bs.length:=(by omega);subst e;rw[AN (IN _),aap]at hc;rw[AN (by rw[h.len];exact IN _),h.len,aap]at FQ;cases hc;cases FQ;exact⟨hl,hr.grown hg (aV h.own hr (by decide))⟩};{rw[aaq];refine⟨h.nd,by simp,?_⟩;intro a ha c hc;rw[Is]at hc;subst hc;exact λe=>hn (e▸ha)};·intro c hc;rcases gd.1 hc with hc|hc;{exact h.low c hc};·rw[Is]at hc;subst hc;exact hb
def jz(M:List (List Bool))(r k:Nat):Bool:=((M[r]?).bind λm=>m[k]?).getD false
theorem Ig{M:List (List Bool)}{r k:Nat}{m:List Bool}{b:Bool}(hm:M[r]?=some m)(hb:m[k]?=some b):jz M r k=b:=by
 unfold jz;rw[hm];simp[hb]
theorem AA{M:List (List Bool)}{r k:Nat}{m:List Bool}(hm:M[r]?=some m):jz (M.set r (m.set k false))=Vd.strike (jz M) r k:=by
 funext s j;unfold Vd.strike;by_cases e:s=r;{subst e;unfold jz;rw[aev (Pl.aE hm),hm];by_cases e2:j=k;{subst e2;rw[mu ⟨rfl,rfl⟩];by_cases c:j<m.length;{simp[aev c]};·have e3:(m.set j false)[j]?=none:=DQ (by rw[acr];omega);simp[e3]};·rw[ef (λq=>e2 q.2)];simp[afO (λq=>e2 q.symm)]};·rw[ef (λq=>e q.1)];unfold jz;rw[afO (λq=>e q.symm)]
def cnt(M:List (List Bool)):Nat:=(M.map λm=>m.countP id).sum
def rowOf(T:List aA)(r:Ring):List Bool:=T.map λp=>decide (Vd.fK r (Vd.jZ p)=0)
theorem XF{T:List aA}{r:Ring}{t:Nat}{p:aA}(h:T[t]?=some p):(rowOf T r)[t]?=some (decide (Vd.fK r (Vd.jZ p)=0)):=by
 unfold rowOf;rw[An,h];rfl
def uj(m:List Bool)(t:Nat):List Bool:=m.take t++List.replicate (m.length-t) false
theorem Od(m:List Bool):uj m 0=List.replicate m.length false:=by simp[uj]
theorem Tj(m:List Bool):uj m m.length=m:=by simp[uj]
theorem XG{m:List Bool}{t:Nat}(h:t<m.length):(uj m t)[t]?=some false:=by
 unfold uj;rw[AN (by rw[No];omega),No,show t-min t m.length=0 by omega,show m.length-t=m.length-(t+1)+1 by omega,afw];rfl
theorem F4{m:List Bool}{t:Nat}{x:Bool}(h:m[t]?=some x):(uj m t).set t x=uj m (t+1):=by
 have hl:=Pl.aE h;unfold uj;rw[aaX _ _ (by rw[No];omega),No,show t-min t m.length=0 by omega,show m.length-t=m.length-(t+1)+1 by omega,afw,ad',Pl.take_one h,aav];rfl
theorem HT.new{base:Nat}{w:World}{hv:Value}{bs:List Nat}{M:List (List Bool)}{n:Nat}(h:HT base w hv bs M n):w.heap.size∉bs:=by
 intro k;obtain⟨i,hi,e⟩:=aer k;have hb:bs[i]?=some w.heap.size:=(by rw[AI hi,e]);obtain⟨m,hm⟩:=Pl.ai (show i<M.length by rw[h.len];exact hi);have:=(h.row i _ m hb hm).2.lt;omega
end Go.Proofs.YtcclepohmhdpbaaGreatDoor
namespace Go.Proofs.YtcclepohmhdpbaaGreatDoor
set_option linter.all false
namespace Vd
def Oe(M:Nat->Nat->Bool)(r:Nat):Prop:=∀s,s<r->(∀k,M s k=true->∃s',s'≠s/\M s' k=true)/\(∀k,M s k=true->∃j,j≠k/\M s j=true)
def Shared(M:Nat->Nat->Bool)(r k:Nat):Prop:=∀j,j<k->M r j=true->∃s,s≠r/\M s j=true
theorem Lv(M:Nat->Nat->Bool)(r:Nat):Shared M r 0:=λj h=>absurd h (by omega)
theorem Shared.step{M:Nat->Nat->Bool}{r k:Nat}(h:Shared M r k)(hk:M r k=true->∃s,s≠r/\M s k=true):Shared M r (k+1):=λj hj hm=>by by_cases e:j=k;{subst e;exact hk hm};·exact h j (by omega) hm
structure NA(f:Nat->Bool)(k n at_:Nat):Prop where
 le:n<=k
 zero:n=0->∀j,j<k->f j=false
 one:n=1->∀j,j<k->j≠at_->f j=false
 pos:1<=n->at_<k/\f at_=true
 two:2<=n->∃i j,i≠j/\i<k/\j<k/\f i=true/\f j=true
theorem NA.start(f:Nat->Bool):NA f 0 0 0:=⟨IN _,λ_ j h=>absurd h (by omega),λh=>absurd h (by omega),λh=>absurd h (by omega),λh=>absurd h (by omega)⟩
theorem NA.yes{f:Nat->Bool}{k n a:Nat}(h:NA f k n a)(hk:f k=true):NA f (k+1) (n+1) k:=by
 refine⟨by have:=h.le;omega,λe=>absurd e (by omega),?_,λ_=>⟨by omega,hk⟩,?_⟩;{intro e j hj hne;exact h.zero (by omega) j (by omega)};·intro e;obtain⟨h1,h2⟩:=h.pos (by omega);exact⟨a,k,by omega,by omega,by omega,h2,hk⟩
theorem NA.no{f:Nat->Bool}{k n a:Nat}(h:NA f k n a)(hk:f k=false):NA f (k+1) n a:=by
 refine⟨by have:=h.le;omega,?_,?_,λe=>⟨by have:=(h.pos e).1;omega,(h.pos e).2⟩,?_⟩;{intro e j hj;by_cases q:j=k;{rw[q];exact hk};·exact h.zero e j (by omega)};{intro e j hj hne;by_cases q:j=k;{rw[q];exact hk};·exact h.one e j (by omega) hne};·intro e;obtain⟨i,j,q1,q2,q3,q4,q5⟩:=h.two e;exact⟨i,j,q1,by omega,by omega,q4,q5⟩
theorem NA.congr{f g:Nat->Bool}{k n a:Nat}(h:NA f k n a)(e:∀j,j<k->g j=f j):NA g k n a:=by
 refine⟨h.le,λq j hj=>by rw[e j hj];exact h.zero q j hj,λq j hj hne=>by rw[e j hj];exact h.one q j hj hne,λq=>⟨(h.pos q).1,by rw[e _ (h.pos q).1];exact(h.pos q).2⟩,λq=>?_⟩;obtain⟨i,j,q1,q2,q3,q4,q5⟩:=h.two q;exact⟨i,j,q1,q2,q3,by rw[e i q2];exact q4,by rw[e j q3];exact q5⟩
theorem NA.ring{f:Nat->Bool}{k n a:Nat}(h:NA f k n a)(hn:n≠1)(hf:∀j,k<=j->f j=false):∀j,f j=true->∃i,i≠j/\f i=true:=by
 intro j hj;have hjk:j<k:=(by rcases NO j k with q|q;{exact q};·rw[hf j q]at hj;cases hj);rcases NO n 2 with q|q;{rw[h.zero (by omega) j hjk]at hj;cases hj};·obtain⟨x,y,q1,q2,q3,q4,q5⟩:=h.two q;by_cases e:x=j;{exact⟨y,by rw[<-e];exact λq=>q1 q.symm,q5⟩};·exact⟨x,e,q4⟩
theorem Oe.step{M:Nat->Nat->Bool}{r:Nat}(h:Oe M r)(h1:∀k,M r k=true->∃s,s≠r/\M s k=true)(h2:∀k,M r k=true->∃j,j≠k/\M r j=true):Oe M (r+1):=λs hs=>by by_cases e:s=r;{subst e;exact⟨h1,h2⟩};·exact h s (by omega)
end Vd
theorem we:∀(m:List Bool)(k:Nat),m[k]?=some true->(m.set k false).countP id<m.countP id|[],k,h=>by simp at h|x::m,0,h=>by simp only[List.getElem?_cons_zero,ae3]at h;subst h;simp[acB]|x::m,k+1,h=>by have:=we m k (by simpa using h);simp only[List.set_cons_succ,acB];omega
theorem xe:∀(M:List (List Bool))(r k:Nat)(m:List Bool),M[r]?=some m->m[k]?=some true->cnt (M.set r (m.set k false))<cnt M|[],r,k,m,h,_=>by simp at h|x::M,0,k,m,h,hk=>by simp only[List.getElem?_cons_zero,ae3]at h;subst h;have:=we x k hk;simp only[cnt,ad',aa1,aey];omega|x::M,r+1,k,m,h,hk=>by have:=xe M r k m (by simpa using h) hk;simp only[cnt,List.set_cons_succ,aa1,aey]at*;omega
theorem XH{M:List (List Bool)}{r k:Nat}(h:jz M r k=true):∃m,M[r]?=some m/\m[k]?=some true:=by
 unfold jz at h;cases hm:M[r]?with|none=>rw[hm]at h;simp at h|some m=>rw[hm]at h;simp only[Option.bind_some]at h;cases hk:m[k]?with|none=>rw[hk]at h;simp at h|some b=>rw[hk]at h;simp at h;subst h;exact⟨m,rfl,hk⟩
def oh(M:List (List Bool))(r k t:Nat):Bool:=Vd.anyI t λs=>decide (s≠r)&&jz M s k
theorem AD(M:List (List Bool))(r k t:Nat):oh M r k (t+1)=(oh M r k t||(decide (t≠r)&&jz M t k)):=by
 unfold oh;rw[Vd.iN]
end Go.Proofs.YtcclepohmhdpbaaGreatDoor
