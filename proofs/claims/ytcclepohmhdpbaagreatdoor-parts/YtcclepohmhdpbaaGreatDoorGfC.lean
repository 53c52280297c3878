import Derived.WalkKit
namespace Go.Proofs.YtcclepohmhdpbaaGreatDoor
abbrev dj:=@decide_eq_true
abbrev ef:=@if_neg
abbrev ff:=@beq_eq_false_iff_ne
abbrev gd:=@List.mem_append
abbrev gx:=@decide_eq_false
abbrev mu:=@if_pos
abbrev mT:=@List.getD_eq_getElem?_getD
abbrev oE:=@Nat.zero_le
abbrev oS:=@List.length_append
abbrev v7:=@List.mem_cons
abbrev v8:=@Classical.byContradiction
abbrev wg:=@List.length_map
abbrev An:=@List.getElem?_map
abbrev As:=@List.mem_map
abbrev AF:=@List.any_eq_true
abbrev AI:=@List.getElem?_eq_getElem
abbrev AN:=@List.getElem?_append_right
abbrev AS:=@List.take_length
abbrev By:=@List.mem_flatten
abbrev BE:=@Int.mul_eq_zero
abbrev C':=@List.map_append
abbrev DE:=@Int.mul_zero
abbrev DH:=@Int.mul_one
abbrev DP:=@Option.some.inj
abbrev DQ:=@List.getElem?_eq_none
abbrev DS:=@List.mem_range
abbrev EV:=@List.getElem?_append_left
abbrev Is:=@List.mem_singleton
abbrev It:=@List.mem_append_left
abbrev IF:=@Int.mul_le_mul_of_nonneg_left
abbrev IN:=@Nat.le_refl
abbrev IS:=@decide_eq_decide
abbrev IT:=@of_decide_eq_true
abbrev Kx:=@List.cons_append
abbrev KK:=@decide_eq_true_eq
abbrev L7:=@List.length_cons
abbrev No:=@List.length_take
abbrev NO:=@Nat.lt_or_ge
abbrev OF:=@List.mem_map_of_mem
abbrev OR:=@Int.le_of_lt
abbrev Rd:=@Int.lt_or_le
abbrev Rr:=@List.mem_filter
abbrev RC:=@Bool.and_eq_true
abbrev RK:=@Nat.mod_eq_of_lt
abbrev So:=@List.mem_of_getElem?
abbrev SO:=@Nat.zero_add
abbrev To:=@Option.map_eq_some_iff
abbrev TO:=@Int.mul_le_mul_of_nonneg_right
abbrev T0:=@Or.inr
abbrev UP:=@List.nodup_cons
abbrev US:=@congrArg
abbrev Wg:=@List.mem_append_right
abbrev aae:=@Or.inl
abbrev aaf:=@Int.lt_trichotomy
abbrev aak:=@List.mem_flatMap
abbrev aap:=@Nat.sub_self
abbrev aaq:=@List.nodup_append
abbrev aas:=@Nat.mod_lt
abbrev aau:=@Nat.add_mod_right
abbrev aav:=@List.append_assoc
abbrev aaB:=@Int.mul_comm
abbrev aaK:=@List.drop_eq_getElem_cons
abbrev aaM:=@Int.le_of_mul_le_mul_left
abbrev aaT:=@List.getElem?_range
abbrev aaU:=@Prod.ext
abbrev aaX:=@List.set_append_right
abbrev aa0:=@Nat.le_trans
abbrev aa1:=@List.map_cons
abbrev aa4:=@List.map_congr_left
abbrev aa8:=@List.length_nil
abbrev aa9:=@List.map_map
abbrev abe:=@List.pairwise_iff_getElem
abbrev abg:=@Int.le_refl
abbrev abj:=@List.take_of_length_le
abbrev abk:=@List.eq_nil_of_length_eq_zero
abbrev abl:=@Int.mul_lt_mul_of_pos_left
abbrev abm:=@Int.tdiv_eq_ediv_of_nonneg
abbrev abu:=@Int.tmod_eq_emod_of_nonneg
abbrev abv:=@List.ext_getElem?
abbrev aby:=@List.append_nil
abbrev abz:=@Int.add_zero
abbrev abA:=@Bool.or_eq_false_iff
abbrev abG:=@List.nil_append
abbrev abL:=@Bool.true_and
abbrev abM:=@Prod.mk.injEq
abbrev abN:=@List.length_singleton
abbrev abO:=@List.length_replicate
abbrev abR:=@decide_eq_false_iff_not
abbrev abU:=@List.getLast?_cons_cons
abbrev abY:=@Bool.or_eq_true
abbrev ab0:=@List.length_drop
abbrev ab1:=@List.mem_cons_of_mem
abbrev ab2:=@bne_iff_ne
abbrev ab3:=@Ne.symm
abbrev ab4:=@List.mem_of_mem_take
abbrev ab5:=@List.drop_eq_nil_of_le
abbrev ab6:=@List.range_succ
abbrev ab7:=@Bool.eq_iff_iff
abbrev ab9:=@Int.zero_mul
abbrev ab':=@List.exists_of_findSome?_eq_some
abbrev acd:=@List.take_append_drop
abbrev ace:=@List.mem_iff_getElem?
abbrev acf:=@List.length_range
abbrev acg:=@Int.le_total
abbrev ach:=@Int.mul_le_mul_of_nonpos_right
abbrev aci:=@List.foldl_cons
abbrev ack:=@Nat.eq_zero_or_pos
abbrev acm:=@List.filter_append
abbrev acn:=@List.filter_cons
abbrev aco:=@Nat.lt_trichotomy
abbrev acp:=@Nat.mod_self
abbrev acq:=@Nat.mod_add_mod
abbrev acr:=@List.length_set
abbrev acu:=@Int.lt_or_gt_of_ne
abbrev acy:=@Bool.false_eq_true
abbrev acA:=@List.getElem?_cons_succ
abbrev acB:=@List.countP_cons
abbrev acF:=@List.getLast?_append
abbrev acW:=@beq_iff_eq
abbrev adh:=@List.drop_length
abbrev adn:=@List.perm_ext_iff_of_nodup
abbrev adD:=@List.foldl_append
abbrev adL:=@List.flatten_append
abbrev adO:=@List.length_reverse
abbrev adQ:=@Int.lt_of_mul_lt_mul_left
abbrev adT:=@Int.eq_of_mul_eq_mul_left
abbrev adU:=@List.getElem?_eq_some_iff
abbrev adV:=@List.getLast?_eq_some_getLast
abbrev ad8:=@Int.lt_or_eq_of_le
abbrev ad9:=@Bool.not_not
abbrev ad':=@List.set_cons_zero
abbrev aea:=@Nat.mod_mod
abbrev aed:=@Int.mul_nonneg
abbrev aee:=@List.getElem?_of_mem
abbrev aeh:=@List.flatten_cons
abbrev aei:=@Nat.min_eq_left
abbrev aer:=@List.getElem_of_mem
abbrev aet:=@List.flatMap_append
abbrev aeu:=@decide_false
abbrev aev:=@List.getElem?_set_self
abbrev aew:=@Nat.add_zero
abbrev aex:=@Int.le_trans
abbrev aey:=@List.sum_cons
abbrev aeE:=@if_false
abbrev aeG:=@List.nodup_nil
abbrev aeH:=@of_decide_eq_false
abbrev aeI:=@Nat.lt_or_gt_of_ne
abbrev aeJ:=@Nat.lt_of_lt_of_le
abbrev aeL:=@List.getLast?_eq_getElem?
abbrev aeQ:=@decide_true
abbrev aeY:=@Nat.add_mod
abbrev aeZ:=@Nat.sub_zero
abbrev ae3:=@Option.some.injEq
abbrev ae6:=@Nat.mul_le_mul_left
abbrev ae9:=@Bool.false_and
abbrev afa:=@List.not_mem_nil
abbrev afb:=@List.head?_eq_getElem?
abbrev afc:=@Int.mul_add
abbrev afe:=@Nat.add_sub_cancel
abbrev afj:=@decide_eq_true_iff
abbrev afk:=@Nat.le_of_eq
abbrev afl:=@List.getElem?_reverse
abbrev afm:=@Int.mul_assoc
abbrev afn:=@Bool.not_eq_true'
abbrev afo:=@List.pairwise_map
abbrev afp:=@List.length_dropLast
abbrev afq:=@if_true
abbrev afr:=@List.getElem_mem
abbrev afs:=@List.nodup_range
abbrev aft:=@List.all_eq_true
abbrev afu:=@Nat.zero_mul
abbrev afv:=@Nat.le_of_not_lt
abbrev afw:=@List.replicate_succ
abbrev afx:=@List.cons.inj
abbrev afy:=@List.append_of_mem
abbrev afz:=@List.countP_append
abbrev afA:=@List.getElem?_drop
abbrev afB:=@List.range_succ_eq_map
abbrev afC:=@Int.mul_le_mul_of_nonpos_left
abbrev afD:=@List.filter_congr
abbrev afE:=@List.any_eq_false
abbrev afF:=@List.dropLast_concat_getLast
abbrev afG:=@List.countP_le_length
abbrev afH:=@List.countP_mono_left
abbrev afI:=@List.length_filter_le
abbrev afJ:=@Nat.le_of_lt
abbrev afK:=@List.take_zero
abbrev afL:=@Nat.ne_of_lt
abbrev afM:=@Int.mul_lt_mul_of_pos_right
abbrev afN:=@Nat.mul_le_mul_right
abbrev afO:=@List.getElem?_set_ne
abbrev afP:=@Nat.mod_two_eq_zero_or_one
abbrev afQ:=@Int.mul_sub
abbrev afR:=@List.length_pos_iff
abbrev afS:=@Int.mul_neg_of_neg_of_pos
abbrev afT:=@Int.mul_neg_of_pos_of_neg
abbrev afU:=@Option.map_some
abbrev afV:=@List.Perm.of_eq
abbrev afW:=@Int.sub_zero
abbrev afX:=@Int.zero_add
abbrev afY:=@List.getElem?_take
abbrev afZ:=@Nat.succ_mul
abbrev af0:=@Nat.add_comm
abbrev af1:=@List.pairwise_singleton
abbrev af2:=@List.reverse_cons
abbrev af3:=@List.getElem_tail
abbrev af4:=@List.any_cons
abbrev af5:=@Nat.add_assoc
abbrev af6:=@or_false
abbrev af7:=@List.perm_middle
abbrev agm:=@List.mem_reverse
abbrev agn:=@List.perm_append_comm
abbrev ago:=@List.eq_nil_or_concat
abbrev agp:=@List.concat_eq_append
abbrev ags:=@Array.getElem?_modify
abbrev agv:=@Nat.min_le_left
abbrev agK:=@Int.sub_self
abbrev agM:=@List.reverse_reverse
abbrev agP:=@List.pairwise_append
abbrev agR:=@Int.not_lt
abbrev agT:=@List.Perm.trans
abbrev agV:=@List.filter_map
abbrev agW:=@Array.toArray_toList
abbrev agY:=@List.filter_eq_self
abbrev ag1:=@List.length_flatten
abbrev ag2:=@Bool.xor_assoc
abbrev ag3:=@List.Perm.refl
abbrev ag6:=@Nat.mul_le_mul
abbrev ag7:=@Int.mul_pos
abbrev ag8:=@Int.mul_neg
end Go.Proofs.YtcclepohmhdpbaaGreatDoor
namespace Go.Proofs.YtcclepohmhdpbaaGreatDoor
set_option linter.all false
abbrev aA:=Int×Int
abbrev Ring:=List aA
abbrev Poly:=List Ring
abbrev aF:=List Poly
namespace Pl
def sD(x:Int):Bool:=decide (32768<x)||decide (x< -32768)
def pX(p:aA):Bool:=sD p.1||sD p.2
def sM(r:Ring):Bool:=r.any pX
def oV(l:Poly):Bool:=l.any sM
def pQ(r:Ring):Bool:=decide (r.length<4)||!(decide (r.head?=r.getLast?))
def BG(l:Poly):Bool:=l.any pQ
def mZ(l:Poly):Bool:=l.isEmpty||BG l
def nR(m:aF):Nat:=(m.map List.length).sum
def r6(l:Poly):Nat:=(l.map List.length).sum
def nP(m:aF):Nat:=(m.map r6).sum
def many(m:aF):Bool:=decide (8<m.length)||decide (12<nR m)||decide (100<nP m)
def wrong(m:aF):Int:=if many m=true then 6 else if m.any mZ=true then 5 else if m.any oV=true then 4 else 0
structure Bd(m:aF):Prop where
 len:m.length<=1048576
 poly:∀l∈m,l.length<=1048576
 ring:∀l∈m,∀r∈l,r.length<=1048576
theorem take_one{α:Type}{l:List α}{k:Nat}{x:α}(h:l[k]?=some x):l.take (k+1)=l.take k++[x]:=by
 rw[List.take_succ,h];rfl
theorem aE{α:Type}{l:List α}{k:Nat}{x:α}(h:l[k]?=some x):k<l.length:=by
 rcases NO k l.length with g|g;{exact g};·rw[DQ g]at h;cases h
theorem ah{α:Type}{l:List α}{k:Nat}{x:α}(h:l[k]?=some x):x∈l:=So h
theorem ai{α:Type}{l:List α}{k:Nat}(h:k<l.length):∃x,l[k]?=some x:=⟨l[k],AI h⟩
theorem bC{α:Type}{l:List α}{k:Nat}{x:α}(p:α->Bool)(h:l[k]?=some x):(l.take (k+1)).any p=((l.take k).any p||p x):=by
 rw[take_one h];simp
theorem cA{α:Type}{l:List α}{k:Nat}{x:α}(p:α->Bool)(h:l[k]?=some x)(hp:p x=true):l.any p=true:=AF.2 ⟨x,ah h,hp⟩
theorem sN(l:List Nat)(k:Nat):(l.take k).sum<=l.sum:=by
 (conv=>rhs;rw[<-acd k l,List.sum_append]);omega
theorem OI{m:aF}{k:Nat}{l:Poly}(h:m[k]?=some l):nR (m.take (k+1))=nR (m.take k)+l.length:=by
 unfold nR;rw[take_one h];simp
theorem OJ{m:aF}{k:Nat}{l:Poly}(h:m[k]?=some l):nP (m.take (k+1))=nP (m.take k)+r6 l:=by
 unfold nP;rw[take_one h];simp
theorem I6{l:Poly}{k:Nat}{r:Ring}(h:l[k]?=some r):r6 (l.take (k+1))=r6 (l.take k)+r.length:=by
 unfold r6;rw[take_one h];simp
theorem af8(m:aF)(k:Nat):nR (m.take k)<=nR m:=by
 unfold nR;rw[List.map_take];exact sN _ _
theorem af9(m:aF)(k:Nat):nP (m.take k)<=nP m:=by
 unfold nP;rw[List.map_take];exact sN _ _
theorem acI(l:Poly)(k:Nat):r6 (l.take k)<=r6 l:=by
 unfold r6;rw[List.map_take];exact sN _ _
theorem rC{l:List Nat}{b:Nat}(h:∀x∈l,x<=b):l.sum<=l.length*b:=by induction l with|nil=>simp|cons a t ih=>have h1:=h a (by simp);have h2:=ih (λx hx=>h x (by simp[hx]));rw[aey,L7,Nat.add_mul];omega
theorem Ud{m:aF}(hb:Bd m){l:Poly}(hl:l∈m)(k:Nat):r6 (l.take k)<=k*1048576:=by
 unfold r6;refine aa0 (rC (b:=1048576) ?_) ?_;{intro x hx;obtain⟨r,hr,rfl⟩:=As.1 hx;exact hb.ring l hl r (ab4 hr)};·rw[wg,No];exact afN _ (agv _ _)
theorem af'{m:aF}(hb:Bd m)(k:Nat):nP (m.take k)<=k*1099511627776:=by
 unfold nP;refine aa0 (rC (b:=1099511627776) ?_) ?_;{intro x hx;obtain⟨l,hl,rfl⟩:=As.1 hx;have hl':=ab4 hl;have h1:=Ud hb hl' l.length;have h2:=hb.poly l hl';rw[AS]at h1;omega};·rw[wg,No];exact afN _ (agv _ _)
theorem aga{m:aF}(hb:Bd m)(k:Nat):nR (m.take k)<=k*1048576:=by
 unfold nR;refine aa0 (rC (b:=1048576) ?_) ?_;{intro x hx;obtain⟨l,hl,rfl⟩:=As.1 hx;exact hb.poly l (ab4 hl)};·rw[wg,No];exact afN _ (agv _ _)
theorem EC{r:Ring}{p q:aA}(h4:¬r.length<4)(h0:r[0]?=some p)(h1:r[r.length-1]?=some q):pQ r=!(decide (p=q)):=by
 unfold pQ;rw[afb,aeL,h0,h1];simp[h4]
end Pl
namespace Bg
def dv:List Int->Int|[]=>0|d::t=>d+10*dv t
def Dg(l:List Int):Prop:=∀d∈l,0<=d/\d<=9
structure Nm(l:List Int):Prop where
 dg:Dg l
 top:∀t d,l=t++[d]->d≠0
theorem p10(n:Nat):0<(10:Int)^n:=Int.pow_pos (by omega)
theorem pR(n:Nat):(10:Int)^(n+1)=10*10^n:=by rw[Int.pow_succ,aaB]
theorem gF(t:List Int)(d:Int):dv (t++[d])=dv t+10^t.length*d:=by induction t with|nil=>simp[dv]|cons x t ih=>rw[Kx,dv,dv,ih,L7,pR,afc,afm];omega
theorem OK{l:List Int}(h:Dg l):0<=dv l:=by induction l with|nil=>exact abg _|cons x t ih=>have h1:=h x (by simp);have h2:=ih λd hd=>h d (by simp[hd]);show 0<=x+10*dv t;omega
theorem I7{l:List Int}(h:Dg l):dv l<10^l.length:=by induction l with|nil=>decide|cons x t ih=>have h1:=h x (by simp);have h2:=ih λd hd=>h d (by simp[hd]);rw[L7,pR];show x+10*dv t<_;omega
theorem Dg.snoc{t:List Int}{d:Int}(h:Dg t)(h0:0<=d)(h9:d<=9):Dg (t++[d]):=λx hx=>by rcases gd.1 hx with k|k;{exact h x k};·rw[Is.1 k];exact⟨h0,h9⟩
theorem Dg.take{l:List Int}(h:Dg l)(n:Nat):Dg (l.take n):=λx hx=>h x (ab4 hx)
theorem uA{l:List Int}(h:l≠[]):∃t d,l=t++[d]:=⟨l.dropLast,l.getLast h,(afF h).symm⟩
theorem Nm.low{l:List Int}(h:Nm l)(hne:l≠[]):(10:Int)^(l.length-1)<=dv l:=by
 obtain⟨t,d,rfl⟩:=uA hne;have h1:=h.top t d rfl;have h2:=h.dg d (by simp);have h3:Dg t:=λx hx=>h.dg x (by simp[hx]);have h4:=OK h3;rw[gF,oS,abN,afe];have h5:(10:Int)^t.length*1<=10^t.length*d:=IF (by omega) (OR (p10 _));omega
theorem Nm.nil:Nm []:=⟨(λd hd=>absurd hd (by simp)),(λt d e=>absurd e (by simp))⟩
theorem Ue{a b:Nat}(h:a<=b):(10:Int)^a<=10^b:=by induction h with|refl=>exact abg _|step h ih=>rw[pR];have:=p10 a;omega
theorem Nm.Gk{a b:List Int}(ha:Nm a)(hb:Dg b)(h:b.length<a.length):dv b<dv a:=by
 have h1:=ha.low (by rintro rfl;simp at h);have h2:=I7 hb;have h3:=Ue (show b.length<=a.length-1 by omega);omega
theorem Uf(a b:List Int):dv (a++b)=dv a+10^a.length*dv b:=by induction a with|nil=>simp[dv]|cons x t ih=>rw[Kx,dv,dv,ih,L7,pR,afc,afm];omega
theorem yV{l:List Int}{i:Nat}{d:Int}(h:l[i]?=some d):l.take (i+1)=l.take i++[d]:=by
 rw[List.take_add_one,h];rfl
theorem uB{l:List Int}{i:Nat}{d:Int}(h:l[i]?=some d):dv (l.take (i+1))=dv (l.take i)+10^i*d:=by
 have hi:i<l.length:=(by rcases NO i l.length with g|g;{exact g};·rw[DQ g]at h;cases h);rw[yV h,gF,No,aei (by omega)]
theorem by_step{P n d c T:Int}(hc:0<=c)(hn:0<=n)(hd:0<=d){L:Int}(e:L+P*c=n*T):(L+P*((d*n+c)%10))+10*P*((d*n+c)/10)=n*(T+P*d):=by
 have h:=Int.emod_add_mul_ediv (d*n+c) 10;have h2:P*((d*n+c)%10)+10*P*((d*n+c)/10)=P*(d*n+c):=(by rw[<-h];generalize(d*n+c)%10=r at*;generalize(d*n+c)/10=q at*;have:(r+10*q)%10=(r+10*q)%10:=rfl;grind);rw[afc n T,<-e];have h3:P*(d*n+c)=P*c+n*(P*d):=(by grind);omega
theorem Y7{a b:List Int}(ha:Dg a)(hb:Dg b){k:Nat}{x y:Int}(hx:a[k]?=some x)(hy:b[k]?=some y)(e:a.drop (k+1)=b.drop (k+1)):(y<x->dv b<dv a)/\(x<y->dv a<dv b):=by
 have hk:k<a.length:=(by rcases NO k a.length with g|g;{exact g};·rw[DQ g]at hx;cases hx);have hk2:k<b.length:=(by rcases NO k b.length with g|g;{exact g};·rw[DQ g]at hy;cases hy);have e1:dv a=dv (a.take (k+1))+10^(k+1)*dv (a.drop (k+1)):=(by have:=Uf (a.take (k+1)) (a.drop (k+1));rwa[acd,No,aei (by omega)]at this);have e2:dv b=dv (b.take (k+1))+10^(k+1)*dv (b.drop (k+1)):=(by have:=Uf (b.take (k+1)) (b.drop (k+1));rwa[acd,No,aei (by omega)]at this);rw[uB hx,e]at e1;rw[uB hy]at e2;have a1:=I7 (ha.take k);have a2:=OK (ha.take k);have b1:=I7 (hb.take k);have b2:=OK (hb.take k);rw[No,aei (by omega)]at a1 b1;have hp:=p10 k;generalize(10:Int)^(k+1)*dv (b.drop (k+1))=T at*;generalize dv (a.take k)=A at*;generalize dv (b.take k)=B at*;generalize(10:Int)^k=P at*;constructor;{intro h;have:P*(y+1)<=P*x:=IF (by omega) (by omega);rw[afc,DH]at this;omega};·intro h;have:P*(x+1)<=P*y:=IF (by omega) (by omega);rw[afc,DH]at this;omega
theorem abD{l:List Int}{k:Nat}{x:Int}(h:l[k]?=some x):l.drop k=x::l.drop (k+1):=by
 have hk:k<l.length:=(by rcases NO k l.length with g|g;{exact g};·rw[DQ g]at h;cases h);rw[aaK hk];rw[AI hk]at h;rw[DP h]
def dg(l:List Int)(k:Nat):Int:=l.getD k 0
theorem r7{l:List Int}{k:Nat}{x:Int}(h:l[k]?=some x):dg l k=x:=by
 unfold dg;rw[mT,h];rfl
theorem sO{l:List Int}{k:Nat}(h:l.length<=k):dg l k=0:=by
 unfold dg;rw[mT,DQ h];rfl
theorem jC(l:List Int)(k:Nat):dv (l.take (k+1))=dv (l.take k)+10^k*dg l k:=by
 rcases NO k l.length with g|g;{rw[uB (AI g),r7 (AI g)]};·rw[sO g,abj (by omega),abj g,DE,abz]
theorem r8{l:List Int}(h:Dg l)(k:Nat):0<=dg l k/\dg l k<=9:=by
 rcases NO k l.length with g|g;{rw[r7 (AI g)];exact h _ (afr g)};·rw[sO g];omega
theorem Nm.BH{l:List Int}(h:Nm l){k:Nat}(e:l.length=k+1):Bg.dg l k≠0:=by
 obtain⟨t,d,rfl⟩:=uA (show l≠[]by rintro rfl;simp at e);rw[oS,abN]at e;have e:t.length=k:=(by omega);have:(t++[d])[k]?=some d:=(by rw[AN (by omega),show k-t.length=0 by omega];rfl);rw[r7 this];exact h.top t d rfl
theorem Nm.snoc{t:List Int}{d:Int}(h:Dg t)(h0:0<d)(h9:d<=9):Nm (t++[d]):=⟨h.snoc (by omega) h9,λt' d' e=>by have:=(List.append_inj' e rfl).2;have:d=d':=(by simpa using this);omega⟩
theorem xq{L P c X Y x y t q:Int}(e:L+P*c=X+Y)(h:c+x+y=t+10*q):(L+P*t)+10*P*q=(X+P*x)+(Y+P*y):=by
 have:P*(c+x+y)=P*(t+10*q):=(by rw[h]);grind
theorem nh{L P c X Y x y t q:Int}(e:L+P*c=X-Y)(h:x+c-y=t+10*q):(L+P*t)+10*P*q=(X+P*x)-(Y+P*y):=by
 have:P*(x+c-y)=P*(t+10*q):=(by rw[h]);grind
def sv(ng:Bool)(l:List Int):Int:=if ng then-(dv l)else dv l
end Bg
namespace Vd
def cr(a b p:aA)(w:Int):Int:=(b.1-a.1)*(p.2-a.2*w)-(b.2-a.2)*(p.1-a.1*w)
def dt(a b p:aA)(w:Int):Int:=(p.1-a.1*w)*(b.1-a.1)+(p.2-a.2*w)*(b.2-a.2)
def kk(a b:aA):Int:=(b.1-a.1)*(b.1-a.1)+(b.2-a.2)*(b.2-a.2)
def fq(e m o:Int):Prop:=(e<=m/\m<=o)\/(o<=m/\m<=e)
def has(a b p:aA)(w:Int):Prop:=cr a b p w=0/\fq (a.1*w) p.1 (b.1*w)/\fq (a.2*w) p.2 (b.2*w)
def on(a b p:aA)(w:Int):Prop:=cr a b p w=0/\0<=dt a b p w/\dt a b p w<=kk a b*w
theorem nn{x y:Int}(hx:0<=x)(hy:0<=y):0<=x*y:=aed hx hy
theorem sR(x:Int):0<=x*x:=by
 rcases acg 0 x with h|h;{exact nn h h};·have:=nn (x:=-x) (y:=-x) (by omega) (by omega);rw[Int.neg_mul_neg]at this;exact this
theorem sq_pos{x:Int}(h:x≠0):0<x*x:=by
 have:=sR x;have h2:x*x≠0:=λe=>h (by simpa using BE.1 e);omega
theorem cO{a b:aA}(h:a≠b):0<kk a b:=by
 unfold kk;by_cases h1:b.1-a.1=0;{have h2:b.2-a.2≠0:=λe=>h (aaU (by omega) (by omega));have:=sq_pos h2;have:=sR (b.1-a.1);omega};·have:=sq_pos h1;have:=sR (b.2-a.2);omega
theorem OL{u v w:Int}(hw:0<w)(h:fq 0 v (u*w)):0<=v*u/\v*u<=u*u*w:=by
 rcases h with⟨h1,h2⟩|⟨h1,h2⟩;{have hu:0<=u:=(by rcases Rd u 0 with g|g;{have:u*w<0:=afS g hw;omega};·exact g);refine⟨nn h1 hu,?_⟩;have:=TO h2 hu;have e:u*w*u=u*u*w:=(by grind);omega};·have hu:u<=0:=(by rcases Rd 0 u with g|g;{have:0<u*w:=ag7 g hw;omega};·exact g);refine⟨by have:=nn (x:=-v) (y:=-u) (by omega) (by omega);rw[Int.neg_mul_neg]at this;exact this,?_⟩;have:=ach h1 hu;have e:u*w*u=u*u*w:=(by grind);omega
theorem OM{u v k d w:Int}(hk:0<k)(e:d*u=v*k)(h0:0<=d)(h1:d<=k*w):fq 0 v (u*w):=by
 rcases acg 0 u with hu|hu;{left;constructor;{have:=nn h0 hu;rw[e]at this;exact Int.nonneg_of_mul_nonneg_left this hk};·have:=TO h1 hu;rw[e]at this;have e2:k*w*u=u*w*k:=(by grind);rw[e2]at this;exact Int.le_of_mul_le_mul_right this hk};·right;constructor;{have:=ach h1 hu;rw[e]at this;have e2:k*w*u=u*w*k:=(by grind);rw[e2]at this;exact Int.le_of_mul_le_mul_right this hk};·have:=nn (x:=d) (y:=-u) h0 (by omega);have e2:d*-u=-v*k:=(by grind);rw[e2]at this;have:=Int.nonneg_of_mul_nonneg_left this hk;omega
theorem A3{a p b w:Int}:fq (a*w) p (b*w)↔fq 0 (p-a*w) ((b-a)*w):=by
 have e:(b-a)*w=b*w-a*w:=(by grind);unfold fq;rw[e];omega
theorem kU{a b p:aA}{w:Int}(h:a≠b)(hw:0<w):has a b p w↔on a b p w:=by
 have hk:=cO h;constructor;{rintro⟨h0,h1,h2⟩;have g1:=OL hw (A3.1 h1);have g2:=OL hw (A3.1 h2);refine⟨h0,?_,?_⟩;{unfold dt;omega};·have e:kk a b*w=(b.1-a.1)*(b.1-a.1)*w+(b.2-a.2)*(b.2-a.2)*w:=(by unfold kk;grind);rw[e];unfold dt;omega};·rintro⟨h0,h1,h2⟩;have e1:dt a b p w*(b.1-a.1)=(p.1-a.1*w)*kk a b:=(by unfold cr at h0;unfold dt kk;grind);have e2:dt a b p w*(b.2-a.2)=(p.2-a.2*w)*kk a b:=(by unfold cr at h0;unfold dt kk;grind);exact⟨h0,A3.2 (OM hk e1 h1 h2),A3.2 (OM hk e2 h1 h2)⟩
def bI(p q:aA):Prop:=p.1<q.1\/(p.1=q.1/\p.2<q.2)
instance(p q:aA):Decidable (bI p q):=by
 unfold bI;infer_instance
def fwd(a b:aA):aA×aA:=if bI b a then(b,a)else(a,b)
def dw(s t:aA×aA):Int:=let f:=if bI s.1 t.1 then t.1 else s.1;let l:=if bI t.2 s.2 then t.2 else s.2;if bI f l then 3 else if f=l then 1 else 0
def pos(a b x:aA):Int:=dt a b x 1
theorem fh(a b:aA):pos a b a=0:=by
 unfold pos dt;grind
theorem gL(a b:aA):pos a b b=kk a b:=by
 unfold pos dt kk;grind
theorem rD{a b x y:aA}(h:a≠b)(hx:cr a b x 1=0)(hy:cr a b y 1=0):(bI a b->(bI x y↔pos a b x<pos a b y))/\(bI b a->(bI x y↔pos a b y<pos a b x)):=by
 have hk:=cO h;have e1:(pos a b y-pos a b x)*(b.1-a.1)=(y.1-x.1)*kk a b:=(by unfold cr at hx hy;unfold pos dt kk;grind);have e2:(pos a b y-pos a b x)*(b.2-a.2)=(y.2-x.2)*kk a b:=(by unfold cr at hx hy;unfold pos dt kk;grind);obtain⟨D,hD⟩:∃D,D=pos a b y-pos a b x:=⟨_,rfl⟩;obtain⟨K,hK⟩:∃K,K=kk a b:=⟨_,rfl⟩;rw[<-hD,<-hK]at e1 e2;rw[<-hK]at hk;have Y8:∀{u z:Int},0<u->D*u=z*K->(0<D↔0<z)/\(D=0↔z=0)/\(D<0↔z<0):=(by intro u z hu e;have p1:0<D->0<z:=λg=>(by have:=ag7 g hu;rw[e]at this;exact Int.pos_of_mul_pos_left this hk|>λh=>h);have p2:D=0->z=0:=λg=>(by rw[g,ab9]at e;rcases BE.1 e.symm with q|q<;>omega);have p3:D<0->z<0:=λg=>(by have:=afS g hu;rw[e]at this;rcases Rd z 0 with q|q;{exact q};·have:=nn q (OR hk);omega);omega);have t1:(bI x y↔0<y.1-x.1\/(y.1-x.1=0/\0<y.2-x.2)):=(by unfold bI;omega);have t2:pos a b x<pos a b y↔0<D:=(by omega);have t3:pos a b y<pos a b x↔D<0:=(by omega);rw[t1,t2,t3];constructor;·rintro(g|⟨g,g'⟩);{have:=Y8 (u:=b.1-a.1) (by omega) e1;constructor;{rintro(q|⟨q,q'⟩);{omega};·have hz:D=0:=(by omega);rw[hz,ab9]at e2;rcases BE.1 e2.symm with q|q<;>omega};·intro q;left;omega};·have:=Y8 (u:=b.2-a.2) (by omega) e2;have hz:y.1-x.1=0:=(by rw[show b.1-a.1=0 by omega,DE]at e1;rcases BE.1 e1.symm with q|q<;>omega);omega
 ·rintro(g|⟨g,g'⟩);{have:=Y8 (u:=a.1-b.1) (z:=-(y.1-x.1)) (by omega) (by grind);constructor;{rintro(q|⟨q,q'⟩);{omega};·have hz:D=0:=(by omega);rw[hz,ab9]at e2;rcases BE.1 e2.symm with q|q<;>omega};·intro q;left;omega};·have:=Y8 (u:=a.2-b.2) (z:=-(y.2-x.2)) (by omega) (by grind);have hz:y.1-x.1=0:=(by rw[show b.1-a.1=0 by omega,DE]at e1;rcases BE.1 e1.symm with q|q<;>omega);omega
theorem mQ(p q:aA):bI p q\/p=q\/bI q p:=by
 unfold bI;by_cases h1:p.1=q.1;{by_cases h2:p.2=q.2;{exact .inr (.inl (aaU h1 h2))};·omega};·omega
theorem gN{p q:aA}(h:bI p q)(k:bI q p):False:=by
 unfold bI at h k;omega
theorem acJ{p q:aA}(h:bI p q):p≠q:=by
 rintro rfl;exact gN h h
def count(k p q:Int):Int:=if q<0\/k<p then 0 else if q=0\/p=k then 1 else 2
end Vd
end Go.Proofs.YtcclepohmhdpbaaGreatDoor
namespace Go.Proofs.YtcclepohmhdpbaaGreatDoor
set_option linter.all false
namespace Vd
theorem ni(a b:aA):cr a b a 1=0:=by
 unfold cr;grind
theorem mw(a b:aA):cr a b b 1=0:=by
 unfold cr;grind
section
variable{f:aA->Int}{S:aA->Prop}(hf:∀x y,S x->S y->(bI x y↔f x<f y))
include hf
theorem acK{x y:aA}(hx:S x)(hy:S y):x=y↔f x=f y:=by
 constructor;{rintro rfl;rfl};·intro e;rcases mQ x y with h|h|h;{have:=(hf x y hx hy).1 h;omega};{exact h};·have:=(hf y x hy hx).1 h;omega
theorem OO{a b:aA}(ha:S a)(hb:S b):S (fwd a b).1/\S (fwd a b).2/\f (fwd a b).1=min (f a) (f b)/\f (fwd a b).2=max (f a) (f b):=by
 unfold fwd;have:=hf b a hb ha;by_cases h:bI b a;{have h':=this.1 h;rw[mu h];exact⟨hb,ha,by simp only;omega,by simp only;omega⟩};·have h':¬f b<f a:=λq=>h (this.2 q);rw[ef h];exact⟨ha,hb,by simp only;omega,by simp only;omega⟩
theorem I8{s t:aA×aA}(h1:S s.1)(h2:S s.2)(h3:S t.1)(h4:S t.2):dw s t=if max (f s.1) (f t.1)<min (f s.2) (f t.2)then 3 else if max (f s.1) (f t.1)=min (f s.2) (f t.2)then 1 else 0:=by
 have e1:S (if bI s.1 t.1 then t.1 else s.1)/\f (if bI s.1 t.1 then t.1 else s.1)=max (f s.1) (f t.1):=(by have:=hf _ _ h1 h3;by_cases h:bI s.1 t.1;{have h':=this.1 h;rw[mu h];exact⟨h3,by omega⟩};·have h':=mt this.2 h;rw[ef h];exact⟨h1,by omega⟩);have e2:S (if bI t.2 s.2 then t.2 else s.2)/\f (if bI t.2 s.2 then t.2 else s.2)=min (f s.2) (f t.2):=(by have:=hf _ _ h4 h2;by_cases h:bI t.2 s.2;{have h':=this.1 h;rw[mu h];exact⟨h4,by omega⟩};·have h':=mt this.2 h;rw[ef h];exact⟨h2,by omega⟩);unfold dw;simp only[hf _ _ e1.1 e2.1,acK hf e1.1 e2.1,e1.2,e2.2]
end
theorem xu{a b c d:aA}(hab:a≠b)(hcd:c≠d)(hc:cr a b c 1=0)(hd:cr a b d 1=0):dw (fwd a b) (fwd c d)=if count (kk a b) (min (pos a b c) (pos a b d)) (max (pos a b c) (pos a b d))=2 then 3 else count (kk a b) (min (pos a b c) (pos a b d)) (max (pos a b c) (pos a b d)):=by
 have hk:=cO hab;have pa:=fh a b;have pb:=gL a b;have ha:=ni a b;have hb:=mw a b;rcases mQ a b with h|h|h;{have hf:∀x y,cr a b x 1=0->cr a b y 1=0->(bI x y↔pos a b x<pos a b y):=λx y hx hy=>(rD hab hx hy).1 h;obtain⟨s1,s2,s3,s4⟩:=OO (S:=λx=>cr a b x 1=0) hf ha hb;obtain⟨t1,t2,t3,t4⟩:=OO (S:=λx=>cr a b x 1=0) hf hc hd;have hne:pos a b c≠pos a b d:=λe=>hcd ((acK (S:=λx=>cr a b x 1=0) hf hc hd).2 e);rw[I8 (S:=λx=>cr a b x 1=0) hf s1 s2 t1 t2,s3,s4,t3,t4,pa,pb];unfold count;(repeat' split);all_goals omega};{exact absurd h hab};·have hf:∀x y,cr a b x 1=0->cr a b y 1=0->(bI x y↔-pos a b x< -pos a b y):=λx y hx hy=>(by rw[(rD hab hx hy).2 h];omega);obtain⟨s1,s2,s3,s4⟩:=OO (f:=λx=>-pos a b x) (S:=λx=>cr a b x 1=0) hf ha hb;obtain⟨t1,t2,t3,t4⟩:=OO (f:=λx=>-pos a b x) (S:=λx=>cr a b x 1=0) hf hc hd;have hne:pos a b c≠pos a b d:=λe=>hcd ((acK (f:=λx=>-pos a b x) (S:=λx=>cr a b x 1=0) hf hc hd).2 (by omega));rw[I8 (f:=λx=>-pos a b x) (S:=λx=>cr a b x 1=0) hf s1 s2 t1 t2];rw[s3,s4,t3,t4,pa,pb];unfold count;(repeat' split);all_goals omega
def sg(n:Int):Int:=if n>0 then 1 else if n<0 then-1 else 0
def meet(a b c d:aA):Int:=let sA:=sg (cr a b c 1);let sB:=sg (cr a b d 1);let oA:=sg (cr c d a 1);let oB:=sg (cr c d b 1);if sA=0/\sB=0/\oA=0/\oB=0 then dw (fwd a b) (fwd c d)else if sA*sB>0\/oA*oB>0 then 0 else if sA*sB*oA*oB=0 then 1 else 2
def nn3(a b c d:aA):Int:=(b.1-a.1)*(d.2-c.2)-(b.2-a.2)*(d.1-c.1)
def common(a b c d:aA):Int×Bool:=let n:=nn3 a b c d;let s:=(c.1-a.1)*(d.2-c.2)-(c.2-a.2)*(d.1-c.1);let t:=(c.1-a.1)*(b.2-a.2)-(c.2-a.2)*(b.1-a.1);if n=0 then if t≠0 then(0,false)else(count (kk a b) (min (pos a b c) (pos a b d)) (max (pos a b c) (pos a b d)),false)else let n':=if n<0 then-n else n;let s':=if n<0 then-s else s;let t':=if n<0 then-t else t;if s'<0\/n'<s'\/t'<0\/n'<t' then(0,false)else(1,decide (0<s'/\s'<n'/\0<t'/\t'<n'))
end Vd
end Go.Proofs.YtcclepohmhdpbaaGreatDoor
namespace Go.Proofs.YtcclepohmhdpbaaGreatDoor
set_option linter.all false
namespace Vd
def how(x:Int×Bool):Int:=if x.1=2 then 3 else if x.2 then 2 else x.1
theorem bM(n:Int):(0<n/\sg n=1)\/(n=0/\sg n=0)\/(n<0/\sg n=-1):=by
 unfold sg;rcases aaf n 0 with h|h|h;{right;right;exact⟨h,by rw[ef (by omega),mu h]⟩};{right;left;exact⟨h,by rw[ef (by omega),ef (by omega)]⟩};·left;exact⟨h,by rw[mu h]⟩
theorem agb{n s t X:Int}(h:0<n):(if sg (-t)=0/\sg (n-t)=0/\sg s=0/\sg (s-n)=0 then X else if sg (-t)*sg (n-t)>0\/sg s*sg (s-n)>0 then 0 else if sg (-t)*sg (n-t)*sg s*sg (s-n)=0 then 1 else 2)=how (if s<0\/n<s\/t<0\/n<t then(0,false)else(1,decide (0<s/\s<n/\0<t/\t<n))):=by
 by_cases C:s<0\/n<s\/t<0\/n<t;{rw[mu C];rcases bM (-t)with⟨g1,k1⟩|⟨g1,k1⟩|⟨g1,k1⟩<;>rcases bM (n-t)with⟨g2,k2⟩|⟨g2,k2⟩|⟨g2,k2⟩<;>rcases bM s with⟨g3,k3⟩|⟨g3,k3⟩|⟨g3,k3⟩<;>rcases bM (s-n)with⟨g4,k4⟩|⟨g4,k4⟩|⟨g4,k4⟩<;>first|(exfalso;omega)|(rw[k1,k2,k3,k4];simp[how])};·rw[ef C];by_cases D:0<s/\s<n/\0<t/\t<n;{rw[dj D];rcases bM (-t)with⟨g1,k1⟩|⟨g1,k1⟩|⟨g1,k1⟩<;>rcases bM (n-t)with⟨g2,k2⟩|⟨g2,k2⟩|⟨g2,k2⟩<;>rcases bM s with⟨g3,k3⟩|⟨g3,k3⟩|⟨g3,k3⟩<;>rcases bM (s-n)with⟨g4,k4⟩|⟨g4,k4⟩|⟨g4,k4⟩<;>first|(exfalso;omega)|(rw[k1,k2,k3,k4];simp[how])};·rw[gx D];rcases bM (-t)with⟨g1,k1⟩|⟨g1,k1⟩|⟨g1,k1⟩<;>rcases bM (n-t)with⟨g2,k2⟩|⟨g2,k2⟩|⟨g2,k2⟩<;>rcases bM s with⟨g3,k3⟩|⟨g3,k3⟩|⟨g3,k3⟩<;>rcases bM (s-n)with⟨g4,k4⟩|⟨g4,k4⟩|⟨g4,k4⟩<;>first|(exfalso;omega)|(rw[k1,k2,k3,k4];simp[how])
theorem agc{n s t X:Int}(h:n<0):(if sg (-t)=0/\sg (n-t)=0/\sg s=0/\sg (s-n)=0 then X else if sg (-t)*sg (n-t)>0\/sg s*sg (s-n)>0 then 0 else if sg (-t)*sg (n-t)*sg s*sg (s-n)=0 then 1 else 2)=how (if-s<0\/-n< -s\/-t<0\/-n< -t then(0,false)else(1,decide (0< -s/\-s< -n/\0< -t/\-t< -n))):=by
 by_cases C:-s<0\/-n< -s\/-t<0\/-n< -t;{rw[mu C];rcases bM (-t)with⟨g1,k1⟩|⟨g1,k1⟩|⟨g1,k1⟩<;>rcases bM (n-t)with⟨g2,k2⟩|⟨g2,k2⟩|⟨g2,k2⟩<;>rcases bM s with⟨g3,k3⟩|⟨g3,k3⟩|⟨g3,k3⟩<;>rcases bM (s-n)with⟨g4,k4⟩|⟨g4,k4⟩|⟨g4,k4⟩<;>first|(exfalso;omega)|(rw[k1,k2,k3,k4];simp[how])};·rw[ef C];by_cases D:0< -s/\-s< -n/\0< -t/\-t< -n;{rw[dj D];rcases bM (-t)with⟨g1,k1⟩|⟨g1,k1⟩|⟨g1,k1⟩<;>rcases bM (n-t)with⟨g2,k2⟩|⟨g2,k2⟩|⟨g2,k2⟩<;>rcases bM s with⟨g3,k3⟩|⟨g3,k3⟩|⟨g3,k3⟩<;>rcases bM (s-n)with⟨g4,k4⟩|⟨g4,k4⟩|⟨g4,k4⟩<;>first|(exfalso;omega)|(rw[k1,k2,k3,k4];simp[how])};·rw[gx D];rcases bM (-t)with⟨g1,k1⟩|⟨g1,k1⟩|⟨g1,k1⟩<;>rcases bM (n-t)with⟨g2,k2⟩|⟨g2,k2⟩|⟨g2,k2⟩<;>rcases bM s with⟨g3,k3⟩|⟨g3,k3⟩|⟨g3,k3⟩<;>rcases bM (s-n)with⟨g4,k4⟩|⟨g4,k4⟩|⟨g4,k4⟩<;>first|(exfalso;omega)|(rw[k1,k2,k3,k4];simp[how])
theorem zZ{a b c d:aA}(hab:a≠b)(hcd:c≠d):meet a b c d=how (common a b c d):=by
 obtain⟨s,hs⟩:∃s,s=(c.1-a.1)*(d.2-c.2)-(c.2-a.2)*(d.1-c.1):=⟨_,rfl⟩;obtain⟨t,ht⟩:∃t,t=(c.1-a.1)*(b.2-a.2)-(c.2-a.2)*(b.1-a.1):=⟨_,rfl⟩;obtain⟨n,hn⟩:∃n,n=nn3 a b c d:=⟨_,rfl⟩;have e1:cr a b c 1=-t:=(by rw[ht];unfold cr;grind);have e2:cr a b d 1=n-t:=(by rw[ht,hn];unfold cr nn3;grind);have e3:cr c d a 1=s:=(by rw[hs];unfold cr;grind);have e4:cr c d b 1=s-n:=(by rw[hs,hn];unfold cr nn3;grind);by_cases h0:n=0;{by_cases h1:t=0;{have h2:s=0:=(by have g1:s*(b.1-a.1)=0:=(by rw[hn]at h0;unfold nn3 at h0;rw[hs];rw[ht]at h1;grind);have g2:s*(b.2-a.2)=0:=(by rw[hn]at h0;unfold nn3 at h0;rw[hs];rw[ht]at h1;grind);rcases BE.1 g1 with q|q;{exact q};·rcases BE.1 g2 with q'|q';{exact q'};·exact absurd (aaU (by omega) (by omega)) hab);have hc:cr a b c 1=0:=(by rw[e1,h1];rfl);have hd:cr a b d 1=0:=(by rw[e2,h0,h1];rfl);have m:meet a b c d=dw (fwd a b) (fwd c d):=(by unfold meet;simp[e1,e2,e3,e4,h0,h1,h2,sg]);rw[m,xu hab hcd hc hd];unfold common how;simp only[<-hn,<-ht,h0,h1];simp};·have m:meet a b c d=0:=(by unfold meet;simp only[e1,e2,e3,e4,h0,Int.zero_sub,afW];rcases bM (-t)with⟨g,e⟩|⟨g,e⟩|⟨g,e⟩;{simp[e]};{omega};·simp[e]);rw[m];unfold common how;simp only[<-hn,<-ht,h0,mu,mu h1];simp[h1]};·have m:common a b c d=(let n':=if n<0 then-n else n;let s':=if n<0 then-s else s;let t':=if n<0 then-t else t;if s'<0\/n'<s'\/t'<0\/n'<t' then(0,false)else(1,decide (0<s'/\s'<n'/\0<t'/\t'<n'))):=(by unfold common;simp only[<-hn,<-ht,<-hs,ef h0]);rw[m];have l:meet a b c d=(if sg (-t)=0/\sg (n-t)=0/\sg s=0/\sg (s-n)=0 then dw (fwd a b) (fwd c d)else if sg (-t)*sg (n-t)>0\/sg s*sg (s-n)>0 then 0 else if sg (-t)*sg (n-t)*sg s*sg (s-n)=0 then 1 else 2):=(by unfold meet;simp only[e1,e2,e3,e4]);rw[l];clear m l e1 e2 e3 e4 hs ht hn;rcases acu h0 with hneg|hneg;{simp only[hneg,afq];exact agc (by omega)};·simp only[show¬n<0 by omega,aeE];exact agb (by omega)
theorem fW(a b p:aA)(w:Int):cr b a p w=-cr a b p w:=by
 unfold cr;grind
def jh(a b p:aA)(w:Int):Bool:=if decide (a.2*w>p.2)=decide (b.2*w>p.2)then false else if b.2*w>p.2 then decide (sg (cr a b p w)>0)else decide (sg (cr a b p w)<0)
def I9(a b p:aA)(w:Int):Bool:=let lo:=if a.2>b.2 then b else a;let hi:=if a.2>b.2 then a else b;decide (lo.2*w<=p.2/\p.2<hi.2*w)&&decide (cr lo hi p w>0)
theorem BI(n:Int):sg n>0↔n>0:=by rcases bM n with⟨h,e⟩|⟨h,e⟩|⟨h,e⟩<;>rw[e]<;>omega
theorem Gl(n:Int):sg n<0↔n<0:=by rcases bM n with⟨h,e⟩|⟨h,e⟩|⟨h,e⟩<;>rw[e]<;>omega
theorem kN(n:Int):sg n=0↔n=0:=by rcases bM n with⟨h,e⟩|⟨h,e⟩|⟨h,e⟩<;>rw[e]<;>omega
theorem Ug{a b p:aA}{w:Int}(hw:0<w):jh a b p w=I9 a b p w:=by
 unfold jh I9;by_cases h:a.2>b.2;{have h1:b.2*w<a.2*w:=afM h hw;simp only[mu h,fW a b p w];by_cases hb:b.2*w>p.2;{rw[mu (by rw[dj hb,dj (show a.2*w>p.2 by omega)])];rw[gx (by omega),ae9]};·by_cases ha:a.2*w>p.2;{rw[ef (by rw[dj ha,gx hb];simp),ef hb,dj (show b.2*w<=p.2/\p.2<a.2*w by omega),abL];exact IS.2 (by rw[Gl];omega)};·rw[mu (by rw[gx ha,gx hb]),gx (by omega),ae9]};·have h1:a.2*w<=b.2*w:=TO (by omega) (by omega);simp only[ef h];by_cases hb:b.2*w>p.2;{by_cases ha:a.2*w>p.2;{rw[mu (by rw[dj ha,dj hb]),gx (by omega),ae9]};·rw[ef (by rw[dj hb,gx ha];simp),mu hb,dj (show a.2*w<=p.2/\p.2<b.2*w by omega),abL];exact IS.2 (BI _)};·rw[mu (by rw[gx hb,gx (show¬a.2*w>p.2 by omega)])];rw[gx (by omega),ae9]
abbrev bg:=aA×aA
abbrev aL:=aA×Int
instance(a b c:Int):Decidable (fq a b c):=by
 unfold fq;infer_instance
instance(a b p:aA)(w:Int):Decidable (has a b p w):=by
 unfold has;infer_instance
def hasB(s:bg)(p:aL):Bool:=decide (has s.1 s.2 p.1 p.2)
def side(s:bg)(p:aL):Int:=sg (cr s.1 s.2 p.1 p.2)
def jZ(p:aA):aL:=(p,1)
def bB(p q:aA):aL:=((p.1+q.1,p.2+q.2),2)
def cI(s t:bg):Int:=meet s.1 s.2 t.1 t.2
def aB(r:Ring):List bg:=r.zip r.tail
def gw:List bg->Bool->aL->Int|[],i,_=>if i then 2 else 0|s::t,i,p=>if hasB s p then 1 else gw t (if jh s.1 s.2 p.1 p.2 then !i else i) p
def place(r:Ring)(p:aL):Int:=gw (aB r) false p
def pS(s:bg)(f:aA)(to p:aA):aA:=if bI f p/\bI p to/\has s.1 s.2 p 1 then p else to
def gO(s:bg)(f:aA)(rings:Poly):aA:=rings.flatten.foldl (pS s f) s.2
def nk:Nat->bg->aA->Poly->List aL|0,_,_,_=>[]|n+1,s,f,rings=>if f=s.2 then[]else bB f (gO s f rings)::nk n s (gO s f rings) rings
def eO(s:bg)(rings:Poly):List aL:=nk (rings.flatten.length+1) (fwd s.1 s.2) (fwd s.1 s.2).1 rings
def anyI(n:Nat)(f:Nat->Bool):Bool:=(List.range n).any f
theorem QD(f:Nat->Bool):anyI 0 f=false:=rfl
theorem iN(n:Nat)(f:Nat->Bool):anyI (n+1) f=(anyI n f||f n):=by simp[anyI,ab6]
theorem cJ{n:Nat}{f:Nat->Bool}{i:Nat}(h:i<n)(hf:f i=true):anyI n f=true:=by
 simp only[anyI,AF,DS];exact⟨i,h,hf⟩
theorem di{n:Nat}{f:Nat->Bool}:anyI n f=true↔∃i,i<n/\f i=true:=by simp only[anyI,AF,DS]
def twice(r:Ring):Bool:=anyI r.length λi=>decide (1<=i)&&anyI r.length λj=>decide (i<j)&&decide (r[i]?=r[j]?)
def kF(n i j:Nat):Int:=if i+1=j\/(i=0/\j+1=n)then 1 else 0
def Eb(l:List bg)(i:Nat):bg:=l.getD i ((0,0),(0,0))
def jj(r:Ring):Bool:=anyI (aB r).length λj=>anyI j λi=>decide (cI (Eb (aB r) i) (Eb (aB r) j)≠kF (aB r).length i j)
def simple(l:Poly):Bool:=!(l.any λr=>twice r||jj r)
def cg(s t:bg):Bool:=decide (cI s t=2)||decide (cI s t=3)
def aX(r o:Ring):Bool:=(aB r).any λs=>(aB o).any λt=>cg s t
def cC(l:Poly)(i:Nat):Ring:=l.getD i []
def touch(l:Poly):Bool:=!(anyI l.length λj=>anyI j λi=>aX (cC l i) (cC l j))
def lies(r o:Ring)(k:Int):Bool:=!((aB r).any λs=>(eO s [o]).any λm=>decide (place o m≠k))
def jD(j:Nat):Int:=if j=0 then 2 else 0
def nested(l:Poly):Bool:=!(anyI l.length λi=>decide (1<=i)&&anyI l.length λj=>decide (i≠j)&&!(lies (cC l i) (cC l j) (jD j)))
def dN(l:Poly)(p:aA):List Nat:=(List.range l.length).filter λi=>decide (place (cC l i) (jZ p)=1)
def kV(l:Poly)(a:List aA)(p:aA):List aA:=if¬(p∈a)/\1<(dN l p).length then a++[p]else a
def jI(l:Poly):List aA:=l.flatten.foldl (kV l) []
def kn(old first:Nat)(g:Nat):Nat:=if g=old then first else g
def eG(l:List Nat)(i:Nat):Nat:=l.getD i 0
def mA:List Nat->Nat->List Nat->Option (List Nat)|g,_,[]=>some g|g,a,j::t=>if eG g j=eG g a then none else mA (g.map (kn (eG g j) (eG g a))) a t
def join(g:List Nat):List Nat->Option (List Nat)|[]=>some g|a::t=>mA g a t
def sS(l:Poly):List aA->List Nat->Bool|[],_=>false|p::t,g=>match join g (dN l p)with|none=>true|some g'=>sS l t g'
def way(l:Poly):Bool:=sS l (jI l) (List.range l.length)
def iZ(c:Nat)(l:Poly):Bool:=if c=1 then simple l else if c=2 then touch l else if c=3 then nested l else !(way l)
def eV(a b:Poly):Bool:=a.any λr=>b.any λo=>aX r o
def iC:List Ring->Bool->Bool->aL->Bool|[],_,f,_=>f|r::t,first,f,p=>if place r p=1 then false else iC t false (f||(first&&decide (place r p=0))||(!first&&decide (place r p=2))) p
def free(l:Poly)(p:aL):Bool:=iC l true false p
def enters(a b:Poly):Bool:=a.any λr=>(aB r).any λs=>(eO s b).any λm=>!(free b m)
def b9(m:aF)(i:Nat):Poly:=m.getD i []
def gG(m:aF):Bool:=anyI m.length λj=>anyI j λi=>eV (b9 m i) (b9 m j)||enters (b9 m i) (b9 m j)||enters (b9 m j) (b9 m i)
def gT(c:Nat)(m:aF):Bool:=m.any λl=>!(iZ c l)
def least(m:aF):Int:=if gT 1 m then 1 else if gT 2 m then 2 else if gT 3 m then 3 else if gT 4 m then 4 else if gG m then 5 else 0
theorem uC{p q r:aA}(h:bI p q)(k:bI q r):bI p r:=by
 unfold bI at*;omega
theorem Ja(s:bg)(f:aA):∀(l:List aA)(t:aA),l.foldl (pS s f) t=t\/(l.foldl (pS s f) t∈l/\bI f (l.foldl (pS s f) t)):=by
 intro l;induction l with|nil=>intro t;exact .inl rfl|cons p l ih=>intro t;rw[aci];by_cases h:bI f p/\bI p t/\has s.1 s.2 p 1;{have e:pS s f t p=p:=mu h;rw[e];rcases ih p with k|⟨k1,k2⟩;{rw[k];exact .inr ⟨by simp,h.1⟩};·exact .inr ⟨by simp[k1],k2⟩};·have e:pS s f t p=t:=ef h;rw[e];rcases ih t with k|⟨k1,k2⟩;{exact .inl k};·exact .inr ⟨by simp[k1],k2⟩
def ahead(s:bg)(f:aA)(rings:Poly):Nat:=if f=s.2 then 0 else 1+rings.flatten.countP λp=>decide (bI f p)
theorem Uh(s:bg)(f:aA)(rings:Poly):ahead s f rings<=rings.flatten.length+1:=by
 unfold ahead;split;{omega};·have:=afG (p:=λp=>decide (bI f p)) (l:=rings.flatten);omega
theorem Mg{s:bg}{f:aA}{rings:Poly}(h:f≠s.2):ahead s (gO s f rings) rings<ahead s f rings:=by
 unfold ahead;rw[ef h];split;{omega};·rename_i g;rcases Ja s f rings.flatten s.2 with k|⟨k1,k2⟩;{exact absurd k g};·have:rings.flatten.countP (λp=>decide (bI (gO s f rings) p))<rings.flatten.countP (λp=>decide (bI f p)):=(by obtain⟨l1,l2,e⟩:=afy k1;have mono:∀l:List aA,l.countP (λp=>decide (bI (gO s f rings) p))<=l.countP (λp=>decide (bI f p)):=(by intro l;apply afH;intro x _ hx;exact dj (uC k2 (IT hx)));have m1:=mono l1;have m2:=mono l2;have e':rings.flatten=l1++gO s f rings::l2:=e;generalize hx:gO s f rings=x at*;have k2':bI f x:=(by rw[<-hx];exact k2);rw[e',afz,afz,acB,acB];have d1:decide (bI x x)=false:=gx λq=>gN q q;have d2:decide (bI f x)=true:=dj k2';simp only[d1,d2,afq];simp;omega);omega
theorem QE{s:bg}{f:aA}{rings:Poly}(h:f=s.2)(n:Nat):nk n s f rings=[]:=by cases n with|zero=>rfl|succ n=>unfold nk;rw[mu h]
theorem QG:∀(n:Nat)(s:bg)(f:aA)(rings:Poly),(nk n s f rings).length<=n:=by
 intro n;induction n with|zero=>intro s f rings;exact IN _|succ n ih=>intro s f rings;unfold nk;split;{simp};·have:=ih s (gO s f rings) rings;simp;omega
theorem xw(s:bg)(rings:Poly):(eO s rings).length<=rings.flatten.length+1:=QG _ _ _ _
theorem b8(r:Ring):(aB r).length=r.length-1:=by simp[aB]
theorem cN{r:Ring}{i:Nat}{p q:aA}(hp:r[i]?=some p)(hq:r[i+1]?=some q):(aB r)[i]?=some (p,q):=by
 have hq':r.tail[i]?=some q:=(by simpa using hq);simp[aB,List.getElem?_zip_eq_some,hp,hq']
theorem bF{r:Ring}{s:bg}(h:s∈aB r):s.1∈r/\s.2∈r:=by
 have:=List.of_mem_zip (a:=s.1) (b:=s.2) (show(s.1,s.2)∈r.zip r.tail from h);exact⟨this.1,List.mem_of_mem_tail this.2⟩
theorem Jb(s:bg)(f:aA)(rings:Poly):gO s f rings=s.2\/gO s f rings∈rings.flatten:=by
 rcases Ja s f rings.flatten s.2 with k|⟨k1,_⟩;{exact .inl k};·exact .inr k1
def Cd(p:aA):Prop:=-32768<=p.1/\p.1<=32768/\-32768<=p.2/\p.2<=32768
def oK(s:bg):Prop:=Cd s.1/\Cd s.2
def yT(r:Ring):Prop:=∀p∈r,Cd p
def sU(l:Poly):Prop:=∀r∈l,yT r
def Sp(p:aL):Prop:=-1048576<=p.1.1/\p.1.1<=1048576/\-1048576<=p.1.2/\p.1.2<=1048576/\1<=p.2/\p.2<=1048576
theorem nO{p:aA}(h:Cd p):Sp (jZ p):=by
 unfold Cd at h;unfold Sp jZ;simp only;omega
theorem acL{p q:aA}(h:Cd p)(k:Cd q):Sp (bB p q):=by
 unfold Cd at h k;unfold Sp bB;simp only;omega
theorem rE{r:Ring}(h:yT r){s:bg}(hs:s∈aB r):oK s:=⟨h _ (bF hs).1,h _ (bF hs).2⟩
theorem BJ{s:bg}(h:oK s):oK (fwd s.1 s.2):=by
 unfold fwd;split;{exact⟨h.2,h.1⟩};·exact h
theorem oW{s:bg}{f:aA}{rings:Poly}(hs:oK s)(hr:sU rings):Cd (gO s f rings):=by
 rcases Jb s f rings with k|k;{rw[k];exact hs.2};·obtain⟨r,h1,h2⟩:=By.1 k;exact hr r h1 _ h2
theorem Ui{s:bg}{rings:Poly}(hs:oK s)(hr:sU rings):∀(n:Nat)(f:aA),Cd f->∀m∈nk n s f rings,Sp m:=by
 intro n;induction n with|zero=>intro f _ m hm;cases hm|succ n ih=>intro f hf m hm;unfold nk at hm;split at hm;{cases hm};·rcases v7.1 hm with rfl|hm;{exact acL hf (oW hs hr)};·exact ih _ (oW hs hr) m hm
theorem Gm{s:bg}{rings:Poly}(hs:oK s)(hr:sU rings):∀m∈eO s rings,Sp m:=Ui (BJ hs) hr _ _ (BJ hs).1
theorem agd{m:aF}(h:Pl.wrong m=0):∀l∈m,sU l:=by
 have h4:m.any Pl.oV=false:=(by unfold Pl.wrong at h;split at h;{omega};·split at h;{omega};·split at h;{omega};·rename_i k;simpa using k);intro l hl r hr p hp;have h1:Pl.pX p=false:=(by cases hw:Pl.pX p with|false=>rfl|true=>have:m.any Pl.oV=true:=AF.2 ⟨l,hl,AF.2 ⟨r,hr,AF.2 ⟨p,hp,hw⟩⟩⟩;rw[h4]at this;cases this);unfold Pl.pX Pl.sD at h1;simp at h1;unfold Cd;omega
def aj(r:Ring)(i:Nat):aA:=r.getD i (0,0)
def dA(r:Ring)(i:Nat):aA:=if i+1<r.length then aj r (i+1)else aj r 1
def turns(r:Ring)(i:Nat):Bool:=decide (1<=i)&&decide (side (aj r (i-1),aj r i) (jZ (dA r i))≠0)
def cK(r:Ring)(n:Nat):Ring:=((List.range n).filter (turns r)).map (aj r)
def aC(r:Ring):Ring:=cK r r.length
def sV(v:Ring)(f i:Nat):Nat:=if bI (aj v i) (aj v f)then i else f
def ig(v:Ring)(n:Nat):Nat:=(List.range n).foldl (sV v) 0
def bD(v:Ring):Nat:=ig v v.length
def oZ(v:Ring)(k:Nat):Bool:=decide (0<side (aj v ((k+v.length-1)%v.length),aj v k) (jZ (aj v ((k+1)%v.length))))
def ld(v:Ring)(l:Bool):Nat:=if oZ v (bD v)=l then 1 else v.length-1
def aI(r:Ring)(l:Bool):Ring:=if(aC r).length=0 then[]else(List.range ((aC r).length+1)).map λi=>aj (aC r) ((bD (aC r)+i*ld (aC r) l)%(aC r).length)
def cZ:Ring->Ring->Int|[],[]=>0|[],_::_=>-1|_::_,[]=>1|p::t,q::u=>if bI q p then 1 else if bI p q then-1 else cZ t u
def eK:Poly->Poly->Int|[],[]=>0|[],_::_=>-1|_::_,[]=>1|p::t,q::u=>if cZ p q≠0 then cZ p q else eK t u
def Y9(m:aF)(a i:Nat):Bool:=decide (eK (b9 m i) (b9 m a)<0)||(decide (eK (b9 m i) (b9 m a)=0)&&decide (i<a))
def jk(m:aF)(a n:Nat):Nat:=(List.range n).countP (Y9 m a)
def Mh(m:aF)(o:aF)(i:Nat):aF:=o.set (jk m i m.length) (b9 m i)
def Uj(m:aF)(n:Nat):aF:=(List.range n).foldl (Mh m) (List.replicate m.length [])
def eE(m:aF):aF:=Uj m m.length
def jJ(l:Poly):aF:=l.map λr=>[aI r false]
def cH:Poly->Poly|[]=>[]|r::l=>aI r true::(eE (jJ l)).flatten
def form(m:aF):aF:=eE (m.map cH)
def ja:List Ring->Bool->aL->Bool|[],_,_=>true|r::t,first,p=>if(first&&decide (place r p=0))||(!first&&decide (place r p=2))then false else ja t false p
def bH(l:Poly)(p:aL):Bool:=ja l true p&&decide (0<l.length)
def dD(m:aF)(p:aL):Bool:=m.any λl=>bH l p
def along(s:bg):aA:=(s.2.1-s.1.1,s.2.2-s.1.2)
def bN(w o:aA):Int:=w.1*o.2-w.2*o.1
def wj(n:Int):Int:=if n<0 then-n else n
def lM(p:aL)(s:bg):aA:=(s.1.1*p.2-p.1.1,s.1.2*p.2-p.1.2)
def dO(p:aL)(w:aA)(s:bg):Int:=if wj (bN (lM p s) (along s))=0 then 1 else(wj (p.2*bN w (along s))).tdiv (wj (bN (lM p s) (along s)))+1
def iV(p:aL)(w:aA)(n:Int)(s:bg):Int:=if n<dO p w s then dO p w s else n
def cD(p:aL)(w:aA)(n:Int):aL:=((p.1.1*n+p.2*w.1,p.1.2*n+p.2*w.2),p.2*n)
def near(both:List bg)(p:aL)(w:aA):aL:=cD p w (both.foldl (iV p w) 1)
def lQ(both:List bg)(s t:bg)(m:aL):Option aL:=if bN (along s) (along t)<0 then some (near both m (along t))else if 0<bN (along s) (along t)then some (near both m (-(along t).1,-(along t).2))else none
def gU(other:aF)(both:List bg)(s:bg)(m:aL):List bg->Option aL|[]=>if dD other m then some (near both m ((along s).2,-(along s).1))else some m|t::l=>if hasB t m then lQ both s t m else gU other both s m l
def aN(l:Poly):List bg:=l.flatMap aB
def cU(a b:aF):Option aL:=(aN a.flatten).findSome? λs=>(eO s (a.flatten++b.flatten)).findSome? λm=>gU b (aN (a.flatten++b.flatten)) s m (aN b.flatten)
def spot(a b:aF):Option aL:=match cU a b with|some p=>some p|none=>cU b a
def Cut(a b:aA)(l:List aA)(x:aA):Prop:=x=a\/x=b\/(x∈l/\has a b x 1)
structure Cons(f:aA->Int)(C:aA->Prop)(x y:aA):Prop where
 cx:C x
 cy:C y
 lt:f x<f y
 no:∀c,C c->¬(f x<f c/\f c<f y)
def oq(f:aA->Int)(ok:aA->Prop)[DecidablePred ok](from_ to p:aA):aA:=if ok p/\f from_<f p/\f p<f to then p else to
theorem ED(f:aA->Int)(ok:aA->Prop)[DecidablePred ok](x:aA):∀(l:List aA)(t:aA),f x<f t->(l.foldl (oq f ok x) t=t\/(l.foldl (oq f ok x) t∈l/\ok (l.foldl (oq f ok x) t)))/\f x<f (l.foldl (oq f ok x) t)/\f (l.foldl (oq f ok x) t)<=f t/\∀c∈l,ok c->¬(f x<f c/\f c<f (l.foldl (oq f ok x) t)):=by
 intro l;induction l with|nil=>intro t h;exact⟨.inl rfl,h,abg _,by simp⟩|cons p l ih=>intro t h;rw[aci];by_cases k:ok p/\f x<f p/\f p<f t;{rw[show oq f ok x t p=p from mu k];obtain⟨h1,h2,h3,h4⟩:=ih p k.2.1;refine⟨?_,h2,by omega,?_⟩;{rcases h1 with e|⟨e1,e2⟩;{rw[e];exact .inr ⟨by simp,k.1⟩};·exact .inr ⟨by simp[e1],e2⟩};·intro c hc hok;rcases v7.1 hc with rfl|hc;{omega};·exact h4 c hc hok};·rw[show oq f ok x t p=t from ef k];obtain⟨h1,h2,h3,h4⟩:=ih t h;refine⟨?_,h2,h3,?_⟩;{rcases h1 with e|⟨e1,e2⟩;{exact .inl e};·exact .inr ⟨by simp[e1],e2⟩};·intro c hc hok;rcases v7.1 hc with rfl|hc;{intro⟨q1,q2⟩;exact k ⟨hok,q1,by omega⟩};·exact h4 c hc hok
def Jc(f:aA->Int)(ok:aA->Prop)[DecidablePred ok](l:List aA)(b:aA):Nat->aA->List aL|0,_=>[]|n+1,x=>if x=b then[]else bB x (l.foldl (oq f ok x) b)::Jc f ok l b n (l.foldl (oq f ok x) b)
def fuel(f:aA->Int)(l:List aA)(b x:aA):Nat:=if x=b then 0 else 1+l.countP λp=>decide (f x<f p)
theorem EE{f:aA->Int}{ok:aA->Prop}[DecidablePred ok]{l:List aA}{b x:aA}(hx:x≠b)(h:f x<f b):fuel f l b (l.foldl (oq f ok x) b)<fuel f l b x:=by
 obtain⟨h1,h2,-,-⟩:=ED f ok x l b h;unfold fuel;rw[ef hx];split;{omega};·rename_i g;rcases h1 with e|⟨e1,e2⟩;{exact absurd e g};·generalize l.foldl (oq f ok x) b=y at*;obtain⟨l1,l2,e⟩:=afy e1;have mono:∀l:List aA,l.countP (λp=>decide (f y<f p))<=l.countP (λp=>decide (f x<f p)):=(by intro l;apply afH;intro z _ hz;have:=IT hz;exact dj (by omega));have m1:=mono l1;have m2:=mono l2;rw[e,afz,afz,acB,acB];simp[h2];omega
theorem Uk{f:aA->Int}{C ok:aA->Prop}[DecidablePred ok]{l:List aA}{a b:aA}(hC:∀x,C x↔x=a\/x=b\/(x∈l/\ok x))(inj:∀x y,C x->C y->f x=f y->x=y)(top:∀x,C x->f x<=f b):∀(n:Nat)(x:aA),C x->fuel f l b x<=n->f a<=f x->∀m,m∈Jc f ok l b n x↔∃y z,Cons f C y z/\f x<=f y/\m=bB y z:=by
 intro n;induction n with|zero=>intro x hx hn ha m;have:x=b:=(by unfold fuel at hn;split at hn<;>first|assumption|omega);subst this;constructor;{intro h;cases h};{rintro⟨y,z,hc,h1,-⟩;have:=top z hc.cy;have:=hc.lt;omega}|succ n ih=>intro x hx hn ha m;unfold Jc;by_cases hb:x=b;{rw[mu hb];constructor;{intro h;cases h};·rintro⟨y,z,hc,h1,-⟩;have:=top z hc.cy;have:=hc.lt;rw[hb]at h1;omega};·rw[ef hb];have hlt:f x<f b:=(by have:=top x hx;rcases ad8 this with h|h;{exact h};·exact absurd (inj x b hx ((hC b).2 (.inr (.inl rfl))) h) hb);have hf:=EE (ok:=ok) (l:=l) hb hlt;obtain⟨h1,h2,h3,h4⟩:=ED f ok x l b hlt;generalize hy:l.foldl (oq f ok x) b=y at*;have cy:C y:=(by rw[hC];rcases h1 with e|⟨e1,e2⟩;{exact .inr (.inl e)};·exact .inr (.inr ⟨e1,e2⟩));have hno:∀c,C c->¬(f x<f c/\f c<f y):=(by intro c hc;rcases(hC c).1 hc with rfl|rfl|⟨e1,e2⟩;{omega};{omega};·exact h4 c e1 e2);have key:=ih y cy (by omega) (by omega) m;rw[v7,key];constructor;{rintro(rfl|⟨u,v,hc,k1,k2⟩);{exact⟨x,y,⟨hx,cy,h2,hno⟩,abg _,rfl⟩};·exact⟨u,v,hc,by omega,k2⟩};·rintro⟨u,v,hc,k1,k2⟩;by_cases hu:f y<=f u;{exact .inr ⟨u,v,hc,hu,k2⟩};·left;have e1:u=x:=(by refine inj u x hc.cx hx ?_;have:=hno u hc.cx;omega);subst e1;have e2:v=y:=(by refine inj v y hc.cy cy ?_;have g1:=hno v hc.cy;have g2:=hc.no y cy;have g3:=hc.lt;omega);rw[k2,e2]
theorem iW(a b:aA):has a b a 1:=⟨ni a b,by unfold fq;omega,by unfold fq;omega⟩
theorem gy(a b:aA):has a b b 1:=⟨mw a b,by unfold fq;omega,by unfold fq;omega⟩
theorem cB{a b:aA}{l:List aA}{x:aA}(h:Cut a b l x):has a b x 1:=by
 rcases h with rfl|rfl|h;{exact iW _ _};{exact gy _ _};·exact h.2
theorem dz{a b x:aA}(hab:a≠b)(h:has a b x 1):0<=pos a b x/\pos a b x<=kk a b:=by
 have:=(kU hab (by omega)).1 h;exact⟨this.2.1,by have:=this.2.2;unfold pos;omega⟩
theorem j6{a b x y:aA}(hab:a≠b)(hx:cr a b x 1=0)(hy:cr a b y 1=0)(e:pos a b x=pos a b y):x=y:=by
 have hk:=cO hab;have e1:(pos a b y-pos a b x)*(b.1-a.1)=(y.1-x.1)*kk a b:=(by unfold cr at hx hy;unfold pos dt kk;grind);have e2:(pos a b y-pos a b x)*(b.2-a.2)=(y.2-x.2)*kk a b:=(by unfold cr at hx hy;unfold pos dt kk;grind);rw[e,agK,ab9]at e1 e2;have z:∀t:Int,0=t*kk a b->t=0:=(by intro t h;rcases BE.1 h.symm with h|h;{exact h};·omega);have:=z _ e1;have:=z _ e2;exact aaU (by omega) (by omega)
theorem BK{a b:aA}(hab:a≠b)(l:List aA){n:Nat}(hn:l.length+1<=n)(m:aL):m∈Jc (pos a b) (λx=>has a b x 1) l b n a↔∃y z,Cons (pos a b) (Cut a b l) y z/\m=bB y z:=by
 have hk:=cO hab;have:=Uk (f:=pos a b) (C:=Cut a b l) (ok:=λx=>has a b x 1) (l:=l) (a:=a) (b:=b) (λx=>Iff.rfl) (λx y hx hy e=>j6 hab (cB hx).1 (cB hy).1 e) (λx hx=>by rw[gL];exact(dz hab (cB hx)).2) n a (.inl rfl) (by unfold fuel;split;{omega};·have:=afG (p:=λp=>decide (pos a b a<pos a b p)) (l:=l);omega) (abg _) m;rw[this];constructor;{rintro⟨y,z,hc,-,e⟩;exact⟨y,z,hc,e⟩};·rintro⟨y,z,hc,e⟩;exact⟨y,z,hc,by rw[fh];exact(dz hab (cB hc.cx)).1,e⟩
theorem Je{a b x y:aA}(h:bI a b)(hx:cr a b x 1=0)(hy:cr a b y 1=0):bI x y↔pos a b x<pos a b y:=(rD (acJ h) hx hy).1 h
theorem Jf{a b x:aA}(h:bI a b)(hx:cr a b x 1=0):∀(l:List aA)(t:aA),cr a b t 1=0->l.foldl (pS (a,b) x) t=l.foldl (oq (pos a b) (λp=>has a b p 1) x) t/\cr a b (l.foldl (pS (a,b) x) t) 1=0:=by
 intro l;induction l with|nil=>intro t ht;exact⟨rfl,ht⟩|cons p l ih=>intro t ht;rw[aci,aci];by_cases hp:has a b p 1;{have e1:=Je h hx hp.1;have e2:=Je h hp.1 ht;have e:pS (a,b) x t p=oq (pos a b) (λp=>has a b p 1) x t p:=(by unfold pS oq;by_cases c:bI x p/\bI p t;{rw[mu ⟨c.1,c.2,hp⟩,mu ⟨hp,e1.1 c.1,e2.1 c.2⟩]};·rw[ef (λq=>c ⟨q.1,q.2.1⟩),ef (λq=>c ⟨e1.2 q.2.1,e2.2 q.2.2⟩)]);have ht':cr a b (pS (a,b) x t p) 1=0:=(by unfold pS;split;exact hp.1;exact ht);rw[<-e];exact ih _ ht'};·rw[show pS (a,b) x t p=t from ef (λq=>hp q.2.2),show oq (pos a b) (λp=>has a b p 1) x t p=t from ef (λq=>hp q.1)];exact ih t ht
theorem Jg{a b:aA}(h:bI a b)(rings:Poly):∀(n:Nat)(x:aA),cr a b x 1=0->nk n (a,b) x rings=Jc (pos a b) (λp=>has a b p 1) rings.flatten b n x:=by
 intro n;induction n with|zero=>intro x _;rfl|succ n ih=>intro x hx;obtain⟨e,k⟩:=Jf h hx rings.flatten b (mw a b);unfold nk Jc gO;simp only;rw[<-e,ih _ k]
theorem dY{a b p:aA}{w:Int}:has a b p w↔has b a p w:=by
 unfold has;rw[fW a b p w];unfold fq;omega
theorem BM{a b:aA}{l:List aA}{x:aA}:Cut a b l x↔Cut b a l x:=by
 unfold Cut;rw[dY (a:=a)];constructor;{rintro(h|h|h);{exact .inr (.inl h)};{exact .inl h};·exact .inr (.inr h)};·rintro(h|h|h);{exact .inr (.inl h)};{exact .inl h};·exact .inr (.inr h)
theorem sW(a b x:aA):pos b a x=kk a b-pos a b x:=by
 unfold pos dt kk;grind
theorem EF{a b:aA}{l:List aA}{x y:aA}(h:Cons (pos a b) (Cut a b l) x y):Cons (pos b a) (Cut b a l) y x:=by
 refine⟨BM.1 h.cy,BM.1 h.cx,?_,?_⟩;{rw[sW,sW a b];have:=h.lt;omega};·intro c hc;have:=h.no c (BM.2 hc);rw[sW,sW a b c,sW a b x];omega
theorem Jh(x y:aA):bB x y=bB y x:=by
 unfold bB;rw[Int.add_comm,Int.add_comm x.2]
theorem iO{a b:aA}(hab:a≠b)(rings:Poly)(m:aL):m∈eO (a,b) rings↔∃y z,Cons (pos a b) (Cut a b rings.flatten) y z/\m=bB y z:=by
 unfold eO fwd;simp only;by_cases h:bI b a;{rw[mu h];simp only;rw[Jg h rings _ _ (ni b a),BK (ab3 hab) _ (IN _)];constructor;{rintro⟨y,z,hc,e⟩;exact⟨z,y,EF hc,by rw[e,Jh]⟩};·rintro⟨y,z,hc,e⟩;exact⟨z,y,EF hc,by rw[e,Jh]⟩};·have h':bI a b:=(by rcases mQ a b with k|k|k;{exact k};{exact absurd k hab};·exact absurd k h);rw[ef h];simp only;rw[Jg h' rings _ _ (ni a b),BK hab _ (IN _)]
def Ji(a b x y:aA):Int:=(y.1-x.1)*(b.1-a.1)+(y.2-x.2)*(b.2-a.2)
theorem Jj(a b x y:aA):Ji a b x y=pos a b y-pos a b x:=by
 unfold Ji pos dt;grind
instance(a b p:aA)(w:Int):Decidable (on a b p w):=by
 unfold on;infer_instance
def Jk(a b x t p:aA):aA:=if on a b p 1/\Ji a b x p>0/\Ji a b p t>0 then p else t
def sZ(a b x:aA)(rings:Poly):aA:=rings.flatten.foldl (Jk a b x) b
def nD(a b:aA)(rings:Poly):Nat->aA->List aL|0,_=>[]|n+1,x=>if x=b then[]else bB x (sZ a b x rings)::nD a b rings n (sZ a b x rings)
theorem Za{a b:aA}(hab:a≠b)(x t p:aA):Jk a b x t p=oq (pos a b) (λp=>has a b p 1) x t p:=by
 unfold Jk oq;have e:=kU (p:=p) (w:=1) hab (by omega);rw[Jj,Jj];by_cases c:has a b p 1/\pos a b x<pos a b p/\pos a b p<pos a b t;{rw[mu c,mu ⟨e.1 c.1,by omega,by omega⟩]};·rw[ef c,ef (λq=>c ⟨e.2 q.1,by omega,by omega⟩)]
theorem xz{a b:aA}(hab:a≠b)(x:aA)(rings:Poly):sZ a b x rings=rings.flatten.foldl (oq (pos a b) (λp=>has a b p 1) x) b:=by
 unfold sZ;congr 1;funext t p;exact Za hab x t p
theorem Ul{a b:aA}(hab:a≠b)(rings:Poly):∀(n:Nat)(x:aA),nD a b rings n x=Jc (pos a b) (λp=>has a b p 1) rings.flatten b n x:=by
 intro n;induction n with|zero=>intro x;rfl|succ n ih=>intro x;unfold nD Jc;rw[xz hab,ih]
def wm(a b:aA)(rings:Poly):List aL:=nD a b rings (rings.flatten.length+1) a
theorem Um{a b:aA}(hab:a≠b)(rings:Poly)(m:aL):m∈wm a b rings↔∃y z,Cons (pos a b) (Cut a b rings.flatten) y z/\m=bB y z:=by
 unfold wm;rw[Ul hab,BK hab _ (IN _)]
theorem uD{a b:aA}(hab:a≠b)(rings:Poly)(m:aL):m∈eO (a,b) rings↔m∈wm a b rings:=by rw[iO hab,Um hab]
theorem Gn{g:List Nat}{f:Nat->Nat}{i:Nat}(h:i<g.length):eG (g.map f) i=f (eG g i):=by
 unfold eG;simp[mT,AI h]
theorem Gp{o f x y:Nat}(h:kn o f x=kn o f y):x=y\/((x=o\/x=f)/\(y=o\/y=f)):=by
 unfold kn at h;split at h<;>split at h<;>omega
theorem Uo:∀(js:List Nat)(g:List Nat)(a:Nat)(g':List Nat),a<g.length->(∀j∈js,j<g.length)->mA g a js=some g'->g'.length=g.length/\(∀x y,x<g.length->y<g.length->eG g x=eG g y->eG g' x=eG g' y)/\(∀j∈js,eG g' j=eG g' a)/\(∀j∈js,eG g j≠eG g a)/\js.Pairwise (λi j=>eG g i≠eG g j):=by
 intro js;induction js with|nil=>intro g a g' _ _ h;simp only[mA,ae3]at h;subst h;exact⟨rfl,λ_ _ _ _ e=>e,by simp,by simp,List.Pairwise.nil⟩|cons j t ih=>intro g a g' ha hj h;unfold mA at h;split at h;{cases h};·rename_i hne;have hjl:=hj j (by simp);have key:=ih _ a g' (by simpa using ha) (by intro x hx;simpa using hj x (by simp[hx])) h;obtain⟨k1,k2,k3,k4,k5⟩:=key;simp only[wg]at k1 k2;have m:∀x,x<g.length->eG (g.map (kn (eG g j) (eG g a))) x=kn (eG g j) (eG g a) (eG g x):=λx hx=>Gn hx;have ma:kn (eG g j) (eG g a) (eG g a)=eG g a:=(by unfold kn;rw[ef (ab3 hne)]);have mj:kn (eG g j) (eG g a) (eG g j)=eG g a:=(by unfold kn;rw[mu rfl]);have kt:∀i∈t,eG g i≠eG g a/\eG g i≠eG g j:=(by intro i hi;have hil:=hj i (by simp[hi]);have:=k4 i hi;rw[m i hil,m a ha,ma]at this;constructor;{intro e;rw[e,ma]at this;exact this rfl};·intro e;rw[e,mj]at this;exact this rfl);refine⟨k1,?_,?_,?_,?_⟩;{intro x y hx hy e;refine k2 x y hx hy ?_;rw[m x hx,m y hy,e]};{intro i hi;rcases v7.1 hi with rfl|hi;{refine k2 _ _ hjl ha ?_;rw[m _ hjl,m a ha,mj,ma]};·exact k3 i hi};{intro i hi;rcases v7.1 hi with rfl|hi;{exact hne};·exact(kt i hi).1};·refine List.Pairwise.cons (λi hi=>ab3 (kt i hi).2) ?_;refine List.Pairwise.imp_of_mem ?_ k5;intro x y hx hy e e2;rw[m x (hj x (by simp[hx])),m y (hj y (by simp[hy])),e2]at e;exact e rfl
theorem Mi:∀(js:List Nat)(g:List Nat)(a:Nat)(g':List Nat),a<g.length->(∀j∈js,j<g.length)->mA g a js=some g'->∀x y,x<g.length->y<g.length->eG g' x=eG g' y->eG g x=eG g y\/∃u∈a::js,∃v∈a::js,eG g u=eG g x/\eG g v=eG g y:=by
 intro js;induction js with|nil=>intro g a g' _ _ h x y _ _ e;simp only[mA,ae3]at h;subst h;exact .inl e|cons j t ih=>intro g a g' ha hj h x y hx hy e;unfold mA at h;split at h;{cases h};·rename_i hne;have hjl:=hj j (by simp);have m:∀x,x<g.length->eG (g.map (kn (eG g j) (eG g a))) x=kn (eG g j) (eG g a) (eG g x):=λx hx=>Gn hx;have key:=ih _ a g' (by simpa using ha) (by intro x hx;simpa using hj x (by simp[hx])) h x y (by simpa using hx) (by simpa using hy) e;have up:∀u∈a::t,∀z,z<g.length->eG (g.map (kn (eG g j) (eG g a))) u=eG (g.map (kn (eG g j) (eG g a))) z->∃u'∈a::j::t,eG g u'=eG g z:=(by intro u hu z hz e;have hul:u<g.length:=(by rcases v7.1 hu with rfl|hu;{exact ha};·exact hj u (by simp[hu]));rw[m u hul,m z hz]at e;rcases Gp e with e|⟨_,e|e⟩;{refine⟨u,?_,e⟩;rcases v7.1 hu with rfl|hu;{simp};·simp[hu]};{exact⟨j,by simp,e.symm⟩};·exact⟨a,by simp,e.symm⟩);rcases key with k|⟨u,hu,v,hv,k1,k2⟩;{rw[m x hx,m y hy]at k;rcases Gp k with k|⟨k1,k2⟩;{exact .inl k};·right;have one:∀z,(eG g z=eG g j\/eG g z=eG g a)->∃u∈a::j::t,eG g u=eG g z:=(by rintro z(e|e);{exact⟨j,by simp,e.symm⟩};·exact⟨a,by simp,e.symm⟩);obtain⟨u,hu,e1⟩:=one x k1;obtain⟨v,hv,e2⟩:=one y k2;exact⟨u,hu,v,hv,e1,e2⟩};·right;obtain⟨u',A4,e1⟩:=up u hu x hx k1;obtain⟨v',hv',e2⟩:=up v hv y hy k2;exact⟨u',A4,v',hv',e1,e2⟩
theorem Mj:∀(js:List Nat)(g:List Nat)(a:Nat),a<g.length->(∀j∈js,j<g.length)->(a::js).Nodup->mA g a js=none->∃u∈a::js,∃v∈a::js,u≠v/\eG g u=eG g v:=by
 intro js;induction js with|nil=>intro g a _ _ _ h;cases h|cons j t ih=>intro g a ha hj hnd h;have hjl:=hj j (by simp);have haj:a≠j:=λe=>(UP.1 hnd).1 (by simp[e]);have hjt:j∉t:=(UP.1 (UP.1 hnd).2).1;unfold mA at h;split at h;{rename_i e;exact⟨j,by simp,a,by simp,ab3 haj,e⟩};·rename_i hne;have m:∀x,x<g.length->eG (g.map (kn (eG g j) (eG g a))) x=kn (eG g j) (eG g a) (eG g x):=λx hx=>Gn hx;have Ec:(a::t).Nodup:=(by rw[UP]at hnd⊢;exact⟨λe=>hnd.1 (by simp[e]),(UP.1 hnd.2).2⟩);obtain⟨u,hu,v,hv,huv,e⟩:=ih _ a (by simpa using ha) (by intro x hx;simpa using hj x (by simp[hx])) Ec h;have lt:∀x∈a::t,x<g.length:=(by intro x hx;rcases v7.1 hx with rfl|hx;{exact ha};·exact hj x (by simp[hx]));have eZ:∀x∈a::t,x∈a::j::t:=(by intro x hx;rcases v7.1 hx with rfl|hx;{simp};·simp[hx]);have far:∀x∈a::t,eG g x=eG g j->∃u∈a::j::t,∃v∈a::j::t,u≠v/\eG g u=eG g v:=(by intro x hx e;refine⟨x,eZ x hx,j,by simp,?_,e⟩;rintro rfl;rcases v7.1 hx with e|e;{exact haj e.symm};·exact hjt e);rw[m u (lt u hu),m v (lt v hv)]at e;rcases Gp e with e|⟨e1|e1,e2|e2⟩;{exact⟨u,eZ u hu,v,eZ v hv,huv,e⟩};{exact far u hu e1};{exact far u hu e1};{exact far v hv e2};·exact⟨u,eZ u hu,v,eZ v hv,huv,by rw[e1,e2]⟩
abbrev Ed:=Nat->aA->Prop
structure age(F:Ed)(x y:Nat):Prop where
 pt:∀r p,F r p->∃r',r'≠r/\F r' p
 ring:∀r p,F r p->r≠x->r≠y->∃p',p'≠p/\F r p'
structure Core(F:Ed):Prop where
 pt:∀r p,F r p->∃r',r'≠r/\F r' p
 ring:∀r p,F r p->∃p',p'≠p/\F r p'
structure At(n:Nat)(E:Ed)(at_:aA->List Nat):Prop where
 mem:∀r p,r∈at_ p↔r<n/\E r p
 nd:∀p,(at_ p).Nodup
theorem acM{f:Nat->Nat}{l:List Nat}(h:l.Pairwise (λi j=>f i≠f j)):∀x y,x∈l->y∈l->x≠y->f x≠f y:=by induction h with|nil=>intro x y hx;cases hx|cons h1 _ ih=>intro x y hx hy hxy;rcases v7.1 hx with e1|e1<;>rcases v7.1 hy with e2|e2;{exact absurd (e1.trans e2.symm) hxy};{rw[e1];exact h1 y e2};{rw[e2];exact ab3 (h1 x e1)};·exact ih x y e1 e2 hxy
theorem BN{n:Nat}{E:Ed}{at_:aA->List Nat}(hA:At n E at_)(p:aA)(g:List Nat)(hg:g.length=n):(∀g',join g (at_ p)=some g'->g'.length=n/\(∀x y,x<n->y<n->eG g x=eG g y->eG g' x=eG g' y)/\(∀a b,a∈at_ p->b∈at_ p->eG g' a=eG g' b)/\(∀a b,a∈at_ p->b∈at_ p->a≠b->eG g a≠eG g b)/\(∀x y,x<n->y<n->eG g' x=eG g' y->eG g x=eG g y\/∃u∈at_ p,∃v∈at_ p,eG g u=eG g x/\eG g v=eG g y))/\(join g (at_ p)=none->∃u∈at_ p,∃v∈at_ p,u≠v/\eG g u=eG g v):=by
 have hnd:=hA.nd p;have hlt:∀j∈at_ p,j<g.length:=λj hj=>(by rw[hg];exact((hA.mem j p).1 hj).1);cases hp:at_ p with|nil=>refine⟨λg' h=>?_,λh=>by cases h⟩;simp only[join,ae3]at h;subst h;exact⟨hg,λ_ _ _ _ e=>e,by simp,by simp,λ_ _ _ _ e=>.inl e⟩|cons a t=>rw[hp]at hnd hlt;have ha:=hlt a (by simp);have ht:∀j∈t,j<g.length:=λj hj=>hlt j (by simp[hj]);refine⟨λg' h=>?_,λh=>Mj t g a ha ht hnd h⟩;obtain⟨k1,k2,k3,k4,k5⟩:=Uo t g a g' ha ht h;have k6:=Mi t g a g' ha ht h;rw[hg]at k1 k2 k6;refine⟨k1,k2,?_,?_,k6⟩;{have one:∀x∈a::t,eG g' x=eG g' a:=(by intro x hx;rcases v7.1 hx with rfl|hx;{rfl};·exact k3 x hx);intro x y hx hy;rw[one x hx,one y hy]};·intro x y hx hy hxy;rcases v7.1 hx with h1|h1<;>rcases v7.1 hy with h2|h2;{exact absurd (h1.trans h2.symm) hxy};{rw[h1];exact ab3 (k4 y h2)};{rw[h2];exact k4 x h1};·exact acM k5 x y h1 h2 hxy
structure Jd(n:Nat)(E:Ed)(Q:aA->Prop)(g:List Nat):Prop where
 len:g.length=n
 one:∀p,Q p->∀a b,a<n->b<n->E a p->E b p->eG g a=eG g b
 no:∀F:Ed,(∀r p,F r p->r<n/\E r p/\Q p)->∀x,age F x x->∀r p,¬F r p
 good:∀a b,a<n->b<n->a≠b->eG g a=eG g b->∃F:Ed,(∀r p,F r p->r<n/\E r p/\Q p)/\age F a b/\(∃p,F a p)/\(∃p,F b p)
theorem Jd.step{n:Nat}{E:Ed}{at_:aA->List Nat}(hA:At n E at_){Q:aA->Prop}{g g':List Nat}(h:Jd n E Q g){p:aA}(hp:¬Q p)(hj:join g (at_ p)=some g'):Jd n E (λq=>Q q\/q=p) g':=by
 obtain⟨k1,k2,k3,k4,k5⟩:=(BN hA p g h.len).1 g' hj;refine⟨k1,?_,?_,?_⟩;{rintro q(hq|rfl)a b ha hb ea eb;{exact k2 a b ha hb (h.one q hq a b ha hb ea eb)};·exact k3 a b ((hA.mem a q).2 ⟨ha,ea⟩) ((hA.mem b q).2 ⟨hb,eb⟩)};·intro F hF x hN r0 p0 h0;by_cases hu:∃r,F r p;{obtain⟨a,ha⟩:=hu;obtain⟨b,hba,hb⟩:=hN.pt a p ha;have ea:=hF a p ha;have eb:=hF b p hb;have hne:=k4 a b ((hA.mem a p).2 ⟨ea.1,ea.2.1⟩) ((hA.mem b p).2 ⟨eb.1,eb.2.1⟩) (ab3 hba);have key:∀c,F c p->eG g c≠eG g x->False:=(by intro c hc Uq;have ec:=hF c p hc;have agf:c≠x:=λe=>Uq (by rw[e]);obtain⟨q,hq,hcq⟩:=hN.ring c p hc agf agf;refine h.no (λr q=>F r q/\q≠p/\eG g r=eG g c) ?_ c ⟨?_,?_⟩ c q ⟨hcq,hq,rfl⟩;{rintro r q⟨h1,h2,-⟩;obtain⟨g1,g2,g3⟩:=hF r q h1;rcases g3 with g3|g3;{exact⟨g1,g2,g3⟩};·exact absurd g3 h2};{rintro r q⟨h1,h2,h3⟩;obtain⟨r',e,h4⟩:=hN.pt r q h1;have a1:=hF r q h1;have a2:=hF r' q h4;have hQ:Q q:=(by rcases a1.2.2 with t|t;exact t;exact absurd t h2);exact⟨r',e,h4,h2,by rw[<-h3];exact h.one q hQ r' r a2.1 a1.1 a2.2.1 a1.2.1⟩};·rintro r q⟨h1,h2,h3⟩hr _;have hrx:r≠x:=λe=>Uq (by rw[<-e,h3]);obtain⟨q',e,h4⟩:=hN.ring r q h1 hrx hrx;refine⟨q',e,h4,?_,h3⟩;rintro rfl;have a1:=hF r q' h4;exact k4 r c ((hA.mem r q').2 ⟨a1.1,a1.2.1⟩) ((hA.mem c q').2 ⟨ec.1,ec.2.1⟩) hr h3);by_cases hax:eG g a=eG g x;{exact key b hb (λe=>hne (by rw[hax,e]))};·exact key a ha hax};·refine h.no F ?_ x hN r0 p0 h0;intro r q hq;obtain⟨g1,g2,g3⟩:=hF r q hq;rcases g3 with g3|rfl;{exact⟨g1,g2,g3⟩};·exact absurd ⟨r,hq⟩ hu
 ·intro a b ha hb hab e;have wide:∀F:Ed,(∀r p,F r p->r<n/\E r p/\Q p)->∀r q,F r q->r<n/\E r q/\(Q q\/q=p):=λF hF r q hq=>⟨(hF r q hq).1,(hF r q hq).2.1,.inl (hF r q hq).2.2⟩;by_cases e0:eG g a=eG g b;{obtain⟨F,h1,h2,h3,h4⟩:=h.good a b ha hb hab e0;exact⟨F,wide F h1,h2,h3,h4⟩};·rcases k5 a b ha hb e with e1|⟨u,hu,v,hv,e1,e2⟩;{exact absurd e1 e0};have eu:=(hA.mem u p).1 hu;have ev:=(hA.mem v p).1 hv;have huv:u≠v:=(by rintro rfl;exact e0 (e1.symm.trans e2));have arm:∀z c,z<n->c<n->eG g z=eG g c->∃F:Ed,(∀r q,F r q->r<n/\E r q/\Q q)/\(∀r q,F r q->∃r',r'≠r/\F r' q)/\(∀r q,F r q->r≠z->r≠c->∃q',q'≠q/\F r q')/\(z≠c->(∃q,F z q)/\(∃q,F c q)):=(by intro z c hz hc ezc;by_cases zc:z=c;{exact⟨λ_ _=>False,by simp,by simp,by simp,λt=>absurd zc t⟩};·obtain⟨F,h1,h2,h3,h4⟩:=h.good z c hz hc zc ezc;exact⟨F,h1,h2.pt,h2.ring,λ_=>⟨h3,h4⟩⟩);obtain⟨F,f1,f2,f3,f4⟩:=arm u a eu.1 ha e1;obtain⟨G,g1,g2,g3,g4⟩:=arm v b ev.1 hb e2;refine⟨λr q=>F r q\/G r q\/(q=p/\(r=u\/r=v)),?_,⟨?_,?_⟩,?_,?_⟩;{rintro r q(t|t|⟨rfl,rfl|rfl⟩);{exact wide F f1 r q t};{exact wide G g1 r q t};{exact⟨eu.1,eu.2,.inr rfl⟩};·exact⟨ev.1,ev.2,.inr rfl⟩};{rintro r q(t|t|⟨rfl,rfl|rfl⟩);{obtain⟨r',e,t'⟩:=f2 r q t;exact⟨r',e,.inl t'⟩};{obtain⟨r',e,t'⟩:=g2 r q t;exact⟨r',e,.inr (.inl t')⟩};{exact⟨v,ab3 huv,.inr (.inr ⟨rfl,.inr rfl⟩)⟩};·exact⟨u,huv,.inr (.inr ⟨rfl,.inl rfl⟩)⟩};{have atU:∀q,q≠p->∃q',q'≠q/\(F u q'\/G u q'\/(q'=p/\(u=u\/u=v))):=λq hq=>⟨p,ab3 hq,.inr (.inr ⟨rfl,.inl rfl⟩)⟩;have atV:∀q,q≠p->∃q',q'≠q/\(F v q'\/G v q'\/(q'=p/\(v=u\/v=v))):=λq hq=>⟨p,ab3 hq,.inr (.inr ⟨rfl,.inr rfl⟩)⟩;rintro r q(t|t|⟨rfl,rfl|rfl⟩)QI hrb;{have hq:q≠p:=λe=>hp (e▸(f1 r q t).2.2);by_cases ru:r=u;{subst ru;exact atU q hq};·obtain⟨q',e,t'⟩:=f3 r q t ru QI;exact⟨q',e,.inl t'⟩};{have hq:q≠p:=λe=>hp (e▸(g1 r q t).2.2);by_cases rv:r=v;{subst rv;exact atV q hq};·obtain⟨q',e,t'⟩:=g3 r q t rv hrb;exact⟨q',e,.inr (.inl t')⟩};{obtain⟨q',t'⟩:=(f4 QI).1;exact⟨q',λe=>hp (e▸(f1 r q' t').2.2),.inl t'⟩};·obtain⟨q',t'⟩:=(g4 hrb).1;exact⟨q',λe=>hp (e▸(g1 r q' t').2.2),.inr (.inl t')⟩};{by_cases ua:u=a;{exact⟨p,.inr (.inr ⟨rfl,.inl ua.symm⟩)⟩};·obtain⟨q,t⟩:=(f4 ua).2;exact⟨q,.inl t⟩};·by_cases vb:v=b;{exact⟨p,.inr (.inr ⟨rfl,.inr vb.symm⟩)⟩};·obtain⟨q,t⟩:=(g4 vb).2;exact⟨q,.inr (.inl t)⟩
theorem Jd.core{n:Nat}{E:Ed}{at_:aA->List Nat}(hA:At n E at_){Q:aA->Prop}{g:List Nat}(h:Jd n E Q g){p:aA}(hp:¬Q p)(hj:join g (at_ p)=none):∃F:Ed,(∀r q,F r q->r<n/\E r q/\(Q q\/q=p))/\Core F/\∃r q,F r q:=by
 obtain⟨u,hu,v,hv,huv,e⟩:=(BN hA p g h.len).2 hj;have eu:=(hA.mem u p).1 hu;have ev:=(hA.mem v p).1 hv;obtain⟨F,h1,h2,⟨qu,h3⟩,⟨qv,h4⟩⟩:=h.good u v eu.1 ev.1 huv e;have np:∀r q,F r q->q≠p:=λr q t e=>hp (e▸(h1 r q t).2.2);refine⟨λr q=>F r q\/(q=p/\(r=u\/r=v)),?_,⟨?_,?_⟩,u,p,.inr ⟨rfl,.inl rfl⟩⟩;{rintro r q(t|⟨rfl,rfl|rfl⟩);{exact⟨(h1 r q t).1,(h1 r q t).2.1,.inl (h1 r q t).2.2⟩};{exact⟨eu.1,eu.2,.inr rfl⟩};·exact⟨ev.1,ev.2,.inr rfl⟩};{rintro r q(t|⟨rfl,rfl|rfl⟩);{obtain⟨r',e,t'⟩:=h2.pt r q t;exact⟨r',e,.inl t'⟩};{exact⟨v,ab3 huv,.inr ⟨rfl,.inr rfl⟩⟩};·exact⟨u,huv,.inr ⟨rfl,.inl rfl⟩⟩};·rintro r q(t|⟨rfl,rfl|rfl⟩);{by_cases ru:r=u;{exact⟨p,ab3 (np r q t),.inr ⟨rfl,.inl ru⟩⟩};·by_cases rv:r=v;{exact⟨p,ab3 (np r q t),.inr ⟨rfl,.inr rv⟩⟩};·obtain⟨q',e,t'⟩:=h2.ring r q t ru rv;exact⟨q',e,.inl t'⟩};{exact⟨qu,np _ qu h3,.inl h3⟩};·exact⟨qv,np _ qv h4,.inl h4⟩
def Gq(l:Poly):Ed:=λr p=>place (cC l r) (jZ p)=1
theorem mC (l : Poly) : At l.length (Gq l) (dN l) where
  mem := by
    intro r p
    unfold dN Gq
    simp
  nd := by
    intro p
    unfold dN
    exact List.Pairwise.filter _ (List.nodup_range)
theorem Jd.mono{n:Nat}{E:Ed}{Q Q':aA->Prop}{g:List Nat}(h:Jd n E Q g)(k:∀p,Q p↔Q' p):Jd n E Q' g:=by
 have e:Q=Q':=funext λp=>propext (k p);rw[<-e];exact h
theorem Mk(l:Poly):∀(ps:List aA)(Q:aA->Prop)(g:List Nat),Jd l.length (Gq l) Q g->(∀p∈ps,¬Q p)->ps.Nodup->(sS l ps g=true->∃F:Ed,(∀r q,F r q->r<l.length/\Gq l r q/\(Q q\/q∈ps))/\Core F/\∃r q,F r q)/\(sS l ps g=false->∃g',Jd l.length (Gq l) (λq=>Q q\/q∈ps) g'):=by
 intro ps;induction ps with|nil=>intro Q g h _ _;refine⟨λe=>?_,λ_=>⟨g,h.mono (by simp)⟩⟩;simp[sS]at e|cons p t ih=>intro Q g h hq hnd;have hp:=hq p (by simp);rw[UP]at hnd;cases hj:join g (dN l p)with|none=>refine⟨λ_=>?_,λe=>by simp[sS,hj]at e⟩;obtain⟨F,h1,h2,h3⟩:=h.core (mC l) hp hj;refine⟨F,λr q t=>⟨(h1 r q t).1,(h1 r q t).2.1,?_⟩,h2,h3⟩;rcases(h1 r q t).2.2 with k|k;{exact .inl k};{exact .inr (by simp[k])}|some g'=>have h':=h.step (mC l) hp hj;have:=ih _ g' h' (by rintro q hq'(k|rfl);{exact hq q (by simp[hq']) k};·exact hnd.1 hq') hnd.2;have ew:sS l (p::t) g=sS l t g':=(by simp[sS,hj]);rw[ew];refine⟨λe=>?_,λe=>?_⟩;{obtain⟨F,h1,h2,h3⟩:=this.1 e;refine⟨F,λr q t=>⟨(h1 r q t).1,(h1 r q t).2.1,?_⟩,h2,h3⟩;rcases(h1 r q t).2.2 with(k|k)|k;{exact .inl k};{exact .inr (by simp[k])};·exact .inr (by simp[k])};·obtain⟨g'',k⟩:=this.2 e;exact⟨g'',k.mono (by intro q;simp[or_assoc])⟩
theorem wu(l:Poly):∀(ps:List aA)(a:List aA),a.Nodup->(∀p∈a,1<(dN l p).length)->(ps.foldl (kV l) a).Nodup/\∀q,q∈ps.foldl (kV l) a↔q∈a\/(q∈ps/\1<(dN l q).length):=by
 intro ps;induction ps with|nil=>intro a h _;exact⟨h,by simp⟩|cons p t ih=>intro a h h1;rw[aci];by_cases c:¬(p∈a)/\1<(dN l p).length;{rw[show kV l a p=a++[p]from mu c];have:=ih (a++[p]) (by rw[aaq];exact⟨h,by simp,by intro x hx y hy;simp at hy;subst hy;rintro rfl;exact c.1 hx⟩) (by intro q hq;rcases gd.1 hq with hq|hq;{exact h1 q hq};·simp at hq;subst hq;exact c.2);refine⟨this.1,λq=>?_⟩;rw[this.2 q];simp only[gd,v7,Is,afa,af6];constructor;{rintro((k|rfl)|k);{exact .inl k};{exact .inr ⟨.inl rfl,c.2⟩};·exact .inr ⟨.inr k.1,k.2⟩};·rintro(k|⟨rfl|k,k2⟩);{exact .inl (.inl k)};{exact .inl (.inr rfl)};·exact .inr ⟨k,k2⟩};·rw[show kV l a p=a from ef c];have:=ih a h h1;refine⟨this.1,λq=>?_⟩;rw[this.2 q];simp only[v7];constructor;{rintro(k|k);{exact .inl k};·exact .inr ⟨.inr k.1,k.2⟩};·rintro(k|⟨rfl|k,k2⟩);{exact .inl k};{by_cases hq:q∈a;{exact .inl hq};·exact absurd ⟨hq,k2⟩ c};·exact .inr ⟨k,k2⟩
theorem acN{n:Nat}{E:Ed}{f:aA->List Nat}(hA:At n E f){p:aA}{a b:Nat}(ha:a∈f p)(hb:b∈f p)(hab:a≠b):1<(f p).length:=by match hf:f p with|[]=>rw[hf]at ha;cases ha|[x]=>rw[hf]at ha hb;simp at ha hb;exact absurd (ha.trans hb.symm) hab|x::y::t=>simp
theorem EH{n a:Nat}(h:a<n):eG (List.range n) a=a:=by
 unfold eG;simp[mT,aaT h]
theorem BO(l:Poly):way l=true↔∃F:Ed,(∀r q,F r q->r<l.length/\Gq l r q/\q∈l.flatten)/\Core F/\∃r q,F r q:=by
 have ht:=wu l l.flatten [] aeG (by simp);have h0:Jd l.length (Gq l) (λ_=>False) (List.range l.length):=(by refine⟨by simp,by simp,?_,?_⟩;{intro F hF x _ r p h;exact(hF r p h).2.2};·intro a b ha hb hab e;rw[EH ha,EH hb]at e;exact absurd e hab);have key:=Mk l (jI l) _ _ h0 (by simp) ht.1;constructor;{intro h;obtain⟨F,h1,h2,h3⟩:=key.1 h;refine⟨F,λr q t=>⟨(h1 r q t).1,(h1 r q t).2.1,?_⟩,h2,h3⟩;rcases(h1 r q t).2.2 with k|k;{exact k.elim};·have:=(ht.2 q).1 k;simp only[afa,false_or]at this;exact this.1};·rintro⟨F,h1,h2,r,q,h3⟩;cases hw:way l with|true=>rfl|false=>exfalso;obtain⟨g,hg⟩:=key.2 hw;refine hg.no F ?_ 0 ⟨h2.pt,λr p t _ _=>h2.ring r p t⟩ r q h3;intro r p t;obtain⟨r',e,t'⟩:=h2.pt r p t;have a1:=h1 r p t;have a2:=h1 r' p t';refine⟨a1.1,a1.2.1,.inr ?_⟩;refine(ht.2 p).2 (.inr ⟨a1.2.2,?_⟩);exact acN (mC l) (((mC l).mem r p).2 ⟨a1.1,a1.2.1⟩) (((mC l).mem r' p).2 ⟨a2.1,a2.2.1⟩) (ab3 e)
theorem Jl(s t:bg):dw s t=dw t s:=by
 have e1:(if bI s.1 t.1 then t.1 else s.1)=(if bI t.1 s.1 then s.1 else t.1):=(by rcases mQ s.1 t.1 with h|h|h;{rw[mu h,ef (λk=>gN h k)]};{rw[h]};·rw[ef (λk=>gN h k),mu h]);have e2:(if bI t.2 s.2 then t.2 else s.2)=(if bI s.2 t.2 then s.2 else t.2):=(by rcases mQ s.2 t.2 with h|h|h;{rw[mu h,ef (λk=>gN h k)]};{rw[h]};·rw[ef (λk=>gN h k),mu h]);unfold dw;simp only;rw[e1,e2]
theorem yX(a b c d:aA):meet a b c d=meet c d a b:=by
 unfold meet;simp only;generalize sg (cr a b c 1)=x;generalize sg (cr a b d 1)=y;generalize sg (cr c d a 1)=z;generalize sg (cr c d b 1)=u;rw[Jl (fwd a b)];have e1:(x=0/\y=0/\z=0/\u=0)↔(z=0/\u=0/\x=0/\y=0):=(by omega);have e2:(x*y>0\/z*u>0)↔(z*u>0\/x*y>0):=Or.comm;have e3:x*y*z*u=z*u*x*y:=(by grind);rw[e3];simp only[e1,e2]
theorem ij(s t:bg):cI s t=cI t s:=yX _ _ _ _
theorem z6(s t:bg):cg s t=cg t s:=by
 unfold cg;rw[ij]
def jE:List bg->Bool->aL->Int|[],i,_=>if i then 1 else-1|s::t,i,p=>if on s.1 s.2 p.1 p.2 then 0 else jE t (if I9 s.1 s.2 p.1 p.2 then !i else i) p
def fK(r:Ring)(p:aL):Int:=jE (aB r) false p
def pl(k:Int):Int:=if k=0 then 1 else if k=1 then 2 else 0
theorem QJ:∀(l:List bg)(i:Bool)(p:aL),0<p.2->(∀s∈l,s.1≠s.2)->gw l i p=pl (jE l i p)/\(jE l i p=0\/jE l i p=1\/jE l i p=-1):=by
 intro l;induction l with|nil=>intro i p _ _;cases i<;>simp[gw,jE,pl]|cons s t ih=>intro i p hp hl;have hs:=hl s (by simp);have e:=kU (p:=p.1) (w:=p.2) hs hp;unfold gw jE hasB;by_cases h:has s.1 s.2 p.1 p.2;{rw[mu (dj h),mu (e.1 h)];simp[pl]};·rw[gx h,ef (λk=>h (e.2 k)),Ug hp];simp only[acy,aeE];exact ih _ p hp λx hx=>hl x (by simp[hx])
def eU(r:Ring):Prop:=∀s∈aB r,s.1≠s.2
theorem xA{r:Ring}{p:aL}(hr:eU r)(hp:0<p.2):place r p=pl (fK r p)/\(fK r p=0\/fK r p=1\/fK r p=-1):=QJ _ _ _ hp hr
def QK:Int->List Ring->aL->Int|s,[],_=>s|s,r::t,p=>if fK r p=0/\0<=s then 0 else if fK r p=1 then-1 else QK s t p
def QL:Poly->aL->Int|[],_=>0|r::t,p=>QK (fK r p) t p
theorem Jm:∀(t:List Ring)(s:Int)(f:Bool)(p:aL),0<p.2->(∀r∈t,eU r/\place r p≠1)->(s=1\/s=-1)->(f=true↔s=-1)->(iC t false f p=true↔QK s t p=-1):=by
 intro t;induction t with|nil=>intro s f p _ _ _ hf;exact hf|cons r t ih=>intro s f p hp hr hs hf;obtain⟨hl,AM⟩:=hr r (by simp);obtain⟨e1,e2⟩:=xA hl hp;have ht:∀r∈t,eU r/\place r p≠1:=λx hx=>hr x (by simp[hx]);unfold iC QK;rw[ef AM];rcases e2 with e|e|e;{exfalso;rw[e]at e1;exact AM e1};{rw[e]at e1;rw[ef (by omega),mu e];have e3:place r p=2:=e1;simp only[e3];have:∀(t:List Ring),(∀r∈t,eU r/\place r p≠1)->iC t false true p=true:=(by intro t;induction t with|nil=>intro _;rfl|cons r t ih=>intro h;unfold iC;rw[ef (h r (by simp)).2];simp only[Bool.true_or];exact ih λx hx=>h x (by simp[hx]));simp[this t ht]};·rw[e]at e1;rw[ef (by omega),ef (by omega)];have e3:place r p=0:=e1;simp only[e3];have:=ih s f p hp ht hs hf;simpa using this
theorem Zb{l:Poly}{p:aL}(hp:0<p.2)(hne:l≠[])(hr:∀r∈l,eU r/\place r p≠1):free l p=true↔QL l p=-1:=by cases l with|nil=>exact absurd rfl hne|cons r t=>obtain⟨hl,AM⟩:=hr r (by simp);obtain⟨e1,e2⟩:=xA hl hp;unfold free iC QL;rw[ef AM];rcases e2 with e|e|e;{exfalso;rw[e]at e1;exact AM e1};{rw[e]at e1;have e3:place r p=2:=e1;simp only[e3,e];exact Jm t 1 _ p hp (λx hx=>hr x (by simp[hx])) (.inl rfl) (by simp)};·rw[e]at e1;have e3:place r p=0:=e1;simp only[e3,e];exact Jm t (-1) _ p hp (λx hx=>hr x (by simp[hx])) (.inr rfl) (by simp)
theorem Ur(a b x y:aA):cr a b (bB x y).1 2=cr a b x 1+cr a b y 1:=by
 unfold cr bB;grind
theorem Ml:∀(l:List bg)(i:Bool)(p:aL),gw l i p=1↔∃s∈l,has s.1 s.2 p.1 p.2:=by
 intro l;induction l with|nil=>intro i p;cases i<;>simp[gw]|cons s t ih=>intro i p;unfold gw hasB;by_cases h:has s.1 s.2 p.1 p.2;{rw[mu (dj h)];simp[h]};·rw[gx h];simp only[acy,aeE];rw[ih];simp[h]
theorem aT{r:Ring}{p:aL}:place r p=1↔∃s∈aB r,has s.1 s.2 p.1 p.2:=Ml _ _ _
def Us(a b m:aA):Prop:=has a b m 2/\m≠(a.1*2,a.2*2)/\m≠(b.1*2,b.2*2)
theorem Gs{a b m:aA}(hab:a≠b)(h:Us a b m):0<dt a b m 2/\dt a b m 2<kk a b*2:=by
 have hk:=cO hab;obtain⟨h0,h1,h2⟩:=(kU hab (by omega)).1 h.1;have e1:dt a b m 2*(b.1-a.1)=(m.1-a.1*2)*kk a b:=(by unfold cr at h0;unfold dt kk;grind);have e2:dt a b m 2*(b.2-a.2)=(m.2-a.2*2)*kk a b:=(by unfold cr at h0;unfold dt kk;grind);have z:∀t:Int,0=t*kk a b->t=0:=(by intro t h;rcases BE.1 h.symm with h|h;{exact h};·omega);constructor;{rcases ad8 h1 with g|g;{exact g};·exfalso;rw[<-g,ab9]at e1 e2;have:=z _ e1;have:=z _ e2;exact h.2.1 (aaU (by simp only;omega) (by simp only;omega))};·rcases ad8 h2 with g|g;{exact g};·exfalso;have f1:0=(m.1-b.1*2)*kk a b:=(by rw[g]at e1;grind);have f2:0=(m.2-b.2*2)*kk a b:=(by rw[g]at e2;grind);have:=z _ f1;have:=z _ f2;exact h.2.2 (aaU (by simp only;omega) (by simp only;omega))
theorem weights{p q X Y:Int}(hp:0<p)(hq:0<q)(e:p*X+q*Y=0):(X=0/\Y=0)\/(0<X/\Y<0)\/(X<0/\0<Y):=by
 rcases aaf X 0 with h|h|h;{right;right;refine⟨h,?_⟩;have:=afT hp h;rcases Rd 0 Y with g|g;{exact g};·have:=Int.mul_nonpos_of_nonneg_of_nonpos (OR hq) g;omega};{left;refine⟨h,?_⟩;rw[h,DE,afX]at e;rcases BE.1 e with g|g;{omega};·exact g};·right;left;refine⟨h,?_⟩;have:=ag7 hp h;rcases Rd Y 0 with g|g;{exact g};·have:=aed (OR hq) g;omega
theorem EI{a b c d m:aA}(hcd:c≠d)(h1:cr a b m 2=0)(h2:Us c d m):(cr a b c 1=0/\cr a b d 1=0)\/(0<cr a b c 1/\cr a b d 1<0)\/(cr a b c 1<0/\0<cr a b d 1):=by
 obtain⟨g1,g2⟩:=Gs hcd h2;have h0:=h2.1.1;have e1:dt c d m 2*(d.1-c.1)=(m.1-c.1*2)*kk c d:=(by unfold cr at h0;unfold dt kk;grind);have e2:dt c d m 2*(d.2-c.2)=(m.2-c.2*2)*kk c d:=(by unfold cr at h0;unfold dt kk;grind);refine weights (p:=kk c d*2-dt c d m 2) (q:=dt c d m 2) (by omega) g1 ?_;generalize dt c d m 2=T at*;generalize kk c d=K at*;unfold cr at*;grind
theorem mD{a b c d:aA}(hab:a≠b)(h1:cr a b c 1=0)(h2:cr a b d 1=0):cr c d a 1=0/\cr c d b 1=0:=by
 have hk:=cO hab;have z:∀t:Int,kk a b*t=0->t=0:=(by intro t h;rcases BE.1 h with h|h;{omega};·exact h);constructor;{apply z;unfold cr at*;unfold kk;grind};·apply z;unfold cr at*;unfold kk;grind
theorem Mm(a b x:aA):dt a b (x.1*2,x.2*2) 2=2*pos a b x:=by
 unfold dt pos dt;grind
theorem Jn{a b c d m:aA}(hcd:c≠d)(h2:Us c d m):(2*pos a b c<dt a b m 2/\dt a b m 2<2*pos a b d)\/(2*pos a b d<dt a b m 2/\dt a b m 2<2*pos a b c)\/pos a b c=pos a b d:=by
 obtain⟨g1,g2⟩:=Gs hcd h2;have h0:=h2.1.1;have hk:=cO hcd;have e1:dt c d m 2*(d.1-c.1)=(m.1-c.1*2)*kk c d:=(by unfold cr at h0;unfold dt kk;grind);have e2:dt c d m 2*(d.2-c.2)=(m.2-c.2*2)*kk c d:=(by unfold cr at h0;unfold dt kk;grind);have e:dt c d m 2*(pos a b d-pos a b c)=kk c d*(dt a b m 2-2*pos a b c):=(by generalize dt c d m 2=T at*;generalize kk c d=K at*;unfold pos dt;grind);have e':(kk c d*2-dt c d m 2)*(pos a b d-pos a b c)=kk c d*(2*pos a b d-dt a b m 2):=(by have:(kk c d*2-dt c d m 2)*(pos a b d-pos a b c)=kk c d*2*(pos a b d-pos a b c)-dt c d m 2*(pos a b d-pos a b c):=(by grind);rw[this,e];grind);have g3:0<kk c d*2-dt c d m 2:=(by omega);have Y8:∀{p q A B:Int},0<p->0<q->p*A=q*B->(0<A->0<B)/\(A<0->B<0):=(by intro p q A B hp hq e;constructor;{intro hA;have:=ag7 hp hA;rw[e]at this;exact Int.pos_of_mul_pos_right this hq};·intro hA;have:=afT hp hA;rw[e]at this;rcases Rd B 0 with g|g;{exact g};·have:=aed (OR hq) g;omega);rcases aaf (pos a b d-pos a b c) 0 with h|h|h;{have k1:=(Y8 g1 hk e).2 h;have k2:=(Y8 g3 hk e').2 h;right;left;omega};{right;right;omega};·have k1:=(Y8 g1 hk e).1 h;have k2:=(Y8 g3 hk e').1 h;left;omega
theorem uE{a b c d m:aA}(hab:a≠b)(hcd:c≠d)(h1:Us a b m)(h2:Us c d m):meet a b c d=2\/meet a b c d=3:=by
 have s1:=EI hcd h1.1.1 h2;have s2:=EI hab h2.1.1 h1;have l1:=mD (c:=c) (d:=d) hab;have l2:=mD (c:=a) (d:=b) hcd;by_cases hz:cr a b c 1=0;{have hd:cr a b d 1=0:=(by omega);obtain⟨z1,z2⟩:=l1 hz hd;right;have hm:meet a b c d=dw (fwd a b) (fwd c d):=(by unfold meet;simp[hz,hd,z1,z2,sg]);rw[hm];obtain⟨p1,p2⟩:=Gs hab h1;have hb:=Jn (a:=a) (b:=b) hcd h2;have hne:pos a b c≠pos a b d:=λe=>hcd (j6 hab hz hd e);rw[xu hab hcd hz hd];have:count (kk a b) (min (pos a b c) (pos a b d)) (max (pos a b c) (pos a b d))=2:=(by unfold count;rw[ef (by omega),ef (by omega)]);simp[this]};·left;have t2:¬(cr c d a 1=0/\cr c d b 1=0):=λe=>hz (l2 e.1 e.2).1;have sp:∀{n:Int},0<n->sg n=1:=λh=>(by unfold sg;rw[mu h]);have sn:∀{n:Int},n<0->sg n=-1:=λh=>(by unfold sg;rw[ef (by omega),mu h]);rcases s1 with e|⟨x1,y1⟩|⟨x1,y1⟩;{exact absurd e.1 hz};{rcases s2 with e|⟨z1,u1⟩|⟨z1,u1⟩;{exact absurd e t2};{unfold meet;simp[sp x1,sn y1,sp z1,sn u1]};·unfold meet;simp[sp x1,sn y1,sn z1,sp u1]};·rcases s2 with e|⟨z1,u1⟩|⟨z1,u1⟩;{exact absurd e t2};{unfold meet;simp[sn x1,sp y1,sp z1,sn u1]};·unfold meet;simp[sn x1,sp y1,sn z1,sp u1]
theorem A6{a b:aA}(hab:a≠b){rings:Poly}{o:Ring}(ho:o∈rings)(hl:eU o){m:aL}(hm:m∈eO (a,b) rings)(hx:∀t∈aB o,cg (a,b) t=false):place o m≠1:=by
 intro h1;obtain⟨y,z,hc,rfl⟩:=(iO hab rings m).1 hm;obtain⟨t,ht,hh⟩:=aT.1 h1;have hh':has t.1 t.2 (bB y z).1 2:=hh;have py:=dz hab (cB hc.cx);have pz:=dz hab (cB hc.cy);have hlt:=hc.lt;have ep:dt a b (bB y z).1 2=pos a b y+pos a b z:=(by unfold bB pos dt;grind);have Ee:has a b (bB y z).1 2:=(by rw[kU hab (by omega)];refine⟨?_,by omega,by omega⟩;have:=Ur a b y z;rw[this,(cB hc.cx).1,(cB hc.cy).1];rfl);have i1:Us a b (bB y z).1:=(by refine⟨Ee,?_,?_⟩;{intro e;have:=Mm a b a;rw[<-e,ep,fh]at this;omega};·intro e;have:=Mm a b b;rw[<-e,ep,gL]at this;omega);have abE:∀c,c∈o->(bB y z).1≠(c.1*2,c.2*2):=(by intro c EJ e;have d2:=Mm a b c;rw[<-e,ep]at d2;have hcut:Cut a b rings.flatten c:=(by refine .inr (.inr ⟨By.2 ⟨o,ho,EJ⟩,?_⟩);rw[kU hab (by omega)];have g0:cr a b (c.1*2,c.2*2) 2=0:=e▸Ee.1;refine⟨?_,?_,?_⟩;{unfold cr at*;grind};{show 0<=pos a b c;omega};·show pos a b c<=_;omega);exact hc.no c hcut ⟨by omega,by omega⟩);have i2:Us t.1 t.2 (bB y z).1:=⟨hh',abE _ (bF ht).1,abE _ (bF ht).2⟩;have:=uE hab (hl t ht) i1 i2;have hf:=hx t ht;unfold cg cI at hf;simp only[abA,abR]at hf;rcases this with e|e;{exact hf.1 e};·exact hf.2 e
def o5(r:Ring):Bool:=anyI (r.length-1) λi=>anyI i λj=>decide (aj r i=aj r j)
def nQ(n i j:Nat):Bool:=decide (j+1=i)||(decide (j=0)&&decide (i+1=n))
def ko(next:Bool)(k:Int):Bool:=(next&&decide (k≠1))||(!next&&decide (k≠0))
def z8(r:Ring):Bool:=anyI (r.length-1) λi=>anyI i λj=>ko (nQ (r.length-1) i j) (common (aj r i) (aj r (i+1)) (aj r j) (aj r (j+1))).1
def kW(r:Ring):Bool:=!(o5 r||z8 r)
def rF(s t:bg):Bool:=decide ((common s.1 s.2 t.1 t.2).1=2)||(common s.1 s.2 t.1 t.2).2
def gH(a b:Ring):Bool:=!((aB a).any λs=>(aB b).any λt=>rF s t)
def ot(r:Ring)(q:Poly)(k:Int):Bool:=!((aB r).any λs=>(wm s.1 s.2 q).any λm=>decide (QL q m≠k))
structure Shut(r:Ring):Prop where
 len:4<=r.length
 eq:aj r 0=aj r (r.length-1)
theorem aG{r:Ring}{i:Nat}(h:i<r.length):r[i]?=some (aj r i):=by
 unfold aj;rw[mT,AI h];rfl
theorem A7{r:Ring}{i:Nat}(h:i+1<r.length):Eb (aB r) i=(aj r i,aj r (i+1)):=by
 unfold Eb;rw[mT,cN (aG (by omega)) (aG h)];rfl
theorem iX{r:Ring}{s:bg}(h:s∈aB r):∃i,i+1<r.length/\s=(aj r i,aj r (i+1)):=by
 obtain⟨i,hi,e⟩:=aer h;rw[b8]at hi;have hi':i+1<r.length:=(by omega);refine⟨i,hi',?_⟩;have:=cN (aG (show i<r.length by omega)) (aG hi');rw[AI (by rw[b8];exact hi)]at this;rw[<-e];exact DP this
theorem fF{r:Ring}:twice r=true↔∃i j,1<=i/\i<j/\j<r.length/\aj r i=aj r j:=by
 unfold twice;rw[di];constructor;{rintro⟨i,hi,h⟩;simp only[RC,KK,di]at h;obtain⟨h1,j,hj,h2,h3⟩:=h;rw[aG hi,aG hj]at h3;exact⟨i,j,h1,h2,hj,DP h3⟩};·rintro⟨i,j,h1,h2,h3,h4⟩;refine⟨i,by omega,?_⟩;simp only[RC,KK,di];exact⟨h1,j,h3,h2,by rw[aG (show i<r.length by omega),aG h3,h4]⟩
theorem Mn{r:Ring}:o5 r=true↔∃i j,j<i/\i<r.length-1/\aj r i=aj r j:=by
 unfold o5;rw[di];constructor;{rintro⟨i,hi,h⟩;simp only[di,KK]at h;obtain⟨j,hj,e⟩:=h;exact⟨i,j,hj,hi,e⟩};·rintro⟨i,j,h1,h2,h3⟩;refine⟨i,h2,?_⟩;simp only[di,KK];exact⟨j,h1,h3⟩
theorem iP{a b:Bool}(h:a=true↔b=true):a=b:=by cases a<;>cases b<;>simp_all
theorem Jo{r:Ring}(h:Shut r):twice r=o5 r:=by
 apply iP;rw[fF,Mn];have h4:=h.len;constructor;{rintro⟨i,j,h1,h2,h3,e⟩;by_cases hj:j=r.length-1;{exact⟨i,0,by omega,by omega,by rw[h.eq,e,hj]⟩};·exact⟨j,i,h2,by omega,e.symm⟩};·rintro⟨i,j,h1,h2,e⟩;by_cases hj:j=0;{exact⟨i,r.length-1,by omega,by omega,by omega,by rw[e,hj,h.eq]⟩};·exact⟨j,i,by omega,h1,by omega,e.symm⟩
theorem Gt{r:Ring}(h:Shut r)(ht:twice r=false):eU r:=by
 intro s hs e;obtain⟨i,hi,rfl⟩:=iX hs;have h4:=h.len;have:twice r=true:=(by rw[fF];by_cases h0:i=0;{subst h0;exact⟨1,r.length-1,by omega,by omega,by omega,by rw[<-h.eq];exact e.symm⟩};·exact⟨i,i+1,by omega,by omega,hi,e⟩);rw[ht]at this;cases this
theorem acO{A B C:Prop}[Decidable A][Decidable B][Decidable C]{k:Int}{d:Bool}(h:(if A then(if B then((0:Int),false)else(k,false))else if C then(0,false)else(1,d)).2=true):(if A then(if B then((0:Int),false)else(k,false))else if C then(0,false)else(1,d)).1=1:=by by_cases hA:A<;>by_cases hB:B<;>by_cases hC:C<;>simp_all
theorem acP{A B C:Prop}[Decidable A][Decidable B][Decidable C]{k:Int}{d:Bool}(hk:k=0\/k=1\/k=2):(if A then(if B then((0:Int),false)else(k,false))else if C then(0,false)else(1,d)).1=0\/(if A then(if B then((0:Int),false)else(k,false))else if C then(0,false)else(1,d)).1=1\/(if A then(if B then((0:Int),false)else(k,false))else if C then(0,false)else(1,d)).1=2:=by by_cases hA:A<;>by_cases hB:B<;>by_cases hC:C<;>simp_all
theorem xB{a b c d:aA}(h:(common a b c d).2=true):(common a b c d).1=1:=acO h
theorem count_range(k p q:Int):count k p q=0\/count k p q=1\/count k p q=2:=by
 unfold count;split;{simp};·split<;>simp
theorem xC(a b c d:aA):(common a b c d).1=0\/(common a b c d).1=1\/(common a b c d).1=2:=acP (count_range _ _ _)
theorem jK{a b c d:aA}(h:cr a b c 1=0\/cr a b d 1=0):meet a b c d≠2:=by
 have hl:∀s t,dw s t≠2:=(by intro s t;unfold dw;simp only;split;{omega};·split<;>omega);unfold meet;simp only;split;{exact hl _ _};·split;{omega};·have:sg (cr a b c 1)*sg (cr a b d 1)*sg (cr c d a 1)*sg (cr c d b 1)=0:=(by rcases h with h|h;{rw[h];simp[sg]};·rw[h];simp[sg]);rw[mu this];omega
theorem Ut{s t:bg}(hs:s.1≠s.2)(ht:t.1≠t.2):cg s t=rF s t:=by
 unfold cg rF cI;rw[zZ hs ht];have hr:=xC s.1 s.2 t.1 t.2;have hc:=xB (a:=s.1) (b:=s.2) (c:=t.1) (d:=t.2);unfold how;cases h2:(common s.1 s.2 t.1 t.2).2 with|true=>rw[hc h2];simp|false=>rcases hr with e|e|e<;>rw[e]<;>simp
theorem acQ{a b c d:aA}(hab:a≠b)(hcd:c≠d){next:Bool}(hn:next=true->cr a b c 1=0\/cr a b d 1=0):ko next (common a b c d).1=decide (meet a b c d≠if next then 1 else 0):=by
 have hm:=zZ hab hcd;have hr:=xC a b c d;have hc:=xB (a:=a) (b:=b) (c:=c) (d:=d);have hs:=jK (a:=a) (b:=b) (c:=c) (d:=d);unfold ko;cases h2:(common a b c d).2 with|true=>have e:=hc h2;have hm2:meet a b c d=2:=(by rw[hm];unfold how;rw[h2,e];simp);(cases next with|true=>exact absurd hm2 (hs (hn rfl))|false=>rw[hm2,e];simp)|false=>rcases hr with e|e|e;{have hm2:meet a b c d=0:=(by rw[hm];unfold how;rw[h2,e];simp);cases next<;>simp[hm2,e]};{have hm2:meet a b c d=1:=(by rw[hm];unfold how;rw[h2,e];simp);cases next<;>simp[hm2,e]};·have hm2:meet a b c d=3:=(by rw[hm];unfold how;rw[h2,e];simp);cases next<;>simp[hm2,e]
theorem Zc{r:Ring}(h:Shut r)(hl:eU r):jj r=z8 r:=by
 have h4:=h.len;have key:∀i j,j<i->i<r.length-1->ko (nQ (r.length-1) i j) (common (aj r i) (aj r (i+1)) (aj r j) (aj r (j+1))).1=decide (cI (Eb (aB r) j) (Eb (aB r) i)≠kF (aB r).length j i):=(by intro i j hji hi;have e1:=A7 (r:=r) (i:=i) (by omega);have e2:=A7 (r:=r) (i:=j) (by omega);have l1:aj r i≠aj r (i+1):=hl (aj r i,aj r (i+1)) (So (cN (aG (by omega)) (aG (by omega))));have l2:aj r j≠aj r (j+1):=hl (aj r j,aj r (j+1)) (So (cN (aG (by omega)) (aG (by omega))));rw[e1,e2,ij];unfold cI;simp only;rw[acQ l1 l2 ?_];{have ew:(if nQ (r.length-1) i j=true then(1:Int)else 0)=kF (aB r).length j i:=(by unfold nQ kF;rw[b8];by_cases c:j+1=i\/(j=0/\i+1=r.length-1);{rw[mu c,mu];simpa using c};·rw[ef c,ef];simpa using c);rw[ew]};·intro hn;unfold nQ at hn;simp only[abY,RC,KK]at hn;rcases hn with e|⟨e,e'⟩;{right;rw[e];exact ni _ _};·left;subst e;rw[h.eq,show r.length-1=i+1 by omega];exact mw _ _);apply iP;unfold jj z8;rw[di,di,b8];constructor;{rintro⟨j,hj,k⟩;rw[di]at k;obtain⟨i,hi,k⟩:=k;refine⟨j,hj,?_⟩;rw[di];refine⟨i,hi,?_⟩;rw[key j i hi hj,b8];exact k};·rintro⟨j,hj,k⟩;rw[di]at k;obtain⟨i,hi,k⟩:=k;refine⟨j,hj,?_⟩;rw[di];refine⟨i,hi,?_⟩;rw[key j i hi hj,b8]at k;exact k
theorem Uu{r:Ring}(h:Shut r):(twice r||jj r)=(o5 r||z8 r):=by
 rw[Jo h];cases ht:o5 r with|true=>rfl|false=>rw[Zc h (Gt h (by rw[Jo h];exact ht))]
def d1(m:aF):Bool:=m.any λl=>l.any λr=>!(kW r)
def d2(m:aF):Bool:=m.any λl=>anyI l.length λi=>anyI l.length λj=>decide (j≠i)&&!(gH (cC l i) (cC l j))
def nestD(j:Nat):Int:=if j=0 then 1 else-1
def d3(m:aF):Bool:=m.any λl=>anyI l.length λi=>decide (1<=i)&&anyI l.length λj=>decide (j≠i)&&!(ot (cC l i) [cC l j] (nestD j))
def d5(m:aF):Bool:=anyI m.length λp=>(b9 m p).any λr=>anyI m.length λk=>decide (k≠p)&&((b9 m k).any (λs=>!(gH r s))||!(ot r (b9 m k) (-1)))
def rG(l:Poly):Prop:=∃F:Ed,(∀r q,F r q->r<l.length/\fK (cC l r) (jZ q)=0/\q∈l.flatten)/\Core F/\∃r q,F r q
structure Good(m:aF):Prop where
 ne:∀l∈m,l≠[]
 shut:∀l∈m,∀r∈l,Shut r
theorem j7{m:aF}(h:Pl.wrong m=0):Good m:=by
 have hb:m.any Pl.mZ=false:=(by unfold Pl.wrong at h;split at h;{omega};·split at h;{omega};·rename_i k;simpa using k);have one:∀l∈m,Pl.mZ l=false:=(by intro l hl;cases hx:Pl.mZ l with|false=>rfl|true=>rw[AF.2 ⟨l,hl,hx⟩]at hb;cases hb);refine⟨λl hl e=>?_,λl hl r hr=>?_⟩;{have:=one l hl;unfold Pl.mZ at this;rw[e]at this;simp at this};·have:=one l hl;unfold Pl.mZ at this;simp only[abA]at this;have uF:Pl.pQ r=false:=(by cases hx:Pl.pQ r with|false=>rfl|true=>have e:Pl.BG l=true:=AF.2 ⟨r,hr,hx⟩;rw[e]at this;cases this.2);unfold Pl.pQ at uF;simp only[abA,abR,Bool.not_eq_false',KK]at uF;have h4:4<=r.length:=(by omega);refine⟨h4,?_⟩;have e:=uF.2;rw[afb,aeL,aG (by omega),aG (by omega)]at e;exact DP e
theorem aW{l:Poly}{i:Nat}(h:i<l.length):cC l i∈l:=by
 unfold cC;rw[mT,AI h];simp
theorem aJ{m:aF}{i:Nat}(h:i<m.length):b9 m i∈m:=by
 unfold b9;rw[mT,AI h];simp
theorem any_congr{α:Type}{l:List α}{f g:α->Bool}(h:∀x∈l,f x=g x):l.any f=l.any g:=by induction l with|nil=>rfl|cons a t ih=>rw[af4,af4,h a (by simp),ih λx hx=>h x (by simp[hx])]
theorem ir{n:Nat}{f g:Nat->Bool}(h:∀i,i<n->f i=g i):anyI n f=anyI n g:=any_congr λx hx=>h x (DS.1 hx)
theorem agh{m:aF}(h:Good m):gT 1 m=d1 m:=by
 unfold gT d1;refine any_congr λl hl=>?_;unfold iZ simple;simp only[afq,ad9];refine any_congr λr hr=>?_;rw[Uu (h.shut l hl r hr)];unfold kW;simp
theorem Uv{m:aF}(h:Good m)(h1:gT 1 m=false):∀l∈m,∀r∈l,eU r:=by
 intro l hl r hr;have:(twice r||jj r)=false:=(by cases hx:(twice r||jj r)with|false=>rfl|true=>have:gT 1 m=true:=(by unfold gT;refine AF.2 ⟨l,hl,?_⟩;unfold iZ simple;simp only[afq,ad9];exact AF.2 ⟨r,hr,hx⟩);rw[h1]at this;cases this);rw[abA]at this;exact Gt (h.shut l hl r hr) this.1
theorem yY{a b:Ring}(ha:eU a)(hb:eU b):gH a b=!(aX a b):=by
 unfold gH aX;congr 1;refine any_congr λs hs=>any_congr λt ht=>?_;rw[Ut (ha s hs) (hb t ht)]
theorem wA(a b:Ring):aX a b=aX b a:=by
 apply iP;unfold aX;simp only[AF];constructor;{rintro⟨s,hs,t,ht,h⟩;exact⟨t,ht,s,hs,by rw[z6];exact h⟩};·rintro⟨s,hs,t,ht,h⟩;exact⟨t,ht,s,hs,by rw[z6];exact h⟩
theorem Uw{n:Nat}{f:Nat->Nat->Bool}(hs:∀i j,f i j=f j i):(anyI n λj=>anyI j λi=>f i j)=anyI n λi=>anyI n λj=>decide (j≠i)&&f i j:=by
 apply iP;simp only[di,RC,KK];constructor;{rintro⟨j,hj,i,hi,h⟩;exact⟨i,by omega,j,hj,by omega,h⟩};·rintro⟨i,hi,j,hj,hne,h⟩;rcases NO i j with k|k;{exact⟨j,hj,i,k,h⟩};·exact⟨i,hi,j,by omega,by rw[hs];exact h⟩
theorem agi{m:aF}(hl:∀l∈m,∀r∈l,eU r):gT 2 m=d2 m:=by
 unfold gT d2;refine any_congr λl h=>?_;unfold iZ touch;simp only[ad9,afq];rw[ef (by decide),ad9,Uw (f:=λi j=>aX (cC l i) (cC l j)) (λi j=>wA _ _)];refine ir λi hi=>ir λj hj=>?_;rw[yY (hl l h _ (aW hi)) (hl l h _ (aW hj)),ad9]
theorem abF{s:bg}{q:Poly}{m:aL}(hs:s.1≠s.2)(h:m∈eO s q):m.2=2:=by
 obtain⟨y,z,-,rfl⟩:=(iO hs q m).1 h;rfl
theorem Zd{r o:Ring}(hr:eU r)(ho:eU o){k k':Int}(hk:(k=1/\k'=2)\/(k=-1/\k'=0)):lies r o k'=ot r [o] k:=by
 unfold lies ot;congr 1;refine any_congr λs hs=>?_;apply iP;simp only[AF,KK];have OP:=hr s hs;have one:∀m:aL,m∈eO s [o]->(place o m≠k'↔QL [o] m≠k):=(by intro m hm;have hw:=abF OP hm;obtain⟨e1,e2⟩:=xA (p:=m) ho (by omega);show place o m≠k'↔fK o m≠k;rw[e1];unfold pl;rcases e2 with e|e|e<;>rw[e]<;>rcases hk with⟨rfl,rfl⟩|⟨rfl,rfl⟩<;>simp);constructor;{rintro⟨m,hm,h⟩;exact⟨m,(uD OP _ m).1 hm,(one m hm).1 h⟩};·rintro⟨m,hm,h⟩;have hm':=(uD OP _ m).2 hm;exact⟨m,hm',(one m hm').2 h⟩
theorem agj{m:aF}(hl:∀l∈m,∀r∈l,eU r):gT 3 m=d3 m:=by
 unfold gT d3;refine any_congr λl h=>?_;unfold iZ nested;rw[ef (by decide),ef (by decide),mu rfl,ad9];refine ir λi hi=>?_;congr 1;refine ir λj hj=>?_;rw[Zd (hl l h _ (aW hi)) (hl l h _ (aW hj)) (k:=nestD j) (k':=jD j) (by unfold nestD jD;split<;>simp)];congr 1;exact IS.2 ⟨λe=>ab3 e,λe=>ab3 e⟩
theorem Ze{l:Poly}(hl:∀r∈l,eU r):way l=true↔rG l:=by
 rw[BO];have e:∀r p,r<l.length->(Gq l r p↔fK (cC l r) (jZ p)=0):=(by intro r p hr;obtain⟨e1,e2⟩:=xA (r:=cC l r) (p:=jZ p) (hl _ (aW hr)) (by show(0:Int)<1;omega);unfold Gq;rw[e1];unfold pl;rcases e2 with e|e|e<;>rw[e]<;>simp);constructor;{rintro⟨F,h1,h2⟩;exact⟨F,λr q t=>⟨(h1 r q t).1,(e r q (h1 r q t).1).1 (h1 r q t).2.1,(h1 r q t).2.2⟩,h2⟩};·rintro⟨F,h1,h2⟩;exact⟨F,λr q t=>⟨(h1 r q t).1,(e r q (h1 r q t).1).2 (h1 r q t).2.1,(h1 r q t).2.2⟩,h2⟩
theorem EK{a b:Poly}(hb0:b≠[])(ha:∀r∈a,eU r)(hb:∀r∈b,eU r)(hx:eV a b=false):enters a b=a.any λr=>!(ot r b (-1)):=by
 unfold enters;refine any_congr λr hr=>?_;unfold ot;rw[ad9];refine any_congr λs hs=>?_;have OP:=ha r hr s hs;have off:∀m∈eO s b,∀o∈b,place o m≠1:=(by intro m hm o ho;refine A6 OP ho (hb o ho) hm λt ht=>?_;cases hc:cg (s.1,s.2) t with|false=>rfl|true=>have:eV a b=true:=(by unfold eV;refine AF.2 ⟨r,hr,AF.2 ⟨o,ho,?_⟩⟩;unfold aX;exact AF.2 ⟨s,hs,AF.2 ⟨t,ht,hc⟩⟩);rw[hx]at this;cases this);have one:∀m∈eO s b,(free b m=false↔QL b m≠-1):=(by intro m hm;have hw:=abF OP hm;have:=Zb (l:=b) (p:=m) (by omega) hb0 λr hr=>⟨hb r hr,off m hm r hr⟩;constructor;{intro e e2;rw[this.2 e2]at e;cases e};·intro e;cases hf:free b m with|false=>rfl|true=>exact absurd (this.1 hf) e);apply iP;simp only[AF,afn,KK];constructor;{rintro⟨m,hm,h⟩;exact⟨m,(uD OP _ m).1 hm,(one m hm).1 h⟩};·rintro⟨m,hm,h⟩;have hm':=(uD OP _ m).2 hm;exact⟨m,hm',(one m hm').2 h⟩
def half(a b:Poly):Bool:=a.any λr=>b.any (λs=>!(gH r s))||!(ot r b (-1))
theorem Zf{a b:Poly}(ha0:a≠[])(hb0:b≠[])(ha:∀r∈a,eU r)(hb:∀r∈b,eU r):(eV a b||enters a b||enters b a)=(half a b||half b a):=by
 have hs:eV a b=eV b a:=(by apply iP;unfold eV;simp only[AF];constructor;{rintro⟨r,hr,o,ho,h⟩;exact⟨o,ho,r,hr,by rw[wA];exact h⟩};·rintro⟨r,hr,o,ho,h⟩;exact⟨o,ho,r,hr,by rw[wA];exact h⟩);have pt:∀{a b:Poly},(∀r∈a,eU r)->(∀r∈b,eU r)->half a b=(eV a b||a.any λr=>!(ot r b (-1))):=(by intro a b ha hb;apply iP;unfold half eV;simp only[AF,abY];constructor;{rintro⟨r,hr,⟨s,hs,h⟩|h⟩;{rw[yY (ha r hr) (hb s hs),ad9]at h;exact .inl ⟨r,hr,s,hs,h⟩};·exact .inr ⟨r,hr,h⟩};·rintro(⟨r,hr,s,hs,h⟩|⟨r,hr,h⟩);{exact⟨r,hr,.inl ⟨s,hs,by rw[yY (ha r hr) (hb s hs),ad9];exact h⟩⟩};·exact⟨r,hr,.inr h⟩);rw[pt ha hb,pt hb ha,<-hs];cases hx:eV a b with|true=>rfl|false=>rw[EK hb0 ha hb hx,EK ha0 hb ha (hs▸hx)];simp
theorem agk{m:aF}(hg:Good m)(hl:∀l∈m,∀r∈l,eU r):gG m=d5 m:=by
 have e1:gG m=anyI m.length λj=>anyI j λi=>(half (b9 m i) (b9 m j)||half (b9 m j) (b9 m i)):=(by unfold gG;refine ir λj hj=>ir λi hi=>?_;exact Zf (hg.ne _ (aJ (by omega))) (hg.ne _ (aJ hj)) (hl _ (aJ (by omega))) (hl _ (aJ hj)));rw[e1];apply iP;unfold d5 half;simp only[di,AF,RC,KK,abY];constructor;{rintro⟨j,hj,i,hi,⟨r,hr,h⟩|⟨r,hr,h⟩⟩;{exact⟨i,by omega,r,hr,j,hj,by omega,h⟩};·exact⟨j,hj,r,hr,i,by omega,by omega,h⟩};·rintro⟨p,hp,r,hr,k,hk,hne,h⟩;rcases NO p k with g|g;{exact⟨k,hk,p,g,.inl ⟨r,hr,h⟩⟩};·exact⟨p,hp,k,by omega,.inr ⟨r,hr,h⟩⟩
end Vd
def mR(A:Int)(u:aA):Prop:=(-A<=u.1/\u.1<=A)/\-A<=u.2/\u.2<=A
theorem iw{p:aA}(h:Vd.Cd p):mR 32768 p:=by
 unfold Vd.Cd at h;unfold mR;omega
theorem dS{A B:Int}{u:aA}(h:mR A u)(k:A<=B):mR B u:=by
 unfold mR at*;omega
namespace Vd
theorem pp{x y:Int}(hx:0<x)(hy:0<y):0<x*y:=ag7 hx hy
theorem pn{x y:Int}(hx:0<x)(hy:y<0):x*y<0:=afT hx hy
theorem np{x y:Int}(hx:x<0)(hy:0<y):x*y<0:=afS hx hy
theorem OQ{x y:Int}(hx:x<0)(hy:y<0):0<x*y:=Int.mul_pos_of_neg_of_neg hx hy
theorem p0{x y:Int}(hx:0<=x)(hy:0<=y):0<=x*y:=aed hx hy
theorem m0{x y:Int}(hx:0<=x)(hy:y<=0):x*y<=0:=Int.mul_nonpos_of_nonneg_of_nonpos hx hy
theorem n0{x y:Int}(hx:x<=0)(hy:0<=y):x*y<=0:=Int.mul_nonpos_of_nonpos_of_nonneg hx hy
theorem q0{x y:Int}(hx:x<=0)(hy:y<=0):0<=x*y:=Int.mul_nonneg_of_nonpos_of_nonpos hx hy
theorem bT{u P z:Int}(hu:0<u)(e:u*P=z):(0<P↔0<z)/\(P<0↔z<0)/\(P=0↔z=0):=by
 rcases aaf P 0 with h|h|h;{have:=pn hu h;omega};{have:u*P=0:=(by rw[h];simp);omega};·have:=pp hu h;omega
def iG(A B:Int):Prop:=(A<0/\0<B)\/(0<A/\B<0)
instance(A B:Int):Decidable (iG A B):=by
 unfold iG;infer_instance
theorem xD{A B:Int}:iG A B↔iG B A:=by
 unfold iG;omega
theorem Gu{A B:Int}:iG (-A) (-B)↔iG A B:=by
 unfold iG;omega
theorem OS{u A B a b P Q:Int}(hu:0<u)(hab:a<=b)(e1:u*P=B*a-A*b)(e2:u*Q=B*(a-u)-A*(b-u))(h1:0<a->a<=u->A≠0)(h2:0<b->b<=u->B≠0)(h3:(a<=0/\0<b)\/(b<=0/\0<a)->P≠0)(h4:(a<=u/\u<b)\/(b<=u/\u<a)->Q≠0)(h5:a=u->b=u->¬iG A B):(((a<=0/\0<b/\0<P)\/(b<=0/\0<a/\P<0))↔((a<=u/\u<b/\0<Q)\/(b<=u/\u<a/\Q<0)))↔¬((iG A B/\iG P Q)↔((0<a/\a<=u/\A<0)↔(0<b/\b<=u/\B<0))):=by
 obtain⟨P1,P2,P3⟩:=bT hu e1;obtain⟨Q1,Q2,Q3⟩:=bT hu e2;clear e1 e2;by_cases zb:b<=0;{have n:¬(iG A B/\iG P Q):=(by rintro⟨k|k,k2⟩;{have:=m0 (OR k.2) (show a<=0 by omega);have:=q0 (OR k.1) zb;have:=m0 (OR k.2) (show a-u<=0 by omega);have:=q0 (OR k.1) (show b-u<=0 by omega);unfold iG at k2;omega};·have:=q0 (OR k.2) (show a<=0 by omega);have:=m0 (OR k.1) zb;have:=q0 (OR k.2) (show a-u<=0 by omega);have:=m0 (OR k.1) (show b-u<=0 by omega);unfold iG at k2;omega);simp only[n,false_iff];clear n h5;constructor;{intro _;omega};·intro _;omega};by_cases za:u<a;{have n:¬(iG A B/\iG P Q):=(by rintro⟨k|k,k2⟩;{have:=p0 (OR k.2) (show 0<=a by omega);have:=n0 (OR k.1) (show 0<=b by omega);have:=p0 (OR k.2) (show 0<=a-u by omega);have:=n0 (OR k.1) (show 0<=b-u by omega);unfold iG at k2;omega};·have:=n0 (OR k.2) (show 0<=a by omega);have:=p0 (OR k.1) (show 0<=b by omega);have:=n0 (OR k.2) (show 0<=a-u by omega);have:=p0 (OR k.1) (show 0<=b-u by omega);unfold iG at k2;omega);simp only[n,false_iff];clear n h5;constructor;{intro _;omega};·intro _;omega};by_cases ya:0<a;·have hA:=h1 ya (by omega);by_cases yb:b<=u;{have hB:=h2 (by omega) yb;have d:iG A B->iG P Q:=(by intro k;have k5:=λe1 e2=>h5 e1 e2 k;rcases k with k|k;{have:=pp k.2 ya;have:=np k.1 (show 0<b by omega);have:0<P:=P1.2 (by omega);rcases ad8 (show a<=u by omega)with g|g;{have:=pn k.2 (show a-u<0 by omega);have:=q0 (OR k.1) (show b-u<=0 by omega);have:Q<0:=Q2.2 (by omega);unfold iG;omega};·exact absurd (show b=u by omega) (k5 g)};·have:=np k.2 ya;have:=pp k.1 (show 0<b by omega);have:P<0:=P2.2 (by omega);rcases ad8 (show a<=u by omega)with g|g;{have:=OQ k.2 (show a-u<0 by omega);have:=m0 (OR k.1) (show b-u<=0 by omega);have:0<Q:=Q1.2 (by omega);unfold iG;omega};·exact absurd (show b=u by omega) (k5 g));have e:(iG A B/\iG P Q)↔iG A B:=⟨λk=>k.1,λk=>⟨k,d k⟩⟩;rw[e];clear d e h5 P1 P2 P3 Q1 Q2 Q3 h3 h4;unfold iG;omega};·have hQ:=h4 (by omega);have e:(iG A B/\iG P Q)↔((A<0/\Q<0)\/(0<A/\0<Q)):=(by rcases acu hA with k|k;{have t1:=np k (show 0<b by omega);have t2:=np k (show 0<b-u by omega);constructor;{rintro⟨o1|o1,o2⟩;{have:=pp o1.2 ya;have:0<P:=P1.2 (by omega);unfold iG at o2;omega};·omega};·intro o;have hq:Q<0:=(by omega);have hB:0<B:=(by rcases Rd 0 B with g|g;{exact g};·have:=q0 g (show a-u<=0 by omega);have:=Q2.1 hq;omega);have:=pp hB ya;have:0<P:=P1.2 (by omega);unfold iG;omega};·have t1:=pp k (show 0<b by omega);have t2:=pp k (show 0<b-u by omega);constructor;{rintro⟨o1|o1,o2⟩;{omega};·have:=np o1.2 ya;have:P<0:=P2.2 (by omega);unfold iG at o2;omega};·intro o;have hq:0<Q:=(by omega);have hB:B<0:=(by rcases Rd B 0 with g|g;{exact g};·have:=m0 g (show a-u<=0 by omega);have:=Q1.1 hq;omega);have:=np hB ya;have:P<0:=P2.2 (by omega);unfold iG;omega);rw[e];clear e h5 P1 P2 P3 Q1 Q2 Q3 h3 h4;omega
 ·by_cases yb:b<=u;{have hB:=h2 (by omega) yb;have hP:=h3 (by omega);have e:(iG A B/\iG P Q)↔((B<0/\P<0)\/(0<B/\0<P)):=(by rcases acu hB with k|k;{have t1:=q0 (OR k) (show a<=0 by omega);have t2:=OQ k (show a-u<0 by omega);constructor;{rintro⟨o1|o1,o2⟩;{omega};·have:=m0 (OR o1.1) (show b-u<=0 by omega);have:0<Q:=Q1.2 (by omega);unfold iG at o2;omega};·intro o;have hp:P<0:=(by omega);have hA:0<A:=(by rcases Rd 0 A with g|g;{exact g};·have:=n0 g (show 0<=b by omega);have:=P2.1 hp;omega);have:=m0 (OR hA) (show b-u<=0 by omega);have:0<Q:=Q1.2 (by omega);unfold iG;omega};·have t1:=m0 (OR k) (show a<=0 by omega);have t2:=pn k (show a-u<0 by omega);constructor;{rintro⟨o1|o1,o2⟩;{have:=q0 (OR o1.1) (show b-u<=0 by omega);have:Q<0:=Q2.2 (by omega);unfold iG at o2;omega};·omega};·intro o;have hp:0<P:=(by omega);have hA:A<0:=(by rcases Rd A 0 with g|g;{exact g};·have:=p0 g (show 0<=b by omega);have:=P1.1 hp;omega);have:=q0 (OR hA) (show b-u<=0 by omega);have:Q<0:=Q2.2 (by omega);unfold iG;omega);rw[e];clear e h5 P1 P2 P3 Q1 Q2 Q3 h3 h4;omega};·have hP:=h3 (by omega);have hQ:=h4 (by omega);have d:iG P Q->iG A B:=(by rintro(k|k);{have f1:=P2.1 k.1;have f2:=Q1.1 k.2;have hA:0<A:=(by rcases Rd 0 A with g|g;{exact g};·have:=n0 g (show 0<=b by omega);have hB:0<B:=(by rcases Rd 0 B with g2|g2;{exact g2};·have:=q0 g2 (show a<=0 by omega);omega);have:=m0 (OR hB) (show a-u<=0 by omega);have:B*a-B*(a-u)=B*u:=(by rw[<-afQ];congr 1;omega);have:A*b-A*(b-u)=A*u:=(by rw[<-afQ];congr 1;omega);have:=pp hB hu;have:=n0 g (OR hu);omega);have:=pp hA (show 0<b by omega);have:=pp hA (show 0<b-u by omega);have hB:B<0:=(by rcases Rd B 0 with g2|g2;{exact g2};·have:=m0 g2 (show a-u<=0 by omega);omega);exact .inr ⟨hA,hB⟩};·have f1:=P1.1 k.1;have f2:=Q2.1 k.2;have hA:A<0:=(by rcases Rd A 0 with g|g;{exact g};·have:=p0 g (show 0<=b by omega);have hB:B<0:=(by rcases Rd B 0 with g2|g2;{exact g2};·have:=m0 g2 (show a<=0 by omega);omega);have:=q0 (OR hB) (show a-u<=0 by omega);have:B*a-B*(a-u)=B*u:=(by rw[<-afQ];congr 1;omega);have:A*b-A*(b-u)=A*u:=(by rw[<-afQ];congr 1;omega);have:=np hB hu;have:=p0 g (OR hu);omega);have:=np hA (show 0<b by omega);have:=np hA (show 0<b-u by omega);have hB:0<B:=(by rcases Rd 0 B with g2|g2;{exact g2};·have:=q0 g2 (show a-u<=0 by omega);omega);exact .inl ⟨hA,hB⟩);have e:(iG A B/\iG P Q)↔iG P Q:=⟨λk=>k.2,λk=>⟨d k,k⟩⟩;rw[e];clear d e h5 P1 P2 P3 Q1 Q2 Q3 h3 h4 h1 h2;unfold iG;omega
theorem acR{u A B a b P Q:Int}(hu:0<u)(e1:u*P=B*a-A*b)(e2:u*Q=B*(a-u)-A*(b-u))(h1:0<a->a<=u->A≠0)(h2:0<b->b<=u->B≠0)(h3:(a<=0/\0<b)\/(b<=0/\0<a)->P≠0)(h4:(a<=u/\u<b)\/(b<=u/\u<a)->Q≠0)(h5:a=u->b=u->¬iG A B):(((a<=0/\0<b/\0<P)\/(b<=0/\0<a/\P<0))↔((a<=u/\u<b/\0<Q)\/(b<=u/\u<a/\Q<0)))↔¬((iG A B/\iG P Q)↔((0<a/\a<=u/\A<0)↔(0<b/\b<=u/\B<0))):=by
 rcases acg a b with h|h;{exact OS hu h e1 e2 h1 h2 h3 h4 h5};·have:=OS (P:=-P) (Q:=-Q) (A:=B) (B:=A) hu h (by rw[ag8,e1];omega) (by rw[ag8,e2];omega) h2 h1 (λk=>by have:=h3 (by omega);omega) (λk=>by have:=h4 (by omega);omega) (λk1 k2 o=>h5 k2 k1 (xD.1 o));rw[xD (A:=B),Gu]at this;have t1:((a<=0/\0<b/\0<P)\/(b<=0/\0<a/\P<0))↔((b<=0/\0<a/\0< -P)\/(a<=0/\0<b/\-P<0)):=(by omega);have t2:((a<=u/\u<b/\0<Q)\/(b<=u/\u<a/\Q<0))↔((b<=u/\u<a/\0< -Q)\/(a<=u/\u<b/\-Q<0)):=(by omega);rw[t1,t2,this,iff_comm (a:=(0<b/\b<=u/\B<0))]
def Xs(p q a b:aA):Prop:=iG (cr p q a 1) (cr p q b 1)/\iG (cr a b p 1) (cr a b q 1)
instance(p q a b:aA):Decidable (Xs p q a b):=by
 unfold Xs;infer_instance
def dR(p q v:aA):Bool:=decide (p.2<v.2/\v.2<=q.2/\cr p q v 1<0)
theorem j8(a b p:aA):jh a b p 1=decide ((a.2-p.2<=0/\0<b.2-p.2/\0<cr a b p 1)\/(b.2-p.2<=0/\0<a.2-p.2/\cr a b p 1<0)):=by
 unfold jh;simp only[DH,BI,Gl];by_cases h1:a.2>p.2<;>by_cases h2:b.2>p.2;{rw[mu (by simp[h1,h2])];symm;exact gx (by omega)};{rw[ef (by simp[h1,h2]),ef h2];exact IS.2 (by omega)};{rw[ef (by simp[h1,h2]),mu h2];exact IS.2 (by omega)};·rw[mu (by simp[h1,h2])];symm;exact gx (by omega)
theorem Jp{u U x al:Int}(hu:0<u)(h0:0<=al)(h1:al<=u)(e:U*al=u*x):fq 0 x U:=by
 rcases acg 0 U with g|g;{left;have k1:=p0 g h0;have k2:U*al<=U*u:=IF h1 g;rw[e]at k1 k2;refine⟨Int.nonneg_of_mul_nonneg_right k1 hu,?_⟩;rw[aaB U u]at k2;exact aaM k2 hu};·right;have k1:=n0 g h0;have k2:U*u<=U*al:=afC g h1;rw[e]at k1 k2;rw[aaB U u]at k2;refine⟨aaM k2 hu,?_⟩;rcases Rd 0 x with g2|g2;{have:=pp hu g2;omega};·exact g2
theorem jL{a b p:aA}(h0:cr a b p 1=0)(h:(a.2<=p.2/\p.2<=b.2/\a.2<b.2)\/(b.2<=p.2/\p.2<=a.2/\b.2<a.2)):has a b p 1:=by
 refine⟨h0,?_,by unfold fq;omega⟩;unfold cr at h0;rcases h with⟨h1,h2,h3⟩|⟨h1,h2,h3⟩;{have:=Jp (u:=b.2-a.2) (U:=b.1-a.1) (x:=p.1-a.1) (al:=p.2-a.2) (by omega) (by omega) (by omega) (by simp only[DH]at h0;omega);unfold fq at*;omega};·have:=Jp (u:=a.2-b.2) (U:=b.1-a.1) (x:=p.1-a.1) (al:=a.2-p.2) (by omega) (by omega) (by omega) (by simp only[DH]at h0;have e1:(b.1-a.1)*(a.2-p.2)=-((b.1-a.1)*(p.2-a.2)):=(by grind);have e2:(a.2-b.2)*(p.1-a.1)=-((b.2-a.2)*(p.1-a.1)):=(by grind);omega);unfold fq at*;omega
theorem OT{p q a:aA}(h:a.2=q.2):cr p q a 1=(q.2-p.2)*(q.1-a.1):=by
 unfold cr;rw[h];grind
theorem OU{r1 r2 x d1 d2:Prop}[Decidable r1][Decidable r2][Decidable x][Decidable d1][Decidable d2](h:(r1↔r2)↔¬(x↔(d1↔d2))):(decide r1^^decide r2)=(decide x^^(decide d1^^decide d2)):=by by_cases c1:r1<;>by_cases c2:r2<;>by_cases c3:x<;>by_cases c4:d1<;>by_cases c5:d2<;>simp_all
theorem A8{p q a b:aA}(hpq:p.2<q.2)(ha:¬has p q a 1)(hb:¬has p q b 1)(hp:¬has a b p 1)(hq:¬has a b q 1):(jh a b p 1^^jh a b q 1)=(decide (Xs p q a b)^^(dR p q a^^dR p q b)):=by
 have key:=acR (u:=q.2-p.2) (A:=cr p q a 1) (B:=cr p q b 1) (a:=a.2-p.2) (b:=b.2-p.2) (P:=cr a b p 1) (Q:=cr a b q 1) (by omega) (by unfold cr;grind) (by unfold cr;grind) (λh1 h2 e=>ha (jL e (by omega))) (λh1 h2 e=>hb (jL e (by omega))) (λh e=>hp (jL e (by omega))) (λh e=>hq (jL e (by omega))) (λh1 h2 o=>hq (by have e1:=OT (p:=p) (q:=q) (a:=a) (by omega);have e2:=OT (p:=p) (q:=q) (a:=b) (by omega);rw[e1,e2]at o;have s1:=bT (u:=q.2-p.2) (P:=q.1-a.1) (by omega) rfl;have s2:=bT (u:=q.2-p.2) (P:=q.1-b.1) (by omega) rfl;refine⟨?_,?_,by unfold fq;omega⟩;{unfold cr;rw[show b.2-a.2=0 by omega,show q.2-a.2*1=0 by omega];simp};·unfold iG at o;unfold fq;omega));rw[j8,j8];have t:((a.2-q.2<=0/\0<b.2-q.2/\0<cr a b q 1)\/(b.2-q.2<=0/\0<a.2-q.2/\cr a b q 1<0))↔((a.2-p.2<=q.2-p.2/\q.2-p.2<b.2-p.2/\0<cr a b q 1)\/(b.2-p.2<=q.2-p.2/\q.2-p.2<a.2-p.2/\cr a b q 1<0)):=(by omega);have t1:(p.2<a.2/\a.2<=q.2/\cr p q a 1<0)↔(0<a.2-p.2/\a.2-p.2<=q.2-p.2/\cr p q a 1<0):=(by omega);have t2:(p.2<b.2/\b.2<=q.2/\cr p q b 1<0)↔(0<b.2-p.2/\b.2-p.2<=q.2-p.2/\cr p q b 1<0):=(by omega);unfold dR;rw[IS.2 t,IS.2 t1,IS.2 t2];exact OU key
theorem yZ{p q a b:aA}(hpq:p.2=q.2)(ha:¬has p q a 1)(hb:¬has p q b 1)(hp:¬has a b p 1)(hq:¬has a b q 1):(jh a b p 1^^jh a b q 1)=decide (Xs p q a b):=by
 have eA:cr p q a 1=(q.1-p.1)*(a.2-p.2):=(by unfold cr;rw[hpq];grind);have eB:cr p q b 1=(q.1-p.1)*(b.2-p.2):=(by unfold cr;rw[hpq];grind);rw[j8,j8];unfold Xs;have hP:(a.2-p.2<=0/\0<b.2-p.2)\/(b.2-p.2<=0/\0<a.2-p.2)->cr a b p 1≠0:=λh e=>hp (jL e (by omega));have hQ:(a.2-p.2<=0/\0<b.2-p.2)\/(b.2-p.2<=0/\0<a.2-p.2)->cr a b q 1≠0:=λh e=>hq (jL e (by omega));have key:iG (cr a b p 1) (cr a b q 1)->((a.2-p.2<=0/\0<b.2-p.2)\/(b.2-p.2<=0/\0<a.2-p.2))->iG (cr p q a 1) (cr p q b 1):=by intro o h;have hne:q.1-p.1≠0:=(by intro e;have:p=q:=aaU (by omega) hpq;rw[this]at o;unfold iG at o;omega);have ia:a.2≠p.2:=(by intro e;have f1:cr a b p 1=-((b.2-a.2)*(p.1-a.1)):=(by unfold cr;rw[e];grind);have f2:cr a b q 1=-((b.2-a.2)*(q.1-a.1)):=(by unfold cr;rw[e,hpq];grind);have s1:=bT (u:=b.2-a.2) (P:=p.1-a.1) (by omega) rfl;have s2:=bT (u:=b.2-a.2) (P:=q.1-a.1) (by omega) rfl;rw[f1,f2]at o;refine ha ⟨by rw[eA,e];simp,?_,by unfold fq;omega⟩;unfold iG at o;unfold fq;omega);have ib:b.2≠p.2:=(by intro e;have f1:cr a b p 1=-((a.2-b.2)*(b.1-p.1)):=(by unfold cr;rw[e];grind);have f2:cr a b q 1=-((a.2-b.2)*(b.1-q.1)):=(by unfold cr;rw[e,hpq];grind);have s1:=bT (u:=a.2-b.2) (P:=b.1-p.1) (by omega) rfl;have s2:=bT (u:=a.2-b.2) (P:=b.1-q.1) (by omega) rfl;rw[f1,f2]at o;refine hb ⟨by rw[eB,e];simp,?_,by unfold fq;omega⟩;unfold iG at o;unfold fq;omega);rw[eA,eB];have m1:=acu hne;rcases m1 with m|m<;>rcases h with h|h;{exact .inr ⟨OQ m (by omega),np m (by omega)⟩};{exact .inl ⟨np m (by omega),OQ m (by omega)⟩};{exact .inl ⟨pn m (by omega),pp m (by omega)⟩};·exact .inr ⟨pp m (by omega),pn m (by omega)⟩
 have back:iG (cr p q a 1) (cr p q b 1)->((a.2-p.2<=0/\0<b.2-p.2)\/(b.2-p.2<=0/\0<a.2-p.2)):=(by intro o;rw[eA,eB]at o;rcases aaf (q.1-p.1) 0 with m|m|m;{have s1:=bT (u:=-(q.1-p.1)) (P:=a.2-p.2) (by omega) rfl;have s2:=bT (u:=-(q.1-p.1)) (P:=b.2-p.2) (by omega) rfl;rw[Int.neg_mul]at s1 s2;unfold iG at o;omega};{rw[m]at o;unfold iG at o;simp at o};·have s1:=bT (u:=q.1-p.1) (P:=a.2-p.2) (by omega) rfl;have s2:=bT (u:=q.1-p.1) (P:=b.2-p.2) (by omega) rfl;unfold iG at o;omega);have k:=OU (r1:=(a.2-p.2<=0/\0<b.2-p.2/\0<cr a b p 1)\/(b.2-p.2<=0/\0<a.2-p.2/\cr a b p 1<0)) (r2:=(a.2-q.2<=0/\0<b.2-q.2/\0<cr a b q 1)\/(b.2-q.2<=0/\0<a.2-q.2/\cr a b q 1<0)) (x:=iG (cr p q a 1) (cr p q b 1)/\iG (cr a b p 1) (cr a b q 1)) (d1:=False) (d2:=False) (by by_cases h:(a.2-p.2<=0/\0<b.2-p.2)\/(b.2-p.2<=0/\0<a.2-p.2);{have g1:=hP h;have g2:=hQ h;have g3:=λo=>key o h;have e:(iG (cr p q a 1) (cr p q b 1)/\iG (cr a b p 1) (cr a b q 1))↔iG (cr a b p 1) (cr a b q 1):=⟨λx=>x.2,λx=>⟨g3 x,x⟩⟩;rw[e];clear e g3 key back hP hQ eA eB;simp only[iff_self,iff_true];unfold iG;omega};·have e:¬(iG (cr p q a 1) (cr p q b 1)/\iG (cr a b p 1) (cr a b q 1)):=λx=>h (back x.1);have r1:¬((a.2-p.2<=0/\0<b.2-p.2/\0<cr a b p 1)\/(b.2-p.2<=0/\0<a.2-p.2/\cr a b p 1<0)):=(by omega);have r2:¬((a.2-q.2<=0/\0<b.2-q.2/\0<cr a b q 1)\/(b.2-q.2<=0/\0<a.2-q.2/\cr a b q 1<0)):=(by omega);simp only[e,r1,r2];simp)
 rw[k];rw[show(decide False^^decide False)=false from rfl,Bool.xor_false]
theorem Zg{p q a b:aA}:Xs q p a b↔Xs p q a b:=by
 unfold Xs;rw[fW p q a 1,fW p q b 1,Gu,xD (A:=cr a b q 1)]
def qn(p q v:aA):Bool:=if p.2<q.2 then dR p q v else if q.2<p.2 then dR q p v else false
theorem Jq{p q a b:aA}(ha:¬has p q a 1)(hb:¬has p q b 1)(hp:¬has a b p 1)(hq:¬has a b q 1):(jh a b p 1^^jh a b q 1)=(decide (Xs p q a b)^^(qn p q a^^qn p q b)):=by
 unfold qn;rcases aaf p.2 q.2 with h|h|h;{rw[mu h,mu h];exact A8 h ha hb hp hq};{rw[ef (by omega),ef (by omega),ef (by omega),ef (by omega),yZ h ha hb hp hq];simp};·rw[ef (by omega),mu h,ef (by omega),mu h];rw[Bool.xor_comm,A8 h (λk=>ha (dY.1 k)) (λk=>hb (dY.1 k)) hq hp,IS.2 Zg]
def bA(l:List bg)(p:aL):Bool:=l.foldr (λs b=>jh s.1 s.2 p.1 p.2^^b) false
def YG(l:List bg)(p q:aA):Bool:=l.foldr (λs b=>decide (Xs p q s.1 s.2)^^b) false
theorem bL(s:bg)(l:List bg)(p:aL):bA (s::l) p=(jh s.1 s.2 p.1 p.2^^bA l p):=rfl
theorem s6(s:bg)(l:List bg)(p q:aA):YG (s::l) p q=(decide (Xs p q s.1 s.2)^^YG l p q):=rfl
theorem c9(a b:List bg)(p:aL):bA (a++b) p=(bA a p^^bA b p):=by induction a with|nil=>simp[bA]|cons s a ih=>rw[Kx,bL,bL,ih,ag2]
theorem dM(a b:aA)(t:Ring):aB (a::b::t)=(a,b)::aB (b::t):=rfl
theorem xE(a:aA):aB [a]=[]:=rfl
structure Aa(p q a b:aA):Prop where
 ha:¬has p q a 1
 hb:¬has p q b 1
 hp:¬has a b p 1
 hq:¬has a b q 1
theorem wB(p q:aA):∀(t:Ring)(a:aA),(∀s∈aB (a::t),Aa p q s.1 s.2)->(bA (aB (a::t)) (p,1)^^bA (aB (a::t)) (q,1))=(YG (aB (a::t)) p q^^(qn p q a^^qn p q ((a::t).getLast (by simp)))):=by
 intro t;induction t with|nil=>intro a _;simp[xE,bA,YG]|cons b t ih=>intro a h;rw[dM]at h;have h1:=h (a,b) (by simp);have k:=ih b λs hs=>h s (by simp[hs]);have e:=Jq h1.ha h1.hb h1.hp h1.hq;rw[dM,bL,bL,s6,List.getLast_cons (by simp)];simp only at e⊢;revert e k;generalize jh a b p 1=x1;generalize jh a b q 1=x2;generalize bA (aB (b::t)) (p,1)=x3;generalize bA (aB (b::t)) (q,1)=x4;generalize YG (aB (b::t)) p q=x5;generalize decide (Xs p q a b)=x6;generalize qn p q a=x7;generalize qn p q b=x8;generalize qn p q ((b::t).getLast (by simp))=x9;revert x1 x2 x3 x4 x5 x6 x7 x8 x9;decide
def Ends(r:Ring):Prop:=r.head?=r.getLast?
theorem aY{r:Ring}(h:Shut r):Ends r:=by
 have h4:=h.len;unfold Ends;rw[afb,aeL,aG (by omega),aG (by omega),h.eq]
theorem EL{r:Ring}(hr:Ends r){p q:aA}(h:∀s∈aB r,Aa p q s.1 s.2):(bA (aB r) (p,1)^^bA (aB r) (q,1))=YG (aB r) p q:=by cases r with|nil=>rfl|cons a t=>have k:=wB p q t a h;have e:a=(a::t).getLast (by simp):=(by unfold Ends at hr;rw[adV (by simp)]at hr;simpa using hr);rw[k,<-e];simp
theorem Jr:∀(l:List bg)(i:Bool)(p:aL),(∀s∈l,¬has s.1 s.2 p.1 p.2)->gw l i p=if(i^^bA l p)=true then 2 else 0:=by
 intro l;induction l with|nil=>intro i p _;simp[gw,bA]|cons s l ih=>intro i p h;have h1:=h s (by simp);unfold gw;rw[ef (by unfold hasB;simpa using h1),ih _ p λt ht=>h t (by simp[ht]),bL];cases jh s.1 s.2 p.1 p.2<;>cases i<;>simp
theorem e9{r:Ring}{p:aL}(h:∀s∈aB r,¬has s.1 s.2 p.1 p.2):place r p=if bA (aB r) p=true then 2 else 0:=by
 unfold place;rw[Jr _ _ _ h];simp
theorem s7{l:List bg}{p q:aA}(h:∀s∈l,¬Xs p q s.1 s.2):YG l p q=false:=by induction l with|nil=>rfl|cons s l ih=>rw[s6,ih λt ht=>h t (by simp[ht]),gx (h s (by simp))];rfl
theorem wC{r:Ring}(hr:Ends r){p q:aA}(h:∀s∈aB r,Aa p q s.1 s.2)(hx:∀s∈aB r,¬Xs p q s.1 s.2):place r (p,1)=place r (q,1):=by
 have k:=EL hr h;rw[s7 hx]at k;rw[e9 (p:=(p,1)) λs hs=>(h s hs).hp,e9 (p:=(q,1)) λs hs=>(h s hs).hq];have:bA (aB r) (p,1)=bA (aB r) (q,1):=(by revert k;generalize bA (aB r) (p,1)=x;generalize bA (aB r) (q,1)=y;cases x<;>cases y<;>simp);rw[this]
def sc(k:Int)(p:aA):aA:=(k*p.1,k*p.2)
def iD(k:Int)(r:Ring):Ring:=r.map (sc k)
def xF(k:Int)(s:bg):bg:=(sc k s.1,sc k s.2)
theorem xG(k:Int)(a b p:aA)(w:Int):cr (sc k a) (sc k b) p w=k*cr a b p (k*w):=by
 unfold cr sc;grind
theorem Mo{k:Int}(hk:0<k)(n:Int):sg (k*n)=sg n:=by
 have s:=bT hk (rfl:k*n=k*n);rcases bM n with⟨h,e⟩|⟨h,e⟩|⟨h,e⟩<;>rcases bM (k*n)with⟨h',e'⟩|⟨h',e'⟩|⟨h',e'⟩<;>first|omega|rw[e,e']
theorem fA{k:Int}(hk:0<k)(a b p:aA)(w:Int):has (sc k a) (sc k b) p w↔has a b p (k*w):=by
 have s:=bT hk (rfl:k*cr a b p (k*w)=_);have e:∀x:Int,k*x*w=x*(k*w):=λx=>(by grind);unfold has;rw[xG];unfold sc;simp only[e];constructor;{rintro⟨h1,h2⟩;exact⟨s.2.2.2 h1,h2⟩};·rintro⟨h1,h2⟩;exact⟨s.2.2.1 h1,h2⟩
theorem BU{k:Int}(hk:0<k)(a b p:aA)(w:Int):jh (sc k a) (sc k b) p w=jh a b p (k*w):=by
 have e:∀x:Int,k*x*w=x*(k*w):=λx=>(by grind);unfold jh;rw[xG,Mo hk];unfold sc;simp only[e]
theorem gV(k:Int)(r:Ring):aB (iD k r)=(aB r).map (xF k):=by
 unfold aB iD;rw[<-List.map_tail,List.zip_map];rfl
theorem QM{k:Int}(hk:0<k):∀(l:List bg)(i:Bool)(p:aA)(w:Int),gw (l.map (xF k)) i (p,w)=gw l i (p,k*w):=by
 intro l;induction l with|nil=>intro i p w;rfl|cons s l ih=>intro i p w;rw[aa1];unfold gw;have e1:hasB (xF k s) (p,w)=hasB s (p,k*w):=IS.2 (fA hk s.1 s.2 p w);have e2:jh (xF k s).1 (xF k s).2 p w=jh s.1 s.2 p (k*w):=BU hk s.1 s.2 p w;rw[e1,ih];simp only[e2]
theorem dZ{k:Int}(hk:0<k)(r:Ring)(p:aA)(w:Int):place (iD k r) (p,w)=place r (p,k*w):=by
 unfold place;rw[gV,QM hk]
theorem kO{k:Int}{r:Ring}(h:Ends r):Ends (iD k r):=by
 unfold Ends iD at*;rw[List.head?_map,List.getLast?_map,h]
theorem uG(k:Int)(a b p:aA)(w:Int):cr a b (sc k p) (k*w)=k*cr a b p w:=by
 unfold cr sc;grind
theorem Zh{k:Int}(hk:0<k){a p b:Int}:fq (k*a) (k*p) (k*b)↔fq a p b:=by
 have e1:∀{x y:Int},k*x<=k*y↔x<=y:=λ{x y}=>⟨λh=>aaM h hk,λh=>IF h (by omega)⟩;unfold fq;simp only[e1]
theorem e7{k:Int}(hk:0<k)(a b p:aA)(w:Int):has a b (sc k p) (k*w)↔has a b p w:=by
 have s:=bT hk (rfl:k*cr a b p w=_);have e:∀x:Int,x*(k*w)=k*(x*w):=λx=>(by grind);unfold has;rw[uG];unfold sc;simp only[e,Zh hk];constructor;{rintro⟨h1,h2⟩;exact⟨s.2.2.2 h1,h2⟩};·rintro⟨h1,h2⟩;exact⟨s.2.2.1 h1,h2⟩
theorem Jt{k:Int}(hk:0<k)(a b p:aA)(w:Int):jh a b (sc k p) (k*w)=jh a b p w:=by
 have e:∀x:Int,x*(k*w)=k*(x*w):=λx=>(by grind);have e1:∀{x y:Int},k*x>k*y↔x>y:=λ{x y}=>⟨λh=>adQ h (by omega),λh=>abl h hk⟩;unfold jh;rw[uG,Mo hk];unfold sc;simp only[e,e1]
theorem Ju{k:Int}(hk:0<k)(p:aA)(w:Int):∀(l:List bg)(i:Bool),gw l i (sc k p,k*w)=gw l i (p,w):=by
 intro l;induction l with|nil=>intro i;rfl|cons s l ih=>intro i;unfold gw;have e1:hasB s (sc k p,k*w)=hasB s (p,w):=IS.2 (e7 hk s.1 s.2 p w);rw[e1,ih];simp only[Jt hk]
theorem o6{k:Int}(hk:0<k)(r:Ring)(p:aA)(w:Int):place r (sc k p,k*w)=place r (p,w):=by
 unfold place;rw[Ju hk]
theorem lp{r:Ring}{p:aL}(hp:0<p.2){k:Int}(hk:0<k):place r p=place (iD (k*p.2) r) (sc k p.1,1):=by rw[dZ (pp hk hp),DH,o6 hk]
theorem Gv{α:Type}(f:α->Int)(P:α->Prop):∀(l:List α),(∃x∈l,P x)->∃x∈l,P x/\∀y∈l,P y->f y<=f x:=by
 intro l;induction l with|nil=>rintro⟨x,hx,_⟩;cases hx|cons a t ih=>rintro⟨x,hx,hp⟩;by_cases ht:∃y∈t,P y;{obtain⟨y,hy,py,my⟩:=ih ht;by_cases ha:P a/\f y<f a;{refine⟨a,by simp,ha.1,λz hz pz=>?_⟩;rcases v7.1 hz with rfl|hz;{exact abg _};·have:=my z hz pz;omega};·refine⟨y,by simp[hy],py,λz hz pz=>?_⟩;rcases v7.1 hz with rfl|hz;{by_cases c:f y<f z;{exact absurd ⟨pz,c⟩ ha};·omega};·exact my z hz pz};·rcases v7.1 hx with rfl|hx;{refine⟨x,by simp,hp,λz hz pz=>?_⟩;rcases v7.1 hz with rfl|hz;{exact abg _};·exact absurd ⟨z,hz,pz⟩ ht};·exact absurd ⟨x,hx,hp⟩ ht
theorem Mq{α:Type}(f:α->Int)(P:α->Prop)(l:List α)(h:∃x∈l,P x):∃x∈l,P x/\∀y∈l,P y->f x<=f y:=by
 obtain⟨x,hx,hp,m⟩:=Gv (λx=>-f x) P l h;exact⟨x,hx,hp,λy hy py=>by have:=m y hy py;omega⟩
theorem BW{a b:aA}{l:List aA}{x:aA}:Cut a b l x↔x∈a::b::l/\(x=a\/x=b\/(x∈l/\has a b x 1)):=by
 unfold Cut;constructor;{intro h;refine⟨?_,h⟩;rcases h with rfl|rfl|h;{simp};{simp};·simp[h.1]};·exact λh=>h.2
theorem xH{a b p:aA}(h0:cr a b p 1=0):kk a b*p.1=kk a b*a.1+pos a b p*(b.1-a.1)/\kk a b*p.2=kk a b*a.2+pos a b p*(b.2-a.2):=by
 unfold cr at h0;unfold pos dt kk;constructor<;>grind
theorem acS{k D a1 a2 b1 b2 p1 p2 c1 c2 d1 d2:Int}(e1:k*p1=k*a1+D*(b1-a1))(e2:k*p2=k*a2+D*(b2-a2)):k*((d1-c1)*(p2-c2)-(d2-c2)*(p1-c1))=(k-D)*((d1-c1)*(a2-c2)-(d2-c2)*(a1-c1))+D*((d1-c1)*(b2-c2)-(d2-c2)*(b1-c1)):=by grind
theorem o7{a b p:aA}(h0:cr a b p 1=0)(c d:aA):kk a b*cr c d p 1=(kk a b-pos a b p)*cr c d a 1+pos a b p*cr c d b 1:=by
 obtain⟨e1,e2⟩:=xH h0;have:=acS (c1:=c.1) (c2:=c.2) (d1:=d.1) (d2:=d.2) e1 e2;unfold cr;simpa only[DH]using this
theorem Zi{k D E a1 a2 b1 b2 p1 p2 q1 q2:Int}(e1:k*p1=k*a1+D*(b1-a1))(e2:k*p2=k*a2+D*(b2-a2))(f1:k*q1=k*a1+E*(b1-a1))(f2:k*q2=k*a2+E*(b2-a2)):k*(q1-p1)=(E-D)*(b1-a1)/\k*(q2-p2)=(E-D)*(b2-a2):=by constructor<;>grind
theorem A9{a b p q:aA}(hp:cr a b p 1=0)(hq:cr a b q 1=0):kk a b*(q.1-p.1)=(pos a b q-pos a b p)*(b.1-a.1)/\kk a b*(q.2-p.2)=(pos a b q-pos a b p)*(b.2-a.2):=by
 obtain⟨e1,e2⟩:=xH hp;obtain⟨f1,f2⟩:=xH hq;exact Zi e1 e2 f1 f2
theorem OV{k L u1 u2 v1 v2 x1 x2:Int}(e1:k*v1=L*u1)(e2:k*v2=L*u2):k*(v1*x2-v2*x1)=L*(u1*x2-u2*x1)/\k*(x1*v1+x2*v2)=L*(x1*u1+x2*u2):=by constructor<;>grind
theorem OW{a b p:aA}(hp:cr a b p 1=0)(c:aA):(b.1-a.1)*(c.2-p.2)-(b.2-a.2)*(c.1-p.1)=cr a b c 1:=by
 unfold cr at*;grind
theorem kB{a b p q:aA}(hp:cr a b p 1=0)(hq:cr a b q 1=0)(c:aA):kk a b*cr p q c 1=(pos a b q-pos a b p)*cr a b c 1:=by
 obtain⟨e1,e2⟩:=A9 hp hq;have:=(OV (x1:=c.1-p.1) (x2:=c.2-p.2) e1 e2).1;rw[OW hp]at this;rw[<-this];unfold cr;simp only[DH]
theorem Ux(a b p c:aA):(c.1-p.1)*(b.1-a.1)+(c.2-p.2)*(b.2-a.2)=pos a b c-pos a b p:=by
 unfold pos dt;grind
theorem y5{a b p q:aA}(hp:cr a b p 1=0)(hq:cr a b q 1=0)(c:aA):kk a b*dt p q c 1=(pos a b q-pos a b p)*(pos a b c-pos a b p):=by
 obtain⟨e1,e2⟩:=A9 hp hq;have:=(OV (x1:=c.1-p.1) (x2:=c.2-p.2) e1 e2).2;rw[Ux a b p c]at this;rw[<-this];unfold dt;simp only[DH]
theorem Uy(p q:aA):kk p q=dt p q q 1:=by
 unfold kk dt;simp
theorem lR{a b p q c:aA}(hab:a≠b)(hpq:p≠q)(hp:cr a b p 1=0)(hq:cr a b q 1=0)(h:has p q c 1):cr a b c 1=0/\fq (pos a b p) (pos a b c) (pos a b q):=by
 have hk:=cO hab;obtain⟨h0,h1,h2⟩:=(kU hpq (by omega)).1 h;have hne:pos a b q-pos a b p≠0:=λe=>hpq (j6 hab hp hq (by omega));have e:=kB hp hq c;rw[h0,DE]at e;have e1:=y5 hp hq c;have e2:=y5 hp hq q;rw[DH,Uy]at h2;have m1:=p0 (OR hk) h1;have m2:=IF h2 (OR hk);rw[e1]at m1;rw[e1,e2]at m2;refine⟨?_,?_⟩;{rcases BE.1 e.symm with g|g;{exact absurd g hne};·exact g};·unfold fq;rcases acu hne with g|g;{right;constructor;{rcases Rd (pos a b c) (pos a b q)with q'|q';{have:=Int.mul_lt_mul_of_neg_left (show pos a b c-pos a b p<pos a b q-pos a b p by omega) g;omega};·exact q'};·rcases Rd (pos a b p) (pos a b c)with q|q;{have:=np g (show 0<pos a b c-pos a b p by omega);omega};·exact q};·left;constructor;{rcases Rd (pos a b c) (pos a b p)with q|q;{have:=pn g (show pos a b c-pos a b p<0 by omega);omega};·exact q};·have:=aaM m2 g;omega
theorem BZ{x y s t s' t' X Y:Int}(hs:0<=s)(ht:0<=t)(hs':0<=s')(ht':0<=t'){k:Int}(hk:0<k)(e1:k*X=s*x+t*y)(e2:k*Y=s'*x+t'*y)(o:iG X Y):iG x y:=by
 obtain⟨P1,P2,-⟩:=bT hk e1;obtain⟨Q1,Q2,-⟩:=bT hk e2;have both:¬(0<=x/\0<=y):=(by rintro⟨hx,hy⟩;have:=p0 hs hx;have:=p0 ht hy;have:=p0 hs' hx;have:=p0 ht' hy;unfold iG at o;omega);have none:¬(x<=0/\y<=0):=(by rintro⟨hx,hy⟩;have:=m0 hs hx;have:=m0 ht hy;have:=m0 hs' hx;have:=m0 ht' hy;unfold iG at o;omega);unfold iG;omega
theorem xI{a b c d:aA}(h1:iG (cr a b c 1) (cr a b d 1))(h2:iG (cr c d a 1) (cr c d b 1)):meet a b c d=2:=by
 unfold meet iG at*;rcases bM (cr a b c 1)with⟨g1,k1⟩|⟨g1,k1⟩|⟨g1,k1⟩<;>rcases bM (cr a b d 1)with⟨g2,k2⟩|⟨g2,k2⟩|⟨g2,k2⟩<;>rcases bM (cr c d a 1)with⟨g3,k3⟩|⟨g3,k3⟩|⟨g3,k3⟩<;>rcases bM (cr c d b 1)with⟨g4,k4⟩|⟨g4,k4⟩|⟨g4,k4⟩<;>first|(exfalso;omega)|simp[k1,k2,k3,k4]
theorem s8(x y:Int):(x*y<0->(0<x/\y<0)\/(x<0/\0<y))/\(0<x*y->(0<x/\0<y)\/(x<0/\y<0)):=by
 rcases aaf x 0 with h|h|h<;>rcases aaf y 0 with k|k|k;{have:=OQ h k;omega};{rw[k];simp};{have:=np h k;omega};{rw[h];simp};{rw[h];simp};{rw[h];simp};{have:=pn h k;omega};{rw[k];simp};·have:=pp h k;omega
theorem EM{a b:aA}(hab:a≠b){o:Ring}(he:Ends o){p q:aA}(hp:cr a b p 1=0)(hq:cr a b q 1=0)(np:place o (p,1)≠1)(nq:place o (q,1)≠1)(hv:∀t∈aB o,∀c,c=t.1\/c=t.2->cr a b c 1=0->¬fq (pos a b p) (pos a b c) (pos a b q))(hx:∀t∈aB o,¬(iG (cr a b t.1 1) (cr a b t.2 1)/\iG (cr t.1 t.2 p 1) (cr t.1 t.2 q 1))):place o (p,1)=place o (q,1):=by
 by_cases hpq:p=q;{rw[hpq]};have hk:=cO hab;refine wC he (λt ht=>⟨λh=>?_,λh=>?_,λh=>np (aT.2 ⟨t,ht,h⟩),λh=>nq (aT.2 ⟨t,ht,h⟩)⟩) (λt ht h=>?_);{obtain⟨k1,k2⟩:=lR hab hpq hp hq h;exact hv t ht _ (.inl rfl) k1 k2};{obtain⟨k1,k2⟩:=lR hab hpq hp hq h;exact hv t ht _ (.inr rfl) k1 k2};·refine hx t ht ⟨?_,h.2⟩;have e1:=kB hp hq t.1;have e2:=kB hp hq t.2;have s1:=bT hk e1;have s2:=bT hk e2;have o:=h.1;have m1:=s8 (pos a b q-pos a b p) (cr a b t.1 1);have m2:=s8 (pos a b q-pos a b p) (cr a b t.2 1);unfold iG at o⊢;omega
theorem wD{a b p:aA}(hab:a≠b)(hp:has a b p 1)(l:List aA):∃y z,Cons (pos a b) (Cut a b l) y z/\pos a b y<=pos a b p/\pos a b p<=pos a b z:=by
 obtain⟨d0,d1⟩:=dz hab hp;have hk:=cO hab;obtain⟨y,hy,⟨cy,ly,ny⟩,my⟩:=Gv (pos a b) (λx=>Cut a b l x/\pos a b x<=pos a b p/\pos a b x<kk a b) (a::b::l) ⟨a,by simp,.inl rfl,by rw[fh];exact d0,by rw[fh];exact hk⟩;obtain⟨z,hz,⟨cz,lz⟩,mz⟩:=Mq (pos a b) (λx=>Cut a b l x/\pos a b y<pos a b x) (a::b::l) ⟨b,by simp,.inr (.inl rfl),by rw[gL];exact ny⟩;refine⟨y,z,⟨cy,cz,lz,λc hc⟨h1,h2⟩=>?_⟩,ly,?_⟩;{have:=mz c (BW.1 hc).1 ⟨hc,h1⟩;omega};·rcases acg (pos a b p) (pos a b z)with g|g;{exact g};·by_cases e:pos a b z<kk a b;{have:=my z hz ⟨cz,g,e⟩;omega};·have h1:=(dz hab (cB cz)).2;omega
theorem iH{a b p:aA}(hab:a≠b)(h0:cr a b p 1=0)(h1:0<=pos a b p)(h2:pos a b p<=kk a b):has a b p 1:=(kU hab (by omega)).2 ⟨h0,h1,by rw[DH];exact h2⟩
theorem OX{o:Ring}{t:bg}(ht:t∈aB o){c:aA}(hc:c=t.1\/c=t.2):place o (c,1)=1:=by
 refine aT.2 ⟨t,ht,?_⟩;rcases hc with rfl|rfl;{exact iW _ _};·exact gy _ _
theorem Ab{a b:aA}(hab:a≠b){o:Ring}(hl:eU o)(hx:∀t∈aB o,cg (a,b) t=false){y z M:aA}(hc:Cons (pos a b) (Cut a b o) y z)(hM:has a b M 1)(h1:pos a b y<pos a b M)(h2:pos a b M<pos a b z):place o (M,1)≠1:=by
 intro h;obtain⟨t,ht,hh⟩:=aT.1 h;simp only at hh;obtain⟨y0,-⟩:=dz hab (cB hc.cx);obtain⟨-,z1⟩:=dz hab (cB hc.cy);have agl:¬Cut a b o M:=λc=>hc.no M c ⟨h1,h2⟩;have nv:∀c,c=t.1\/c=t.2->M≠c:=(by rintro c hc' rfl;have:=bF ht;exact agl (.inr (.inr ⟨by rcases hc' with e|e<;>rw[e];exact this.1;exact this.2,hM⟩)));have two:∀c:aA,M≠c->sc 2 M≠(c.1*2,c.2*2):=(by intro c hne e;unfold sc at e;simp only[abM]at e;exact hne (aaU (by omega) (by omega)));have i1:Us a b (sc 2 M):=(by refine⟨?_,two a ?_,two b ?_⟩;{have:=(e7 (k:=2) (by omega) a b M 1).2 hM;simpa using this};{rintro rfl;rw[fh]at h1;omega};·rintro rfl;rw[gL]at h2;omega);have i2:Us t.1 t.2 (sc 2 M):=(by refine⟨?_,two _ (nv _ (.inl rfl)),two _ (nv _ (.inr rfl))⟩;have:=(e7 (k:=2) (by omega) t.1 t.2 M 1).2 hh;simpa using this);have k:=uE hab (hl t ht) i1 i2;have:=hx t ht;unfold cg cI at this;rcases k with k|k<;>simp[k]at this
theorem xJ{a b:aA}(hab:a≠b){o:Ring}(he:Ends o)(hl:eU o)(hx:∀t∈aB o,cg (a,b) t=false){y z p M:aA}(hc:Cons (pos a b) (Cut a b o) y z)(hp:has a b p 1)(p1:pos a b y<=pos a b p)(p2:pos a b p<=pos a b z)(hM:has a b M 1)(h1:pos a b y<pos a b M)(h2:pos a b M<pos a b z)(hn:place o (p,1)≠1):place o (p,1)=place o (M,1):=by
 have hk:=cO hab;obtain⟨y0,-⟩:=dz hab (cB hc.cx);obtain⟨-,z1⟩:=dz hab (cB hc.cy);obtain⟨q0',q1⟩:=dz hab hp;obtain⟨m0',m1⟩:=dz hab hM;refine EM hab he hp.1 hM.1 hn (Ab hab hl hx hc hM h1 h2) ?_ ?_;{intro t ht c hc' oo hb;have hcut:Cut a b o c:=(by refine .inr (.inr ⟨?_,iH hab oo (by unfold fq at hb;omega) (by unfold fq at hb;omega)⟩);have:=bF ht;rcases hc' with e|e<;>rw[e];{exact this.1};·exact this.2);have:=hc.no c hcut;have e:pos a b c=pos a b p:=(by unfold fq at hb;omega);have:=j6 hab oo hp.1 e;rw[<-this]at hn;exact hn (OX ht hc')};·rintro t ht⟨o1,o2⟩;have e1:=o7 hp.1 t.1 t.2;have e2:=o7 hM.1 t.1 t.2;have o3:=BZ (by omega) q0' (by omega) m0' hk e1 e2 o2;have:=hx t ht;unfold cg cI at this;rw[xI o1 o3]at this;simp at this
theorem dU{k:Int}(hk:0<k){p q:aA}:sc k p=sc k q↔p=q:=by
 constructor;{intro h;unfold sc at h;simp only[abM]at h;exact aaU (adT (by omega) h.1) (adT (by omega) h.2)};·rintro rfl;rfl
theorem Mr{k:Int}(hk:0<k){p q:aA}:bI (sc k p) (sc k q)↔bI p q:=by
 have e1:∀{x y:Int},k*x<k*y↔x<y:=λ{x y}=>⟨λh=>adQ h (by omega),λh=>abl h hk⟩;have e2:∀{x y:Int},k*x=k*y↔x=y:=λ{x y}=>⟨λh=>adT (by omega) h,λh=>by rw[h]⟩;unfold bI sc;simp only[e1,e2]
theorem acT{k:Int}(hk:0<k)(a b:aA):fwd (sc k a) (sc k b)=xF k (fwd a b):=by
 unfold fwd;by_cases h:bI b a;{rw[mu h,mu ((Mr hk).2 h)];rfl};·rw[ef h,ef (λg=>h ((Mr hk).1 g))];rfl
theorem acU(k:Int)(c:Prop)[Decidable c](a b:aA):(if c then sc k a else sc k b)=sc k (if c then a else b):=by split<;>rfl
theorem QN{k:Int}(hk:0<k)(s t:bg):dw (xF k s) (xF k t)=dw s t:=by
 unfold dw xF;simp only[Mr hk,acU,dU hk]
theorem jM(k:Int)(a b p:aA):cr (sc k a) (sc k b) (sc k p) 1=k*k*cr a b p 1:=by
 unfold cr sc;grind
theorem Ba{k:Int}(hk:0<k)(a b c d:aA):meet (sc k a) (sc k b) (sc k c) (sc k d)=meet a b c d:=by
 unfold meet;simp only[jM,Mo (pp hk hk),acT hk,QN hk]
theorem uH{k:Int}(hk:0<k)(s t:bg):cg (xF k s) (xF k t)=cg s t:=by
 unfold cg cI xF;simp only[Ba hk]
theorem iQ(k:Int)(a b p:aA):pos (sc k a) (sc k b) (sc k p)=k*k*pos a b p:=by
 unfold pos dt sc;grind
theorem mS{k:Int}(hk:0<k)(a b p:aA):has (sc k a) (sc k b) (sc k p) 1↔has a b p 1:=by rw[fA hk,e7 hk]
theorem y6{k:Int}(hk:0<k){a b:aA}{l:List aA}{x:aA}:Cut (sc k a) (sc k b) (l.map (sc k)) x↔∃x',x=sc k x'/\Cut a b l x':=by
 unfold Cut;constructor;{rintro(rfl|rfl|⟨h1,h2⟩);{exact⟨a,rfl,.inl rfl⟩};{exact⟨b,rfl,.inr (.inl rfl)⟩};·obtain⟨x',hx',rfl⟩:=As.1 h1;exact⟨x',rfl,.inr (.inr ⟨hx',(mS hk _ _ _).1 h2⟩)⟩};·rintro⟨x',rfl,rfl|rfl|⟨h1,h2⟩⟩;{exact .inl rfl};{exact .inr (.inl rfl)};·exact .inr (.inr ⟨As.2 ⟨x',h1,rfl⟩,(mS hk _ _ _).2 h2⟩)
theorem Gw{k:Int}(hk:0<k){a b:aA}{l:List aA}{y z:aA}(h:Cons (pos (sc k a) (sc k b)) (Cut (sc k a) (sc k b) (l.map (sc k))) y z):∃y' z',y=sc k y'/\z=sc k z'/\Cons (pos a b) (Cut a b l) y' z':=by
 obtain⟨y',rfl,cy⟩:=(y6 hk).1 h.cx;obtain⟨z',rfl,cz⟩:=(y6 hk).1 h.cy;have kk2:=pp hk hk;have e1:∀{x y:Int},k*k*x<k*k*y↔x<y:=λ{x y}=>⟨λh=>adQ h (by omega),λh=>abl h kk2⟩;refine⟨y',z',rfl,rfl,cy,cz,?_,?_⟩;{have:=h.lt;rw[iQ,iQ]at this;exact e1.1 this};·rintro c hc⟨h1,h2⟩;refine h.no (sc k c) ((y6 hk).2 ⟨c,rfl,hc⟩) ?_;rw[iQ,iQ,iQ];exact⟨e1.2 h1,e1.2 h2⟩
theorem lS{k:Int}(hk:0<k){r:Ring}(h:eU r):eU (iD k r):=by
 intro s hs;rw[gV]at hs;obtain⟨t,ht,rfl⟩:=As.1 hs;intro e;exact h t ht ((dU hk).1 e)
theorem xK{a b:aA}(hab:a≠b){o:Ring}(he:Ends o)(hl:eU o)(hx:∀t∈aB o,cg (a,b) t=false){p:aL}(hw:0<p.2)(hp:has a b p.1 p.2)(hn:place o p≠1):∃m∈eO (a,b) [o],place o p=place o m:=by
 obtain⟨P,w⟩:=p;simp only at hw hp;have hK:(0:Int)<2*w:=(by omega);have pT:sc (2*w) a≠sc (2*w) b:=λe=>hab ((dU hK).1 e);have hp':has (sc (2*w) a) (sc (2*w) b) (sc 2 P) 1:=(by rw[fA hK,DH];exact(e7 (by omega) a b P w).2 hp);obtain⟨y',z',hc',l1,l2⟩:=wD pT hp' (iD (2*w) o);obtain⟨y,z,rfl,rfl,hc⟩:=Gw hK (l:=o) hc';have hm:bB y z∈eO (a,b) [o]:=(iO hab [o] _).2 ⟨y,z,by simpa using hc,rfl⟩;refine⟨_,hm,?_⟩;have e1:place o (P,w)=place (iD (2*w) o) (sc 2 P,1):=lp (p:=(P,w)) hw (k:=2) (by omega);have e2:place o (bB y z)=place (iD (2*w) o) (sc w (bB y z).1,1):=(by have:=lp (r:=o) (p:=bB y z) (show(0:Int)<2 by omega) (k:=w) hw;rw[show w*(bB y z).2=2*w by show w*2=2*w;omega]at this;exact this);rw[e1,e2];have c0y:=(cB hc.cx).1;have c0z:=(cB hc.cy).1;have f1:2*pos (sc (2*w) a) (sc (2*w) b) (sc w (bB y z).1)=pos (sc (2*w) a) (sc (2*w) b) (sc (2*w) y)+pos (sc (2*w) a) (sc (2*w) b) (sc (2*w) z):=(by unfold pos dt sc bB;grind);have f2:2*cr (sc (2*w) a) (sc (2*w) b) (sc w (bB y z).1) 1=cr (sc (2*w) a) (sc (2*w) b) (sc (2*w) y) 1+cr (sc (2*w) a) (sc (2*w) b) (sc (2*w) z) 1:=(by unfold cr sc bB;grind);rw[jM,jM,c0y,c0z,DE,abz]at f2;have hlt:=hc'.lt;obtain⟨y0,y1⟩:=dz pT (cB hc'.cx);obtain⟨z0,z1⟩:=dz pT (cB hc'.cy)
 refine xJ pT (kO he) (lS hK hl) ?_ hc' hp' l1 l2 (iH pT (by omega) (by omega) (by omega)) (by omega) (by omega) ?_;{intro t ht;rw[gV]at ht;obtain⟨t',ht',rfl⟩:=As.1 ht;have:=hx t' ht';rw[<-uH hK]at this;exact this};·rw[<-e1];exact hn
theorem jN{r o:Ring}(hr:eU r)(ho:eU o)(he:Ends o)(hx:aX r o=false){k:Int}(hk:lies r o k=true){p:aL}(hw:0<p.2)(hp:place r p=1):place o p=1\/place o p=k:=by
 obtain⟨s,hs,h⟩:=aT.1 hp;by_cases h1:place o p=1;{exact .inl h1};right;obtain⟨m,hm,e⟩:=xK (hr s hs) he ho (λt ht=>by cases c:cg (s.1,s.2) t with|false=>rfl|true=>have:aX r o=true:=(by unfold aX;exact AF.2 ⟨s,hs,AF.2 ⟨t,ht,c⟩⟩);rw[hx]at this;cases this) hw h h1;rw[e];unfold lies at hk;rw[afn]at hk;by_cases g:place o m=k;{exact g};·have:((aB r).any λs=>(eO s [o]).any λm=>decide (place o m≠k))=true:=AF.2 ⟨s,hs,AF.2 ⟨m,hm,dj g⟩⟩;rw[hk]at this;cases this
theorem Ac{p:aL}:∀(t:List Ring),ja t false p=true↔∀r∈t,place r p≠2:=by
 intro t;induction t with|nil=>simp[ja]|cons r t ih=>unfold ja;by_cases h:place r p=2;{simp[h]};·simp[h,ih]
def mv(v p:aA):aA:=(p.1+v.1,p.2+v.2)
structure RG(X:aF):Prop where
 bw:∀r∈X.flatten,eU r
 from_:∀r∈X.flatten,∀p∈r,∃q,(p,q)∈aB r
theorem Jv{l:List aA}(h:l≠[]):∃p∈l,∀q∈l,q=p\/bI p q:=by induction l with|nil=>exact absurd rfl h|cons a t ih=>by_cases ht:t=[];{subst ht;exact⟨a,by simp,by simp⟩};·obtain⟨p,hp,hl⟩:=ih ht;rcases mQ a p with k|k|k;{refine⟨a,by simp,λq hq=>?_⟩;rcases v7.1 hq with e|hq;{exact .inl e};·rcases hl q hq with e|e;{rw[e];exact .inr k};·exact .inr (uC k e)};{refine⟨a,by simp,λq hq=>?_⟩;rcases v7.1 hq with e|hq;{exact .inl e};·rw[k];exact hl q hq};·refine⟨p,by simp[hp],λq hq=>?_⟩;rcases v7.1 hq with e|hq;{rw[e];exact .inr k};·exact hl q hq
theorem Mu{other:aF}{both:List bg}{s:bg}{m:aL}:∀{l:List bg},gU other both s m l=none->∃t∈l,has t.1 t.2 m.1 m.2/\bN (along s) (along t)=0:=by
 intro l;induction l with|nil=>intro h;unfold gU at h;split at h<;>cases h|cons t l ih=>intro h;unfold gU at h;split at h;{rename_i hb;unfold lQ at h;split at h;{cases h};·split at h;{cases h};·exact⟨t,by simp,IT hb,by omega⟩};·obtain⟨u,hu,k⟩:=ih h;exact⟨u,by simp[hu],k⟩
theorem aZ{l:Poly}{s:bg}:s∈aN l↔∃r∈l,s∈aB r:=by
 unfold aN;rw[aak]
structure VR(r:Ring):Prop where
 shut:Shut r
 tw:twice r=false
 self:jj r=false
theorem qo{m:aF}(h:least m=0):gT 1 m=false/\gT 2 m=false/\gT 3 m=false/\gT 4 m=false/\gG m=false:=by
 unfold least at h;cases h1:gT 1 m<;>cases h2:gT 2 m<;>cases h3:gT 3 m<;>cases h4:gT 4 m<;>cases h5:gG m<;>simp_all
theorem s9{m:aF}(hg:Good m)(h:gT 1 m=false):∀l∈m,∀r∈l,VR r:=by
 intro l hl r hr;have:(twice r||jj r)=false:=(by cases hx:(twice r||jj r)with|false=>rfl|true=>have:gT 1 m=true:=(by unfold gT;refine AF.2 ⟨l,hl,?_⟩;unfold iZ simple;simp only[afq,ad9];exact AF.2 ⟨r,hr,hx⟩);rw[h]at this;cases this);rw[abA]at this;exact⟨hg.shut l hl r hr,this.1,this.2⟩
theorem VR.bw{r:Ring}(h:VR r):eU r:=Gt h.shut h.tw
theorem VR.meet{r:Ring}(h:VR r){i j:Nat}(hij:i<j)(hj:j+1<r.length):cI (aj r i,aj r (i+1)) (aj r j,aj r (j+1))=kF (r.length-1) i j:=by
 have hs:=h.self;cases hx:decide (cI (Eb (aB r) i) (Eb (aB r) j)≠kF (aB r).length i j)with|true=>have:jj r=true:=(by unfold jj;exact cJ (i:=j) (by rw[b8];omega) (cJ (i:=i) hij hx));rw[hs]at this;cases this|false=>have:=aeH hx;rw[A7 (by omega),A7 (by omega),b8]at this;exact Decidable.not_not.1 this
theorem VR.adj{r:Ring}(h:VR r){i:Nat}(h1:1<=i)(hi:i<r.length):cI (aj r (i-1),aj r i) (aj r i,dA r i)=1:=by
 have h4:=h.shut.len;unfold dA;by_cases hl:i+1<r.length;{rw[mu hl];have:=h.meet (i:=i-1) (j:=i) (by omega) hl;rw[show i-1+1=i by omega]at this;rw[this];unfold kF;rw[mu (by omega)]};·rw[ef hl,ij];have:=h.meet (i:=0) (j:=i-1) (by omega) (by omega);rw[show i-1+1=i by omega,h.shut.eq,show r.length-1=i by omega]at this;rw[this];unfold kF;rw[mu (by omega)]
theorem QO{r:Ring}(h:Shut r){i:Nat}(hi:i<r.length):dA r i∈r:=by
 have h4:=h.len;unfold dA;split;{rename_i k;exact So (aG k)};·exact So (aG (by omega))
theorem lT{r:Ring}{i:Nat}(hi:i<r.length):aj r i∈r:=So (aG hi)
theorem Jw{p x y:aA}(hx:bI p x)(hy:bI p y):dw (p,x) (p,y)=3:=by
 unfold dw;simp only;rw[ef (λk=>gN k k)];split<;>first|rfl|rw[mu hy]|rw[mu hx]
theorem Gx{p x y:aA}(hx:bI x p)(hy:bI y p):dw (x,p) (y,p)=3:=by
 unfold dw;simp only;rw[ef (c:=bI p p) (λk=>gN k k)];split<;>first|rfl|rw[mu hy]|rw[mu hx]
theorem VR.turns{r:Ring}(h:VR r){i:Nat}(h1:1<=i)(hi:i<r.length)(he:(∀p∈r,p=aj r i\/bI (aj r i) p)\/(∀p∈r,p=aj r i\/bI p (aj r i))):turns r i=true:=by
 unfold Vd.turns;rw[dj h1,abL,KK];intro hz;have QS:=h.adj h1 hi;have hl:=h.bw;have s1:aj r (i-1)≠aj r i:=(by have:=hl (aj r (i-1),aj r (i-1+1)) (So (cN (aG (by omega)) (aG (by omega))));rw[show i-1+1=i by omega]at this;exact this);have s2:aj r i≠dA r i:=(by have h4:=h.shut.len;unfold dA;split;{rename_i k;exact hl (aj r i,aj r (i+1)) (So (cN (aG (by omega)) (aG k)))};·have:=hl (aj r 0,aj r 1) (So (cN (aG (by omega)) (aG (by omega))));rw[h.shut.eq,show r.length-1=i by omega]at this;exact this);have cz:cr (aj r (i-1)) (aj r i) (dA r i) 1=0:=(kN _).1 hz;have Jx:=lT (r:=r) (i:=i-1) (by omega);have hm2:=QO h.shut hi;generalize aj r (i-1)=x at*;generalize dA r i=y at*;generalize aj r i=p at*;have z1:=mw x p;obtain⟨z3,z4⟩:=mD s1 z1 cz;have hm:cI (x,p) (p,y)=dw (fwd x p) (fwd p y):=(by unfold cI Vd.meet;simp[z1,cz,z3,z4,sg]);rw[hm]at QS;rcases he with he|he;{have b1:bI p x:=(by rcases he x Jx with e|e;exact absurd e s1;exact e);have b2:bI p y:=(by rcases he y hm2 with e|e;exact absurd e.symm s2;exact e);have e1:fwd x p=(p,x):=(by unfold fwd;rw[mu b1]);have e2:fwd p y=(p,y):=(by unfold fwd;rw[ef (λk=>gN b2 k)]);rw[e1,e2,Jw b1 b2]at QS;omega};·have b1:bI x p:=(by rcases he x Jx with e|e;exact absurd e s1;exact e);have b2:bI y p:=(by rcases he y hm2 with e|e;exact absurd e.symm s2;exact e);have e1:fwd x p=(x,p):=(by unfold fwd;rw[ef (λk=>gN b1 k)]);have e2:fwd p y=(y,p):=(by unfold fwd;rw[mu b2]);rw[e1,e2,Gx b1 b2]at QS;omega
theorem Jy{l:List aA}(h:l≠[]):∃p∈l,∀q∈l,q=p\/bI q p:=by induction l with|nil=>exact absurd rfl h|cons a t ih=>by_cases ht:t=[];{subst ht;exact⟨a,by simp,by simp⟩};·obtain⟨p,hp,hl⟩:=ih ht;rcases mQ p a with k|k|k;{refine⟨a,by simp,λq hq=>?_⟩;rcases v7.1 hq with e|hq;{exact .inl e};·rcases hl q hq with e|e;{rw[e];exact .inr k};·exact .inr (uC e k)};{refine⟨a,by simp,λq hq=>?_⟩;rcases v7.1 hq with e|hq;{exact .inl e};·rw[<-k];exact hl q hq};·refine⟨p,by simp[hp],λq hq=>?_⟩;rcases v7.1 hq with e|hq;{rw[e];exact .inr k};·exact hl q hq
theorem lU{r:Ring}(h:Shut r){p:aA}(hp:p∈r):∃i,1<=i/\i<r.length/\aj r i=p:=by
 obtain⟨i,hi,e⟩:=aer hp;have e':aj r i=p:=(by have:=aG hi;rw[AI hi,e]at this;exact(DP this).symm);have h4:=h.len;by_cases h0:i=0;{exact⟨r.length-1,by omega,by omega,by rw[<-h.eq,<-h0];exact e'⟩};·exact⟨i,by omega,hi,e'⟩
theorem td{r:Ring}{p:aA}:p∈aC r↔∃i,i<r.length/\Vd.turns r i=true/\aj r i=p:=by
 unfold aC cK;simp only[As,Rr,DS];constructor;{rintro⟨i,⟨h1,h2⟩,h3⟩;exact⟨i,h1,h2,h3⟩};·rintro⟨i,h1,h2,h3⟩;exact⟨i,⟨h1,h2⟩,h3⟩
theorem QT{f:Nat->aA}{l:List Nat}(h:l.Nodup)(hf:∀x∈l,∀y∈l,f x=f y->x=y):(l.map f).Nodup:=by induction l with|nil=>exact aeG|cons a t ih=>rw[UP]at h;rw[aa1,UP];refine⟨?_,ih h.2 λx hx y hy=>hf x (by simp[hx]) y (by simp[hy])⟩;intro hm;obtain⟨b,hb,e⟩:=As.1 hm;have:=hf b (by simp[hb]) a (by simp) e;exact h.1 (this▸hb)
theorem VR.mU{r:Ring}(h:VR r):(aC r).Nodup:=by
 unfold aC cK;refine QT (List.Pairwise.filter _ afs) ?_;intro x hx y hy e;have hx1:=Rr.1 hx;have hy1:=Rr.1 hy;have hx2:=DS.1 hx1.1;have QU:=DS.1 hy1.1;have hx3:1<=x:=(by have:=hx1.2;unfold Vd.turns at this;simp only[RC,KK]at this;exact this.1);have hy3:1<=y:=(by have:=hy1.2;unfold Vd.turns at this;simp only[RC,KK]at this;exact this.1);rcases aco x y with k|k|k;{have:twice r=true:=fF.2 ⟨x,y,hx3,k,QU,e⟩;rw[h.tw]at this;cases this};{exact k};·have:twice r=true:=fF.2 ⟨y,x,hy3,k,hx2,e.symm⟩;rw[h.tw]at this;cases this
theorem VR.pY{r:Ring}(h:VR r):2<=(aC r).length:=by
 have hne:r≠[]:=(by intro e;have:=h.shut.len;rw[e]at this;simp at this);obtain⟨p,hp,Jz⟩:=Jv hne;obtain⟨q,hq,hql⟩:=Jy hne;obtain⟨i,i1,i2,i3⟩:=lU h.shut hp;obtain⟨j,j1,j2,j3⟩:=lU h.shut hq;have m1:p∈aC r:=td.2 ⟨i,i2,h.turns i1 i2 (.inl (by rw[i3];exact Jz)),i3⟩;have m2:q∈aC r:=td.2 ⟨j,j2,h.turns j1 j2 (.inr (by rw[j3];exact hql)),j3⟩;have hpq:p≠q:=(by intro e;have h4:=h.shut.len;have h0:=lT (r:=r) (i:=1) (by omega);have h2:=lT (r:=r) (i:=2) (by omega);have hl:=h.bw (aj r 1,aj r 2) (So (cN (aG (by omega)) (aG (by omega))));have one:∀x∈r,x=p:=(by intro x hx;rcases Jz x hx with k|k;{exact k};·rcases hql x hx with k2|k2;{rw[k2,e]};·rw[<-e]at k2;exact(gN k k2).elim);exact hl (by rw[one _ h0,one _ h2]));match hc:aC r with|[]=>rw[hc]at m1;cases m1|[x]=>rw[hc]at m1 m2;simp at m1 m2;exact absurd (m1.trans m2.symm) hpq|x::y::t=>simp
theorem rH{r:Ring}(h:0<(aC r).length)(b:Bool):(aI r b).length=(aC r).length+1:=by
 unfold aI;rw[ef (by omega)];simp
theorem nE{r:Ring}(h:0<(aC r).length)(b:Bool){i:Nat}(hi:i<(aC r).length+1):aj (aI r b) i=aj (aC r) ((bD (aC r)+i*ld (aC r) b)%(aC r).length):=by
 unfold aI;rw[ef (by omega)];unfold aj;rw[mT,An,aaT hi];rfl
theorem B0(v:Ring)(b:Bool):ld v b=1\/ld v b=v.length-1:=by
 unfold ld;split;exact .inl rfl;exact .inr rfl
theorem Uz{v:Ring}(h:v.Nodup){i j:Nat}(hi:i<v.length)(hj:j<v.length)(e:aj v i=aj v j):i=j:=by
 have h1:=aG hi;have h2:=aG hj;rw[e,<-h2]at h1;exact(List.getElem?_inj hi h).1 h1
theorem UA{a k s n:Nat}(hn:2<=n)(hs:s=1\/s=n-1):(a+k*s)%n≠(a+(k+1)*s)%n:=by
 have e:a+(k+1)*s=a+k*s+s:=(by rw[Nat.add_mul];omega);rw[e];generalize a+k*s=x;intro h;have h1:(x+s)%n=(x%n+s)%n:=(acq x n s).symm;rw[h1]at h;have h2:=aas x (show 0<n by omega);generalize x%n=y at*;rcases hs with rfl|rfl;{by_cases h3:y+1<n;{rw[RK h3]at h;omega};·rw[show y+1=n by omega,acp]at h;omega};·by_cases h3:y=0;{rw[h3,SO,RK (by omega)]at h;omega};·rw[Nat.mod_eq_sub_mod (by omega),RK (by omega)]at h;omega
theorem VR.QV{r:Ring}(h:VR r)(b:Bool):eU (aI r b):=by
 have h2:=h.pY;intro s hs;obtain⟨i,hi,rfl⟩:=iX hs;rw[rH (by omega)]at hi;rw[nE (by omega) b (by omega),nE (by omega) b hi];intro e;have:=Uz h.mU (aas _ (by omega)) (aas _ (by omega)) e;exact UA h2 (B0 _ b) this
theorem QW(m:aF):∀(is:List Nat)(o:aF),(∀i∈is,i<m.length)->∀l∈is.foldl (Mh m) o,l∈m\/l∈o:=by
 intro is;induction is with|nil=>intro o _ l hl;exact .inr hl|cons i t ih=>intro o hi l hl;rw[aci]at hl;rcases ih _ (λx hx=>hi x (by simp[hx])) l hl with h|h;{exact .inl h};·unfold Mh at h;rcases List.mem_or_eq_of_mem_set h with h|h;{exact .inr h};·exact .inl (h▸aJ (hi i (by simp)))
theorem Ad{m:aF}{l:Poly}(h:l∈eE m):l∈m\/l=[]:=by
 unfold eE Uj at h;rcases QW m _ _ (λi hi=>DS.1 hi) l h with h|h;{exact .inl h};·exact .inr (List.eq_of_mem_replicate h)
theorem B6{m:aF}{r:Ring}(h:r∈(form m).flatten):∃l∈m,∃o∈l,∃b,r=aI o b:=by
 obtain⟨l,hl,hr⟩:=By.1 h;unfold form at hl;rcases Ad hl with h1|h1;{obtain⟨l0,h0,rfl⟩:=As.1 h1;refine⟨l0,h0,?_⟩;cases l0 with|nil=>cases hr|cons o t=>rcases v7.1 hr with e|e;{exact⟨o,by simp,true,e⟩};·obtain⟨l1,h2,h3⟩:=By.1 e;rcases Ad h2 with h4|h4;{obtain⟨o1,h5,rfl⟩:=As.1 h4;exact⟨o1,by simp[h5],false,by simpa using h3⟩};·rw[h4]at h3;cases h3};·rw[h1]at hr;cases hr
theorem rI{a b z:aA}(h:has a b z 1):¬bI z (fwd a b).1/\¬bI (fwd a b).2 z:=by
 obtain⟨h0,h1,h2⟩:=h;have key:∀{a b:aA},¬bI b a->cr a b z 1=0->fq (a.1*1) z.1 (b.1*1)->fq (a.2*1) z.2 (b.2*1)->¬bI z a/\¬bI b z:=(by intro a b hab h0 h1 h2;unfold cr at h0;unfold fq at h1 h2;unfold bI at*;simp only[DH]at h0 h1 h2;by_cases e:a.1=b.1;{omega};·have hlt:a.1<b.1:=(by omega);constructor;{rintro(g|⟨g1,g2⟩);{omega};·rw[g1,agK,DE,afW]at h0;rcases BE.1 h0 with q|q<;>omega};·rintro(g|⟨g1,g2⟩);{omega};·have:(b.1-a.1)*(z.2-b.2)=0:=(by have:(b.1-a.1)*(z.2-b.2)=(b.1-a.1)*(z.2-a.2)-(b.2-a.2)*(z.1-a.1):=(by rw[<-g1];grind);omega);rcases BE.1 this with q|q<;>omega);unfold fwd;by_cases hb:bI b a;{rw[mu hb];exact key (a:=b) (b:=a) (λh=>gN hb h) (by rw[fW,h0];rfl) (by unfold fq at*;omega) (by unfold fq at*;omega)};·rw[ef hb];exact key hb h0 h1 h2
theorem QX{s t:bg}{z:aA}(h1:¬bI z s.1)(h2:¬bI s.2 z)(h3:¬bI z t.1)(h4:¬bI t.2 z):dw s t≠0:=by
 unfold dw;have f:¬bI z (if bI s.1 t.1 then t.1 else s.1):=(by split<;>assumption);have l:¬bI (if bI t.2 s.2 then t.2 else s.2) z:=(by split<;>assumption);generalize(if bI s.1 t.1 then t.1 else s.1)=F at*;generalize(if bI t.2 s.2 then t.2 else s.2)=L at*;by_cases c1:bI F L;{simp[c1]};·by_cases c2:F=L;{subst c2;simp[c1]};·exfalso;rcases mQ F L with g|g|g;{exact c1 g};{exact c2 g};·unfold bI at*;omega
theorem B7{s t:bg}{z z':aA}(hz:bI z z')(h1:¬bI z s.1)(h4:¬bI z t.1)(k2:¬bI s.2 z')(k4:¬bI t.2 z'):dw s t=3:=by
 unfold dw;have f:¬bI z (if bI s.1 t.1 then t.1 else s.1):=(by split<;>assumption);have l:¬bI (if bI t.2 s.2 then t.2 else s.2) z':=(by split<;>assumption);generalize(if bI s.1 t.1 then t.1 else s.1)=F at*;generalize(if bI t.2 s.2 then t.2 else s.2)=L at*;have:bI F L:=(by unfold bI at*;omega);simp[this]
theorem EO{x y p q k z:Int}(hk:0<k)(hp:0<=p)(hq:0<=q)(hs:0<p+q)(e:k*z=p*x+q*y)(hz:z=0):¬(0<x*y):=by
 intro h;rw[hz,DE]at e;rcases(s8 x y).2 h with⟨g1,g2⟩|⟨g1,g2⟩;{by_cases p1:0<p;{have:=pp p1 g1;have:=p0 hq (OR g2);omega};·have:=p0 hp (OR g1);have:=pp (show 0<q by omega) g2;omega};·by_cases p1:0<p;{have:=pn p1 g1;have:=m0 hq (OR g2);omega};·have:=m0 hp (OR g1);have:=pn (show 0<q by omega) g2;omega
theorem Bb(x y:Int):sg x*sg y>0↔0<x*y:=by
 rcases bM x with⟨h,e⟩|⟨h,e⟩|⟨h,e⟩<;>rcases bM y with⟨k,f⟩|⟨k,f⟩|⟨k,f⟩<;>rw[e,f];{have:=pp h k;omega};{rw[k];simp};{have:=pn h k;omega};{rw[h];simp};{rw[h];simp};{rw[h];simp};{have:=np h k;omega};{rw[k];simp};·have:=OQ h k;omega
theorem jd{a b c d z:aA}(hab:a≠b)(hcd:c≠d)(h1:has a b z 1)(h2:has c d z 1):meet a b c d≠0:=by
 have k1:=cO hab;have k2:=cO hcd;obtain⟨p1,p2⟩:=dz hab h1;obtain⟨q1,q2⟩:=dz hcd h2;have e1:=o7 h2.1 a b;have e2:=o7 h1.1 c d;have n1:=EO k2 (by omega) q1 (by omega) e1 h1.1;have n2:=EO k1 (by omega) p1 (by omega) e2 h2.1;unfold meet;simp only;split;{obtain⟨f1,f2⟩:=rI h1;obtain⟨f3,f4⟩:=rI h2;exact QX f1 f2 f3 f4};·rw[ef (by rw[Bb,Bb];omega)];split<;>omega
theorem tg{a b z z':aA}(hz:z≠z')(h1:cr a b z 1=0)(h2:cr a b z' 1=0){c:aA}(h3:cr z z' c 1=0)(hab:a≠b):cr a b c 1=0:=by
 have hk:=cO hab;have e:=kB h1 h2 c;rw[h3,DE]at e;rcases BE.1 e.symm with q|q;{exact absurd (j6 hab h1 h2 (by omega)) hz};·exact q
theorem Bc{a b z z':aA}(hz:z≠z')(hab:a≠b)(h1:cr a b z 1=0)(h2:cr a b z' 1=0):cr z z' a 1=0/\cr z z' b 1=0:=by
 have hk:=cO hab;have e1:=kB h1 h2 a;have e2:=kB h1 h2 b;rw[ni,DE]at e1;rw[mw,DE]at e2;constructor;{rcases BE.1 e1 with q|q<;>omega};·rcases BE.1 e2 with q|q<;>omega
theorem e8{a b c d z z':aA}(hab:a≠b)(hcd:c≠d)(hz:z≠z')(h1:has a b z 1)(h2:has c d z 1)(h3:has a b z' 1)(h4:has c d z' 1):meet a b c d=3:=by
 obtain⟨x1,x2⟩:=Bc hz hab h1.1 h3.1;obtain⟨y1,y2⟩:=Bc hz hcd h2.1 h4.1;have z1:cr a b c 1=0:=tg hz h1.1 h3.1 y1 hab;have z2:cr a b d 1=0:=tg hz h1.1 h3.1 y2 hab;have z3:cr c d a 1=0:=tg hz h2.1 h4.1 x1 hcd;have z4:cr c d b 1=0:=tg hz h2.1 h4.1 x2 hcd;unfold meet;simp only[z1,z2,z3,z4];rw[mu (by simp[sg])];obtain⟨f1,f2⟩:=rI h1;obtain⟨f3,f4⟩:=rI h2;obtain⟨g1,g2⟩:=rI h3;obtain⟨g3,g4⟩:=rI h4;rcases mQ z z' with h|h|h;{exact B7 h f1 f3 g2 g4};{exact absurd h hz};·exact B7 h g1 g3 f2 f4
theorem fL(p1:Ring)(a b:aA)(p2:Ring):aB (p1++a::b::p2)=aB (p1++[a])++(a,b)::aB (b::p2):=by induction p1 with|nil=>rfl|cons x p1 ih=>cases p1 with|nil=>rfl|cons y p1=>rw[Kx,Kx,dM,Kx,Kx,dM];rw[Kx,Kx]at ih;rw[ih];rfl
def lN(p1:Ring)(a b:aA)(p2:Ring):List bg:=aB (p1++[a])++aB (b::p2)
theorem dP{p1:Ring}{a b:aA}{p2:Ring}{s:bg}:s∈aB (p1++a::b::p2)↔s=(a,b)\/s∈lN p1 a b p2:=by
 rw[fL];unfold lN;simp only[gd,v7];constructor;{rintro(h|h|h);{exact .inr (.inl h)};{exact .inl h};·exact .inr (.inr h)};·rintro(h|h|h);{exact .inr (.inl h)};{exact .inl h};·exact .inr (.inr h)
theorem JA(p1:Ring)(a b:aA)(p2:Ring)(x:aL):bA (aB (p1++a::b::p2)) x=(jh a b x.1 x.2^^bA (lN p1 a b p2) x):=by
 rw[fL,c9,bL];unfold lN;rw[c9];generalize bA (aB (p1++[a])) x=u;generalize bA (aB (b::p2)) x=v;generalize jh a b x.1 x.2=w;cases u<;>cases v<;>cases w<;>rfl
theorem y7{p1:Ring}{a b:aA}{p2:Ring}(hr:Ends (p1++a::b::p2)){x m:aA}(h:∀s∈lN p1 a b p2,Aa x m s.1 s.2)(hx:∀s∈lN p1 a b p2,¬Xs x m s.1 s.2):(bA (lN p1 a b p2) (x,1)^^bA (lN p1 a b p2) (m,1))=(qn x m a^^qn x m b):=by
 unfold lN at*;obtain⟨u,t,e⟩:∃u t,p1++[a]=u::t:=(by cases p1 with|nil=>exact⟨a,[],rfl⟩|cons y p1=>exact⟨y,p1++[a],rfl⟩);have k1:=wB x m t u (λs hs=>h s (by rw[gd,e];exact .inl hs));have k2:=wB x m p2 b (λs hs=>h s (by rw[gd];exact .inr hs));have l1:(u::t).getLast (by simp)=a:=(by have:(p1++[a]).getLast (by simp)=a:=(by simp);simpa only[e]using this);have l2:u=(b::p2).getLast (by simp):=(by unfold Ends at hr;have h1:(p1++a::b::p2).head?=some u:=(by have:p1++a::b::p2=(p1++[a])++b::p2:=(by simp);rw[this,e];rfl);have h2:(p1++a::b::p2).getLast?=some ((b::p2).getLast (by simp)):=(by rw[acF,abU,adV (by simp)];rfl);rw[h1,h2]at hr;exact DP hr);rw[s7 (λs hs=>hx s (by rw[gd,e];exact .inl hs)),l1]at k1;rw[s7 (λs hs=>hx s (by rw[gd];exact .inr hs)),<-l2]at k2;rw[c9,c9,e];revert k1 k2;generalize bA (aB (u::t)) (x,1)=x1;generalize bA (aB (u::t)) (m,1)=x2;generalize bA (aB (b::p2)) (x,1)=x3;generalize bA (aB (b::p2)) (m,1)=x4;generalize qn x m u=x5;generalize qn x m a=x6;generalize qn x m b=x7;revert x1 x2 x3 x4 x5 x6 x7;decide
def rJ(a b:aA):Bool:=decide (a.2<b.2\/(a.2=b.2/\b.1<a.1))
theorem B8{a b:aA}(h:a≠b):rJ b a=!rJ a b:=by
 unfold rJ;by_cases c:a.2<b.2\/(a.2=b.2/\b.1<a.1);{rw[dj c,gx (by omega)];rfl};·rw[gx c,dj];{rfl};·by_cases e:a.2=b.2;{have:a.1≠b.1:=λq=>h (aaU q e);omega};·omega
structure gj(a b m:aA):Prop where
 on:has a b m 1
 na:m≠a
 nb:m≠b
theorem iI{a b m:aA}(hab:a≠b)(h:gj a b m):0<pos a b m/\pos a b m<kk a b:=by
 obtain⟨h1,h2⟩:=dz hab h.on;constructor;{rcases ad8 h1 with g|g;{exact g};·exact absurd (j6 hab h.on.1 (ni a b) (by rw[fh];omega)) h.na};·rcases ad8 h2 with g|g;{exact g};·exact absurd (j6 hab h.on.1 (mw a b) (by rw[gL];omega)) h.nb
theorem B9{a b m x:aA}(hab:a≠b)(h:gj a b m):kk a b*cr x m a 1=-(pos a b m)*cr a b x 1/\kk a b*cr x m b 1=(kk a b-pos a b m)*cr a b x 1:=by
 obtain⟨e1,e2⟩:=xH h.on.1;have h0:=h.on.1;have f:cr a b x 1=(m.1-x.1)*(b.2-a.2)-(m.2-x.2)*(b.1-a.1):=(by have:=OW h0 x;rw[<-this];grind);have g1:cr x m a 1=(m.1-x.1)*(a.2-m.2)-(m.2-x.2)*(a.1-m.1):=(by unfold cr;grind);have g2:cr x m b 1=(m.1-x.1)*(b.2-m.2)-(m.2-x.2)*(b.1-m.1):=(by unfold cr;grind);have i1:kk a b*(a.2-m.2)=-(pos a b m)*(b.2-a.2):=(by grind);have i2:kk a b*(a.1-m.1)=-(pos a b m)*(b.1-a.1):=(by grind);have i3:kk a b*(b.2-m.2)=(kk a b-pos a b m)*(b.2-a.2):=(by grind);have i4:kk a b*(b.1-m.1)=(kk a b-pos a b m)*(b.1-a.1):=(by grind);rw[f,g1,g2];generalize kk a b=K at*;generalize pos a b m=D at*;generalize m.1-x.1=u at*;generalize m.2-x.2=v at*;constructor;{have:K*(u*(a.2-m.2)-v*(a.1-m.1))=u*(K*(a.2-m.2))-v*(K*(a.1-m.1)):=(by grind);rw[this,i1,i2];grind};·have:K*(u*(b.2-m.2)-v*(b.1-m.1))=u*(K*(b.2-m.2))-v*(K*(b.1-m.1)):=(by grind);rw[this,i3,i4];grind
theorem OY{a b m:aA}(hab:a≠b)(h:gj a b m):(a.2<m.2/\m.2<b.2)\/(b.2<m.2/\m.2<a.2)\/(a.2=m.2/\m.2=b.2):=by
 have hk:=cO hab;obtain⟨p1,p2⟩:=iI hab h;obtain⟨e1,e2⟩:=xH h.on.1;have i1:kk a b*(m.2-a.2)=pos a b m*(b.2-a.2):=(by grind);have i3:kk a b*(b.2-m.2)=(kk a b-pos a b m)*(b.2-a.2):=(by grind);have s1:=bT hk i1;have s2:=bT hk i3;have t1:=bT p1 (rfl:pos a b m*(b.2-a.2)=_);have t2:=bT (show 0<kk a b-pos a b m by omega) (rfl:(kk a b-pos a b m)*(b.2-a.2)=_);omega
theorem Ca{a b m x:aA}(hab:a≠b)(h:gj a b m)(hx:0<cr a b x 1):(jh a b x 1^^(qn x m a^^qn x m b))=rJ a b:=by
 have hk:=cO hab;obtain⟨p1,p2⟩:=iI hab h;obtain⟨e1,e2⟩:=B9 (x:=x) hab h;have s1:=bT hk e1;have s2:=bT hk e2;have t1:-(pos a b m)*cr a b x 1<0:=np (by omega) hx;have t2:0<(kk a b-pos a b m)*cr a b x 1:=pp (by omega) hx;have ca:cr x m a 1<0:=s1.2.1.2 t1;have cb:0<cr x m b 1:=s2.1.2 t2;have ca':cr m x a 1=-cr x m a 1:=fW x m a 1;have cb':cr m x b 1=-cr x m b 1:=fW x m b 1;have hy:=OY hab h;rw[j8];unfold qn dR rJ;have flat:a.2=b.2->cr a b x 1=(b.1-a.1)*(x.2-a.2):=(by intro e;unfold cr;rw[e];simp);have hf:a.2=b.2->(b.1<a.1↔x.2<a.2)/\x.2≠a.2:=(by intro e;have:=flat e;rw[this]at hx;have:=(s8 (b.1-a.1) (x.2-a.2)).2 hx;omega);clear e1 e2 s1 s2 t1 t2 flat;rcases aaf x.2 m.2 with g|g|g;{rw[mu g,mu g];by_cases c1:a.2-x.2<=0/\0<b.2-x.2/\0<cr a b x 1\/b.2-x.2<=0/\0<a.2-x.2/\cr a b x 1<0<;>by_cases c2:x.2<a.2/\a.2<=m.2/\cr x m a 1<0<;>by_cases c3:x.2<b.2/\b.2<=m.2/\cr x m b 1<0<;>by_cases c4:a.2<b.2\/(a.2=b.2/\b.1<a.1)<;>first|(simp only[c1,c2,c3,c4,aeQ,aeu];rfl)|(exfalso;omega)};·rw[ef (by omega),ef (by omega),ef (by omega),ef (by omega)];by_cases c1:a.2-x.2<=0/\0<b.2-x.2/\0<cr a b x 1\/b.2-x.2<=0/\0<a.2-x.2/\cr a b x 1<0<;>by_cases c4:a.2<b.2\/(a.2=b.2/\b.1<a.1)<;>first|(simp only[c1,c4,aeQ,aeu];rfl)|(exfalso;omega)
 ·rw[ef (by omega),mu g,ef (by omega),mu g];by_cases c1:a.2-x.2<=0/\0<b.2-x.2/\0<cr a b x 1\/b.2-x.2<=0/\0<a.2-x.2/\cr a b x 1<0<;>by_cases c2:m.2<a.2/\a.2<=x.2/\cr m x a 1<0<;>by_cases c3:m.2<b.2/\b.2<=x.2/\cr m x b 1<0<;>by_cases c4:a.2<b.2\/(a.2=b.2/\b.1<a.1)<;>first|(simp only[c1,c2,c3,c4,aeQ,aeu];rfl)|(exfalso;omega)
theorem Cb(a b x:aA):jh a b x 1=jh b a x 1:=by
 rw[j8,j8,fW a b x 1];exact IS.2 (by omega)
theorem JB{a b m x:aA}(hab:a≠b)(h:gj a b m)(hx:cr a b x 1<0):(jh a b x 1^^(qn x m a^^qn x m b))=!rJ a b:=by
 have:=Ca (a:=b) (b:=a) (m:=m) (x:=x) (ab3 hab) ⟨dY.1 h.on,h.nb,h.na⟩ (by rw[fW];omega);rw[<-B8 hab,<-this,Cb,Bool.xor_comm (qn x m a)]
theorem oL{p1 p2:Ring}{i:Nat}(h:i<p1.length):aj (p1++p2) i=aj p1 i:=by
 unfold aj;rw[mT,mT,EV h]
theorem lq{p1 p2:Ring}(i:Nat):aj (p1++p2) (p1.length+i)=aj p2 i:=by
 unfold aj;rw[mT,mT,AN (by omega),show p1.length+i-p1.length=i by omega]
theorem UB{p1:Ring}{a b:aA}{p2:Ring}{s:bg}(h:s∈lN p1 a b p2):∃j,j≠p1.length/\j+1<(p1++a::b::p2).length/\s=(aj (p1++a::b::p2) j,aj (p1++a::b::p2) (j+1)):=by
 unfold lN at h;rcases gd.1 h with h|h;{obtain⟨j,hj,e⟩:=iX h;have hj':j+1<p1.length+1:=(by simpa using hj);refine⟨j,by omega,by simp;omega,?_⟩;have e2:p1++a::b::p2=(p1++[a])++b::p2:=(by simp);rw[e2,oL (p1:=p1++[a]) (i:=j) (by simp;omega),oL (p1:=p1++[a]) (i:=j+1) (by simp;omega)];exact e};·obtain⟨j,hj,e⟩:=iX h;refine⟨p1.length+(1+j),by omega,by simp at hj⊢;omega,?_⟩;have e2:p1++a::b::p2=(p1++[a])++b::p2:=(by simp);have l1:p1.length+(1+j)=(p1++[a]).length+j:=(by simp;omega);rw[e2,l1,lq,show(p1++[a]).length+j+1=(p1++[a]).length+(j+1)by omega,lq];exact e
theorem OZ(p1:Ring)(a b:aA)(p2:Ring):aj (p1++a::b::p2) p1.length=a/\aj (p1++a::b::p2) (p1.length+1)=b:=by
 constructor;{have:=lq (p1:=p1) (p2:=a::b::p2) 0;simpa[aj]using this};·rw[lq 1];rfl
theorem VR.other{p1:Ring}{a b:aA}{p2:Ring}(h:VR (p1++a::b::p2)){s:bg}(hs:s∈lN p1 a b p2):Vd.meet a b s.1 s.2=0\/(Vd.meet a b s.1 s.2=1/\(s.1=b\/s.2=a)):=by
 obtain⟨j,hj,hl,rfl⟩:=UB hs;obtain⟨ha,hb⟩:=OZ p1 a b p2;have hlen:(p1++a::b::p2).length=p1.length+2+p2.length:=(by simp;omega);have heq:=h.shut.eq;rcases NO j p1.length with g|g;{have k:=h.meet (i:=j) (j:=p1.length) g (by omega);rw[ha,hb]at k;unfold cI at k;simp only at k;rw[yX];simp only;rw[k];unfold kF;by_cases c:j+1=p1.length\/(j=0/\p1.length+1=(p1++a::b::p2).length-1);{rw[mu c];refine .inr ⟨rfl,?_⟩;rcases c with c|⟨c,c'⟩;{right;rw[c];exact ha};·left;rw[c,heq,<-c'];exact hb};·rw[ef c];exact .inl rfl};·have k:=h.meet (i:=p1.length) (j:=j) (by omega) hl;rw[ha,hb]at k;unfold cI at k;simp only at k⊢;rw[k];unfold kF;by_cases c:p1.length+1=j\/(p1.length=0/\j+1=(p1++a::b::p2).length-1);{rw[mu c];refine .inr ⟨rfl,?_⟩;rcases c with c|⟨c,c'⟩;{left;rw[<-c];exact hb};·right;rw[c',<-heq,<-c];exact ha};·rw[ef c];exact .inl rfl
theorem VR.here{p1:Ring}{a b:aA}{p2:Ring}(h:VR (p1++a::b::p2)):a≠b:=h.bw (a,b) (dP.2 (.inl rfl))
theorem VR.jO{p1:Ring}{a b:aA}{p2:Ring}(h:VR (p1++a::b::p2)){s:bg}(hs:s∈lN p1 a b p2):s.1≠s.2:=h.bw s (dP.2 (.inr hs))
theorem VR.off{p1:Ring}{a b:aA}{p2:Ring}(h:VR (p1++a::b::p2)){s:bg}(hs:s∈lN p1 a b p2){m:aA}(hm:gj a b m):¬has s.1 s.2 m 1:=by
 intro hh;rcases h.other hs with e|⟨e,c⟩;{exact jd h.here (h.jO hs) hm.on hh e};·rcases c with c|c;{have:=e8 h.here (h.jO hs) hm.nb hm.on hh (gy a b) (by rw[<-c];exact iW _ _);omega};·have:=e8 h.here (h.jO hs) hm.na hm.on hh (iW a b) (by rw[<-c];exact gy _ _);omega
theorem UC{a b m m' c:aA}(hab:a≠b)(hm:gj a b m)(hm':gj a b m')(h:has m m' c 1):gj a b c:=by
 by_cases e:m=m';{subst e;have:c=m:=(by have h1:=h.2.1;have h2:=h.2.2;unfold fq at h1 h2;exact aaU (by omega) (by omega));rw[this];exact hm};·obtain⟨h0,hb⟩:=lR hab e hm.on.1 hm'.on.1 h;obtain⟨a1,a2⟩:=iI hab hm;obtain⟨b1,b2⟩:=iI hab hm';have q1:0<pos a b c/\pos a b c<kk a b:=(by unfold fq at hb;omega);refine⟨iH hab h0 (by omega) (by omega),?_,?_⟩;{rintro rfl;rw[fh]at q1;omega};·rintro rfl;rw[gL]at q1;omega
theorem VR.along{p1:Ring}{a b:aA}{p2:Ring}(h:VR (p1++a::b::p2)){m m':aA}(hm:gj a b m)(hm':gj a b m'){s:bg}(hs:s∈lN p1 a b p2):Aa m m' s.1 s.2/\¬Xs m m' s.1 s.2:=by
 have hab:=h.here;have hk:=cO hab;refine⟨⟨λk=>h.off hs (UC hab hm hm' k) (iW _ _),λk=>h.off hs (UC hab hm hm' k) (gy _ _),h.off hs hm,h.off hs hm'⟩,?_⟩;rintro⟨o1,o2⟩;obtain⟨a1,a2⟩:=iI hab hm;obtain⟨b1,b2⟩:=iI hab hm';have e1:=o7 hm.on.1 s.1 s.2;have e2:=o7 hm'.on.1 s.1 s.2;have o3:=BZ (by omega) (by omega) (by omega) (by omega) hk e1 e2 o2;have d1:=kB hm.on.1 hm'.on.1 s.1;have d2:=kB hm.on.1 hm'.on.1 s.2;have s1:=bT hk d1;have s2:=bT hk d2;have m1:=s8 (pos a b m'-pos a b m) (cr a b s.1 1);have m2:=s8 (pos a b m'-pos a b m) (cr a b s.2 1);have o4:iG (cr a b s.1 1) (cr a b s.2 1):=(by unfold iG at o1⊢;omega);have:=xI o4 o3;rcases h.other hs with e|⟨e,-⟩<;>omega
theorem xL{p q v:aA}(h:cr p q v 1=0):qn p q v=false:=by
 unfold qn dR;rw[fW p q v 1,h];simp
def Lh(p1:Ring)(a b:aA)(p2:Ring)(m:aL):Bool:=bA (lN p1 a b p2) m^^rJ a b
theorem VR.Zj{p1:Ring}{a b:aA}{p2:Ring}(h:VR (p1++a::b::p2)){m m':aA}(hm:gj a b m)(hm':gj a b m'):Lh p1 a b p2 (m,1)=Lh p1 a b p2 (m',1):=by
 have k:=y7 (aY h.shut) (x:=m) (m:=m') (λs hs=>(h.along hm hm' hs).1) (λs hs=>(h.along hm hm' hs).2);have hab:=h.here;have hk:=cO hab;have z1:cr m m' a 1=0:=(by have:=kB hm.on.1 hm'.on.1 a;rw[ni,DE]at this;rcases BE.1 this with q|q<;>omega);have z2:cr m m' b 1=0:=(by have:=kB hm.on.1 hm'.on.1 b;rw[mw,DE]at this;rcases BE.1 this with q|q<;>omega);rw[xL z1,xL z2]at k;unfold Lh;revert k;generalize bA (lN p1 a b p2) (m,1)=x;generalize bA (lN p1 a b p2) (m',1)=y;generalize rJ a b=z;cases x<;>cases y<;>cases z<;>simp
structure Bes(p1:Ring)(a b:aA)(p2:Ring)(m x:aA):Prop where
 ins:gj a b m
 off:∀s∈lN p1 a b p2,Aa x m s.1 s.2
 nx:∀s∈lN p1 a b p2,¬Xs x m s.1 s.2
theorem beside{p1:Ring}{a b:aA}{p2:Ring}(hr:Ends (p1++a::b::p2))(hab:a≠b){m x:aA}(h:Bes p1 a b p2 m x)(hx:cr a b x 1≠0):place (p1++a::b::p2) (x,1)=if(0<cr a b x 1↔Lh p1 a b p2 (m,1)=true)then 2 else 0:=by
 have k:=y7 hr h.off h.nx;have hn:∀s∈aB (p1++a::b::p2),¬has s.1 s.2 x 1:=(by intro s hs;rcases dP.1 hs with rfl|hs;{exact λq=>hx q.1};·exact(h.off s hs).hp);rw[e9 (p:=(x,1)) hn,JA];unfold Lh;rcases acu hx with g|g;{have l:=JB hab h.ins g;have ng:¬0<cr a b x 1:=(by omega);simp only[ng,false_iff];revert k l;generalize bA (lN p1 a b p2) (x,1)=x1;generalize bA (lN p1 a b p2) (m,1)=x2;generalize qn x m a=x3;generalize qn x m b=x4;generalize jh a b x 1=x5;generalize rJ a b=x6;revert x1 x2 x3 x4 x5 x6;decide};·have l:=Ca hab h.ins g;simp only[g,true_iff];revert k l;generalize bA (lN p1 a b p2) (x,1)=x1;generalize bA (lN p1 a b p2) (m,1)=x2;generalize qn x m a=x3;generalize qn x m b=x4;generalize jh a b x 1=x5;generalize rJ a b=x6;revert x1 x2 x3 x4 x5 x6;decide
theorem QY{a b c m m':aA}(hab:a≠b)(hbc:b≠c)(hm:gj a b m)(hm':gj b c m')(hs:0<cr a b c 1):0<cr b c m 1/\0<cr a b m' 1/\0<cr m m' a 1/\0<cr m m' c 1:=by
 have k1:=cO hab;have k2:=cO hbc;obtain⟨a1,a2⟩:=iI hab hm;obtain⟨b1,b2⟩:=iI hbc hm';have e1:=o7 hm.on.1 b c;have e2:=o7 hm'.on.1 a b;have r1:cr b c a 1=cr a b c 1:=(by unfold cr;grind);rw[ni,DE,abz,r1]at e1;rw[mw,DE,afX]at e2;have q1:0<cr b c m 1:=(bT k1 e1).1.2 (pp (by omega) hs);have q2:0<cr a b m' 1:=(bT k2 e2).1.2 (pp (by omega) hs);refine⟨q1,q2,?_,?_⟩;{have f:=(B9 (x:=m') hab hm).1;rw[fW m m' a 1]at f;have:kk a b*cr m m' a 1=pos a b m*cr a b m' 1:=(by have e:kk a b*cr m m' a 1=-(kk a b*-cr m m' a 1):=(by grind);rw[e,f];grind);exact(bT k1 this).1.2 (pp a1 q2)};·have f:=(B9 (x:=m) hbc hm').2;exact(bT k2 f).1.2 (pp (by omega) q1)
theorem JC{a b c m m':aA}(hab:a≠b)(hbc:b≠c)(hm:gj a b m)(hm':gj b c m')(hs:0<cr a b c 1):((jh b c m 1^^jh a b m' 1)^^((qn m m' a^^qn m m' c)^^(rJ a b^^rJ b c)))=false:=by
 obtain⟨s1,s2,s3,s4⟩:=QY hab hbc hm hm' hs;have y1:=OY hab hm;have y2:=OY hbc hm';have c3:cr m' m a 1=-cr m m' a 1:=fW m m' a 1;have c4:cr m' m c 1=-cr m m' c 1:=fW m m' c 1;have f1:a.2=b.2->(a.1<b.1↔b.2<c.2)/\b.2≠c.2/\a.1≠b.1:=(by intro e;have:cr a b c 1=(b.1-a.1)*(c.2-b.2):=(by unfold cr;rw[e];grind);rw[this]at hs;have:=(s8 (b.1-a.1) (c.2-b.2)).2 hs;omega);have f2:b.2=c.2->(c.1<b.1↔a.2<b.2)/\a.2≠b.2/\c.1≠b.1:=(by intro e;have:cr a b c 1=(b.2-a.2)*(b.1-c.1):=(by unfold cr;rw[<-e];grind);rw[this]at hs;have:=(s8 (b.2-a.2) (b.1-c.1)).2 hs;omega);rw[j8,j8];unfold qn dR rJ;have t1:(b.2-m.2<=0/\0<c.2-m.2/\0<cr b c m 1\/c.2-m.2<=0/\0<b.2-m.2/\cr b c m 1<0)↔(b.2<=m.2/\m.2<c.2):=(by omega);have t2:(a.2-m'.2<=0/\0<b.2-m'.2/\0<cr a b m' 1\/b.2-m'.2<=0/\0<a.2-m'.2/\cr a b m' 1<0)↔(a.2<=m'.2/\m'.2<b.2):=(by omega);have t3:¬(m.2<a.2/\a.2<=m'.2/\cr m m' a 1<0):=(by omega);have t4:¬(m.2<c.2/\c.2<=m'.2/\cr m m' c 1<0):=(by omega);have t5:(m'.2<a.2/\a.2<=m.2/\cr m' m a 1<0)↔(m'.2<a.2/\a.2<=m.2):=(by omega);have t6:(m'.2<c.2/\c.2<=m.2/\cr m' m c 1<0)↔(m'.2<c.2/\c.2<=m.2):=(by omega);simp only[t1,t2,t3,t4,t5,t6];clear t1 t2 t3 t4 t5 t6 s1 s2 s3 s4 c3 c4 hs;rcases aaf m.2 m'.2 with g|g|g;·rw[mu g,mu g];by_cases c1:b.2<=m.2/\m.2<c.2<;>by_cases c2:a.2<=m'.2/\m'.2<b.2<;>by_cases c5:a.2<b.2\/(a.2=b.2/\b.1<a.1)<;>by_cases c6:b.2<c.2\/(b.2=c.2/\c.1<b.1)<;>first|(simp only[c1,c2,c5,c6,aeQ,aeu];rfl)|(exfalso;omega)
 {rw[ef (by omega),ef (by omega),ef (by omega),ef (by omega)];by_cases c1:b.2<=m.2/\m.2<c.2<;>by_cases c2:a.2<=m'.2/\m'.2<b.2<;>by_cases c5:a.2<b.2\/(a.2=b.2/\b.1<a.1)<;>by_cases c6:b.2<c.2\/(b.2=c.2/\c.1<b.1)<;>first|(simp only[c1,c2,c5,c6,aeQ,aeu];rfl)|(exfalso;omega)};·rw[ef (by omega),mu g,ef (by omega),mu g];by_cases c1:b.2<=m.2/\m.2<c.2<;>by_cases c2:a.2<=m'.2/\m'.2<b.2<;>by_cases c3:m'.2<a.2/\a.2<=m.2<;>by_cases c4:m'.2<c.2/\c.2<=m.2<;>by_cases c5:a.2<b.2\/(a.2=b.2/\b.1<a.1)<;>by_cases c6:b.2<c.2\/(b.2=c.2/\c.1<b.1)<;>first|(simp only[c1,c2,c3,c4,c5,c6,aeQ,aeu];rfl)|(exfalso;omega)
theorem JD(p q v:aA):qn p q v=qn q p v:=by
 unfold qn;rcases aaf p.2 q.2 with h|h|h;{rw[mu h,ef (by omega),mu h]};{rw[ef (by omega),ef (by omega),ef (by omega),ef (by omega)]};·rw[ef (by omega),mu h,mu h]
theorem th{a b m:aA}(h:gj a b m):gj b a m:=⟨dY.1 h.on,h.nb,h.na⟩
theorem JE{a b x:aA}(h:cr a b x 1=0):jh a b x 1=false:=by
 rw[j8,h];simp
theorem Zk{a b c:aA}(hab:a≠b)(hbc:b≠c)(h:has a c b 1):rJ a b=rJ b c:=by
 obtain⟨h0,h1,h2⟩:=h;unfold fq at h1 h2;simp only[DH]at h1 h2;unfold rJ;have n1:a.1=b.1->a.2≠b.2:=λe q=>hab (aaU e q);have n2:b.1=c.1->b.2≠c.2:=λe q=>hbc (aaU e q);have l1:a.2=b.2->b.2≠c.2->a.1=b.1:=(by intro e hne;have:cr a c b 1=(a.2-c.2)*(b.1-a.1):=(by unfold cr;rw[e];grind);rw[this]at h0;rcases BE.1 h0 with q|q<;>omega);have l2:b.2=c.2->a.2≠b.2->b.1=c.1:=(by intro e hne;have:cr a c b 1=(c.2-a.2)*(c.1-b.1):=(by unfold cr;rw[e];grind);rw[this]at h0;rcases BE.1 h0 with q|q<;>omega);exact IS.2 (by omega)
theorem Zl{a b c m m':aA}(hab:a≠b)(hbc:b≠c)(hm:gj a b m)(hm':gj b c m')(hs:cr a b c 1≠0\/has a c b 1):((jh b c m 1^^jh a b m' 1)^^((qn m m' a^^qn m m' c)^^(rJ a b^^rJ b c)))=false:=by
 by_cases h0:cr a b c 1=0;{have h:has a c b 1:=(by rcases hs with q|q;{exact absurd h0 q};·exact q);have k1:=cO hab;have k2:=cO hbc;have e1:=o7 hm.on.1 b c;have e2:=o7 hm'.on.1 a b;have r1:cr b c a 1=cr a b c 1:=(by unfold cr;grind);rw[ni,r1,h0,DE,DE,abz]at e1;rw[mw,h0,DE,DE,abz]at e2;have z1:cr b c m 1=0:=(by rcases BE.1 e1 with q|q<;>omega);have z2:cr a b m' 1=0:=(by rcases BE.1 e2 with q|q<;>omega);have z3:cr m m' a 1=0:=(by have f:=kB hm.on.1 z2 a;rw[ni,DE]at f;rcases BE.1 f with q|q<;>omega);have z4:cr m m' c 1=0:=(by have f:=kB hm.on.1 z2 c;rw[h0,DE]at f;rcases BE.1 f with q|q<;>omega);rw[JE z1,JE z2,xL z3,xL z4,Zk hab hbc h];simp};·rcases acu h0 with g|g;{have:=JC (a:=c) (b:=b) (c:=a) (ab3 hbc) (ab3 hab) (th hm') (th hm) (by have:cr c b a 1=-cr a b c 1:=(by unfold cr;grind);omega);rw[Cb b a m',Cb c b m,JD m' m,JD m' m,B8 hab,B8 hbc]at this;revert this;generalize jh b c m 1=x1;generalize jh a b m' 1=x2;generalize qn m m' a=x3;generalize qn m m' c=x4;generalize rJ a b=x5;generalize rJ b c=x6;revert x1 x2 x3 x4 x5 x6;decide};·exact JC hab hbc hm hm' g
def qp(p1:Ring)(a c:aA)(p2:Ring):List bg:=aB (p1++[a])++aB (c::p2)
theorem Zm(p1:Ring)(a b c:aA)(p2:Ring)(x:aL):bA (lN p1 a b (c::p2)) x=(jh b c x.1 x.2^^bA (qp p1 a c p2) x):=by
 unfold lN qp;rw[dM,c9,c9,bL];generalize bA (aB (p1++[a])) x=u;generalize bA (aB (c::p2)) x=v;generalize jh (b,c).1 (b,c).2 x.1 x.2=w;cases u<;>cases v<;>cases w<;>rfl
theorem Zn(p1:Ring)(a b c:aA)(p2:Ring)(x:aL):bA (lN (p1++[a]) b c p2) x=(jh a b x.1 x.2^^bA (qp p1 a c p2) x):=by
 unfold lN qp;have e:aB (p1++[a]++[b])=aB (p1++[a])++[(a,b)]:=(by have:=fL p1 a b [];simpa[xE]using this);rw[e,c9,c9,c9,bL];show((bA (aB (p1++[a])) x^^(jh a b x.1 x.2^^false))^^bA (aB (c::p2)) x)=_;generalize bA (aB (p1++[a])) x=u;generalize bA (aB (c::p2)) x=v;generalize jh a b x.1 x.2=w;cases u<;>cases v<;>cases w<;>rfl
theorem Mv{p1:Ring}{a b c:aA}{p2:Ring}(hr:Ends (p1++a::b::c::p2)){x m:aA}(h:∀s∈qp p1 a c p2,Aa x m s.1 s.2)(hx:∀s∈qp p1 a c p2,¬Xs x m s.1 s.2):(bA (qp p1 a c p2) (x,1)^^bA (qp p1 a c p2) (m,1))=(qn x m a^^qn x m c):=by
 have hr':Ends (p1++a::c::p2):=(by unfold Ends at*;rw[acF,abU]at hr⊢;rw[abU]at hr;rw[<-hr];cases p1<;>rfl);exact y7 hr' h hx
theorem Gy{p1:Ring}{a b c:aA}{p2:Ring}(hr:Ends (p1++a::b::c::p2))(hab:a≠b)(hbc:b≠c)(hs:cr a b c 1≠0\/has a c b 1){m m':aA}(hm:gj a b m)(hm':gj b c m')(h:∀s∈qp p1 a c p2,Aa m m' s.1 s.2)(hx:∀s∈qp p1 a c p2,¬Xs m m' s.1 s.2):Lh p1 a b (c::p2) (m,1)=Lh (p1++[a]) b c p2 (m',1):=by
 have k:=Mv hr h hx;have l:=Zl hab hbc hm hm' hs;unfold Lh;rw[Zm,Zn];simp only;revert k l;generalize bA (qp p1 a c p2) (m,1)=x1;generalize bA (qp p1 a c p2) (m',1)=x2;generalize jh b c m 1=x3;generalize jh a b m' 1=x4;generalize qn m m' a=x5;generalize qn m m' c=x6;generalize rJ a b=x7;generalize rJ b c=x8;revert x1 x2 x3 x4 x5 x6 x7 x8;decide
theorem acV{x y p q:aA}(h:Xs x y p q):∃al be ga de:Int,0<al/\0<be/\0<ga/\0<de/\al+be=ga+de/\al*x.1+be*y.1=ga*p.1+de*q.1/\al*x.2+be*y.2=ga*p.2+de*q.2:=by
 have i1:cr x y q 1-cr x y p 1=cr p q x 1-cr p q y 1:=(by unfold cr;grind);have i2:cr p q y 1*x.1-cr p q x 1*y.1=cr x y p 1*q.1-cr x y q 1*p.1:=(by unfold cr;grind);have i3:cr p q y 1*x.2-cr p q x 1*y.2=cr x y p 1*q.2-cr x y q 1*p.2:=(by unfold cr;grind);obtain⟨o1,o2⟩:=h;generalize cr x y q 1=B at*;generalize cr x y p 1=A at*;generalize cr p q x 1=P at*;generalize cr p q y 1=Q at*;unfold iG at o1 o2;rcases o2 with o2|o2;{have hB:A>0/\B<0:=(by omega);exact⟨Q,-P,-B,A,by omega,by omega,by omega,by omega,by omega,by grind,by grind⟩};·have hB:A<0/\0<B:=(by omega);exact⟨-Q,P,B,-A,by omega,by omega,by omega,by omega,by omega,by grind,by grind⟩
theorem Mw{al be ga de x y p q:Int}(h1:0<al)(h2:0<be)(h3:0<ga)(h4:0<de)(e:al+be=ga+de)(f:al*x+be*y=ga*p+de*q){t:Int}(hx:x<t)(hy:y<t)(hp:t<=p)(hq:t<=q):False:=by
 have a1:=abl hx h1;have a2:=abl hy h2;have a3:=IF hp (OR h3);have a4:=IF hq (OR h4);have:al*t+be*t=ga*t+de*t:=(by rw[<-Int.add_mul,<-Int.add_mul,e]);omega
theorem O3{al be ga de x y p q:Int}(h1:0<al)(h2:0<be)(h3:0<ga)(h4:0<de)(e:al+be=ga+de)(f:al*x+be*y=ga*p+de*q){t:Int}(hx:t<x)(hy:t<y)(hp:p<=t)(hq:q<=t):False:=Mw h1 h2 h3 h4 e (x:=-x) (y:=-y) (p:=-p) (q:=-q) (by grind) (t:=-t) (by omega) (by omega) (by omega) (by omega)
def bQ(k:Int)(b u:aA):aA:=(k*b.1+u.1,k*b.2+u.2)
theorem abH(k:Int)(g1 g2 b u:aA):cr (sc k g1) (sc k g2) (bQ k b u) 1=k*(k*cr g1 g2 b 1+((g2.1-g1.1)*u.2-(g2.2-g1.2)*u.1)):=by
 unfold cr sc bQ;grind
def YH(g:bg)(u v:aA):Nat:=u.1.natAbs+u.2.natAbs+v.1.natAbs+v.2.natAbs+((g.2.1-g.1.1)*u.2-(g.2.2-g.1.2)*u.1).natAbs+((g.2.1-g.1.1)*v.2-(g.2.2-g.1.2)*v.1).natAbs
theorem EP{k x:Int}(hk:0<k)(h:-k<k*x/\k*x<k):x=0:=by
 rcases aaf x 0 with g|g|g;{have:=IF (show x<=-1 by omega) (OR hk);omega};{exact g};·have:=IF (show 1<=x by omega) (OR hk);omega
theorem Mx{g:bg}{u v:aA}{k:Int}(hk:(YH g u v:Int)<k):0<k/\(-k<u.1/\u.1<k)/\(-k<u.2/\u.2<k)/\(-k<v.1/\v.1<k)/\(-k<v.2/\v.2<k)/\(-k<(g.2.1-g.1.1)*u.2-(g.2.2-g.1.2)*u.1/\(g.2.1-g.1.1)*u.2-(g.2.2-g.1.2)*u.1<k)/\(-k<(g.2.1-g.1.1)*v.2-(g.2.2-g.1.2)*v.1/\(g.2.1-g.1.1)*v.2-(g.2.2-g.1.2)*v.1<k):=by
 unfold YH at hk;generalize(g.2.1-g.1.1)*u.2-(g.2.2-g.1.2)*u.1=U at*;generalize(g.2.1-g.1.1)*v.2-(g.2.2-g.1.2)*v.1=V at*;generalize u.1=u1 at*;generalize u.2=u2 at*;generalize v.1=v1 at*;generalize v.2=v2 at*;clear g;refine⟨by omega,⟨by omega,by omega⟩,⟨by omega,by omega⟩,⟨by omega,by omega⟩,⟨by omega,by omega⟩,⟨by omega,by omega⟩,⟨by omega,by omega⟩⟩
theorem mE{b u v c:aA}{k:Int}(fj:0<k)(hu1:-k<u.1/\u.1<k)(gJ:-k<u.2/\u.2<k)(IU:-k<v.1/\v.1<k)(My:-k<v.2/\v.2<k)(hc:c≠b):¬has (bQ k b u) (bQ k b v) (sc k c) 1:=by
 intro h;have h1:=h.2.1;have h2:=h.2.2;unfold bQ sc fq at h1 h2;simp only[DH]at h1 h2;have e1:k*(c.1-b.1)=k*c.1-k*b.1:=(by grind);have e2:k*(c.2-b.2)=k*c.2-k*b.2:=(by grind);have z1:=EP fj (x:=c.1-b.1) (by rw[e1];omega);have z2:=EP fj (x:=c.2-b.2) (by rw[e2];omega);exact hc (aaU (by omega) (by omega))
theorem iR{k x y:Int}(fj:0<k)(h:x<y):k*x+k<=k*y:=by
 have:=IF (show x+1<=y by omega) (OR fj);rw[afc,DH]at this;exact this
theorem O6{g:bg}{b t:aA}{k:Int}(fj:0<k)(h1:-k<t.1/\t.1<k)(h2:-k<t.2/\t.2<k)(hbe:(b.1<g.1.1/\b.1<g.2.1)\/(g.1.1<b.1/\g.2.1<b.1)\/(b.2<g.1.2/\b.2<g.2.2)\/(g.1.2<b.2/\g.2.2<b.2)):¬has (sc k g.1) (sc k g.2) (bQ k b t) 1:=by
 intro h;have f1:=h.2.1;have f2:=h.2.2;unfold bQ sc fq at f1 f2;simp only[DH]at f1 f2;rcases hbe with⟨q1,q2⟩|⟨q1,q2⟩|⟨q1,q2⟩|⟨q1,q2⟩;{have:=iR fj q1;have:=iR fj q2;clear f2 h2;omega};{have:=iR fj q1;have:=iR fj q2;clear f2 h2;omega};{have:=iR fj q1;have:=iR fj q2;clear f1 h1;omega};·have:=iR fj q1;have:=iR fj q2;clear f1 h1;omega
theorem Zo{g:bg}{b u v:aA}{k:Int}(fj:0<k)(hu1:-k<u.1/\u.1<k)(gJ:-k<u.2/\u.2<k)(IU:-k<v.1/\v.1<k)(My:-k<v.2/\v.2<k)(hbe:(b.1<g.1.1/\b.1<g.2.1)\/(g.1.1<b.1/\g.2.1<b.1)\/(b.2<g.1.2/\b.2<g.2.2)\/(g.1.2<b.2/\g.2.2<b.2)):¬Xs (bQ k b u) (bQ k b v) (sc k g.1) (sc k g.2):=by
 intro h;obtain⟨al,be,ga,de,p1,p2,p3,p4,e,f1,f2⟩:=acV h;unfold bQ sc at f1 f2;simp only at f1 f2;rcases hbe with⟨q1,q2⟩|⟨q1,q2⟩|⟨q1,q2⟩|⟨q1,q2⟩;{have:=iR fj q1;have:=iR fj q2;exact Mw p1 p2 p3 p4 e f1 (t:=k*b.1+k) (by omega) (by omega) (by omega) (by omega)};{have:=iR fj q1;have:=iR fj q2;exact O3 p1 p2 p3 p4 e f1 (t:=k*b.1-k) (by omega) (by omega) (by omega) (by omega)};{have:=iR fj q1;have:=iR fj q2;exact Mw p1 p2 p3 p4 e f2 (t:=k*b.2+k) (by omega) (by omega) (by omega) (by omega)};·have:=iR fj q1;have:=iR fj q2;exact O3 p1 p2 p3 p4 e f2 (t:=k*b.2-k) (by omega) (by omega) (by omega) (by omega)
theorem beyond{g:bg}{b:aA}(hb:¬has g.1 g.2 b 1)(h0:cr g.1 g.2 b 1=0):(b.1<g.1.1/\b.1<g.2.1)\/(g.1.1<b.1/\g.2.1<b.1)\/(b.2<g.1.2/\b.2<g.2.2)\/(g.1.2<b.2/\g.2.2<b.2):=by
 by_cases c1:fq (g.1.1*1) b.1 (g.2.1*1);{by_cases c2:fq (g.1.2*1) b.2 (g.2.2*1);{exact absurd ⟨h0,c1,c2⟩ hb};·unfold fq at c2;omega};·unfold fq at c1;omega
theorem o8{g:bg}{b u v:aA}(hb:¬has g.1 g.2 b 1){k:Int}(hk:(YH g u v:Int)<k):Aa (bQ k b u) (bQ k b v) (sc k g.1) (sc k g.2)/\¬Xs (bQ k b u) (bQ k b v) (sc k g.1) (sc k g.2):=by
 obtain⟨fj,hu1,gJ,IU,My,hU,hV⟩:=Mx hk;clear hk;have n1:g.1≠b:=λe=>hb (by rw[<-e];exact iW _ _);have n2:g.2≠b:=λe=>hb (by rw[<-e];exact gy _ _);by_cases h0:cr g.1 g.2 b 1=0;{have hbe:=beyond hb h0;exact⟨⟨mE fj hu1 gJ IU My n1,mE fj hu1 gJ IU My n2,O6 fj hu1 gJ hbe,O6 fj IU My hbe⟩,Zo fj hu1 gJ IU My hbe⟩};·have c1:=abH k g.1 g.2 b u;have c2:=abH k g.1 g.2 b v;generalize(g.2.1-g.1.1)*u.2-(g.2.2-g.1.2)*u.1=U at*;generalize(g.2.1-g.1.1)*v.2-(g.2.2-g.1.2)*v.1=V at*;have s1:=bT fj (rfl:k*(k*cr g.1 g.2 b 1+U)=_);have s2:=bT fj (rfl:k*(k*cr g.1 g.2 b 1+V)=_);rw[<-c1]at s1;rw[<-c2]at s2;have dom:(0<cr g.1 g.2 b 1->k<=k*cr g.1 g.2 b 1)/\(cr g.1 g.2 b 1<0->k*cr g.1 g.2 b 1<=-k):=(by constructor;{intro q;have:=IF (show 1<=cr g.1 g.2 b 1 by omega) (OR fj);omega};·intro q;have:=IF (show cr g.1 g.2 b 1<=-1 by omega) (OR fj);omega);clear c1 c2;refine⟨⟨mE fj hu1 gJ IU My n1,mE fj hu1 gJ IU My n2,λh=>?_,λh=>?_⟩,λh=>?_⟩;{have:=h.1;clear hu1 gJ IU My s2;omega};{have:=h.1;clear hu1 gJ IU My s1;omega};·have o:=h.2;clear hu1 gJ IU My;unfold iG at o;omega
end Vd
end Go.Proofs.YtcclepohmhdpbaaGreatDoor
