import Derived.WalkKit
namespace Go.Proofs.YtcclepohmhdpbaaGreatDoor
abbrev ag:=@decide_eq_true
abbrev ah:=@if_neg
abbrev ai:=@beq_eq_false_iff_ne
abbrev aj:=@List.mem_append
abbrev aA:=@decide_eq_false
abbrev aB:=@if_pos
abbrev aC:=@List.getD_eq_getElem?_getD
abbrev aD:=@Nat.zero_le
abbrev aE:=@List.length_append
abbrev aF:=@List.mem_cons
abbrev aG:=@Classical.byContradiction
abbrev aH:=@List.length_map
abbrev aI:=@List.getElem?_map
abbrev aJ:=@List.mem_map
abbrev aK:=@List.any_eq_true
abbrev aL:=@List.getElem?_eq_getElem
abbrev aN:=@List.getElem?_append_right
abbrev aO:=@List.take_length
abbrev aT:=@List.mem_flatten
abbrev aU:=@Int.mul_eq_zero
abbrev aV:=@List.map_append
abbrev aW:=@Int.mul_zero
abbrev aX:=@Int.mul_one
abbrev aY:=@Option.some.inj
abbrev aZ:=@List.getElem?_eq_none
abbrev bg:=@List.mem_range
abbrev bh:=@List.getElem?_append_left
abbrev bu:=@List.mem_singleton
abbrev bw:=@List.mem_append_left
abbrev bA:=@Int.mul_le_mul_of_nonneg_left
abbrev bB:=@Nat.le_refl
abbrev bC:=@decide_eq_decide
abbrev bD:=@of_decide_eq_true
abbrev bE:=@List.cons_append
abbrev bF:=@decide_eq_true_eq
abbrev bG:=@List.length_cons
abbrev bH:=@List.length_take
abbrev bI:=@Nat.lt_or_ge
abbrev bJ:=@List.mem_map_of_mem
abbrev bK:=@Int.le_of_lt
abbrev bL:=@Int.lt_or_le
abbrev bM:=@List.mem_filter
abbrev bN:=@Bool.and_eq_true
abbrev bQ:=@Nat.mod_eq_of_lt
abbrev bT:=@List.mem_of_getElem?
abbrev bZ:=@Nat.zero_add
abbrev b6:=@Option.map_eq_some_iff
abbrev b7:=@Int.mul_le_mul_of_nonneg_right
abbrev b8:=@Or.inr
abbrev b9:=@List.nodup_cons
abbrev cg:=@congrArg
abbrev ck:=@List.mem_append_right
abbrev cw:=@Or.inl
abbrev cA:=@Int.lt_trichotomy
abbrev cB:=@List.mem_flatMap
abbrev cC:=@Nat.sub_self
abbrev cD:=@List.nodup_append
abbrev cE:=@Nat.mod_lt
abbrev cF:=@Nat.add_mod_right
abbrev cG:=@List.append_assoc
abbrev cH:=@Int.mul_comm
abbrev cI:=@List.drop_eq_getElem_cons
abbrev cJ:=@Int.le_of_mul_le_mul_left
abbrev cK:=@List.getElem?_range
abbrev cN:=@Prod.ext
abbrev cO:=@List.set_append_right
abbrev cT:=@Nat.le_trans
abbrev cU:=@List.map_cons
abbrev cW:=@List.map_congr_left
abbrev cZ:=@List.length_nil
abbrev c7:=@List.map_map
abbrev c8:=@List.pairwise_iff_getElem
abbrev c9:=@Int.le_refl
abbrev dh:=@List.take_of_length_le
abbrev di:=@List.eq_nil_of_length_eq_zero
abbrev dj:=@Int.mul_lt_mul_of_pos_left
abbrev dr:=@Int.tdiv_eq_ediv_of_nonneg
abbrev dw:=@Int.tmod_eq_emod_of_nonneg
abbrev dz:=@List.ext_getElem?
abbrev dA:=@List.append_nil
abbrev dB:=@Int.add_zero
abbrev dD:=@Bool.or_eq_false_iff
abbrev dF:=@List.nil_append
abbrev dG:=@Bool.true_and
abbrev dH:=@Prod.mk.injEq
abbrev dI:=@List.length_singleton
abbrev dJ:=@List.length_replicate
abbrev dK:=@decide_eq_false_iff_not
abbrev dM:=@List.getLast?_cons_cons
abbrev dN:=@Bool.or_eq_true
abbrev dO:=@List.length_drop
abbrev dP:=@List.mem_cons_of_mem
abbrev dQ:=@bne_iff_ne
abbrev dS:=@Ne.symm
abbrev dU:=@List.mem_of_mem_take
abbrev dV:=@List.drop_eq_nil_of_le
abbrev dX:=@List.range_succ
abbrev dY:=@Bool.eq_iff_iff
abbrev dZ:=@Int.zero_mul
abbrev ef:=@List.exists_of_findSome?_eq_some
abbrev eC:=@List.take_append_drop
abbrev eD:=@List.mem_iff_getElem?
abbrev eE:=@List.length_range
abbrev eF:=@Int.le_total
abbrev eG:=@Int.mul_le_mul_of_nonpos_right
abbrev eK:=@List.foldl_cons
abbrev eL:=@Nat.eq_zero_or_pos
abbrev eN:=@List.filter_append
abbrev eO:=@List.filter_cons
abbrev eU:=@Nat.lt_trichotomy
abbrev eV:=@Nat.mod_self
abbrev eZ:=@Nat.mod_add_mod
abbrev e7:=@List.length_set
abbrev e8:=@Int.lt_or_gt_of_ne
abbrev e9:=@Bool.false_eq_true
abbrev fe:=@List.getElem?_cons_succ
abbrev ff:=@List.countP_cons
abbrev fh:=@List.getLast?_append
abbrev fj:=@beq_iff_eq
abbrev fk:=@List.drop_length
abbrev fm:=@List.perm_ext_iff_of_nodup
abbrev fq:=@List.foldl_append
abbrev fA:=@List.flatten_append
abbrev fB:=@List.length_reverse
abbrev fC:=@Int.lt_of_mul_lt_mul_left
abbrev fD:=@Int.eq_of_mul_eq_mul_left
abbrev fE:=@List.getElem?_eq_some_iff
abbrev fF:=@List.getLast?_eq_some_getLast
abbrev fG:=@Int.lt_or_eq_of_le
abbrev fH:=@Bool.not_not
abbrev fI:=@List.set_cons_zero
abbrev fJ:=@Nat.mod_mod
abbrev fK:=@Int.mul_nonneg
abbrev fL:=@List.getElem?_of_mem
abbrev fM:=@List.flatten_cons
abbrev fN:=@Nat.min_eq_left
abbrev fO:=@List.getElem_of_mem
abbrev fR:=@List.flatMap_append
abbrev fT:=@decide_false
abbrev fV:=@List.getElem?_set_self
abbrev fW:=@Nat.add_zero
abbrev fZ:=@Int.le_trans
abbrev gd:=@List.sum_cons
abbrev gh:=@if_false
abbrev gi:=@List.nodup_nil
abbrev gj:=@of_decide_eq_false
abbrev gl:=@Nat.lt_or_gt_of_ne
abbrev gu:=@Nat.lt_of_lt_of_le
abbrev gw:=@List.getLast?_eq_getElem?
abbrev gx:=@decide_true
abbrev gy:=@Nat.add_mod
abbrev gC:=@Nat.sub_zero
abbrev gD:=@Option.some.injEq
abbrev gE:=@Nat.mul_le_mul_left
abbrev gF:=@Bool.false_and
abbrev gG:=@List.not_mem_nil
abbrev gH:=@List.head?_eq_getElem?
abbrev gI:=@Int.mul_add
abbrev gJ:=@Nat.add_sub_cancel
abbrev gK:=@decide_eq_true_iff
abbrev gL:=@Nat.le_of_eq
abbrev gN:=@List.getElem?_reverse
abbrev gO:=@Int.mul_assoc
abbrev gT:=@Bool.not_eq_true'
abbrev gU:=@List.pairwise_map
abbrev gV:=@List.length_dropLast
abbrev gW:=@if_true
abbrev gZ:=@List.getElem_mem
abbrev ic:=@List.nodup_range
abbrev ie:=@List.all_eq_true
abbrev ig:=@Nat.zero_mul
abbrev ij:=@Nat.le_of_not_lt
abbrev ir:=@List.replicate_succ
abbrev iw:=@List.cons.inj
abbrev iy:=@List.append_of_mem
abbrev iz:=@List.countP_append
abbrev iC:=@List.getElem?_drop
abbrev iD:=@List.range_succ_eq_map
abbrev iE:=@Int.mul_le_mul_of_nonpos_left
abbrev iF:=@List.filter_congr
abbrev iG:=@List.any_eq_false
abbrev iH:=@List.dropLast_concat_getLast
abbrev iI:=@List.countP_le_length
abbrev iJ:=@List.countP_mono_left
abbrev iK:=@List.length_filter_le
abbrev iL:=@Nat.le_of_lt
abbrev iM:=@List.take_zero
abbrev iN:=@Nat.ne_of_lt
abbrev iO:=@Int.mul_lt_mul_of_pos_right
abbrev iP:=@Nat.mul_le_mul_right
abbrev iQ:=@List.getElem?_set_ne
abbrev iR:=@Nat.mod_two_eq_zero_or_one
abbrev iT:=@Int.mul_sub
abbrev iU:=@List.length_pos_iff
abbrev iV:=@Int.mul_neg_of_neg_of_pos
abbrev iW:=@Int.mul_neg_of_pos_of_neg
abbrev iX:=@Option.map_some
abbrev iY:=@List.Perm.of_eq
abbrev iZ:=@Int.sub_zero
abbrev ja:=@Int.zero_add
abbrev jd:=@List.getElem?_take
abbrev je:=@Nat.succ_mul
abbrev jf:=@Nat.add_comm
abbrev jg:=@List.pairwise_singleton
abbrev jh:=@List.reverse_cons
abbrev ji:=@List.getElem_tail
abbrev jj:=@List.any_cons
abbrev jk:=@Nat.add_assoc
abbrev jl:=@or_false
abbrev jm:=@List.perm_middle
abbrev jo:=@List.mem_reverse
abbrev jq:=@List.perm_append_comm
abbrev jr:=@List.eq_nil_or_concat
abbrev jt:=@List.concat_eq_append
abbrev ju:=@Array.getElem?_modify
abbrev jw:=@Nat.min_le_left
abbrev jy:=@Int.sub_self
abbrev jz:=@List.reverse_reverse
abbrev jC:=@List.pairwise_append
abbrev jD:=@Int.not_lt
abbrev jE:=@List.Perm.trans
abbrev jF:=@List.filter_map
abbrev jG:=@Array.toArray_toList
abbrev jH:=@List.filter_eq_self
abbrev jI:=@List.length_flatten
abbrev jJ:=@Bool.xor_assoc
abbrev jK:=@List.Perm.refl
abbrev jL:=@Nat.mul_le_mul
abbrev jM:=@Int.mul_pos
abbrev jN:=@Int.mul_neg
end Go.Proofs.YtcclepohmhdpbaaGreatDoor
namespace Go.Proofs.YtcclepohmhdpbaaGreatDoor
set_option linter.all false
abbrev jS:=Int×Int
abbrev Ring:=List jS
abbrev Poly:=List Ring
abbrev jX:=List Poly
namespace Pl
def zl(x:Int):Bool:=decide (32768<x)||decide (x< -32768)
def xg(p:jS):Bool:=zl p.1||zl p.2
def zu(r:Ring):Bool:=r.any xg
def wA(l:Poly):Bool:=l.any zu
def wV(r:Ring):Bool:=decide (r.length<4)||!(decide (r.head?=r.getLast?))
def Gw(l:Poly):Bool:=l.any wV
def uK(l:Poly):Bool:=l.isEmpty||Gw l
def nR(m:jX):Nat:=(m.map List.length).sum
def y9(l:Poly):Nat:=(l.map List.length).sum
def nP(m:jX):Nat:=(m.map y9).sum
def many(m:jX):Bool:=decide (8<m.length)||decide (12<nR m)||decide (100<nP m)
def wrong(m:jX):Int:=if many m=true then 6 else if m.any uK=true then 5 else if m.any wA=true then 4 else 0
structure Bd(m:jX):Prop where
 len:m.length<=1048576
 poly:∀l∈m,l.length<=1048576
 ring:∀l∈m,∀r∈l,r.length<=1048576
theorem take_one{α:Type}{l:List α}{k:Nat}{x:α}(h:l[k]?=some x):l.take (k+1)=l.take k++[x]:=by
 rw[List.take_succ,h];rfl
theorem jW{α:Type}{l:List α}{k:Nat}{x:α}(h:l[k]?=some x):k<l.length:=by
 rcases bI k l.length with g|g;{exact g};·rw[aZ g]at h;cases h
theorem jP{α:Type}{l:List α}{k:Nat}{x:α}(h:l[k]?=some x):x∈l:=bT h
theorem jQ{α:Type}{l:List α}{k:Nat}(h:k<l.length):∃x,l[k]?=some x:=⟨l[k],aL h⟩
theorem kM{α:Type}{l:List α}{k:Nat}{x:α}(p:α->Bool)(h:l[k]?=some x):(l.take (k+1)).any p=((l.take k).any p||p x):=by
 rw[take_one h];simp
theorem lD{α:Type}{l:List α}{k:Nat}{x:α}(p:α->Bool)(h:l[k]?=some x)(hp:p x=true):l.any p=true:=aK.2 ⟨x,jP h,hp⟩
theorem zv(l:List Nat)(k:Nat):(l.take k).sum<=l.sum:=by
 (conv=>rhs;rw[←eC k l,List.sum_append]);omega
theorem TC{m:jX}{k:Nat}{l:Poly}(h:m[k]?=some l):nR (m.take (k+1))=nR (m.take k)+l.length:=by
 unfold nR;rw[take_one h];simp
theorem TD{m:jX}{k:Nat}{l:Poly}(h:m[k]?=some l):nP (m.take (k+1))=nP (m.take k)+y9 l:=by
 unfold nP;rw[take_one h];simp
theorem Nq{l:Poly}{k:Nat}{r:Ring}(h:l[k]?=some r):y9 (l.take (k+1))=y9 (l.take k)+r.length:=by
 unfold y9;rw[take_one h];simp
theorem ajJ(m:jX)(k:Nat):nR (m.take k)<=nR m:=by
 unfold nR;rw[List.map_take];exact zv _ _
theorem ajK(m:jX)(k:Nat):nP (m.take k)<=nP m:=by
 unfold nP;rw[List.map_take];exact zv _ _
theorem agm(l:Poly)(k:Nat):y9 (l.take k)<=y9 l:=by
 unfold y9;rw[List.map_take];exact zv _ _
theorem yD{l:List Nat}{b:Nat}(h:∀x∈l,x<=b):l.sum<=l.length*b:=by induction l with|nil=>simp|cons a t ih=>have h1:=h a (by simp);have h2:=ih (fun x hx=>h x (by simp[hx]));rw[gd,bG,Nat.add_mul];omega
theorem Yr{m:jX}(hb:Bd m){l:Poly}(hl:l∈m)(k:Nat):y9 (l.take k)<=k*1048576:=by
 unfold y9;refine cT (yD (b:=1048576) ?_) ?_;{intro x hx;obtain⟨r,hr,rfl⟩:=aJ.1 hx;exact hb.ring l hl r (dU hr)};·rw[aH,bH];exact iP _ (jw _ _)
theorem ajL{m:jX}(hb:Bd m)(k:Nat):nP (m.take k)<=k*1099511627776:=by
 unfold nP;refine cT (yD (b:=1099511627776) ?_) ?_;{intro x hx;obtain⟨l,hl,rfl⟩:=aJ.1 hx;have hl':=dU hl;have h1:=Yr hb hl' l.length;have h2:=hb.poly l hl';rw[aO]at h1;omega};·rw[aH,bH];exact iP _ (jw _ _)
theorem ajM{m:jX}(hb:Bd m)(k:Nat):nR (m.take k)<=k*1048576:=by
 unfold nR;refine cT (yD (b:=1048576) ?_) ?_;{intro x hx;obtain⟨l,hl,rfl⟩:=aJ.1 hx;exact hb.poly l (dU hl)};·rw[aH,bH];exact iP _ (jw _ _)
theorem JM{r:Ring}{p q:jS}(h4:¬r.length<4)(h0:r[0]?=some p)(h1:r[r.length-1]?=some q):wV r=!(decide (p=q)):=by
 unfold wV;rw[gH,gw,h0,h1];simp[h4]
end Pl
namespace Bg
def dv:List Int->Int|[]=>0|d::t=>d+10*dv t
def Dg(l:List Int):Prop:=∀d∈l,0<=d∧d<=9
structure Nm(l:List Int):Prop where
 dg:Dg l
 top:∀t d,l=t++[d]->d≠0
theorem p10(n:Nat):0<(10:Int)^n:=Int.pow_pos (by omega)
theorem wW(n:Nat):(10:Int)^(n+1)=10*10^n:=by rw[Int.pow_succ,cH]
theorem oT(t:List Int)(d:Int):dv (t++[d])=dv t+10^t.length*d:=by induction t with|nil=>simp[dv]|cons x t ih=>rw[bE,dv,dv,ih,bG,wW,gI,gO];omega
theorem TE{l:List Int}(h:Dg l):0<=dv l:=by induction l with|nil=>exact c9 _|cons x t ih=>have h1:=h x (by simp);have h2:=ih fun d hd=>h d (by simp[hd]);show 0<=x+10*dv t;omega
theorem Nr{l:List Int}(h:Dg l):dv l<10^l.length:=by induction l with|nil=>decide|cons x t ih=>have h1:=h x (by simp);have h2:=ih fun d hd=>h d (by simp[hd]);rw[bG,wW];show x+10*dv t<_;omega
theorem Dg.snoc{t:List Int}{d:Int}(h:Dg t)(h0:0<=d)(h9:d<=9):Dg (t++[d]):=fun x hx=>by rcases aj.1 hx with k|k;{exact h x k};·rw[bu.1 k];exact⟨h0,h9⟩
theorem Dg.take{l:List Int}(h:Dg l)(n:Nat):Dg (l.take n):=fun x hx=>h x (dU hx)
theorem AD{l:List Int}(h:l≠[]):∃t d,l=t++[d]:=⟨l.dropLast,l.getLast h,(iH h).symm⟩
theorem Nm.low{l:List Int}(h:Nm l)(hne:l≠[]):(10:Int)^(l.length-1)<=dv l:=by
 obtain⟨t,d,rfl⟩:=AD hne;have h1:=h.top t d rfl;have h2:=h.dg d (by simp);have h3:Dg t:=fun x hx=>h.dg x (by simp[hx]);have h4:=TE h3;rw[oT,aE,dI,gJ];have h5:(10:Int)^t.length*1<=10^t.length*d:=bA (by omega) (bK (p10 _));omega
theorem Nm.nil:Nm []:=⟨(fun d hd=>absurd hd (by simp)),(fun t d e=>absurd e (by simp))⟩
theorem Ys{a b:Nat}(h:a<=b):(10:Int)^a<=10^b:=by induction h with|refl=>exact c9 _|step h ih=>rw[wW];have:=p10 a;omega
theorem Nm.Lv{a b:List Int}(ha:Nm a)(hb:Dg b)(h:b.length<a.length):dv b<dv a:=by
 have h1:=ha.low (by rintro rfl;simp at h);have h2:=Nr hb;have h3:=Ys (show b.length<=a.length-1 by omega);omega
theorem Yt(a b:List Int):dv (a++b)=dv a+10^a.length*dv b:=by induction a with|nil=>simp[dv]|cons x t ih=>rw[bE,dv,dv,ih,bG,wW,gI,gO];omega
theorem D5{l:List Int}{i:Nat}{d:Int}(h:l[i]?=some d):l.take (i+1)=l.take i++[d]:=by
 rw[List.take_add_one,h];rfl
theorem AE{l:List Int}{i:Nat}{d:Int}(h:l[i]?=some d):dv (l.take (i+1))=dv (l.take i)+10^i*d:=by
 have hi:i<l.length:=(by rcases bI i l.length with g|g;{exact g};·rw[aZ g]at h;cases h);rw[D5 h,oT,bH,fN (by omega)]
theorem by_step{P n d c T:Int}(hc:0<=c)(hn:0<=n)(hd:0<=d){L:Int}(e:L+P*c=n*T):(L+P*((d*n+c)%10))+10*P*((d*n+c)/10)=n*(T+P*d):=by
 have h:=Int.emod_add_mul_ediv (d*n+c) 10;have h2:P*((d*n+c)%10)+10*P*((d*n+c)/10)=P*(d*n+c):=(by rw[←h];generalize(d*n+c)%10=r at*;generalize(d*n+c)/10=q at*;have:(r+10*q)%10=(r+10*q)%10:=rfl;grind);rw[gI n T,←e];have h3:P*(d*n+c)=P*c+n*(P*d):=(by grind);omega
theorem acY{a b:List Int}(ha:Dg a)(hb:Dg b){k:Nat}{x y:Int}(hx:a[k]?=some x)(hy:b[k]?=some y)(e:a.drop (k+1)=b.drop (k+1)):(y<x->dv b<dv a)∧(x<y->dv a<dv b):=by
 have hk:k<a.length:=(by rcases bI k a.length with g|g;{exact g};·rw[aZ g]at hx;cases hx);have hk2:k<b.length:=(by rcases bI k b.length with g|g;{exact g};·rw[aZ g]at hy;cases hy);have e1:dv a=dv (a.take (k+1))+10^(k+1)*dv (a.drop (k+1)):=(by have:=Yt (a.take (k+1)) (a.drop (k+1));rwa[eC,bH,fN (by omega)]at this);have e2:dv b=dv (b.take (k+1))+10^(k+1)*dv (b.drop (k+1)):=(by have:=Yt (b.take (k+1)) (b.drop (k+1));rwa[eC,bH,fN (by omega)]at this);rw[AE hx,e]at e1;rw[AE hy]at e2;have a1:=Nr (ha.take k);have a2:=TE (ha.take k);have b1:=Nr (hb.take k);have b2:=TE (hb.take k);rw[bH,fN (by omega)]at a1 b1;have hp:=p10 k;generalize(10:Int)^(k+1)*dv (b.drop (k+1))=T at*;generalize dv (a.take k)=A at*;generalize dv (b.take k)=B at*;generalize(10:Int)^k=P at*;constructor;{intro h;have:P*(y+1)<=P*x:=bA (by omega) (by omega);rw[gI,aX]at this;omega};·intro h;have:P*(x+1)<=P*y:=bA (by omega) (by omega);rw[gI,aX]at this;omega
theorem afm{l:List Int}{k:Nat}{x:Int}(h:l[k]?=some x):l.drop k=x::l.drop (k+1):=by
 have hk:k<l.length:=(by rcases bI k l.length with g|g;{exact g};·rw[aZ g]at h;cases h);rw[cI hk];rw[aL hk]at h;rw[aY h]
def dg(l:List Int)(k:Nat):Int:=l.getD k 0
theorem ze{l:List Int}{k:Nat}{x:Int}(h:l[k]?=some x):dg l k=x:=by
 unfold dg;rw[aC,h];rfl
theorem zw{l:List Int}{k:Nat}(h:l.length<=k):dg l k=0:=by
 unfold dg;rw[aC,aZ h];rfl
theorem qP(l:List Int)(k:Nat):dv (l.take (k+1))=dv (l.take k)+10^k*dg l k:=by
 rcases bI k l.length with g|g;{rw[AE (aL g),ze (aL g)]};·rw[zw g,dh (by omega),dh g,aW,dB]
theorem zg{l:List Int}(h:Dg l)(k:Nat):0<=dg l k∧dg l k<=9:=by
 rcases bI k l.length with g|g;{rw[ze (aL g)];exact h _ (gZ g)};·rw[zw g];omega
theorem Nm.Gx{l:List Int}(h:Nm l){k:Nat}(e:l.length=k+1):Bg.dg l k≠0:=by
 obtain⟨t,d,rfl⟩:=AD (show l≠[]by rintro rfl;simp at e);rw[aE,dI]at e;have e:t.length=k:=(by omega);have:(t++[d])[k]?=some d:=(by rw[aN (by omega),show k-t.length=0 by omega];rfl);rw[ze this];exact h.top t d rfl
theorem Nm.snoc{t:List Int}{d:Int}(h:Dg t)(h0:0<d)(h9:d<=9):Nm (t++[d]):=⟨h.snoc (by omega) h9,fun t' d' e=>by have:=(List.append_inj' e rfl).2;have:d=d':=(by simpa using this);omega⟩
theorem CE{L P c X Y x y t q:Int}(e:L+P*c=X+Y)(h:c+x+y=t+10*q):(L+P*t)+10*P*q=(X+P*x)+(Y+P*y):=by
 have:P*(c+x+y)=P*(t+10*q):=(by rw[h]);grind
theorem uL{L P c X Y x y t q:Int}(e:L+P*c=X-Y)(h:x+c-y=t+10*q):(L+P*t)+10*P*q=(X+P*x)-(Y+P*y):=by
 have:P*(x+c-y)=P*(t+10*q):=(by rw[h]);grind
def sv(ng:Bool)(l:List Int):Int:=if ng then-(dv l)else dv l
end Bg
namespace Vd
def cr(a b p:jS)(w:Int):Int:=(b.1-a.1)*(p.2-a.2*w)-(b.2-a.2)*(p.1-a.1*w)
def dt(a b p:jS)(w:Int):Int:=(p.1-a.1*w)*(b.1-a.1)+(p.2-a.2*w)*(b.2-a.2)
def kk(a b:jS):Int:=(b.1-a.1)*(b.1-a.1)+(b.2-a.2)*(b.2-a.2)
def nL(e m o:Int):Prop:=(e<=m∧m<=o)∨(o<=m∧m<=e)
def has(a b p:jS)(w:Int):Prop:=cr a b p w=0∧nL (a.1*w) p.1 (b.1*w)∧nL (a.2*w) p.2 (b.2*w)
def on(a b p:jS)(w:Int):Prop:=cr a b p w=0∧0<=dt a b p w∧dt a b p w<=kk a b*w
theorem nn{x y:Int}(hx:0<=x)(hy:0<=y):0<=x*y:=fK hx hy
theorem zA(x:Int):0<=x*x:=by
 rcases eF 0 x with h|h;{exact nn h h};·have:=nn (x:=-x) (y:=-x) (by omega) (by omega);rw[Int.neg_mul_neg]at this;exact this
theorem sq_pos{x:Int}(h:x≠0):0<x*x:=by
 have:=zA x;have h2:x*x≠0:=fun e=>h (by simpa using aU.1 e);omega
theorem lR{a b:jS}(h:a≠b):0<kk a b:=by
 unfold kk;by_cases h1:b.1-a.1=0;{have h2:b.2-a.2≠0:=fun e=>h (cN (by omega) (by omega));have:=sq_pos h2;have:=zA (b.1-a.1);omega};·have:=sq_pos h1;have:=zA (b.2-a.2);omega
theorem TF{u v w:Int}(hw:0<w)(h:nL 0 v (u*w)):0<=v*u∧v*u<=u*u*w:=by
 rcases h with⟨h1,h2⟩|⟨h1,h2⟩;{have hu:0<=u:=(by rcases bL u 0 with g|g;{have:u*w<0:=iV g hw;omega};·exact g);refine⟨nn h1 hu,?_⟩;have:=b7 h2 hu;have e:u*w*u=u*u*w:=(by grind);omega};·have hu:u<=0:=(by rcases bL 0 u with g|g;{have:0<u*w:=jM g hw;omega};·exact g);refine⟨by have:=nn (x:=-v) (y:=-u) (by omega) (by omega);rw[Int.neg_mul_neg]at this;exact this,?_⟩;have:=eG h1 hu;have e:u*w*u=u*u*w:=(by grind);omega
theorem TG{u v k d w:Int}(hk:0<k)(e:d*u=v*k)(h0:0<=d)(h1:d<=k*w):nL 0 v (u*w):=by
 rcases eF 0 u with hu|hu;{left;constructor;{have:=nn h0 hu;rw[e]at this;exact Int.nonneg_of_mul_nonneg_left this hk};·have:=b7 h1 hu;rw[e]at this;have e2:k*w*u=u*w*k:=(by grind);rw[e2]at this;exact Int.le_of_mul_le_mul_right this hk};·right;constructor;{have:=eG h1 hu;rw[e]at this;have e2:k*w*u=u*w*k:=(by grind);rw[e2]at this;exact Int.le_of_mul_le_mul_right this hk};·have:=nn (x:=d) (y:=-u) h0 (by omega);have e2:d*-u=-v*k:=(by grind);rw[e2]at this;have:=Int.nonneg_of_mul_nonneg_left this hk;omega
theorem FV{a p b w:Int}:nL (a*w) p (b*w)↔nL 0 (p-a*w) ((b-a)*w):=by
 have e:(b-a)*w=b*w-a*w:=(by grind);unfold nL;rw[e];omega
theorem sD{a b p:jS}{w:Int}(h:a≠b)(hw:0<w):has a b p w↔on a b p w:=by
 have hk:=lR h;constructor;{rintro⟨h0,h1,h2⟩;have g1:=TF hw (FV.1 h1);have g2:=TF hw (FV.1 h2);refine⟨h0,?_,?_⟩;{unfold dt;omega};·have e:kk a b*w=(b.1-a.1)*(b.1-a.1)*w+(b.2-a.2)*(b.2-a.2)*w:=(by unfold kk;grind);rw[e];unfold dt;omega};·rintro⟨h0,h1,h2⟩;have e1:dt a b p w*(b.1-a.1)=(p.1-a.1*w)*kk a b:=(by unfold cr at h0;unfold dt kk;grind);have e2:dt a b p w*(b.2-a.2)=(p.2-a.2*w)*kk a b:=(by unfold cr at h0;unfold dt kk;grind);exact⟨h0,FV.2 (TG hk e1 h1 h2),FV.2 (TG hk e2 h1 h2)⟩
def kS(p q:jS):Prop:=p.1<q.1∨(p.1=q.1∧p.2<q.2)
instance(p q:jS):Decidable (kS p q):=by
 unfold kS;infer_instance
def fwd(a b:jS):jS×jS:=if kS b a then(b,a)else(a,b)
def l7(s t:jS×jS):Int:=let f:=if kS s.1 t.1 then t.1 else s.1;let l:=if kS t.2 s.2 then t.2 else s.2;if kS f l then 3 else if f=l then 1 else 0
def pos(a b x:jS):Int:=dt a b x 1
theorem nG(a b:jS):pos a b a=0:=by
 unfold pos dt;grind
theorem o6(a b:jS):pos a b b=kk a b:=by
 unfold pos dt kk;grind
theorem yE{a b x y:jS}(h:a≠b)(hx:cr a b x 1=0)(hy:cr a b y 1=0):(kS a b->(kS x y↔pos a b x<pos a b y))∧(kS b a->(kS x y↔pos a b y<pos a b x)):=by
 have hk:=lR h;have e1:(pos a b y-pos a b x)*(b.1-a.1)=(y.1-x.1)*kk a b:=(by unfold cr at hx hy;unfold pos dt kk;grind);have e2:(pos a b y-pos a b x)*(b.2-a.2)=(y.2-x.2)*kk a b:=(by unfold cr at hx hy;unfold pos dt kk;grind);obtain⟨D,hD⟩:∃D,D=pos a b y-pos a b x:=⟨_,rfl⟩;obtain⟨K,hK⟩:∃K,K=kk a b:=⟨_,rfl⟩;rw[←hD,←hK]at e1 e2;rw[←hK]at hk;have sgn:∀{u z:Int},0<u->D*u=z*K->(0<D↔0<z)∧(D=0↔z=0)∧(D<0↔z<0):=(by intro u z hu e;have p1:0<D->0<z:=fun g=>(by have:=jM g hu;rw[e]at this;exact Int.pos_of_mul_pos_left this hk|>fun h=>h);have p2:D=0->z=0:=fun g=>(by rw[g,dZ]at e;rcases aU.1 e.symm with q|q<;>omega);have p3:D<0->z<0:=fun g=>(by have:=iV g hu;rw[e]at this;rcases bL z 0 with q|q;{exact q};·have:=nn q (bK hk);omega);omega);have t1:(kS x y↔0<y.1-x.1∨(y.1-x.1=0∧0<y.2-x.2)):=(by unfold kS;omega);have t2:pos a b x<pos a b y↔0<D:=(by omega);have t3:pos a b y<pos a b x↔D<0:=(by omega);rw[t1,t2,t3];constructor;·rintro(g|⟨g,g'⟩);{have:=sgn (u:=b.1-a.1) (by omega) e1;constructor;{rintro(q|⟨q,q'⟩);{omega};·have hz:D=0:=(by omega);rw[hz,dZ]at e2;rcases aU.1 e2.symm with q|q<;>omega};·intro q;left;omega};·have:=sgn (u:=b.2-a.2) (by omega) e2;have hz:y.1-x.1=0:=(by rw[show b.1-a.1=0 by omega,aW]at e1;rcases aU.1 e1.symm with q|q<;>omega);omega
 ·rintro(g|⟨g,g'⟩);{have:=sgn (u:=a.1-b.1) (z:=-(y.1-x.1)) (by omega) (by grind);constructor;{rintro(q|⟨q,q'⟩);{omega};·have hz:D=0:=(by omega);rw[hz,dZ]at e2;rcases aU.1 e2.symm with q|q<;>omega};·intro q;left;omega};·have:=sgn (u:=a.2-b.2) (z:=-(y.2-x.2)) (by omega) (by grind);have hz:y.1-x.1=0:=(by rw[show b.1-a.1=0 by omega,aW]at e1;rcases aU.1 e1.symm with q|q<;>omega);omega
theorem uE(p q:jS):kS p q∨p=q∨kS q p:=by
 unfold kS;by_cases h1:p.1=q.1;{by_cases h2:p.2=q.2;{exact .inr (.inl (cN h1 h2))};·omega};·omega
theorem o7{p q:jS}(h:kS p q)(k:kS q p):False:=by
 unfold kS at h k;omega
theorem agn{p q:jS}(h:kS p q):p≠q:=by
 rintro rfl;exact o7 h h
def count(k p q:Int):Int:=if q<0∨k<p then 0 else if q=0∨p=k then 1 else 2
end Vd
end Go.Proofs.YtcclepohmhdpbaaGreatDoor
namespace Go.Proofs.YtcclepohmhdpbaaGreatDoor
set_option linter.all false
namespace Vd
theorem uM(a b:jS):cr a b a 1=0:=by
 unfold cr;grind
theorem tZ(a b:jS):cr a b b 1=0:=by
 unfold cr;grind
section
variable{f:jS->Int}{S:jS->Prop}(hf:∀x y,S x->S y->(kS x y↔f x<f y))
include hf
theorem ago{x y:jS}(hx:S x)(hy:S y):x=y↔f x=f y:=by
 constructor;{rintro rfl;rfl};·intro e;rcases uE x y with h|h|h;{have:=(hf x y hx hy).1 h;omega};{exact h};·have:=(hf y x hy hx).1 h;omega
theorem TH{a b:jS}(ha:S a)(hb:S b):S (fwd a b).1∧S (fwd a b).2∧f (fwd a b).1=min (f a) (f b)∧f (fwd a b).2=max (f a) (f b):=by
 unfold fwd;have:=hf b a hb ha;by_cases h:kS b a;{have h':=this.1 h;rw[aB h];exact⟨hb,ha,by simp only;omega,by simp only;omega⟩};·have h':¬f b<f a:=fun q=>h (this.2 q);rw[ah h];exact⟨ha,hb,by simp only;omega,by simp only;omega⟩
theorem Ns{s t:jS×jS}(h1:S s.1)(h2:S s.2)(h3:S t.1)(h4:S t.2):l7 s t=if max (f s.1) (f t.1)<min (f s.2) (f t.2)then 3 else if max (f s.1) (f t.1)=min (f s.2) (f t.2)then 1 else 0:=by
 have e1:S (if kS s.1 t.1 then t.1 else s.1)∧f (if kS s.1 t.1 then t.1 else s.1)=max (f s.1) (f t.1):=(by have:=hf _ _ h1 h3;by_cases h:kS s.1 t.1;{have h':=this.1 h;rw[aB h];exact⟨h3,by omega⟩};·have h':=mt this.2 h;rw[ah h];exact⟨h1,by omega⟩);have e2:S (if kS t.2 s.2 then t.2 else s.2)∧f (if kS t.2 s.2 then t.2 else s.2)=min (f s.2) (f t.2):=(by have:=hf _ _ h4 h2;by_cases h:kS t.2 s.2;{have h':=this.1 h;rw[aB h];exact⟨h4,by omega⟩};·have h':=mt this.2 h;rw[ah h];exact⟨h2,by omega⟩);unfold l7;simp only[hf _ _ e1.1 e2.1,ago hf e1.1 e2.1,e1.2,e2.2]
end
theorem CF{a b c d:jS}(hab:a≠b)(hcd:c≠d)(hc:cr a b c 1=0)(hd:cr a b d 1=0):l7 (fwd a b) (fwd c d)=if count (kk a b) (min (pos a b c) (pos a b d)) (max (pos a b c) (pos a b d))=2 then 3 else count (kk a b) (min (pos a b c) (pos a b d)) (max (pos a b c) (pos a b d)):=by
 have hk:=lR hab;have pa:=nG a b;have pb:=o6 a b;have ha:=uM a b;have hb:=tZ a b;rcases uE a b with h|h|h;{have hf:∀x y,cr a b x 1=0->cr a b y 1=0->(kS x y↔pos a b x<pos a b y):=fun x y hx hy=>(yE hab hx hy).1 h;obtain⟨s1,s2,s3,s4⟩:=TH (S:=fun x=>cr a b x 1=0) hf ha hb;obtain⟨t1,t2,t3,t4⟩:=TH (S:=fun x=>cr a b x 1=0) hf hc hd;have hne:pos a b c≠pos a b d:=fun e=>hcd ((ago (S:=fun x=>cr a b x 1=0) hf hc hd).2 e);rw[Ns (S:=fun x=>cr a b x 1=0) hf s1 s2 t1 t2,s3,s4,t3,t4,pa,pb];unfold count;(repeat' split);all_goals omega};{exact absurd h hab};·have hf:∀x y,cr a b x 1=0->cr a b y 1=0->(kS x y↔-pos a b x< -pos a b y):=fun x y hx hy=>(by rw[(yE hab hx hy).2 h];omega);obtain⟨s1,s2,s3,s4⟩:=TH (f:=fun x=>-pos a b x) (S:=fun x=>cr a b x 1=0) hf ha hb;obtain⟨t1,t2,t3,t4⟩:=TH (f:=fun x=>-pos a b x) (S:=fun x=>cr a b x 1=0) hf hc hd;have hne:pos a b c≠pos a b d:=fun e=>hcd ((ago (f:=fun x=>-pos a b x) (S:=fun x=>cr a b x 1=0) hf hc hd).2 (by omega));rw[Ns (f:=fun x=>-pos a b x) (S:=fun x=>cr a b x 1=0) hf s1 s2 t1 t2];rw[s3,s4,t3,t4,pa,pb];unfold count;(repeat' split);all_goals omega
def sg(n:Int):Int:=if n>0 then 1 else if n<0 then-1 else 0
def meet(a b c d:jS):Int:=let sA:=sg (cr a b c 1);let sB:=sg (cr a b d 1);let oA:=sg (cr c d a 1);let oB:=sg (cr c d b 1);if sA=0∧sB=0∧oA=0∧oB=0 then l7 (fwd a b) (fwd c d)else if sA*sB>0∨oA*oB>0 then 0 else if sA*sB*oA*oB=0 then 1 else 2
def nn3(a b c d:jS):Int:=(b.1-a.1)*(d.2-c.2)-(b.2-a.2)*(d.1-c.1)
def common(a b c d:jS):Int×Bool:=let n:=nn3 a b c d;let s:=(c.1-a.1)*(d.2-c.2)-(c.2-a.2)*(d.1-c.1);let t:=(c.1-a.1)*(b.2-a.2)-(c.2-a.2)*(b.1-a.1);if n=0 then if t≠0 then(0,false)else(count (kk a b) (min (pos a b c) (pos a b d)) (max (pos a b c) (pos a b d)),false)else let n':=if n<0 then-n else n;let s':=if n<0 then-s else s;let t':=if n<0 then-t else t;if s'<0∨n'<s'∨t'<0∨n'<t' then(0,false)else(1,decide (0<s'∧s'<n'∧0<t'∧t'<n'))
end Vd
end Go.Proofs.YtcclepohmhdpbaaGreatDoor
namespace Go.Proofs.YtcclepohmhdpbaaGreatDoor
set_option linter.all false
namespace Vd
def how(x:Int×Bool):Int:=if x.1=2 then 3 else if x.2 then 2 else x.1
theorem kW(n:Int):(0<n∧sg n=1)∨(n=0∧sg n=0)∨(n<0∧sg n=-1):=by
 unfold sg;rcases cA n 0 with h|h|h;{right;right;exact⟨h,by rw[ah (by omega),aB h]⟩};{right;left;exact⟨h,by rw[ah (by omega),ah (by omega)]⟩};·left;exact⟨h,by rw[aB h]⟩
theorem ajN{n s t X:Int}(h:0<n):(if sg (-t)=0∧sg (n-t)=0∧sg s=0∧sg (s-n)=0 then X else if sg (-t)*sg (n-t)>0∨sg s*sg (s-n)>0 then 0 else if sg (-t)*sg (n-t)*sg s*sg (s-n)=0 then 1 else 2)=how (if s<0∨n<s∨t<0∨n<t then(0,false)else(1,decide (0<s∧s<n∧0<t∧t<n))):=by
 by_cases C:s<0∨n<s∨t<0∨n<t;{rw[aB C];rcases kW (-t)with⟨g1,k1⟩|⟨g1,k1⟩|⟨g1,k1⟩<;>rcases kW (n-t)with⟨g2,k2⟩|⟨g2,k2⟩|⟨g2,k2⟩<;>rcases kW s with⟨g3,k3⟩|⟨g3,k3⟩|⟨g3,k3⟩<;>rcases kW (s-n)with⟨g4,k4⟩|⟨g4,k4⟩|⟨g4,k4⟩<;>first|(exfalso;omega)|(rw[k1,k2,k3,k4];simp[how])};·rw[ah C];by_cases D:0<s∧s<n∧0<t∧t<n;{rw[ag D];rcases kW (-t)with⟨g1,k1⟩|⟨g1,k1⟩|⟨g1,k1⟩<;>rcases kW (n-t)with⟨g2,k2⟩|⟨g2,k2⟩|⟨g2,k2⟩<;>rcases kW s with⟨g3,k3⟩|⟨g3,k3⟩|⟨g3,k3⟩<;>rcases kW (s-n)with⟨g4,k4⟩|⟨g4,k4⟩|⟨g4,k4⟩<;>first|(exfalso;omega)|(rw[k1,k2,k3,k4];simp[how])};·rw[aA D];rcases kW (-t)with⟨g1,k1⟩|⟨g1,k1⟩|⟨g1,k1⟩<;>rcases kW (n-t)with⟨g2,k2⟩|⟨g2,k2⟩|⟨g2,k2⟩<;>rcases kW s with⟨g3,k3⟩|⟨g3,k3⟩|⟨g3,k3⟩<;>rcases kW (s-n)with⟨g4,k4⟩|⟨g4,k4⟩|⟨g4,k4⟩<;>first|(exfalso;omega)|(rw[k1,k2,k3,k4];simp[how])
theorem ajO{n s t X:Int}(h:n<0):(if sg (-t)=0∧sg (n-t)=0∧sg s=0∧sg (s-n)=0 then X else if sg (-t)*sg (n-t)>0∨sg s*sg (s-n)>0 then 0 else if sg (-t)*sg (n-t)*sg s*sg (s-n)=0 then 1 else 2)=how (if-s<0∨-n< -s∨-t<0∨-n< -t then(0,false)else(1,decide (0< -s∧-s< -n∧0< -t∧-t< -n))):=by
 by_cases C:-s<0∨-n< -s∨-t<0∨-n< -t;{rw[aB C];rcases kW (-t)with⟨g1,k1⟩|⟨g1,k1⟩|⟨g1,k1⟩<;>rcases kW (n-t)with⟨g2,k2⟩|⟨g2,k2⟩|⟨g2,k2⟩<;>rcases kW s with⟨g3,k3⟩|⟨g3,k3⟩|⟨g3,k3⟩<;>rcases kW (s-n)with⟨g4,k4⟩|⟨g4,k4⟩|⟨g4,k4⟩<;>first|(exfalso;omega)|(rw[k1,k2,k3,k4];simp[how])};·rw[ah C];by_cases D:0< -s∧-s< -n∧0< -t∧-t< -n;{rw[ag D];rcases kW (-t)with⟨g1,k1⟩|⟨g1,k1⟩|⟨g1,k1⟩<;>rcases kW (n-t)with⟨g2,k2⟩|⟨g2,k2⟩|⟨g2,k2⟩<;>rcases kW s with⟨g3,k3⟩|⟨g3,k3⟩|⟨g3,k3⟩<;>rcases kW (s-n)with⟨g4,k4⟩|⟨g4,k4⟩|⟨g4,k4⟩<;>first|(exfalso;omega)|(rw[k1,k2,k3,k4];simp[how])};·rw[aA D];rcases kW (-t)with⟨g1,k1⟩|⟨g1,k1⟩|⟨g1,k1⟩<;>rcases kW (n-t)with⟨g2,k2⟩|⟨g2,k2⟩|⟨g2,k2⟩<;>rcases kW s with⟨g3,k3⟩|⟨g3,k3⟩|⟨g3,k3⟩<;>rcases kW (s-n)with⟨g4,k4⟩|⟨g4,k4⟩|⟨g4,k4⟩<;>first|(exfalso;omega)|(rw[k1,k2,k3,k4];simp[how])
theorem EW{a b c d:jS}(hab:a≠b)(hcd:c≠d):meet a b c d=how (common a b c d):=by
 obtain⟨s,hs⟩:∃s,s=(c.1-a.1)*(d.2-c.2)-(c.2-a.2)*(d.1-c.1):=⟨_,rfl⟩;obtain⟨t,ht⟩:∃t,t=(c.1-a.1)*(b.2-a.2)-(c.2-a.2)*(b.1-a.1):=⟨_,rfl⟩;obtain⟨n,hn⟩:∃n,n=nn3 a b c d:=⟨_,rfl⟩;have e1:cr a b c 1=-t:=(by rw[ht];unfold cr;grind);have e2:cr a b d 1=n-t:=(by rw[ht,hn];unfold cr nn3;grind);have e3:cr c d a 1=s:=(by rw[hs];unfold cr;grind);have e4:cr c d b 1=s-n:=(by rw[hs,hn];unfold cr nn3;grind);by_cases h0:n=0;·by_cases h1:t=0;{have h2:s=0:=(by have g1:s*(b.1-a.1)=0:=(by rw[hn]at h0;unfold nn3 at h0;rw[hs];rw[ht]at h1;grind);have g2:s*(b.2-a.2)=0:=(by rw[hn]at h0;unfold nn3 at h0;rw[hs];rw[ht]at h1;grind);rcases aU.1 g1 with q|q;{exact q};·rcases aU.1 g2 with q'|q';{exact q'};·exact absurd (cN (by omega) (by omega)) hab);have hc:cr a b c 1=0:=(by rw[e1,h1];rfl);have hd:cr a b d 1=0:=(by rw[e2,h0,h1];rfl);have m:meet a b c d=l7 (fwd a b) (fwd c d):=(by unfold meet;simp[e1,e2,e3,e4,h0,h1,h2,sg]);rw[m,CF hab hcd hc hd];unfold common how;simp only[←hn,←ht,h0,h1];simp};·have m:meet a b c d=0:=(by unfold meet;simp only[e1,e2,e3,e4,h0,Int.zero_sub,iZ];rcases kW (-t)with⟨g,e⟩|⟨g,e⟩|⟨g,e⟩;{simp[e]};{omega};·simp[e]);rw[m];unfold common how;simp only[←hn,←ht,h0,aB,aB h1];simp[h1]
 ·have m:common a b c d=(let n':=if n<0 then-n else n;let s':=if n<0 then-s else s;let t':=if n<0 then-t else t;if s'<0∨n'<s'∨t'<0∨n'<t' then(0,false)else(1,decide (0<s'∧s'<n'∧0<t'∧t'<n'))):=(by unfold common;simp only[←hn,←ht,←hs,ah h0]);rw[m];have l:meet a b c d=(if sg (-t)=0∧sg (n-t)=0∧sg s=0∧sg (s-n)=0 then l7 (fwd a b) (fwd c d)else if sg (-t)*sg (n-t)>0∨sg s*sg (s-n)>0 then 0 else if sg (-t)*sg (n-t)*sg s*sg (s-n)=0 then 1 else 2):=(by unfold meet;simp only[e1,e2,e3,e4]);rw[l];clear m l e1 e2 e3 e4 hs ht hn;rcases e8 h0 with hneg|hneg;{simp only[hneg,gW];exact ajO (by omega)};·simp only[show¬n<0 by omega,gh];exact ajN (by omega)
theorem oD(a b p:jS)(w:Int):cr b a p w=-cr a b p w:=by
 unfold cr;grind
def qB(a b p:jS)(w:Int):Bool:=if decide (a.2*w>p.2)=decide (b.2*w>p.2)then false else if b.2*w>p.2 then decide (sg (cr a b p w)>0)else decide (sg (cr a b p w)<0)
def Nt(a b p:jS)(w:Int):Bool:=let lo:=if a.2>b.2 then b else a;let hi:=if a.2>b.2 then a else b;decide (lo.2*w<=p.2∧p.2<hi.2*w)&&decide (cr lo hi p w>0)
theorem Gy(n:Int):sg n>0↔n>0:=by rcases kW n with⟨h,e⟩|⟨h,e⟩|⟨h,e⟩<;>rw[e]<;>omega
theorem Lw(n:Int):sg n<0↔n<0:=by rcases kW n with⟨h,e⟩|⟨h,e⟩|⟨h,e⟩<;>rw[e]<;>omega
theorem r6(n:Int):sg n=0↔n=0:=by rcases kW n with⟨h,e⟩|⟨h,e⟩|⟨h,e⟩<;>rw[e]<;>omega
theorem Yu{a b p:jS}{w:Int}(hw:0<w):qB a b p w=Nt a b p w:=by
 unfold qB Nt;by_cases h:a.2>b.2;{have h1:b.2*w<a.2*w:=iO h hw;simp only[aB h,oD a b p w];by_cases hb:b.2*w>p.2;{rw[aB (by rw[ag hb,ag (show a.2*w>p.2 by omega)])];rw[aA (by omega),gF]};·by_cases ha:a.2*w>p.2;{rw[ah (by rw[ag ha,aA hb];simp),ah hb,ag (show b.2*w<=p.2∧p.2<a.2*w by omega),dG];exact bC.2 (by rw[Lw];omega)};·rw[aB (by rw[aA ha,aA hb]),aA (by omega),gF]};·have h1:a.2*w<=b.2*w:=b7 (by omega) (by omega);simp only[ah h];by_cases hb:b.2*w>p.2;{by_cases ha:a.2*w>p.2;{rw[aB (by rw[ag ha,ag hb]),aA (by omega),gF]};·rw[ah (by rw[ag hb,aA ha];simp),aB hb,ag (show a.2*w<=p.2∧p.2<b.2*w by omega),dG];exact bC.2 (Gy _)};·rw[aB (by rw[aA hb,aA (show¬a.2*w>p.2 by omega)])];rw[aA (by omega),gF]
abbrev kF:=jS×jS
abbrev j9:=jS×Int
instance(a b c:Int):Decidable (nL a b c):=by
 unfold nL;infer_instance
instance(a b p:jS)(w:Int):Decidable (has a b p w):=by
 unfold has;infer_instance
def hasB(s:kF)(p:j9):Bool:=decide (has s.1 s.2 p.1 p.2)
def side(s:kF)(p:j9):Int:=sg (cr s.1 s.2 p.1 p.2)
def rG(p:jS):j9:=(p,1)
def kL(p q:jS):j9:=((p.1+q.1,p.2+q.2),2)
def lN(s t:kF):Int:=meet s.1 s.2 t.1 t.2
def jT(r:Ring):List kF:=r.zip r.tail
def oN:List kF->Bool->j9->Int|[],i,_=>if i then 2 else 0|s::t,i,p=>if hasB s p then 1 else oN t (if qB s.1 s.2 p.1 p.2 then !i else i) p
def place(r:Ring)(p:j9):Int:=oN (jT r) false p
def wX(s:kF)(f:jS)(to p:jS):jS:=if kS f p∧kS p to∧has s.1 s.2 p 1 then p else to
def o8(s:kF)(f:jS)(rings:Poly):jS:=rings.flatten.foldl (wX s f) s.2
def uN:Nat->kF->jS->Poly->List j9|0,_,_,_=>[]|n+1,s,f,rings=>if f=s.2 then[]else kL f (o8 s f rings)::uN n s (o8 s f rings) rings
def mW(s:kF)(rings:Poly):List j9:=uN (rings.flatten.length+1) (fwd s.1 s.2) (fwd s.1 s.2).1 rings
def anyI(n:Nat)(f:Nat->Bool):Bool:=(List.range n).any f
theorem Vo(f:Nat->Bool):anyI 0 f=false:=rfl
theorem p7(n:Nat)(f:Nat->Bool):anyI (n+1) f=(anyI n f||f n):=by simp[anyI,dX]
theorem lO{n:Nat}{f:Nat->Bool}{i:Nat}(h:i<n)(hf:f i=true):anyI n f=true:=by
 simp only[anyI,aK,bg];exact⟨i,h,hf⟩
theorem l5{n:Nat}{f:Nat->Bool}:anyI n f=true↔∃i,i<n∧f i=true:=by simp only[anyI,aK,bg]
def twice(r:Ring):Bool:=anyI r.length fun i=>decide (1<=i)&&anyI r.length fun j=>decide (i<j)&&decide (r[i]?=r[j]?)
def rU(n i j:Nat):Int:=if i+1=j∨(i=0∧j+1=n)then 1 else 0
def Jn(l:List kF)(i:Nat):kF:=l.getD i ((0,0),(0,0))
def qD(r:Ring):Bool:=anyI (jT r).length fun j=>anyI j fun i=>decide (lN (Jn (jT r) i) (Jn (jT r) j)≠rU (jT r).length i j)
def simple(l:Poly):Bool:=!(l.any fun r=>twice r||qD r)
def lq(s t:kF):Bool:=decide (lN s t=2)||decide (lN s t=3)
def kC(r o:Ring):Bool:=(jT r).any fun s=>(jT o).any fun t=>lq s t
def lF(l:Poly)(i:Nat):Ring:=l.getD i []
def touch(l:Poly):Bool:=!(anyI l.length fun j=>anyI j fun i=>kC (lF l i) (lF l j))
def lies(r o:Ring)(k:Int):Bool:=!((jT r).any fun s=>(mW s [o]).any fun m=>decide (place o m≠k))
def qQ(j:Nat):Int:=if j=0 then 2 else 0
def nested(l:Poly):Bool:=!(anyI l.length fun i=>decide (1<=i)&&anyI l.length fun j=>decide (i≠j)&&!(lies (lF l i) (lF l j) (qQ j)))
def mC(l:Poly)(p:jS):List Nat:=(List.range l.length).filter fun i=>decide (place (lF l i) (rG p)=1)
def sE(l:Poly)(a:List jS)(p:jS):List jS:=if¬(p∈a)∧1<(mC l p).length then a++[p]else a
def qV(l:Poly):List jS:=l.flatten.foldl (sE l) []
def rO(old first:Nat)(g:Nat):Nat:=if g=old then first else g
def mR(l:List Nat)(i:Nat):Nat:=l.getD i 0
def ue:List Nat->Nat->List Nat->Option (List Nat)|g,_,[]=>some g|g,a,j::t=>if mR g j=mR g a then none else ue (g.map (rO (mR g j) (mR g a))) a t
def join(g:List Nat):List Nat->Option (List Nat)|[]=>some g|a::t=>ue g a t
def zB(l:Poly):List jS->List Nat->Bool|[],_=>false|p::t,g=>match join g (mC l p)with|none=>true|some g'=>zB l t g'
def way(l:Poly):Bool:=zB l (qV l) (List.range l.length)
def qp(c:Nat)(l:Poly):Bool:=if c=1 then simple l else if c=2 then touch l else if c=3 then nested l else !(way l)
def nh(a b:Poly):Bool:=a.any fun r=>b.any fun o=>kC r o
def pP:List Ring->Bool->Bool->j9->Bool|[],_,f,_=>f|r::t,first,f,p=>if place r p=1 then false else pP t false (f||(first&&decide (place r p=0))||(!first&&decide (place r p=2))) p
def free(l:Poly)(p:j9):Bool:=pP l true false p
def enters(a b:Poly):Bool:=a.any fun r=>(jT r).any fun s=>(mW s b).any fun m=>!(free b m)
def lp(m:jX)(i:Nat):Poly:=m.getD i []
def oU(m:jX):Bool:=anyI m.length fun j=>anyI j fun i=>nh (lp m i) (lp m j)||enters (lp m i) (lp m j)||enters (lp m j) (lp m i)
def o9(c:Nat)(m:jX):Bool:=m.any fun l=>!(qp c l)
def least(m:jX):Int:=if o9 1 m then 1 else if o9 2 m then 2 else if o9 3 m then 3 else if o9 4 m then 4 else if oU m then 5 else 0
theorem AG{p q r:jS}(h:kS p q)(k:kS q r):kS p r:=by
 unfold kS at*;omega
theorem Nu(s:kF)(f:jS):∀(l:List jS)(t:jS),l.foldl (wX s f) t=t∨(l.foldl (wX s f) t∈l∧kS f (l.foldl (wX s f) t)):=by
 intro l;induction l with|nil=>intro t;exact .inl rfl|cons p l ih=>intro t;rw[eK];by_cases h:kS f p∧kS p t∧has s.1 s.2 p 1;{have e:wX s f t p=p:=aB h;rw[e];rcases ih p with k|⟨k1,k2⟩;{rw[k];exact .inr ⟨by simp,h.1⟩};·exact .inr ⟨by simp[k1],k2⟩};·have e:wX s f t p=t:=ah h;rw[e];rcases ih t with k|⟨k1,k2⟩;{exact .inl k};·exact .inr ⟨by simp[k1],k2⟩
def ahead(s:kF)(f:jS)(rings:Poly):Nat:=if f=s.2 then 0 else 1+rings.flatten.countP fun p=>decide (kS f p)
theorem Yv(s:kF)(f:jS)(rings:Poly):ahead s f rings<=rings.flatten.length+1:=by
 unfold ahead;split;{omega};·have:=iI (p:=fun p=>decide (kS f p)) (l:=rings.flatten);omega
theorem QD{s:kF}{f:jS}{rings:Poly}(h:f≠s.2):ahead s (o8 s f rings) rings<ahead s f rings:=by
 unfold ahead;rw[ah h];split;{omega};·rename_i g;rcases Nu s f rings.flatten s.2 with k|⟨k1,k2⟩;{exact absurd k g};·have:rings.flatten.countP (fun p=>decide (kS (o8 s f rings) p))<rings.flatten.countP (fun p=>decide (kS f p)):=(by obtain⟨l1,l2,e⟩:=iy k1;have mono:∀l:List jS,l.countP (fun p=>decide (kS (o8 s f rings) p))<=l.countP (fun p=>decide (kS f p)):=(by intro l;apply iJ;intro x _ hx;exact ag (AG k2 (bD hx)));have m1:=mono l1;have m2:=mono l2;have e':rings.flatten=l1++o8 s f rings::l2:=e;generalize hx:o8 s f rings=x at*;have k2':kS f x:=(by rw[←hx];exact k2);rw[e',iz,iz,ff,ff];have d1:decide (kS x x)=false:=aA fun q=>o7 q q;have d2:decide (kS f x)=true:=ag k2';simp only[d1,d2,gW];simp;omega);omega
theorem Vp{s:kF}{f:jS}{rings:Poly}(h:f=s.2)(n:Nat):uN n s f rings=[]:=by cases n with|zero=>rfl|succ n=>unfold uN;rw[aB h]
theorem Vq:∀(n:Nat)(s:kF)(f:jS)(rings:Poly),(uN n s f rings).length<=n:=by
 intro n;induction n with|zero=>intro s f rings;exact bB _|succ n ih=>intro s f rings;unfold uN;split;{simp};·have:=ih s (o8 s f rings) rings;simp;omega
theorem CG(s:kF)(rings:Poly):(mW s rings).length<=rings.flatten.length+1:=Vq _ _ _ _
theorem ld(r:Ring):(jT r).length=r.length-1:=by simp[jT]
theorem lQ{r:Ring}{i:Nat}{p q:jS}(hp:r[i]?=some p)(hq:r[i+1]?=some q):(jT r)[i]?=some (p,q):=by
 have hq':r.tail[i]?=some q:=(by simpa using hq);simp[jT,List.getElem?_zip_eq_some,hp,hq']
theorem kP{r:Ring}{s:kF}(h:s∈jT r):s.1∈r∧s.2∈r:=by
 have:=List.of_mem_zip (a:=s.1) (b:=s.2) (show(s.1,s.2)∈r.zip r.tail from h);exact⟨this.1,List.mem_of_mem_tail this.2⟩
theorem Nv(s:kF)(f:jS)(rings:Poly):o8 s f rings=s.2∨o8 s f rings∈rings.flatten:=by
 rcases Nu s f rings.flatten s.2 with k|⟨k1,_⟩;{exact .inl k};·exact .inr k1
def Cd(p:jS):Prop:=-32768<=p.1∧p.1<=32768∧-32768<=p.2∧p.2<=32768
def vS(s:kF):Prop:=Cd s.1∧Cd s.2
def DX(r:Ring):Prop:=∀p∈r,Cd p
def zC(l:Poly):Prop:=∀r∈l,DX r
def Sp(p:j9):Prop:=-1048576<=p.1.1∧p.1.1<=1048576∧-1048576<=p.1.2∧p.1.2<=1048576∧1<=p.2∧p.2<=1048576
theorem uY{p:jS}(h:Cd p):Sp (rG p):=by
 unfold Cd at h;unfold Sp rG;simp only;omega
theorem agp{p q:jS}(h:Cd p)(k:Cd q):Sp (kL p q):=by
 unfold Cd at h k;unfold Sp kL;simp only;omega
theorem yF{r:Ring}(h:DX r){s:kF}(hs:s∈jT r):vS s:=⟨h _ (kP hs).1,h _ (kP hs).2⟩
theorem Gz{s:kF}(h:vS s):vS (fwd s.1 s.2):=by
 unfold fwd;split;{exact⟨h.2,h.1⟩};·exact h
theorem wB{s:kF}{f:jS}{rings:Poly}(hs:vS s)(hr:zC rings):Cd (o8 s f rings):=by
 rcases Nv s f rings with k|k;{rw[k];exact hs.2};·obtain⟨r,h1,h2⟩:=aT.1 k;exact hr r h1 _ h2
theorem Yw{s:kF}{rings:Poly}(hs:vS s)(hr:zC rings):∀(n:Nat)(f:jS),Cd f->∀m∈uN n s f rings,Sp m:=by
 intro n;induction n with|zero=>intro f _ m hm;cases hm|succ n ih=>intro f hf m hm;unfold uN at hm;split at hm;{cases hm};·rcases aF.1 hm with rfl|hm;{exact agp hf (wB hs hr)};·exact ih _ (wB hs hr) m hm
theorem Lx{s:kF}{rings:Poly}(hs:vS s)(hr:zC rings):∀m∈mW s rings,Sp m:=Yw (Gz hs) hr _ _ (Gz hs).1
theorem ajP{m:jX}(h:Pl.wrong m=0):∀l∈m,zC l:=by
 have h4:m.any Pl.wA=false:=(by unfold Pl.wrong at h;split at h;{omega};·split at h;{omega};·split at h;{omega};·rename_i k;simpa using k);intro l hl r hr p hp;have h1:Pl.xg p=false:=(by cases hw:Pl.xg p with|false=>rfl|true=>have:m.any Pl.wA=true:=aK.2 ⟨l,hl,aK.2 ⟨r,hr,aK.2 ⟨p,hp,hw⟩⟩⟩;rw[h4]at this;cases this);unfold Pl.xg Pl.zl at h1;simp at h1;unfold Cd;omega
def jR(r:Ring)(i:Nat):jS:=r.getD i (0,0)
def l9(r:Ring)(i:Nat):jS:=if i+1<r.length then jR r (i+1)else jR r 1
def turns(r:Ring)(i:Nat):Bool:=decide (1<=i)&&decide (side (jR r (i-1),jR r i) (rG (l9 r i))≠0)
def lP(r:Ring)(n:Nat):Ring:=((List.range n).filter (turns r)).map (jR r)
def jU(r:Ring):Ring:=lP r r.length
def zD(v:Ring)(f i:Nat):Nat:=if kS (jR v i) (jR v f)then i else f
def pH(v:Ring)(n:Nat):Nat:=(List.range n).foldl (zD v) 0
def kN(v:Ring):Nat:=pH v v.length
def wC(v:Ring)(k:Nat):Bool:=decide (0<side (jR v ((k+v.length-1)%v.length),jR v k) (rG (jR v ((k+1)%v.length))))
def sR(v:Ring)(l:Bool):Nat:=if wC v (kN v)=l then 1 else v.length-1
def j6(r:Ring)(l:Bool):Ring:=if(jU r).length=0 then[]else(List.range ((jU r).length+1)).map fun i=>jR (jU r) ((kN (jU r)+i*sR (jU r) l)%(jU r).length)
def lV:Ring->Ring->Int|[],[]=>0|[],_::_=>-1|_::_,[]=>1|p::t,q::u=>if kS q p then 1 else if kS p q then-1 else lV t u
def mS:Poly->Poly->Int|[],[]=>0|[],_::_=>-1|_::_,[]=>1|p::t,q::u=>if lV p q≠0 then lV p q else mS t u
def isA(m:jX)(a i:Nat):Bool:=decide (mS (lp m i) (lp m a)<0)||(decide (mS (lp m i) (lp m a)=0)&&decide (i<a))
def qE(m:jX)(a n:Nat):Nat:=(List.range n).countP (isA m a)
def QE(m:jX)(o:jX)(i:Nat):jX:=o.set (qE m i m.length) (lp m i)
def Yx(m:jX)(n:Nat):jX:=(List.range n).foldl (QE m) (List.replicate m.length [])
def mP(m:jX):jX:=Yx m m.length
def qW(l:Poly):jX:=l.map fun r=>[j6 r false]
def lM:Poly->Poly|[]=>[]|r::l=>j6 r true::(mP (qW l)).flatten
def form(m:jX):jX:=mP (m.map lM)
def qq:List Ring->Bool->j9->Bool|[],_,_=>true|r::t,first,p=>if(first&&decide (place r p=0))||(!first&&decide (place r p=2))then false else qq t false p
def kR(l:Poly)(p:j9):Bool:=qq l true p&&decide (0<l.length)
def mg(m:jX)(p:j9):Bool:=m.any fun l=>kR l p
def along(s:kF):jS:=(s.2.1-s.1.1,s.2.2-s.1.2)
def kX(w o:jS):Int:=w.1*o.2-w.2*o.1
def BF(n:Int):Int:=if n<0 then-n else n
def th(p:j9)(s:kF):jS:=(s.1.1*p.2-p.1.1,s.1.2*p.2-p.1.2)
def mD(p:j9)(w:jS)(s:kF):Int:=if BF (kX (th p s) (along s))=0 then 1 else(BF (p.2*kX w (along s))).tdiv (BF (kX (th p s) (along s)))+1
def ql(p:j9)(w:jS)(n:Int)(s:kF):Int:=if n<mD p w s then mD p w s else n
def lG(p:j9)(w:jS)(n:Int):j9:=((p.1.1*n+p.2*w.1,p.1.2*n+p.2*w.2),p.2*n)
def near(both:List kF)(p:j9)(w:jS):j9:=lG p w (both.foldl (ql p w) 1)
def tD(both:List kF)(s t:kF)(m:j9):Option j9:=if kX (along s) (along t)<0 then some (near both m (along t))else if 0<kX (along s) (along t)then some (near both m (-(along t).1,-(along t).2))else none
def pe(other:jX)(both:List kF)(s:kF)(m:j9):List kF->Option j9|[]=>if mg other m then some (near both m ((along s).2,-(along s).1))else some m|t::l=>if hasB t m then tD both s t m else pe other both s m l
def kg(l:Poly):List kF:=l.flatMap jT
def lT(a b:jX):Option j9:=(kg a.flatten).findSome? fun s=>(mW s (a.flatten++b.flatten)).findSome? fun m=>pe b (kg (a.flatten++b.flatten)) s m (kg b.flatten)
def spot(a b:jX):Option j9:=match lT a b with|some p=>some p|none=>lT b a
def Cut(a b:jS)(l:List jS)(x:jS):Prop:=x=a∨x=b∨(x∈l∧has a b x 1)
structure Cons(f:jS->Int)(C:jS->Prop)(x y:jS):Prop where
 cx:C x
 cy:C y
 lt:f x<f y
 no:∀c,C c->¬(f x<f c∧f c<f y)
def vD(f:jS->Int)(ok:jS->Prop)[DecidablePred ok](from_ to p:jS):jS:=if ok p∧f from_<f p∧f p<f to then p else to
theorem JO(f:jS->Int)(ok:jS->Prop)[DecidablePred ok](x:jS):∀(l:List jS)(t:jS),f x<f t->(l.foldl (vD f ok x) t=t∨(l.foldl (vD f ok x) t∈l∧ok (l.foldl (vD f ok x) t)))∧f x<f (l.foldl (vD f ok x) t)∧f (l.foldl (vD f ok x) t)<=f t∧∀c∈l,ok c->¬(f x<f c∧f c<f (l.foldl (vD f ok x) t)):=by
 intro l;induction l with|nil=>intro t h;exact⟨.inl rfl,h,c9 _,by simp⟩|cons p l ih=>intro t h;rw[eK];by_cases k:ok p∧f x<f p∧f p<f t;{rw[show vD f ok x t p=p from aB k];obtain⟨h1,h2,h3,h4⟩:=ih p k.2.1;refine⟨?_,h2,by omega,?_⟩;{rcases h1 with e|⟨e1,e2⟩;{rw[e];exact .inr ⟨by simp,k.1⟩};·exact .inr ⟨by simp[e1],e2⟩};·intro c hc hok;rcases aF.1 hc with rfl|hc;{omega};·exact h4 c hc hok};·rw[show vD f ok x t p=t from ah k];obtain⟨h1,h2,h3,h4⟩:=ih t h;refine⟨?_,h2,h3,?_⟩;{rcases h1 with e|⟨e1,e2⟩;{exact .inl e};·exact .inr ⟨by simp[e1],e2⟩};·intro c hc hok;rcases aF.1 hc with rfl|hc;{intro⟨q1,q2⟩;exact k ⟨hok,q1,by omega⟩};·exact h4 c hc hok
def Nw(f:jS->Int)(ok:jS->Prop)[DecidablePred ok](l:List jS)(b:jS):Nat->jS->List j9|0,_=>[]|n+1,x=>if x=b then[]else kL x (l.foldl (vD f ok x) b)::Nw f ok l b n (l.foldl (vD f ok x) b)
def fuel(f:jS->Int)(l:List jS)(b x:jS):Nat:=if x=b then 0 else 1+l.countP fun p=>decide (f x<f p)
theorem JP{f:jS->Int}{ok:jS->Prop}[DecidablePred ok]{l:List jS}{b x:jS}(hx:x≠b)(h:f x<f b):fuel f l b (l.foldl (vD f ok x) b)<fuel f l b x:=by
 obtain⟨h1,h2,-,-⟩:=JO f ok x l b h;unfold fuel;rw[ah hx];split;{omega};·rename_i g;rcases h1 with e|⟨e1,e2⟩;{exact absurd e g};·generalize l.foldl (vD f ok x) b=y at*;obtain⟨l1,l2,e⟩:=iy e1;have mono:∀l:List jS,l.countP (fun p=>decide (f y<f p))<=l.countP (fun p=>decide (f x<f p)):=(by intro l;apply iJ;intro z _ hz;have:=bD hz;exact ag (by omega));have m1:=mono l1;have m2:=mono l2;rw[e,iz,iz,ff,ff];simp[h2];omega
theorem Yy{f:jS->Int}{C ok:jS->Prop}[DecidablePred ok]{l:List jS}{a b:jS}(hC:∀x,C x↔x=a∨x=b∨(x∈l∧ok x))(inj:∀x y,C x->C y->f x=f y->x=y)(top:∀x,C x->f x<=f b):∀(n:Nat)(x:jS),C x->fuel f l b x<=n->f a<=f x->∀m,m∈Nw f ok l b n x↔∃y z,Cons f C y z∧f x<=f y∧m=kL y z:=by
 intro n;induction n with|zero=>intro x hx hn ha m;have:x=b:=(by unfold fuel at hn;split at hn<;>first|assumption|omega);subst this;constructor;{intro h;cases h};{rintro⟨y,z,hc,h1,-⟩;have:=top z hc.cy;have:=hc.lt;omega}|succ n ih=>intro x hx hn ha m;unfold Nw;by_cases hb:x=b;{rw[aB hb];constructor;{intro h;cases h};·rintro⟨y,z,hc,h1,-⟩;have:=top z hc.cy;have:=hc.lt;rw[hb]at h1;omega};·rw[ah hb];have hlt:f x<f b:=(by have:=top x hx;rcases fG this with h|h;{exact h};·exact absurd (inj x b hx ((hC b).2 (.inr (.inl rfl))) h) hb);have hf:=JP (ok:=ok) (l:=l) hb hlt;obtain⟨h1,h2,h3,h4⟩:=JO f ok x l b hlt;generalize hy:l.foldl (vD f ok x) b=y at*;have cy:C y:=(by rw[hC];rcases h1 with e|⟨e1,e2⟩;{exact .inr (.inl e)};·exact .inr (.inr ⟨e1,e2⟩));have hno:∀c,C c->¬(f x<f c∧f c<f y):=(by intro c hc;rcases(hC c).1 hc with rfl|rfl|⟨e1,e2⟩;{omega};{omega};·exact h4 c e1 e2);have key:=ih y cy (by omega) (by omega) m;rw[aF,key];constructor;{rintro(rfl|⟨u,v,hc,k1,k2⟩);{exact⟨x,y,⟨hx,cy,h2,hno⟩,c9 _,rfl⟩};·exact⟨u,v,hc,by omega,k2⟩};·rintro⟨u,v,hc,k1,k2⟩;by_cases hu:f y<=f u;{exact .inr ⟨u,v,hc,hu,k2⟩};·left;have e1:u=x:=(by refine inj u x hc.cx hx ?_;have:=hno u hc.cx;omega);subst e1;have e2:v=y:=(by refine inj v y hc.cy cy ?_;have g1:=hno v hc.cy;have g2:=hc.no y cy;have g3:=hc.lt;omega);rw[k2,e2]
theorem qm(a b:jS):has a b a 1:=⟨uM a b,by unfold nL;omega,by unfold nL;omega⟩
theorem oO(a b:jS):has a b b 1:=⟨tZ a b,by unfold nL;omega,by unfold nL;omega⟩
theorem lE{a b:jS}{l:List jS}{x:jS}(h:Cut a b l x):has a b x 1:=by
 rcases h with rfl|rfl|h;{exact qm _ _};{exact oO _ _};·exact h.2
theorem l8{a b x:jS}(hab:a≠b)(h:has a b x 1):0<=pos a b x∧pos a b x<=kk a b:=by
 have:=(sD hab (by omega)).1 h;exact⟨this.2.1,by have:=this.2.2;unfold pos;omega⟩
theorem rH{a b x y:jS}(hab:a≠b)(hx:cr a b x 1=0)(hy:cr a b y 1=0)(e:pos a b x=pos a b y):x=y:=by
 have hk:=lR hab;have e1:(pos a b y-pos a b x)*(b.1-a.1)=(y.1-x.1)*kk a b:=(by unfold cr at hx hy;unfold pos dt kk;grind);have e2:(pos a b y-pos a b x)*(b.2-a.2)=(y.2-x.2)*kk a b:=(by unfold cr at hx hy;unfold pos dt kk;grind);rw[e,jy,dZ]at e1 e2;have z:∀t:Int,0=t*kk a b->t=0:=(by intro t h;rcases aU.1 h.symm with h|h;{exact h};·omega);have:=z _ e1;have:=z _ e2;exact cN (by omega) (by omega)
theorem GA{a b:jS}(hab:a≠b)(l:List jS){n:Nat}(hn:l.length+1<=n)(m:j9):m∈Nw (pos a b) (fun x=>has a b x 1) l b n a↔∃y z,Cons (pos a b) (Cut a b l) y z∧m=kL y z:=by
 have hk:=lR hab;have:=Yy (f:=pos a b) (C:=Cut a b l) (ok:=fun x=>has a b x 1) (l:=l) (a:=a) (b:=b) (fun x=>Iff.rfl) (fun x y hx hy e=>rH hab (lE hx).1 (lE hy).1 e) (fun x hx=>by rw[o6];exact(l8 hab (lE hx)).2) n a (.inl rfl) (by unfold fuel;split;{omega};·have:=iI (p:=fun p=>decide (pos a b a<pos a b p)) (l:=l);omega) (c9 _) m;rw[this];constructor;{rintro⟨y,z,hc,-,e⟩;exact⟨y,z,hc,e⟩};·rintro⟨y,z,hc,e⟩;exact⟨y,z,hc,by rw[nG];exact(l8 hab (lE hc.cx)).1,e⟩
theorem Ny{a b x y:jS}(h:kS a b)(hx:cr a b x 1=0)(hy:cr a b y 1=0):kS x y↔pos a b x<pos a b y:=(yE (agn h) hx hy).1 h
theorem Nz{a b x:jS}(h:kS a b)(hx:cr a b x 1=0):∀(l:List jS)(t:jS),cr a b t 1=0->l.foldl (wX (a,b) x) t=l.foldl (vD (pos a b) (fun p=>has a b p 1) x) t∧cr a b (l.foldl (wX (a,b) x) t) 1=0:=by
 intro l;induction l with|nil=>intro t ht;exact⟨rfl,ht⟩|cons p l ih=>intro t ht;rw[eK,eK];by_cases hp:has a b p 1;{have e1:=Ny h hx hp.1;have e2:=Ny h hp.1 ht;have e:wX (a,b) x t p=vD (pos a b) (fun p=>has a b p 1) x t p:=(by unfold wX vD;by_cases c:kS x p∧kS p t;{rw[aB ⟨c.1,c.2,hp⟩,aB ⟨hp,e1.1 c.1,e2.1 c.2⟩]};·rw[ah (fun q=>c ⟨q.1,q.2.1⟩),ah (fun q=>c ⟨e1.2 q.2.1,e2.2 q.2.2⟩)]);have ht':cr a b (wX (a,b) x t p) 1=0:=(by unfold wX;split;exact hp.1;exact ht);rw[←e];exact ih _ ht'};·rw[show wX (a,b) x t p=t from ah (fun q=>hp q.2.2),show vD (pos a b) (fun p=>has a b p 1) x t p=t from ah (fun q=>hp q.1)];exact ih t ht
theorem ND{a b:jS}(h:kS a b)(rings:Poly):∀(n:Nat)(x:jS),cr a b x 1=0->uN n (a,b) x rings=Nw (pos a b) (fun p=>has a b p 1) rings.flatten b n x:=by
 intro n;induction n with|zero=>intro x _;rfl|succ n ih=>intro x hx;obtain⟨e,k⟩:=Nz h hx rings.flatten b (tZ a b);unfold uN Nw o8;simp only;rw[←e,ih _ k]
theorem mL{a b p:jS}{w:Int}:has a b p w↔has b a p w:=by
 unfold has;rw[oD a b p w];unfold nL;omega
theorem GB{a b:jS}{l:List jS}{x:jS}:Cut a b l x↔Cut b a l x:=by
 unfold Cut;rw[mL (a:=a)];constructor;{rintro(h|h|h);{exact .inr (.inl h)};{exact .inl h};·exact .inr (.inr h)};·rintro(h|h|h);{exact .inr (.inl h)};{exact .inl h};·exact .inr (.inr h)
theorem zE(a b x:jS):pos b a x=kk a b-pos a b x:=by
 unfold pos dt kk;grind
theorem JQ{a b:jS}{l:List jS}{x y:jS}(h:Cons (pos a b) (Cut a b l) x y):Cons (pos b a) (Cut b a l) y x:=by
 refine⟨GB.1 h.cy,GB.1 h.cx,?_,?_⟩;{rw[zE,zE a b];have:=h.lt;omega};·intro c hc;have:=h.no c (GB.2 hc);rw[zE,zE a b c,zE a b x];omega
theorem NF(x y:jS):kL x y=kL y x:=by
 unfold kL;rw[Int.add_comm,Int.add_comm x.2]
theorem p8{a b:jS}(hab:a≠b)(rings:Poly)(m:j9):m∈mW (a,b) rings↔∃y z,Cons (pos a b) (Cut a b rings.flatten) y z∧m=kL y z:=by
 unfold mW fwd;simp only;by_cases h:kS b a;{rw[aB h];simp only;rw[ND h rings _ _ (uM b a),GA (dS hab) _ (bB _)];constructor;{rintro⟨y,z,hc,e⟩;exact⟨z,y,JQ hc,by rw[e,NF]⟩};·rintro⟨y,z,hc,e⟩;exact⟨z,y,JQ hc,by rw[e,NF]⟩};·have h':kS a b:=(by rcases uE a b with k|k|k;{exact k};{exact absurd k hab};·exact absurd k h);rw[ah h];simp only;rw[ND h' rings _ _ (uM a b),GA hab _ (bB _)]
def NG(a b x y:jS):Int:=(y.1-x.1)*(b.1-a.1)+(y.2-x.2)*(b.2-a.2)
theorem NH(a b x y:jS):NG a b x y=pos a b y-pos a b x:=by
 unfold NG pos dt;grind
instance(a b p:jS)(w:Int):Decidable (on a b p w):=by
 unfold on;infer_instance
def NI(a b x t p:jS):jS:=if on a b p 1∧NG a b x p>0∧NG a b p t>0 then p else t
def zF(a b x:jS)(rings:Poly):jS:=rings.flatten.foldl (NI a b x) b
def uO(a b:jS)(rings:Poly):Nat->jS->List j9|0,_=>[]|n+1,x=>if x=b then[]else kL x (zF a b x rings)::uO a b rings n (zF a b x rings)
theorem ac1{a b:jS}(hab:a≠b)(x t p:jS):NI a b x t p=vD (pos a b) (fun p=>has a b p 1) x t p:=by
 unfold NI vD;have e:=sD (p:=p) (w:=1) hab (by omega);rw[NH,NH];by_cases c:has a b p 1∧pos a b x<pos a b p∧pos a b p<pos a b t;{rw[aB c,aB ⟨e.1 c.1,by omega,by omega⟩]};·rw[ah c,ah (fun q=>c ⟨e.2 q.1,by omega,by omega⟩)]
theorem CH{a b:jS}(hab:a≠b)(x:jS)(rings:Poly):zF a b x rings=rings.flatten.foldl (vD (pos a b) (fun p=>has a b p 1) x) b:=by
 unfold zF;congr 1;funext t p;exact ac1 hab x t p
theorem Yz{a b:jS}(hab:a≠b)(rings:Poly):∀(n:Nat)(x:jS),uO a b rings n x=Nw (pos a b) (fun p=>has a b p 1) rings.flatten b n x:=by
 intro n;induction n with|zero=>intro x;rfl|succ n ih=>intro x;unfold uO Nw;rw[CH hab,ih]
def BG(a b:jS)(rings:Poly):List j9:=uO a b rings (rings.flatten.length+1) a
theorem YA{a b:jS}(hab:a≠b)(rings:Poly)(m:j9):m∈BG a b rings↔∃y z,Cons (pos a b) (Cut a b rings.flatten) y z∧m=kL y z:=by
 unfold BG;rw[Yz hab,GA hab _ (bB _)]
theorem AH{a b:jS}(hab:a≠b)(rings:Poly)(m:j9):m∈mW (a,b) rings↔m∈BG a b rings:=by rw[p8 hab,YA hab]
theorem Ly{g:List Nat}{f:Nat->Nat}{i:Nat}(h:i<g.length):mR (g.map f) i=f (mR g i):=by
 unfold mR;simp[aC,aL h]
theorem LA{o f x y:Nat}(h:rO o f x=rO o f y):x=y∨((x=o∨x=f)∧(y=o∨y=f)):=by
 unfold rO at h;split at h<;>split at h<;>omega
theorem YB:∀(js:List Nat)(g:List Nat)(a:Nat)(g':List Nat),a<g.length->(∀j∈js,j<g.length)->ue g a js=some g'->g'.length=g.length∧(∀x y,x<g.length->y<g.length->mR g x=mR g y->mR g' x=mR g' y)∧(∀j∈js,mR g' j=mR g' a)∧(∀j∈js,mR g j≠mR g a)∧js.Pairwise (fun i j=>mR g i≠mR g j):=by
 intro js;induction js with|nil=>intro g a g' _ _ h;simp only[ue,gD]at h;subst h;exact⟨rfl,fun _ _ _ _ e=>e,by simp,by simp,List.Pairwise.nil⟩|cons j t ih=>intro g a g' ha hj h;unfold ue at h;split at h;{cases h};·rename_i hne;have hjl:=hj j (by simp);have key:=ih _ a g' (by simpa using ha) (by intro x hx;simpa using hj x (by simp[hx])) h;obtain⟨k1,k2,k3,k4,k5⟩:=key;simp only[aH]at k1 k2;have m:∀x,x<g.length->mR (g.map (rO (mR g j) (mR g a))) x=rO (mR g j) (mR g a) (mR g x):=fun x hx=>Ly hx;have ma:rO (mR g j) (mR g a) (mR g a)=mR g a:=(by unfold rO;rw[ah (dS hne)]);have mj:rO (mR g j) (mR g a) (mR g j)=mR g a:=(by unfold rO;rw[aB rfl]);have kt:∀i∈t,mR g i≠mR g a∧mR g i≠mR g j:=(by intro i hi;have hil:=hj i (by simp[hi]);have:=k4 i hi;rw[m i hil,m a ha,ma]at this;constructor;{intro e;rw[e,ma]at this;exact this rfl};·intro e;rw[e,mj]at this;exact this rfl);refine⟨k1,?_,?_,?_,?_⟩;{intro x y hx hy e;refine k2 x y hx hy ?_;rw[m x hx,m y hy,e]};{intro i hi;rcases aF.1 hi with rfl|hi;{refine k2 _ _ hjl ha ?_;rw[m _ hjl,m a ha,mj,ma]};·exact k3 i hi};{intro i hi;rcases aF.1 hi with rfl|hi;{exact hne};·exact(kt i hi).1};·refine List.Pairwise.cons (fun i hi=>dS (kt i hi).2) ?_;refine List.Pairwise.imp_of_mem ?_ k5;intro x y hx hy e e2;rw[m x (hj x (by simp[hx])),m y (hj y (by simp[hy])),e2]at e;exact e rfl
theorem QG:∀(js:List Nat)(g:List Nat)(a:Nat)(g':List Nat),a<g.length->(∀j∈js,j<g.length)->ue g a js=some g'->∀x y,x<g.length->y<g.length->mR g' x=mR g' y->mR g x=mR g y∨∃u∈a::js,∃v∈a::js,mR g u=mR g x∧mR g v=mR g y:=by
 intro js;induction js with|nil=>intro g a g' _ _ h x y _ _ e;simp only[ue,gD]at h;subst h;exact .inl e|cons j t ih=>intro g a g' ha hj h x y hx hy e;unfold ue at h;split at h;{cases h};·rename_i hne;have hjl:=hj j (by simp);have m:∀x,x<g.length->mR (g.map (rO (mR g j) (mR g a))) x=rO (mR g j) (mR g a) (mR g x):=fun x hx=>Ly hx;have key:=ih _ a g' (by simpa using ha) (by intro x hx;simpa using hj x (by simp[hx])) h x y (by simpa using hx) (by simpa using hy) e;have up:∀u∈a::t,∀z,z<g.length->mR (g.map (rO (mR g j) (mR g a))) u=mR (g.map (rO (mR g j) (mR g a))) z->∃u'∈a::j::t,mR g u'=mR g z:=(by intro u hu z hz e;have hul:u<g.length:=(by rcases aF.1 hu with rfl|hu;{exact ha};·exact hj u (by simp[hu]));rw[m u hul,m z hz]at e;rcases LA e with e|⟨_,e|e⟩;{refine⟨u,?_,e⟩;rcases aF.1 hu with rfl|hu;{simp};·simp[hu]};{exact⟨j,by simp,e.symm⟩};·exact⟨a,by simp,e.symm⟩);rcases key with k|⟨u,hu,v,hv,k1,k2⟩;{rw[m x hx,m y hy]at k;rcases LA k with k|⟨k1,k2⟩;{exact .inl k};·right;have one:∀z,(mR g z=mR g j∨mR g z=mR g a)->∃u∈a::j::t,mR g u=mR g z:=(by rintro z(e|e);{exact⟨j,by simp,e.symm⟩};·exact⟨a,by simp,e.symm⟩);obtain⟨u,hu,e1⟩:=one x k1;obtain⟨v,hv,e2⟩:=one y k2;exact⟨u,hu,v,hv,e1,e2⟩};·right;obtain⟨u',FW,e1⟩:=up u hu x hx k1;obtain⟨v',hv',e2⟩:=up v hv y hy k2;exact⟨u',FW,v',hv',e1,e2⟩
theorem QI:∀(js:List Nat)(g:List Nat)(a:Nat),a<g.length->(∀j∈js,j<g.length)->(a::js).Nodup->ue g a js=none->∃u∈a::js,∃v∈a::js,u≠v∧mR g u=mR g v:=by
 intro js;induction js with|nil=>intro g a _ _ _ h;cases h|cons j t ih=>intro g a ha hj hnd h;have hjl:=hj j (by simp);have haj:a≠j:=fun e=>(b9.1 hnd).1 (by simp[e]);have hjt:j∉t:=(b9.1 (b9.1 hnd).2).1;unfold ue at h;split at h;{rename_i e;exact⟨j,by simp,a,by simp,dS haj,e⟩};·rename_i hne;have m:∀x,x<g.length->mR (g.map (rO (mR g j) (mR g a))) x=rO (mR g j) (mR g a) (mR g x):=fun x hx=>Ly hx;have Jo:(a::t).Nodup:=(by rw[b9]at hnd⊢;exact⟨fun e=>hnd.1 (by simp[e]),(b9.1 hnd.2).2⟩);obtain⟨u,hu,v,hv,huv,e⟩:=ih _ a (by simpa using ha) (by intro x hx;simpa using hj x (by simp[hx])) Jo h;have lt:∀x∈a::t,x<g.length:=(by intro x hx;rcases aF.1 hx with rfl|hx;{exact ha};·exact hj x (by simp[hx]));have ni:∀x∈a::t,x∈a::j::t:=(by intro x hx;rcases aF.1 hx with rfl|hx;{simp};·simp[hx]);have far:∀x∈a::t,mR g x=mR g j->∃u∈a::j::t,∃v∈a::j::t,u≠v∧mR g u=mR g v:=(by intro x hx e;refine⟨x,ni x hx,j,by simp,?_,e⟩;rintro rfl;rcases aF.1 hx with e|e;{exact haj e.symm};·exact hjt e);rw[m u (lt u hu),m v (lt v hv)]at e;rcases LA e with e|⟨e1|e1,e2|e2⟩;{exact⟨u,ni u hu,v,ni v hv,huv,e⟩};{exact far u hu e1};{exact far u hu e1};{exact far v hv e2};·exact⟨u,ni u hu,v,ni v hv,huv,by rw[e1,e2]⟩
abbrev Jp:=Nat->jS->Prop
structure ajQ(F:Jp)(x y:Nat):Prop where
 pt:∀r p,F r p->∃r',r'≠r∧F r' p
 ring:∀r p,F r p->r≠x->r≠y->∃p',p'≠p∧F r p'
structure Core(F:Jp):Prop where
 pt:∀r p,F r p->∃r',r'≠r∧F r' p
 ring:∀r p,F r p->∃p',p'≠p∧F r p'
structure At(n:Nat)(E:Jp)(at_:jS->List Nat):Prop where
 mem:∀r p,r∈at_ p↔r<n∧E r p
 nd:∀p,(at_ p).Nodup
theorem agq{f:Nat->Nat}{l:List Nat}(h:l.Pairwise (fun i j=>f i≠f j)):∀x y,x∈l->y∈l->x≠y->f x≠f y:=by induction h with|nil=>intro x y hx;cases hx|cons h1 _ ih=>intro x y hx hy hxy;rcases aF.1 hx with e1|e1<;>rcases aF.1 hy with e2|e2;{exact absurd (e1.trans e2.symm) hxy};{rw[e1];exact h1 y e2};{rw[e2];exact dS (h1 x e1)};·exact ih x y e1 e2 hxy
theorem GC{n:Nat}{E:Jp}{at_:jS->List Nat}(hA:At n E at_)(p:jS)(g:List Nat)(hg:g.length=n):(∀g',join g (at_ p)=some g'->g'.length=n∧(∀x y,x<n->y<n->mR g x=mR g y->mR g' x=mR g' y)∧(∀a b,a∈at_ p->b∈at_ p->mR g' a=mR g' b)∧(∀a b,a∈at_ p->b∈at_ p->a≠b->mR g a≠mR g b)∧(∀x y,x<n->y<n->mR g' x=mR g' y->mR g x=mR g y∨∃u∈at_ p,∃v∈at_ p,mR g u=mR g x∧mR g v=mR g y))∧(join g (at_ p)=none->∃u∈at_ p,∃v∈at_ p,u≠v∧mR g u=mR g v):=by
 have hnd:=hA.nd p;have hlt:∀j∈at_ p,j<g.length:=fun j hj=>(by rw[hg];exact((hA.mem j p).1 hj).1);cases hp:at_ p with|nil=>refine⟨fun g' h=>?_,fun h=>by cases h⟩;simp only[join,gD]at h;subst h;exact⟨hg,fun _ _ _ _ e=>e,by simp,by simp,fun _ _ _ _ e=>.inl e⟩|cons a t=>rw[hp]at hnd hlt;have ha:=hlt a (by simp);have ht:∀j∈t,j<g.length:=fun j hj=>hlt j (by simp[hj]);refine⟨fun g' h=>?_,fun h=>QI t g a ha ht hnd h⟩;obtain⟨k1,k2,k3,k4,k5⟩:=YB t g a g' ha ht h;have k6:=QG t g a g' ha ht h;rw[hg]at k1 k2 k6;refine⟨k1,k2,?_,?_,k6⟩;{have one:∀x∈a::t,mR g' x=mR g' a:=(by intro x hx;rcases aF.1 hx with rfl|hx;{rfl};·exact k3 x hx);intro x y hx hy;rw[one x hx,one y hy]};·intro x y hx hy hxy;rcases aF.1 hx with h1|h1<;>rcases aF.1 hy with h2|h2;{exact absurd (h1.trans h2.symm) hxy};{rw[h1];exact dS (k4 y h2)};{rw[h2];exact k4 x h1};·exact agq k5 x y h1 h2 hxy
structure Jd(n:Nat)(E:Jp)(Q:jS->Prop)(g:List Nat):Prop where
 len:g.length=n
 one:∀p,Q p->∀a b,a<n->b<n->E a p->E b p->mR g a=mR g b
 no:∀F:Jp,(∀r p,F r p->r<n∧E r p∧Q p)->∀x,ajQ F x x->∀r p,¬F r p
 good:∀a b,a<n->b<n->a≠b->mR g a=mR g b->∃F:Jp,(∀r p,F r p->r<n∧E r p∧Q p)∧ajQ F a b∧(∃p,F a p)∧(∃p,F b p)
theorem Jd.step{n:Nat}{E:Jp}{at_:jS->List Nat}(hA:At n E at_){Q:jS->Prop}{g g':List Nat}(h:Jd n E Q g){p:jS}(hp:¬Q p)(hj:join g (at_ p)=some g'):Jd n E (fun q=>Q q∨q=p) g':=by
 obtain⟨k1,k2,k3,k4,k5⟩:=(GC hA p g h.len).1 g' hj;refine⟨k1,?_,?_,?_⟩;{rintro q(hq|rfl)a b ha hb ea eb;{exact k2 a b ha hb (h.one q hq a b ha hb ea eb)};·exact k3 a b ((hA.mem a q).2 ⟨ha,ea⟩) ((hA.mem b q).2 ⟨hb,eb⟩)};·intro F hF x hN r0 p0 h0;by_cases hu:∃r,F r p;{obtain⟨a,ha⟩:=hu;obtain⟨b,hba,hb⟩:=hN.pt a p ha;have ea:=hF a p ha;have eb:=hF b p hb;have hne:=k4 a b ((hA.mem a p).2 ⟨ea.1,ea.2.1⟩) ((hA.mem b p).2 ⟨eb.1,eb.2.1⟩) (dS hba);have key:∀c,F c p->mR g c≠mR g x->False:=(by intro c hc YC;have ec:=hF c p hc;have ajR:c≠x:=fun e=>YC (by rw[e]);obtain⟨q,hq,hcq⟩:=hN.ring c p hc ajR ajR;refine h.no (fun r q=>F r q∧q≠p∧mR g r=mR g c) ?_ c ⟨?_,?_⟩ c q ⟨hcq,hq,rfl⟩;{rintro r q⟨h1,h2,-⟩;obtain⟨g1,g2,g3⟩:=hF r q h1;rcases g3 with g3|g3;{exact⟨g1,g2,g3⟩};·exact absurd g3 h2};{rintro r q⟨h1,h2,h3⟩;obtain⟨r',e,h4⟩:=hN.pt r q h1;have a1:=hF r q h1;have a2:=hF r' q h4;have hQ:Q q:=(by rcases a1.2.2 with t|t;exact t;exact absurd t h2);exact⟨r',e,h4,h2,by rw[←h3];exact h.one q hQ r' r a2.1 a1.1 a2.2.1 a1.2.1⟩};·rintro r q⟨h1,h2,h3⟩hr _;have hrx:r≠x:=fun e=>YC (by rw[←e,h3]);obtain⟨q',e,h4⟩:=hN.ring r q h1 hrx hrx;refine⟨q',e,h4,?_,h3⟩;rintro rfl;have a1:=hF r q' h4;exact k4 r c ((hA.mem r q').2 ⟨a1.1,a1.2.1⟩) ((hA.mem c q').2 ⟨ec.1,ec.2.1⟩) hr h3);by_cases hax:mR g a=mR g x;{exact key b hb (fun e=>hne (by rw[hax,e]))};·exact key a ha hax};·refine h.no F ?_ x hN r0 p0 h0;intro r q hq;obtain⟨g1,g2,g3⟩:=hF r q hq;rcases g3 with g3|rfl;{exact⟨g1,g2,g3⟩};·exact absurd ⟨r,hq⟩ hu
 ·intro a b ha hb hab e;have wide:∀F:Jp,(∀r p,F r p->r<n∧E r p∧Q p)->∀r q,F r q->r<n∧E r q∧(Q q∨q=p):=fun F hF r q hq=>⟨(hF r q hq).1,(hF r q hq).2.1,.inl (hF r q hq).2.2⟩;by_cases e0:mR g a=mR g b;{obtain⟨F,h1,h2,h3,h4⟩:=h.good a b ha hb hab e0;exact⟨F,wide F h1,h2,h3,h4⟩};·rcases k5 a b ha hb e with e1|⟨u,hu,v,hv,e1,e2⟩;{exact absurd e1 e0};have eu:=(hA.mem u p).1 hu;have ev:=(hA.mem v p).1 hv;have huv:u≠v:=(by rintro rfl;exact e0 (e1.symm.trans e2));have arm:∀z c,z<n->c<n->mR g z=mR g c->∃F:Jp,(∀r q,F r q->r<n∧E r q∧Q q)∧(∀r q,F r q->∃r',r'≠r∧F r' q)∧(∀r q,F r q->r≠z->r≠c->∃q',q'≠q∧F r q')∧(z≠c->(∃q,F z q)∧(∃q,F c q)):=(by intro z c hz hc ezc;by_cases zc:z=c;{exact⟨fun _ _=>False,by simp,by simp,by simp,fun t=>absurd zc t⟩};·obtain⟨F,h1,h2,h3,h4⟩:=h.good z c hz hc zc ezc;exact⟨F,h1,h2.pt,h2.ring,fun _=>⟨h3,h4⟩⟩);obtain⟨F,f1,f2,f3,f4⟩:=arm u a eu.1 ha e1;obtain⟨G,g1,g2,g3,g4⟩:=arm v b ev.1 hb e2;refine⟨fun r q=>F r q∨G r q∨(q=p∧(r=u∨r=v)),?_,⟨?_,?_⟩,?_,?_⟩;{rintro r q(t|t|⟨rfl,rfl|rfl⟩);{exact wide F f1 r q t};{exact wide G g1 r q t};{exact⟨eu.1,eu.2,.inr rfl⟩};·exact⟨ev.1,ev.2,.inr rfl⟩};{rintro r q(t|t|⟨rfl,rfl|rfl⟩);{obtain⟨r',e,t'⟩:=f2 r q t;exact⟨r',e,.inl t'⟩};{obtain⟨r',e,t'⟩:=g2 r q t;exact⟨r',e,.inr (.inl t')⟩};{exact⟨v,dS huv,.inr (.inr ⟨rfl,.inr rfl⟩)⟩};·exact⟨u,huv,.inr (.inr ⟨rfl,.inl rfl⟩)⟩};{have atU:∀q,q≠p->∃q',q'≠q∧(F u q'∨G u q'∨(q'=p∧(u=u∨u=v))):=fun q hq=>⟨p,dS hq,.inr (.inr ⟨rfl,.inl rfl⟩)⟩;have atV:∀q,q≠p->∃q',q'≠q∧(F v q'∨G v q'∨(q'=p∧(v=u∨v=v))):=fun q hq=>⟨p,dS hq,.inr (.inr ⟨rfl,.inr rfl⟩)⟩;rintro r q(t|t|⟨rfl,rfl|rfl⟩)Vr hrb;{have hq:q≠p:=fun e=>hp (e▸(f1 r q t).2.2);by_cases ru:r=u;{subst ru;exact atU q hq};·obtain⟨q',e,t'⟩:=f3 r q t ru Vr;exact⟨q',e,.inl t'⟩};{have hq:q≠p:=fun e=>hp (e▸(g1 r q t).2.2);by_cases rv:r=v;{subst rv;exact atV q hq};·obtain⟨q',e,t'⟩:=g3 r q t rv hrb;exact⟨q',e,.inr (.inl t')⟩};{obtain⟨q',t'⟩:=(f4 Vr).1;exact⟨q',fun e=>hp (e▸(f1 r q' t').2.2),.inl t'⟩};·obtain⟨q',t'⟩:=(g4 hrb).1;exact⟨q',fun e=>hp (e▸(g1 r q' t').2.2),.inr (.inl t')⟩};{by_cases ua:u=a;{exact⟨p,.inr (.inr ⟨rfl,.inl ua.symm⟩)⟩};·obtain⟨q,t⟩:=(f4 ua).2;exact⟨q,.inl t⟩};·by_cases vb:v=b;{exact⟨p,.inr (.inr ⟨rfl,.inr vb.symm⟩)⟩};·obtain⟨q,t⟩:=(g4 vb).2;exact⟨q,.inr (.inl t)⟩
theorem Jd.core{n:Nat}{E:Jp}{at_:jS->List Nat}(hA:At n E at_){Q:jS->Prop}{g:List Nat}(h:Jd n E Q g){p:jS}(hp:¬Q p)(hj:join g (at_ p)=none):∃F:Jp,(∀r q,F r q->r<n∧E r q∧(Q q∨q=p))∧Core F∧∃r q,F r q:=by
 obtain⟨u,hu,v,hv,huv,e⟩:=(GC hA p g h.len).2 hj;have eu:=(hA.mem u p).1 hu;have ev:=(hA.mem v p).1 hv;obtain⟨F,h1,h2,⟨qu,h3⟩,⟨qv,h4⟩⟩:=h.good u v eu.1 ev.1 huv e;have np:∀r q,F r q->q≠p:=fun r q t e=>hp (e▸(h1 r q t).2.2);refine⟨fun r q=>F r q∨(q=p∧(r=u∨r=v)),?_,⟨?_,?_⟩,u,p,.inr ⟨rfl,.inl rfl⟩⟩;{rintro r q(t|⟨rfl,rfl|rfl⟩);{exact⟨(h1 r q t).1,(h1 r q t).2.1,.inl (h1 r q t).2.2⟩};{exact⟨eu.1,eu.2,.inr rfl⟩};·exact⟨ev.1,ev.2,.inr rfl⟩};{rintro r q(t|⟨rfl,rfl|rfl⟩);{obtain⟨r',e,t'⟩:=h2.pt r q t;exact⟨r',e,.inl t'⟩};{exact⟨v,dS huv,.inr ⟨rfl,.inr rfl⟩⟩};·exact⟨u,huv,.inr ⟨rfl,.inl rfl⟩⟩};·rintro r q(t|⟨rfl,rfl|rfl⟩);{by_cases ru:r=u;{exact⟨p,dS (np r q t),.inr ⟨rfl,.inl ru⟩⟩};·by_cases rv:r=v;{exact⟨p,dS (np r q t),.inr ⟨rfl,.inr rv⟩⟩};·obtain⟨q',e,t'⟩:=h2.ring r q t ru rv;exact⟨q',e,.inl t'⟩};{exact⟨qu,np _ qu h3,.inl h3⟩};·exact⟨qv,np _ qv h4,.inl h4⟩
def LC(l:Poly):Jp:=fun r p=>place (lF l r) (rG p)=1
theorem ug (l : Poly) : At l.length (LC l) (mC l) where
  mem := by
    intro r p
    unfold mC LC
    simp
  nd := by
    intro p
    unfold mC
    exact List.Pairwise.filter _ (List.nodup_range)
theorem Jd.mono{n:Nat}{E:Jp}{Q Q':jS->Prop}{g:List Nat}(h:Jd n E Q g)(k:∀p,Q p↔Q' p):Jd n E Q' g:=by
 have e:Q=Q':=funext fun p=>propext (k p);rw[←e];exact h
theorem QJ(l:Poly):∀(ps:List jS)(Q:jS->Prop)(g:List Nat),Jd l.length (LC l) Q g->(∀p∈ps,¬Q p)->ps.Nodup->(zB l ps g=true->∃F:Jp,(∀r q,F r q->r<l.length∧LC l r q∧(Q q∨q∈ps))∧Core F∧∃r q,F r q)∧(zB l ps g=false->∃g',Jd l.length (LC l) (fun q=>Q q∨q∈ps) g'):=by
 intro ps;induction ps with|nil=>intro Q g h _ _;refine⟨fun e=>?_,fun _=>⟨g,h.mono (by simp)⟩⟩;simp[zB]at e|cons p t ih=>intro Q g h hq hnd;have hp:=hq p (by simp);rw[b9]at hnd;cases hj:join g (mC l p)with|none=>refine⟨fun _=>?_,fun e=>by simp[zB,hj]at e⟩;obtain⟨F,h1,h2,h3⟩:=h.core (ug l) hp hj;refine⟨F,fun r q t=>⟨(h1 r q t).1,(h1 r q t).2.1,?_⟩,h2,h3⟩;rcases(h1 r q t).2.2 with k|k;{exact .inl k};{exact .inr (by simp[k])}|some g'=>have h':=h.step (ug l) hp hj;have:=ih _ g' h' (by rintro q hq'(k|rfl);{exact hq q (by simp[hq']) k};·exact hnd.1 hq') hnd.2;have ew:zB l (p::t) g=zB l t g':=(by simp[zB,hj]);rw[ew];refine⟨fun e=>?_,fun e=>?_⟩;{obtain⟨F,h1,h2,h3⟩:=this.1 e;refine⟨F,fun r q t=>⟨(h1 r q t).1,(h1 r q t).2.1,?_⟩,h2,h3⟩;rcases(h1 r q t).2.2 with(k|k)|k;{exact .inl k};{exact .inr (by simp[k])};·exact .inr (by simp[k])};·obtain⟨g'',k⟩:=this.2 e;exact⟨g'',k.mono (by intro q;simp[or_assoc])⟩
theorem BH(l:Poly):∀(ps:List jS)(a:List jS),a.Nodup->(∀p∈a,1<(mC l p).length)->(ps.foldl (sE l) a).Nodup∧∀q,q∈ps.foldl (sE l) a↔q∈a∨(q∈ps∧1<(mC l q).length):=by
 intro ps;induction ps with|nil=>intro a h _;exact⟨h,by simp⟩|cons p t ih=>intro a h h1;rw[eK];by_cases c:¬(p∈a)∧1<(mC l p).length;{rw[show sE l a p=a++[p]from aB c];have:=ih (a++[p]) (by rw[cD];exact⟨h,by simp,by intro x hx y hy;simp at hy;subst hy;rintro rfl;exact c.1 hx⟩) (by intro q hq;rcases aj.1 hq with hq|hq;{exact h1 q hq};·simp at hq;subst hq;exact c.2);refine⟨this.1,fun q=>?_⟩;rw[this.2 q];simp only[aj,aF,bu,gG,jl];constructor;{rintro((k|rfl)|k);{exact .inl k};{exact .inr ⟨.inl rfl,c.2⟩};·exact .inr ⟨.inr k.1,k.2⟩};·rintro(k|⟨rfl|k,k2⟩);{exact .inl (.inl k)};{exact .inl (.inr rfl)};·exact .inr ⟨k,k2⟩};·rw[show sE l a p=a from ah c];have:=ih a h h1;refine⟨this.1,fun q=>?_⟩;rw[this.2 q];simp only[aF];constructor;{rintro(k|k);{exact .inl k};·exact .inr ⟨.inr k.1,k.2⟩};·rintro(k|⟨rfl|k,k2⟩);{exact .inl k};{by_cases hq:q∈a;{exact .inl hq};·exact absurd ⟨hq,k2⟩ c};·exact .inr ⟨k,k2⟩
theorem agr{n:Nat}{E:Jp}{f:jS->List Nat}(hA:At n E f){p:jS}{a b:Nat}(ha:a∈f p)(hb:b∈f p)(hab:a≠b):1<(f p).length:=by match hf:f p with|[]=>rw[hf]at ha;cases ha|[x]=>rw[hf]at ha hb;simp at ha hb;exact absurd (ha.trans hb.symm) hab|x::y::t=>simp
theorem JR{n a:Nat}(h:a<n):mR (List.range n) a=a:=by
 unfold mR;simp[aC,cK h]
theorem GD(l:Poly):way l=true↔∃F:Jp,(∀r q,F r q->r<l.length∧LC l r q∧q∈l.flatten)∧Core F∧∃r q,F r q:=by
 have ht:=BH l l.flatten [] gi (by simp);have h0:Jd l.length (LC l) (fun _=>False) (List.range l.length):=(by refine⟨by simp,by simp,?_,?_⟩;{intro F hF x _ r p h;exact(hF r p h).2.2};·intro a b ha hb hab e;rw[JR ha,JR hb]at e;exact absurd e hab);have key:=QJ l (qV l) _ _ h0 (by simp) ht.1;constructor;{intro h;obtain⟨F,h1,h2,h3⟩:=key.1 h;refine⟨F,fun r q t=>⟨(h1 r q t).1,(h1 r q t).2.1,?_⟩,h2,h3⟩;rcases(h1 r q t).2.2 with k|k;{exact k.elim};·have:=(ht.2 q).1 k;simp only[gG,false_or]at this;exact this.1};·rintro⟨F,h1,h2,r,q,h3⟩;cases hw:way l with|true=>rfl|false=>exfalso;obtain⟨g,hg⟩:=key.2 hw;refine hg.no F ?_ 0 ⟨h2.pt,fun r p t _ _=>h2.ring r p t⟩ r q h3;intro r p t;obtain⟨r',e,t'⟩:=h2.pt r p t;have a1:=h1 r p t;have a2:=h1 r' p t';refine⟨a1.1,a1.2.1,.inr ?_⟩;refine(ht.2 p).2 (.inr ⟨a1.2.2,?_⟩);exact agr (ug l) (((ug l).mem r p).2 ⟨a1.1,a1.2.1⟩) (((ug l).mem r' p).2 ⟨a2.1,a2.2.1⟩) (dS e)
theorem NJ(s t:kF):l7 s t=l7 t s:=by
 have e1:(if kS s.1 t.1 then t.1 else s.1)=(if kS t.1 s.1 then s.1 else t.1):=(by rcases uE s.1 t.1 with h|h|h;{rw[aB h,ah (fun k=>o7 h k)]};{rw[h]};·rw[ah (fun k=>o7 h k),aB h]);have e2:(if kS t.2 s.2 then t.2 else s.2)=(if kS s.2 t.2 then s.2 else t.2):=(by rcases uE s.2 t.2 with h|h|h;{rw[aB h,ah (fun k=>o7 h k)]};{rw[h]};·rw[ah (fun k=>o7 h k),aB h]);unfold l7;simp only;rw[e1,e2]
theorem D6(a b c d:jS):meet a b c d=meet c d a b:=by
 unfold meet;simp only;generalize sg (cr a b c 1)=x;generalize sg (cr a b d 1)=y;generalize sg (cr c d a 1)=z;generalize sg (cr c d b 1)=u;rw[NJ (fwd a b)];have e1:(x=0∧y=0∧z=0∧u=0)↔(z=0∧u=0∧x=0∧y=0):=(by omega);have e2:(x*y>0∨z*u>0)↔(z*u>0∨x*y>0):=Or.comm;have e3:x*y*z*u=z*u*x*y:=(by grind);rw[e3];simp only[e1,e2]
theorem pI(s t:kF):lN s t=lN t s:=D6 _ _ _ _
theorem EZ(s t:kF):lq s t=lq t s:=by
 unfold lq;rw[pI]
def qR:List kF->Bool->j9->Int|[],i,_=>if i then 1 else-1|s::t,i,p=>if on s.1 s.2 p.1 p.2 then 0 else qR t (if Nt s.1 s.2 p.1 p.2 then !i else i) p
def og(r:Ring)(p:j9):Int:=qR (jT r) false p
def pl(k:Int):Int:=if k=0 then 1 else if k=1 then 2 else 0
theorem Vu:∀(l:List kF)(i:Bool)(p:j9),0<p.2->(∀s∈l,s.1≠s.2)->oN l i p=pl (qR l i p)∧(qR l i p=0∨qR l i p=1∨qR l i p=-1):=by
 intro l;induction l with|nil=>intro i p _ _;cases i<;>simp[oN,qR,pl]|cons s t ih=>intro i p hp hl;have hs:=hl s (by simp);have e:=sD (p:=p.1) (w:=p.2) hs hp;unfold oN qR hasB;by_cases h:has s.1 s.2 p.1 p.2;{rw[aB (ag h),aB (e.1 h)];simp[pl]};·rw[aA h,ah (fun k=>h (e.2 k)),Yu hp];simp only[e9,gh];exact ih _ p hp fun x hx=>hl x (by simp[hx])
def mZ(r:Ring):Prop:=∀s∈jT r,s.1≠s.2
theorem CJ{r:Ring}{p:j9}(hr:mZ r)(hp:0<p.2):place r p=pl (og r p)∧(og r p=0∨og r p=1∨og r p=-1):=Vu _ _ _ hp hr
def Vv:Int->List Ring->j9->Int|s,[],_=>s|s,r::t,p=>if og r p=0∧0<=s then 0 else if og r p=1 then-1 else Vv s t p
def Vw:Poly->j9->Int|[],_=>0|r::t,p=>Vv (og r p) t p
theorem NK:∀(t:List Ring)(s:Int)(f:Bool)(p:j9),0<p.2->(∀r∈t,mZ r∧place r p≠1)->(s=1∨s=-1)->(f=true↔s=-1)->(pP t false f p=true↔Vv s t p=-1):=by
 intro t;induction t with|nil=>intro s f p _ _ _ hf;exact hf|cons r t ih=>intro s f p hp hr hs hf;obtain⟨hl,FE⟩:=hr r (by simp);obtain⟨e1,e2⟩:=CJ hl hp;have ht:∀r∈t,mZ r∧place r p≠1:=fun x hx=>hr x (by simp[hx]);unfold pP Vv;rw[ah FE];rcases e2 with e|e|e;{exfalso;rw[e]at e1;exact FE e1};{rw[e]at e1;rw[ah (by omega),aB e];have e3:place r p=2:=e1;simp only[e3];have:∀(t:List Ring),(∀r∈t,mZ r∧place r p≠1)->pP t false true p=true:=(by intro t;induction t with|nil=>intro _;rfl|cons r t ih=>intro h;unfold pP;rw[ah (h r (by simp)).2];simp only[Bool.true_or];exact ih fun x hx=>h x (by simp[hx]));simp[this t ht]};·rw[e]at e1;rw[ah (by omega),ah (by omega)];have e3:place r p=0:=e1;simp only[e3];have:=ih s f p hp ht hs hf;simpa using this
theorem ac2{l:Poly}{p:j9}(hp:0<p.2)(hne:l≠[])(hr:∀r∈l,mZ r∧place r p≠1):free l p=true↔Vw l p=-1:=by cases l with|nil=>exact absurd rfl hne|cons r t=>obtain⟨hl,FE⟩:=hr r (by simp);obtain⟨e1,e2⟩:=CJ hl hp;unfold free pP Vw;rw[ah FE];rcases e2 with e|e|e;{exfalso;rw[e]at e1;exact FE e1};{rw[e]at e1;have e3:place r p=2:=e1;simp only[e3,e];exact NK t 1 _ p hp (fun x hx=>hr x (by simp[hx])) (.inl rfl) (by simp)};·rw[e]at e1;have e3:place r p=0:=e1;simp only[e3,e];exact NK t (-1) _ p hp (fun x hx=>hr x (by simp[hx])) (.inr rfl) (by simp)
theorem YD(a b x y:jS):cr a b (kL x y).1 2=cr a b x 1+cr a b y 1:=by
 unfold cr kL;grind
theorem QK:∀(l:List kF)(i:Bool)(p:j9),oN l i p=1↔∃s∈l,has s.1 s.2 p.1 p.2:=by
 intro l;induction l with|nil=>intro i p;cases i<;>simp[oN]|cons s t ih=>intro i p;unfold oN hasB;by_cases h:has s.1 s.2 p.1 p.2;{rw[aB (ag h)];simp[h]};·rw[aA h];simp only[e9,gh];rw[ih];simp[h]
theorem kj{r:Ring}{p:j9}:place r p=1↔∃s∈jT r,has s.1 s.2 p.1 p.2:=QK _ _ _
def YE(a b m:jS):Prop:=has a b m 2∧m≠(a.1*2,a.2*2)∧m≠(b.1*2,b.2*2)
theorem LD{a b m:jS}(hab:a≠b)(h:YE a b m):0<dt a b m 2∧dt a b m 2<kk a b*2:=by
 have hk:=lR hab;obtain⟨h0,h1,h2⟩:=(sD hab (by omega)).1 h.1;have e1:dt a b m 2*(b.1-a.1)=(m.1-a.1*2)*kk a b:=(by unfold cr at h0;unfold dt kk;grind);have e2:dt a b m 2*(b.2-a.2)=(m.2-a.2*2)*kk a b:=(by unfold cr at h0;unfold dt kk;grind);have z:∀t:Int,0=t*kk a b->t=0:=(by intro t h;rcases aU.1 h.symm with h|h;{exact h};·omega);constructor;{rcases fG h1 with g|g;{exact g};·exfalso;rw[←g,dZ]at e1 e2;have:=z _ e1;have:=z _ e2;exact h.2.1 (cN (by simp only;omega) (by simp only;omega))};·rcases fG h2 with g|g;{exact g};·exfalso;have f1:0=(m.1-b.1*2)*kk a b:=(by rw[g]at e1;grind);have f2:0=(m.2-b.2*2)*kk a b:=(by rw[g]at e2;grind);have:=z _ f1;have:=z _ f2;exact h.2.2 (cN (by simp only;omega) (by simp only;omega))
theorem weights{p q X Y:Int}(hp:0<p)(hq:0<q)(e:p*X+q*Y=0):(X=0∧Y=0)∨(0<X∧Y<0)∨(X<0∧0<Y):=by
 rcases cA X 0 with h|h|h;{right;right;refine⟨h,?_⟩;have:=iW hp h;rcases bL 0 Y with g|g;{exact g};·have:=Int.mul_nonpos_of_nonneg_of_nonpos (bK hq) g;omega};{left;refine⟨h,?_⟩;rw[h,aW,ja]at e;rcases aU.1 e with g|g;{omega};·exact g};·right;left;refine⟨h,?_⟩;have:=jM hp h;rcases bL Y 0 with g|g;{exact g};·have:=fK (bK hq) g;omega
theorem JS{a b c d m:jS}(hcd:c≠d)(h1:cr a b m 2=0)(h2:YE c d m):(cr a b c 1=0∧cr a b d 1=0)∨(0<cr a b c 1∧cr a b d 1<0)∨(cr a b c 1<0∧0<cr a b d 1):=by
 obtain⟨g1,g2⟩:=LD hcd h2;have h0:=h2.1.1;have e1:dt c d m 2*(d.1-c.1)=(m.1-c.1*2)*kk c d:=(by unfold cr at h0;unfold dt kk;grind);have e2:dt c d m 2*(d.2-c.2)=(m.2-c.2*2)*kk c d:=(by unfold cr at h0;unfold dt kk;grind);refine weights (p:=kk c d*2-dt c d m 2) (q:=dt c d m 2) (by omega) g1 ?_;generalize dt c d m 2=T at*;generalize kk c d=K at*;unfold cr at*;grind
theorem uh{a b c d:jS}(hab:a≠b)(h1:cr a b c 1=0)(h2:cr a b d 1=0):cr c d a 1=0∧cr c d b 1=0:=by
 have hk:=lR hab;have z:∀t:Int,kk a b*t=0->t=0:=(by intro t h;rcases aU.1 h with h|h;{omega};·exact h);constructor;{apply z;unfold cr at*;unfold kk;grind};·apply z;unfold cr at*;unfold kk;grind
theorem QL(a b x:jS):dt a b (x.1*2,x.2*2) 2=2*pos a b x:=by
 unfold dt pos dt;grind
theorem NL{a b c d m:jS}(hcd:c≠d)(h2:YE c d m):(2*pos a b c<dt a b m 2∧dt a b m 2<2*pos a b d)∨(2*pos a b d<dt a b m 2∧dt a b m 2<2*pos a b c)∨pos a b c=pos a b d:=by
 obtain⟨g1,g2⟩:=LD hcd h2;have h0:=h2.1.1;have hk:=lR hcd;have e1:dt c d m 2*(d.1-c.1)=(m.1-c.1*2)*kk c d:=(by unfold cr at h0;unfold dt kk;grind);have e2:dt c d m 2*(d.2-c.2)=(m.2-c.2*2)*kk c d:=(by unfold cr at h0;unfold dt kk;grind);have e:dt c d m 2*(pos a b d-pos a b c)=kk c d*(dt a b m 2-2*pos a b c):=(by generalize dt c d m 2=T at*;generalize kk c d=K at*;unfold pos dt;grind);have e':(kk c d*2-dt c d m 2)*(pos a b d-pos a b c)=kk c d*(2*pos a b d-dt a b m 2):=(by have:(kk c d*2-dt c d m 2)*(pos a b d-pos a b c)=kk c d*2*(pos a b d-pos a b c)-dt c d m 2*(pos a b d-pos a b c):=(by grind);rw[this,e];grind);have g3:0<kk c d*2-dt c d m 2:=(by omega);have sgn:∀{p q A B:Int},0<p->0<q->p*A=q*B->(0<A->0<B)∧(A<0->B<0):=(by intro p q A B hp hq e;constructor;{intro hA;have:=jM hp hA;rw[e]at this;exact Int.pos_of_mul_pos_right this hq};·intro hA;have:=iW hp hA;rw[e]at this;rcases bL B 0 with g|g;{exact g};·have:=fK (bK hq) g;omega);rcases cA (pos a b d-pos a b c) 0 with h|h|h;{have k1:=(sgn g1 hk e).2 h;have k2:=(sgn g3 hk e').2 h;right;left;omega};{right;right;omega};·have k1:=(sgn g1 hk e).1 h;have k2:=(sgn g3 hk e').1 h;left;omega
theorem AJ{a b c d m:jS}(hab:a≠b)(hcd:c≠d)(h1:YE a b m)(h2:YE c d m):meet a b c d=2∨meet a b c d=3:=by
 have s1:=JS hcd h1.1.1 h2;have s2:=JS hab h2.1.1 h1;have l1:=uh (c:=c) (d:=d) hab;have l2:=uh (c:=a) (d:=b) hcd;by_cases hz:cr a b c 1=0;{have hd:cr a b d 1=0:=(by omega);obtain⟨z1,z2⟩:=l1 hz hd;right;have hm:meet a b c d=l7 (fwd a b) (fwd c d):=(by unfold meet;simp[hz,hd,z1,z2,sg]);rw[hm];obtain⟨p1,p2⟩:=LD hab h1;have hb:=NL (a:=a) (b:=b) hcd h2;have hne:pos a b c≠pos a b d:=fun e=>hcd (rH hab hz hd e);rw[CF hab hcd hz hd];have:count (kk a b) (min (pos a b c) (pos a b d)) (max (pos a b c) (pos a b d))=2:=(by unfold count;rw[ah (by omega),ah (by omega)]);simp[this]};·left;have t2:¬(cr c d a 1=0∧cr c d b 1=0):=fun e=>hz (l2 e.1 e.2).1;have sp:∀{n:Int},0<n->sg n=1:=fun h=>(by unfold sg;rw[aB h]);have sn:∀{n:Int},n<0->sg n=-1:=fun h=>(by unfold sg;rw[ah (by omega),aB h]);rcases s1 with e|⟨x1,y1⟩|⟨x1,y1⟩;{exact absurd e.1 hz};{rcases s2 with e|⟨z1,u1⟩|⟨z1,u1⟩;{exact absurd e t2};{unfold meet;simp[sp x1,sn y1,sp z1,sn u1]};·unfold meet;simp[sp x1,sn y1,sn z1,sp u1]};·rcases s2 with e|⟨z1,u1⟩|⟨z1,u1⟩;{exact absurd e t2};{unfold meet;simp[sn x1,sp y1,sp z1,sn u1]};·unfold meet;simp[sn x1,sp y1,sn z1,sp u1]
theorem FX{a b:jS}(hab:a≠b){rings:Poly}{o:Ring}(ho:o∈rings)(hl:mZ o){m:j9}(hm:m∈mW (a,b) rings)(hx:∀t∈jT o,lq (a,b) t=false):place o m≠1:=by
 intro h1;obtain⟨y,z,hc,rfl⟩:=(p8 hab rings m).1 hm;obtain⟨t,ht,hh⟩:=kj.1 h1;have hh':has t.1 t.2 (kL y z).1 2:=hh;have py:=l8 hab (lE hc.cx);have pz:=l8 hab (lE hc.cy);have hlt:=hc.lt;have ep:dt a b (kL y z).1 2=pos a b y+pos a b z:=(by unfold kL pos dt;grind);have Jq:has a b (kL y z).1 2:=(by rw[sD hab (by omega)];refine⟨?_,by omega,by omega⟩;have:=YD a b y z;rw[this,(lE hc.cx).1,(lE hc.cy).1];rfl);have i1:YE a b (kL y z).1:=(by refine⟨Jq,?_,?_⟩;{intro e;have:=QL a b a;rw[←e,ep,nG]at this;omega};·intro e;have:=QL a b b;rw[←e,ep,o6]at this;omega);have afn:∀c,c∈o->(kL y z).1≠(c.1*2,c.2*2):=(by intro c JT e;have d2:=QL a b c;rw[←e,ep]at d2;have hcut:Cut a b rings.flatten c:=(by refine .inr (.inr ⟨aT.2 ⟨o,ho,JT⟩,?_⟩);rw[sD hab (by omega)];have g0:cr a b (c.1*2,c.2*2) 2=0:=e▸Jq.1;refine⟨?_,?_,?_⟩;{unfold cr at*;grind};{show 0<=pos a b c;omega};·show pos a b c<=_;omega);exact hc.no c hcut ⟨by omega,by omega⟩);have i2:YE t.1 t.2 (kL y z).1:=⟨hh',afn _ (kP ht).1,afn _ (kP ht).2⟩;have:=AJ hab (hl t ht) i1 i2;have hf:=hx t ht;unfold lq lN at hf;simp only[dD,dK]at hf
 rcases this with e|e;{exact hf.1 e};·exact hf.2 e
def wD(r:Ring):Bool:=anyI (r.length-1) fun i=>anyI i fun j=>decide (jR r i=jR r j)
def uZ(n i j:Nat):Bool:=decide (j+1=i)||(decide (j=0)&&decide (i+1=n))
def rP(next:Bool)(k:Int):Bool:=(next&&decide (k≠1))||(!next&&decide (k≠0))
def E4(r:Ring):Bool:=anyI (r.length-1) fun i=>anyI i fun j=>rP (uZ (r.length-1) i j) (common (jR r i) (jR r (i+1)) (jR r j) (jR r (j+1))).1
def sF(r:Ring):Bool:=!(wD r||E4 r)
def yG(s t:kF):Bool:=decide ((common s.1 s.2 t.1 t.2).1=2)||(common s.1 s.2 t.1 t.2).2
def oV(a b:Ring):Bool:=!((jT a).any fun s=>(jT b).any fun t=>yG s t)
def vE(r:Ring)(q:Poly)(k:Int):Bool:=!((jT r).any fun s=>(BG s.1 s.2 q).any fun m=>decide (Vw q m≠k))
structure Shut(r:Ring):Prop where
 len:4<=r.length
 eq:jR r 0=jR r (r.length-1)
theorem jY{r:Ring}{i:Nat}(h:i<r.length):r[i]?=some (jR r i):=by
 unfold jR;rw[aC,aL h];rfl
theorem FY{r:Ring}{i:Nat}(h:i+1<r.length):Jn (jT r) i=(jR r i,jR r (i+1)):=by
 unfold Jn;rw[aC,lQ (jY (by omega)) (jY h)];rfl
theorem qn{r:Ring}{s:kF}(h:s∈jT r):∃i,i+1<r.length∧s=(jR r i,jR r (i+1)):=by
 obtain⟨i,hi,e⟩:=fO h;rw[ld]at hi;have hi':i+1<r.length:=(by omega);refine⟨i,hi',?_⟩;have:=lQ (jY (show i<r.length by omega)) (jY hi');rw[aL (by rw[ld];exact hi)]at this;rw[←e];exact aY this
theorem nX{r:Ring}:twice r=true↔∃i j,1<=i∧i<j∧j<r.length∧jR r i=jR r j:=by
 unfold twice;rw[l5];constructor;{rintro⟨i,hi,h⟩;simp only[bN,bF,l5]at h;obtain⟨h1,j,hj,h2,h3⟩:=h;rw[jY hi,jY hj]at h3;exact⟨i,j,h1,h2,hj,aY h3⟩};·rintro⟨i,j,h1,h2,h3,h4⟩;refine⟨i,by omega,?_⟩;simp only[bN,bF,l5];exact⟨h1,j,h3,h2,by rw[jY (show i<r.length by omega),jY h3,h4]⟩
theorem QM{r:Ring}:wD r=true↔∃i j,j<i∧i<r.length-1∧jR r i=jR r j:=by
 unfold wD;rw[l5];constructor;{rintro⟨i,hi,h⟩;simp only[l5,bF]at h;obtain⟨j,hj,e⟩:=h;exact⟨i,j,hj,hi,e⟩};·rintro⟨i,j,h1,h2,h3⟩;refine⟨i,h2,?_⟩;simp only[l5,bF];exact⟨j,h1,h3⟩
theorem p9{a b:Bool}(h:a=true↔b=true):a=b:=by cases a<;>cases b<;>simp_all
theorem NM{r:Ring}(h:Shut r):twice r=wD r:=by
 apply p9;rw[nX,QM];have h4:=h.len;constructor;{rintro⟨i,j,h1,h2,h3,e⟩;by_cases hj:j=r.length-1;{exact⟨i,0,by omega,by omega,by rw[h.eq,e,hj]⟩};·exact⟨j,i,h2,by omega,e.symm⟩};·rintro⟨i,j,h1,h2,e⟩;by_cases hj:j=0;{exact⟨i,r.length-1,by omega,by omega,by omega,by rw[e,hj,h.eq]⟩};·exact⟨j,i,by omega,h1,by omega,e.symm⟩
theorem LF{r:Ring}(h:Shut r)(ht:twice r=false):mZ r:=by
 intro s hs e;obtain⟨i,hi,rfl⟩:=qn hs;have h4:=h.len;have:twice r=true:=(by rw[nX];by_cases h0:i=0;{subst h0;exact⟨1,r.length-1,by omega,by omega,by omega,by rw[←h.eq];exact e.symm⟩};·exact⟨i,i+1,by omega,by omega,hi,e⟩);rw[ht]at this;cases this
theorem ags{A B C:Prop}[Decidable A][Decidable B][Decidable C]{k:Int}{d:Bool}(h:(if A then(if B then((0:Int),false)else(k,false))else if C then(0,false)else(1,d)).2=true):(if A then(if B then((0:Int),false)else(k,false))else if C then(0,false)else(1,d)).1=1:=by by_cases hA:A<;>by_cases hB:B<;>by_cases hC:C<;>simp_all
theorem agt{A B C:Prop}[Decidable A][Decidable B][Decidable C]{k:Int}{d:Bool}(hk:k=0∨k=1∨k=2):(if A then(if B then((0:Int),false)else(k,false))else if C then(0,false)else(1,d)).1=0∨(if A then(if B then((0:Int),false)else(k,false))else if C then(0,false)else(1,d)).1=1∨(if A then(if B then((0:Int),false)else(k,false))else if C then(0,false)else(1,d)).1=2:=by by_cases hA:A<;>by_cases hB:B<;>by_cases hC:C<;>simp_all
theorem CK{a b c d:jS}(h:(common a b c d).2=true):(common a b c d).1=1:=ags h
theorem count_range(k p q:Int):count k p q=0∨count k p q=1∨count k p q=2:=by
 unfold count;split;{simp};·split<;>simp
theorem CL(a b c d:jS):(common a b c d).1=0∨(common a b c d).1=1∨(common a b c d).1=2:=agt (count_range _ _ _)
theorem qX{a b c d:jS}(h:cr a b c 1=0∨cr a b d 1=0):meet a b c d≠2:=by
 have hl:∀s t,l7 s t≠2:=(by intro s t;unfold l7;simp only;split;{omega};·split<;>omega);unfold meet;simp only;split;{exact hl _ _};·split;{omega};·have:sg (cr a b c 1)*sg (cr a b d 1)*sg (cr c d a 1)*sg (cr c d b 1)=0:=(by rcases h with h|h;{rw[h];simp[sg]};·rw[h];simp[sg]);rw[aB this];omega
theorem YF{s t:kF}(hs:s.1≠s.2)(ht:t.1≠t.2):lq s t=yG s t:=by
 unfold lq yG lN;rw[EW hs ht];have hr:=CL s.1 s.2 t.1 t.2;have hc:=CK (a:=s.1) (b:=s.2) (c:=t.1) (d:=t.2);unfold how;cases h2:(common s.1 s.2 t.1 t.2).2 with|true=>rw[hc h2];simp|false=>rcases hr with e|e|e<;>rw[e]<;>simp
theorem agu{a b c d:jS}(hab:a≠b)(hcd:c≠d){next:Bool}(hn:next=true->cr a b c 1=0∨cr a b d 1=0):rP next (common a b c d).1=decide (meet a b c d≠if next then 1 else 0):=by
 have hm:=EW hab hcd;have hr:=CL a b c d;have hc:=CK (a:=a) (b:=b) (c:=c) (d:=d);have hs:=qX (a:=a) (b:=b) (c:=c) (d:=d);unfold rP;cases h2:(common a b c d).2 with|true=>have e:=hc h2;have hm2:meet a b c d=2:=(by rw[hm];unfold how;rw[h2,e];simp);(cases next with|true=>exact absurd hm2 (hs (hn rfl))|false=>rw[hm2,e];simp)|false=>rcases hr with e|e|e;{have hm2:meet a b c d=0:=(by rw[hm];unfold how;rw[h2,e];simp);cases next<;>simp[hm2,e]};{have hm2:meet a b c d=1:=(by rw[hm];unfold how;rw[h2,e];simp);cases next<;>simp[hm2,e]};·have hm2:meet a b c d=3:=(by rw[hm];unfold how;rw[h2,e];simp);cases next<;>simp[hm2,e]
theorem ac3{r:Ring}(h:Shut r)(hl:mZ r):qD r=E4 r:=by
 have h4:=h.len;have key:∀i j,j<i->i<r.length-1->rP (uZ (r.length-1) i j) (common (jR r i) (jR r (i+1)) (jR r j) (jR r (j+1))).1=decide (lN (Jn (jT r) j) (Jn (jT r) i)≠rU (jT r).length j i):=(by intro i j hji hi;have e1:=FY (r:=r) (i:=i) (by omega);have e2:=FY (r:=r) (i:=j) (by omega);have l1:jR r i≠jR r (i+1):=hl (jR r i,jR r (i+1)) (bT (lQ (jY (by omega)) (jY (by omega))));have l2:jR r j≠jR r (j+1):=hl (jR r j,jR r (j+1)) (bT (lQ (jY (by omega)) (jY (by omega))));rw[e1,e2,pI];unfold lN;simp only;rw[agu l1 l2 ?_];{have ew:(if uZ (r.length-1) i j=true then(1:Int)else 0)=rU (jT r).length j i:=(by unfold uZ rU;rw[ld];by_cases c:j+1=i∨(j=0∧i+1=r.length-1);{rw[aB c,aB];simpa using c};·rw[ah c,ah];simpa using c);rw[ew]};·intro hn;unfold uZ at hn;simp only[dN,bN,bF]at hn;rcases hn with e|⟨e,e'⟩;{right;rw[e];exact uM _ _};·left;subst e;rw[h.eq,show r.length-1=i+1 by omega];exact tZ _ _);apply p9;unfold qD E4;rw[l5,l5,ld];constructor;·rintro⟨j,hj,k⟩;rw[l5]at k;obtain⟨i,hi,k⟩:=k;refine⟨j,hj,?_⟩;rw[l5];refine⟨i,hi,?_⟩;rw[key j i hi hj,ld];exact k
 ·rintro⟨j,hj,k⟩;rw[l5]at k;obtain⟨i,hi,k⟩:=k;refine⟨j,hj,?_⟩;rw[l5];refine⟨i,hi,?_⟩;rw[key j i hi hj,ld]at k;exact k
theorem YG{r:Ring}(h:Shut r):(twice r||qD r)=(wD r||E4 r):=by
 rw[NM h];cases ht:wD r with|true=>rfl|false=>rw[ac3 h (LF h (by rw[NM h];exact ht))]
def d1(m:jX):Bool:=m.any fun l=>l.any fun r=>!(sF r)
def d2(m:jX):Bool:=m.any fun l=>anyI l.length fun i=>anyI l.length fun j=>decide (j≠i)&&!(oV (lF l i) (lF l j))
def nestD(j:Nat):Int:=if j=0 then 1 else-1
def d3(m:jX):Bool:=m.any fun l=>anyI l.length fun i=>decide (1<=i)&&anyI l.length fun j=>decide (j≠i)&&!(vE (lF l i) [lF l j] (nestD j))
def d5(m:jX):Bool:=anyI m.length fun p=>(lp m p).any fun r=>anyI m.length fun k=>decide (k≠p)&&((lp m k).any (fun s=>!(oV r s))||!(vE r (lp m k) (-1)))
def yH(l:Poly):Prop:=∃F:Jp,(∀r q,F r q->r<l.length∧og (lF l r) (rG q)=0∧q∈l.flatten)∧Core F∧∃r q,F r q
structure Good(m:jX):Prop where
 ne:∀l∈m,l≠[]
 shut:∀l∈m,∀r∈l,Shut r
theorem rI{m:jX}(h:Pl.wrong m=0):Good m:=by
 have hb:m.any Pl.uK=false:=(by unfold Pl.wrong at h;split at h;{omega};·split at h;{omega};·rename_i k;simpa using k);have one:∀l∈m,Pl.uK l=false:=(by intro l hl;cases hx:Pl.uK l with|false=>rfl|true=>rw[aK.2 ⟨l,hl,hx⟩]at hb;cases hb);refine⟨fun l hl e=>?_,fun l hl r hr=>?_⟩;{have:=one l hl;unfold Pl.uK at this;rw[e]at this;simp at this};·have:=one l hl;unfold Pl.uK at this;simp only[dD]at this;have AK:Pl.wV r=false:=(by cases hx:Pl.wV r with|false=>rfl|true=>have e:Pl.Gw l=true:=aK.2 ⟨r,hr,hx⟩;rw[e]at this;cases this.2);unfold Pl.wV at AK;simp only[dD,dK,Bool.not_eq_false',bF]at AK;have h4:4<=r.length:=(by omega);refine⟨h4,?_⟩;have e:=AK.2;rw[gH,gw,jY (by omega),jY (by omega)]at e;exact aY e
theorem kB{l:Poly}{i:Nat}(h:i<l.length):lF l i∈l:=by
 unfold lF;rw[aC,aL h];simp
theorem j7{m:jX}{i:Nat}(h:i<m.length):lp m i∈m:=by
 unfold lp;rw[aC,aL h];simp
theorem any_congr{α:Type}{l:List α}{f g:α->Bool}(h:∀x∈l,f x=g x):l.any f=l.any g:=by induction l with|nil=>rfl|cons a t ih=>rw[jj,jj,h a (by simp),ih fun x hx=>h x (by simp[hx])]
theorem pJ{n:Nat}{f g:Nat->Bool}(h:∀i,i<n->f i=g i):anyI n f=anyI n g:=any_congr fun x hx=>h x (bg.1 hx)
theorem ajS{m:jX}(h:Good m):o9 1 m=d1 m:=by
 unfold o9 d1;refine any_congr fun l hl=>?_;unfold qp simple;simp only[gW,fH];refine any_congr fun r hr=>?_;rw[YG (h.shut l hl r hr)];unfold sF;simp
theorem YH{m:jX}(h:Good m)(h1:o9 1 m=false):∀l∈m,∀r∈l,mZ r:=by
 intro l hl r hr;have:(twice r||qD r)=false:=(by cases hx:(twice r||qD r)with|false=>rfl|true=>have:o9 1 m=true:=(by unfold o9;refine aK.2 ⟨l,hl,?_⟩;unfold qp simple;simp only[gW,fH];exact aK.2 ⟨r,hr,hx⟩);rw[h1]at this;cases this);rw[dD]at this;exact LF (h.shut l hl r hr) this.1
theorem D7{a b:Ring}(ha:mZ a)(hb:mZ b):oV a b=!(kC a b):=by
 unfold oV kC;congr 1;refine any_congr fun s hs=>any_congr fun t ht=>?_;rw[YF (ha s hs) (hb t ht)]
theorem BI(a b:Ring):kC a b=kC b a:=by
 apply p9;unfold kC;simp only[aK];constructor;{rintro⟨s,hs,t,ht,h⟩;exact⟨t,ht,s,hs,by rw[EZ];exact h⟩};·rintro⟨s,hs,t,ht,h⟩;exact⟨t,ht,s,hs,by rw[EZ];exact h⟩
theorem YI{n:Nat}{f:Nat->Nat->Bool}(hs:∀i j,f i j=f j i):(anyI n fun j=>anyI j fun i=>f i j)=anyI n fun i=>anyI n fun j=>decide (j≠i)&&f i j:=by
 apply p9;simp only[l5,bN,bF];constructor;{rintro⟨j,hj,i,hi,h⟩;exact⟨i,by omega,j,hj,by omega,h⟩};·rintro⟨i,hi,j,hj,hne,h⟩;rcases bI i j with k|k;{exact⟨j,hj,i,k,h⟩};·exact⟨i,hi,j,by omega,by rw[hs];exact h⟩
theorem ajT{m:jX}(hl:∀l∈m,∀r∈l,mZ r):o9 2 m=d2 m:=by
 unfold o9 d2;refine any_congr fun l h=>?_;unfold qp touch;simp only[fH,gW];rw[ah (by decide),fH,YI (f:=fun i j=>kC (lF l i) (lF l j)) (fun i j=>BI _ _)];refine pJ fun i hi=>pJ fun j hj=>?_;rw[D7 (hl l h _ (kB hi)) (hl l h _ (kB hj)),fH]
theorem afo{s:kF}{q:Poly}{m:j9}(hs:s.1≠s.2)(h:m∈mW s q):m.2=2:=by
 obtain⟨y,z,-,rfl⟩:=(p8 hs q m).1 h;rfl
theorem ac4{r o:Ring}(hr:mZ r)(ho:mZ o){k k':Int}(hk:(k=1∧k'=2)∨(k=-1∧k'=0)):lies r o k'=vE r [o] k:=by
 unfold lies vE;congr 1;refine any_congr fun s hs=>?_;apply p9;simp only[aK,bF];have TI:=hr s hs;have one:∀m:j9,m∈mW s [o]->(place o m≠k'↔Vw [o] m≠k):=(by intro m hm;have hw:=afo TI hm;obtain⟨e1,e2⟩:=CJ (p:=m) ho (by omega);show place o m≠k'↔og o m≠k;rw[e1];unfold pl;rcases e2 with e|e|e<;>rw[e]<;>rcases hk with⟨rfl,rfl⟩|⟨rfl,rfl⟩<;>simp);constructor;{rintro⟨m,hm,h⟩;exact⟨m,(AH TI _ m).1 hm,(one m hm).1 h⟩};·rintro⟨m,hm,h⟩;have hm':=(AH TI _ m).2 hm;exact⟨m,hm',(one m hm').2 h⟩
theorem ajU{m:jX}(hl:∀l∈m,∀r∈l,mZ r):o9 3 m=d3 m:=by
 unfold o9 d3;refine any_congr fun l h=>?_;unfold qp nested;rw[ah (by decide),ah (by decide),aB rfl,fH];refine pJ fun i hi=>?_;congr 1;refine pJ fun j hj=>?_;rw[ac4 (hl l h _ (kB hi)) (hl l h _ (kB hj)) (k:=nestD j) (k':=qQ j) (by unfold nestD qQ;split<;>simp)];congr 1;exact bC.2 ⟨fun e=>dS e,fun e=>dS e⟩
theorem ac5{l:Poly}(hl:∀r∈l,mZ r):way l=true↔yH l:=by
 rw[GD];have e:∀r p,r<l.length->(LC l r p↔og (lF l r) (rG p)=0):=(by intro r p hr;obtain⟨e1,e2⟩:=CJ (r:=lF l r) (p:=rG p) (hl _ (kB hr)) (by show(0:Int)<1;omega);unfold LC;rw[e1];unfold pl;rcases e2 with e|e|e<;>rw[e]<;>simp);constructor;{rintro⟨F,h1,h2⟩;exact⟨F,fun r q t=>⟨(h1 r q t).1,(e r q (h1 r q t).1).1 (h1 r q t).2.1,(h1 r q t).2.2⟩,h2⟩};·rintro⟨F,h1,h2⟩;exact⟨F,fun r q t=>⟨(h1 r q t).1,(e r q (h1 r q t).1).2 (h1 r q t).2.1,(h1 r q t).2.2⟩,h2⟩
theorem JU{a b:Poly}(hb0:b≠[])(ha:∀r∈a,mZ r)(hb:∀r∈b,mZ r)(hx:nh a b=false):enters a b=a.any fun r=>!(vE r b (-1)):=by
 unfold enters;refine any_congr fun r hr=>?_;unfold vE;rw[fH];refine any_congr fun s hs=>?_;have TI:=ha r hr s hs;have off:∀m∈mW s b,∀o∈b,place o m≠1:=(by intro m hm o ho;refine FX TI ho (hb o ho) hm fun t ht=>?_;cases hc:lq (s.1,s.2) t with|false=>rfl|true=>have:nh a b=true:=(by unfold nh;refine aK.2 ⟨r,hr,aK.2 ⟨o,ho,?_⟩⟩;unfold kC;exact aK.2 ⟨s,hs,aK.2 ⟨t,ht,hc⟩⟩);rw[hx]at this;cases this);have one:∀m∈mW s b,(free b m=false↔Vw b m≠-1):=(by intro m hm;have hw:=afo TI hm;have:=ac2 (l:=b) (p:=m) (by omega) hb0 fun r hr=>⟨hb r hr,off m hm r hr⟩;constructor;{intro e e2;rw[this.2 e2]at e;cases e};·intro e;cases hf:free b m with|false=>rfl|true=>exact absurd (this.1 hf) e);apply p9;simp only[aK,gT,bF];constructor;{rintro⟨m,hm,h⟩;exact⟨m,(AH TI _ m).1 hm,(one m hm).1 h⟩};·rintro⟨m,hm,h⟩;have hm':=(AH TI _ m).2 hm;exact⟨m,hm',(one m hm').2 h⟩
def half(a b:Poly):Bool:=a.any fun r=>b.any (fun s=>!(oV r s))||!(vE r b (-1))
theorem ac6{a b:Poly}(ha0:a≠[])(hb0:b≠[])(ha:∀r∈a,mZ r)(hb:∀r∈b,mZ r):(nh a b||enters a b||enters b a)=(half a b||half b a):=by
 have hs:nh a b=nh b a:=(by apply p9;unfold nh;simp only[aK];constructor;{rintro⟨r,hr,o,ho,h⟩;exact⟨o,ho,r,hr,by rw[BI];exact h⟩};·rintro⟨r,hr,o,ho,h⟩;exact⟨o,ho,r,hr,by rw[BI];exact h⟩);have pt:∀{a b:Poly},(∀r∈a,mZ r)->(∀r∈b,mZ r)->half a b=(nh a b||a.any fun r=>!(vE r b (-1))):=(by intro a b ha hb;apply p9;unfold half nh;simp only[aK,dN];constructor;{rintro⟨r,hr,⟨s,hs,h⟩|h⟩;{rw[D7 (ha r hr) (hb s hs),fH]at h;exact .inl ⟨r,hr,s,hs,h⟩};·exact .inr ⟨r,hr,h⟩};·rintro(⟨r,hr,s,hs,h⟩|⟨r,hr,h⟩);{exact⟨r,hr,.inl ⟨s,hs,by rw[D7 (ha r hr) (hb s hs),fH];exact h⟩⟩};·exact⟨r,hr,.inr h⟩);rw[pt ha hb,pt hb ha,←hs];cases hx:nh a b with|true=>rfl|false=>rw[JU hb0 ha hb hx,JU ha0 hb ha (hs▸hx)];simp
theorem ajV{m:jX}(hg:Good m)(hl:∀l∈m,∀r∈l,mZ r):oU m=d5 m:=by
 have e1:oU m=anyI m.length fun j=>anyI j fun i=>(half (lp m i) (lp m j)||half (lp m j) (lp m i)):=(by unfold oU;refine pJ fun j hj=>pJ fun i hi=>?_;exact ac6 (hg.ne _ (j7 (by omega))) (hg.ne _ (j7 hj)) (hl _ (j7 (by omega))) (hl _ (j7 hj)));rw[e1];apply p9;unfold d5 half;simp only[l5,aK,bN,bF,dN];constructor;{rintro⟨j,hj,i,hi,⟨r,hr,h⟩|⟨r,hr,h⟩⟩;{exact⟨i,by omega,r,hr,j,hj,by omega,h⟩};·exact⟨j,hj,r,hr,i,by omega,by omega,h⟩};·rintro⟨p,hp,r,hr,k,hk,hne,h⟩;rcases bI p k with g|g;{exact⟨k,hk,p,g,.inl ⟨r,hr,h⟩⟩};·exact⟨p,hp,k,by omega,.inr ⟨r,hr,h⟩⟩
end Vd
def uF(A:Int)(u:jS):Prop:=(-A<=u.1∧u.1<=A)∧-A<=u.2∧u.2<=A
theorem pK{p:jS}(h:Vd.Cd p):uF 32768 p:=by
 unfold Vd.Cd at h;unfold uF;omega
theorem mH{A B:Int}{u:jS}(h:uF A u)(k:A<=B):uF B u:=by
 unfold uF at*;omega
namespace Vd
theorem pp{x y:Int}(hx:0<x)(hy:0<y):0<x*y:=jM hx hy
theorem pn{x y:Int}(hx:0<x)(hy:y<0):x*y<0:=iW hx hy
theorem np{x y:Int}(hx:x<0)(hy:0<y):x*y<0:=iV hx hy
theorem TJ{x y:Int}(hx:x<0)(hy:y<0):0<x*y:=Int.mul_pos_of_neg_of_neg hx hy
theorem p0{x y:Int}(hx:0<=x)(hy:0<=y):0<=x*y:=fK hx hy
theorem m0{x y:Int}(hx:0<=x)(hy:y<=0):x*y<=0:=Int.mul_nonpos_of_nonneg_of_nonpos hx hy
theorem n0{x y:Int}(hx:x<=0)(hy:0<=y):x*y<=0:=Int.mul_nonpos_of_nonpos_of_nonneg hx hy
theorem q0{x y:Int}(hx:x<=0)(hy:y<=0):0<=x*y:=Int.mul_nonneg_of_nonpos_of_nonpos hx hy
theorem kZ{u P z:Int}(hu:0<u)(e:u*P=z):(0<P↔0<z)∧(P<0↔z<0)∧(P=0↔z=0):=by
 rcases cA P 0 with h|h|h;{have:=pn hu h;omega};{have:u*P=0:=(by rw[h];simp);omega};·have:=pp hu h;omega
def pT(A B:Int):Prop:=(A<0∧0<B)∨(0<A∧B<0)
instance(A B:Int):Decidable (pT A B):=by
 unfold pT;infer_instance
theorem CM{A B:Int}:pT A B↔pT B A:=by
 unfold pT;omega
theorem LG{A B:Int}:pT (-A) (-B)↔pT A B:=by
 unfold pT;omega
theorem TK{u A B a b P Q:Int}(hu:0<u)(hab:a<=b)(e1:u*P=B*a-A*b)(e2:u*Q=B*(a-u)-A*(b-u))(h1:0<a->a<=u->A≠0)(h2:0<b->b<=u->B≠0)(h3:(a<=0∧0<b)∨(b<=0∧0<a)->P≠0)(h4:(a<=u∧u<b)∨(b<=u∧u<a)->Q≠0)(h5:a=u->b=u->¬pT A B):(((a<=0∧0<b∧0<P)∨(b<=0∧0<a∧P<0))↔((a<=u∧u<b∧0<Q)∨(b<=u∧u<a∧Q<0)))↔¬((pT A B∧pT P Q)↔((0<a∧a<=u∧A<0)↔(0<b∧b<=u∧B<0))):=by
 obtain⟨P1,P2,P3⟩:=kZ hu e1;obtain⟨Q1,Q2,Q3⟩:=kZ hu e2;clear e1 e2;by_cases zb:b<=0;{have n:¬(pT A B∧pT P Q):=(by rintro⟨k|k,k2⟩;{have:=m0 (bK k.2) (show a<=0 by omega);have:=q0 (bK k.1) zb;have:=m0 (bK k.2) (show a-u<=0 by omega);have:=q0 (bK k.1) (show b-u<=0 by omega);unfold pT at k2;omega};·have:=q0 (bK k.2) (show a<=0 by omega);have:=m0 (bK k.1) zb;have:=q0 (bK k.2) (show a-u<=0 by omega);have:=m0 (bK k.1) (show b-u<=0 by omega);unfold pT at k2;omega);simp only[n,false_iff];clear n h5;constructor;{intro _;omega};·intro _;omega};by_cases za:u<a;{have n:¬(pT A B∧pT P Q):=(by rintro⟨k|k,k2⟩;{have:=p0 (bK k.2) (show 0<=a by omega);have:=n0 (bK k.1) (show 0<=b by omega);have:=p0 (bK k.2) (show 0<=a-u by omega);have:=n0 (bK k.1) (show 0<=b-u by omega);unfold pT at k2;omega};·have:=n0 (bK k.2) (show 0<=a by omega);have:=p0 (bK k.1) (show 0<=b by omega);have:=n0 (bK k.2) (show 0<=a-u by omega);have:=p0 (bK k.1) (show 0<=b-u by omega);unfold pT at k2;omega);simp only[n,false_iff];clear n h5;constructor;{intro _;omega};·intro _;omega};by_cases ya:0<a;·have hA:=h1 ya (by omega);by_cases yb:b<=u;{have hB:=h2 (by omega) yb;have d:pT A B->pT P Q:=(by intro k;have k5:=fun e1 e2=>h5 e1 e2 k;rcases k with k|k;{have:=pp k.2 ya;have:=np k.1 (show 0<b by omega);have:0<P:=P1.2 (by omega);rcases fG (show a<=u by omega)with g|g;{have:=pn k.2 (show a-u<0 by omega);have:=q0 (bK k.1) (show b-u<=0 by omega);have:Q<0:=Q2.2 (by omega);unfold pT;omega};·exact absurd (show b=u by omega) (k5 g)};·have:=np k.2 ya;have:=pp k.1 (show 0<b by omega);have:P<0:=P2.2 (by omega);rcases fG (show a<=u by omega)with g|g;{have:=TJ k.2 (show a-u<0 by omega);have:=m0 (bK k.1) (show b-u<=0 by omega);have:0<Q:=Q1.2 (by omega);unfold pT;omega};·exact absurd (show b=u by omega) (k5 g));have e:(pT A B∧pT P Q)↔pT A B:=⟨fun k=>k.1,fun k=>⟨k,d k⟩⟩;rw[e];clear d e h5 P1 P2 P3 Q1 Q2 Q3 h3 h4;unfold pT;omega};·have hQ:=h4 (by omega);have e:(pT A B∧pT P Q)↔((A<0∧Q<0)∨(0<A∧0<Q)):=(by rcases e8 hA with k|k;{have t1:=np k (show 0<b by omega);have t2:=np k (show 0<b-u by omega);constructor;{rintro⟨o1|o1,o2⟩;{have:=pp o1.2 ya;have:0<P:=P1.2 (by omega);unfold pT at o2;omega};·omega};·intro o;have hq:Q<0:=(by omega);have hB:0<B:=(by rcases bL 0 B with g|g;{exact g};·have:=q0 g (show a-u<=0 by omega);have:=Q2.1 hq;omega);have:=pp hB ya;have:0<P:=P1.2 (by omega);unfold pT;omega};·have t1:=pp k (show 0<b by omega);have t2:=pp k (show 0<b-u by omega);constructor;{rintro⟨o1|o1,o2⟩;{omega};·have:=np o1.2 ya;have:P<0:=P2.2 (by omega);unfold pT at o2;omega};·intro o;have hq:0<Q:=(by omega);have hB:B<0:=(by rcases bL B 0 with g|g;{exact g};·have:=m0 g (show a-u<=0 by omega);have:=Q1.1 hq;omega);have:=np hB ya;have:P<0:=P2.2 (by omega);unfold pT;omega);rw[e];clear e h5 P1 P2 P3 Q1 Q2 Q3 h3 h4;omega
 ·by_cases yb:b<=u;{have hB:=h2 (by omega) yb;have hP:=h3 (by omega);have e:(pT A B∧pT P Q)↔((B<0∧P<0)∨(0<B∧0<P)):=(by rcases e8 hB with k|k;{have t1:=q0 (bK k) (show a<=0 by omega);have t2:=TJ k (show a-u<0 by omega);constructor;{rintro⟨o1|o1,o2⟩;{omega};·have:=m0 (bK o1.1) (show b-u<=0 by omega);have:0<Q:=Q1.2 (by omega);unfold pT at o2;omega};·intro o;have hp:P<0:=(by omega);have hA:0<A:=(by rcases bL 0 A with g|g;{exact g};·have:=n0 g (show 0<=b by omega);have:=P2.1 hp;omega);have:=m0 (bK hA) (show b-u<=0 by omega);have:0<Q:=Q1.2 (by omega);unfold pT;omega};·have t1:=m0 (bK k) (show a<=0 by omega);have t2:=pn k (show a-u<0 by omega);constructor;{rintro⟨o1|o1,o2⟩;{have:=q0 (bK o1.1) (show b-u<=0 by omega);have:Q<0:=Q2.2 (by omega);unfold pT at o2;omega};·omega};·intro o;have hp:0<P:=(by omega);have hA:A<0:=(by rcases bL A 0 with g|g;{exact g};·have:=p0 g (show 0<=b by omega);have:=P1.1 hp;omega);have:=q0 (bK hA) (show b-u<=0 by omega);have:Q<0:=Q2.2 (by omega);unfold pT;omega);rw[e];clear e h5 P1 P2 P3 Q1 Q2 Q3 h3 h4;omega};·have hP:=h3 (by omega);have hQ:=h4 (by omega);have d:pT P Q->pT A B:=(by rintro(k|k);{have f1:=P2.1 k.1;have f2:=Q1.1 k.2;have hA:0<A:=(by rcases bL 0 A with g|g;{exact g};·have:=n0 g (show 0<=b by omega);have hB:0<B:=(by rcases bL 0 B with g2|g2;{exact g2};·have:=q0 g2 (show a<=0 by omega);omega);have:=m0 (bK hB) (show a-u<=0 by omega);have:B*a-B*(a-u)=B*u:=(by rw[←iT];congr 1;omega);have:A*b-A*(b-u)=A*u:=(by rw[←iT];congr 1;omega);have:=pp hB hu;have:=n0 g (bK hu);omega);have:=pp hA (show 0<b by omega);have:=pp hA (show 0<b-u by omega);have hB:B<0:=(by rcases bL B 0 with g2|g2;{exact g2};·have:=m0 g2 (show a-u<=0 by omega);omega);exact .inr ⟨hA,hB⟩};·have f1:=P1.1 k.1;have f2:=Q2.1 k.2;have hA:A<0:=(by rcases bL A 0 with g|g;{exact g};·have:=p0 g (show 0<=b by omega);have hB:B<0:=(by rcases bL B 0 with g2|g2;{exact g2};·have:=m0 g2 (show a<=0 by omega);omega);have:=q0 (bK hB) (show a-u<=0 by omega);have:B*a-B*(a-u)=B*u:=(by rw[←iT];congr 1;omega);have:A*b-A*(b-u)=A*u:=(by rw[←iT];congr 1;omega);have:=np hB hu;have:=p0 g (bK hu);omega);have:=np hA (show 0<b by omega);have:=np hA (show 0<b-u by omega);have hB:0<B:=(by rcases bL 0 B with g2|g2;{exact g2};·have:=q0 g2 (show a-u<=0 by omega);omega);exact .inl ⟨hA,hB⟩);have e:(pT A B∧pT P Q)↔pT P Q:=⟨fun k=>k.2,fun k=>⟨d k,k⟩⟩;rw[e];clear d e h5 P1 P2 P3 Q1 Q2 Q3 h3 h4 h1 h2;unfold pT;omega
theorem agv{u A B a b P Q:Int}(hu:0<u)(e1:u*P=B*a-A*b)(e2:u*Q=B*(a-u)-A*(b-u))(h1:0<a->a<=u->A≠0)(h2:0<b->b<=u->B≠0)(h3:(a<=0∧0<b)∨(b<=0∧0<a)->P≠0)(h4:(a<=u∧u<b)∨(b<=u∧u<a)->Q≠0)(h5:a=u->b=u->¬pT A B):(((a<=0∧0<b∧0<P)∨(b<=0∧0<a∧P<0))↔((a<=u∧u<b∧0<Q)∨(b<=u∧u<a∧Q<0)))↔¬((pT A B∧pT P Q)↔((0<a∧a<=u∧A<0)↔(0<b∧b<=u∧B<0))):=by
 rcases eF a b with h|h;{exact TK hu h e1 e2 h1 h2 h3 h4 h5};·have:=TK (P:=-P) (Q:=-Q) (A:=B) (B:=A) hu h (by rw[jN,e1];omega) (by rw[jN,e2];omega) h2 h1 (fun k=>by have:=h3 (by omega);omega) (fun k=>by have:=h4 (by omega);omega) (fun k1 k2 o=>h5 k2 k1 (CM.1 o));rw[CM (A:=B),LG]at this;have t1:((a<=0∧0<b∧0<P)∨(b<=0∧0<a∧P<0))↔((b<=0∧0<a∧0< -P)∨(a<=0∧0<b∧-P<0)):=(by omega);have t2:((a<=u∧u<b∧0<Q)∨(b<=u∧u<a∧Q<0))↔((b<=u∧u<a∧0< -Q)∨(a<=u∧u<b∧-Q<0)):=(by omega);rw[t1,t2,this,iff_comm (a:=(0<b∧b<=u∧B<0))]
def Xs(p q a b:jS):Prop:=pT (cr p q a 1) (cr p q b 1)∧pT (cr a b p 1) (cr a b q 1)
instance(p q a b:jS):Decidable (Xs p q a b):=by
 unfold Xs;infer_instance
def dR(p q v:jS):Bool:=decide (p.2<v.2∧v.2<=q.2∧cr p q v 1<0)
theorem rJ(a b p:jS):qB a b p 1=decide ((a.2-p.2<=0∧0<b.2-p.2∧0<cr a b p 1)∨(b.2-p.2<=0∧0<a.2-p.2∧cr a b p 1<0)):=by
 unfold qB;simp only[aX,Gy,Lw];by_cases h1:a.2>p.2<;>by_cases h2:b.2>p.2;{rw[aB (by simp[h1,h2])];symm;exact aA (by omega)};{rw[ah (by simp[h1,h2]),ah h2];exact bC.2 (by omega)};{rw[ah (by simp[h1,h2]),aB h2];exact bC.2 (by omega)};·rw[aB (by simp[h1,h2])];symm;exact aA (by omega)
theorem NN{u U x al:Int}(hu:0<u)(h0:0<=al)(h1:al<=u)(e:U*al=u*x):nL 0 x U:=by
 rcases eF 0 U with g|g;{left;have k1:=p0 g h0;have k2:U*al<=U*u:=bA h1 g;rw[e]at k1 k2;refine⟨Int.nonneg_of_mul_nonneg_right k1 hu,?_⟩;rw[cH U u]at k2;exact cJ k2 hu};·right;have k1:=n0 g h0;have k2:U*u<=U*al:=iE g h1;rw[e]at k1 k2;rw[cH U u]at k2;refine⟨cJ k2 hu,?_⟩;rcases bL 0 x with g2|g2;{have:=pp hu g2;omega};·exact g2
theorem qY{a b p:jS}(h0:cr a b p 1=0)(h:(a.2<=p.2∧p.2<=b.2∧a.2<b.2)∨(b.2<=p.2∧p.2<=a.2∧b.2<a.2)):has a b p 1:=by
 refine⟨h0,?_,by unfold nL;omega⟩;unfold cr at h0;rcases h with⟨h1,h2,h3⟩|⟨h1,h2,h3⟩;{have:=NN (u:=b.2-a.2) (U:=b.1-a.1) (x:=p.1-a.1) (al:=p.2-a.2) (by omega) (by omega) (by omega) (by simp only[aX]at h0;omega);unfold nL at*;omega};·have:=NN (u:=a.2-b.2) (U:=b.1-a.1) (x:=p.1-a.1) (al:=a.2-p.2) (by omega) (by omega) (by omega) (by simp only[aX]at h0;have e1:(b.1-a.1)*(a.2-p.2)=-((b.1-a.1)*(p.2-a.2)):=(by grind);have e2:(a.2-b.2)*(p.1-a.1)=-((b.2-a.2)*(p.1-a.1)):=(by grind);omega);unfold nL at*;omega
theorem TL{p q a:jS}(h:a.2=q.2):cr p q a 1=(q.2-p.2)*(q.1-a.1):=by
 unfold cr;rw[h];grind
theorem TM{r1 r2 x d1 d2:Prop}[Decidable r1][Decidable r2][Decidable x][Decidable d1][Decidable d2](h:(r1↔r2)↔¬(x↔(d1↔d2))):(decide r1^^decide r2)=(decide x^^(decide d1^^decide d2)):=by by_cases c1:r1<;>by_cases c2:r2<;>by_cases c3:x<;>by_cases c4:d1<;>by_cases c5:d2<;>simp_all
theorem F3{p q a b:jS}(hpq:p.2<q.2)(ha:¬has p q a 1)(hb:¬has p q b 1)(hp:¬has a b p 1)(hq:¬has a b q 1):(qB a b p 1^^qB a b q 1)=(decide (Xs p q a b)^^(dR p q a^^dR p q b)):=by
 have key:=agv (u:=q.2-p.2) (A:=cr p q a 1) (B:=cr p q b 1) (a:=a.2-p.2) (b:=b.2-p.2) (P:=cr a b p 1) (Q:=cr a b q 1) (by omega) (by unfold cr;grind) (by unfold cr;grind) (fun h1 h2 e=>ha (qY e (by omega))) (fun h1 h2 e=>hb (qY e (by omega))) (fun h e=>hp (qY e (by omega))) (fun h e=>hq (qY e (by omega))) (fun h1 h2 o=>hq (by have e1:=TL (p:=p) (q:=q) (a:=a) (by omega);have e2:=TL (p:=p) (q:=q) (a:=b) (by omega);rw[e1,e2]at o;have s1:=kZ (u:=q.2-p.2) (P:=q.1-a.1) (by omega) rfl;have s2:=kZ (u:=q.2-p.2) (P:=q.1-b.1) (by omega) rfl;refine⟨?_,?_,by unfold nL;omega⟩;{unfold cr;rw[show b.2-a.2=0 by omega,show q.2-a.2*1=0 by omega];simp};·unfold pT at o;unfold nL;omega));rw[rJ,rJ];have t:((a.2-q.2<=0∧0<b.2-q.2∧0<cr a b q 1)∨(b.2-q.2<=0∧0<a.2-q.2∧cr a b q 1<0))↔((a.2-p.2<=q.2-p.2∧q.2-p.2<b.2-p.2∧0<cr a b q 1)∨(b.2-p.2<=q.2-p.2∧q.2-p.2<a.2-p.2∧cr a b q 1<0)):=(by omega);have t1:(p.2<a.2∧a.2<=q.2∧cr p q a 1<0)↔(0<a.2-p.2∧a.2-p.2<=q.2-p.2∧cr p q a 1<0):=(by omega);have t2:(p.2<b.2∧b.2<=q.2∧cr p q b 1<0)↔(0<b.2-p.2∧b.2-p.2<=q.2-p.2∧cr p q b 1<0):=(by omega);unfold dR;rw[bC.2 t,bC.2 t1,bC.2 t2];exact TM key
theorem D8{p q a b:jS}(hpq:p.2=q.2)(ha:¬has p q a 1)(hb:¬has p q b 1)(hp:¬has a b p 1)(hq:¬has a b q 1):(qB a b p 1^^qB a b q 1)=decide (Xs p q a b):=by
 have eA:cr p q a 1=(q.1-p.1)*(a.2-p.2):=(by unfold cr;rw[hpq];grind);have eB:cr p q b 1=(q.1-p.1)*(b.2-p.2):=(by unfold cr;rw[hpq];grind);rw[rJ,rJ];unfold Xs;have hP:(a.2-p.2<=0∧0<b.2-p.2)∨(b.2-p.2<=0∧0<a.2-p.2)->cr a b p 1≠0:=fun h e=>hp (qY e (by omega));have hQ:(a.2-p.2<=0∧0<b.2-p.2)∨(b.2-p.2<=0∧0<a.2-p.2)->cr a b q 1≠0:=fun h e=>hq (qY e (by omega));have key:pT (cr a b p 1) (cr a b q 1)->((a.2-p.2<=0∧0<b.2-p.2)∨(b.2-p.2<=0∧0<a.2-p.2))->pT (cr p q a 1) (cr p q b 1):=by intro o h;have hne:q.1-p.1≠0:=(by intro e;have:p=q:=cN (by omega) hpq;rw[this]at o;unfold pT at o;omega);have ia:a.2≠p.2:=(by intro e;have f1:cr a b p 1=-((b.2-a.2)*(p.1-a.1)):=(by unfold cr;rw[e];grind);have f2:cr a b q 1=-((b.2-a.2)*(q.1-a.1)):=(by unfold cr;rw[e,hpq];grind);have s1:=kZ (u:=b.2-a.2) (P:=p.1-a.1) (by omega) rfl;have s2:=kZ (u:=b.2-a.2) (P:=q.1-a.1) (by omega) rfl;rw[f1,f2]at o;refine ha ⟨by rw[eA,e];simp,?_,by unfold nL;omega⟩;unfold pT at o;unfold nL;omega);have ib:b.2≠p.2:=(by intro e;have f1:cr a b p 1=-((a.2-b.2)*(b.1-p.1)):=(by unfold cr;rw[e];grind);have f2:cr a b q 1=-((a.2-b.2)*(b.1-q.1)):=(by unfold cr;rw[e,hpq];grind);have s1:=kZ (u:=a.2-b.2) (P:=b.1-p.1) (by omega) rfl;have s2:=kZ (u:=a.2-b.2) (P:=b.1-q.1) (by omega) rfl;rw[f1,f2]at o;refine hb ⟨by rw[eB,e];simp,?_,by unfold nL;omega⟩;unfold pT at o;unfold nL;omega);rw[eA,eB];have m1:=e8 hne;rcases m1 with m|m<;>rcases h with h|h;{exact .inr ⟨TJ m (by omega),np m (by omega)⟩};{exact .inl ⟨np m (by omega),TJ m (by omega)⟩};{exact .inl ⟨pn m (by omega),pp m (by omega)⟩};·exact .inr ⟨pp m (by omega),pn m (by omega)⟩
 have back:pT (cr p q a 1) (cr p q b 1)->((a.2-p.2<=0∧0<b.2-p.2)∨(b.2-p.2<=0∧0<a.2-p.2)):=(by intro o;rw[eA,eB]at o;rcases cA (q.1-p.1) 0 with m|m|m;{have s1:=kZ (u:=-(q.1-p.1)) (P:=a.2-p.2) (by omega) rfl;have s2:=kZ (u:=-(q.1-p.1)) (P:=b.2-p.2) (by omega) rfl;rw[Int.neg_mul]at s1 s2;unfold pT at o;omega};{rw[m]at o;unfold pT at o;simp at o};·have s1:=kZ (u:=q.1-p.1) (P:=a.2-p.2) (by omega) rfl;have s2:=kZ (u:=q.1-p.1) (P:=b.2-p.2) (by omega) rfl;unfold pT at o;omega);have k:=TM (r1:=(a.2-p.2<=0∧0<b.2-p.2∧0<cr a b p 1)∨(b.2-p.2<=0∧0<a.2-p.2∧cr a b p 1<0)) (r2:=(a.2-q.2<=0∧0<b.2-q.2∧0<cr a b q 1)∨(b.2-q.2<=0∧0<a.2-q.2∧cr a b q 1<0)) (x:=pT (cr p q a 1) (cr p q b 1)∧pT (cr a b p 1) (cr a b q 1)) (d1:=False) (d2:=False) (by by_cases h:(a.2-p.2<=0∧0<b.2-p.2)∨(b.2-p.2<=0∧0<a.2-p.2);{have g1:=hP h;have g2:=hQ h;have g3:=fun o=>key o h;have e:(pT (cr p q a 1) (cr p q b 1)∧pT (cr a b p 1) (cr a b q 1))↔pT (cr a b p 1) (cr a b q 1):=⟨fun x=>x.2,fun x=>⟨g3 x,x⟩⟩;rw[e];clear e g3 key back hP hQ eA eB;simp only[iff_self,iff_true];unfold pT;omega};·have e:¬(pT (cr p q a 1) (cr p q b 1)∧pT (cr a b p 1) (cr a b q 1)):=fun x=>h (back x.1);have r1:¬((a.2-p.2<=0∧0<b.2-p.2∧0<cr a b p 1)∨(b.2-p.2<=0∧0<a.2-p.2∧cr a b p 1<0)):=(by omega);have r2:¬((a.2-q.2<=0∧0<b.2-q.2∧0<cr a b q 1)∨(b.2-q.2<=0∧0<a.2-q.2∧cr a b q 1<0)):=(by omega);simp only[e,r1,r2];simp)
 rw[k];rw[show(decide False^^decide False)=false from rfl,Bool.xor_false]
theorem ac7{p q a b:jS}:Xs q p a b↔Xs p q a b:=by
 unfold Xs;rw[oD p q a 1,oD p q b 1,LG,CM (A:=cr a b q 1)]
def xD(p q v:jS):Bool:=if p.2<q.2 then dR p q v else if q.2<p.2 then dR q p v else false
theorem NP{p q a b:jS}(ha:¬has p q a 1)(hb:¬has p q b 1)(hp:¬has a b p 1)(hq:¬has a b q 1):(qB a b p 1^^qB a b q 1)=(decide (Xs p q a b)^^(xD p q a^^xD p q b)):=by
 unfold xD;rcases cA p.2 q.2 with h|h|h;{rw[aB h,aB h];exact F3 h ha hb hp hq};{rw[ah (by omega),ah (by omega),ah (by omega),ah (by omega),D8 h ha hb hp hq];simp};·rw[ah (by omega),aB h,ah (by omega),aB h];rw[Bool.xor_comm,F3 h (fun k=>ha (mL.1 k)) (fun k=>hb (mL.1 k)) hq hp,bC.2 ac7]
def kK(l:List kF)(p:j9):Bool:=l.foldr (fun s b=>qB s.1 s.2 p.1 p.2^^b) false
def xsL(l:List kF)(p q:jS):Bool:=l.foldr (fun s b=>decide (Xs p q s.1 s.2)^^b) false
theorem kV(s:kF)(l:List kF)(p:j9):kK (s::l) p=(qB s.1 s.2 p.1 p.2^^kK l p):=rfl
theorem zG(s:kF)(l:List kF)(p q:jS):xsL (s::l) p q=(decide (Xs p q s.1 s.2)^^xsL l p q):=rfl
theorem lY(a b:List kF)(p:j9):kK (a++b) p=(kK a p^^kK b p):=by induction a with|nil=>simp[kK]|cons s a ih=>rw[bE,kV,kV,ih,jJ]
theorem mB(a b:jS)(t:Ring):jT (a::b::t)=(a,b)::jT (b::t):=rfl
theorem CN(a:jS):jT [a]=[]:=rfl
structure E5(p q a b:jS):Prop where
 ha:¬has p q a 1
 hb:¬has p q b 1
 hp:¬has a b p 1
 hq:¬has a b q 1
theorem BJ(p q:jS):∀(t:Ring)(a:jS),(∀s∈jT (a::t),E5 p q s.1 s.2)->(kK (jT (a::t)) (p,1)^^kK (jT (a::t)) (q,1))=(xsL (jT (a::t)) p q^^(xD p q a^^xD p q ((a::t).getLast (by simp)))):=by
 intro t;induction t with|nil=>intro a _;simp[CN,kK,xsL]|cons b t ih=>intro a h;rw[mB]at h;have h1:=h (a,b) (by simp);have k:=ih b fun s hs=>h s (by simp[hs]);have e:=NP h1.ha h1.hb h1.hp h1.hq;rw[mB,kV,kV,zG,List.getLast_cons (by simp)];simp only at e⊢;revert e k;generalize qB a b p 1=x1;generalize qB a b q 1=x2;generalize kK (jT (b::t)) (p,1)=x3;generalize kK (jT (b::t)) (q,1)=x4;generalize xsL (jT (b::t)) p q=x5;generalize decide (Xs p q a b)=x6;generalize xD p q a=x7;generalize xD p q b=x8;generalize xD p q ((b::t).getLast (by simp))=x9;revert x1 x2 x3 x4 x5 x6 x7 x8 x9;decide
def Ends(r:Ring):Prop:=r.head?=r.getLast?
theorem kD{r:Ring}(h:Shut r):Ends r:=by
 have h4:=h.len;unfold Ends;rw[gH,gw,jY (by omega),jY (by omega),h.eq]
theorem JV{r:Ring}(hr:Ends r){p q:jS}(h:∀s∈jT r,E5 p q s.1 s.2):(kK (jT r) (p,1)^^kK (jT r) (q,1))=xsL (jT r) p q:=by cases r with|nil=>rfl|cons a t=>have k:=BJ p q t a h;have e:a=(a::t).getLast (by simp):=(by unfold Ends at hr;rw[fF (by simp)]at hr;simpa using hr);rw[k,←e];simp
theorem NQ:∀(l:List kF)(i:Bool)(p:j9),(∀s∈l,¬has s.1 s.2 p.1 p.2)->oN l i p=if(i^^kK l p)=true then 2 else 0:=by
 intro l;induction l with|nil=>intro i p _;simp[oN,kK]|cons s l ih=>intro i p h;have h1:=h s (by simp);unfold oN;rw[ah (by unfold hasB;simpa using h1),ih _ p fun t ht=>h t (by simp[ht]),kV];cases qB s.1 s.2 p.1 p.2<;>cases i<;>simp
theorem nE{r:Ring}{p:j9}(h:∀s∈jT r,¬has s.1 s.2 p.1 p.2):place r p=if kK (jT r) p=true then 2 else 0:=by
 unfold place;rw[NQ _ _ _ h];simp
theorem zH{l:List kF}{p q:jS}(h:∀s∈l,¬Xs p q s.1 s.2):xsL l p q=false:=by induction l with|nil=>rfl|cons s l ih=>rw[zG,ih fun t ht=>h t (by simp[ht]),aA (h s (by simp))];rfl
theorem BK{r:Ring}(hr:Ends r){p q:jS}(h:∀s∈jT r,E5 p q s.1 s.2)(hx:∀s∈jT r,¬Xs p q s.1 s.2):place r (p,1)=place r (q,1):=by
 have k:=JV hr h;rw[zH hx]at k;rw[nE (p:=(p,1)) fun s hs=>(h s hs).hp,nE (p:=(q,1)) fun s hs=>(h s hs).hq];have:kK (jT r) (p,1)=kK (jT r) (q,1):=(by revert k;generalize kK (jT r) (p,1)=x;generalize kK (jT r) (q,1)=y;cases x<;>cases y<;>simp);rw[this]
def sc(k:Int)(p:jS):jS:=(k*p.1,k*p.2)
def pQ(k:Int)(r:Ring):Ring:=r.map (sc k)
def CS(k:Int)(s:kF):kF:=(sc k s.1,sc k s.2)
theorem CT(k:Int)(a b p:jS)(w:Int):cr (sc k a) (sc k b) p w=k*cr a b p (k*w):=by
 unfold cr sc;grind
theorem QN{k:Int}(hk:0<k)(n:Int):sg (k*n)=sg n:=by
 have s:=kZ hk (rfl:k*n=k*n);rcases kW n with⟨h,e⟩|⟨h,e⟩|⟨h,e⟩<;>rcases kW (k*n)with⟨h',e'⟩|⟨h',e'⟩|⟨h',e'⟩<;>first|omega|rw[e,e']
theorem nN{k:Int}(hk:0<k)(a b p:jS)(w:Int):has (sc k a) (sc k b) p w↔has a b p (k*w):=by
 have s:=kZ hk (rfl:k*cr a b p (k*w)=_);have e:∀x:Int,k*x*w=x*(k*w):=fun x=>(by grind);unfold has;rw[CT];unfold sc;simp only[e];constructor;{rintro⟨h1,h2⟩;exact⟨s.2.2.2 h1,h2⟩};·rintro⟨h1,h2⟩;exact⟨s.2.2.1 h1,h2⟩
theorem GF{k:Int}(hk:0<k)(a b p:jS)(w:Int):qB (sc k a) (sc k b) p w=qB a b p (k*w):=by
 have e:∀x:Int,k*x*w=x*(k*w):=fun x=>(by grind);unfold qB;rw[CT,QN hk];unfold sc;simp only[e]
theorem pg(k:Int)(r:Ring):jT (pQ k r)=(jT r).map (CS k):=by
 unfold jT pQ;rw[←List.map_tail,List.zip_map];rfl
theorem Vx{k:Int}(hk:0<k):∀(l:List kF)(i:Bool)(p:jS)(w:Int),oN (l.map (CS k)) i (p,w)=oN l i (p,k*w):=by
 intro l;induction l with|nil=>intro i p w;rfl|cons s l ih=>intro i p w;rw[cU];unfold oN;have e1:hasB (CS k s) (p,w)=hasB s (p,k*w):=bC.2 (nN hk s.1 s.2 p w);have e2:qB (CS k s).1 (CS k s).2 p w=qB s.1 s.2 p (k*w):=GF hk s.1 s.2 p w;rw[e1,ih];simp only[e2]
theorem mM{k:Int}(hk:0<k)(r:Ring)(p:jS)(w:Int):place (pQ k r) (p,w)=place r (p,k*w):=by
 unfold place;rw[pg,Vx hk]
theorem r7{k:Int}{r:Ring}(h:Ends r):Ends (pQ k r):=by
 unfold Ends pQ at*;rw[List.head?_map,List.getLast?_map,h]
theorem AL(k:Int)(a b p:jS)(w:Int):cr a b (sc k p) (k*w)=k*cr a b p w:=by
 unfold cr sc;grind
theorem ac8{k:Int}(hk:0<k){a p b:Int}:nL (k*a) (k*p) (k*b)↔nL a p b:=by
 have e1:∀{x y:Int},k*x<=k*y↔x<=y:=fun{x y}=>⟨fun h=>cJ h hk,fun h=>bA h (by omega)⟩;unfold nL;simp only[e1]
theorem nk{k:Int}(hk:0<k)(a b p:jS)(w:Int):has a b (sc k p) (k*w)↔has a b p w:=by
 have s:=kZ hk (rfl:k*cr a b p w=_);have e:∀x:Int,x*(k*w)=k*(x*w):=fun x=>(by grind);unfold has;rw[AL];unfold sc;simp only[e,ac8 hk];constructor;{rintro⟨h1,h2⟩;exact⟨s.2.2.2 h1,h2⟩};·rintro⟨h1,h2⟩;exact⟨s.2.2.1 h1,h2⟩
theorem NR{k:Int}(hk:0<k)(a b p:jS)(w:Int):qB a b (sc k p) (k*w)=qB a b p w:=by
 have e:∀x:Int,x*(k*w)=k*(x*w):=fun x=>(by grind);have e1:∀{x y:Int},k*x>k*y↔x>y:=fun{x y}=>⟨fun h=>fC h (by omega),fun h=>dj h hk⟩;unfold qB;rw[AL,QN hk];unfold sc;simp only[e,e1]
theorem NT{k:Int}(hk:0<k)(p:jS)(w:Int):∀(l:List kF)(i:Bool),oN l i (sc k p,k*w)=oN l i (p,w):=by
 intro l;induction l with|nil=>intro i;rfl|cons s l ih=>intro i;unfold oN;have e1:hasB s (sc k p,k*w)=hasB s (p,w):=bC.2 (nk hk s.1 s.2 p w);rw[e1,ih];simp only[NR hk]
theorem wE{k:Int}(hk:0<k)(r:Ring)(p:jS)(w:Int):place r (sc k p,k*w)=place r (p,w):=by
 unfold place;rw[NT hk]
theorem sS{r:Ring}{p:j9}(hp:0<p.2){k:Int}(hk:0<k):place r p=place (pQ (k*p.2) r) (sc k p.1,1):=by rw[mM (pp hk hp),aX,wE hk]
theorem LH{α:Type}(f:α->Int)(P:α->Prop):∀(l:List α),(∃x∈l,P x)->∃x∈l,P x∧∀y∈l,P y->f y<=f x:=by
 intro l;induction l with|nil=>rintro⟨x,hx,_⟩;cases hx|cons a t ih=>rintro⟨x,hx,hp⟩;by_cases ht:∃y∈t,P y;{obtain⟨y,hy,py,my⟩:=ih ht;by_cases ha:P a∧f y<f a;{refine⟨a,by simp,ha.1,fun z hz pz=>?_⟩;rcases aF.1 hz with rfl|hz;{exact c9 _};·have:=my z hz pz;omega};·refine⟨y,by simp[hy],py,fun z hz pz=>?_⟩;rcases aF.1 hz with rfl|hz;{by_cases c:f y<f z;{exact absurd ⟨pz,c⟩ ha};·omega};·exact my z hz pz};·rcases aF.1 hx with rfl|hx;{refine⟨x,by simp,hp,fun z hz pz=>?_⟩;rcases aF.1 hz with rfl|hz;{exact c9 _};·exact absurd ⟨z,hz,pz⟩ ht};·exact absurd ⟨x,hx,hp⟩ ht
theorem QO{α:Type}(f:α->Int)(P:α->Prop)(l:List α)(h:∃x∈l,P x):∃x∈l,P x∧∀y∈l,P y->f x<=f y:=by
 obtain⟨x,hx,hp,m⟩:=LH (fun x=>-f x) P l h;exact⟨x,hx,hp,fun y hy py=>by have:=m y hy py;omega⟩
theorem GG{a b:jS}{l:List jS}{x:jS}:Cut a b l x↔x∈a::b::l∧(x=a∨x=b∨(x∈l∧has a b x 1)):=by
 unfold Cut;constructor;{intro h;refine⟨?_,h⟩;rcases h with rfl|rfl|h;{simp};{simp};·simp[h.1]};·exact fun h=>h.2
theorem CV{a b p:jS}(h0:cr a b p 1=0):kk a b*p.1=kk a b*a.1+pos a b p*(b.1-a.1)∧kk a b*p.2=kk a b*a.2+pos a b p*(b.2-a.2):=by
 unfold cr at h0;unfold pos dt kk;constructor<;>grind
theorem agw{k D a1 a2 b1 b2 p1 p2 c1 c2 d1 d2:Int}(e1:k*p1=k*a1+D*(b1-a1))(e2:k*p2=k*a2+D*(b2-a2)):k*((d1-c1)*(p2-c2)-(d2-c2)*(p1-c1))=(k-D)*((d1-c1)*(a2-c2)-(d2-c2)*(a1-c1))+D*((d1-c1)*(b2-c2)-(d2-c2)*(b1-c1)):=by grind
theorem wF{a b p:jS}(h0:cr a b p 1=0)(c d:jS):kk a b*cr c d p 1=(kk a b-pos a b p)*cr c d a 1+pos a b p*cr c d b 1:=by
 obtain⟨e1,e2⟩:=CV h0;have:=agw (c1:=c.1) (c2:=c.2) (d1:=d.1) (d2:=d.2) e1 e2;unfold cr;simpa only[aX]using this
theorem ac9{k D E a1 a2 b1 b2 p1 p2 q1 q2:Int}(e1:k*p1=k*a1+D*(b1-a1))(e2:k*p2=k*a2+D*(b2-a2))(f1:k*q1=k*a1+E*(b1-a1))(f2:k*q2=k*a2+E*(b2-a2)):k*(q1-p1)=(E-D)*(b1-a1)∧k*(q2-p2)=(E-D)*(b2-a2):=by constructor<;>grind
theorem F4{a b p q:jS}(hp:cr a b p 1=0)(hq:cr a b q 1=0):kk a b*(q.1-p.1)=(pos a b q-pos a b p)*(b.1-a.1)∧kk a b*(q.2-p.2)=(pos a b q-pos a b p)*(b.2-a.2):=by
 obtain⟨e1,e2⟩:=CV hp;obtain⟨f1,f2⟩:=CV hq;exact ac9 e1 e2 f1 f2
theorem TN{k L u1 u2 v1 v2 x1 x2:Int}(e1:k*v1=L*u1)(e2:k*v2=L*u2):k*(v1*x2-v2*x1)=L*(u1*x2-u2*x1)∧k*(x1*v1+x2*v2)=L*(x1*u1+x2*u2):=by constructor<;>grind
theorem TP{a b p:jS}(hp:cr a b p 1=0)(c:jS):(b.1-a.1)*(c.2-p.2)-(b.2-a.2)*(c.1-p.1)=cr a b c 1:=by
 unfold cr at*;grind
theorem rQ{a b p q:jS}(hp:cr a b p 1=0)(hq:cr a b q 1=0)(c:jS):kk a b*cr p q c 1=(pos a b q-pos a b p)*cr a b c 1:=by
 obtain⟨e1,e2⟩:=F4 hp hq;have:=(TN (x1:=c.1-p.1) (x2:=c.2-p.2) e1 e2).1;rw[TP hp]at this;rw[←this];unfold cr;simp only[aX]
theorem YJ(a b p c:jS):(c.1-p.1)*(b.1-a.1)+(c.2-p.2)*(b.2-a.2)=pos a b c-pos a b p:=by
 unfold pos dt;grind
theorem D9{a b p q:jS}(hp:cr a b p 1=0)(hq:cr a b q 1=0)(c:jS):kk a b*dt p q c 1=(pos a b q-pos a b p)*(pos a b c-pos a b p):=by
 obtain⟨e1,e2⟩:=F4 hp hq;have:=(TN (x1:=c.1-p.1) (x2:=c.2-p.2) e1 e2).2;rw[YJ a b p c]at this;rw[←this];unfold dt;simp only[aX]
theorem YK(p q:jS):kk p q=dt p q q 1:=by
 unfold kk dt;simp
theorem tE{a b p q c:jS}(hab:a≠b)(hpq:p≠q)(hp:cr a b p 1=0)(hq:cr a b q 1=0)(h:has p q c 1):cr a b c 1=0∧nL (pos a b p) (pos a b c) (pos a b q):=by
 have hk:=lR hab;obtain⟨h0,h1,h2⟩:=(sD hpq (by omega)).1 h;have hne:pos a b q-pos a b p≠0:=fun e=>hpq (rH hab hp hq (by omega));have e:=rQ hp hq c;rw[h0,aW]at e;have e1:=D9 hp hq c;have e2:=D9 hp hq q;rw[aX,YK]at h2;have m1:=p0 (bK hk) h1;have m2:=bA h2 (bK hk);rw[e1]at m1;rw[e1,e2]at m2;refine⟨?_,?_⟩;{rcases aU.1 e.symm with g|g;{exact absurd g hne};·exact g};·unfold nL;rcases e8 hne with g|g;{right;constructor;{rcases bL (pos a b c) (pos a b q)with q'|q';{have:=Int.mul_lt_mul_of_neg_left (show pos a b c-pos a b p<pos a b q-pos a b p by omega) g;omega};·exact q'};·rcases bL (pos a b p) (pos a b c)with q|q;{have:=np g (show 0<pos a b c-pos a b p by omega);omega};·exact q};·left;constructor;{rcases bL (pos a b c) (pos a b p)with q|q;{have:=pn g (show pos a b c-pos a b p<0 by omega);omega};·exact q};·have:=cJ m2 g;omega
theorem GH{x y s t s' t' X Y:Int}(hs:0<=s)(ht:0<=t)(hs':0<=s')(ht':0<=t'){k:Int}(hk:0<k)(e1:k*X=s*x+t*y)(e2:k*Y=s'*x+t'*y)(o:pT X Y):pT x y:=by
 obtain⟨P1,P2,-⟩:=kZ hk e1;obtain⟨Q1,Q2,-⟩:=kZ hk e2;have both:¬(0<=x∧0<=y):=(by rintro⟨hx,hy⟩;have:=p0 hs hx;have:=p0 ht hy;have:=p0 hs' hx;have:=p0 ht' hy;unfold pT at o;omega);have none:¬(x<=0∧y<=0):=(by rintro⟨hx,hy⟩;have:=m0 hs hx;have:=m0 ht hy;have:=m0 hs' hx;have:=m0 ht' hy;unfold pT at o;omega);unfold pT;omega
theorem CW{a b c d:jS}(h1:pT (cr a b c 1) (cr a b d 1))(h2:pT (cr c d a 1) (cr c d b 1)):meet a b c d=2:=by
 unfold meet pT at*;rcases kW (cr a b c 1)with⟨g1,k1⟩|⟨g1,k1⟩|⟨g1,k1⟩<;>rcases kW (cr a b d 1)with⟨g2,k2⟩|⟨g2,k2⟩|⟨g2,k2⟩<;>rcases kW (cr c d a 1)with⟨g3,k3⟩|⟨g3,k3⟩|⟨g3,k3⟩<;>rcases kW (cr c d b 1)with⟨g4,k4⟩|⟨g4,k4⟩|⟨g4,k4⟩<;>first|(exfalso;omega)|simp[k1,k2,k3,k4]
theorem zI(x y:Int):(x*y<0->(0<x∧y<0)∨(x<0∧0<y))∧(0<x*y->(0<x∧0<y)∨(x<0∧y<0)):=by
 rcases cA x 0 with h|h|h<;>rcases cA y 0 with k|k|k;{have:=TJ h k;omega};{rw[k];simp};{have:=np h k;omega};{rw[h];simp};{rw[h];simp};{rw[h];simp};{have:=pn h k;omega};{rw[k];simp};·have:=pp h k;omega
theorem JW{a b:jS}(hab:a≠b){o:Ring}(he:Ends o){p q:jS}(hp:cr a b p 1=0)(hq:cr a b q 1=0)(np:place o (p,1)≠1)(nq:place o (q,1)≠1)(hv:∀t∈jT o,∀c,c=t.1∨c=t.2->cr a b c 1=0->¬nL (pos a b p) (pos a b c) (pos a b q))(hx:∀t∈jT o,¬(pT (cr a b t.1 1) (cr a b t.2 1)∧pT (cr t.1 t.2 p 1) (cr t.1 t.2 q 1))):place o (p,1)=place o (q,1):=by
 by_cases hpq:p=q;{rw[hpq]};have hk:=lR hab;refine BK he (fun t ht=>⟨fun h=>?_,fun h=>?_,fun h=>np (kj.2 ⟨t,ht,h⟩),fun h=>nq (kj.2 ⟨t,ht,h⟩)⟩) (fun t ht h=>?_);{obtain⟨k1,k2⟩:=tE hab hpq hp hq h;exact hv t ht _ (.inl rfl) k1 k2};{obtain⟨k1,k2⟩:=tE hab hpq hp hq h;exact hv t ht _ (.inr rfl) k1 k2};·refine hx t ht ⟨?_,h.2⟩;have e1:=rQ hp hq t.1;have e2:=rQ hp hq t.2;have s1:=kZ hk e1;have s2:=kZ hk e2;have o:=h.1;have m1:=zI (pos a b q-pos a b p) (cr a b t.1 1);have m2:=zI (pos a b q-pos a b p) (cr a b t.2 1);unfold pT at o⊢;omega
theorem BM{a b p:jS}(hab:a≠b)(hp:has a b p 1)(l:List jS):∃y z,Cons (pos a b) (Cut a b l) y z∧pos a b y<=pos a b p∧pos a b p<=pos a b z:=by
 obtain⟨d0,d1⟩:=l8 hab hp;have hk:=lR hab;obtain⟨y,hy,⟨cy,ly,ny⟩,my⟩:=LH (pos a b) (fun x=>Cut a b l x∧pos a b x<=pos a b p∧pos a b x<kk a b) (a::b::l) ⟨a,by simp,.inl rfl,by rw[nG];exact d0,by rw[nG];exact hk⟩;obtain⟨z,hz,⟨cz,lz⟩,mz⟩:=QO (pos a b) (fun x=>Cut a b l x∧pos a b y<pos a b x) (a::b::l) ⟨b,by simp,.inr (.inl rfl),by rw[o6];exact ny⟩;refine⟨y,z,⟨cy,cz,lz,fun c hc⟨h1,h2⟩=>?_⟩,ly,?_⟩;{have:=mz c (GG.1 hc).1 ⟨hc,h1⟩;omega};·rcases eF (pos a b p) (pos a b z)with g|g;{exact g};·by_cases e:pos a b z<kk a b;{have:=my z hz ⟨cz,g,e⟩;omega};·have h1:=(l8 hab (lE cz)).2;omega
theorem pU{a b p:jS}(hab:a≠b)(h0:cr a b p 1=0)(h1:0<=pos a b p)(h2:pos a b p<=kk a b):has a b p 1:=(sD hab (by omega)).2 ⟨h0,h1,by rw[aX];exact h2⟩
theorem TQ{o:Ring}{t:kF}(ht:t∈jT o){c:jS}(hc:c=t.1∨c=t.2):place o (c,1)=1:=by
 refine kj.2 ⟨t,ht,?_⟩;rcases hc with rfl|rfl;{exact qm _ _};·exact oO _ _
theorem E6{a b:jS}(hab:a≠b){o:Ring}(hl:mZ o)(hx:∀t∈jT o,lq (a,b) t=false){y z M:jS}(hc:Cons (pos a b) (Cut a b o) y z)(hM:has a b M 1)(h1:pos a b y<pos a b M)(h2:pos a b M<pos a b z):place o (M,1)≠1:=by
 intro h;obtain⟨t,ht,hh⟩:=kj.1 h;simp only at hh;obtain⟨y0,-⟩:=l8 hab (lE hc.cx);obtain⟨-,z1⟩:=l8 hab (lE hc.cy);have ajW:¬Cut a b o M:=fun c=>hc.no M c ⟨h1,h2⟩;have nv:∀c,c=t.1∨c=t.2->M≠c:=(by rintro c hc' rfl;have:=kP ht;exact ajW (.inr (.inr ⟨by rcases hc' with e|e<;>rw[e];exact this.1;exact this.2,hM⟩)));have two:∀c:jS,M≠c->sc 2 M≠(c.1*2,c.2*2):=(by intro c hne e;unfold sc at e;simp only[dH]at e;exact hne (cN (by omega) (by omega)));have i1:YE a b (sc 2 M):=(by refine⟨?_,two a ?_,two b ?_⟩;{have:=(nk (k:=2) (by omega) a b M 1).2 hM;simpa using this};{rintro rfl;rw[nG]at h1;omega};·rintro rfl;rw[o6]at h2;omega);have i2:YE t.1 t.2 (sc 2 M):=(by refine⟨?_,two _ (nv _ (.inl rfl)),two _ (nv _ (.inr rfl))⟩;have:=(nk (k:=2) (by omega) t.1 t.2 M 1).2 hh;simpa using this);have k:=AJ hab (hl t ht) i1 i2;have:=hx t ht;unfold lq lN at this;rcases k with k|k<;>simp[k]at this
theorem CX{a b:jS}(hab:a≠b){o:Ring}(he:Ends o)(hl:mZ o)(hx:∀t∈jT o,lq (a,b) t=false){y z p M:jS}(hc:Cons (pos a b) (Cut a b o) y z)(hp:has a b p 1)(p1:pos a b y<=pos a b p)(p2:pos a b p<=pos a b z)(hM:has a b M 1)(h1:pos a b y<pos a b M)(h2:pos a b M<pos a b z)(hn:place o (p,1)≠1):place o (p,1)=place o (M,1):=by
 have hk:=lR hab;obtain⟨y0,-⟩:=l8 hab (lE hc.cx);obtain⟨-,z1⟩:=l8 hab (lE hc.cy);obtain⟨q0',q1⟩:=l8 hab hp;obtain⟨m0',m1⟩:=l8 hab hM;refine JW hab he hp.1 hM.1 hn (E6 hab hl hx hc hM h1 h2) ?_ ?_;{intro t ht c hc' vC hb;have hcut:Cut a b o c:=(by refine .inr (.inr ⟨?_,pU hab vC (by unfold nL at hb;omega) (by unfold nL at hb;omega)⟩);have:=kP ht;rcases hc' with e|e<;>rw[e];{exact this.1};·exact this.2);have:=hc.no c hcut;have e:pos a b c=pos a b p:=(by unfold nL at hb;omega);have:=rH hab vC hp.1 e;rw[←this]at hn;exact hn (TQ ht hc')};·rintro t ht⟨o1,o2⟩;have e1:=wF hp.1 t.1 t.2;have e2:=wF hM.1 t.1 t.2;have o3:=GH (by omega) q0' (by omega) m0' hk e1 e2 o2;have:=hx t ht;unfold lq lN at this;rw[CW o1 o3]at this;simp at this
theorem mI{k:Int}(hk:0<k){p q:jS}:sc k p=sc k q↔p=q:=by
 constructor;{intro h;unfold sc at h;simp only[dH]at h;exact cN (fD (by omega) h.1) (fD (by omega) h.2)};·rintro rfl;rfl
theorem QS{k:Int}(hk:0<k){p q:jS}:kS (sc k p) (sc k q)↔kS p q:=by
 have e1:∀{x y:Int},k*x<k*y↔x<y:=fun{x y}=>⟨fun h=>fC h (by omega),fun h=>dj h hk⟩;have e2:∀{x y:Int},k*x=k*y↔x=y:=fun{x y}=>⟨fun h=>fD (by omega) h,fun h=>by rw[h]⟩;unfold kS sc;simp only[e1,e2]
theorem agx{k:Int}(hk:0<k)(a b:jS):fwd (sc k a) (sc k b)=CS k (fwd a b):=by
 unfold fwd;by_cases h:kS b a;{rw[aB h,aB ((QS hk).2 h)];rfl};·rw[ah h,ah (fun g=>h ((QS hk).1 g))];rfl
theorem agy(k:Int)(c:Prop)[Decidable c](a b:jS):(if c then sc k a else sc k b)=sc k (if c then a else b):=by split<;>rfl
theorem Vy{k:Int}(hk:0<k)(s t:kF):l7 (CS k s) (CS k t)=l7 s t:=by
 unfold l7 CS;simp only[QS hk,agy,mI hk]
theorem qZ(k:Int)(a b p:jS):cr (sc k a) (sc k b) (sc k p) 1=k*k*cr a b p 1:=by
 unfold cr sc;grind
theorem F5{k:Int}(hk:0<k)(a b c d:jS):meet (sc k a) (sc k b) (sc k c) (sc k d)=meet a b c d:=by
 unfold meet;simp only[qZ,QN (pp hk hk),agx hk,Vy hk]
theorem AM{k:Int}(hk:0<k)(s t:kF):lq (CS k s) (CS k t)=lq s t:=by
 unfold lq lN CS;simp only[F5 hk]
theorem qg(k:Int)(a b p:jS):pos (sc k a) (sc k b) (sc k p)=k*k*pos a b p:=by
 unfold pos dt sc;grind
theorem uG{k:Int}(hk:0<k)(a b p:jS):has (sc k a) (sc k b) (sc k p) 1↔has a b p 1:=by rw[nN hk,nk hk]
theorem Ea{k:Int}(hk:0<k){a b:jS}{l:List jS}{x:jS}:Cut (sc k a) (sc k b) (l.map (sc k)) x↔∃x',x=sc k x'∧Cut a b l x':=by
 unfold Cut;constructor;{rintro(rfl|rfl|⟨h1,h2⟩);{exact⟨a,rfl,.inl rfl⟩};{exact⟨b,rfl,.inr (.inl rfl)⟩};·obtain⟨x',hx',rfl⟩:=aJ.1 h1;exact⟨x',rfl,.inr (.inr ⟨hx',(uG hk _ _ _).1 h2⟩)⟩};·rintro⟨x',rfl,rfl|rfl|⟨h1,h2⟩⟩;{exact .inl rfl};{exact .inr (.inl rfl)};·exact .inr (.inr ⟨aJ.2 ⟨x',h1,rfl⟩,(uG hk _ _ _).2 h2⟩)
theorem LI{k:Int}(hk:0<k){a b:jS}{l:List jS}{y z:jS}(h:Cons (pos (sc k a) (sc k b)) (Cut (sc k a) (sc k b) (l.map (sc k))) y z):∃y' z',y=sc k y'∧z=sc k z'∧Cons (pos a b) (Cut a b l) y' z':=by
 obtain⟨y',rfl,cy⟩:=(Ea hk).1 h.cx;obtain⟨z',rfl,cz⟩:=(Ea hk).1 h.cy;have kk2:=pp hk hk;have e1:∀{x y:Int},k*k*x<k*k*y↔x<y:=fun{x y}=>⟨fun h=>fC h (by omega),fun h=>dj h kk2⟩;refine⟨y',z',rfl,rfl,cy,cz,?_,?_⟩;{have:=h.lt;rw[qg,qg]at this;exact e1.1 this};·rintro c hc⟨h1,h2⟩;refine h.no (sc k c) ((Ea hk).2 ⟨c,rfl,hc⟩) ?_;rw[qg,qg,qg];exact⟨e1.2 h1,e1.2 h2⟩
theorem tF{k:Int}(hk:0<k){r:Ring}(h:mZ r):mZ (pQ k r):=by
 intro s hs;rw[pg]at hs;obtain⟨t,ht,rfl⟩:=aJ.1 hs;intro e;exact h t ht ((mI hk).1 e)
theorem CZ{a b:jS}(hab:a≠b){o:Ring}(he:Ends o)(hl:mZ o)(hx:∀t∈jT o,lq (a,b) t=false){p:j9}(hw:0<p.2)(hp:has a b p.1 p.2)(hn:place o p≠1):∃m∈mW (a,b) [o],place o p=place o m:=by
 obtain⟨P,w⟩:=p;simp only at hw hp;have hK:(0:Int)<2*w:=(by omega);have wY:sc (2*w) a≠sc (2*w) b:=fun e=>hab ((mI hK).1 e);have hp':has (sc (2*w) a) (sc (2*w) b) (sc 2 P) 1:=(by rw[nN hK,aX];exact(nk (by omega) a b P w).2 hp);obtain⟨y',z',hc',l1,l2⟩:=BM wY hp' (pQ (2*w) o);obtain⟨y,z,rfl,rfl,hc⟩:=LI hK (l:=o) hc';have hm:kL y z∈mW (a,b) [o]:=(p8 hab [o] _).2 ⟨y,z,by simpa using hc,rfl⟩;refine⟨_,hm,?_⟩;have e1:place o (P,w)=place (pQ (2*w) o) (sc 2 P,1):=sS (p:=(P,w)) hw (k:=2) (by omega);have e2:place o (kL y z)=place (pQ (2*w) o) (sc w (kL y z).1,1):=(by have:=sS (r:=o) (p:=kL y z) (show(0:Int)<2 by omega) (k:=w) hw;rw[show w*(kL y z).2=2*w by show w*2=2*w;omega]at this;exact this);rw[e1,e2];have c0y:=(lE hc.cx).1;have c0z:=(lE hc.cy).1;have f1:2*pos (sc (2*w) a) (sc (2*w) b) (sc w (kL y z).1)=pos (sc (2*w) a) (sc (2*w) b) (sc (2*w) y)+pos (sc (2*w) a) (sc (2*w) b) (sc (2*w) z):=(by unfold pos dt sc kL;grind);have f2:2*cr (sc (2*w) a) (sc (2*w) b) (sc w (kL y z).1) 1=cr (sc (2*w) a) (sc (2*w) b) (sc (2*w) y) 1+cr (sc (2*w) a) (sc (2*w) b) (sc (2*w) z) 1:=(by unfold cr sc kL;grind);rw[qZ,qZ,c0y,c0z,aW,dB]at f2
 have hlt:=hc'.lt;obtain⟨y0,y1⟩:=l8 wY (lE hc'.cx);obtain⟨z0,z1⟩:=l8 wY (lE hc'.cy);refine CX wY (r7 he) (tF hK hl) ?_ hc' hp' l1 l2 (pU wY (by omega) (by omega) (by omega)) (by omega) (by omega) ?_;{intro t ht;rw[pg]at ht;obtain⟨t',ht',rfl⟩:=aJ.1 ht;have:=hx t' ht';rw[←AM hK]at this;exact this};·rw[←e1];exact hn
theorem q8{r o:Ring}(hr:mZ r)(ho:mZ o)(he:Ends o)(hx:kC r o=false){k:Int}(hk:lies r o k=true){p:j9}(hw:0<p.2)(hp:place r p=1):place o p=1∨place o p=k:=by
 obtain⟨s,hs,h⟩:=kj.1 hp;by_cases h1:place o p=1;{exact .inl h1};right;obtain⟨m,hm,e⟩:=CZ (hr s hs) he ho (fun t ht=>by cases c:lq (s.1,s.2) t with|false=>rfl|true=>have:kC r o=true:=(by unfold kC;exact aK.2 ⟨s,hs,aK.2 ⟨t,ht,c⟩⟩);rw[hx]at this;cases this) hw h h1;rw[e];unfold lies at hk;rw[gT]at hk;by_cases g:place o m=k;{exact g};·have:((jT r).any fun s=>(mW s [o]).any fun m=>decide (place o m≠k))=true:=aK.2 ⟨s,hs,aK.2 ⟨m,hm,ag g⟩⟩;rw[hk]at this;cases this
theorem E7{p:j9}:∀(t:List Ring),qq t false p=true↔∀r∈t,place r p≠2:=by
 intro t;induction t with|nil=>simp[qq]|cons r t ih=>unfold qq;by_cases h:place r p=2;{simp[h]};·simp[h,ih]
def mv(v p:jS):jS:=(p.1+v.1,p.2+v.2)
structure RG(X:jX):Prop where
 kJ:∀r∈X.flatten,mZ r
 from_:∀r∈X.flatten,∀p∈r,∃q,(p,q)∈jT r
theorem NU{l:List jS}(h:l≠[]):∃p∈l,∀q∈l,q=p∨kS p q:=by induction l with|nil=>exact absurd rfl h|cons a t ih=>by_cases ht:t=[];{subst ht;exact⟨a,by simp,by simp⟩};·obtain⟨p,hp,hl⟩:=ih ht;rcases uE a p with k|k|k;{refine⟨a,by simp,fun q hq=>?_⟩;rcases aF.1 hq with e|hq;{exact .inl e};·rcases hl q hq with e|e;{rw[e];exact .inr k};·exact .inr (AG k e)};{refine⟨a,by simp,fun q hq=>?_⟩;rcases aF.1 hq with e|hq;{exact .inl e};·rw[k];exact hl q hq};·refine⟨p,by simp[hp],fun q hq=>?_⟩;rcases aF.1 hq with e|hq;{rw[e];exact .inr k};·exact hl q hq
theorem QT{other:jX}{both:List kF}{s:kF}{m:j9}:∀{l:List kF},pe other both s m l=none->∃t∈l,has t.1 t.2 m.1 m.2∧kX (along s) (along t)=0:=by
 intro l;induction l with|nil=>intro h;unfold pe at h;split at h<;>cases h|cons t l ih=>intro h;unfold pe at h;split at h;{rename_i hb;unfold tD at h;split at h;{cases h};·split at h;{cases h};·exact⟨t,by simp,bD hb,by omega⟩};·obtain⟨u,hu,k⟩:=ih h;exact⟨u,by simp[hu],k⟩
theorem kE{l:Poly}{s:kF}:s∈kg l↔∃r∈l,s∈jT r:=by
 unfold kg;rw[cB]
structure VR(r:Ring):Prop where
 shut:Shut r
 tw:twice r=false
 self:qD r=false
theorem xE{m:jX}(h:least m=0):o9 1 m=false∧o9 2 m=false∧o9 3 m=false∧o9 4 m=false∧oU m=false:=by
 unfold least at h;cases h1:o9 1 m<;>cases h2:o9 2 m<;>cases h3:o9 3 m<;>cases h4:o9 4 m<;>cases h5:oU m<;>simp_all
theorem zJ{m:jX}(hg:Good m)(h:o9 1 m=false):∀l∈m,∀r∈l,VR r:=by
 intro l hl r hr;have:(twice r||qD r)=false:=(by cases hx:(twice r||qD r)with|false=>rfl|true=>have:o9 1 m=true:=(by unfold o9;refine aK.2 ⟨l,hl,?_⟩;unfold qp simple;simp only[gW,fH];exact aK.2 ⟨r,hr,hx⟩);rw[h]at this;cases this);rw[dD]at this;exact⟨hg.shut l hl r hr,this.1,this.2⟩
theorem VR.kJ{r:Ring}(h:VR r):mZ r:=LF h.shut h.tw
theorem VR.meet{r:Ring}(h:VR r){i j:Nat}(hij:i<j)(hj:j+1<r.length):lN (jR r i,jR r (i+1)) (jR r j,jR r (j+1))=rU (r.length-1) i j:=by
 have hs:=h.self;cases hx:decide (lN (Jn (jT r) i) (Jn (jT r) j)≠rU (jT r).length i j)with|true=>have:qD r=true:=(by unfold qD;exact lO (i:=j) (by rw[ld];omega) (lO (i:=i) hij hx));rw[hs]at this;cases this|false=>have:=gj hx;rw[FY (by omega),FY (by omega),ld]at this;exact Decidable.not_not.1 this
theorem VR.adj{r:Ring}(h:VR r){i:Nat}(h1:1<=i)(hi:i<r.length):lN (jR r (i-1),jR r i) (jR r i,l9 r i)=1:=by
 have h4:=h.shut.len;unfold l9;by_cases hl:i+1<r.length;{rw[aB hl];have:=h.meet (i:=i-1) (j:=i) (by omega) hl;rw[show i-1+1=i by omega]at this;rw[this];unfold rU;rw[aB (by omega)]};·rw[ah hl,pI];have:=h.meet (i:=0) (j:=i-1) (by omega) (by omega);rw[show i-1+1=i by omega,h.shut.eq,show r.length-1=i by omega]at this;rw[this];unfold rU;rw[aB (by omega)]
theorem Vz{r:Ring}(h:Shut r){i:Nat}(hi:i<r.length):l9 r i∈r:=by
 have h4:=h.len;unfold l9;split;{rename_i k;exact bT (jY k)};·exact bT (jY (by omega))
theorem tG{r:Ring}{i:Nat}(hi:i<r.length):jR r i∈r:=bT (jY hi)
theorem NV{p x y:jS}(hx:kS p x)(hy:kS p y):l7 (p,x) (p,y)=3:=by
 unfold l7;simp only;rw[ah (fun k=>o7 k k)];split<;>first|rfl|rw[aB hy]|rw[aB hx]
theorem LJ{p x y:jS}(hx:kS x p)(hy:kS y p):l7 (x,p) (y,p)=3:=by
 unfold l7;simp only;rw[ah (c:=kS p p) (fun k=>o7 k k)];split<;>first|rfl|rw[aB hy]|rw[aB hx]
theorem VR.turns{r:Ring}(h:VR r){i:Nat}(h1:1<=i)(hi:i<r.length)(he:(∀p∈r,p=jR r i∨kS (jR r i) p)∨(∀p∈r,p=jR r i∨kS p (jR r i))):turns r i=true:=by
 unfold Vd.turns;rw[ag h1,dG,bF];intro hz;have VA:=h.adj h1 hi;have hl:=h.kJ;have s1:jR r (i-1)≠jR r i:=(by have:=hl (jR r (i-1),jR r (i-1+1)) (bT (lQ (jY (by omega)) (jY (by omega))));rw[show i-1+1=i by omega]at this;exact this);have s2:jR r i≠l9 r i:=(by have h4:=h.shut.len;unfold l9;split;{rename_i k;exact hl (jR r i,jR r (i+1)) (bT (lQ (jY (by omega)) (jY k)))};·have:=hl (jR r 0,jR r 1) (bT (lQ (jY (by omega)) (jY (by omega))));rw[h.shut.eq,show r.length-1=i by omega]at this;exact this);have cz:cr (jR r (i-1)) (jR r i) (l9 r i) 1=0:=(r6 _).1 hz;have NW:=tG (r:=r) (i:=i-1) (by omega);have hm2:=Vz h.shut hi;generalize jR r (i-1)=x at*;generalize l9 r i=y at*;generalize jR r i=p at*;have z1:=tZ x p;obtain⟨z3,z4⟩:=uh s1 z1 cz;have hm:lN (x,p) (p,y)=l7 (fwd x p) (fwd p y):=(by unfold lN Vd.meet;simp[z1,cz,z3,z4,sg]);rw[hm]at VA;rcases he with he|he;·have b1:kS p x:=(by rcases he x NW with e|e;exact absurd e s1;exact e);have b2:kS p y:=(by rcases he y hm2 with e|e;exact absurd e.symm s2;exact e);have e1:fwd x p=(p,x):=(by unfold fwd;rw[aB b1]);have e2:fwd p y=(p,y):=(by unfold fwd;rw[ah (fun k=>o7 b2 k)]);rw[e1,e2,NV b1 b2]at VA;omega
 ·have b1:kS x p:=(by rcases he x NW with e|e;exact absurd e s1;exact e);have b2:kS y p:=(by rcases he y hm2 with e|e;exact absurd e.symm s2;exact e);have e1:fwd x p=(x,p):=(by unfold fwd;rw[ah (fun k=>o7 b1 k)]);have e2:fwd p y=(y,p):=(by unfold fwd;rw[aB b2]);rw[e1,e2,LJ b1 b2]at VA;omega
theorem NX{l:List jS}(h:l≠[]):∃p∈l,∀q∈l,q=p∨kS q p:=by induction l with|nil=>exact absurd rfl h|cons a t ih=>by_cases ht:t=[];{subst ht;exact⟨a,by simp,by simp⟩};·obtain⟨p,hp,hl⟩:=ih ht;rcases uE p a with k|k|k;{refine⟨a,by simp,fun q hq=>?_⟩;rcases aF.1 hq with e|hq;{exact .inl e};·rcases hl q hq with e|e;{rw[e];exact .inr k};·exact .inr (AG e k)};{refine⟨a,by simp,fun q hq=>?_⟩;rcases aF.1 hq with e|hq;{exact .inl e};·rw[←k];exact hl q hq};·refine⟨p,by simp[hp],fun q hq=>?_⟩;rcases aF.1 hq with e|hq;{rw[e];exact .inr k};·exact hl q hq
theorem tH{r:Ring}(h:Shut r){p:jS}(hp:p∈r):∃i,1<=i∧i<r.length∧jR r i=p:=by
 obtain⟨i,hi,e⟩:=fO hp;have e':jR r i=p:=(by have:=jY hi;rw[aL hi,e]at this;exact(aY this).symm);have h4:=h.len;by_cases h0:i=0;{exact⟨r.length-1,by omega,by omega,by rw[←h.eq,←h0];exact e'⟩};·exact⟨i,by omega,hi,e'⟩
theorem zK{r:Ring}{p:jS}:p∈jU r↔∃i,i<r.length∧Vd.turns r i=true∧jR r i=p:=by
 unfold jU lP;simp only[aJ,bM,bg];constructor;{rintro⟨i,⟨h1,h2⟩,h3⟩;exact⟨i,h1,h2,h3⟩};·rintro⟨i,h1,h2,h3⟩;exact⟨i,⟨h1,h2⟩,h3⟩
theorem VB{f:Nat->jS}{l:List Nat}(h:l.Nodup)(hf:∀x∈l,∀y∈l,f x=f y->x=y):(l.map f).Nodup:=by induction l with|nil=>exact gi|cons a t ih=>rw[b9]at h;rw[cU,b9];refine⟨?_,ih h.2 fun x hx y hy=>hf x (by simp[hx]) y (by simp[hy])⟩;intro hm;obtain⟨b,hb,e⟩:=aJ.1 hm;have:=hf b (by simp[hb]) a (by simp) e;exact h.1 (this▸hb)
theorem VR.uH{r:Ring}(h:VR r):(jU r).Nodup:=by
 unfold jU lP;refine VB (List.Pairwise.filter _ ic) ?_;intro x hx y hy e;have hx1:=bM.1 hx;have hy1:=bM.1 hy;have hx2:=bg.1 hx1.1;have VC:=bg.1 hy1.1;have hx3:1<=x:=(by have:=hx1.2;unfold Vd.turns at this;simp only[bN,bF]at this;exact this.1);have hy3:1<=y:=(by have:=hy1.2;unfold Vd.turns at this;simp only[bN,bF]at this;exact this.1);rcases eU x y with k|k|k;{have:twice r=true:=nX.2 ⟨x,y,hx3,k,VC,e⟩;rw[h.tw]at this;cases this};{exact k};·have:twice r=true:=nX.2 ⟨y,x,hy3,k,hx2,e.symm⟩;rw[h.tw]at this;cases this
theorem VR.xh{r:Ring}(h:VR r):2<=(jU r).length:=by
 have hne:r≠[]:=(by intro e;have:=h.shut.len;rw[e]at this;simp at this);obtain⟨p,hp,NY⟩:=NU hne;obtain⟨q,hq,hql⟩:=NX hne;obtain⟨i,i1,i2,i3⟩:=tH h.shut hp;obtain⟨j,j1,j2,j3⟩:=tH h.shut hq;have m1:p∈jU r:=zK.2 ⟨i,i2,h.turns i1 i2 (.inl (by rw[i3];exact NY)),i3⟩;have m2:q∈jU r:=zK.2 ⟨j,j2,h.turns j1 j2 (.inr (by rw[j3];exact hql)),j3⟩;have hpq:p≠q:=(by intro e;have h4:=h.shut.len;have h0:=tG (r:=r) (i:=1) (by omega);have h2:=tG (r:=r) (i:=2) (by omega);have hl:=h.kJ (jR r 1,jR r 2) (bT (lQ (jY (by omega)) (jY (by omega))));have one:∀x∈r,x=p:=(by intro x hx;rcases NY x hx with k|k;{exact k};·rcases hql x hx with k2|k2;{rw[k2,e]};·rw[←e]at k2;exact(o7 k k2).elim);exact hl (by rw[one _ h0,one _ h2]));match hc:jU r with|[]=>rw[hc]at m1;cases m1|[x]=>rw[hc]at m1 m2;simp at m1 m2;exact absurd (m1.trans m2.symm) hpq|x::y::t=>simp
theorem yI{r:Ring}(h:0<(jU r).length)(b:Bool):(j6 r b).length=(jU r).length+1:=by
 unfold j6;rw[ah (by omega)];simp
theorem uP{r:Ring}(h:0<(jU r).length)(b:Bool){i:Nat}(hi:i<(jU r).length+1):jR (j6 r b) i=jR (jU r) ((kN (jU r)+i*sR (jU r) b)%(jU r).length):=by
 unfold j6;rw[ah (by omega)];unfold jR;rw[aC,aI,cK hi];rfl
theorem GI(v:Ring)(b:Bool):sR v b=1∨sR v b=v.length-1:=by
 unfold sR;split;exact .inl rfl;exact .inr rfl
theorem YL{v:Ring}(h:v.Nodup){i j:Nat}(hi:i<v.length)(hj:j<v.length)(e:jR v i=jR v j):i=j:=by
 have h1:=jY hi;have h2:=jY hj;rw[e,←h2]at h1;exact(List.getElem?_inj hi h).1 h1
theorem YM{a k s n:Nat}(hn:2<=n)(hs:s=1∨s=n-1):(a+k*s)%n≠(a+(k+1)*s)%n:=by
 have e:a+(k+1)*s=a+k*s+s:=(by rw[Nat.add_mul];omega);rw[e];generalize a+k*s=x;intro h;have h1:(x+s)%n=(x%n+s)%n:=(eZ x n s).symm;rw[h1]at h;have h2:=cE x (show 0<n by omega);generalize x%n=y at*;rcases hs with rfl|rfl;{by_cases h3:y+1<n;{rw[bQ h3]at h;omega};·rw[show y+1=n by omega,eV]at h;omega};·by_cases h3:y=0;{rw[h3,bZ,bQ (by omega)]at h;omega};·rw[Nat.mod_eq_sub_mod (by omega),bQ (by omega)]at h;omega
theorem VR.VD{r:Ring}(h:VR r)(b:Bool):mZ (j6 r b):=by
 have h2:=h.xh;intro s hs;obtain⟨i,hi,rfl⟩:=qn hs;rw[yI (by omega)]at hi;rw[uP (by omega) b (by omega),uP (by omega) b hi];intro e;have:=YL h.uH (cE _ (by omega)) (cE _ (by omega)) e;exact YM h2 (GI _ b) this
theorem VE(m:jX):∀(is:List Nat)(o:jX),(∀i∈is,i<m.length)->∀l∈is.foldl (QE m) o,l∈m∨l∈o:=by
 intro is;induction is with|nil=>intro o _ l hl;exact .inr hl|cons i t ih=>intro o hi l hl;rw[eK]at hl;rcases ih _ (fun x hx=>hi x (by simp[hx])) l hl with h|h;{exact .inl h};·unfold QE at h;rcases List.mem_or_eq_of_mem_set h with h|h;{exact .inr h};·exact .inl (h▸j7 (hi i (by simp)))
theorem E8{m:jX}{l:Poly}(h:l∈mP m):l∈m∨l=[]:=by
 unfold mP Yx at h;rcases VE m _ _ (fun i hi=>bg.1 hi) l h with h|h;{exact .inl h};·exact .inr (List.eq_of_mem_replicate h)
theorem GJ{m:jX}{r:Ring}(h:r∈(form m).flatten):∃l∈m,∃o∈l,∃b,r=j6 o b:=by
 obtain⟨l,hl,hr⟩:=aT.1 h;unfold form at hl;rcases E8 hl with h1|h1;{obtain⟨l0,h0,rfl⟩:=aJ.1 h1;refine⟨l0,h0,?_⟩;cases l0 with|nil=>cases hr|cons o t=>rcases aF.1 hr with e|e;{exact⟨o,by simp,true,e⟩};·obtain⟨l1,h2,h3⟩:=aT.1 e;rcases E8 h2 with h4|h4;{obtain⟨o1,h5,rfl⟩:=aJ.1 h4;exact⟨o1,by simp[h5],false,by simpa using h3⟩};·rw[h4]at h3;cases h3};·rw[h1]at hr;cases hr
theorem yJ{a b z:jS}(h:has a b z 1):¬kS z (fwd a b).1∧¬kS (fwd a b).2 z:=by
 obtain⟨h0,h1,h2⟩:=h;have key:∀{a b:jS},¬kS b a->cr a b z 1=0->nL (a.1*1) z.1 (b.1*1)->nL (a.2*1) z.2 (b.2*1)->¬kS z a∧¬kS b z:=(by intro a b hab h0 h1 h2;unfold cr at h0;unfold nL at h1 h2;unfold kS at*;simp only[aX]at h0 h1 h2;by_cases e:a.1=b.1;{omega};·have hlt:a.1<b.1:=(by omega);constructor;{rintro(g|⟨g1,g2⟩);{omega};·rw[g1,jy,aW,iZ]at h0;rcases aU.1 h0 with q|q<;>omega};·rintro(g|⟨g1,g2⟩);{omega};·have:(b.1-a.1)*(z.2-b.2)=0:=(by have:(b.1-a.1)*(z.2-b.2)=(b.1-a.1)*(z.2-a.2)-(b.2-a.2)*(z.1-a.1):=(by rw[←g1];grind);omega);rcases aU.1 this with q|q<;>omega);unfold fwd;by_cases hb:kS b a;{rw[aB hb];exact key (a:=b) (b:=a) (fun h=>o7 hb h) (by rw[oD,h0];rfl) (by unfold nL at*;omega) (by unfold nL at*;omega)};·rw[ah hb];exact key hb h0 h1 h2
theorem VF{s t:kF}{z:jS}(h1:¬kS z s.1)(h2:¬kS s.2 z)(h3:¬kS z t.1)(h4:¬kS t.2 z):l7 s t≠0:=by
 unfold l7;have f:¬kS z (if kS s.1 t.1 then t.1 else s.1):=(by split<;>assumption);have l:¬kS (if kS t.2 s.2 then t.2 else s.2) z:=(by split<;>assumption);generalize(if kS s.1 t.1 then t.1 else s.1)=F at*;generalize(if kS t.2 s.2 then t.2 else s.2)=L at*;by_cases c1:kS F L;{simp[c1]};·by_cases c2:F=L;{subst c2;simp[c1]};·exfalso;rcases uE F L with g|g|g;{exact c1 g};{exact c2 g};·unfold kS at*;omega
theorem GK{s t:kF}{z z':jS}(hz:kS z z')(h1:¬kS z s.1)(h4:¬kS z t.1)(k2:¬kS s.2 z')(k4:¬kS t.2 z'):l7 s t=3:=by
 unfold l7;have f:¬kS z (if kS s.1 t.1 then t.1 else s.1):=(by split<;>assumption);have l:¬kS (if kS t.2 s.2 then t.2 else s.2) z':=(by split<;>assumption);generalize(if kS s.1 t.1 then t.1 else s.1)=F at*;generalize(if kS t.2 s.2 then t.2 else s.2)=L at*;have:kS F L:=(by unfold kS at*;omega);simp[this]
theorem JX{x y p q k z:Int}(hk:0<k)(hp:0<=p)(hq:0<=q)(hs:0<p+q)(e:k*z=p*x+q*y)(hz:z=0):¬(0<x*y):=by
 intro h;rw[hz,aW]at e;rcases(zI x y).2 h with⟨g1,g2⟩|⟨g1,g2⟩;{by_cases p1:0<p;{have:=pp p1 g1;have:=p0 hq (bK g2);omega};·have:=p0 hp (bK g1);have:=pp (show 0<q by omega) g2;omega};·by_cases p1:0<p;{have:=pn p1 g1;have:=m0 hq (bK g2);omega};·have:=m0 hp (bK g1);have:=pn (show 0<q by omega) g2;omega
theorem F6(x y:Int):sg x*sg y>0↔0<x*y:=by
 rcases kW x with⟨h,e⟩|⟨h,e⟩|⟨h,e⟩<;>rcases kW y with⟨k,f⟩|⟨k,f⟩|⟨k,f⟩<;>rw[e,f];{have:=pp h k;omega};{rw[k];simp};{have:=pn h k;omega};{rw[h];simp};{rw[h];simp};{rw[h];simp};{have:=np h k;omega};{rw[k];simp};·have:=TJ h k;omega
theorem qs{a b c d z:jS}(hab:a≠b)(hcd:c≠d)(h1:has a b z 1)(h2:has c d z 1):meet a b c d≠0:=by
 have k1:=lR hab;have k2:=lR hcd;obtain⟨p1,p2⟩:=l8 hab h1;obtain⟨q1,q2⟩:=l8 hcd h2;have e1:=wF h2.1 a b;have e2:=wF h1.1 c d;have n1:=JX k2 (by omega) q1 (by omega) e1 h1.1;have n2:=JX k1 (by omega) p1 (by omega) e2 h2.1;unfold meet;simp only;split;{obtain⟨f1,f2⟩:=yJ h1;obtain⟨f3,f4⟩:=yJ h2;exact VF f1 f2 f3 f4};·rw[ah (by rw[F6,F6];omega)];split<;>omega
theorem zL{a b z z':jS}(hz:z≠z')(h1:cr a b z 1=0)(h2:cr a b z' 1=0){c:jS}(h3:cr z z' c 1=0)(hab:a≠b):cr a b c 1=0:=by
 have hk:=lR hab;have e:=rQ h1 h2 c;rw[h3,aW]at e;rcases aU.1 e.symm with q|q;{exact absurd (rH hab h1 h2 (by omega)) hz};·exact q
theorem F7{a b z z':jS}(hz:z≠z')(hab:a≠b)(h1:cr a b z 1=0)(h2:cr a b z' 1=0):cr z z' a 1=0∧cr z z' b 1=0:=by
 have hk:=lR hab;have e1:=rQ h1 h2 a;have e2:=rQ h1 h2 b;rw[uM,aW]at e1;rw[tZ,aW]at e2;constructor;{rcases aU.1 e1 with q|q<;>omega};·rcases aU.1 e2 with q|q<;>omega
theorem nD{a b c d z z':jS}(hab:a≠b)(hcd:c≠d)(hz:z≠z')(h1:has a b z 1)(h2:has c d z 1)(h3:has a b z' 1)(h4:has c d z' 1):meet a b c d=3:=by
 obtain⟨x1,x2⟩:=F7 hz hab h1.1 h3.1;obtain⟨y1,y2⟩:=F7 hz hcd h2.1 h4.1;have z1:cr a b c 1=0:=zL hz h1.1 h3.1 y1 hab;have z2:cr a b d 1=0:=zL hz h1.1 h3.1 y2 hab;have z3:cr c d a 1=0:=zL hz h2.1 h4.1 x1 hcd;have z4:cr c d b 1=0:=zL hz h2.1 h4.1 x2 hcd;unfold meet;simp only[z1,z2,z3,z4];rw[aB (by simp[sg])];obtain⟨f1,f2⟩:=yJ h1;obtain⟨f3,f4⟩:=yJ h2;obtain⟨g1,g2⟩:=yJ h3;obtain⟨g3,g4⟩:=yJ h4;rcases uE z z' with h|h|h;{exact GK h f1 f3 g2 g4};{exact absurd h hz};·exact GK h g1 g3 f2 f4
theorem oh(p1:Ring)(a b:jS)(p2:Ring):jT (p1++a::b::p2)=jT (p1++[a])++(a,b)::jT (b::p2):=by induction p1 with|nil=>rfl|cons x p1 ih=>cases p1 with|nil=>rfl|cons y p1=>rw[bE,bE,mB,bE,bE,mB];rw[bE,bE]at ih;rw[ih];rfl
def tn(p1:Ring)(a b:jS)(p2:Ring):List kF:=jT (p1++[a])++jT (b::p2)
theorem mE{p1:Ring}{a b:jS}{p2:Ring}{s:kF}:s∈jT (p1++a::b::p2)↔s=(a,b)∨s∈tn p1 a b p2:=by
 rw[oh];unfold tn;simp only[aj,aF];constructor;{rintro(h|h|h);{exact .inr (.inl h)};{exact .inl h};·exact .inr (.inr h)};·rintro(h|h|h);{exact .inr (.inl h)};{exact .inl h};·exact .inr (.inr h)
theorem NZ(p1:Ring)(a b:jS)(p2:Ring)(x:j9):kK (jT (p1++a::b::p2)) x=(qB a b x.1 x.2^^kK (tn p1 a b p2) x):=by
 rw[oh,lY,kV];unfold tn;rw[lY];generalize kK (jT (p1++[a])) x=u;generalize kK (jT (b::p2)) x=v;generalize qB a b x.1 x.2=w;cases u<;>cases v<;>cases w<;>rfl
theorem Eb{p1:Ring}{a b:jS}{p2:Ring}(hr:Ends (p1++a::b::p2)){x m:jS}(h:∀s∈tn p1 a b p2,E5 x m s.1 s.2)(hx:∀s∈tn p1 a b p2,¬Xs x m s.1 s.2):(kK (tn p1 a b p2) (x,1)^^kK (tn p1 a b p2) (m,1))=(xD x m a^^xD x m b):=by
 unfold tn at*;obtain⟨u,t,e⟩:∃u t,p1++[a]=u::t:=(by cases p1 with|nil=>exact⟨a,[],rfl⟩|cons y p1=>exact⟨y,p1++[a],rfl⟩);have k1:=BJ x m t u (fun s hs=>h s (by rw[aj,e];exact .inl hs));have k2:=BJ x m p2 b (fun s hs=>h s (by rw[aj];exact .inr hs));have l1:(u::t).getLast (by simp)=a:=(by have:(p1++[a]).getLast (by simp)=a:=(by simp);simpa only[e]using this);have l2:u=(b::p2).getLast (by simp):=(by unfold Ends at hr;have h1:(p1++a::b::p2).head?=some u:=(by have:p1++a::b::p2=(p1++[a])++b::p2:=(by simp);rw[this,e];rfl);have h2:(p1++a::b::p2).getLast?=some ((b::p2).getLast (by simp)):=(by rw[fh,dM,fF (by simp)];rfl);rw[h1,h2]at hr;exact aY hr);rw[zH (fun s hs=>hx s (by rw[aj,e];exact .inl hs)),l1]at k1;rw[zH (fun s hs=>hx s (by rw[aj];exact .inr hs)),←l2]at k2;rw[lY,lY,e];revert k1 k2;generalize kK (jT (u::t)) (x,1)=x1;generalize kK (jT (u::t)) (m,1)=x2;generalize kK (jT (b::p2)) (x,1)=x3;generalize kK (jT (b::p2)) (m,1)=x4;generalize xD x m u=x5;generalize xD x m a=x6;generalize xD x m b=x7;revert x1 x2 x3 x4 x5 x6 x7;decide
def yK(a b:jS):Bool:=decide (a.2<b.2∨(a.2=b.2∧b.1<a.1))
theorem GL{a b:jS}(h:a≠b):yK b a=!yK a b:=by
 unfold yK;by_cases c:a.2<b.2∨(a.2=b.2∧b.1<a.1);{rw[ag c,aA (by omega)];rfl};·rw[aA c,ag];{rfl};·by_cases e:a.2=b.2;{have:a.1≠b.1:=fun q=>h (cN q e);omega};·omega
structure oK(a b m:jS):Prop where
 on:has a b m 1
 na:m≠a
 nb:m≠b
theorem pV{a b m:jS}(hab:a≠b)(h:oK a b m):0<pos a b m∧pos a b m<kk a b:=by
 obtain⟨h1,h2⟩:=l8 hab h.on;constructor;{rcases fG h1 with g|g;{exact g};·exact absurd (rH hab h.on.1 (uM a b) (by rw[nG];omega)) h.na};·rcases fG h2 with g|g;{exact g};·exact absurd (rH hab h.on.1 (tZ a b) (by rw[o6];omega)) h.nb
theorem GM{a b m x:jS}(hab:a≠b)(h:oK a b m):kk a b*cr x m a 1=-(pos a b m)*cr a b x 1∧kk a b*cr x m b 1=(kk a b-pos a b m)*cr a b x 1:=by
 obtain⟨e1,e2⟩:=CV h.on.1;have h0:=h.on.1;have f:cr a b x 1=(m.1-x.1)*(b.2-a.2)-(m.2-x.2)*(b.1-a.1):=(by have:=TP h0 x;rw[←this];grind);have g1:cr x m a 1=(m.1-x.1)*(a.2-m.2)-(m.2-x.2)*(a.1-m.1):=(by unfold cr;grind);have g2:cr x m b 1=(m.1-x.1)*(b.2-m.2)-(m.2-x.2)*(b.1-m.1):=(by unfold cr;grind);have i1:kk a b*(a.2-m.2)=-(pos a b m)*(b.2-a.2):=(by grind);have i2:kk a b*(a.1-m.1)=-(pos a b m)*(b.1-a.1):=(by grind);have i3:kk a b*(b.2-m.2)=(kk a b-pos a b m)*(b.2-a.2):=(by grind);have i4:kk a b*(b.1-m.1)=(kk a b-pos a b m)*(b.1-a.1):=(by grind);rw[f,g1,g2];generalize kk a b=K at*;generalize pos a b m=D at*;generalize m.1-x.1=u at*;generalize m.2-x.2=v at*;constructor;{have:K*(u*(a.2-m.2)-v*(a.1-m.1))=u*(K*(a.2-m.2))-v*(K*(a.1-m.1)):=(by grind);rw[this,i1,i2];grind};·have:K*(u*(b.2-m.2)-v*(b.1-m.1))=u*(K*(b.2-m.2))-v*(K*(b.1-m.1)):=(by grind);rw[this,i3,i4];grind
theorem TR{a b m:jS}(hab:a≠b)(h:oK a b m):(a.2<m.2∧m.2<b.2)∨(b.2<m.2∧m.2<a.2)∨(a.2=m.2∧m.2=b.2):=by
 have hk:=lR hab;obtain⟨p1,p2⟩:=pV hab h;obtain⟨e1,e2⟩:=CV h.on.1;have i1:kk a b*(m.2-a.2)=pos a b m*(b.2-a.2):=(by grind);have i3:kk a b*(b.2-m.2)=(kk a b-pos a b m)*(b.2-a.2):=(by grind);have s1:=kZ hk i1;have s2:=kZ hk i3;have t1:=kZ p1 (rfl:pos a b m*(b.2-a.2)=_);have t2:=kZ (show 0<kk a b-pos a b m by omega) (rfl:(kk a b-pos a b m)*(b.2-a.2)=_);omega
theorem GN{a b m x:jS}(hab:a≠b)(h:oK a b m)(hx:0<cr a b x 1):(qB a b x 1^^(xD x m a^^xD x m b))=yK a b:=by
 have hk:=lR hab;obtain⟨p1,p2⟩:=pV hab h;obtain⟨e1,e2⟩:=GM (x:=x) hab h;have s1:=kZ hk e1;have s2:=kZ hk e2;have t1:-(pos a b m)*cr a b x 1<0:=np (by omega) hx;have t2:0<(kk a b-pos a b m)*cr a b x 1:=pp (by omega) hx;have ca:cr x m a 1<0:=s1.2.1.2 t1;have cb:0<cr x m b 1:=s2.1.2 t2;have ca':cr m x a 1=-cr x m a 1:=oD x m a 1;have cb':cr m x b 1=-cr x m b 1:=oD x m b 1;have hy:=TR hab h;rw[rJ];unfold xD dR yK;have flat:a.2=b.2->cr a b x 1=(b.1-a.1)*(x.2-a.2):=(by intro e;unfold cr;rw[e];simp);have hf:a.2=b.2->(b.1<a.1↔x.2<a.2)∧x.2≠a.2:=(by intro e;have:=flat e;rw[this]at hx;have:=(zI (b.1-a.1) (x.2-a.2)).2 hx;omega);clear e1 e2 s1 s2 t1 t2 flat;rcases cA x.2 m.2 with g|g|g;{rw[aB g,aB g];by_cases c1:a.2-x.2<=0∧0<b.2-x.2∧0<cr a b x 1∨b.2-x.2<=0∧0<a.2-x.2∧cr a b x 1<0<;>by_cases c2:x.2<a.2∧a.2<=m.2∧cr x m a 1<0<;>by_cases c3:x.2<b.2∧b.2<=m.2∧cr x m b 1<0<;>by_cases c4:a.2<b.2∨(a.2=b.2∧b.1<a.1)<;>first|(simp only[c1,c2,c3,c4,gx,fT];rfl)|(exfalso;omega)};·rw[ah (by omega),ah (by omega),ah (by omega),ah (by omega)];by_cases c1:a.2-x.2<=0∧0<b.2-x.2∧0<cr a b x 1∨b.2-x.2<=0∧0<a.2-x.2∧cr a b x 1<0<;>by_cases c4:a.2<b.2∨(a.2=b.2∧b.1<a.1)<;>first|(simp only[c1,c4,gx,fT];rfl)|(exfalso;omega)
 ·rw[ah (by omega),aB g,ah (by omega),aB g];by_cases c1:a.2-x.2<=0∧0<b.2-x.2∧0<cr a b x 1∨b.2-x.2<=0∧0<a.2-x.2∧cr a b x 1<0<;>by_cases c2:m.2<a.2∧a.2<=x.2∧cr m x a 1<0<;>by_cases c3:m.2<b.2∧b.2<=x.2∧cr m x b 1<0<;>by_cases c4:a.2<b.2∨(a.2=b.2∧b.1<a.1)<;>first|(simp only[c1,c2,c3,c4,gx,fT];rfl)|(exfalso;omega)
theorem GO(a b x:jS):qB a b x 1=qB b a x 1:=by
 rw[rJ,rJ,oD a b x 1];exact bC.2 (by omega)
theorem N3{a b m x:jS}(hab:a≠b)(h:oK a b m)(hx:cr a b x 1<0):(qB a b x 1^^(xD x m a^^xD x m b))=!yK a b:=by
 have:=GN (a:=b) (b:=a) (m:=m) (x:=x) (dS hab) ⟨mL.1 h.on,h.nb,h.na⟩ (by rw[oD];omega);rw[←GL hab,←this,GO,Bool.xor_comm (xD x m a)]
theorem vT{p1 p2:Ring}{i:Nat}(h:i<p1.length):jR (p1++p2) i=jR p1 i:=by
 unfold jR;rw[aC,aC,bh h]
theorem sU{p1 p2:Ring}(i:Nat):jR (p1++p2) (p1.length+i)=jR p2 i:=by
 unfold jR;rw[aC,aC,aN (by omega),show p1.length+i-p1.length=i by omega]
theorem YN{p1:Ring}{a b:jS}{p2:Ring}{s:kF}(h:s∈tn p1 a b p2):∃j,j≠p1.length∧j+1<(p1++a::b::p2).length∧s=(jR (p1++a::b::p2) j,jR (p1++a::b::p2) (j+1)):=by
 unfold tn at h;rcases aj.1 h with h|h;{obtain⟨j,hj,e⟩:=qn h;have hj':j+1<p1.length+1:=(by simpa using hj);refine⟨j,by omega,by simp;omega,?_⟩;have e2:p1++a::b::p2=(p1++[a])++b::p2:=(by simp);rw[e2,vT (p1:=p1++[a]) (i:=j) (by simp;omega),vT (p1:=p1++[a]) (i:=j+1) (by simp;omega)];exact e};·obtain⟨j,hj,e⟩:=qn h;refine⟨p1.length+(1+j),by omega,by simp at hj⊢;omega,?_⟩;have e2:p1++a::b::p2=(p1++[a])++b::p2:=(by simp);have l1:p1.length+(1+j)=(p1++[a]).length+j:=(by simp;omega);rw[e2,l1,sU,show(p1++[a]).length+j+1=(p1++[a]).length+(j+1)by omega,sU];exact e
theorem TS(p1:Ring)(a b:jS)(p2:Ring):jR (p1++a::b::p2) p1.length=a∧jR (p1++a::b::p2) (p1.length+1)=b:=by
 constructor;{have:=sU (p1:=p1) (p2:=a::b::p2) 0;simpa[jR]using this};·rw[sU 1];rfl
theorem VR.other{p1:Ring}{a b:jS}{p2:Ring}(h:VR (p1++a::b::p2)){s:kF}(hs:s∈tn p1 a b p2):Vd.meet a b s.1 s.2=0∨(Vd.meet a b s.1 s.2=1∧(s.1=b∨s.2=a)):=by
 obtain⟨j,hj,hl,rfl⟩:=YN hs;obtain⟨ha,hb⟩:=TS p1 a b p2;have hlen:(p1++a::b::p2).length=p1.length+2+p2.length:=(by simp;omega);have heq:=h.shut.eq;rcases bI j p1.length with g|g;{have k:=h.meet (i:=j) (j:=p1.length) g (by omega);rw[ha,hb]at k;unfold lN at k;simp only at k;rw[D6];simp only;rw[k];unfold rU;by_cases c:j+1=p1.length∨(j=0∧p1.length+1=(p1++a::b::p2).length-1);{rw[aB c];refine .inr ⟨rfl,?_⟩;rcases c with c|⟨c,c'⟩;{right;rw[c];exact ha};·left;rw[c,heq,←c'];exact hb};·rw[ah c];exact .inl rfl};·have k:=h.meet (i:=p1.length) (j:=j) (by omega) hl;rw[ha,hb]at k;unfold lN at k;simp only at k⊢;rw[k];unfold rU;by_cases c:p1.length+1=j∨(p1.length=0∧j+1=(p1++a::b::p2).length-1);{rw[aB c];refine .inr ⟨rfl,?_⟩;rcases c with c|⟨c,c'⟩;{left;rw[←c];exact hb};·right;rw[c',←heq,←c];exact ha};·rw[ah c];exact .inl rfl
theorem VR.here{p1:Ring}{a b:jS}{p2:Ring}(h:VR (p1++a::b::p2)):a≠b:=h.kJ (a,b) (mE.2 (.inl rfl))
theorem VR.q9{p1:Ring}{a b:jS}{p2:Ring}(h:VR (p1++a::b::p2)){s:kF}(hs:s∈tn p1 a b p2):s.1≠s.2:=h.kJ s (mE.2 (.inr hs))
theorem VR.off{p1:Ring}{a b:jS}{p2:Ring}(h:VR (p1++a::b::p2)){s:kF}(hs:s∈tn p1 a b p2){m:jS}(hm:oK a b m):¬has s.1 s.2 m 1:=by
 intro hh;rcases h.other hs with e|⟨e,c⟩;{exact qs h.here (h.q9 hs) hm.on hh e};·rcases c with c|c;{have:=nD h.here (h.q9 hs) hm.nb hm.on hh (oO a b) (by rw[←c];exact qm _ _);omega};·have:=nD h.here (h.q9 hs) hm.na hm.on hh (qm a b) (by rw[←c];exact oO _ _);omega
theorem YO{a b m m' c:jS}(hab:a≠b)(hm:oK a b m)(hm':oK a b m')(h:has m m' c 1):oK a b c:=by
 by_cases e:m=m';{subst e;have:c=m:=(by have h1:=h.2.1;have h2:=h.2.2;unfold nL at h1 h2;exact cN (by omega) (by omega));rw[this];exact hm};·obtain⟨h0,hb⟩:=tE hab e hm.on.1 hm'.on.1 h;obtain⟨a1,a2⟩:=pV hab hm;obtain⟨b1,b2⟩:=pV hab hm';have q1:0<pos a b c∧pos a b c<kk a b:=(by unfold nL at hb;omega);refine⟨pU hab h0 (by omega) (by omega),?_,?_⟩;{rintro rfl;rw[nG]at q1;omega};·rintro rfl;rw[o6]at q1;omega
theorem VR.along{p1:Ring}{a b:jS}{p2:Ring}(h:VR (p1++a::b::p2)){m m':jS}(hm:oK a b m)(hm':oK a b m'){s:kF}(hs:s∈tn p1 a b p2):E5 m m' s.1 s.2∧¬Xs m m' s.1 s.2:=by
 have hab:=h.here;have hk:=lR hab;refine⟨⟨fun k=>h.off hs (YO hab hm hm' k) (qm _ _),fun k=>h.off hs (YO hab hm hm' k) (oO _ _),h.off hs hm,h.off hs hm'⟩,?_⟩;rintro⟨o1,o2⟩;obtain⟨a1,a2⟩:=pV hab hm;obtain⟨b1,b2⟩:=pV hab hm';have e1:=wF hm.on.1 s.1 s.2;have e2:=wF hm'.on.1 s.1 s.2;have o3:=GH (by omega) (by omega) (by omega) (by omega) hk e1 e2 o2;have d1:=rQ hm.on.1 hm'.on.1 s.1;have d2:=rQ hm.on.1 hm'.on.1 s.2;have s1:=kZ hk d1;have s2:=kZ hk d2;have m1:=zI (pos a b m'-pos a b m) (cr a b s.1 1);have m2:=zI (pos a b m'-pos a b m) (cr a b s.2 1);have o4:pT (cr a b s.1 1) (cr a b s.2 1):=(by unfold pT at o1⊢;omega);have:=CW o4 o3;rcases h.other hs with e|⟨e,-⟩<;>omega
theorem C3{p q v:jS}(h:cr p q v 1=0):xD p q v=false:=by
 unfold xD dR;rw[oD p q v 1,h];simp
def Lh(p1:Ring)(a b:jS)(p2:Ring)(m:j9):Bool:=kK (tn p1 a b p2) m^^yK a b
theorem VR.ada{p1:Ring}{a b:jS}{p2:Ring}(h:VR (p1++a::b::p2)){m m':jS}(hm:oK a b m)(hm':oK a b m'):Lh p1 a b p2 (m,1)=Lh p1 a b p2 (m',1):=by
 have k:=Eb (kD h.shut) (x:=m) (m:=m') (fun s hs=>(h.along hm hm' hs).1) (fun s hs=>(h.along hm hm' hs).2);have hab:=h.here;have hk:=lR hab;have z1:cr m m' a 1=0:=(by have:=rQ hm.on.1 hm'.on.1 a;rw[uM,aW]at this;rcases aU.1 this with q|q<;>omega);have z2:cr m m' b 1=0:=(by have:=rQ hm.on.1 hm'.on.1 b;rw[tZ,aW]at this;rcases aU.1 this with q|q<;>omega);rw[C3 z1,C3 z2]at k;unfold Lh;revert k;generalize kK (tn p1 a b p2) (m,1)=x;generalize kK (tn p1 a b p2) (m',1)=y;generalize yK a b=z;cases x<;>cases y<;>cases z<;>simp
structure Bes(p1:Ring)(a b:jS)(p2:Ring)(m x:jS):Prop where
 ins:oK a b m
 off:∀s∈tn p1 a b p2,E5 x m s.1 s.2
 nx:∀s∈tn p1 a b p2,¬Xs x m s.1 s.2
theorem beside{p1:Ring}{a b:jS}{p2:Ring}(hr:Ends (p1++a::b::p2))(hab:a≠b){m x:jS}(h:Bes p1 a b p2 m x)(hx:cr a b x 1≠0):place (p1++a::b::p2) (x,1)=if(0<cr a b x 1↔Lh p1 a b p2 (m,1)=true)then 2 else 0:=by
 have k:=Eb hr h.off h.nx;have hn:∀s∈jT (p1++a::b::p2),¬has s.1 s.2 x 1:=(by intro s hs;rcases mE.1 hs with rfl|hs;{exact fun q=>hx q.1};·exact(h.off s hs).hp);rw[nE (p:=(x,1)) hn,NZ];unfold Lh;rcases e8 hx with g|g;{have l:=N3 hab h.ins g;have ng:¬0<cr a b x 1:=(by omega);simp only[ng,false_iff];revert k l;generalize kK (tn p1 a b p2) (x,1)=x1;generalize kK (tn p1 a b p2) (m,1)=x2;generalize xD x m a=x3;generalize xD x m b=x4;generalize qB a b x 1=x5;generalize yK a b=x6;revert x1 x2 x3 x4 x5 x6;decide};·have l:=GN hab h.ins g;simp only[g,true_iff];revert k l;generalize kK (tn p1 a b p2) (x,1)=x1;generalize kK (tn p1 a b p2) (m,1)=x2;generalize xD x m a=x3;generalize xD x m b=x4;generalize qB a b x 1=x5;generalize yK a b=x6;revert x1 x2 x3 x4 x5 x6;decide
theorem VG{a b c m m':jS}(hab:a≠b)(hbc:b≠c)(hm:oK a b m)(hm':oK b c m')(hs:0<cr a b c 1):0<cr b c m 1∧0<cr a b m' 1∧0<cr m m' a 1∧0<cr m m' c 1:=by
 have k1:=lR hab;have k2:=lR hbc;obtain⟨a1,a2⟩:=pV hab hm;obtain⟨b1,b2⟩:=pV hbc hm';have e1:=wF hm.on.1 b c;have e2:=wF hm'.on.1 a b;have r1:cr b c a 1=cr a b c 1:=(by unfold cr;grind);rw[uM,aW,dB,r1]at e1;rw[tZ,aW,ja]at e2;have q1:0<cr b c m 1:=(kZ k1 e1).1.2 (pp (by omega) hs);have q2:0<cr a b m' 1:=(kZ k2 e2).1.2 (pp (by omega) hs);refine⟨q1,q2,?_,?_⟩;{have f:=(GM (x:=m') hab hm).1;rw[oD m m' a 1]at f;have:kk a b*cr m m' a 1=pos a b m*cr a b m' 1:=(by have e:kk a b*cr m m' a 1=-(kk a b*-cr m m' a 1):=(by grind);rw[e,f];grind);exact(kZ k1 this).1.2 (pp a1 q2)};·have f:=(GM (x:=m) hbc hm').2;exact(kZ k2 f).1.2 (pp (by omega) q1)
theorem N4{a b c m m':jS}(hab:a≠b)(hbc:b≠c)(hm:oK a b m)(hm':oK b c m')(hs:0<cr a b c 1):((qB b c m 1^^qB a b m' 1)^^((xD m m' a^^xD m m' c)^^(yK a b^^yK b c)))=false:=by
 obtain⟨s1,s2,s3,s4⟩:=VG hab hbc hm hm' hs;have y1:=TR hab hm;have y2:=TR hbc hm';have c3:cr m' m a 1=-cr m m' a 1:=oD m m' a 1;have c4:cr m' m c 1=-cr m m' c 1:=oD m m' c 1;have f1:a.2=b.2->(a.1<b.1↔b.2<c.2)∧b.2≠c.2∧a.1≠b.1:=(by intro e;have:cr a b c 1=(b.1-a.1)*(c.2-b.2):=(by unfold cr;rw[e];grind);rw[this]at hs;have:=(zI (b.1-a.1) (c.2-b.2)).2 hs;omega);have f2:b.2=c.2->(c.1<b.1↔a.2<b.2)∧a.2≠b.2∧c.1≠b.1:=(by intro e;have:cr a b c 1=(b.2-a.2)*(b.1-c.1):=(by unfold cr;rw[←e];grind);rw[this]at hs;have:=(zI (b.2-a.2) (b.1-c.1)).2 hs;omega);rw[rJ,rJ];unfold xD dR yK;have t1:(b.2-m.2<=0∧0<c.2-m.2∧0<cr b c m 1∨c.2-m.2<=0∧0<b.2-m.2∧cr b c m 1<0)↔(b.2<=m.2∧m.2<c.2):=(by omega);have t2:(a.2-m'.2<=0∧0<b.2-m'.2∧0<cr a b m' 1∨b.2-m'.2<=0∧0<a.2-m'.2∧cr a b m' 1<0)↔(a.2<=m'.2∧m'.2<b.2):=(by omega);have t3:¬(m.2<a.2∧a.2<=m'.2∧cr m m' a 1<0):=(by omega);have t4:¬(m.2<c.2∧c.2<=m'.2∧cr m m' c 1<0):=(by omega);have t5:(m'.2<a.2∧a.2<=m.2∧cr m' m a 1<0)↔(m'.2<a.2∧a.2<=m.2):=(by omega);have t6:(m'.2<c.2∧c.2<=m.2∧cr m' m c 1<0)↔(m'.2<c.2∧c.2<=m.2):=(by omega);simp only[t1,t2,t3,t4,t5,t6];clear t1 t2 t3 t4 t5 t6 s1 s2 s3 s4 c3 c4 hs;rcases cA m.2 m'.2 with g|g|g;·rw[aB g,aB g];by_cases c1:b.2<=m.2∧m.2<c.2<;>by_cases c2:a.2<=m'.2∧m'.2<b.2<;>by_cases c5:a.2<b.2∨(a.2=b.2∧b.1<a.1)<;>by_cases c6:b.2<c.2∨(b.2=c.2∧c.1<b.1)<;>first|(simp only[c1,c2,c5,c6,gx,fT];rfl)|(exfalso;omega)
 {rw[ah (by omega),ah (by omega),ah (by omega),ah (by omega)];by_cases c1:b.2<=m.2∧m.2<c.2<;>by_cases c2:a.2<=m'.2∧m'.2<b.2<;>by_cases c5:a.2<b.2∨(a.2=b.2∧b.1<a.1)<;>by_cases c6:b.2<c.2∨(b.2=c.2∧c.1<b.1)<;>first|(simp only[c1,c2,c5,c6,gx,fT];rfl)|(exfalso;omega)};·rw[ah (by omega),aB g,ah (by omega),aB g];by_cases c1:b.2<=m.2∧m.2<c.2<;>by_cases c2:a.2<=m'.2∧m'.2<b.2<;>by_cases c3:m'.2<a.2∧a.2<=m.2<;>by_cases c4:m'.2<c.2∧c.2<=m.2<;>by_cases c5:a.2<b.2∨(a.2=b.2∧b.1<a.1)<;>by_cases c6:b.2<c.2∨(b.2=c.2∧c.1<b.1)<;>first|(simp only[c1,c2,c3,c4,c5,c6,gx,fT];rfl)|(exfalso;omega)
theorem N5(p q v:jS):xD p q v=xD q p v:=by
 unfold xD;rcases cA p.2 q.2 with h|h|h;{rw[aB h,ah (by omega),aB h]};{rw[ah (by omega),ah (by omega),ah (by omega),ah (by omega)]};·rw[ah (by omega),aB h,aB h]
theorem zM{a b m:jS}(h:oK a b m):oK b a m:=⟨mL.1 h.on,h.nb,h.na⟩
theorem N6{a b x:jS}(h:cr a b x 1=0):qB a b x 1=false:=by
 rw[rJ,h];simp
theorem adb{a b c:jS}(hab:a≠b)(hbc:b≠c)(h:has a c b 1):yK a b=yK b c:=by
 obtain⟨h0,h1,h2⟩:=h;unfold nL at h1 h2;simp only[aX]at h1 h2;unfold yK;have n1:a.1=b.1->a.2≠b.2:=fun e q=>hab (cN e q);have n2:b.1=c.1->b.2≠c.2:=fun e q=>hbc (cN e q);have l1:a.2=b.2->b.2≠c.2->a.1=b.1:=(by intro e hne;have:cr a c b 1=(a.2-c.2)*(b.1-a.1):=(by unfold cr;rw[e];grind);rw[this]at h0;rcases aU.1 h0 with q|q<;>omega);have l2:b.2=c.2->a.2≠b.2->b.1=c.1:=(by intro e hne;have:cr a c b 1=(c.2-a.2)*(c.1-b.1):=(by unfold cr;rw[e];grind);rw[this]at h0;rcases aU.1 h0 with q|q<;>omega);exact bC.2 (by omega)
theorem ade{a b c m m':jS}(hab:a≠b)(hbc:b≠c)(hm:oK a b m)(hm':oK b c m')(hs:cr a b c 1≠0∨has a c b 1):((qB b c m 1^^qB a b m' 1)^^((xD m m' a^^xD m m' c)^^(yK a b^^yK b c)))=false:=by
 by_cases h0:cr a b c 1=0;{have h:has a c b 1:=(by rcases hs with q|q;{exact absurd h0 q};·exact q);have k1:=lR hab;have k2:=lR hbc;have e1:=wF hm.on.1 b c;have e2:=wF hm'.on.1 a b;have r1:cr b c a 1=cr a b c 1:=(by unfold cr;grind);rw[uM,r1,h0,aW,aW,dB]at e1;rw[tZ,h0,aW,aW,dB]at e2;have z1:cr b c m 1=0:=(by rcases aU.1 e1 with q|q<;>omega);have z2:cr a b m' 1=0:=(by rcases aU.1 e2 with q|q<;>omega);have z3:cr m m' a 1=0:=(by have f:=rQ hm.on.1 z2 a;rw[uM,aW]at f;rcases aU.1 f with q|q<;>omega);have z4:cr m m' c 1=0:=(by have f:=rQ hm.on.1 z2 c;rw[h0,aW]at f;rcases aU.1 f with q|q<;>omega);rw[N6 z1,N6 z2,C3 z3,C3 z4,adb hab hbc h];simp};·rcases e8 h0 with g|g;{have:=N4 (a:=c) (b:=b) (c:=a) (dS hbc) (dS hab) (zM hm') (zM hm) (by have:cr c b a 1=-cr a b c 1:=(by unfold cr;grind);omega);rw[GO b a m',GO c b m,N5 m' m,N5 m' m,GL hab,GL hbc]at this;revert this;generalize qB b c m 1=x1;generalize qB a b m' 1=x2;generalize xD m m' a=x3;generalize xD m m' c=x4;generalize yK a b=x5;generalize yK b c=x6;revert x1 x2 x3 x4 x5 x6;decide};·exact N4 hab hbc hm hm' g
def xF(p1:Ring)(a c:jS)(p2:Ring):List kF:=jT (p1++[a])++jT (c::p2)
theorem adf(p1:Ring)(a b c:jS)(p2:Ring)(x:j9):kK (tn p1 a b (c::p2)) x=(qB b c x.1 x.2^^kK (xF p1 a c p2) x):=by
 unfold tn xF;rw[mB,lY,lY,kV];generalize kK (jT (p1++[a])) x=u;generalize kK (jT (c::p2)) x=v;generalize qB (b,c).1 (b,c).2 x.1 x.2=w;cases u<;>cases v<;>cases w<;>rfl
theorem adg(p1:Ring)(a b c:jS)(p2:Ring)(x:j9):kK (tn (p1++[a]) b c p2) x=(qB a b x.1 x.2^^kK (xF p1 a c p2) x):=by
 unfold tn xF;have e:jT (p1++[a]++[b])=jT (p1++[a])++[(a,b)]:=(by have:=oh p1 a b [];simpa[CN]using this);rw[e,lY,lY,lY,kV];show((kK (jT (p1++[a])) x^^(qB a b x.1 x.2^^false))^^kK (jT (c::p2)) x)=_;generalize kK (jT (p1++[a])) x=u;generalize kK (jT (c::p2)) x=v;generalize qB a b x.1 x.2=w;cases u<;>cases v<;>cases w<;>rfl
theorem QU{p1:Ring}{a b c:jS}{p2:Ring}(hr:Ends (p1++a::b::c::p2)){x m:jS}(h:∀s∈xF p1 a c p2,E5 x m s.1 s.2)(hx:∀s∈xF p1 a c p2,¬Xs x m s.1 s.2):(kK (xF p1 a c p2) (x,1)^^kK (xF p1 a c p2) (m,1))=(xD x m a^^xD x m c):=by
 have hr':Ends (p1++a::c::p2):=(by unfold Ends at*;rw[fh,dM]at hr⊢;rw[dM]at hr;rw[←hr];cases p1<;>rfl);exact Eb hr' h hx
theorem LK{p1:Ring}{a b c:jS}{p2:Ring}(hr:Ends (p1++a::b::c::p2))(hab:a≠b)(hbc:b≠c)(hs:cr a b c 1≠0∨has a c b 1){m m':jS}(hm:oK a b m)(hm':oK b c m')(h:∀s∈xF p1 a c p2,E5 m m' s.1 s.2)(hx:∀s∈xF p1 a c p2,¬Xs m m' s.1 s.2):Lh p1 a b (c::p2) (m,1)=Lh (p1++[a]) b c p2 (m',1):=by
 have k:=QU hr h hx;have l:=ade hab hbc hm hm' hs;unfold Lh;rw[adf,adg];simp only;revert k l;generalize kK (xF p1 a c p2) (m,1)=x1;generalize kK (xF p1 a c p2) (m',1)=x2;generalize qB b c m 1=x3;generalize qB a b m' 1=x4;generalize xD m m' a=x5;generalize xD m m' c=x6;generalize yK a b=x7;generalize yK b c=x8;revert x1 x2 x3 x4 x5 x6 x7 x8;decide
theorem agz{x y p q:jS}(h:Xs x y p q):∃al be ga de:Int,0<al∧0<be∧0<ga∧0<de∧al+be=ga+de∧al*x.1+be*y.1=ga*p.1+de*q.1∧al*x.2+be*y.2=ga*p.2+de*q.2:=by
 have i1:cr x y q 1-cr x y p 1=cr p q x 1-cr p q y 1:=(by unfold cr;grind);have i2:cr p q y 1*x.1-cr p q x 1*y.1=cr x y p 1*q.1-cr x y q 1*p.1:=(by unfold cr;grind);have i3:cr p q y 1*x.2-cr p q x 1*y.2=cr x y p 1*q.2-cr x y q 1*p.2:=(by unfold cr;grind);obtain⟨o1,o2⟩:=h;generalize cr x y q 1=B at*;generalize cr x y p 1=A at*;generalize cr p q x 1=P at*;generalize cr p q y 1=Q at*;unfold pT at o1 o2;rcases o2 with o2|o2;{have hB:A>0∧B<0:=(by omega);exact⟨Q,-P,-B,A,by omega,by omega,by omega,by omega,by omega,by grind,by grind⟩};·have hB:A<0∧0<B:=(by omega);exact⟨-Q,P,B,-A,by omega,by omega,by omega,by omega,by omega,by grind,by grind⟩
theorem QV{al be ga de x y p q:Int}(h1:0<al)(h2:0<be)(h3:0<ga)(h4:0<de)(e:al+be=ga+de)(f:al*x+be*y=ga*p+de*q){t:Int}(hx:x<t)(hy:y<t)(hp:t<=p)(hq:t<=q):False:=by
 have a1:=dj hx h1;have a2:=dj hy h2;have a3:=bA hp (bK h3);have a4:=bA hq (bK h4);have:al*t+be*t=ga*t+de*t:=(by rw[←Int.add_mul,←Int.add_mul,e]);omega
theorem TT{al be ga de x y p q:Int}(h1:0<al)(h2:0<be)(h3:0<ga)(h4:0<de)(e:al+be=ga+de)(f:al*x+be*y=ga*p+de*q){t:Int}(hx:t<x)(hy:t<y)(hp:p<=t)(hq:q<=t):False:=QV h1 h2 h3 h4 e (x:=-x) (y:=-y) (p:=-p) (q:=-q) (by grind) (t:=-t) (by omega) (by omega) (by omega) (by omega)
def kY(k:Int)(b u:jS):jS:=(k*b.1+u.1,k*b.2+u.2)
theorem afq(k:Int)(g1 g2 b u:jS):cr (sc k g1) (sc k g2) (kY k b u) 1=k*(k*cr g1 g2 b 1+((g2.1-g1.1)*u.2-(g2.2-g1.2)*u.1)):=by
 unfold cr sc kY;grind
def big(g:kF)(u v:jS):Nat:=u.1.natAbs+u.2.natAbs+v.1.natAbs+v.2.natAbs+((g.2.1-g.1.1)*u.2-(g.2.2-g.1.2)*u.1).natAbs+((g.2.1-g.1.1)*v.2-(g.2.2-g.1.2)*v.1).natAbs
theorem JY{k x:Int}(hk:0<k)(h:-k<k*x∧k*x<k):x=0:=by
 rcases cA x 0 with g|g|g;{have:=bA (show x<=-1 by omega) (bK hk);omega};{exact g};·have:=bA (show 1<=x by omega) (bK hk);omega
theorem QW{g:kF}{u v:jS}{k:Int}(hk:(big g u v:Int)<k):0<k∧(-k<u.1∧u.1<k)∧(-k<u.2∧u.2<k)∧(-k<v.1∧v.1<k)∧(-k<v.2∧v.2<k)∧(-k<(g.2.1-g.1.1)*u.2-(g.2.2-g.1.2)*u.1∧(g.2.1-g.1.1)*u.2-(g.2.2-g.1.2)*u.1<k)∧(-k<(g.2.1-g.1.1)*v.2-(g.2.2-g.1.2)*v.1∧(g.2.1-g.1.1)*v.2-(g.2.2-g.1.2)*v.1<k):=by
 unfold big at hk;generalize(g.2.1-g.1.1)*u.2-(g.2.2-g.1.2)*u.1=U at*;generalize(g.2.1-g.1.1)*v.2-(g.2.2-g.1.2)*v.1=V at*;generalize u.1=u1 at*;generalize u.2=u2 at*;generalize v.1=v1 at*;generalize v.2=v2 at*;clear g;refine⟨by omega,⟨by omega,by omega⟩,⟨by omega,by omega⟩,⟨by omega,by omega⟩,⟨by omega,by omega⟩,⟨by omega,by omega⟩,⟨by omega,by omega⟩⟩
theorem uj{b u v c:jS}{k:Int}(nH:0<k)(hu1:-k<u.1∧u.1<k)(oZ:-k<u.2∧u.2<k)(Nf:-k<v.1∧v.1<k)(QX:-k<v.2∧v.2<k)(hc:c≠b):¬has (kY k b u) (kY k b v) (sc k c) 1:=by
 intro h;have h1:=h.2.1;have h2:=h.2.2;unfold kY sc nL at h1 h2;simp only[aX]at h1 h2;have e1:k*(c.1-b.1)=k*c.1-k*b.1:=(by grind);have e2:k*(c.2-b.2)=k*c.2-k*b.2:=(by grind);have z1:=JY nH (x:=c.1-b.1) (by rw[e1];omega);have z2:=JY nH (x:=c.2-b.2) (by rw[e2];omega);exact hc (cN (by omega) (by omega))
theorem qh{k x y:Int}(nH:0<k)(h:x<y):k*x+k<=k*y:=by
 have:=bA (show x+1<=y by omega) (bK nH);rw[gI,aX]at this;exact this
theorem TU{g:kF}{b t:jS}{k:Int}(nH:0<k)(h1:-k<t.1∧t.1<k)(h2:-k<t.2∧t.2<k)(hbe:(b.1<g.1.1∧b.1<g.2.1)∨(g.1.1<b.1∧g.2.1<b.1)∨(b.2<g.1.2∧b.2<g.2.2)∨(g.1.2<b.2∧g.2.2<b.2)):¬has (sc k g.1) (sc k g.2) (kY k b t) 1:=by
 intro h;have f1:=h.2.1;have f2:=h.2.2;unfold kY sc nL at f1 f2;simp only[aX]at f1 f2;rcases hbe with⟨q1,q2⟩|⟨q1,q2⟩|⟨q1,q2⟩|⟨q1,q2⟩;{have:=qh nH q1;have:=qh nH q2;clear f2 h2;omega};{have:=qh nH q1;have:=qh nH q2;clear f2 h2;omega};{have:=qh nH q1;have:=qh nH q2;clear f1 h1;omega};·have:=qh nH q1;have:=qh nH q2;clear f1 h1;omega
theorem adh{g:kF}{b u v:jS}{k:Int}(nH:0<k)(hu1:-k<u.1∧u.1<k)(oZ:-k<u.2∧u.2<k)(Nf:-k<v.1∧v.1<k)(QX:-k<v.2∧v.2<k)(hbe:(b.1<g.1.1∧b.1<g.2.1)∨(g.1.1<b.1∧g.2.1<b.1)∨(b.2<g.1.2∧b.2<g.2.2)∨(g.1.2<b.2∧g.2.2<b.2)):¬Xs (kY k b u) (kY k b v) (sc k g.1) (sc k g.2):=by
 intro h;obtain⟨al,be,ga,de,p1,p2,p3,p4,e,f1,f2⟩:=agz h;unfold kY sc at f1 f2;simp only at f1 f2;rcases hbe with⟨q1,q2⟩|⟨q1,q2⟩|⟨q1,q2⟩|⟨q1,q2⟩;{have:=qh nH q1;have:=qh nH q2;exact QV p1 p2 p3 p4 e f1 (t:=k*b.1+k) (by omega) (by omega) (by omega) (by omega)};{have:=qh nH q1;have:=qh nH q2;exact TT p1 p2 p3 p4 e f1 (t:=k*b.1-k) (by omega) (by omega) (by omega) (by omega)};{have:=qh nH q1;have:=qh nH q2;exact QV p1 p2 p3 p4 e f2 (t:=k*b.2+k) (by omega) (by omega) (by omega) (by omega)};·have:=qh nH q1;have:=qh nH q2;exact TT p1 p2 p3 p4 e f2 (t:=k*b.2-k) (by omega) (by omega) (by omega) (by omega)
theorem beyond{g:kF}{b:jS}(hb:¬has g.1 g.2 b 1)(h0:cr g.1 g.2 b 1=0):(b.1<g.1.1∧b.1<g.2.1)∨(g.1.1<b.1∧g.2.1<b.1)∨(b.2<g.1.2∧b.2<g.2.2)∨(g.1.2<b.2∧g.2.2<b.2):=by
 by_cases c1:nL (g.1.1*1) b.1 (g.2.1*1);{by_cases c2:nL (g.1.2*1) b.2 (g.2.2*1);{exact absurd ⟨h0,c1,c2⟩ hb};·unfold nL at c2;omega};·unfold nL at c1;omega
theorem wG{g:kF}{b u v:jS}(hb:¬has g.1 g.2 b 1){k:Int}(hk:(big g u v:Int)<k):E5 (kY k b u) (kY k b v) (sc k g.1) (sc k g.2)∧¬Xs (kY k b u) (kY k b v) (sc k g.1) (sc k g.2):=by
 obtain⟨nH,hu1,oZ,Nf,QX,hU,hV⟩:=QW hk;clear hk;have n1:g.1≠b:=fun e=>hb (by rw[←e];exact qm _ _);have n2:g.2≠b:=fun e=>hb (by rw[←e];exact oO _ _);by_cases h0:cr g.1 g.2 b 1=0;{have hbe:=beyond hb h0;exact⟨⟨uj nH hu1 oZ Nf QX n1,uj nH hu1 oZ Nf QX n2,TU nH hu1 oZ hbe,TU nH Nf QX hbe⟩,adh nH hu1 oZ Nf QX hbe⟩};·have c1:=afq k g.1 g.2 b u;have c2:=afq k g.1 g.2 b v;generalize(g.2.1-g.1.1)*u.2-(g.2.2-g.1.2)*u.1=U at*;generalize(g.2.1-g.1.1)*v.2-(g.2.2-g.1.2)*v.1=V at*;have s1:=kZ nH (rfl:k*(k*cr g.1 g.2 b 1+U)=_);have s2:=kZ nH (rfl:k*(k*cr g.1 g.2 b 1+V)=_);rw[←c1]at s1;rw[←c2]at s2;have dom:(0<cr g.1 g.2 b 1->k<=k*cr g.1 g.2 b 1)∧(cr g.1 g.2 b 1<0->k*cr g.1 g.2 b 1<=-k):=(by constructor;{intro q;have:=bA (show 1<=cr g.1 g.2 b 1 by omega) (bK nH);omega};·intro q;have:=bA (show cr g.1 g.2 b 1<=-1 by omega) (bK nH);omega);clear c1 c2;refine⟨⟨uj nH hu1 oZ Nf QX n1,uj nH hu1 oZ Nf QX n2,fun h=>?_,fun h=>?_⟩,fun h=>?_⟩;{have:=h.1;clear hu1 oZ Nf QX s2;omega};{have:=h.1;clear hu1 oZ Nf QX s1;omega};·have o:=h.2;clear hu1 oZ Nf QX;unfold pT at o;omega
end Vd
end Go.Proofs.YtcclepohmhdpbaaGreatDoor
