import Derived.WalkKit
namespace Go.Proofs.YtcclepohmhdpbaaGreatDoor
abbrev ag:=@if_neg
abbrev ah:=@List.length_append
abbrev ai:=@if_pos
abbrev aj:=@beq_eq_false_iff_ne
abbrev aq:=@decide_eq_true
abbrev au:=@Nat.zero_le
abbrev az:=@List.getD_eq_getElem?_getD
abbrev aA:=@List.length_map
abbrev aB:=@List.getElem?_map
abbrev aC:=@decide_eq_false
abbrev aD:=@List.mem_append
abbrev aE:=@List.mem_cons
abbrev aF:=@List.any_eq_true
abbrev aG:=@List.getElem?_eq_getElem
abbrev aH:=@List.map_append
abbrev aI:=@List.getElem?_append_right
abbrev aJ:=@Classical.byContradiction
abbrev aK:=@Int.mul_eq_zero
abbrev aL:=@List.take_length
abbrev aN:=@Option.some.inj
abbrev aO:=@List.mem_map
abbrev aT:=@List.getElem?_append_left
abbrev aU:=@List.mem_map_of_mem
abbrev aV:=@List.mem_range
abbrev aW:=@List.getElem?_eq_none
abbrev aX:=@List.length_cons
abbrev aY:=@List.cons_append
abbrev aZ:=@Int.mul_one
abbrev bg:=@List.append_assoc
abbrev bh:=@congrArg
abbrev bu:=@List.append_nil
abbrev bw:=@List.mem_append_left
abbrev bA:=@Nat.le_refl
abbrev bB:=@Int.mul_zero
abbrev bC:=@decide_eq_true_eq
abbrev bD:=@Int.mul_le_mul_of_nonneg_left
abbrev bE:=@List.length_take
abbrev bF:=@List.mem_singleton
abbrev bG:=@Int.le_of_lt
abbrev bH:=@Nat.lt_or_ge
abbrev bI:=@Option.map_eq_some_iff
abbrev bJ:=@decide_eq_decide
abbrev bK:=@List.mem_of_getElem?
abbrev bL:=@of_decide_eq_true
abbrev bM:=@Bool.and_eq_true
abbrev bN:=@List.mem_filter
abbrev bQ:=@List.mem_flatMap
abbrev bT:=@Nat.mod_eq_of_lt
abbrev bZ:=@Int.lt_trichotomy
abbrev b6:=@List.nodup_cons
abbrev b7:=@Nat.sub_self
abbrev b8:=@Int.mul_le_mul_of_nonneg_right
abbrev b9:=@List.mem_append_right
abbrev cg:=@Nat.le_trans
abbrev ck:=@List.map_congr_left
abbrev cq:=@List.nodup_append
abbrev cw:=@List.drop_eq_getElem_cons
abbrev cA:=@Int.lt_or_le
abbrev cB:=@List.map_cons
abbrev cC:=@List.set_append_right
abbrev cD:=@List.getElem?_range
abbrev cE:=@List.mem_flatten
abbrev cF:=@List.length_nil
abbrev cG:=@Nat.mod_lt
abbrev cH:=@List.mem_cons_of_mem
abbrev cI:=@List.map_map
abbrev cJ:=@Prod.ext
abbrev cK:=@List.nil_append
abbrev cL:=@Nat.zero_add
abbrev cN:=@Int.mul_lt_mul_of_pos_left
abbrev cO:=@List.length_drop
abbrev cT:=@List.ext_getElem?
abbrev cU:=@Int.le_of_mul_le_mul_left
abbrev cV:=@List.pairwise_iff_getElem
abbrev cW:=@Bool.or_eq_false_iff
abbrev cZ:=@List.length_replicate
abbrev c7:=@List.getLast?_cons_cons
abbrev c8:=@Bool.true_and
abbrev c9:=@Nat.add_mod_right
abbrev dh:=@Ne.symm
abbrev di:=@Bool.or_eq_true
abbrev dj:=@Int.le_refl
abbrev dr:=@decide_eq_false_iff_not
abbrev dw:=@List.drop_eq_nil_of_le
abbrev dz:=@List.range_succ
abbrev dA:=@Int.zero_mul
abbrev dB:=@List.mem_iff_getElem?
abbrev dD:=@List.length_range
abbrev dF:=@Prod.mk.injEq
abbrev dG:=@Int.le_total
abbrev dH:=@Int.mul_le_mul_of_nonpos_right
abbrev dI:=@Bool.false_eq_true
abbrev dJ:=@List.filter_append
abbrev dK:=@List.filter_cons
abbrev dL:=@Nat.lt_trichotomy
abbrev dM:=@beq_iff_eq
abbrev dN:=@bne_iff_ne
abbrev dO:=@List.foldl_cons
abbrev dP:=@List.length_set
abbrev dQ:=@List.set_cons_zero
abbrev dS:=@List.getElem?_cons_succ
abbrev dU:=@List.mem_of_mem_take
abbrev dV:=@List.getLast?_append
abbrev dW:=@Nat.pow_succ
abbrev dX:=@List.foldl_append
abbrev dY:=@List.length_reverse
abbrev dZ:=@Int.lt_of_mul_lt_mul_left
abbrev ee:=@List.getElem?_eq_some_iff
abbrev ef:=@List.take_append_drop
abbrev eC:=@List.getLast?_eq_some_getLast
abbrev eD:=@List.eq_nil_of_length_eq_zero
abbrev eE:=@Int.lt_or_gt_of_ne
abbrev eF:=@Int.lt_or_eq_of_le
abbrev eG:=@Nat.lt_of_lt_of_le
abbrev eK:=@List.getElem?_of_mem
abbrev eL:=@if_false
abbrev eN:=@List.any_eq_false
abbrev eO:=@Nat.mod_add_mod
abbrev eT:=@List.getElem_of_mem
abbrev eU:=@List.flatten_append
abbrev eV:=@Nat.div_div_eq_div_mul
abbrev eZ:=@Bool.not_not
abbrev e7:=@Int.mul_comm
abbrev e8:=@Int.add_zero
abbrev e9:=@decide_false
abbrev fe:=@List.getElem?_set_self
abbrev ff:=@List.take_of_length_le
abbrev fh:=@List.sum_cons
abbrev fj:=@List.countP_cons
abbrev fk:=@List.exists_of_findSome?_eq_some
abbrev fm:=@List.drop_length
abbrev fo:=@List.nodup_nil
abbrev fq:=@Nat.lt_or_gt_of_ne
abbrev fA:=@List.getLast?_eq_getElem?
abbrev fB:=@Int.eq_of_mul_eq_mul_left
abbrev fC:=@decide_true
abbrev fD:=@Nat.mul_comm
abbrev fE:=@Nat.le_of_eq
abbrev fF:=@Bool.eq_iff_iff
abbrev fG:=@Option.some.injEq
abbrev fH:=@List.flatten_cons
abbrev fI:=@Int.eq_ofNat_of_zero_le
abbrev fJ:=@List.replicate_succ
abbrev fK:=@List.flatMap_append
abbrev fL:=@Int.mul_nonneg
abbrev fM:=@if_true
abbrev fN:=@List.head?_eq_getElem?
abbrev fO:=@Nat.mod_mod
abbrev fP:=@of_decide_eq_false
abbrev fQ:=@Nat.mod_self
abbrev fR:=@Nat.eq_zero_or_pos
abbrev fT:=@Nat.add_zero
abbrev fU:=@Nat.add_sub_cancel
abbrev fV:=@Int.natAbs_natCast
abbrev fW:=@List.eq_nil_or_concat
abbrev fX:=@List.concat_eq_append
abbrev fY:=@Nat.mul_le_mul_right
abbrev fZ:=@Nat.add_mul_mod_self_left
abbrev gd:=@List.length_dropLast
abbrev gh:=@List.all_eq_true
abbrev gi:=@List.append_of_mem
abbrev gj:=@List.countP_append
abbrev gl:=@List.getElem?_drop
abbrev gp:=@Int.not_lt
abbrev gq:=@Nat.min_eq_left
abbrev gu:=@List.drop_of_length_le
abbrev gw:=@List.range_succ_eq_map
abbrev gx:=@Int.mul_le_mul_of_nonpos_left
abbrev gy:=@List.filter_congr
abbrev gz:=@Bool.false_and
abbrev gC:=@List.countP_le_length
abbrev gD:=@List.countP_mono_left
abbrev gE:=@List.getElem?_reverse
abbrev gF:=@List.length_singleton
abbrev gG:=@List.length_filter_le
abbrev gH:=@List.take_zero
abbrev gI:=@Nat.ne_of_lt
abbrev gJ:=@Int.mul_lt_mul_of_pos_right
abbrev gK:=@List.nodup_range
abbrev gL:=@List.getElem?_set_ne
abbrev gN:=@Array.toArray_toList
abbrev gO:=@Nat.mod_two_eq_zero_or_one
abbrev gT:=@Nat.mul_assoc
abbrev gU:=@Int.mul_sub
abbrev gV:=@List.reverse_append
abbrev gW:=@Nat.mul_le_mul_left
abbrev gZ:=@Int.mul_neg_of_neg_of_pos
abbrev ic:=@Int.mul_neg_of_pos_of_neg
abbrev ie:=@Option.map_some
abbrev ig:=@List.Perm.of_eq
abbrev ij:=@Int.sub_zero
abbrev ir:=@List.map_nil
abbrev iu:=@Nat.sub_zero
abbrev iw:=@Nat.add_comm
abbrev iy:=@List.pairwise_singleton
abbrev iz:=@Bool.not_eq_true'
abbrev iA:=@List.pairwise_map
abbrev iB:=@List.reverse_cons
abbrev iC:=@List.getElem_tail
abbrev iD:=@Nat.add_mod
abbrev iE:=@Array.getElem?_eq_none
abbrev iF:=@List.not_mem_nil
abbrev iG:=@List.perm_middle
abbrev iH:=@List.getElem_mem
abbrev iI:=@List.mem_reverse
abbrev iJ:=@Option.bind_some
abbrev iK:=@List.perm_append_comm
abbrev iL:=@Array.getElem?_modify
abbrev iM:=@Nat.min_le_left
abbrev iN:=@Int.sub_self
abbrev iO:=@Int.zero_add
abbrev iP:=@Nat.succ_mul
abbrev iQ:=@List.reverse_reverse
abbrev iR:=@List.pairwise_append
abbrev iS:=@List.Perm.trans
abbrev iT:=@List.filter_map
abbrev iU:=@Int.le_trans
abbrev iV:=@Nat.le_of_lt
abbrev iW:=@List.filter_eq_self
abbrev iX:=@List.take_succ_cons
abbrev iY:=@List.length_flatten
abbrev iZ:=@Bool.xor_assoc
abbrev ja:=@List.Perm.refl
abbrev jd:=@Nat.mul_le_mul
abbrev je:=@Nat.add_mul
abbrev jf:=@Int.mul_pos
end Go.Proofs.YtcclepohmhdpbaaGreatDoor
namespace Go.Proofs.YtcclepohmhdpbaaGreatDoor
set_option linter.all false
abbrev jk:=Int×Int
abbrev Ring:=List jk
abbrev Poly:=List Ring
abbrev jy:=List Poly
namespace Pl
def vW(x:Int):Bool:=decide (32768<x)||decide (x< -32768)
def sQ(p:jk):Bool:=vW p.1||vW p.2
def xh(r:Ring):Bool:=r.any sQ
def rY(l:Poly):Bool:=l.any xh
def uw(r:Ring):Bool:=decide (r.length<4)||!(decide (r.head?=r.getLast?))
def EI(l:Poly):Bool:=l.any uw
def rZ(l:Poly):Bool:=l.isEmpty||EI l
def nR(m:jy):Nat:=(m.map List.length).sum
def xj(l:Poly):Nat:=(l.map List.length).sum
def nP(m:jy):Nat:=(m.map xj).sum
def many(m:jy):Bool:=decide (8<m.length)||decide (12<nR m)||decide (100<nP m)
def wrong(m:jy):Int:=if many m=true then 6 else if m.any rZ=true then 5 else if m.any rY=true then 4 else 0
structure Bd(m:jy):Prop where
 len:m.length<=1048576
 poly:∀l∈m,l.length<=1048576
 ring:∀l∈m,∀r∈l,r.length<=1048576
theorem take_one{α:Type}{l:List α}{k:Nat}{x:α}(h:l[k]?=some x):l.take (k+1)=l.take k++[x]:=by
 rw[List.take_succ,h];rfl
theorem jo{α:Type}{l:List α}{k:Nat}{x:α}(h:l[k]?=some x):k<l.length:=by
 rcases bH k l.length with g|g;{exact g};·rw[aW g]at h;cases h
theorem jh{α:Type}{l:List α}{k:Nat}{x:α}(h:l[k]?=some x):x∈l:=bK h
theorem ji{α:Type}{l:List α}{k:Nat}(h:k<l.length):∃x,l[k]?=some x:=⟨l[k],aG h⟩
theorem jL{α:Type}{l:List α}{k:Nat}{x:α}(p:α->Bool)(h:l[k]?=some x):(l.take (k+1)).any p=((l.take k).any p||p x):=by
 rw[take_one h];simp
theorem kj{α:Type}{l:List α}{k:Nat}{x:α}(p:α->Bool)(h:l[k]?=some x)(hp:p x=true):l.any p=true:=aF.2 ⟨x,jh h,hp⟩
theorem uD(l:List Nat)(k:Nat):(l.take k).sum<=l.sum:=by
 (conv=>rhs;rw[←ef k l,List.sum_append]);omega
theorem QO{m:jy}{k:Nat}{l:Poly}(h:m[k]?=some l):nR (m.take (k+1))=nR (m.take k)+l.length:=by
 unfold nR;rw[take_one h];simp
theorem QS{m:jy}{k:Nat}{l:Poly}(h:m[k]?=some l):nP (m.take (k+1))=nP (m.take k)+xj l:=by
 unfold nP;rw[take_one h];simp
theorem K8{l:Poly}{k:Nat}{r:Ring}(h:l[k]?=some r):xj (l.take (k+1))=xj (l.take k)+r.length:=by
 unfold xj;rw[take_one h];simp
theorem agF(m:jy)(k:Nat):nR (m.take k)<=nR m:=by
 unfold nR;rw[List.map_take];exact uD _ _
theorem agG(m:jy)(k:Nat):nP (m.take k)<=nP m:=by
 unfold nP;rw[List.map_take];exact uD _ _
theorem adC(l:Poly)(k:Nat):xj (l.take k)<=xj l:=by
 unfold xj;rw[List.map_take];exact uD _ _
theorem vZ{l:List Nat}{b:Nat}(h:∀x∈l,x<=b):l.sum<=l.length*b:=by induction l with|nil=>simp|cons a t ih=>have h1:=h a (by simp);have h2:=ih (fun x hx=>h x (by simp[hx]));rw[fh,aX,je];omega
theorem VT{m:jy}(hb:Bd m){l:Poly}(hl:l∈m)(k:Nat):xj (l.take k)<=k*1048576:=by
 unfold xj;refine cg (vZ (b:=1048576) ?_) ?_;{intro x hx;obtain⟨r,hr,rfl⟩:=aO.1 hx;exact hb.ring l hl r (dU hr)};·rw[aA,bE];exact fY _ (iM _ _)
theorem agH{m:jy}(hb:Bd m)(k:Nat):nP (m.take k)<=k*1099511627776:=by
 unfold nP;refine cg (vZ (b:=1099511627776) ?_) ?_;{intro x hx;obtain⟨l,hl,rfl⟩:=aO.1 hx;have hl':=dU hl;have h1:=VT hb hl' l.length;have h2:=hb.poly l hl';rw[aL]at h1;omega};·rw[aA,bE];exact fY _ (iM _ _)
theorem agI{m:jy}(hb:Bd m)(k:Nat):nR (m.take k)<=k*1048576:=by
 unfold nR;refine cg (vZ (b:=1048576) ?_) ?_;{intro x hx;obtain⟨l,hl,rfl⟩:=aO.1 hx;exact hb.poly l (dU hl)};·rw[aA,bE];exact fY _ (iM _ _)
theorem Hg{r:Ring}{p q:jk}(h4:¬r.length<4)(h0:r[0]?=some p)(h1:r[r.length-1]?=some q):uw r=!(decide (p=q)):=by
 unfold uw;rw[fN,fA,h0,h1];simp[h4]
end Pl
namespace Bn
def agJ(a:Nat):List UInt8->Nat|[]=>a|c::t=>agJ (a*256+c.toNat) t
def big(l:List UInt8):Nat:=agJ 0 l
def ord(lit:Bool)(l:List UInt8):List UInt8:=if lit=true then l.reverse else l
def num(lit:Bool)(l:List UInt8):Nat:=big (ord lit l)
def cut(n:Nat)(lit:Bool)(l:List UInt8):Option (Nat×List UInt8):=if l.length<n then none else some (num lit (l.take n),l.drop n)
def units(bits:Nat):Option Int:=if bits=0 then some 0 else if bits/4503599627370496%2048<1019∨1071<bits/4503599627370496%2048 then none else if(bits%4503599627370496+4503599627370496)%2^(1071-bits/4503599627370496%2048)≠0∨32768<(bits%4503599627370496+4503599627370496)/2^(1071-bits/4503599627370496%2048)then none else some (if 9223372036854775808<=bits then-((bits%4503599627370496+4503599627370496)/2^(1071-bits/4503599627370496%2048):Nat)else((bits%4503599627370496+4503599627370496)/2^(1071-bits/4503599627370496%2048):Nat))
def acE(bits:Nat):Int:=(units bits).getD 0
abbrev Res(α:Type):=Option (α×List UInt8×Bool)
def point(lit:Bool)(l:List UInt8)(o:Bool):Res jk:=if l.length<16 then none else some ((acE (num lit (l.take 8)),acE (num lit ((l.drop 8).take 8))),l.drop 16,o||(units (num lit (l.take 8))).isNone||(units (num lit ((l.drop 8).take 8))).isNone)
def many{α:Type}(f:List UInt8->Bool->Res α):Nat->List UInt8->Bool->Res (List α)|0,l,o=>some ([],l,o)|n+1,l,o=>(f l o).bind fun x=>(many f n x.2.1 x.2.2).map fun y=>(x.1::y.1,y.2)
def ring(lit:Bool)(l:List UInt8)(o:Bool):Res Ring:=(cut 4 lit l).bind fun x=>many (point lit) x.1 x.2 o
def head(kind:Nat)(l:List UInt8):Option (Bool×Nat×List UInt8):=(cut 1 false l).bind fun x=>if 1<x.1 then none else(cut 4 (x.1==1) x.2).bind fun y=>if y.1≠kind then none else(cut 4 (x.1==1) y.2).bind fun z=>some (x.1==1,z.1,z.2)
def poly(l:List UInt8)(o:Bool):Res Poly:=(head 3 l).bind fun x=>many (ring x.1) x.2.1 x.2.2 o
def set(l:List UInt8):Res jy:=(head 6 l).bind fun x=>many poly x.2.1 x.2.2 false
def okR(r:Ring):Prop:=r.length<=6000∧∀p∈r,(-32768<=p.1∧p.1<=32768)∧-32768<=p.2∧p.2<=32768
def okL(l:Poly):Prop:=l.length<=6000∧∀r∈l,okR r
def K9(m:jy):Prop:=m.length<=6000∧∀l∈m,okL l
def low:Nat->Nat->List UInt8|0,_=>[]|n+1,v=>UInt8.ofNat (v%256)::low n (v/256)
def put(lit:Bool)(n v:Nat):List UInt8:=if lit=true then low n v else(low n v).reverse
theorem wh(n v:Nat):(low n v).length=n:=by induction n generalizing v with|zero=>rfl|succ n ih=>simp[low,ih]
theorem jP(lit:Bool)(n v:Nat):(put lit n v).length=n:=by
 unfold put;split<;>simp[wh]
theorem QT(m n v:Nat):low (m+n) v=low m v++low n (v/256^m):=by induction m generalizing v with|zero=>simp[low]|succ m ih=>rw[show m+1+n=(m+n)+1 by omega];simp only[low,aY,ih];rw[eV,dW,fD 256]
theorem aag(n v:Nat):low n (v%256^n)=low n v:=by induction n generalizing v with|zero=>rfl|succ n ih=>simp only[low];have h1:v%256^(n+1)%256=v%256:=(by rw[dW];exact Nat.mod_mod_of_dvd _ (Nat.dvd_mul_left _ _));have h2:v%256^(n+1)/256=v/256%256^n:=(by rw[dW,fD];exact Nat.mod_mul_right_div_self _ _ _);rw[h1,h2,ih]
theorem EJ(hi lo:Nat)(h:lo<4294967296):low 8 (hi*4294967296+lo)=low 4 lo++low 4 hi:=by
 rw[show 8=4+4 from rfl,QT];congr 1;{rw[←aag];congr 1;show(hi*4294967296+lo)%4294967296=lo;omega};·congr 1;show(hi*4294967296+lo)/4294967296=hi;omega
theorem zU(lit:Bool)(hi lo:Nat)(h:lo<4294967296):put lit 8 (hi*4294967296+lo)=if lit=true then put lit 4 lo++put lit 4 hi else put lit 4 hi++put lit 4 lo:=by
 cases lit;{show(low 8 _).reverse=(low 4 hi).reverse++(low 4 lo).reverse;rw[EJ _ _ h,gV]};·show low 8 _=low 4 lo++low 4 hi;rw[EJ _ _ h]
def sh:Nat->Nat->Nat|0,_=>0|f+1,k=>if k<4503599627370496 then sh f (2*k)+1 else 0
def zG(neg:Bool)(k j:Nat):Nat:=(if neg=true then 9223372036854775808 else 0)+(1071-j)*4503599627370496+(k*2^j-4503599627370496)
def xE(u:Int):Nat:=if u=0 then 0 else zG (decide (u<0)) u.natAbs (sh 60 u.natAbs)
theorem Eb{f k i a:Nat}(h:sh 60 k=i+sh (f+1) a)(ha:a<4503599627370496):sh 60 k=(i+1)+sh f (2*a):=by
 rw[h,sh,ai ha];omega
theorem Jt{f k i a:Nat}(h:sh 60 k=i+sh (f+1) a)(ha:¬a<4503599627370496):sh 60 k=i:=by
 rw[h,sh,ag ha];omega
def DO(lit:Bool)(kind n:Nat):List UInt8:=put lit 1 (if lit=true then 1 else 0)++put lit 4 kind++put lit 4 n
def Ju(lit:Bool)(p:jk):List UInt8:=put lit 8 (xE p.1)++put lit 8 (xE p.2)
def mE(lit:Bool)(r:Ring):List UInt8:=put lit 4 r.length++r.flatMap (Ju lit)
def mF(lit:Bool)(l:Poly):List UInt8:=DO lit 3 l.length++l.flatMap (mE lit)
def sS(lit:Bool)(m:jy):List UInt8:=DO lit 6 m.length++m.flatMap (mF lit)
theorem xF(lit:Bool)(kind n:Nat):(DO lit kind n).length=9:=by simp[DO,jP]
theorem Od(lit:Bool)(p:jk):(Ju lit p).length=16:=by simp[Ju,jP]
theorem VU{α:Type}(f:α->List UInt8)(b:Nat):∀l:List α,(∀a∈l,(f a).length<=b)->(l.flatMap f).length<=l.length*b|[],_=>by simp|a::t,h=>by have h1:=VU f b t fun x hx=>h x (cH _ hx);have h2:=h a (by simp);simp only[List.flatMap_cons,ah,aX,je];omega
theorem AG(lit:Bool){r:Ring}(h:r.length<=6000):(mE lit r).length<=100000:=by
 have:=VU (Ju lit) 16 r fun p _=>fE (Od lit p);simp only[mE,ah,jP];omega
theorem EK(lit:Bool){l:Poly}(h:okL l):(mF lit l).length<=600000100:=by
 have:=VU (mE lit) 100000 l fun r hr=>AG lit (h.2 r hr).1;have:=h.1;simp only[mF,ah,xF];omega
theorem sU{α:Type}(f:α->List UInt8){l:List α}{n:Nat}{a:α}(h:l[n]?=some a):(l.drop n).flatMap f=f a++(l.drop (n+1)).flatMap f:=by
 have hn:n<l.length:=Pl.jo h;rw[cw hn];have:l[n]=a:=(by rw[aG hn]at h;exact aN h);rw[this];rfl
theorem wj{α:Type}(f:α->List UInt8){l:List α}{n:Nat}(h:¬n<l.length):(l.drop n).flatMap f=[]:=by
 rw[gu (Nat.le_of_not_lt h)];rfl
end Bn
namespace Bg
end Bg
namespace Vd
def cr(a b p:jk)(w:Int):Int:=(b.1-a.1)*(p.2-a.2*w)-(b.2-a.2)*(p.1-a.1*w)
def dt(a b p:jk)(w:Int):Int:=(p.1-a.1*w)*(b.1-a.1)+(p.2-a.2*w)*(b.2-a.2)
def kk(a b:jk):Int:=(b.1-a.1)*(b.1-a.1)+(b.2-a.2)*(b.2-a.2)
def lV(e m o:Int):Prop:=(e<=m∧m<=o)∨(o<=m∧m<=e)
def has(a b p:jk)(w:Int):Prop:=cr a b p w=0∧lV (a.1*w) p.1 (b.1*w)∧lV (a.2*w) p.2 (b.2*w)
def on(a b p:jk)(w:Int):Prop:=cr a b p w=0∧0<=dt a b p w∧dt a b p w<=kk a b*w
theorem nn{x y:Int}(hx:0<=x)(hy:0<=y):0<=x*y:=fL hx hy
theorem xG(x:Int):0<=x*x:=by
 rcases dG 0 x with h|h;{exact nn h h};·have:=nn (x:=-x) (y:=-x) (by omega) (by omega);rw[Int.neg_mul_neg]at this;exact this
theorem sq_pos{x:Int}(h:x≠0):0<x*x:=by
 have:=xG x;have h2:x*x≠0:=fun e=>h (by simpa using aK.1 e);omega
theorem kO{a b:jk}(h:a≠b):0<kk a b:=by
 unfold kk;by_cases h1:b.1-a.1=0;{have h2:b.2-a.2≠0:=fun e=>h (cJ (by omega) (by omega));have:=sq_pos h2;have:=xG (b.1-a.1);omega};·have:=sq_pos h1;have:=xG (b.2-a.2);omega
theorem QU{u v w:Int}(hw:0<w)(h:lV 0 v (u*w)):0<=v*u∧v*u<=u*u*w:=by
 rcases h with⟨h1,h2⟩|⟨h1,h2⟩;{have hu:0<=u:=(by rcases cA u 0 with g|g;{have:u*w<0:=gZ g hw;omega};·exact g);refine⟨nn h1 hu,?_⟩;have:=b8 h2 hu;have e:u*w*u=u*u*w:=(by grind);omega};·have hu:u<=0:=(by rcases cA 0 u with g|g;{have:0<u*w:=jf g hw;omega};·exact g);refine⟨by have:=nn (x:=-v) (y:=-u) (by omega) (by omega);rw[Int.neg_mul_neg]at this;exact this,?_⟩;have:=dH h1 hu;have e:u*w*u=u*u*w:=(by grind);omega
theorem QV{u v k d w:Int}(hk:0<k)(e:d*u=v*k)(h0:0<=d)(h1:d<=k*w):lV 0 v (u*w):=by
 rcases dG 0 u with hu|hu;{left;constructor;{have:=nn h0 hu;rw[e]at this;exact Int.nonneg_of_mul_nonneg_left this hk};·have:=b8 h1 hu;rw[e]at this;have e2:k*w*u=u*w*k:=(by grind);rw[e2]at this;exact Int.le_of_mul_le_mul_right this hk};·right;constructor;{have:=dH h1 hu;rw[e]at this;have e2:k*w*u=u*w*k:=(by grind);rw[e2]at this;exact Int.le_of_mul_le_mul_right this hk};·have:=nn (x:=d) (y:=-u) h0 (by omega);have e2:d*-u=-v*k:=(by grind);rw[e2]at this;have:=Int.nonneg_of_mul_nonneg_left this hk;omega
theorem Ec{a p b w:Int}:lV (a*w) p (b*w)↔lV 0 (p-a*w) ((b-a)*w):=by
 have e:(b-a)*w=b*w-a*w:=(by grind);unfold lV;rw[e];omega
theorem ry{a b p:jk}{w:Int}(h:a≠b)(hw:0<w):has a b p w↔on a b p w:=by
 have hk:=kO h;constructor;{rintro⟨h0,h1,h2⟩;have g1:=QU hw (Ec.1 h1);have g2:=QU hw (Ec.1 h2);refine⟨h0,?_,?_⟩;{unfold dt;omega};·have e:kk a b*w=(b.1-a.1)*(b.1-a.1)*w+(b.2-a.2)*(b.2-a.2)*w:=(by unfold kk;grind);rw[e];unfold dt;omega};·rintro⟨h0,h1,h2⟩;have e1:dt a b p w*(b.1-a.1)=(p.1-a.1*w)*kk a b:=(by unfold cr at h0;unfold dt kk;grind);have e2:dt a b p w*(b.2-a.2)=(p.2-a.2*w)*kk a b:=(by unfold cr at h0;unfold dt kk;grind);exact⟨h0,Ec.2 (QV hk e1 h1 h2),Ec.2 (QV hk e2 h1 h2)⟩
def jM(p q:jk):Prop:=p.1<q.1∨(p.1=q.1∧p.2<q.2)
instance(p q:jk):Decidable (jM p q):=by
 unfold jM;infer_instance
def fwd(a b:jk):jk×jk:=if jM b a then(b,a)else(a,b)
def kP(s t:jk×jk):Int:=let f:=if jM s.1 t.1 then t.1 else s.1;let l:=if jM t.2 s.2 then t.2 else s.2;if jM f l then 3 else if f=l then 1 else 0
def pos(a b x:jk):Int:=dt a b x 1
theorem ql(a b:jk):pos a b a=0:=by
 unfold pos dt;grind
theorem r5(a b:jk):pos a b b=kk a b:=by
 unfold pos dt kk;grind
theorem wu{a b x y:jk}(h:a≠b)(hx:cr a b x 1=0)(hy:cr a b y 1=0):(jM a b->(jM x y↔pos a b x<pos a b y))∧(jM b a->(jM x y↔pos a b y<pos a b x)):=by
 have hk:=kO h;have e1:(pos a b y-pos a b x)*(b.1-a.1)=(y.1-x.1)*kk a b:=(by unfold cr at hx hy;unfold pos dt kk;grind);have e2:(pos a b y-pos a b x)*(b.2-a.2)=(y.2-x.2)*kk a b:=(by unfold cr at hx hy;unfold pos dt kk;grind);obtain⟨D,hD⟩:∃D,D=pos a b y-pos a b x:=⟨_,rfl⟩;obtain⟨K,hK⟩:∃K,K=kk a b:=⟨_,rfl⟩;rw[←hD,←hK]at e1 e2;rw[←hK]at hk;have sgn:∀{u z:Int},0<u->D*u=z*K->(0<D↔0<z)∧(D=0↔z=0)∧(D<0↔z<0):=(by intro u z hu e;have p1:0<D->0<z:=fun g=>(by have:=jf g hu;rw[e]at this;exact Int.pos_of_mul_pos_left this hk|>fun h=>h);have p2:D=0->z=0:=fun g=>(by rw[g,dA]at e;rcases aK.1 e.symm with q|q<;>omega);have p3:D<0->z<0:=fun g=>(by have:=gZ g hu;rw[e]at this;rcases cA z 0 with q|q;{exact q};·have:=nn q (bG hk);omega);omega);have t1:(jM x y↔0<y.1-x.1∨(y.1-x.1=0∧0<y.2-x.2)):=(by unfold jM;omega);have t2:pos a b x<pos a b y↔0<D:=(by omega);have t3:pos a b y<pos a b x↔D<0:=(by omega);rw[t1,t2,t3];constructor;·rintro(g|⟨g,g'⟩);{have:=sgn (u:=b.1-a.1) (by omega) e1;constructor;{rintro(q|⟨q,q'⟩);{omega};·have hz:D=0:=(by omega);rw[hz,dA]at e2;rcases aK.1 e2.symm with q|q<;>omega};·intro q;left;omega};·have:=sgn (u:=b.2-a.2) (by omega) e2;have hz:y.1-x.1=0:=(by rw[show b.1-a.1=0 by omega,bB]at e1;rcases aK.1 e1.symm with q|q<;>omega);omega
 ·rintro(g|⟨g,g'⟩);{have:=sgn (u:=a.1-b.1) (z:=-(y.1-x.1)) (by omega) (by grind);constructor;{rintro(q|⟨q,q'⟩);{omega};·have hz:D=0:=(by omega);rw[hz,dA]at e2;rcases aK.1 e2.symm with q|q<;>omega};·intro q;left;omega};·have:=sgn (u:=a.2-b.2) (z:=-(y.2-x.2)) (by omega) (by grind);have hz:y.1-x.1=0:=(by rw[show b.1-a.1=0 by omega,bB]at e1;rcases aK.1 e1.symm with q|q<;>omega);omega
theorem rS(p q:jk):jM p q∨p=q∨jM q p:=by
 unfold jM;by_cases h1:p.1=q.1;{by_cases h2:p.2=q.2;{exact .inr (.inl (cJ h1 h2))};·omega};·omega
theorem nh{p q:jk}(h:jM p q)(k:jM q p):False:=by
 unfold jM at h k;omega
theorem adD{p q:jk}(h:jM p q):p≠q:=by
 rintro rfl;exact nh h h
def count(k p q:Int):Int:=if q<0∨k<p then 0 else if q=0∨p=k then 1 else 2
end Vd
end Go.Proofs.YtcclepohmhdpbaaGreatDoor
namespace Go.Proofs.YtcclepohmhdpbaaGreatDoor
set_option linter.all false
namespace Vd
theorem r6(a b:jk):cr a b a 1=0:=by
 unfold cr;grind
theorem ri(a b:jk):cr a b b 1=0:=by
 unfold cr;grind
section
variable{f:jk->Int}{S:jk->Prop}(hf:∀x y,S x->S y->(jM x y↔f x<f y))
include hf
theorem adE{x y:jk}(hx:S x)(hy:S y):x=y↔f x=f y:=by
 constructor;{rintro rfl;rfl};·intro e;rcases rS x y with h|h|h;{have:=(hf x y hx hy).1 h;omega};{exact h};·have:=(hf y x hy hx).1 h;omega
theorem QW{a b:jk}(ha:S a)(hb:S b):S (fwd a b).1∧S (fwd a b).2∧f (fwd a b).1=min (f a) (f b)∧f (fwd a b).2=max (f a) (f b):=by
 unfold fwd;have:=hf b a hb ha;by_cases h:jM b a;{have h':=this.1 h;rw[ai h];exact⟨hb,ha,by simp only;omega,by simp only;omega⟩};·have h':¬f b<f a:=fun q=>h (this.2 q);rw[ag h];exact⟨ha,hb,by simp only;omega,by simp only;omega⟩
theorem La{s t:jk×jk}(h1:S s.1)(h2:S s.2)(h3:S t.1)(h4:S t.2):kP s t=if max (f s.1) (f t.1)<min (f s.2) (f t.2)then 3 else if max (f s.1) (f t.1)=min (f s.2) (f t.2)then 1 else 0:=by
 have e1:S (if jM s.1 t.1 then t.1 else s.1)∧f (if jM s.1 t.1 then t.1 else s.1)=max (f s.1) (f t.1):=(by have:=hf _ _ h1 h3;by_cases h:jM s.1 t.1;{have h':=this.1 h;rw[ai h];exact⟨h3,by omega⟩};·have h':=mt this.2 h;rw[ag h];exact⟨h1,by omega⟩);have e2:S (if jM t.2 s.2 then t.2 else s.2)∧f (if jM t.2 s.2 then t.2 else s.2)=min (f s.2) (f t.2):=(by have:=hf _ _ h4 h2;by_cases h:jM t.2 s.2;{have h':=this.1 h;rw[ai h];exact⟨h4,by omega⟩};·have h':=mt this.2 h;rw[ag h];exact⟨h2,by omega⟩);unfold kP;simp only[hf _ _ e1.1 e2.1,adE hf e1.1 e2.1,e1.2,e2.2]
end
theorem AH{a b c d:jk}(hab:a≠b)(hcd:c≠d)(hc:cr a b c 1=0)(hd:cr a b d 1=0):kP (fwd a b) (fwd c d)=if count (kk a b) (min (pos a b c) (pos a b d)) (max (pos a b c) (pos a b d))=2 then 3 else count (kk a b) (min (pos a b c) (pos a b d)) (max (pos a b c) (pos a b d)):=by
 have hk:=kO hab;have pa:=ql a b;have pb:=r5 a b;have ha:=r6 a b;have hb:=ri a b;rcases rS a b with h|h|h;{have hf:∀x y,cr a b x 1=0->cr a b y 1=0->(jM x y↔pos a b x<pos a b y):=fun x y hx hy=>(wu hab hx hy).1 h;obtain⟨s1,s2,s3,s4⟩:=QW (S:=fun x=>cr a b x 1=0) hf ha hb;obtain⟨t1,t2,t3,t4⟩:=QW (S:=fun x=>cr a b x 1=0) hf hc hd;have hne:pos a b c≠pos a b d:=fun e=>hcd ((adE (S:=fun x=>cr a b x 1=0) hf hc hd).2 e);rw[La (S:=fun x=>cr a b x 1=0) hf s1 s2 t1 t2,s3,s4,t3,t4,pa,pb];unfold count;(repeat' split);all_goals omega};{exact absurd h hab};·have hf:∀x y,cr a b x 1=0->cr a b y 1=0->(jM x y↔-pos a b x< -pos a b y):=fun x y hx hy=>(by rw[(wu hab hx hy).2 h];omega);obtain⟨s1,s2,s3,s4⟩:=QW (f:=fun x=>-pos a b x) (S:=fun x=>cr a b x 1=0) hf ha hb;obtain⟨t1,t2,t3,t4⟩:=QW (f:=fun x=>-pos a b x) (S:=fun x=>cr a b x 1=0) hf hc hd;have hne:pos a b c≠pos a b d:=fun e=>hcd ((adE (f:=fun x=>-pos a b x) (S:=fun x=>cr a b x 1=0) hf hc hd).2 (by omega));rw[La (f:=fun x=>-pos a b x) (S:=fun x=>cr a b x 1=0) hf s1 s2 t1 t2];rw[s3,s4,t3,t4,pa,pb];unfold count;(repeat' split);all_goals omega
def sg(n:Int):Int:=if n>0 then 1 else if n<0 then-1 else 0
def meet(a b c d:jk):Int:=let sA:=sg (cr a b c 1);let sB:=sg (cr a b d 1);let oA:=sg (cr c d a 1);let oB:=sg (cr c d b 1);if sA=0∧sB=0∧oA=0∧oB=0 then kP (fwd a b) (fwd c d)else if sA*sB>0∨oA*oB>0 then 0 else if sA*sB*oA*oB=0 then 1 else 2
def nn3(a b c d:jk):Int:=(b.1-a.1)*(d.2-c.2)-(b.2-a.2)*(d.1-c.1)
def common(a b c d:jk):Int×Bool:=let n:=nn3 a b c d;let s:=(c.1-a.1)*(d.2-c.2)-(c.2-a.2)*(d.1-c.1);let t:=(c.1-a.1)*(b.2-a.2)-(c.2-a.2)*(b.1-a.1);if n=0 then if t≠0 then(0,false)else(count (kk a b) (min (pos a b c) (pos a b d)) (max (pos a b c) (pos a b d)),false)else let n':=if n<0 then-n else n;let s':=if n<0 then-s else s;let t':=if n<0 then-t else t;if s'<0∨n'<s'∨t'<0∨n'<t' then(0,false)else(1,decide (0<s'∧s'<n'∧0<t'∧t'<n'))
end Vd
end Go.Proofs.YtcclepohmhdpbaaGreatDoor
namespace Go.Proofs.YtcclepohmhdpbaaGreatDoor
set_option linter.all false
namespace Vd
def how(x:Int×Bool):Int:=if x.1=2 then 3 else if x.2 then 2 else x.1
theorem jS(n:Int):(0<n∧sg n=1)∨(n=0∧sg n=0)∨(n<0∧sg n=-1):=by
 unfold sg;rcases bZ n 0 with h|h|h;{right;right;exact⟨h,by rw[ag (by omega),ai h]⟩};{right;left;exact⟨h,by rw[ag (by omega),ag (by omega)]⟩};·left;exact⟨h,by rw[ai h]⟩
theorem agK{n s t X:Int}(h:0<n):(if sg (-t)=0∧sg (n-t)=0∧sg s=0∧sg (s-n)=0 then X else if sg (-t)*sg (n-t)>0∨sg s*sg (s-n)>0 then 0 else if sg (-t)*sg (n-t)*sg s*sg (s-n)=0 then 1 else 2)=how (if s<0∨n<s∨t<0∨n<t then(0,false)else(1,decide (0<s∧s<n∧0<t∧t<n))):=by
 by_cases C:s<0∨n<s∨t<0∨n<t;{rw[ai C];rcases jS (-t)with⟨g1,k1⟩|⟨g1,k1⟩|⟨g1,k1⟩<;>rcases jS (n-t)with⟨g2,k2⟩|⟨g2,k2⟩|⟨g2,k2⟩<;>rcases jS s with⟨g3,k3⟩|⟨g3,k3⟩|⟨g3,k3⟩<;>rcases jS (s-n)with⟨g4,k4⟩|⟨g4,k4⟩|⟨g4,k4⟩<;>first|(exfalso;omega)|(rw[k1,k2,k3,k4];simp[how])};·rw[ag C];by_cases D:0<s∧s<n∧0<t∧t<n;{rw[aq D];rcases jS (-t)with⟨g1,k1⟩|⟨g1,k1⟩|⟨g1,k1⟩<;>rcases jS (n-t)with⟨g2,k2⟩|⟨g2,k2⟩|⟨g2,k2⟩<;>rcases jS s with⟨g3,k3⟩|⟨g3,k3⟩|⟨g3,k3⟩<;>rcases jS (s-n)with⟨g4,k4⟩|⟨g4,k4⟩|⟨g4,k4⟩<;>first|(exfalso;omega)|(rw[k1,k2,k3,k4];simp[how])};·rw[aC D];rcases jS (-t)with⟨g1,k1⟩|⟨g1,k1⟩|⟨g1,k1⟩<;>rcases jS (n-t)with⟨g2,k2⟩|⟨g2,k2⟩|⟨g2,k2⟩<;>rcases jS s with⟨g3,k3⟩|⟨g3,k3⟩|⟨g3,k3⟩<;>rcases jS (s-n)with⟨g4,k4⟩|⟨g4,k4⟩|⟨g4,k4⟩<;>first|(exfalso;omega)|(rw[k1,k2,k3,k4];simp[how])
theorem agL{n s t X:Int}(h:n<0):(if sg (-t)=0∧sg (n-t)=0∧sg s=0∧sg (s-n)=0 then X else if sg (-t)*sg (n-t)>0∨sg s*sg (s-n)>0 then 0 else if sg (-t)*sg (n-t)*sg s*sg (s-n)=0 then 1 else 2)=how (if-s<0∨-n< -s∨-t<0∨-n< -t then(0,false)else(1,decide (0< -s∧-s< -n∧0< -t∧-t< -n))):=by
 by_cases C:-s<0∨-n< -s∨-t<0∨-n< -t;{rw[ai C];rcases jS (-t)with⟨g1,k1⟩|⟨g1,k1⟩|⟨g1,k1⟩<;>rcases jS (n-t)with⟨g2,k2⟩|⟨g2,k2⟩|⟨g2,k2⟩<;>rcases jS s with⟨g3,k3⟩|⟨g3,k3⟩|⟨g3,k3⟩<;>rcases jS (s-n)with⟨g4,k4⟩|⟨g4,k4⟩|⟨g4,k4⟩<;>first|(exfalso;omega)|(rw[k1,k2,k3,k4];simp[how])};·rw[ag C];by_cases D:0< -s∧-s< -n∧0< -t∧-t< -n;{rw[aq D];rcases jS (-t)with⟨g1,k1⟩|⟨g1,k1⟩|⟨g1,k1⟩<;>rcases jS (n-t)with⟨g2,k2⟩|⟨g2,k2⟩|⟨g2,k2⟩<;>rcases jS s with⟨g3,k3⟩|⟨g3,k3⟩|⟨g3,k3⟩<;>rcases jS (s-n)with⟨g4,k4⟩|⟨g4,k4⟩|⟨g4,k4⟩<;>first|(exfalso;omega)|(rw[k1,k2,k3,k4];simp[how])};·rw[aC D];rcases jS (-t)with⟨g1,k1⟩|⟨g1,k1⟩|⟨g1,k1⟩<;>rcases jS (n-t)with⟨g2,k2⟩|⟨g2,k2⟩|⟨g2,k2⟩<;>rcases jS s with⟨g3,k3⟩|⟨g3,k3⟩|⟨g3,k3⟩<;>rcases jS (s-n)with⟨g4,k4⟩|⟨g4,k4⟩|⟨g4,k4⟩<;>first|(exfalso;omega)|(rw[k1,k2,k3,k4];simp[how])
theorem Dd{a b c d:jk}(hab:a≠b)(hcd:c≠d):meet a b c d=how (common a b c d):=by
 obtain⟨s,hs⟩:∃s,s=(c.1-a.1)*(d.2-c.2)-(c.2-a.2)*(d.1-c.1):=⟨_,rfl⟩;obtain⟨t,ht⟩:∃t,t=(c.1-a.1)*(b.2-a.2)-(c.2-a.2)*(b.1-a.1):=⟨_,rfl⟩;obtain⟨n,hn⟩:∃n,n=nn3 a b c d:=⟨_,rfl⟩;have e1:cr a b c 1=-t:=(by rw[ht];unfold cr;grind);have e2:cr a b d 1=n-t:=(by rw[ht,hn];unfold cr nn3;grind);have e3:cr c d a 1=s:=(by rw[hs];unfold cr;grind);have e4:cr c d b 1=s-n:=(by rw[hs,hn];unfold cr nn3;grind);by_cases h0:n=0;·by_cases h1:t=0;{have h2:s=0:=(by have g1:s*(b.1-a.1)=0:=(by rw[hn]at h0;unfold nn3 at h0;rw[hs];rw[ht]at h1;grind);have g2:s*(b.2-a.2)=0:=(by rw[hn]at h0;unfold nn3 at h0;rw[hs];rw[ht]at h1;grind);rcases aK.1 g1 with q|q;{exact q};·rcases aK.1 g2 with q'|q';{exact q'};·exact absurd (cJ (by omega) (by omega)) hab);have hc:cr a b c 1=0:=(by rw[e1,h1];rfl);have hd:cr a b d 1=0:=(by rw[e2,h0,h1];rfl);have m:meet a b c d=kP (fwd a b) (fwd c d):=(by unfold meet;simp[e1,e2,e3,e4,h0,h1,h2,sg]);rw[m,AH hab hcd hc hd];unfold common how;simp only[←hn,←ht,h0,h1];simp};·have m:meet a b c d=0:=(by unfold meet;simp only[e1,e2,e3,e4,h0,Int.zero_sub,ij];rcases jS (-t)with⟨g,e⟩|⟨g,e⟩|⟨g,e⟩;{simp[e]};{omega};·simp[e]);rw[m];unfold common how;simp only[←hn,←ht,h0,ai,ai h1];simp[h1]
 ·have m:common a b c d=(let n':=if n<0 then-n else n;let s':=if n<0 then-s else s;let t':=if n<0 then-t else t;if s'<0∨n'<s'∨t'<0∨n'<t' then(0,false)else(1,decide (0<s'∧s'<n'∧0<t'∧t'<n'))):=(by unfold common;simp only[←hn,←ht,←hs,ag h0]);rw[m];have l:meet a b c d=(if sg (-t)=0∧sg (n-t)=0∧sg s=0∧sg (s-n)=0 then kP (fwd a b) (fwd c d)else if sg (-t)*sg (n-t)>0∨sg s*sg (s-n)>0 then 0 else if sg (-t)*sg (n-t)*sg s*sg (s-n)=0 then 1 else 2):=(by unfold meet;simp only[e1,e2,e3,e4]);rw[l];clear m l e1 e2 e3 e4 hs ht hn;rcases eE h0 with hneg|hneg;{simp only[hneg,fM];exact agL (by omega)};·simp only[show¬n<0 by omega,eL];exact agK (by omega)
theorem mN(a b p:jk)(w:Int):cr b a p w=-cr a b p w:=by
 unfold cr;grind
def pF(a b p:jk)(w:Int):Bool:=if decide (a.2*w>p.2)=decide (b.2*w>p.2)then false else if b.2*w>p.2 then decide (sg (cr a b p w)>0)else decide (sg (cr a b p w)<0)
def Lb(a b p:jk)(w:Int):Bool:=let lo:=if a.2>b.2 then b else a;let hi:=if a.2>b.2 then a else b;decide (lo.2*w<=p.2∧p.2<hi.2*w)&&decide (cr lo hi p w>0)
theorem EL(n:Int):sg n>0↔n>0:=by rcases jS n with⟨h,e⟩|⟨h,e⟩|⟨h,e⟩<;>rw[e]<;>omega
theorem Jv(n:Int):sg n<0↔n<0:=by rcases jS n with⟨h,e⟩|⟨h,e⟩|⟨h,e⟩<;>rw[e]<;>omega
theorem qs(n:Int):sg n=0↔n=0:=by rcases jS n with⟨h,e⟩|⟨h,e⟩|⟨h,e⟩<;>rw[e]<;>omega
theorem adF{a b p:jk}{w:Int}(hw:0<w):pF a b p w=Lb a b p w:=by
 unfold pF Lb;by_cases h:a.2>b.2;{have h1:b.2*w<a.2*w:=gJ h hw;simp only[ai h,mN a b p w];by_cases hb:b.2*w>p.2;{rw[ai (by rw[aq hb,aq (show a.2*w>p.2 by omega)])];rw[aC (by omega),gz]};·by_cases ha:a.2*w>p.2;{rw[ag (by rw[aq ha,aC hb];simp),ag hb,aq (show b.2*w<=p.2∧p.2<a.2*w by omega),c8];exact bJ.2 (by rw[Jv];omega)};·rw[ai (by rw[aC ha,aC hb]),aC (by omega),gz]};·have h1:a.2*w<=b.2*w:=b8 (by omega) (by omega);simp only[ag h];by_cases hb:b.2*w>p.2;{by_cases ha:a.2*w>p.2;{rw[ai (by rw[aq ha,aq hb]),aC (by omega),gz]};·rw[ag (by rw[aq hb,aC ha];simp),ai hb,aq (show a.2*w<=p.2∧p.2<b.2*w by omega),c8];exact bJ.2 (EL _)};·rw[ai (by rw[aC hb,aC (show¬a.2*w>p.2 by omega)])];rw[aC (by omega),gz]
abbrev jK:=jk×jk
abbrev jC:=jk×Int
instance(a b c:Int):Decidable (lV a b c):=by
 unfold lV;infer_instance
instance(a b p:jk)(w:Int):Decidable (has a b p w):=by
 unfold has;infer_instance
def hasB(s:jK)(p:jC):Bool:=decide (has s.1 s.2 p.1 p.2)
def side(s:jK)(p:jC):Int:=sg (cr s.1 s.2 p.1 p.2)
def qi(p:jk):jC:=(p,1)
def jO(p q:jk):jC:=((p.1+q.1,p.2+q.2),2)
def kA(s t:jK):Int:=meet s.1 s.2 t.1 t.2
def jt(r:Ring):List jK:=r.zip r.tail
def mH:List jK->Bool->jC->Int|[],i,_=>if i then 2 else 0|s::t,i,p=>if hasB s p then 1 else mH t (if pF s.1 s.2 p.1 p.2 then !i else i) p
def place(r:Ring)(p:jC):Int:=mH (jt r) false p
def uz(s:jK)(f:jk)(to p:jk):jk:=if jM f p∧jM p to∧has s.1 s.2 p 1 then p else to
def ni(s:jK)(f:jk)(rings:Poly):jk:=rings.flatten.foldl (uz s f) s.2
def r7:Nat->jK->jk->Poly->List jC|0,_,_,_=>[]|n+1,s,f,rings=>if f=s.2 then[]else jO f (ni s f rings)::r7 n s (ni s f rings) rings
def lS(s:jK)(rings:Poly):List jC:=r7 (rings.flatten.length+1) (fwd s.1 s.2) (fwd s.1 s.2).1 rings
def anyI(n:Nat)(f:Nat->Bool):Bool:=(List.range n).any f
theorem S4(f:Nat->Bool):anyI 0 f=false:=rfl
theorem nS(n:Nat)(f:Nat->Bool):anyI (n+1) f=(anyI n f||f n):=by simp[anyI,dz]
theorem kz{n:Nat}{f:Nat->Bool}{i:Nat}(h:i<n)(hf:f i=true):anyI n f=true:=by
 simp only[anyI,aF,aV];exact⟨i,h,hf⟩
theorem kJ{n:Nat}{f:Nat->Bool}:anyI n f=true↔∃i,i<n∧f i=true:=by simp only[anyI,aF,aV]
def twice(r:Ring):Bool:=anyI r.length fun i=>decide (1<=i)&&anyI r.length fun j=>decide (i<j)&&decide (r[i]?=r[j]?)
def qm(n i j:Nat):Int:=if i+1=j∨(i=0∧j+1=n)then 1 else 0
def GI(l:List jK)(i:Nat):jK:=l.getD i ((0,0),(0,0))
def oJ(r:Ring):Bool:=anyI (jt r).length fun j=>anyI j fun i=>decide (kA (GI (jt r) i) (GI (jt r) j)≠qm (jt r).length i j)
def simple(l:Poly):Bool:=!(l.any fun r=>twice r||oJ r)
def jZ(s t:jK):Bool:=decide (kA s t=2)||decide (kA s t=3)
def jF(r o:Ring):Bool:=(jt r).any fun s=>(jt o).any fun t=>jZ s t
def lH(l:Poly)(i:Nat):Ring:=l.getD i []
def touch(l:Poly):Bool:=!(anyI l.length fun j=>anyI j fun i=>jF (lH l i) (lH l j))
def lies(r o:Ring)(k:Int):Bool:=!((jt r).any fun s=>(lS s [o]).any fun m=>decide (place o m≠k))
def r8(j:Nat):Int:=if j=0 then 2 else 0
def nested(l:Poly):Bool:=!(anyI l.length fun i=>decide (1<=i)&&anyI l.length fun j=>decide (i≠j)&&!(lies (lH l i) (lH l j) (r8 j)))
def kY(l:Poly)(p:jk):List Nat:=(List.range l.length).filter fun i=>decide (place (lH l i) (qi p)=1)
def qF(l:Poly)(a:List jk)(p:jk):List jk:=if¬(p∈a)∧1<(kY l p).length then a++[p]else a
def pG(l:Poly):List jk:=l.flatten.foldl (qF l) []
def p7(old first:Nat)(g:Nat):Nat:=if g=old then first else g
def lI(l:List Nat)(i:Nat):Nat:=l.getD i 0
def rj:List Nat->Nat->List Nat->Option (List Nat)|g,_,[]=>some g|g,a,j::t=>if lI g j=lI g a then none else rj (g.map (p7 (lI g j) (lI g a))) a t
def join(g:List Nat):List Nat->Option (List Nat)|[]=>some g|a::t=>rj g a t
def xH(l:Poly):List jk->List Nat->Bool|[],_=>false|p::t,g=>match join g (kY l p)with|none=>true|some g'=>xH l t g'
def way(l:Poly):Bool:=xH l (pG l) (List.range l.length)
def oh(c:Nat)(l:Poly):Bool:=if c=1 then simple l else if c=2 then touch l else if c=3 then nested l else !(way l)
def lR(a b:Poly):Bool:=a.any fun r=>b.any fun o=>jF r o
def nL:List Ring->Bool->Bool->jC->Bool|[],_,f,_=>f|r::t,first,f,p=>if place r p=1 then false else nL t false (f||(first&&decide (place r p=0))||(!first&&decide (place r p=2))) p
def free(l:Poly)(p:jC):Bool:=nL l true false p
def enters(a b:Poly):Bool:=a.any fun r=>(jt r).any fun s=>(lS s b).any fun m=>!(free b m)
def mS(m:jy)(i:Nat):Poly:=m.getD i []
def mO(m:jy):Bool:=anyI m.length fun j=>anyI j fun i=>lR (mS m i) (mS m j)||enters (mS m i) (mS m j)||enters (mS m j) (mS m i)
def nk(c:Nat)(m:jy):Bool:=m.any fun l=>!(oh c l)
def least(m:jy):Int:=if nk 1 m then 1 else if nk 2 m then 2 else if nk 3 m then 3 else if nk 4 m then 4 else if mO m then 5 else 0
theorem yI{p q r:jk}(h:jM p q)(k:jM q r):jM p r:=by
 unfold jM at*;omega
theorem Lc(s:jK)(f:jk):∀(l:List jk)(t:jk),l.foldl (uz s f) t=t∨(l.foldl (uz s f) t∈l∧jM f (l.foldl (uz s f) t)):=by
 intro l;induction l with|nil=>intro t;exact .inl rfl|cons p l ih=>intro t;rw[dO];by_cases h:jM f p∧jM p t∧has s.1 s.2 p 1;{have e:uz s f t p=p:=ai h;rw[e];rcases ih p with k|⟨k1,k2⟩;{rw[k];exact .inr ⟨by simp,h.1⟩};·exact .inr ⟨by simp[k1],k2⟩};·have e:uz s f t p=t:=ag h;rw[e];rcases ih t with k|⟨k1,k2⟩;{exact .inl k};·exact .inr ⟨by simp[k1],k2⟩
def ahead(s:jK)(f:jk)(rings:Poly):Nat:=if f=s.2 then 0 else 1+rings.flatten.countP fun p=>decide (jM f p)
theorem VV(s:jK)(f:jk)(rings:Poly):ahead s f rings<=rings.flatten.length+1:=by
 unfold ahead;split;{omega};·have:=gC (p:=fun p=>decide (jM f p)) (l:=rings.flatten);omega
theorem Oe{s:jK}{f:jk}{rings:Poly}(h:f≠s.2):ahead s (ni s f rings) rings<ahead s f rings:=by
 unfold ahead;rw[ag h];split;{omega};·rename_i g;rcases Lc s f rings.flatten s.2 with k|⟨k1,k2⟩;{exact absurd k g};·have:rings.flatten.countP (fun p=>decide (jM (ni s f rings) p))<rings.flatten.countP (fun p=>decide (jM f p)):=(by obtain⟨l1,l2,e⟩:=gi k1;have mono:∀l:List jk,l.countP (fun p=>decide (jM (ni s f rings) p))<=l.countP (fun p=>decide (jM f p)):=(by intro l;apply gD;intro x _ hx;exact aq (yI k2 (bL hx)));have m1:=mono l1;have m2:=mono l2;have e':rings.flatten=l1++ni s f rings::l2:=e;generalize hx:ni s f rings=x at*;have k2':jM f x:=(by rw[←hx];exact k2);rw[e',gj,gj,fj,fj];have d1:decide (jM x x)=false:=aC fun q=>nh q q;have d2:decide (jM f x)=true:=aq k2';simp only[d1,d2,fM];simp;omega);omega
theorem S5{s:jK}{f:jk}{rings:Poly}(h:f=s.2)(n:Nat):r7 n s f rings=[]:=by cases n with|zero=>rfl|succ n=>unfold r7;rw[ai h]
theorem S6:∀(n:Nat)(s:jK)(f:jk)(rings:Poly),(r7 n s f rings).length<=n:=by
 intro n;induction n with|zero=>intro s f rings;exact bA _|succ n ih=>intro s f rings;unfold r7;split;{simp};·have:=ih s (ni s f rings) rings;simp;omega
theorem AJ(s:jK)(rings:Poly):(lS s rings).length<=rings.flatten.length+1:=S6 _ _ _ _
theorem j6(r:Ring):(jt r).length=r.length-1:=by simp[jt]
theorem kF{r:Ring}{i:Nat}{p q:jk}(hp:r[i]?=some p)(hq:r[i+1]?=some q):(jt r)[i]?=some (p,q):=by
 have hq':r.tail[i]?=some q:=(by simpa using hq);simp[jt,List.getElem?_zip_eq_some,hp,hq']
theorem lJ{r:Ring}{s:jK}(h:s∈jt r):s.1∈r∧s.2∈r:=by
 have:=List.of_mem_zip (a:=s.1) (b:=s.2) (show(s.1,s.2)∈r.zip r.tail from h);exact⟨this.1,List.mem_of_mem_tail this.2⟩
theorem Ld(s:jK)(f:jk)(rings:Poly):ni s f rings=s.2∨ni s f rings∈rings.flatten:=by
 rcases Lc s f rings.flatten s.2 with k|⟨k1,_⟩;{exact .inl k};·exact .inr k1
def Cd(p:jk):Prop:=-32768<=p.1∧p.1<=32768∧-32768<=p.2∧p.2<=32768
def tB(s:jK):Prop:=Cd s.1∧Cd s.2
def Cb(r:Ring):Prop:=∀p∈r,Cd p
def xI(l:Poly):Prop:=∀r∈l,Cb r
def Sp(p:jC):Prop:=-1048576<=p.1.1∧p.1.1<=1048576∧-1048576<=p.1.2∧p.1.2<=1048576∧1<=p.2∧p.2<=1048576
theorem sI{p:jk}(h:Cd p):Sp (qi p):=by
 unfold Cd at h;unfold Sp qi;simp only;omega
theorem adG{p q:jk}(h:Cd p)(k:Cd q):Sp (jO p q):=by
 unfold Cd at h k;unfold Sp jO;simp only;omega
theorem wC{r:Ring}(h:Cb r){s:jK}(hs:s∈jt r):tB s:=⟨h _ (lJ hs).1,h _ (lJ hs).2⟩
theorem EM{s:jK}(h:tB s):tB (fwd s.1 s.2):=by
 unfold fwd;split;{exact⟨h.2,h.1⟩};·exact h
theorem tM{s:jK}{f:jk}{rings:Poly}(hs:tB s)(hr:xI rings):Cd (ni s f rings):=by
 rcases Ld s f rings with k|k;{rw[k];exact hs.2};·obtain⟨r,h1,h2⟩:=cE.1 k;exact hr r h1 _ h2
theorem VW{s:jK}{rings:Poly}(hs:tB s)(hr:xI rings):∀(n:Nat)(f:jk),Cd f->∀m∈r7 n s f rings,Sp m:=by
 intro n;induction n with|zero=>intro f _ m hm;cases hm|succ n ih=>intro f hf m hm;unfold r7 at hm;split at hm;{cases hm};·rcases aE.1 hm with rfl|hm;{exact adG hf (tM hs hr)};·exact ih _ (tM hs hr) m hm
theorem Jw{s:jK}{rings:Poly}(hs:tB s)(hr:xI rings):∀m∈lS s rings,Sp m:=VW (EM hs) hr _ _ (EM hs).1
theorem agM{m:jy}(h:Pl.wrong m=0):∀l∈m,xI l:=by
 have h4:m.any Pl.rY=false:=(by unfold Pl.wrong at h;split at h;{omega};·split at h;{omega};·split at h;{omega};·rename_i k;simpa using k);intro l hl r hr p hp;have h1:Pl.sQ p=false:=(by cases hw:Pl.sQ p with|false=>rfl|true=>have:m.any Pl.rY=true:=aF.2 ⟨l,hl,aF.2 ⟨r,hr,aF.2 ⟨p,hp,hw⟩⟩⟩;rw[h4]at this;cases this);unfold Pl.sQ Pl.vW at h1;simp at h1;unfold Cd;omega
def jj(r:Ring)(i:Nat):jk:=r.getD i (0,0)
def kZ(r:Ring)(i:Nat):jk:=if i+1<r.length then jj r (i+1)else jj r 1
def turns(r:Ring)(i:Nat):Bool:=decide (1<=i)&&decide (side (jj r (i-1),jj r i) (qi (kZ r i))≠0)
def kB(r:Ring)(n:Nat):Ring:=((List.range n).filter (turns r)).map (jj r)
def jq(r:Ring):Ring:=kB r r.length
def xJ(v:Ring)(f i:Nat):Nat:=if jM (jj v i) (jj v f)then i else f
def nF(v:Ring)(n:Nat):Nat:=(List.range n).foldl (xJ v) 0
def jN(v:Ring):Nat:=nF v v.length
def xk(v:Ring)(k:Nat):Bool:=decide (0<side (jj v ((k+v.length-1)%v.length),jj v k) (qi (jj v ((k+1)%v.length))))
def tN(v:Ring)(l:Bool):Nat:=if xk v (jN v)=l then 1 else v.length-1
def jA(r:Ring)(l:Bool):Ring:=if(jq r).length=0 then[]else(List.range ((jq r).length+1)).map fun i=>jj (jq r) ((jN (jq r)+i*tN (jq r) l)%(jq r).length)
def kI:Ring->Ring->Int|[],[]=>0|[],_::_=>-1|_::_,[]=>1|p::t,q::u=>if jM q p then 1 else if jM p q then-1 else kI t u
def lP:Poly->Poly->Int|[],[]=>0|[],_::_=>-1|_::_,[]=>1|p::t,q::u=>if kI p q≠0 then kI p q else lP t u
def isA(m:jy)(a i:Nat):Bool:=decide (lP (mS m i) (mS m a)<0)||(decide (lP (mS m i) (mS m a)=0)&&decide (i<a))
def oK(m:jy)(a n:Nat):Nat:=(List.range n).countP (isA m a)
def Of(m:jy)(o:jy)(i:Nat):jy:=o.set (oK m i m.length) (mS m i)
def VX(m:jy)(n:Nat):jy:=(List.range n).foldl (Of m) (List.replicate m.length [])
def kM(m:jy):jy:=VX m m.length
def mC(l:Poly):jy:=l.map fun r=>[jA r false]
def kn:Poly->Poly|[]=>[]|r::l=>jA r true::(kM (mC l)).flatten
def form(m:jy):jy:=kM (m.map kn)
def uE:List Ring->Bool->jC->Bool|[],_,_=>true|r::t,first,p=>if(first&&decide (place r p=0))||(!first&&decide (place r p=2))then false else uE t false p
def uT(l:Poly)(p:jC):Bool:=uE l true p&&decide (0<l.length)
def AK(m:jy)(p:jC):Bool:=m.any fun l=>uT l p
def along(s:jK):jk:=(s.2.1-s.1.1,s.2.2-s.1.2)
def mU(w o:jk):Int:=w.1*o.2-w.2*o.1
def Og(n:Int):Int:=if n<0 then-n else n
def DR(p:jC)(s:jK):jk:=(s.1.1*p.2-p.1.1,s.1.2*p.2-p.1.2)
def oW(p:jC)(w:jk)(s:jK):Int:=if Og (mU (DR p s) (along s))=0 then 1 else(Og (p.2*mU w (along s))).tdiv (Og (mU (DR p s) (along s)))+1
def tO(p:jC)(w:jk)(n:Int)(s:jK):Int:=if n<oW p w s then oW p w s else n
def VY(p:jC)(w:jk)(n:Int):jC:=((p.1.1*n+p.2*w.1,p.1.2*n+p.2*w.2),p.2*n)
def near(both:List jK)(p:jC)(w:jk):jC:=VY p w (both.foldl (tO p w) 1)
def uU(both:List jK)(s t:jK)(m:jC):Option jC:=if mU (along s) (along t)<0 then some (near both m (along t))else if 0<mU (along s) (along t)then some (near both m (-(along t).1,-(along t).2))else none
def p8(other:jy)(both:List jK)(s:jK)(m:jC):List jK->Option jC|[]=>if AK other m then some (near both m ((along s).2,-(along s).1))else some m|t::l=>if hasB t m then uU both s t m else p8 other both s m l
def l7(l:Poly):List jK:=l.flatMap jt
def mw(a b:jy):Option jC:=(l7 a.flatten).findSome? fun s=>(lS s (a.flatten++b.flatten)).findSome? fun m=>p8 b (l7 (a.flatten++b.flatten)) s m (l7 b.flatten)
def spot(a b:jy):Option jC:=match mw a b with|some p=>some p|none=>mw b a
def Cut(a b:jk)(l:List jk)(x:jk):Prop:=x=a∨x=b∨(x∈l∧has a b x 1)
structure Cons(f:jk->Int)(C:jk->Prop)(x y:jk):Prop where
 cx:C x
 cy:C y
 lt:f x<f y
 no:∀c,C c->¬(f x<f c∧f c<f y)
def sV(f:jk->Int)(ok:jk->Prop)[DecidablePred ok](from_ to p:jk):jk:=if ok p∧f from_<f p∧f p<f to then p else to
theorem Hh(f:jk->Int)(ok:jk->Prop)[DecidablePred ok](x:jk):∀(l:List jk)(t:jk),f x<f t->(l.foldl (sV f ok x) t=t∨(l.foldl (sV f ok x) t∈l∧ok (l.foldl (sV f ok x) t)))∧f x<f (l.foldl (sV f ok x) t)∧f (l.foldl (sV f ok x) t)<=f t∧∀c∈l,ok c->¬(f x<f c∧f c<f (l.foldl (sV f ok x) t)):=by
 intro l;induction l with|nil=>intro t h;exact⟨.inl rfl,h,dj _,by simp⟩|cons p l ih=>intro t h;rw[dO];by_cases k:ok p∧f x<f p∧f p<f t;{rw[show sV f ok x t p=p from ai k];obtain⟨h1,h2,h3,h4⟩:=ih p k.2.1;refine⟨?_,h2,by omega,?_⟩;{rcases h1 with e|⟨e1,e2⟩;{rw[e];exact .inr ⟨by simp,k.1⟩};·exact .inr ⟨by simp[e1],e2⟩};·intro c hc hok;rcases aE.1 hc with rfl|hc;{omega};·exact h4 c hc hok};·rw[show sV f ok x t p=t from ag k];obtain⟨h1,h2,h3,h4⟩:=ih t h;refine⟨?_,h2,h3,?_⟩;{rcases h1 with e|⟨e1,e2⟩;{exact .inl e};·exact .inr ⟨by simp[e1],e2⟩};·intro c hc hok;rcases aE.1 hc with rfl|hc;{intro⟨q1,q2⟩;exact k ⟨hok,q1,by omega⟩};·exact h4 c hc hok
def Le(f:jk->Int)(ok:jk->Prop)[DecidablePred ok](l:List jk)(b:jk):Nat->jk->List jC|0,_=>[]|n+1,x=>if x=b then[]else jO x (l.foldl (sV f ok x) b)::Le f ok l b n (l.foldl (sV f ok x) b)
def fuel(f:jk->Int)(l:List jk)(b x:jk):Nat:=if x=b then 0 else 1+l.countP fun p=>decide (f x<f p)
theorem Hi{f:jk->Int}{ok:jk->Prop}[DecidablePred ok]{l:List jk}{b x:jk}(hx:x≠b)(h:f x<f b):fuel f l b (l.foldl (sV f ok x) b)<fuel f l b x:=by
 obtain⟨h1,h2,-,-⟩:=Hh f ok x l b h;unfold fuel;rw[ag hx];split;{omega};·rename_i g;rcases h1 with e|⟨e1,e2⟩;{exact absurd e g};·generalize l.foldl (sV f ok x) b=y at*;obtain⟨l1,l2,e⟩:=gi e1;have mono:∀l:List jk,l.countP (fun p=>decide (f y<f p))<=l.countP (fun p=>decide (f x<f p)):=(by intro l;apply gD;intro z _ hz;have:=bL hz;exact aq (by omega));have m1:=mono l1;have m2:=mono l2;rw[e,gj,gj,fj,fj];simp[h2];omega
theorem VZ{f:jk->Int}{C ok:jk->Prop}[DecidablePred ok]{l:List jk}{a b:jk}(hC:∀x,C x↔x=a∨x=b∨(x∈l∧ok x))(inj:∀x y,C x->C y->f x=f y->x=y)(top:∀x,C x->f x<=f b):∀(n:Nat)(x:jk),C x->fuel f l b x<=n->f a<=f x->∀m,m∈Le f ok l b n x↔∃y z,Cons f C y z∧f x<=f y∧m=jO y z:=by
 intro n;induction n with|zero=>intro x hx hn ha m;have:x=b:=(by unfold fuel at hn;split at hn<;>first|assumption|omega);subst this;constructor;{intro h;cases h};{rintro⟨y,z,hc,h1,-⟩;have:=top z hc.cy;have:=hc.lt;omega}|succ n ih=>intro x hx hn ha m;unfold Le;by_cases hb:x=b;{rw[ai hb];constructor;{intro h;cases h};·rintro⟨y,z,hc,h1,-⟩;have:=top z hc.cy;have:=hc.lt;rw[hb]at h1;omega};·rw[ag hb];have hlt:f x<f b:=(by have:=top x hx;rcases eF this with h|h;{exact h};·exact absurd (inj x b hx ((hC b).2 (.inr (.inl rfl))) h) hb);have hf:=Hi (ok:=ok) (l:=l) hb hlt;obtain⟨h1,h2,h3,h4⟩:=Hh f ok x l b hlt;generalize hy:l.foldl (sV f ok x) b=y at*;have cy:C y:=(by rw[hC];rcases h1 with e|⟨e1,e2⟩;{exact .inr (.inl e)};·exact .inr (.inr ⟨e1,e2⟩));have hno:∀c,C c->¬(f x<f c∧f c<f y):=(by intro c hc;rcases(hC c).1 hc with rfl|rfl|⟨e1,e2⟩;{omega};{omega};·exact h4 c e1 e2);have key:=ih y cy (by omega) (by omega) m;rw[aE,key];constructor;{rintro(rfl|⟨u,v,hc,k1,k2⟩);{exact⟨x,y,⟨hx,cy,h2,hno⟩,dj _,rfl⟩};·exact⟨u,v,hc,by omega,k2⟩};·rintro⟨u,v,hc,k1,k2⟩;by_cases hu:f y<=f u;{exact .inr ⟨u,v,hc,hu,k2⟩};·left;have e1:u=x:=(by refine inj u x hc.cx hx ?_;have:=hno u hc.cx;omega);subst e1;have e2:v=y:=(by refine inj v y hc.cy cy ?_;have g1:=hno v hc.cy;have g2:=hc.no y cy;have g3:=hc.lt;omega);rw[k2,e2]
theorem oa(a b:jk):has a b a 1:=⟨r6 a b,by unfold lV;omega,by unfold lV;omega⟩
theorem mI(a b:jk):has a b b 1:=⟨ri a b,by unfold lV;omega,by unfold lV;omega⟩
theorem kC{a b:jk}{l:List jk}{x:jk}(h:Cut a b l x):has a b x 1:=by
 rcases h with rfl|rfl|h;{exact oa _ _};{exact mI _ _};·exact h.2
theorem lC{a b x:jk}(hab:a≠b)(h:has a b x 1):0<=pos a b x∧pos a b x<=kk a b:=by
 have:=(ry hab (by omega)).1 h;exact⟨this.2.1,by have:=this.2.2;unfold pos;omega⟩
theorem rT{a b x y:jk}(hab:a≠b)(hx:cr a b x 1=0)(hy:cr a b y 1=0)(e:pos a b x=pos a b y):x=y:=by
 have hk:=kO hab;have e1:(pos a b y-pos a b x)*(b.1-a.1)=(y.1-x.1)*kk a b:=(by unfold cr at hx hy;unfold pos dt kk;grind);have e2:(pos a b y-pos a b x)*(b.2-a.2)=(y.2-x.2)*kk a b:=(by unfold cr at hx hy;unfold pos dt kk;grind);rw[e,iN,dA]at e1 e2;have z:∀t:Int,0=t*kk a b->t=0:=(by intro t h;rcases aK.1 h.symm with h|h;{exact h};·omega);have:=z _ e1;have:=z _ e2;exact cJ (by omega) (by omega)
theorem EN{a b:jk}(hab:a≠b)(l:List jk){n:Nat}(hn:l.length+1<=n)(m:jC):m∈Le (pos a b) (fun x=>has a b x 1) l b n a↔∃y z,Cons (pos a b) (Cut a b l) y z∧m=jO y z:=by
 have hk:=kO hab;have:=VZ (f:=pos a b) (C:=Cut a b l) (ok:=fun x=>has a b x 1) (l:=l) (a:=a) (b:=b) (fun x=>Iff.rfl) (fun x y hx hy e=>rT hab (kC hx).1 (kC hy).1 e) (fun x hx=>by rw[r5];exact(lC hab (kC hx)).2) n a (.inl rfl) (by unfold fuel;split;{omega};·have:=gC (p:=fun p=>decide (pos a b a<pos a b p)) (l:=l);omega) (dj _) m;rw[this];constructor;{rintro⟨y,z,hc,-,e⟩;exact⟨y,z,hc,e⟩};·rintro⟨y,z,hc,e⟩;exact⟨y,z,hc,by rw[ql];exact(lC hab (kC hc.cx)).1,e⟩
theorem Lf{a b x y:jk}(h:jM a b)(hx:cr a b x 1=0)(hy:cr a b y 1=0):jM x y↔pos a b x<pos a b y:=(wu (adD h) hx hy).1 h
theorem Lg{a b x:jk}(h:jM a b)(hx:cr a b x 1=0):∀(l:List jk)(t:jk),cr a b t 1=0->l.foldl (uz (a,b) x) t=l.foldl (sV (pos a b) (fun p=>has a b p 1) x) t∧cr a b (l.foldl (uz (a,b) x) t) 1=0:=by
 intro l;induction l with|nil=>intro t ht;exact⟨rfl,ht⟩|cons p l ih=>intro t ht;rw[dO,dO];by_cases hp:has a b p 1;{have e1:=Lf h hx hp.1;have e2:=Lf h hp.1 ht;have e:uz (a,b) x t p=sV (pos a b) (fun p=>has a b p 1) x t p:=(by unfold uz sV;by_cases c:jM x p∧jM p t;{rw[ai ⟨c.1,c.2,hp⟩,ai ⟨hp,e1.1 c.1,e2.1 c.2⟩]};·rw[ag (fun q=>c ⟨q.1,q.2.1⟩),ag (fun q=>c ⟨e1.2 q.2.1,e2.2 q.2.2⟩)]);have ht':cr a b (uz (a,b) x t p) 1=0:=(by unfold uz;split;exact hp.1;exact ht);rw[←e];exact ih _ ht'};·rw[show uz (a,b) x t p=t from ag (fun q=>hp q.2.2),show sV (pos a b) (fun p=>has a b p 1) x t p=t from ag (fun q=>hp q.1)];exact ih t ht
theorem Li{a b:jk}(h:jM a b)(rings:Poly):∀(n:Nat)(x:jk),cr a b x 1=0->r7 n (a,b) x rings=Le (pos a b) (fun p=>has a b p 1) rings.flatten b n x:=by
 intro n;induction n with|zero=>intro x _;rfl|succ n ih=>intro x hx;obtain⟨e,k⟩:=Lg h hx rings.flatten b (ri a b);unfold r7 Le ni;simp only;rw[←e,ih _ k]
theorem nT{a b p:jk}{w:Int}:has a b p w↔has b a p w:=by
 unfold has;rw[mN a b p w];unfold lV;omega
theorem EO{a b:jk}{l:List jk}{x:jk}:Cut a b l x↔Cut b a l x:=by
 unfold Cut;rw[nT (a:=a)];constructor;{rintro(h|h|h);{exact .inr (.inl h)};{exact .inl h};·exact .inr (.inr h)};·rintro(h|h|h);{exact .inr (.inl h)};{exact .inl h};·exact .inr (.inr h)
theorem xK(a b x:jk):pos b a x=kk a b-pos a b x:=by
 unfold pos dt kk;grind
theorem Hs{a b:jk}{l:List jk}{x y:jk}(h:Cons (pos a b) (Cut a b l) x y):Cons (pos b a) (Cut b a l) y x:=by
 refine⟨EO.1 h.cy,EO.1 h.cx,?_,?_⟩;{rw[xK,xK a b];have:=h.lt;omega};·intro c hc;have:=h.no c (EO.2 hc);rw[xK,xK a b c,xK a b x];omega
theorem Lj(x y:jk):jO x y=jO y x:=by
 unfold jO;rw[Int.add_comm,Int.add_comm x.2]
theorem pH{a b:jk}(hab:a≠b)(rings:Poly)(m:jC):m∈lS (a,b) rings↔∃y z,Cons (pos a b) (Cut a b rings.flatten) y z∧m=jO y z:=by
 unfold lS fwd;simp only;by_cases h:jM b a;{rw[ai h];simp only;rw[Li h rings _ _ (r6 b a),EN (dh hab) _ (bA _)];constructor;{rintro⟨y,z,hc,e⟩;exact⟨z,y,Hs hc,by rw[e,Lj]⟩};·rintro⟨y,z,hc,e⟩;exact⟨z,y,Hs hc,by rw[e,Lj]⟩};·have h':jM a b:=(by rcases rS a b with k|k|k;{exact k};{exact absurd k hab};·exact absurd k h);rw[ag h];simp only;rw[Li h' rings _ _ (r6 a b),EN hab _ (bA _)]
def Ll(a b x y:jk):Int:=(y.1-x.1)*(b.1-a.1)+(y.2-x.2)*(b.2-a.2)
theorem Lm(a b x y:jk):Ll a b x y=pos a b y-pos a b x:=by
 unfold Ll pos dt;grind
instance(a b p:jk)(w:Int):Decidable (on a b p w):=by
 unfold on;infer_instance
def Ln(a b x t p:jk):jk:=if on a b p 1∧Ll a b x p>0∧Ll a b p t>0 then p else t
def xL(a b x:jk)(rings:Poly):jk:=rings.flatten.foldl (Ln a b x) b
def r9(a b:jk)(rings:Poly):Nat->jk->List jC|0,_=>[]|n+1,x=>if x=b then[]else jO x (xL a b x rings)::r9 a b rings n (xL a b x rings)
theorem aaj{a b:jk}(hab:a≠b)(x t p:jk):Ln a b x t p=sV (pos a b) (fun p=>has a b p 1) x t p:=by
 unfold Ln sV;have e:=ry (p:=p) (w:=1) hab (by omega);rw[Lm,Lm];by_cases c:has a b p 1∧pos a b x<pos a b p∧pos a b p<pos a b t;{rw[ai c,ai ⟨e.1 c.1,by omega,by omega⟩]};·rw[ag c,ag (fun q=>c ⟨e.2 q.1,by omega,by omega⟩)]
theorem AL{a b:jk}(hab:a≠b)(x:jk)(rings:Poly):xL a b x rings=rings.flatten.foldl (sV (pos a b) (fun p=>has a b p 1) x) b:=by
 unfold xL;congr 1;funext t p;exact aaj hab x t p
theorem V3{a b:jk}(hab:a≠b)(rings:Poly):∀(n:Nat)(x:jk),r9 a b rings n x=Le (pos a b) (fun p=>has a b p 1) rings.flatten b n x:=by
 intro n;induction n with|zero=>intro x;rfl|succ n ih=>intro x;unfold r9 Le;rw[AL hab,ih]
def zV(a b:jk)(rings:Poly):List jC:=r9 a b rings (rings.flatten.length+1) a
theorem V4{a b:jk}(hab:a≠b)(rings:Poly)(m:jC):m∈zV a b rings↔∃y z,Cons (pos a b) (Cut a b rings.flatten) y z∧m=jO y z:=by
 unfold zV;rw[V3 hab,EN hab _ (bA _)]
theorem yJ{a b:jk}(hab:a≠b)(rings:Poly)(m:jC):m∈lS (a,b) rings↔m∈zV a b rings:=by rw[pH hab,V4 hab]
theorem Jx{g:List Nat}{f:Nat->Nat}{i:Nat}(h:i<g.length):lI (g.map f) i=f (lI g i):=by
 unfold lI;simp[az,aG h]
theorem Jy{o f x y:Nat}(h:p7 o f x=p7 o f y):x=y∨((x=o∨x=f)∧(y=o∨y=f)):=by
 unfold p7 at h;split at h<;>split at h<;>omega
theorem V5:∀(js:List Nat)(g:List Nat)(a:Nat)(g':List Nat),a<g.length->(∀j∈js,j<g.length)->rj g a js=some g'->g'.length=g.length∧(∀x y,x<g.length->y<g.length->lI g x=lI g y->lI g' x=lI g' y)∧(∀j∈js,lI g' j=lI g' a)∧(∀j∈js,lI g j≠lI g a)∧js.Pairwise (fun i j=>lI g i≠lI g j):=by
 intro js;induction js with|nil=>intro g a g' _ _ h;simp only[rj,fG]at h;subst h;exact⟨rfl,fun _ _ _ _ e=>e,by simp,by simp,List.Pairwise.nil⟩|cons j t ih=>intro g a g' ha hj h;unfold rj at h;split at h;{cases h};·rename_i hne;have hjl:=hj j (by simp);have key:=ih _ a g' (by simpa using ha) (by intro x hx;simpa using hj x (by simp[hx])) h;obtain⟨k1,k2,k3,k4,k5⟩:=key;simp only[aA]at k1 k2;have m:∀x,x<g.length->lI (g.map (p7 (lI g j) (lI g a))) x=p7 (lI g j) (lI g a) (lI g x):=fun x hx=>Jx hx;have ma:p7 (lI g j) (lI g a) (lI g a)=lI g a:=(by unfold p7;rw[ag (dh hne)]);have mj:p7 (lI g j) (lI g a) (lI g j)=lI g a:=(by unfold p7;rw[ai rfl]);have kt:∀i∈t,lI g i≠lI g a∧lI g i≠lI g j:=(by intro i hi;have hil:=hj i (by simp[hi]);have:=k4 i hi;rw[m i hil,m a ha,ma]at this;constructor;{intro e;rw[e,ma]at this;exact this rfl};·intro e;rw[e,mj]at this;exact this rfl);refine⟨k1,?_,?_,?_,?_⟩;{intro x y hx hy e;refine k2 x y hx hy ?_;rw[m x hx,m y hy,e]};{intro i hi;rcases aE.1 hi with rfl|hi;{refine k2 _ _ hjl ha ?_;rw[m _ hjl,m a ha,mj,ma]};·exact k3 i hi};{intro i hi;rcases aE.1 hi with rfl|hi;{exact hne};·exact(kt i hi).1};·refine List.Pairwise.cons (fun i hi=>dh (kt i hi).2) ?_;refine List.Pairwise.imp_of_mem ?_ k5;intro x y hx hy e e2;rw[m x (hj x (by simp[hx])),m y (hj y (by simp[hy])),e2]at e;exact e rfl
theorem Oh:∀(js:List Nat)(g:List Nat)(a:Nat)(g':List Nat),a<g.length->(∀j∈js,j<g.length)->rj g a js=some g'->∀x y,x<g.length->y<g.length->lI g' x=lI g' y->lI g x=lI g y∨∃u∈a::js,∃v∈a::js,lI g u=lI g x∧lI g v=lI g y:=by
 intro js;induction js with|nil=>intro g a g' _ _ h x y _ _ e;simp only[rj,fG]at h;subst h;exact .inl e|cons j t ih=>intro g a g' ha hj h x y hx hy e;unfold rj at h;split at h;{cases h};·rename_i hne;have hjl:=hj j (by simp);have m:∀x,x<g.length->lI (g.map (p7 (lI g j) (lI g a))) x=p7 (lI g j) (lI g a) (lI g x):=fun x hx=>Jx hx;have key:=ih _ a g' (by simpa using ha) (by intro x hx;simpa using hj x (by simp[hx])) h x y (by simpa using hx) (by simpa using hy) e;have up:∀u∈a::t,∀z,z<g.length->lI (g.map (p7 (lI g j) (lI g a))) u=lI (g.map (p7 (lI g j) (lI g a))) z->∃u'∈a::j::t,lI g u'=lI g z:=(by intro u hu z hz e;have hul:u<g.length:=(by rcases aE.1 hu with rfl|hu;{exact ha};·exact hj u (by simp[hu]));rw[m u hul,m z hz]at e;rcases Jy e with e|⟨_,e|e⟩;{refine⟨u,?_,e⟩;rcases aE.1 hu with rfl|hu;{simp};·simp[hu]};{exact⟨j,by simp,e.symm⟩};·exact⟨a,by simp,e.symm⟩);rcases key with k|⟨u,hu,v,hv,k1,k2⟩;{rw[m x hx,m y hy]at k;rcases Jy k with k|⟨k1,k2⟩;{exact .inl k};·right;have one:∀z,(lI g z=lI g j∨lI g z=lI g a)->∃u∈a::j::t,lI g u=lI g z:=(by rintro z(e|e);{exact⟨j,by simp,e.symm⟩};·exact⟨a,by simp,e.symm⟩);obtain⟨u,hu,e1⟩:=one x k1;obtain⟨v,hv,e2⟩:=one y k2;exact⟨u,hu,v,hv,e1,e2⟩};·right;obtain⟨u',Lp,e1⟩:=up u hu x hx k1;obtain⟨v',hv',e2⟩:=up v hv y hy k2;exact⟨u',Lp,v',hv',e1,e2⟩
theorem Oi:∀(js:List Nat)(g:List Nat)(a:Nat),a<g.length->(∀j∈js,j<g.length)->(a::js).Nodup->rj g a js=none->∃u∈a::js,∃v∈a::js,u≠v∧lI g u=lI g v:=by
 intro js;induction js with|nil=>intro g a _ _ _ h;cases h|cons j t ih=>intro g a ha hj hnd h;have hjl:=hj j (by simp);have haj:a≠j:=fun e=>(b6.1 hnd).1 (by simp[e]);have hjt:j∉t:=(b6.1 (b6.1 hnd).2).1;unfold rj at h;split at h;{rename_i e;exact⟨j,by simp,a,by simp,dh haj,e⟩};·rename_i hne;have m:∀x,x<g.length->lI (g.map (p7 (lI g j) (lI g a))) x=p7 (lI g j) (lI g a) (lI g x):=fun x hx=>Jx hx;have GJ:(a::t).Nodup:=(by rw[b6]at hnd⊢;exact⟨fun e=>hnd.1 (by simp[e]),(b6.1 hnd.2).2⟩);obtain⟨u,hu,v,hv,huv,e⟩:=ih _ a (by simpa using ha) (by intro x hx;simpa using hj x (by simp[hx])) GJ h;have lt:∀x∈a::t,x<g.length:=(by intro x hx;rcases aE.1 hx with rfl|hx;{exact ha};·exact hj x (by simp[hx]));have mB:∀x∈a::t,x∈a::j::t:=(by intro x hx;rcases aE.1 hx with rfl|hx;{simp};·simp[hx]);have far:∀x∈a::t,lI g x=lI g j->∃u∈a::j::t,∃v∈a::j::t,u≠v∧lI g u=lI g v:=(by intro x hx e;refine⟨x,mB x hx,j,by simp,?_,e⟩;rintro rfl;rcases aE.1 hx with e|e;{exact haj e.symm};·exact hjt e);rw[m u (lt u hu),m v (lt v hv)]at e;rcases Jy e with e|⟨e1|e1,e2|e2⟩;{exact⟨u,mB u hu,v,mB v hv,huv,e⟩};{exact far u hu e1};{exact far u hu e1};{exact far v hv e2};·exact⟨u,mB u hu,v,mB v hv,huv,by rw[e1,e2]⟩
abbrev Ht:=Nat->jk->Prop
structure agN(F:Ht)(x y:Nat):Prop where
 pt:∀r p,F r p->∃r',r'≠r∧F r' p
 ring:∀r p,F r p->r≠x->r≠y->∃p',p'≠p∧F r p'
structure Core(F:Ht):Prop where
 pt:∀r p,F r p->∃r',r'≠r∧F r' p
 ring:∀r p,F r p->∃p',p'≠p∧F r p'
structure At(n:Nat)(E:Ht)(at_:jk->List Nat):Prop where
 mem:∀r p,r∈at_ p↔r<n∧E r p
 nd:∀p,(at_ p).Nodup
theorem adH{f:Nat->Nat}{l:List Nat}(h:l.Pairwise (fun i j=>f i≠f j)):∀x y,x∈l->y∈l->x≠y->f x≠f y:=by induction h with|nil=>intro x y hx;cases hx|cons h1 _ ih=>intro x y hx hy hxy;rcases aE.1 hx with e1|e1<;>rcases aE.1 hy with e2|e2;{exact absurd (e1.trans e2.symm) hxy};{rw[e1];exact h1 y e2};{rw[e2];exact dh (h1 x e1)};·exact ih x y e1 e2 hxy
theorem EP{n:Nat}{E:Ht}{at_:jk->List Nat}(hA:At n E at_)(p:jk)(g:List Nat)(hg:g.length=n):(∀g',join g (at_ p)=some g'->g'.length=n∧(∀x y,x<n->y<n->lI g x=lI g y->lI g' x=lI g' y)∧(∀a b,a∈at_ p->b∈at_ p->lI g' a=lI g' b)∧(∀a b,a∈at_ p->b∈at_ p->a≠b->lI g a≠lI g b)∧(∀x y,x<n->y<n->lI g' x=lI g' y->lI g x=lI g y∨∃u∈at_ p,∃v∈at_ p,lI g u=lI g x∧lI g v=lI g y))∧(join g (at_ p)=none->∃u∈at_ p,∃v∈at_ p,u≠v∧lI g u=lI g v):=by
 have hnd:=hA.nd p;have hlt:∀j∈at_ p,j<g.length:=fun j hj=>(by rw[hg];exact((hA.mem j p).1 hj).1);cases hp:at_ p with|nil=>refine⟨fun g' h=>?_,fun h=>by cases h⟩;simp only[join,fG]at h;subst h;exact⟨hg,fun _ _ _ _ e=>e,by simp,by simp,fun _ _ _ _ e=>.inl e⟩|cons a t=>rw[hp]at hnd hlt;have ha:=hlt a (by simp);have ht:∀j∈t,j<g.length:=fun j hj=>hlt j (by simp[hj]);refine⟨fun g' h=>?_,fun h=>Oi t g a ha ht hnd h⟩;obtain⟨k1,k2,k3,k4,k5⟩:=V5 t g a g' ha ht h;have k6:=Oh t g a g' ha ht h;rw[hg]at k1 k2 k6;refine⟨k1,k2,?_,?_,k6⟩;{have one:∀x∈a::t,lI g' x=lI g' a:=(by intro x hx;rcases aE.1 hx with rfl|hx;{rfl};·exact k3 x hx);intro x y hx hy;rw[one x hx,one y hy]};·intro x y hx hy hxy;rcases aE.1 hx with h1|h1<;>rcases aE.1 hy with h2|h2;{exact absurd (h1.trans h2.symm) hxy};{rw[h1];exact dh (k4 y h2)};{rw[h2];exact k4 x h1};·exact adH k5 x y h1 h2 hxy
structure Jd(n:Nat)(E:Ht)(Q:jk->Prop)(g:List Nat):Prop where
 len:g.length=n
 one:∀p,Q p->∀a b,a<n->b<n->E a p->E b p->lI g a=lI g b
 no:∀F:Ht,(∀r p,F r p->r<n∧E r p∧Q p)->∀x,agN F x x->∀r p,¬F r p
 good:∀a b,a<n->b<n->a≠b->lI g a=lI g b->∃F:Ht,(∀r p,F r p->r<n∧E r p∧Q p)∧agN F a b∧(∃p,F a p)∧(∃p,F b p)
theorem Jd.step{n:Nat}{E:Ht}{at_:jk->List Nat}(hA:At n E at_){Q:jk->Prop}{g g':List Nat}(h:Jd n E Q g){p:jk}(hp:¬Q p)(hj:join g (at_ p)=some g'):Jd n E (fun q=>Q q∨q=p) g':=by
 obtain⟨k1,k2,k3,k4,k5⟩:=(EP hA p g h.len).1 g' hj;refine⟨k1,?_,?_,?_⟩;{rintro q(hq|rfl)a b ha hb ea eb;{exact k2 a b ha hb (h.one q hq a b ha hb ea eb)};·exact k3 a b ((hA.mem a q).2 ⟨ha,ea⟩) ((hA.mem b q).2 ⟨hb,eb⟩)};·intro F hF x hN r0 p0 h0;by_cases hu:∃r,F r p;{obtain⟨a,ha⟩:=hu;obtain⟨b,hba,hb⟩:=hN.pt a p ha;have ea:=hF a p ha;have eb:=hF b p hb;have hne:=k4 a b ((hA.mem a p).2 ⟨ea.1,ea.2.1⟩) ((hA.mem b p).2 ⟨eb.1,eb.2.1⟩) (dh hba);have key:∀c,F c p->lI g c≠lI g x->False:=(by intro c hc hcx;have ec:=hF c p hc;have agO:c≠x:=fun e=>hcx (by rw[e]);obtain⟨q,hq,hcq⟩:=hN.ring c p hc agO agO;refine h.no (fun r q=>F r q∧q≠p∧lI g r=lI g c) ?_ c ⟨?_,?_⟩ c q ⟨hcq,hq,rfl⟩;{rintro r q⟨h1,h2,-⟩;obtain⟨g1,g2,g3⟩:=hF r q h1;rcases g3 with g3|g3;{exact⟨g1,g2,g3⟩};·exact absurd g3 h2};{rintro r q⟨h1,h2,h3⟩;obtain⟨r',e,h4⟩:=hN.pt r q h1;have a1:=hF r q h1;have a2:=hF r' q h4;have hQ:Q q:=(by rcases a1.2.2 with t|t;exact t;exact absurd t h2);exact⟨r',e,h4,h2,by rw[←h3];exact h.one q hQ r' r a2.1 a1.1 a2.2.1 a1.2.1⟩};·rintro r q⟨h1,h2,h3⟩hr _;have hrx:r≠x:=fun e=>hcx (by rw[←e,h3]);obtain⟨q',e,h4⟩:=hN.ring r q h1 hrx hrx;refine⟨q',e,h4,?_,h3⟩;rintro rfl;have a1:=hF r q' h4;exact k4 r c ((hA.mem r q').2 ⟨a1.1,a1.2.1⟩) ((hA.mem c q').2 ⟨ec.1,ec.2.1⟩) hr h3);by_cases hax:lI g a=lI g x;{exact key b hb (fun e=>hne (by rw[hax,e]))};·exact key a ha hax};·refine h.no F ?_ x hN r0 p0 h0;intro r q hq;obtain⟨g1,g2,g3⟩:=hF r q hq;rcases g3 with g3|rfl;{exact⟨g1,g2,g3⟩};·exact absurd ⟨r,hq⟩ hu
 ·intro a b ha hb hab e;have wide:∀F:Ht,(∀r p,F r p->r<n∧E r p∧Q p)->∀r q,F r q->r<n∧E r q∧(Q q∨q=p):=fun F hF r q hq=>⟨(hF r q hq).1,(hF r q hq).2.1,.inl (hF r q hq).2.2⟩;by_cases e0:lI g a=lI g b;{obtain⟨F,h1,h2,h3,h4⟩:=h.good a b ha hb hab e0;exact⟨F,wide F h1,h2,h3,h4⟩};·rcases k5 a b ha hb e with e1|⟨u,hu,v,hv,e1,e2⟩;{exact absurd e1 e0};have eu:=(hA.mem u p).1 hu;have ev:=(hA.mem v p).1 hv;have huv:u≠v:=(by rintro rfl;exact e0 (e1.symm.trans e2));have arm:∀z c,z<n->c<n->lI g z=lI g c->∃F:Ht,(∀r q,F r q->r<n∧E r q∧Q q)∧(∀r q,F r q->∃r',r'≠r∧F r' q)∧(∀r q,F r q->r≠z->r≠c->∃q',q'≠q∧F r q')∧(z≠c->(∃q,F z q)∧(∃q,F c q)):=(by intro z c hz hc ezc;by_cases zc:z=c;{exact⟨fun _ _=>False,by simp,by simp,by simp,fun t=>absurd zc t⟩};·obtain⟨F,h1,h2,h3,h4⟩:=h.good z c hz hc zc ezc;exact⟨F,h1,h2.pt,h2.ring,fun _=>⟨h3,h4⟩⟩);obtain⟨F,f1,f2,f3,f4⟩:=arm u a eu.1 ha e1;obtain⟨G,g1,g2,g3,g4⟩:=arm v b ev.1 hb e2;refine⟨fun r q=>F r q∨G r q∨(q=p∧(r=u∨r=v)),?_,⟨?_,?_⟩,?_,?_⟩;{rintro r q(t|t|⟨rfl,rfl|rfl⟩);{exact wide F f1 r q t};{exact wide G g1 r q t};{exact⟨eu.1,eu.2,.inr rfl⟩};·exact⟨ev.1,ev.2,.inr rfl⟩};{rintro r q(t|t|⟨rfl,rfl|rfl⟩);{obtain⟨r',e,t'⟩:=f2 r q t;exact⟨r',e,.inl t'⟩};{obtain⟨r',e,t'⟩:=g2 r q t;exact⟨r',e,.inr (.inl t')⟩};{exact⟨v,dh huv,.inr (.inr ⟨rfl,.inr rfl⟩)⟩};·exact⟨u,huv,.inr (.inr ⟨rfl,.inl rfl⟩)⟩};{have atU:∀q,q≠p->∃q',q'≠q∧(F u q'∨G u q'∨(q'=p∧(u=u∨u=v))):=fun q hq=>⟨p,dh hq,.inr (.inr ⟨rfl,.inl rfl⟩)⟩;have atV:∀q,q≠p->∃q',q'≠q∧(F v q'∨G v q'∨(q'=p∧(v=u∨v=v))):=fun q hq=>⟨p,dh hq,.inr (.inr ⟨rfl,.inr rfl⟩)⟩;rintro r q(t|t|⟨rfl,rfl|rfl⟩)S7 hrb;{have hq:q≠p:=fun e=>hp (e▸(f1 r q t).2.2);by_cases ru:r=u;{subst ru;exact atU q hq};·obtain⟨q',e,t'⟩:=f3 r q t ru S7;exact⟨q',e,.inl t'⟩};{have hq:q≠p:=fun e=>hp (e▸(g1 r q t).2.2);by_cases rv:r=v;{subst rv;exact atV q hq};·obtain⟨q',e,t'⟩:=g3 r q t rv hrb;exact⟨q',e,.inr (.inl t')⟩};{obtain⟨q',t'⟩:=(f4 S7).1;exact⟨q',fun e=>hp (e▸(f1 r q' t').2.2),.inl t'⟩};·obtain⟨q',t'⟩:=(g4 hrb).1;exact⟨q',fun e=>hp (e▸(g1 r q' t').2.2),.inr (.inl t')⟩};{by_cases ua:u=a;{exact⟨p,.inr (.inr ⟨rfl,.inl ua.symm⟩)⟩};·obtain⟨q,t⟩:=(f4 ua).2;exact⟨q,.inl t⟩};·by_cases vb:v=b;{exact⟨p,.inr (.inr ⟨rfl,.inr vb.symm⟩)⟩};·obtain⟨q,t⟩:=(g4 vb).2;exact⟨q,.inr (.inl t)⟩
theorem Jd.core{n:Nat}{E:Ht}{at_:jk->List Nat}(hA:At n E at_){Q:jk->Prop}{g:List Nat}(h:Jd n E Q g){p:jk}(hp:¬Q p)(hj:join g (at_ p)=none):∃F:Ht,(∀r q,F r q->r<n∧E r q∧(Q q∨q=p))∧Core F∧∃r q,F r q:=by
 obtain⟨u,hu,v,hv,huv,e⟩:=(EP hA p g h.len).2 hj;have eu:=(hA.mem u p).1 hu;have ev:=(hA.mem v p).1 hv;obtain⟨F,h1,h2,⟨qu,h3⟩,⟨qv,h4⟩⟩:=h.good u v eu.1 ev.1 huv e;have np:∀r q,F r q->q≠p:=fun r q t e=>hp (e▸(h1 r q t).2.2);refine⟨fun r q=>F r q∨(q=p∧(r=u∨r=v)),?_,⟨?_,?_⟩,u,p,.inr ⟨rfl,.inl rfl⟩⟩;{rintro r q(t|⟨rfl,rfl|rfl⟩);{exact⟨(h1 r q t).1,(h1 r q t).2.1,.inl (h1 r q t).2.2⟩};{exact⟨eu.1,eu.2,.inr rfl⟩};·exact⟨ev.1,ev.2,.inr rfl⟩};{rintro r q(t|⟨rfl,rfl|rfl⟩);{obtain⟨r',e,t'⟩:=h2.pt r q t;exact⟨r',e,.inl t'⟩};{exact⟨v,dh huv,.inr ⟨rfl,.inr rfl⟩⟩};·exact⟨u,huv,.inr ⟨rfl,.inl rfl⟩⟩};·rintro r q(t|⟨rfl,rfl|rfl⟩);{by_cases ru:r=u;{exact⟨p,dh (np r q t),.inr ⟨rfl,.inl ru⟩⟩};·by_cases rv:r=v;{exact⟨p,dh (np r q t),.inr ⟨rfl,.inr rv⟩⟩};·obtain⟨q',e,t'⟩:=h2.ring r q t ru rv;exact⟨q',e,.inl t'⟩};{exact⟨qu,np _ qu h3,.inl h3⟩};·exact⟨qv,np _ qv h4,.inl h4⟩
def Jz(l:Poly):Ht:=fun r p=>place (lH l r) (qi p)=1
theorem rA (l : Poly) : At l.length (Jz l) (kY l) where
  mem := by
    intro r p
    unfold kY Jz
    simp
  nd := by
    intro p
    unfold kY
    exact List.Pairwise.filter _ (List.nodup_range)
theorem Jd.mono{n:Nat}{E:Ht}{Q Q':jk->Prop}{g:List Nat}(h:Jd n E Q g)(k:∀p,Q p↔Q' p):Jd n E Q' g:=by
 have e:Q=Q':=funext fun p=>propext (k p);rw[←e];exact h
theorem Oj(l:Poly):∀(ps:List jk)(Q:jk->Prop)(g:List Nat),Jd l.length (Jz l) Q g->(∀p∈ps,¬Q p)->ps.Nodup->(xH l ps g=true->∃F:Ht,(∀r q,F r q->r<l.length∧Jz l r q∧(Q q∨q∈ps))∧Core F∧∃r q,F r q)∧(xH l ps g=false->∃g',Jd l.length (Jz l) (fun q=>Q q∨q∈ps) g'):=by
 intro ps;induction ps with|nil=>intro Q g h _ _;refine⟨fun e=>?_,fun _=>⟨g,h.mono (by simp)⟩⟩;simp[xH]at e|cons p t ih=>intro Q g h hq hnd;have hp:=hq p (by simp);rw[b6]at hnd;cases hj:join g (kY l p)with|none=>refine⟨fun _=>?_,fun e=>by simp[xH,hj]at e⟩;obtain⟨F,h1,h2,h3⟩:=h.core (rA l) hp hj;refine⟨F,fun r q t=>⟨(h1 r q t).1,(h1 r q t).2.1,?_⟩,h2,h3⟩;rcases(h1 r q t).2.2 with k|k;{exact .inl k};{exact .inr (by simp[k])}|some g'=>have h':=h.step (rA l) hp hj;have:=ih _ g' h' (by rintro q hq'(k|rfl);{exact hq q (by simp[hq']) k};·exact hnd.1 hq') hnd.2;have ew:xH l (p::t) g=xH l t g':=(by simp[xH,hj]);rw[ew];refine⟨fun e=>?_,fun e=>?_⟩;{obtain⟨F,h1,h2,h3⟩:=this.1 e;refine⟨F,fun r q t=>⟨(h1 r q t).1,(h1 r q t).2.1,?_⟩,h2,h3⟩;rcases(h1 r q t).2.2 with(k|k)|k;{exact .inl k};{exact .inr (by simp[k])};·exact .inr (by simp[k])};·obtain⟨g'',k⟩:=this.2 e;exact⟨g'',k.mono (by intro q;simp[or_assoc])⟩
theorem zX(l:Poly):∀(ps:List jk)(a:List jk),a.Nodup->(∀p∈a,1<(kY l p).length)->(ps.foldl (qF l) a).Nodup∧∀q,q∈ps.foldl (qF l) a↔q∈a∨(q∈ps∧1<(kY l q).length):=by
 intro ps;induction ps with|nil=>intro a h _;exact⟨h,by simp⟩|cons p t ih=>intro a h h1;rw[dO];by_cases c:¬(p∈a)∧1<(kY l p).length;{rw[show qF l a p=a++[p]from ai c];have:=ih (a++[p]) (by rw[cq];exact⟨h,by simp,by intro x hx y hy;simp at hy;subst hy;rintro rfl;exact c.1 hx⟩) (by intro q hq;rcases aD.1 hq with hq|hq;{exact h1 q hq};·simp at hq;subst hq;exact c.2);refine⟨this.1,fun q=>?_⟩;rw[this.2 q];simp only[aD,aE,bF,iF,or_false];constructor;{rintro((k|rfl)|k);{exact .inl k};{exact .inr ⟨.inl rfl,c.2⟩};·exact .inr ⟨.inr k.1,k.2⟩};·rintro(k|⟨rfl|k,k2⟩);{exact .inl (.inl k)};{exact .inl (.inr rfl)};·exact .inr ⟨k,k2⟩};·rw[show qF l a p=a from ag c];have:=ih a h h1;refine⟨this.1,fun q=>?_⟩;rw[this.2 q];simp only[aE];constructor;{rintro(k|k);{exact .inl k};·exact .inr ⟨.inr k.1,k.2⟩};·rintro(k|⟨rfl|k,k2⟩);{exact .inl k};{by_cases hq:q∈a;{exact .inl hq};·exact absurd ⟨hq,k2⟩ c};·exact .inr ⟨k,k2⟩
theorem adJ{n:Nat}{E:Ht}{f:jk->List Nat}(hA:At n E f){p:jk}{a b:Nat}(ha:a∈f p)(hb:b∈f p)(hab:a≠b):1<(f p).length:=by match hf:f p with|[]=>rw[hf]at ha;cases ha|[x]=>rw[hf]at ha hb;simp at ha hb;exact absurd (ha.trans hb.symm) hab|x::y::t=>simp
theorem Hv{n a:Nat}(h:a<n):lI (List.range n) a=a:=by
 unfold lI;simp[az,cD h]
theorem ER(l:Poly):way l=true↔∃F:Ht,(∀r q,F r q->r<l.length∧Jz l r q∧q∈l.flatten)∧Core F∧∃r q,F r q:=by
 have ht:=zX l l.flatten [] fo (by simp);have h0:Jd l.length (Jz l) (fun _=>False) (List.range l.length):=(by refine⟨by simp,by simp,?_,?_⟩;{intro F hF x _ r p h;exact(hF r p h).2.2};·intro a b ha hb hab e;rw[Hv ha,Hv hb]at e;exact absurd e hab);have key:=Oj l (pG l) _ _ h0 (by simp) ht.1;constructor;{intro h;obtain⟨F,h1,h2,h3⟩:=key.1 h;refine⟨F,fun r q t=>⟨(h1 r q t).1,(h1 r q t).2.1,?_⟩,h2,h3⟩;rcases(h1 r q t).2.2 with k|k;{exact k.elim};·have:=(ht.2 q).1 k;simp only[iF,false_or]at this;exact this.1};·rintro⟨F,h1,h2,r,q,h3⟩;cases hw:way l with|true=>rfl|false=>exfalso;obtain⟨g,hg⟩:=key.2 hw;refine hg.no F ?_ 0 ⟨h2.pt,fun r p t _ _=>h2.ring r p t⟩ r q h3;intro r p t;obtain⟨r',e,t'⟩:=h2.pt r p t;have a1:=h1 r p t;have a2:=h1 r' p t';refine⟨a1.1,a1.2.1,.inr ?_⟩;refine(ht.2 p).2 (.inr ⟨a1.2.2,?_⟩);exact adJ (rA l) (((rA l).mem r p).2 ⟨a1.1,a1.2.1⟩) (((rA l).mem r' p).2 ⟨a2.1,a2.2.1⟩) (dh e)
theorem Lq(s t:jK):kP s t=kP t s:=by
 have e1:(if jM s.1 t.1 then t.1 else s.1)=(if jM t.1 s.1 then s.1 else t.1):=(by rcases rS s.1 t.1 with h|h|h;{rw[ai h,ag (fun k=>nh h k)]};{rw[h]};·rw[ag (fun k=>nh h k),ai h]);have e2:(if jM t.2 s.2 then t.2 else s.2)=(if jM s.2 t.2 then s.2 else t.2):=(by rcases rS s.2 t.2 with h|h|h;{rw[ai h,ag (fun k=>nh h k)]};{rw[h]};·rw[ag (fun k=>nh h k),ai h]);unfold kP;simp only;rw[e1,e2]
theorem Cc(a b c d:jk):meet a b c d=meet c d a b:=by
 unfold meet;simp only;generalize sg (cr a b c 1)=x;generalize sg (cr a b d 1)=y;generalize sg (cr c d a 1)=z;generalize sg (cr c d b 1)=u;rw[Lq (fwd a b)];have e1:(x=0∧y=0∧z=0∧u=0)↔(z=0∧u=0∧x=0∧y=0):=(by omega);have e2:(x*y>0∨z*u>0)↔(z*u>0∨x*y>0):=Or.comm;have e3:x*y*z*u=z*u*x*y:=(by grind);rw[e3];simp only[e1,e2]
theorem nG(s t:jK):kA s t=kA t s:=Cc _ _ _ _
theorem De(s t:jK):jZ s t=jZ t s:=by
 unfold jZ;rw[nG]
def oZ:List jK->Bool->jC->Int|[],i,_=>if i then 1 else-1|s::t,i,p=>if on s.1 s.2 p.1 p.2 then 0 else oZ t (if Lb s.1 s.2 p.1 p.2 then !i else i) p
def mh(r:Ring)(p:jC):Int:=oZ (jt r) false p
def pl(k:Int):Int:=if k=0 then 1 else if k=1 then 2 else 0
theorem S8:∀(l:List jK)(i:Bool)(p:jC),0<p.2->(∀s∈l,s.1≠s.2)->mH l i p=pl (oZ l i p)∧(oZ l i p=0∨oZ l i p=1∨oZ l i p=-1):=by
 intro l;induction l with|nil=>intro i p _ _;cases i<;>simp[mH,oZ,pl]|cons s t ih=>intro i p hp hl;have hs:=hl s (by simp);have e:=ry (p:=p.1) (w:=p.2) hs hp;unfold mH oZ hasB;by_cases h:has s.1 s.2 p.1 p.2;{rw[ai (aq h),ai (e.1 h)];simp[pl]};·rw[aC h,ag (fun k=>h (e.2 k)),adF hp];simp only[dI,eL];exact ih _ p hp fun x hx=>hl x (by simp[hx])
def mA(r:Ring):Prop:=∀s∈jt r,s.1≠s.2
theorem AM{r:Ring}{p:jC}(hr:mA r)(hp:0<p.2):place r p=pl (mh r p)∧(mh r p=0∨mh r p=1∨mh r p=-1):=S8 _ _ _ hp hr
def S9:Int->List Ring->jC->Int|s,[],_=>s|s,r::t,p=>if mh r p=0∧0<=s then 0 else if mh r p=1 then-1 else S9 s t p
def Ta:Poly->jC->Int|[],_=>0|r::t,p=>S9 (mh r p) t p
theorem Lr:∀(t:List Ring)(s:Int)(f:Bool)(p:jC),0<p.2->(∀r∈t,mA r∧place r p≠1)->(s=1∨s=-1)->(f=true↔s=-1)->(nL t false f p=true↔S9 s t p=-1):=by
 intro t;induction t with|nil=>intro s f p _ _ _ hf;exact hf|cons r t ih=>intro s f p hp hr hs hf;obtain⟨hl,Ok⟩:=hr r (by simp);obtain⟨e1,e2⟩:=AM hl hp;have ht:∀r∈t,mA r∧place r p≠1:=fun x hx=>hr x (by simp[hx]);unfold nL S9;rw[ag Ok];rcases e2 with e|e|e;{exfalso;rw[e]at e1;exact Ok e1};{rw[e]at e1;rw[ag (by omega),ai e];have e3:place r p=2:=e1;simp only[e3];have:∀(t:List Ring),(∀r∈t,mA r∧place r p≠1)->nL t false true p=true:=(by intro t;induction t with|nil=>intro _;rfl|cons r t ih=>intro h;unfold nL;rw[ag (h r (by simp)).2];simp only[Bool.true_or];exact ih fun x hx=>h x (by simp[hx]));simp[this t ht]};·rw[e]at e1;rw[ag (by omega),ag (by omega)];have e3:place r p=0:=e1;simp only[e3];have:=ih s f p hp ht hs hf;simpa using this
theorem aak{l:Poly}{p:jC}(hp:0<p.2)(hne:l≠[])(hr:∀r∈l,mA r∧place r p≠1):free l p=true↔Ta l p=-1:=by cases l with|nil=>exact absurd rfl hne|cons r t=>obtain⟨hl,Ok⟩:=hr r (by simp);obtain⟨e1,e2⟩:=AM hl hp;unfold free nL Ta;rw[ag Ok];rcases e2 with e|e|e;{exfalso;rw[e]at e1;exact Ok e1};{rw[e]at e1;have e3:place r p=2:=e1;simp only[e3,e];exact Lr t 1 _ p hp (fun x hx=>hr x (by simp[hx])) (.inl rfl) (by simp)};·rw[e]at e1;have e3:place r p=0:=e1;simp only[e3,e];exact Lr t (-1) _ p hp (fun x hx=>hr x (by simp[hx])) (.inr rfl) (by simp)
theorem V6(a b x y:jk):cr a b (jO x y).1 2=cr a b x 1+cr a b y 1:=by
 unfold cr jO;grind
theorem Ol:∀(l:List jK)(i:Bool)(p:jC),mH l i p=1↔∃s∈l,has s.1 s.2 p.1 p.2:=by
 intro l;induction l with|nil=>intro i p;cases i<;>simp[mH]|cons s t ih=>intro i p;unfold mH hasB;by_cases h:has s.1 s.2 p.1 p.2;{rw[ai (aq h)];simp[h]};·rw[aC h];simp only[dI,eL];rw[ih];simp[h]
theorem jG{r:Ring}{p:jC}:place r p=1↔∃s∈jt r,has s.1 s.2 p.1 p.2:=Ol _ _ _
def V7(a b m:jk):Prop:=has a b m 2∧m≠(a.1*2,a.2*2)∧m≠(b.1*2,b.2*2)
theorem JA{a b m:jk}(hab:a≠b)(h:V7 a b m):0<dt a b m 2∧dt a b m 2<kk a b*2:=by
 have hk:=kO hab;obtain⟨h0,h1,h2⟩:=(ry hab (by omega)).1 h.1;have e1:dt a b m 2*(b.1-a.1)=(m.1-a.1*2)*kk a b:=(by unfold cr at h0;unfold dt kk;grind);have e2:dt a b m 2*(b.2-a.2)=(m.2-a.2*2)*kk a b:=(by unfold cr at h0;unfold dt kk;grind);have z:∀t:Int,0=t*kk a b->t=0:=(by intro t h;rcases aK.1 h.symm with h|h;{exact h};·omega);constructor;{rcases eF h1 with g|g;{exact g};·exfalso;rw[←g,dA]at e1 e2;have:=z _ e1;have:=z _ e2;exact h.2.1 (cJ (by simp only;omega) (by simp only;omega))};·rcases eF h2 with g|g;{exact g};·exfalso;have f1:0=(m.1-b.1*2)*kk a b:=(by rw[g]at e1;grind);have f2:0=(m.2-b.2*2)*kk a b:=(by rw[g]at e2;grind);have:=z _ f1;have:=z _ f2;exact h.2.2 (cJ (by simp only;omega) (by simp only;omega))
theorem weights{p q X Y:Int}(hp:0<p)(hq:0<q)(e:p*X+q*Y=0):(X=0∧Y=0)∨(0<X∧Y<0)∨(X<0∧0<Y):=by
 rcases bZ X 0 with h|h|h;{right;right;refine⟨h,?_⟩;have:=ic hp h;rcases cA 0 Y with g|g;{exact g};·have:=Int.mul_nonpos_of_nonneg_of_nonpos (bG hq) g;omega};{left;refine⟨h,?_⟩;rw[h,bB,iO]at e;rcases aK.1 e with g|g;{omega};·exact g};·right;left;refine⟨h,?_⟩;have:=jf hp h;rcases cA Y 0 with g|g;{exact g};·have:=fL (bG hq) g;omega
theorem Hw{a b c d m:jk}(hcd:c≠d)(h1:cr a b m 2=0)(h2:V7 c d m):(cr a b c 1=0∧cr a b d 1=0)∨(0<cr a b c 1∧cr a b d 1<0)∨(cr a b c 1<0∧0<cr a b d 1):=by
 obtain⟨g1,g2⟩:=JA hcd h2;have h0:=h2.1.1;have e1:dt c d m 2*(d.1-c.1)=(m.1-c.1*2)*kk c d:=(by unfold cr at h0;unfold dt kk;grind);have e2:dt c d m 2*(d.2-c.2)=(m.2-c.2*2)*kk c d:=(by unfold cr at h0;unfold dt kk;grind);refine weights (p:=kk c d*2-dt c d m 2) (q:=dt c d m 2) (by omega) g1 ?_;generalize dt c d m 2=T at*;generalize kk c d=K at*;unfold cr at*;grind
theorem rB{a b c d:jk}(hab:a≠b)(h1:cr a b c 1=0)(h2:cr a b d 1=0):cr c d a 1=0∧cr c d b 1=0:=by
 have hk:=kO hab;have z:∀t:Int,kk a b*t=0->t=0:=(by intro t h;rcases aK.1 h with h|h;{omega};·exact h);constructor;{apply z;unfold cr at*;unfold kk;grind};·apply z;unfold cr at*;unfold kk;grind
theorem Om(a b x:jk):dt a b (x.1*2,x.2*2) 2=2*pos a b x:=by
 unfold dt pos dt;grind
theorem Ls{a b c d m:jk}(hcd:c≠d)(h2:V7 c d m):(2*pos a b c<dt a b m 2∧dt a b m 2<2*pos a b d)∨(2*pos a b d<dt a b m 2∧dt a b m 2<2*pos a b c)∨pos a b c=pos a b d:=by
 obtain⟨g1,g2⟩:=JA hcd h2;have h0:=h2.1.1;have hk:=kO hcd;have e1:dt c d m 2*(d.1-c.1)=(m.1-c.1*2)*kk c d:=(by unfold cr at h0;unfold dt kk;grind);have e2:dt c d m 2*(d.2-c.2)=(m.2-c.2*2)*kk c d:=(by unfold cr at h0;unfold dt kk;grind);have e:dt c d m 2*(pos a b d-pos a b c)=kk c d*(dt a b m 2-2*pos a b c):=(by generalize dt c d m 2=T at*;generalize kk c d=K at*;unfold pos dt;grind);have e':(kk c d*2-dt c d m 2)*(pos a b d-pos a b c)=kk c d*(2*pos a b d-dt a b m 2):=(by have:(kk c d*2-dt c d m 2)*(pos a b d-pos a b c)=kk c d*2*(pos a b d-pos a b c)-dt c d m 2*(pos a b d-pos a b c):=(by grind);rw[this,e];grind);have g3:0<kk c d*2-dt c d m 2:=(by omega);have sgn:∀{p q A B:Int},0<p->0<q->p*A=q*B->(0<A->0<B)∧(A<0->B<0):=(by intro p q A B hp hq e;constructor;{intro hA;have:=jf hp hA;rw[e]at this;exact Int.pos_of_mul_pos_right this hq};·intro hA;have:=ic hp hA;rw[e]at this;rcases cA B 0 with g|g;{exact g};·have:=fL (bG hq) g;omega);rcases bZ (pos a b d-pos a b c) 0 with h|h|h;{have k1:=(sgn g1 hk e).2 h;have k2:=(sgn g3 hk e').2 h;right;left;omega};{right;right;omega};·have k1:=(sgn g1 hk e).1 h;have k2:=(sgn g3 hk e').1 h;left;omega
theorem yK{a b c d m:jk}(hab:a≠b)(hcd:c≠d)(h1:V7 a b m)(h2:V7 c d m):meet a b c d=2∨meet a b c d=3:=by
 have s1:=Hw hcd h1.1.1 h2;have s2:=Hw hab h2.1.1 h1;have l1:=rB (c:=c) (d:=d) hab;have l2:=rB (c:=a) (d:=b) hcd;by_cases hz:cr a b c 1=0;{have hd:cr a b d 1=0:=(by omega);obtain⟨z1,z2⟩:=l1 hz hd;right;have hm:meet a b c d=kP (fwd a b) (fwd c d):=(by unfold meet;simp[hz,hd,z1,z2,sg]);rw[hm];obtain⟨p1,p2⟩:=JA hab h1;have hb:=Ls (a:=a) (b:=b) hcd h2;have hne:pos a b c≠pos a b d:=fun e=>hcd (rT hab hz hd e);rw[AH hab hcd hz hd];have:count (kk a b) (min (pos a b c) (pos a b d)) (max (pos a b c) (pos a b d))=2:=(by unfold count;rw[ag (by omega),ag (by omega)]);simp[this]};·left;have t2:¬(cr c d a 1=0∧cr c d b 1=0):=fun e=>hz (l2 e.1 e.2).1;have sp:∀{n:Int},0<n->sg n=1:=fun h=>(by unfold sg;rw[ai h]);have sn:∀{n:Int},n<0->sg n=-1:=fun h=>(by unfold sg;rw[ag (by omega),ai h]);rcases s1 with e|⟨x1,y1⟩|⟨x1,y1⟩;{exact absurd e.1 hz};{rcases s2 with e|⟨z1,u1⟩|⟨z1,u1⟩;{exact absurd e t2};{unfold meet;simp[sp x1,sn y1,sp z1,sn u1]};·unfold meet;simp[sp x1,sn y1,sn z1,sp u1]};·rcases s2 with e|⟨z1,u1⟩|⟨z1,u1⟩;{exact absurd e t2};{unfold meet;simp[sn x1,sp y1,sp z1,sn u1]};·unfold meet;simp[sn x1,sp y1,sn z1,sp u1]
theorem Ed{a b:jk}(hab:a≠b){rings:Poly}{o:Ring}(ho:o∈rings)(hl:mA o){m:jC}(hm:m∈lS (a,b) rings)(hx:∀t∈jt o,jZ (a,b) t=false):place o m≠1:=by
 intro h1;obtain⟨y,z,hc,rfl⟩:=(pH hab rings m).1 hm;obtain⟨t,ht,hh⟩:=jG.1 h1;have hh':has t.1 t.2 (jO y z).1 2:=hh;have py:=lC hab (kC hc.cx);have pz:=lC hab (kC hc.cy);have hlt:=hc.lt;have ep:dt a b (jO y z).1 2=pos a b y+pos a b z:=(by unfold jO pos dt;grind);have GK:has a b (jO y z).1 2:=(by rw[ry hab (by omega)];refine⟨?_,by omega,by omega⟩;have:=V6 a b y z;rw[this,(kC hc.cx).1,(kC hc.cy).1];rfl);have i1:V7 a b (jO y z).1:=(by refine⟨GK,?_,?_⟩;{intro e;have:=Om a b a;rw[←e,ep,ql]at this;omega};·intro e;have:=Om a b b;rw[←e,ep,r5]at this;omega);have acF:∀c,c∈o->(jO y z).1≠(c.1*2,c.2*2):=(by intro c N6 e;have d2:=Om a b c;rw[←e,ep]at d2;have hcut:Cut a b rings.flatten c:=(by refine .inr (.inr ⟨cE.2 ⟨o,ho,N6⟩,?_⟩);rw[ry hab (by omega)];have g0:cr a b (c.1*2,c.2*2) 2=0:=e▸GK.1;refine⟨?_,?_,?_⟩;{unfold cr at*;grind};{show 0<=pos a b c;omega};·show pos a b c<=_;omega);exact hc.no c hcut ⟨by omega,by omega⟩);have i2:V7 t.1 t.2 (jO y z).1:=⟨hh',acF _ (lJ ht).1,acF _ (lJ ht).2⟩;have:=yK hab (hl t ht) i1 i2;have hf:=hx t ht;unfold jZ kA at hf;simp only[cW,dr]at hf
 rcases this with e|e;{exact hf.1 e};·exact hf.2 e
def tP(r:Ring):Bool:=anyI (r.length-1) fun i=>anyI i fun j=>decide (jj r i=jj r j)
def sJ(n i j:Nat):Bool:=decide (j+1=i)||(decide (j=0)&&decide (i+1=n))
def p9(next:Bool)(k:Int):Bool:=(next&&decide (k≠1))||(!next&&decide (k≠0))
def Df(r:Ring):Bool:=anyI (r.length-1) fun i=>anyI i fun j=>p9 (sJ (r.length-1) i j) (common (jj r i) (jj r (i+1)) (jj r j) (jj r (j+1))).1
def qG(r:Ring):Bool:=!(tP r||Df r)
def wD(s t:jK):Bool:=decide ((common s.1 s.2 t.1 t.2).1=2)||(common s.1 s.2 t.1 t.2).2
def mP(a b:Ring):Bool:=!((jt a).any fun s=>(jt b).any fun t=>wD s t)
def sW(r:Ring)(q:Poly)(k:Int):Bool:=!((jt r).any fun s=>(zV s.1 s.2 q).any fun m=>decide (Ta q m≠k))
structure Shut(r:Ring):Prop where
 len:4<=r.length
 eq:jj r 0=jj r (r.length-1)
theorem ju{r:Ring}{i:Nat}(h:i<r.length):r[i]?=some (jj r i):=by
 unfold jj;rw[az,aG h];rfl
theorem Ee{r:Ring}{i:Nat}(h:i+1<r.length):GI (jt r) i=(jj r i,jj r (i+1)):=by
 unfold GI;rw[az,kF (ju (by omega)) (ju h)];rfl
theorem oc{r:Ring}{s:jK}(h:s∈jt r):∃i,i+1<r.length∧s=(jj r i,jj r (i+1)):=by
 obtain⟨i,hi,e⟩:=eT h;rw[j6]at hi;have hi':i+1<r.length:=(by omega);refine⟨i,hi',?_⟩;have:=kF (ju (show i<r.length by omega)) (ju hi');rw[aG (by rw[j6];exact hi)]at this;rw[←e];exact aN this
theorem l8{r:Ring}:twice r=true↔∃i j,1<=i∧i<j∧j<r.length∧jj r i=jj r j:=by
 unfold twice;rw[kJ];constructor;{rintro⟨i,hi,h⟩;simp only[bM,bC,kJ]at h;obtain⟨h1,j,hj,h2,h3⟩:=h;rw[ju hi,ju hj]at h3;exact⟨i,j,h1,h2,hj,aN h3⟩};·rintro⟨i,j,h1,h2,h3,h4⟩;refine⟨i,by omega,?_⟩;simp only[bM,bC,kJ];exact⟨h1,j,h3,h2,by rw[ju (show i<r.length by omega),ju h3,h4]⟩
theorem On{r:Ring}:tP r=true↔∃i j,j<i∧i<r.length-1∧jj r i=jj r j:=by
 unfold tP;rw[kJ];constructor;{rintro⟨i,hi,h⟩;simp only[kJ,bC]at h;obtain⟨j,hj,e⟩:=h;exact⟨i,j,hj,hi,e⟩};·rintro⟨i,j,h1,h2,h3⟩;refine⟨i,h2,?_⟩;simp only[kJ,bC];exact⟨j,h1,h3⟩
theorem nU{a b:Bool}(h:a=true↔b=true):a=b:=by cases a<;>cases b<;>simp_all
theorem Lu{r:Ring}(h:Shut r):twice r=tP r:=by
 apply nU;rw[l8,On];have h4:=h.len;constructor;{rintro⟨i,j,h1,h2,h3,e⟩;by_cases hj:j=r.length-1;{exact⟨i,0,by omega,by omega,by rw[h.eq,e,hj]⟩};·exact⟨j,i,h2,by omega,e.symm⟩};·rintro⟨i,j,h1,h2,e⟩;by_cases hj:j=0;{exact⟨i,r.length-1,by omega,by omega,by omega,by rw[e,hj,h.eq]⟩};·exact⟨j,i,by omega,h1,by omega,e.symm⟩
theorem JB{r:Ring}(h:Shut r)(ht:twice r=false):mA r:=by
 intro s hs e;obtain⟨i,hi,rfl⟩:=oc hs;have h4:=h.len;have:twice r=true:=(by rw[l8];by_cases h0:i=0;{subst h0;exact⟨1,r.length-1,by omega,by omega,by omega,by rw[←h.eq];exact e.symm⟩};·exact⟨i,i+1,by omega,by omega,hi,e⟩);rw[ht]at this;cases this
theorem adK{A B C:Prop}[Decidable A][Decidable B][Decidable C]{k:Int}{d:Bool}(h:(if A then(if B then((0:Int),false)else(k,false))else if C then(0,false)else(1,d)).2=true):(if A then(if B then((0:Int),false)else(k,false))else if C then(0,false)else(1,d)).1=1:=by by_cases hA:A<;>by_cases hB:B<;>by_cases hC:C<;>simp_all
theorem adL{A B C:Prop}[Decidable A][Decidable B][Decidable C]{k:Int}{d:Bool}(hk:k=0∨k=1∨k=2):(if A then(if B then((0:Int),false)else(k,false))else if C then(0,false)else(1,d)).1=0∨(if A then(if B then((0:Int),false)else(k,false))else if C then(0,false)else(1,d)).1=1∨(if A then(if B then((0:Int),false)else(k,false))else if C then(0,false)else(1,d)).1=2:=by by_cases hA:A<;>by_cases hB:B<;>by_cases hC:C<;>simp_all
theorem AO{a b c d:jk}(h:(common a b c d).2=true):(common a b c d).1=1:=adK h
theorem count_range(k p q:Int):count k p q=0∨count k p q=1∨count k p q=2:=by
 unfold count;split;{simp};·split<;>simp
theorem AP(a b c d:jk):(common a b c d).1=0∨(common a b c d).1=1∨(common a b c d).1=2:=adL (count_range _ _ _)
theorem pI{a b c d:jk}(h:cr a b c 1=0∨cr a b d 1=0):meet a b c d≠2:=by
 have hl:∀s t,kP s t≠2:=(by intro s t;unfold kP;simp only;split;{omega};·split<;>omega);unfold meet;simp only;split;{exact hl _ _};·split;{omega};·have:sg (cr a b c 1)*sg (cr a b d 1)*sg (cr c d a 1)*sg (cr c d b 1)=0:=(by rcases h with h|h;{rw[h];simp[sg]};·rw[h];simp[sg]);rw[ai this];omega
theorem V8{s t:jK}(hs:s.1≠s.2)(ht:t.1≠t.2):jZ s t=wD s t:=by
 unfold jZ wD kA;rw[Dd hs ht];have hr:=AP s.1 s.2 t.1 t.2;have hc:=AO (a:=s.1) (b:=s.2) (c:=t.1) (d:=t.2);unfold how;cases h2:(common s.1 s.2 t.1 t.2).2 with|true=>rw[hc h2];simp|false=>rcases hr with e|e|e<;>rw[e]<;>simp
theorem adM{a b c d:jk}(hab:a≠b)(hcd:c≠d){next:Bool}(hn:next=true->cr a b c 1=0∨cr a b d 1=0):p9 next (common a b c d).1=decide (meet a b c d≠if next then 1 else 0):=by
 have hm:=Dd hab hcd;have hr:=AP a b c d;have hc:=AO (a:=a) (b:=b) (c:=c) (d:=d);have hs:=pI (a:=a) (b:=b) (c:=c) (d:=d);unfold p9;cases h2:(common a b c d).2 with|true=>have e:=hc h2;have hm2:meet a b c d=2:=(by rw[hm];unfold how;rw[h2,e];simp);(cases next with|true=>exact absurd hm2 (hs (hn rfl))|false=>rw[hm2,e];simp)|false=>rcases hr with e|e|e;{have hm2:meet a b c d=0:=(by rw[hm];unfold how;rw[h2,e];simp);cases next<;>simp[hm2,e]};{have hm2:meet a b c d=1:=(by rw[hm];unfold how;rw[h2,e];simp);cases next<;>simp[hm2,e]};·have hm2:meet a b c d=3:=(by rw[hm];unfold how;rw[h2,e];simp);cases next<;>simp[hm2,e]
theorem aal{r:Ring}(h:Shut r)(hl:mA r):oJ r=Df r:=by
 have h4:=h.len;have key:∀i j,j<i->i<r.length-1->p9 (sJ (r.length-1) i j) (common (jj r i) (jj r (i+1)) (jj r j) (jj r (j+1))).1=decide (kA (GI (jt r) j) (GI (jt r) i)≠qm (jt r).length j i):=(by intro i j hji hi;have e1:=Ee (r:=r) (i:=i) (by omega);have e2:=Ee (r:=r) (i:=j) (by omega);have l1:jj r i≠jj r (i+1):=hl (jj r i,jj r (i+1)) (bK (kF (ju (by omega)) (ju (by omega))));have l2:jj r j≠jj r (j+1):=hl (jj r j,jj r (j+1)) (bK (kF (ju (by omega)) (ju (by omega))));rw[e1,e2,nG];unfold kA;simp only;rw[adM l1 l2 ?_];{have ew:(if sJ (r.length-1) i j=true then(1:Int)else 0)=qm (jt r).length j i:=(by unfold sJ qm;rw[j6];by_cases c:j+1=i∨(j=0∧i+1=r.length-1);{rw[ai c,ai];simpa using c};·rw[ag c,ag];simpa using c);rw[ew]};·intro hn;unfold sJ at hn;simp only[di,bM,bC]at hn;rcases hn with e|⟨e,e'⟩;{right;rw[e];exact r6 _ _};·left;subst e;rw[h.eq,show r.length-1=i+1 by omega];exact ri _ _);apply nU;unfold oJ Df;rw[kJ,kJ,j6];constructor;·rintro⟨j,hj,k⟩;rw[kJ]at k;obtain⟨i,hi,k⟩:=k;refine⟨j,hj,?_⟩;rw[kJ];refine⟨i,hi,?_⟩;rw[key j i hi hj,j6];exact k
 ·rintro⟨j,hj,k⟩;rw[kJ]at k;obtain⟨i,hi,k⟩:=k;refine⟨j,hj,?_⟩;rw[kJ];refine⟨i,hi,?_⟩;rw[key j i hi hj,j6]at k;exact k
theorem V9{r:Ring}(h:Shut r):(twice r||oJ r)=(tP r||Df r):=by
 rw[Lu h];cases ht:tP r with|true=>rfl|false=>rw[aal h (JB h (by rw[Lu h];exact ht))]
def d1(m:jy):Bool:=m.any fun l=>l.any fun r=>!(qG r)
def d2(m:jy):Bool:=m.any fun l=>anyI l.length fun i=>anyI l.length fun j=>decide (j≠i)&&!(mP (lH l i) (lH l j))
def nestD(j:Nat):Int:=if j=0 then 1 else-1
def d3(m:jy):Bool:=m.any fun l=>anyI l.length fun i=>decide (1<=i)&&anyI l.length fun j=>decide (j≠i)&&!(sW (lH l i) [lH l j] (nestD j))
def d5(m:jy):Bool:=anyI m.length fun p=>(mS m p).any fun r=>anyI m.length fun k=>decide (k≠p)&&((mS m k).any (fun s=>!(mP r s))||!(sW r (mS m k) (-1)))
def wE(l:Poly):Prop:=∃F:Ht,(∀r q,F r q->r<l.length∧mh (lH l r) (qi q)=0∧q∈l.flatten)∧Core F∧∃r q,F r q
structure Good(m:jy):Prop where
 ne:∀l∈m,l≠[]
 shut:∀l∈m,∀r∈l,Shut r
theorem o5{m:jy}(h:Pl.wrong m=0):Good m:=by
 have hb:m.any Pl.rZ=false:=(by unfold Pl.wrong at h;split at h;{omega};·split at h;{omega};·rename_i k;simpa using k);have one:∀l∈m,Pl.rZ l=false:=(by intro l hl;cases hx:Pl.rZ l with|false=>rfl|true=>rw[aF.2 ⟨l,hl,hx⟩]at hb;cases hb);refine⟨fun l hl e=>?_,fun l hl r hr=>?_⟩;{have:=one l hl;unfold Pl.rZ at this;rw[e]at this;simp at this};·have:=one l hl;unfold Pl.rZ at this;simp only[cW]at this;have vS:Pl.uw r=false:=(by cases hx:Pl.uw r with|false=>rfl|true=>have e:Pl.EI l=true:=aF.2 ⟨r,hr,hx⟩;rw[e]at this;cases this.2);unfold Pl.uw at vS;simp only[cW,dr,Bool.not_eq_false',bC]at vS;have h4:4<=r.length:=(by omega);refine⟨h4,?_⟩;have e:=vS.2;rw[fN,fA,ju (by omega),ju (by omega)]at e;exact aN e
theorem kD{l:Poly}{i:Nat}(h:i<l.length):lH l i∈l:=by
 unfold lH;rw[az,aG h];simp
theorem pS{m:jy}{i:Nat}(h:i<m.length):mS m i∈m:=by
 unfold mS;rw[az,aG h];simp
theorem any_congr{α:Type}{l:List α}{f g:α->Bool}(h:∀x∈l,f x=g x):l.any f=l.any g:=by induction l with|nil=>rfl|cons a t ih=>rw[List.any_cons,List.any_cons,h a (by simp),ih fun x hx=>h x (by simp[hx])]
theorem nH{n:Nat}{f g:Nat->Bool}(h:∀i,i<n->f i=g i):anyI n f=anyI n g:=any_congr fun x hx=>h x (aV.1 hx)
theorem agP{m:jy}(h:Good m):nk 1 m=d1 m:=by
 unfold nk d1;refine any_congr fun l hl=>?_;unfold oh simple;simp only[fM,eZ];refine any_congr fun r hr=>?_;rw[V9 (h.shut l hl r hr)];unfold qG;simp
theorem Wa{m:jy}(h:Good m)(h1:nk 1 m=false):∀l∈m,∀r∈l,mA r:=by
 intro l hl r hr;have:(twice r||oJ r)=false:=(by cases hx:(twice r||oJ r)with|false=>rfl|true=>have:nk 1 m=true:=(by unfold nk;refine aF.2 ⟨l,hl,?_⟩;unfold oh simple;simp only[fM,eZ];exact aF.2 ⟨r,hr,hx⟩);rw[h1]at this;cases this);rw[cW]at this;exact JB (h.shut l hl r hr) this.1
theorem Ce{a b:Ring}(ha:mA a)(hb:mA b):mP a b=!(jF a b):=by
 unfold mP jF;congr 1;refine any_congr fun s hs=>any_congr fun t ht=>?_;rw[V8 (ha s hs) (hb t ht)]
theorem zZ(a b:Ring):jF a b=jF b a:=by
 apply nU;unfold jF;simp only[aF];constructor;{rintro⟨s,hs,t,ht,h⟩;exact⟨t,ht,s,hs,by rw[De];exact h⟩};·rintro⟨s,hs,t,ht,h⟩;exact⟨t,ht,s,hs,by rw[De];exact h⟩
theorem Wc{n:Nat}{f:Nat->Nat->Bool}(hs:∀i j,f i j=f j i):(anyI n fun j=>anyI j fun i=>f i j)=anyI n fun i=>anyI n fun j=>decide (j≠i)&&f i j:=by
 apply nU;simp only[kJ,bM,bC];constructor;{rintro⟨j,hj,i,hi,h⟩;exact⟨i,by omega,j,hj,by omega,h⟩};·rintro⟨i,hi,j,hj,hne,h⟩;rcases bH i j with k|k;{exact⟨j,hj,i,k,h⟩};·exact⟨i,hi,j,by omega,by rw[hs];exact h⟩
theorem agQ{m:jy}(hl:∀l∈m,∀r∈l,mA r):nk 2 m=d2 m:=by
 unfold nk d2;refine any_congr fun l h=>?_;unfold oh touch;simp only[eZ,fM];rw[ag (by decide),eZ,Wc (f:=fun i j=>jF (lH l i) (lH l j)) (fun i j=>zZ _ _)];refine nH fun i hi=>nH fun j hj=>?_;rw[Ce (hl l h _ (kD hi)) (hl l h _ (kD hj)),eZ]
theorem acG{s:jK}{q:Poly}{m:jC}(hs:s.1≠s.2)(h:m∈lS s q):m.2=2:=by
 obtain⟨y,z,-,rfl⟩:=(pH hs q m).1 h;rfl
theorem aam{r o:Ring}(hr:mA r)(ho:mA o){k k':Int}(hk:(k=1∧k'=2)∨(k=-1∧k'=0)):lies r o k'=sW r [o] k:=by
 unfold lies sW;congr 1;refine any_congr fun s hs=>?_;apply nU;simp only[aF,bC];have KU:=hr s hs;have one:∀m:jC,m∈lS s [o]->(place o m≠k'↔Ta [o] m≠k):=(by intro m hm;have hw:=acG KU hm;obtain⟨e1,e2⟩:=AM (p:=m) ho (by omega);show place o m≠k'↔mh o m≠k;rw[e1];unfold pl;rcases e2 with e|e|e<;>rw[e]<;>rcases hk with⟨rfl,rfl⟩|⟨rfl,rfl⟩<;>simp);constructor;{rintro⟨m,hm,h⟩;exact⟨m,(yJ KU _ m).1 hm,(one m hm).1 h⟩};·rintro⟨m,hm,h⟩;have hm':=(yJ KU _ m).2 hm;exact⟨m,hm',(one m hm').2 h⟩
theorem agR{m:jy}(hl:∀l∈m,∀r∈l,mA r):nk 3 m=d3 m:=by
 unfold nk d3;refine any_congr fun l h=>?_;unfold oh nested;rw[ag (by decide),ag (by decide),ai rfl,eZ];refine nH fun i hi=>?_;congr 1;refine nH fun j hj=>?_;rw[aam (hl l h _ (kD hi)) (hl l h _ (kD hj)) (k:=nestD j) (k':=r8 j) (by unfold nestD r8;split<;>simp)];congr 1;exact bJ.2 ⟨fun e=>dh e,fun e=>dh e⟩
theorem aan{l:Poly}(hl:∀r∈l,mA r):way l=true↔wE l:=by
 rw[ER];have e:∀r p,r<l.length->(Jz l r p↔mh (lH l r) (qi p)=0):=(by intro r p hr;obtain⟨e1,e2⟩:=AM (r:=lH l r) (p:=qi p) (hl _ (kD hr)) (by show(0:Int)<1;omega);unfold Jz;rw[e1];unfold pl;rcases e2 with e|e|e<;>rw[e]<;>simp);constructor;{rintro⟨F,h1,h2⟩;exact⟨F,fun r q t=>⟨(h1 r q t).1,(e r q (h1 r q t).1).1 (h1 r q t).2.1,(h1 r q t).2.2⟩,h2⟩};·rintro⟨F,h1,h2⟩;exact⟨F,fun r q t=>⟨(h1 r q t).1,(e r q (h1 r q t).1).2 (h1 r q t).2.1,(h1 r q t).2.2⟩,h2⟩
theorem H6{a b:Poly}(hb0:b≠[])(ha:∀r∈a,mA r)(hb:∀r∈b,mA r)(hx:lR a b=false):enters a b=a.any fun r=>!(sW r b (-1)):=by
 unfold enters;refine any_congr fun r hr=>?_;unfold sW;rw[eZ];refine any_congr fun s hs=>?_;have KU:=ha r hr s hs;have off:∀m∈lS s b,∀o∈b,place o m≠1:=(by intro m hm o ho;refine Ed KU ho (hb o ho) hm fun t ht=>?_;cases hc:jZ (s.1,s.2) t with|false=>rfl|true=>have:lR a b=true:=(by unfold lR;refine aF.2 ⟨r,hr,aF.2 ⟨o,ho,?_⟩⟩;unfold jF;exact aF.2 ⟨s,hs,aF.2 ⟨t,ht,hc⟩⟩);rw[hx]at this;cases this);have one:∀m∈lS s b,(free b m=false↔Ta b m≠-1):=(by intro m hm;have hw:=acG KU hm;have:=aak (l:=b) (p:=m) (by omega) hb0 fun r hr=>⟨hb r hr,off m hm r hr⟩;constructor;{intro e e2;rw[this.2 e2]at e;cases e};·intro e;cases hf:free b m with|false=>rfl|true=>exact absurd (this.1 hf) e);apply nU;simp only[aF,iz,bC];constructor;{rintro⟨m,hm,h⟩;exact⟨m,(yJ KU _ m).1 hm,(one m hm).1 h⟩};·rintro⟨m,hm,h⟩;have hm':=(yJ KU _ m).2 hm;exact⟨m,hm',(one m hm').2 h⟩
def half(a b:Poly):Bool:=a.any fun r=>b.any (fun s=>!(mP r s))||!(sW r b (-1))
theorem aao{a b:Poly}(ha0:a≠[])(hb0:b≠[])(ha:∀r∈a,mA r)(hb:∀r∈b,mA r):(lR a b||enters a b||enters b a)=(half a b||half b a):=by
 have hs:lR a b=lR b a:=(by apply nU;unfold lR;simp only[aF];constructor;{rintro⟨r,hr,o,ho,h⟩;exact⟨o,ho,r,hr,by rw[zZ];exact h⟩};·rintro⟨r,hr,o,ho,h⟩;exact⟨o,ho,r,hr,by rw[zZ];exact h⟩);have pt:∀{a b:Poly},(∀r∈a,mA r)->(∀r∈b,mA r)->half a b=(lR a b||a.any fun r=>!(sW r b (-1))):=(by intro a b ha hb;apply nU;unfold half lR;simp only[aF,di];constructor;{rintro⟨r,hr,⟨s,hs,h⟩|h⟩;{rw[Ce (ha r hr) (hb s hs),eZ]at h;exact .inl ⟨r,hr,s,hs,h⟩};·exact .inr ⟨r,hr,h⟩};·rintro(⟨r,hr,s,hs,h⟩|⟨r,hr,h⟩);{exact⟨r,hr,.inl ⟨s,hs,by rw[Ce (ha r hr) (hb s hs),eZ];exact h⟩⟩};·exact⟨r,hr,.inr h⟩);rw[pt ha hb,pt hb ha,←hs];cases hx:lR a b with|true=>rfl|false=>rw[H6 hb0 ha hb hx,H6 ha0 hb ha (hs▸hx)];simp
theorem agS{m:jy}(hg:Good m)(hl:∀l∈m,∀r∈l,mA r):mO m=d5 m:=by
 have e1:mO m=anyI m.length fun j=>anyI j fun i=>(half (mS m i) (mS m j)||half (mS m j) (mS m i)):=(by unfold mO;refine nH fun j hj=>nH fun i hi=>?_;exact aao (hg.ne _ (pS (by omega))) (hg.ne _ (pS hj)) (hl _ (pS (by omega))) (hl _ (pS hj)));rw[e1];apply nU;unfold d5 half;simp only[kJ,aF,bM,bC,di];constructor;{rintro⟨j,hj,i,hi,⟨r,hr,h⟩|⟨r,hr,h⟩⟩;{exact⟨i,by omega,r,hr,j,hj,by omega,h⟩};·exact⟨j,hj,r,hr,i,by omega,by omega,h⟩};·rintro⟨p,hp,r,hr,k,hk,hne,h⟩;rcases bH p k with g|g;{exact⟨k,hk,p,g,.inl ⟨r,hr,h⟩⟩};·exact⟨p,hp,k,by omega,.inr ⟨r,hr,h⟩⟩
end Vd
def rU(A:Int)(u:jk):Prop:=(-A<=u.1∧u.1<=A)∧-A<=u.2∧u.2<=A
theorem oo{p:jk}(h:Vd.Cd p):rU 32768 p:=by
 unfold Vd.Cd at h;unfold rU;omega
theorem lK{A B:Int}{u:jk}(h:rU A u)(k:A<=B):rU B u:=by
 unfold rU at*;omega
namespace Vd
theorem pp{x y:Int}(hx:0<x)(hy:0<y):0<x*y:=jf hx hy
theorem pn{x y:Int}(hx:0<x)(hy:y<0):x*y<0:=ic hx hy
theorem np{x y:Int}(hx:x<0)(hy:0<y):x*y<0:=gZ hx hy
theorem QX{x y:Int}(hx:x<0)(hy:y<0):0<x*y:=Int.mul_pos_of_neg_of_neg hx hy
theorem p0{x y:Int}(hx:0<=x)(hy:0<=y):0<=x*y:=fL hx hy
theorem m0{x y:Int}(hx:0<=x)(hy:y<=0):x*y<=0:=Int.mul_nonpos_of_nonneg_of_nonpos hx hy
theorem n0{x y:Int}(hx:x<=0)(hy:0<=y):x*y<=0:=Int.mul_nonpos_of_nonpos_of_nonneg hx hy
theorem q0{x y:Int}(hx:x<=0)(hy:y<=0):0<=x*y:=Int.mul_nonneg_of_nonpos_of_nonpos hx hy
theorem jU{u P z:Int}(hu:0<u)(e:u*P=z):(0<P↔0<z)∧(P<0↔z<0)∧(P=0↔z=0):=by
 rcases bZ P 0 with h|h|h;{have:=pn hu h;omega};{have:u*P=0:=(by rw[h];simp);omega};·have:=pp hu h;omega
def nQ(A B:Int):Prop:=(A<0∧0<B)∨(0<A∧B<0)
instance(A B:Int):Decidable (nQ A B):=by
 unfold nQ;infer_instance
theorem AQ{A B:Int}:nQ A B↔nQ B A:=by
 unfold nQ;omega
theorem JC{A B:Int}:nQ (-A) (-B)↔nQ A B:=by
 unfold nQ;omega
theorem QY{u A B a b P Q:Int}(hu:0<u)(hab:a<=b)(e1:u*P=B*a-A*b)(e2:u*Q=B*(a-u)-A*(b-u))(h1:0<a->a<=u->A≠0)(h2:0<b->b<=u->B≠0)(h3:(a<=0∧0<b)∨(b<=0∧0<a)->P≠0)(h4:(a<=u∧u<b)∨(b<=u∧u<a)->Q≠0)(h5:a=u->b=u->¬nQ A B):(((a<=0∧0<b∧0<P)∨(b<=0∧0<a∧P<0))↔((a<=u∧u<b∧0<Q)∨(b<=u∧u<a∧Q<0)))↔¬((nQ A B∧nQ P Q)↔((0<a∧a<=u∧A<0)↔(0<b∧b<=u∧B<0))):=by
 obtain⟨P1,P2,P3⟩:=jU hu e1;obtain⟨Q1,Q2,Q3⟩:=jU hu e2;clear e1 e2;by_cases zb:b<=0;{have n:¬(nQ A B∧nQ P Q):=(by rintro⟨k|k,k2⟩;{have:=m0 (bG k.2) (show a<=0 by omega);have:=q0 (bG k.1) zb;have:=m0 (bG k.2) (show a-u<=0 by omega);have:=q0 (bG k.1) (show b-u<=0 by omega);unfold nQ at k2;omega};·have:=q0 (bG k.2) (show a<=0 by omega);have:=m0 (bG k.1) zb;have:=q0 (bG k.2) (show a-u<=0 by omega);have:=m0 (bG k.1) (show b-u<=0 by omega);unfold nQ at k2;omega);simp only[n,false_iff];clear n h5;constructor;{intro _;omega};·intro _;omega};by_cases za:u<a;{have n:¬(nQ A B∧nQ P Q):=(by rintro⟨k|k,k2⟩;{have:=p0 (bG k.2) (show 0<=a by omega);have:=n0 (bG k.1) (show 0<=b by omega);have:=p0 (bG k.2) (show 0<=a-u by omega);have:=n0 (bG k.1) (show 0<=b-u by omega);unfold nQ at k2;omega};·have:=n0 (bG k.2) (show 0<=a by omega);have:=p0 (bG k.1) (show 0<=b by omega);have:=n0 (bG k.2) (show 0<=a-u by omega);have:=p0 (bG k.1) (show 0<=b-u by omega);unfold nQ at k2;omega);simp only[n,false_iff];clear n h5;constructor;{intro _;omega};·intro _;omega};by_cases ya:0<a;·have hA:=h1 ya (by omega);by_cases yb:b<=u;{have hB:=h2 (by omega) yb;have d:nQ A B->nQ P Q:=(by intro k;have k5:=fun e1 e2=>h5 e1 e2 k;rcases k with k|k;{have:=pp k.2 ya;have:=np k.1 (show 0<b by omega);have:0<P:=P1.2 (by omega);rcases eF (show a<=u by omega)with g|g;{have:=pn k.2 (show a-u<0 by omega);have:=q0 (bG k.1) (show b-u<=0 by omega);have:Q<0:=Q2.2 (by omega);unfold nQ;omega};·exact absurd (show b=u by omega) (k5 g)};·have:=np k.2 ya;have:=pp k.1 (show 0<b by omega);have:P<0:=P2.2 (by omega);rcases eF (show a<=u by omega)with g|g;{have:=QX k.2 (show a-u<0 by omega);have:=m0 (bG k.1) (show b-u<=0 by omega);have:0<Q:=Q1.2 (by omega);unfold nQ;omega};·exact absurd (show b=u by omega) (k5 g));have e:(nQ A B∧nQ P Q)↔nQ A B:=⟨fun k=>k.1,fun k=>⟨k,d k⟩⟩;rw[e];clear d e h5 P1 P2 P3 Q1 Q2 Q3 h3 h4;unfold nQ;omega};·have hQ:=h4 (by omega);have e:(nQ A B∧nQ P Q)↔((A<0∧Q<0)∨(0<A∧0<Q)):=(by rcases eE hA with k|k;{have t1:=np k (show 0<b by omega);have t2:=np k (show 0<b-u by omega);constructor;{rintro⟨o1|o1,o2⟩;{have:=pp o1.2 ya;have:0<P:=P1.2 (by omega);unfold nQ at o2;omega};·omega};·intro o;have hq:Q<0:=(by omega);have hB:0<B:=(by rcases cA 0 B with g|g;{exact g};·have:=q0 g (show a-u<=0 by omega);have:=Q2.1 hq;omega);have:=pp hB ya;have:0<P:=P1.2 (by omega);unfold nQ;omega};·have t1:=pp k (show 0<b by omega);have t2:=pp k (show 0<b-u by omega);constructor;{rintro⟨o1|o1,o2⟩;{omega};·have:=np o1.2 ya;have:P<0:=P2.2 (by omega);unfold nQ at o2;omega};·intro o;have hq:0<Q:=(by omega);have hB:B<0:=(by rcases cA B 0 with g|g;{exact g};·have:=m0 g (show a-u<=0 by omega);have:=Q1.1 hq;omega);have:=np hB ya;have:P<0:=P2.2 (by omega);unfold nQ;omega);rw[e];clear e h5 P1 P2 P3 Q1 Q2 Q3 h3 h4;omega
 ·by_cases yb:b<=u;{have hB:=h2 (by omega) yb;have hP:=h3 (by omega);have e:(nQ A B∧nQ P Q)↔((B<0∧P<0)∨(0<B∧0<P)):=(by rcases eE hB with k|k;{have t1:=q0 (bG k) (show a<=0 by omega);have t2:=QX k (show a-u<0 by omega);constructor;{rintro⟨o1|o1,o2⟩;{omega};·have:=m0 (bG o1.1) (show b-u<=0 by omega);have:0<Q:=Q1.2 (by omega);unfold nQ at o2;omega};·intro o;have hp:P<0:=(by omega);have hA:0<A:=(by rcases cA 0 A with g|g;{exact g};·have:=n0 g (show 0<=b by omega);have:=P2.1 hp;omega);have:=m0 (bG hA) (show b-u<=0 by omega);have:0<Q:=Q1.2 (by omega);unfold nQ;omega};·have t1:=m0 (bG k) (show a<=0 by omega);have t2:=pn k (show a-u<0 by omega);constructor;{rintro⟨o1|o1,o2⟩;{have:=q0 (bG o1.1) (show b-u<=0 by omega);have:Q<0:=Q2.2 (by omega);unfold nQ at o2;omega};·omega};·intro o;have hp:0<P:=(by omega);have hA:A<0:=(by rcases cA A 0 with g|g;{exact g};·have:=p0 g (show 0<=b by omega);have:=P1.1 hp;omega);have:=q0 (bG hA) (show b-u<=0 by omega);have:Q<0:=Q2.2 (by omega);unfold nQ;omega);rw[e];clear e h5 P1 P2 P3 Q1 Q2 Q3 h3 h4;omega};·have hP:=h3 (by omega);have hQ:=h4 (by omega);have d:nQ P Q->nQ A B:=(by rintro(k|k);{have f1:=P2.1 k.1;have f2:=Q1.1 k.2;have hA:0<A:=(by rcases cA 0 A with g|g;{exact g};·have:=n0 g (show 0<=b by omega);have hB:0<B:=(by rcases cA 0 B with g2|g2;{exact g2};·have:=q0 g2 (show a<=0 by omega);omega);have:=m0 (bG hB) (show a-u<=0 by omega);have:B*a-B*(a-u)=B*u:=(by rw[←gU];congr 1;omega);have:A*b-A*(b-u)=A*u:=(by rw[←gU];congr 1;omega);have:=pp hB hu;have:=n0 g (bG hu);omega);have:=pp hA (show 0<b by omega);have:=pp hA (show 0<b-u by omega);have hB:B<0:=(by rcases cA B 0 with g2|g2;{exact g2};·have:=m0 g2 (show a-u<=0 by omega);omega);exact .inr ⟨hA,hB⟩};·have f1:=P1.1 k.1;have f2:=Q2.1 k.2;have hA:A<0:=(by rcases cA A 0 with g|g;{exact g};·have:=p0 g (show 0<=b by omega);have hB:B<0:=(by rcases cA B 0 with g2|g2;{exact g2};·have:=m0 g2 (show a<=0 by omega);omega);have:=q0 (bG hB) (show a-u<=0 by omega);have:B*a-B*(a-u)=B*u:=(by rw[←gU];congr 1;omega);have:A*b-A*(b-u)=A*u:=(by rw[←gU];congr 1;omega);have:=np hB hu;have:=p0 g (bG hu);omega);have:=np hA (show 0<b by omega);have:=np hA (show 0<b-u by omega);have hB:0<B:=(by rcases cA 0 B with g2|g2;{exact g2};·have:=q0 g2 (show a-u<=0 by omega);omega);exact .inl ⟨hA,hB⟩);have e:(nQ A B∧nQ P Q)↔nQ P Q:=⟨fun k=>k.2,fun k=>⟨d k,k⟩⟩;rw[e];clear d e h5 P1 P2 P3 Q1 Q2 Q3 h3 h4 h1 h2;unfold nQ;omega
theorem adN{u A B a b P Q:Int}(hu:0<u)(e1:u*P=B*a-A*b)(e2:u*Q=B*(a-u)-A*(b-u))(h1:0<a->a<=u->A≠0)(h2:0<b->b<=u->B≠0)(h3:(a<=0∧0<b)∨(b<=0∧0<a)->P≠0)(h4:(a<=u∧u<b)∨(b<=u∧u<a)->Q≠0)(h5:a=u->b=u->¬nQ A B):(((a<=0∧0<b∧0<P)∨(b<=0∧0<a∧P<0))↔((a<=u∧u<b∧0<Q)∨(b<=u∧u<a∧Q<0)))↔¬((nQ A B∧nQ P Q)↔((0<a∧a<=u∧A<0)↔(0<b∧b<=u∧B<0))):=by
 rcases dG a b with h|h;{exact QY hu h e1 e2 h1 h2 h3 h4 h5};·have:=QY (P:=-P) (Q:=-Q) (A:=B) (B:=A) hu h (by rw[Int.mul_neg,e1];omega) (by rw[Int.mul_neg,e2];omega) h2 h1 (fun k=>by have:=h3 (by omega);omega) (fun k=>by have:=h4 (by omega);omega) (fun k1 k2 o=>h5 k2 k1 (AQ.1 o));rw[AQ (A:=B),JC]at this;have t1:((a<=0∧0<b∧0<P)∨(b<=0∧0<a∧P<0))↔((b<=0∧0<a∧0< -P)∨(a<=0∧0<b∧-P<0)):=(by omega);have t2:((a<=u∧u<b∧0<Q)∨(b<=u∧u<a∧Q<0))↔((b<=u∧u<a∧0< -Q)∨(a<=u∧u<b∧-Q<0)):=(by omega);rw[t1,t2,this,iff_comm (a:=(0<b∧b<=u∧B<0))]
def Xs(p q a b:jk):Prop:=nQ (cr p q a 1) (cr p q b 1)∧nQ (cr a b p 1) (cr a b q 1)
instance(p q a b:jk):Decidable (Xs p q a b):=by
 unfold Xs;infer_instance
def dR(p q v:jk):Bool:=decide (p.2<v.2∧v.2<=q.2∧cr p q v 1<0)
theorem pT(a b p:jk):pF a b p 1=decide ((a.2-p.2<=0∧0<b.2-p.2∧0<cr a b p 1)∨(b.2-p.2<=0∧0<a.2-p.2∧cr a b p 1<0)):=by
 unfold pF;simp only[aZ,EL,Jv];by_cases h1:a.2>p.2<;>by_cases h2:b.2>p.2;{rw[ai (by simp[h1,h2])];symm;exact aC (by omega)};{rw[ag (by simp[h1,h2]),ag h2];exact bJ.2 (by omega)};{rw[ag (by simp[h1,h2]),ai h2];exact bJ.2 (by omega)};·rw[ai (by simp[h1,h2])];symm;exact aC (by omega)
theorem Lv{u U x al:Int}(hu:0<u)(h0:0<=al)(h1:al<=u)(e:U*al=u*x):lV 0 x U:=by
 rcases dG 0 U with g|g;{left;have k1:=p0 g h0;have k2:U*al<=U*u:=bD h1 g;rw[e]at k1 k2;refine⟨Int.nonneg_of_mul_nonneg_right k1 hu,?_⟩;rw[e7 U u]at k2;exact cU k2 hu};·right;have k1:=n0 g h0;have k2:U*u<=U*al:=gx g h1;rw[e]at k1 k2;rw[e7 U u]at k2;refine⟨cU k2 hu,?_⟩;rcases cA 0 x with g2|g2;{have:=pp hu g2;omega};·exact g2
theorem pJ{a b p:jk}(h0:cr a b p 1=0)(h:(a.2<=p.2∧p.2<=b.2∧a.2<b.2)∨(b.2<=p.2∧p.2<=a.2∧b.2<a.2)):has a b p 1:=by
 refine⟨h0,?_,by unfold lV;omega⟩;unfold cr at h0;rcases h with⟨h1,h2,h3⟩|⟨h1,h2,h3⟩;{have:=Lv (u:=b.2-a.2) (U:=b.1-a.1) (x:=p.1-a.1) (al:=p.2-a.2) (by omega) (by omega) (by omega) (by simp only[aZ]at h0;omega);unfold lV at*;omega};·have:=Lv (u:=a.2-b.2) (U:=b.1-a.1) (x:=p.1-a.1) (al:=a.2-p.2) (by omega) (by omega) (by omega) (by simp only[aZ]at h0;have e1:(b.1-a.1)*(a.2-p.2)=-((b.1-a.1)*(p.2-a.2)):=(by grind);have e2:(a.2-b.2)*(p.1-a.1)=-((b.2-a.2)*(p.1-a.1)):=(by grind);omega);unfold lV at*;omega
theorem QZ{p q a:jk}(h:a.2=q.2):cr p q a 1=(q.2-p.2)*(q.1-a.1):=by
 unfold cr;rw[h];grind
theorem Q0{r1 r2 x d1 d2:Prop}[Decidable r1][Decidable r2][Decidable x][Decidable d1][Decidable d2](h:(r1↔r2)↔¬(x↔(d1↔d2))):(decide r1^^decide r2)=(decide x^^(decide d1^^decide d2)):=by by_cases c1:r1<;>by_cases c2:r2<;>by_cases c3:x<;>by_cases c4:d1<;>by_cases c5:d2<;>simp_all
theorem JD{p q a b:jk}(hpq:p.2<q.2)(ha:¬has p q a 1)(hb:¬has p q b 1)(hp:¬has a b p 1)(hq:¬has a b q 1):(pF a b p 1^^pF a b q 1)=(decide (Xs p q a b)^^(dR p q a^^dR p q b)):=by
 have key:=adN (u:=q.2-p.2) (A:=cr p q a 1) (B:=cr p q b 1) (a:=a.2-p.2) (b:=b.2-p.2) (P:=cr a b p 1) (Q:=cr a b q 1) (by omega) (by unfold cr;grind) (by unfold cr;grind) (fun h1 h2 e=>ha (pJ e (by omega))) (fun h1 h2 e=>hb (pJ e (by omega))) (fun h e=>hp (pJ e (by omega))) (fun h e=>hq (pJ e (by omega))) (fun h1 h2 o=>hq (by have e1:=QZ (p:=p) (q:=q) (a:=a) (by omega);have e2:=QZ (p:=p) (q:=q) (a:=b) (by omega);rw[e1,e2]at o;have s1:=jU (u:=q.2-p.2) (P:=q.1-a.1) (by omega) rfl;have s2:=jU (u:=q.2-p.2) (P:=q.1-b.1) (by omega) rfl;refine⟨?_,?_,by unfold lV;omega⟩;{unfold cr;rw[show b.2-a.2=0 by omega,show q.2-a.2*1=0 by omega];simp};·unfold nQ at o;unfold lV;omega));rw[pT,pT];have t:((a.2-q.2<=0∧0<b.2-q.2∧0<cr a b q 1)∨(b.2-q.2<=0∧0<a.2-q.2∧cr a b q 1<0))↔((a.2-p.2<=q.2-p.2∧q.2-p.2<b.2-p.2∧0<cr a b q 1)∨(b.2-p.2<=q.2-p.2∧q.2-p.2<a.2-p.2∧cr a b q 1<0)):=(by omega);have t1:(p.2<a.2∧a.2<=q.2∧cr p q a 1<0)↔(0<a.2-p.2∧a.2-p.2<=q.2-p.2∧cr p q a 1<0):=(by omega);have t2:(p.2<b.2∧b.2<=q.2∧cr p q b 1<0)↔(0<b.2-p.2∧b.2-p.2<=q.2-p.2∧cr p q b 1<0):=(by omega);unfold dR;rw[bJ.2 t,bJ.2 t1,bJ.2 t2];exact Q0 key
theorem H7{p q a b:jk}(hpq:p.2=q.2)(ha:¬has p q a 1)(hb:¬has p q b 1)(hp:¬has a b p 1)(hq:¬has a b q 1):(pF a b p 1^^pF a b q 1)=decide (Xs p q a b):=by
 have eA:cr p q a 1=(q.1-p.1)*(a.2-p.2):=(by unfold cr;rw[hpq];grind);have eB:cr p q b 1=(q.1-p.1)*(b.2-p.2):=(by unfold cr;rw[hpq];grind);rw[pT,pT];unfold Xs;have hP:(a.2-p.2<=0∧0<b.2-p.2)∨(b.2-p.2<=0∧0<a.2-p.2)->cr a b p 1≠0:=fun h e=>hp (pJ e (by omega));have hQ:(a.2-p.2<=0∧0<b.2-p.2)∨(b.2-p.2<=0∧0<a.2-p.2)->cr a b q 1≠0:=fun h e=>hq (pJ e (by omega));have key:nQ (cr a b p 1) (cr a b q 1)->((a.2-p.2<=0∧0<b.2-p.2)∨(b.2-p.2<=0∧0<a.2-p.2))->nQ (cr p q a 1) (cr p q b 1):=by intro o h;have hne:q.1-p.1≠0:=(by intro e;have:p=q:=cJ (by omega) hpq;rw[this]at o;unfold nQ at o;omega);have ia:a.2≠p.2:=(by intro e;have f1:cr a b p 1=-((b.2-a.2)*(p.1-a.1)):=(by unfold cr;rw[e];grind);have f2:cr a b q 1=-((b.2-a.2)*(q.1-a.1)):=(by unfold cr;rw[e,hpq];grind);have s1:=jU (u:=b.2-a.2) (P:=p.1-a.1) (by omega) rfl;have s2:=jU (u:=b.2-a.2) (P:=q.1-a.1) (by omega) rfl;rw[f1,f2]at o;refine ha ⟨by rw[eA,e];simp,?_,by unfold lV;omega⟩;unfold nQ at o;unfold lV;omega);have ib:b.2≠p.2:=(by intro e;have f1:cr a b p 1=-((a.2-b.2)*(b.1-p.1)):=(by unfold cr;rw[e];grind);have f2:cr a b q 1=-((a.2-b.2)*(b.1-q.1)):=(by unfold cr;rw[e,hpq];grind);have s1:=jU (u:=a.2-b.2) (P:=b.1-p.1) (by omega) rfl;have s2:=jU (u:=a.2-b.2) (P:=b.1-q.1) (by omega) rfl;rw[f1,f2]at o;refine hb ⟨by rw[eB,e];simp,?_,by unfold lV;omega⟩;unfold nQ at o;unfold lV;omega);rw[eA,eB];have m1:=eE hne;rcases m1 with m|m<;>rcases h with h|h;{exact .inr ⟨QX m (by omega),np m (by omega)⟩};{exact .inl ⟨np m (by omega),QX m (by omega)⟩};{exact .inl ⟨pn m (by omega),pp m (by omega)⟩};·exact .inr ⟨pp m (by omega),pn m (by omega)⟩
 have back:nQ (cr p q a 1) (cr p q b 1)->((a.2-p.2<=0∧0<b.2-p.2)∨(b.2-p.2<=0∧0<a.2-p.2)):=(by intro o;rw[eA,eB]at o;rcases bZ (q.1-p.1) 0 with m|m|m;{have s1:=jU (u:=-(q.1-p.1)) (P:=a.2-p.2) (by omega) rfl;have s2:=jU (u:=-(q.1-p.1)) (P:=b.2-p.2) (by omega) rfl;rw[Int.neg_mul]at s1 s2;unfold nQ at o;omega};{rw[m]at o;unfold nQ at o;simp at o};·have s1:=jU (u:=q.1-p.1) (P:=a.2-p.2) (by omega) rfl;have s2:=jU (u:=q.1-p.1) (P:=b.2-p.2) (by omega) rfl;unfold nQ at o;omega);have k:=Q0 (r1:=(a.2-p.2<=0∧0<b.2-p.2∧0<cr a b p 1)∨(b.2-p.2<=0∧0<a.2-p.2∧cr a b p 1<0)) (r2:=(a.2-q.2<=0∧0<b.2-q.2∧0<cr a b q 1)∨(b.2-q.2<=0∧0<a.2-q.2∧cr a b q 1<0)) (x:=nQ (cr p q a 1) (cr p q b 1)∧nQ (cr a b p 1) (cr a b q 1)) (d1:=False) (d2:=False) (by by_cases h:(a.2-p.2<=0∧0<b.2-p.2)∨(b.2-p.2<=0∧0<a.2-p.2);{have g1:=hP h;have g2:=hQ h;have g3:=fun o=>key o h;have e:(nQ (cr p q a 1) (cr p q b 1)∧nQ (cr a b p 1) (cr a b q 1))↔nQ (cr a b p 1) (cr a b q 1):=⟨fun x=>x.2,fun x=>⟨g3 x,x⟩⟩;rw[e];clear e g3 key back hP hQ eA eB;simp only[iff_self,iff_true];unfold nQ;omega};·have e:¬(nQ (cr p q a 1) (cr p q b 1)∧nQ (cr a b p 1) (cr a b q 1)):=fun x=>h (back x.1);have r1:¬((a.2-p.2<=0∧0<b.2-p.2∧0<cr a b p 1)∨(b.2-p.2<=0∧0<a.2-p.2∧cr a b p 1<0)):=(by omega);have r2:¬((a.2-q.2<=0∧0<b.2-q.2∧0<cr a b q 1)∨(b.2-q.2<=0∧0<a.2-q.2∧cr a b q 1<0)):=(by omega);simp only[e,r1,r2];simp)
 rw[k];rw[show(decide False^^decide False)=false from rfl,Bool.xor_false]
theorem aap{p q a b:jk}:Xs q p a b↔Xs p q a b:=by
 unfold Xs;rw[mN p q a 1,mN p q b 1,JC,AQ (A:=cr a b q 1)]
def uV(p q v:jk):Bool:=if p.2<q.2 then dR p q v else if q.2<p.2 then dR q p v else false
theorem Lw{p q a b:jk}(ha:¬has p q a 1)(hb:¬has p q b 1)(hp:¬has a b p 1)(hq:¬has a b q 1):(pF a b p 1^^pF a b q 1)=(decide (Xs p q a b)^^(uV p q a^^uV p q b)):=by
 unfold uV;rcases bZ p.2 q.2 with h|h|h;{rw[ai h,ai h];exact JD h ha hb hp hq};{rw[ag (by omega),ag (by omega),ag (by omega),ag (by omega),H7 h ha hb hp hq];simp};·rw[ag (by omega),ai h,ag (by omega),ai h];rw[Bool.xor_comm,JD h (fun k=>ha (nT.1 k)) (fun k=>hb (nT.1 k)) hq hp,bJ.2 aap]
def jR(l:List jK)(p:jC):Bool:=l.foldr (fun s b=>pF s.1 s.2 p.1 p.2^^b) false
def ZQ(l:List jK)(p q:jk):Bool:=l.foldr (fun s b=>decide (Xs p q s.1 s.2)^^b) false
theorem j9(s:jK)(l:List jK)(p:jC):jR (s::l) p=(pF s.1 s.2 p.1 p.2^^jR l p):=rfl
theorem xM(s:jK)(l:List jK)(p q:jk):ZQ (s::l) p q=(decide (Xs p q s.1 s.2)^^ZQ l p q):=rfl
theorem lM(a b:List jK)(p:jC):jR (a++b) p=(jR a p^^jR b p):=by induction a with|nil=>simp[jR]|cons s a ih=>rw[aY,j9,j9,ih,iZ]
theorem lD(a b:jk)(t:Ring):jt (a::b::t)=(a,b)::jt (b::t):=rfl
theorem AR(a:jk):jt [a]=[]:=rfl
structure KV(p q a b:jk):Prop where
 ha:¬has p q a 1
 hb:¬has p q b 1
 hp:¬has a b p 1
 hq:¬has a b q 1
theorem z8(p q:jk):∀(t:Ring)(a:jk),(∀s∈jt (a::t),KV p q s.1 s.2)->(jR (jt (a::t)) (p,1)^^jR (jt (a::t)) (q,1))=(ZQ (jt (a::t)) p q^^(uV p q a^^uV p q ((a::t).getLast (by simp)))):=by
 intro t;induction t with|nil=>intro a _;simp[AR,jR,ZQ]|cons b t ih=>intro a h;rw[lD]at h;have h1:=h (a,b) (by simp);have k:=ih b fun s hs=>h s (by simp[hs]);have e:=Lw h1.ha h1.hb h1.hp h1.hq;rw[lD,j9,j9,xM,List.getLast_cons (by simp)];simp only at e⊢;revert e k;generalize pF a b p 1=x1;generalize pF a b q 1=x2;generalize jR (jt (b::t)) (p,1)=x3;generalize jR (jt (b::t)) (q,1)=x4;generalize ZQ (jt (b::t)) p q=x5;generalize decide (Xs p q a b)=x6;generalize uV p q a=x7;generalize uV p q b=x8;generalize uV p q ((b::t).getLast (by simp))=x9;revert x1 x2 x3 x4 x5 x6 x7 x8 x9;decide
def Ends(r:Ring):Prop:=r.head?=r.getLast?
theorem jH{r:Ring}(h:Shut r):Ends r:=by
 have h4:=h.len;unfold Ends;rw[fN,fA,ju (by omega),ju (by omega),h.eq]
theorem H8{r:Ring}(hr:Ends r){p q:jk}(h:∀s∈jt r,KV p q s.1 s.2):(jR (jt r) (p,1)^^jR (jt r) (q,1))=ZQ (jt r) p q:=by cases r with|nil=>rfl|cons a t=>have k:=z8 p q t a h;have e:a=(a::t).getLast (by simp):=(by unfold Ends at hr;rw[eC (by simp)]at hr;simpa using hr);rw[k,←e];simp
theorem Lx:∀(l:List jK)(i:Bool)(p:jC),(∀s∈l,¬has s.1 s.2 p.1 p.2)->mH l i p=if(i^^jR l p)=true then 2 else 0:=by
 intro l;induction l with|nil=>intro i p _;simp[mH,jR]|cons s l ih=>intro i p h;have h1:=h s (by simp);unfold mH;rw[ag (by unfold hasB;simpa using h1),ih _ p fun t ht=>h t (by simp[ht]),j9];cases pF s.1 s.2 p.1 p.2<;>cases i<;>simp
theorem oq{r:Ring}{p:jC}(h:∀s∈jt r,¬has s.1 s.2 p.1 p.2):place r p=if jR (jt r) p=true then 2 else 0:=by
 unfold place;rw[Lx _ _ _ h];simp
theorem xN{l:List jK}{p q:jk}(h:∀s∈l,¬Xs p q s.1 s.2):ZQ l p q=false:=by induction l with|nil=>rfl|cons s l ih=>rw[xM,ih fun t ht=>h t (by simp[ht]),aC (h s (by simp))];rfl
theorem Oo{r:Ring}(hr:Ends r){p q:jk}(h:∀s∈jt r,KV p q s.1 s.2)(hx:∀s∈jt r,¬Xs p q s.1 s.2):place r (p,1)=place r (q,1):=by
 have k:=H8 hr h;rw[xN hx]at k;rw[oq (p:=(p,1)) fun s hs=>(h s hs).hp,oq (p:=(q,1)) fun s hs=>(h s hs).hq];have:jR (jt r) (p,1)=jR (jt r) (q,1):=(by revert k;generalize jR (jt r) (p,1)=x;generalize jR (jt r) (q,1)=y;cases x<;>cases y<;>simp);rw[this]
def sc(k:Int)(p:jk):jk:=(k*p.1,k*p.2)
def pg(k:Int)(r:Ring):Ring:=r.map (sc k)
def Dg(k:Int)(s:jK):jK:=(sc k s.1,sc k s.2)
theorem Q4(k:Int)(a b p:jk)(w:Int):cr (sc k a) (sc k b) p w=k*cr a b p (k*w):=by
 unfold cr sc;grind
theorem Oq{k:Int}(hk:0<k)(n:Int):sg (k*n)=sg n:=by
 have s:=jU hk (rfl:k*n=k*n);rcases jS n with⟨h,e⟩|⟨h,e⟩|⟨h,e⟩<;>rcases jS (k*n)with⟨h',e'⟩|⟨h',e'⟩|⟨h',e'⟩<;>first|omega|rw[e,e']
theorem mW{k:Int}(hk:0<k)(a b p:jk)(w:Int):has (sc k a) (sc k b) p w↔has a b p (k*w):=by
 have s:=jU hk (rfl:k*cr a b p (k*w)=_);have e:∀x:Int,k*x*w=x*(k*w):=fun x=>(by grind);unfold has;rw[Q4];unfold sc;simp only[e];constructor;{rintro⟨h1,h2⟩;exact⟨s.2.2.2 h1,h2⟩};·rintro⟨h1,h2⟩;exact⟨s.2.2.1 h1,h2⟩
theorem ES{k:Int}(hk:0<k)(a b p:jk)(w:Int):pF (sc k a) (sc k b) p w=pF a b p (k*w):=by
 have e:∀x:Int,k*x*w=x*(k*w):=fun x=>(by grind);unfold pF;rw[Q4,Oq hk];unfold sc;simp only[e]
theorem ot(k:Int)(r:Ring):jt (pg k r)=(jt r).map (Dg k):=by
 unfold jt pg;rw[←List.map_tail,List.zip_map];rfl
theorem Tb{k:Int}(hk:0<k):∀(l:List jK)(i:Bool)(p:jk)(w:Int),mH (l.map (Dg k)) i (p,w)=mH l i (p,k*w):=by
 intro l;induction l with|nil=>intro i p w;rfl|cons s l ih=>intro i p w;rw[cB];unfold mH;have e1:hasB (Dg k s) (p,w)=hasB s (p,k*w):=bJ.2 (mW hk s.1 s.2 p w);have e2:pF (Dg k s).1 (Dg k s).2 p w=pF s.1 s.2 p (k*w):=ES hk s.1 s.2 p w;rw[e1,ih];simp only[e2]
theorem qn{k:Int}(hk:0<k)(r:Ring)(p:jk)(w:Int):place (pg k r) (p,w)=place r (p,k*w):=by
 unfold place;rw[ot,Tb hk]
theorem sZ{k:Int}{r:Ring}(h:Ends r):Ends (pg k r):=by
 unfold Ends pg at*;rw[List.head?_map,List.getLast?_map,h]
theorem JE(k:Int)(a b p:jk)(w:Int):cr a b (sc k p) (k*w)=k*cr a b p w:=by
 unfold cr sc;grind
theorem aaq{k:Int}(hk:0<k){a p b:Int}:lV (k*a) (k*p) (k*b)↔lV a p b:=by
 have e1:∀{x y:Int},k*x<=k*y↔x<=y:=fun{x y}=>⟨fun h=>cU h hk,fun h=>bD h (by omega)⟩;unfold lV;simp only[e1]
theorem nV{k:Int}(hk:0<k)(a b p:jk)(w:Int):has a b (sc k p) (k*w)↔has a b p w:=by
 have s:=jU hk (rfl:k*cr a b p w=_);have e:∀x:Int,x*(k*w)=k*(x*w):=fun x=>(by grind);unfold has;rw[JE];unfold sc;simp only[e,aaq hk];constructor;{rintro⟨h1,h2⟩;exact⟨s.2.2.2 h1,h2⟩};·rintro⟨h1,h2⟩;exact⟨s.2.2.1 h1,h2⟩
theorem Ly{k:Int}(hk:0<k)(a b p:jk)(w:Int):pF a b (sc k p) (k*w)=pF a b p w:=by
 have e:∀x:Int,x*(k*w)=k*(x*w):=fun x=>(by grind);have e1:∀{x y:Int},k*x>k*y↔x>y:=fun{x y}=>⟨fun h=>dZ h (by omega),fun h=>cN h hk⟩;unfold pF;rw[JE,Oq hk];unfold sc;simp only[e,e1]
theorem LA{k:Int}(hk:0<k)(p:jk)(w:Int):∀(l:List jK)(i:Bool),mH l i (sc k p,k*w)=mH l i (p,w):=by
 intro l;induction l with|nil=>intro i;rfl|cons s l ih=>intro i;unfold mH;have e1:hasB s (sc k p,k*w)=hasB s (p,w):=bJ.2 (nV hk s.1 s.2 p w);rw[e1,ih];simp only[Ly hk]
theorem Aa{k:Int}(hk:0<k)(r:Ring)(p:jk)(w:Int):place r (sc k p,k*w)=place r (p,w):=by
 unfold place;rw[LA hk]
theorem qK{r:Ring}{p:jC}(hp:0<p.2){k:Int}(hk:0<k):place r p=place (pg (k*p.2) r) (sc k p.1,1):=by rw[qn (pp hk hp),aZ,Aa hk]
theorem JF{α:Type}(f:α->Int)(P:α->Prop):∀(l:List α),(∃x∈l,P x)->∃x∈l,P x∧∀y∈l,P y->f y<=f x:=by
 intro l;induction l with|nil=>rintro⟨x,hx,_⟩;cases hx|cons a t ih=>rintro⟨x,hx,hp⟩;by_cases ht:∃y∈t,P y;{obtain⟨y,hy,py,my⟩:=ih ht;by_cases ha:P a∧f y<f a;{refine⟨a,by simp,ha.1,fun z hz pz=>?_⟩;rcases aE.1 hz with rfl|hz;{exact dj _};·have:=my z hz pz;omega};·refine⟨y,by simp[hy],py,fun z hz pz=>?_⟩;rcases aE.1 hz with rfl|hz;{by_cases c:f y<f z;{exact absurd ⟨pz,c⟩ ha};·omega};·exact my z hz pz};·rcases aE.1 hx with rfl|hx;{refine⟨x,by simp,hp,fun z hz pz=>?_⟩;rcases aE.1 hz with rfl|hz;{exact dj _};·exact absurd ⟨z,hz,pz⟩ ht};·exact absurd ⟨x,hx,hp⟩ ht
theorem Wd{α:Type}(f:α->Int)(P:α->Prop)(l:List α)(h:∃x∈l,P x):∃x∈l,P x∧∀y∈l,P y->f x<=f y:=by
 obtain⟨x,hx,hp,m⟩:=JF (fun x=>-f x) P l h;exact⟨x,hx,hp,fun y hy py=>by have:=m y hy py;omega⟩
theorem ET{a b:jk}{l:List jk}{x:jk}:Cut a b l x↔x∈a::b::l∧(x=a∨x=b∨(x∈l∧has a b x 1)):=by
 unfold Cut;constructor;{intro h;refine⟨?_,h⟩;rcases h with rfl|rfl|h;{simp};{simp};·simp[h.1]};·exact fun h=>h.2
theorem AU{a b p:jk}(h0:cr a b p 1=0):kk a b*p.1=kk a b*a.1+pos a b p*(b.1-a.1)∧kk a b*p.2=kk a b*a.2+pos a b p*(b.2-a.2):=by
 unfold cr at h0;unfold pos dt kk;constructor<;>grind
theorem adO{k D a1 a2 b1 b2 p1 p2 c1 c2 d1 d2:Int}(e1:k*p1=k*a1+D*(b1-a1))(e2:k*p2=k*a2+D*(b2-a2)):k*((d1-c1)*(p2-c2)-(d2-c2)*(p1-c1))=(k-D)*((d1-c1)*(a2-c2)-(d2-c2)*(a1-c1))+D*((d1-c1)*(b2-c2)-(d2-c2)*(b1-c1)):=by grind
theorem uF{a b p:jk}(h0:cr a b p 1=0)(c d:jk):kk a b*cr c d p 1=(kk a b-pos a b p)*cr c d a 1+pos a b p*cr c d b 1:=by
 obtain⟨e1,e2⟩:=AU h0;have:=adO (c1:=c.1) (c2:=c.2) (d1:=d.1) (d2:=d.2) e1 e2;unfold cr;simpa only[aZ]using this
theorem aar{k D E a1 a2 b1 b2 p1 p2 q1 q2:Int}(e1:k*p1=k*a1+D*(b1-a1))(e2:k*p2=k*a2+D*(b2-a2))(f1:k*q1=k*a1+E*(b1-a1))(f2:k*q2=k*a2+E*(b2-a2)):k*(q1-p1)=(E-D)*(b1-a1)∧k*(q2-p2)=(E-D)*(b2-a2):=by constructor<;>grind
theorem Ef{a b p q:jk}(hp:cr a b p 1=0)(hq:cr a b q 1=0):kk a b*(q.1-p.1)=(pos a b q-pos a b p)*(b.1-a.1)∧kk a b*(q.2-p.2)=(pos a b q-pos a b p)*(b.2-a.2):=by
 obtain⟨e1,e2⟩:=AU hp;obtain⟨f1,f2⟩:=AU hq;exact aar e1 e2 f1 f2
theorem Q5{k L u1 u2 v1 v2 x1 x2:Int}(e1:k*v1=L*u1)(e2:k*v2=L*u2):k*(v1*x2-v2*x1)=L*(u1*x2-u2*x1)∧k*(x1*v1+x2*v2)=L*(x1*u1+x2*u2):=by constructor<;>grind
theorem Q6{a b p:jk}(hp:cr a b p 1=0)(c:jk):(b.1-a.1)*(c.2-p.2)-(b.2-a.2)*(c.1-p.1)=cr a b c 1:=by
 unfold cr at*;grind
theorem qg{a b p q:jk}(hp:cr a b p 1=0)(hq:cr a b q 1=0)(c:jk):kk a b*cr p q c 1=(pos a b q-pos a b p)*cr a b c 1:=by
 obtain⟨e1,e2⟩:=Ef hp hq;have:=(Q5 (x1:=c.1-p.1) (x2:=c.2-p.2) e1 e2).1;rw[Q6 hp]at this;rw[←this];unfold cr;simp only[aZ]
theorem We(a b p c:jk):(c.1-p.1)*(b.1-a.1)+(c.2-p.2)*(b.2-a.2)=pos a b c-pos a b p:=by
 unfold pos dt;grind
theorem Cf{a b p q:jk}(hp:cr a b p 1=0)(hq:cr a b q 1=0)(c:jk):kk a b*dt p q c 1=(pos a b q-pos a b p)*(pos a b c-pos a b p):=by
 obtain⟨e1,e2⟩:=Ef hp hq;have:=(Q5 (x1:=c.1-p.1) (x2:=c.2-p.2) e1 e2).2;rw[We a b p c]at this;rw[←this];unfold dt;simp only[aZ]
theorem Wf(p q:jk):kk p q=dt p q q 1:=by
 unfold kk dt;simp
theorem uG{a b p q c:jk}(hab:a≠b)(hpq:p≠q)(hp:cr a b p 1=0)(hq:cr a b q 1=0)(h:has p q c 1):cr a b c 1=0∧lV (pos a b p) (pos a b c) (pos a b q):=by
 have hk:=kO hab;obtain⟨h0,h1,h2⟩:=(ry hpq (by omega)).1 h;have hne:pos a b q-pos a b p≠0:=fun e=>hpq (rT hab hp hq (by omega));have e:=qg hp hq c;rw[h0,bB]at e;have e1:=Cf hp hq c;have e2:=Cf hp hq q;rw[aZ,Wf]at h2;have m1:=p0 (bG hk) h1;have m2:=bD h2 (bG hk);rw[e1]at m1;rw[e1,e2]at m2;refine⟨?_,?_⟩;{rcases aK.1 e.symm with g|g;{exact absurd g hne};·exact g};·unfold lV;rcases eE hne with g|g;{right;constructor;{rcases cA (pos a b c) (pos a b q)with q'|q';{have:=Int.mul_lt_mul_of_neg_left (show pos a b c-pos a b p<pos a b q-pos a b p by omega) g;omega};·exact q'};·rcases cA (pos a b p) (pos a b c)with q|q;{have:=np g (show 0<pos a b c-pos a b p by omega);omega};·exact q};·left;constructor;{rcases cA (pos a b c) (pos a b p)with q|q;{have:=pn g (show pos a b c-pos a b p<0 by omega);omega};·exact q};·have:=cU m2 g;omega
theorem EU{x y s t s' t' X Y:Int}(hs:0<=s)(ht:0<=t)(hs':0<=s')(ht':0<=t'){k:Int}(hk:0<k)(e1:k*X=s*x+t*y)(e2:k*Y=s'*x+t'*y)(o:nQ X Y):nQ x y:=by
 obtain⟨P1,P2,-⟩:=jU hk e1;obtain⟨Q1,Q2,-⟩:=jU hk e2;have both:¬(0<=x∧0<=y):=(by rintro⟨hx,hy⟩;have:=p0 hs hx;have:=p0 ht hy;have:=p0 hs' hx;have:=p0 ht' hy;unfold nQ at o;omega);have none:¬(x<=0∧y<=0):=(by rintro⟨hx,hy⟩;have:=m0 hs hx;have:=m0 ht hy;have:=m0 hs' hx;have:=m0 ht' hy;unfold nQ at o;omega);unfold nQ;omega
theorem EW{a b c d:jk}(h1:nQ (cr a b c 1) (cr a b d 1))(h2:nQ (cr c d a 1) (cr c d b 1)):meet a b c d=2:=by
 unfold meet nQ at*;rcases jS (cr a b c 1)with⟨g1,k1⟩|⟨g1,k1⟩|⟨g1,k1⟩<;>rcases jS (cr a b d 1)with⟨g2,k2⟩|⟨g2,k2⟩|⟨g2,k2⟩<;>rcases jS (cr c d a 1)with⟨g3,k3⟩|⟨g3,k3⟩|⟨g3,k3⟩<;>rcases jS (cr c d b 1)with⟨g4,k4⟩|⟨g4,k4⟩|⟨g4,k4⟩<;>first|(exfalso;omega)|simp[k1,k2,k3,k4]
theorem xO(x y:Int):(x*y<0->(0<x∧y<0)∨(x<0∧0<y))∧(0<x*y->(0<x∧0<y)∨(x<0∧y<0)):=by
 rcases bZ x 0 with h|h|h<;>rcases bZ y 0 with k|k|k;{have:=QX h k;omega};{rw[k];simp};{have:=np h k;omega};{rw[h];simp};{rw[h];simp};{rw[h];simp};{have:=pn h k;omega};{rw[k];simp};·have:=pp h k;omega
theorem H9{a b:jk}(hab:a≠b){o:Ring}(he:Ends o){p q:jk}(hp:cr a b p 1=0)(hq:cr a b q 1=0)(np:place o (p,1)≠1)(nq:place o (q,1)≠1)(hv:∀t∈jt o,∀c,c=t.1∨c=t.2->cr a b c 1=0->¬lV (pos a b p) (pos a b c) (pos a b q))(hx:∀t∈jt o,¬(nQ (cr a b t.1 1) (cr a b t.2 1)∧nQ (cr t.1 t.2 p 1) (cr t.1 t.2 q 1))):place o (p,1)=place o (q,1):=by
 by_cases hpq:p=q;{rw[hpq]};have hk:=kO hab;refine Oo he (fun t ht=>⟨fun h=>?_,fun h=>?_,fun h=>np (jG.2 ⟨t,ht,h⟩),fun h=>nq (jG.2 ⟨t,ht,h⟩)⟩) (fun t ht h=>?_);{obtain⟨k1,k2⟩:=uG hab hpq hp hq h;exact hv t ht _ (.inl rfl) k1 k2};{obtain⟨k1,k2⟩:=uG hab hpq hp hq h;exact hv t ht _ (.inr rfl) k1 k2};·refine hx t ht ⟨?_,h.2⟩;have e1:=qg hp hq t.1;have e2:=qg hp hq t.2;have s1:=jU hk e1;have s2:=jU hk e2;have o:=h.1;have m1:=xO (pos a b q-pos a b p) (cr a b t.1 1);have m2:=xO (pos a b q-pos a b p) (cr a b t.2 1);unfold nQ at o⊢;omega
theorem EX{a b p:jk}(hab:a≠b)(hp:has a b p 1)(l:List jk):∃y z,Cons (pos a b) (Cut a b l) y z∧pos a b y<=pos a b p∧pos a b p<=pos a b z:=by
 obtain⟨d0,d1⟩:=lC hab hp;have hk:=kO hab;obtain⟨y,hy,⟨cy,ly,ny⟩,my⟩:=JF (pos a b) (fun x=>Cut a b l x∧pos a b x<=pos a b p∧pos a b x<kk a b) (a::b::l) ⟨a,by simp,.inl rfl,by rw[ql];exact d0,by rw[ql];exact hk⟩;obtain⟨z,hz,⟨cz,lz⟩,mz⟩:=Wd (pos a b) (fun x=>Cut a b l x∧pos a b y<pos a b x) (a::b::l) ⟨b,by simp,.inr (.inl rfl),by rw[r5];exact ny⟩;refine⟨y,z,⟨cy,cz,lz,fun c hc⟨h1,h2⟩=>?_⟩,ly,?_⟩;{have:=mz c (ET.1 hc).1 ⟨hc,h1⟩;omega};·rcases dG (pos a b p) (pos a b z)with g|g;{exact g};·by_cases e:pos a b z<kk a b;{have:=my z hz ⟨cz,g,e⟩;omega};·have h1:=(lC hab (kC cz)).2;omega
theorem qw{a b p:jk}(hab:a≠b)(h0:cr a b p 1=0)(h1:0<=pos a b p)(h2:pos a b p<=kk a b):has a b p 1:=(ry hab (by omega)).2 ⟨h0,h1,by rw[aZ];exact h2⟩
theorem Q7{o:Ring}{t:jK}(ht:t∈jt o){c:jk}(hc:c=t.1∨c=t.2):place o (c,1)=1:=by
 refine jG.2 ⟨t,ht,?_⟩;rcases hc with rfl|rfl;{exact oa _ _};·exact mI _ _
theorem Dh{a b:jk}(hab:a≠b){o:Ring}(hl:mA o)(hx:∀t∈jt o,jZ (a,b) t=false){y z M:jk}(hc:Cons (pos a b) (Cut a b o) y z)(hM:has a b M 1)(h1:pos a b y<pos a b M)(h2:pos a b M<pos a b z):place o (M,1)≠1:=by
 intro h;obtain⟨t,ht,hh⟩:=jG.1 h;simp only at hh;obtain⟨y0,-⟩:=lC hab (kC hc.cx);obtain⟨-,z1⟩:=lC hab (kC hc.cy);have agT:¬Cut a b o M:=fun c=>hc.no M c ⟨h1,h2⟩;have nv:∀c,c=t.1∨c=t.2->M≠c:=(by rintro c hc' rfl;have:=lJ ht;exact agT (.inr (.inr ⟨by rcases hc' with e|e<;>rw[e];exact this.1;exact this.2,hM⟩)));have two:∀c:jk,M≠c->sc 2 M≠(c.1*2,c.2*2):=(by intro c hne e;unfold sc at e;simp only[dF]at e;exact hne (cJ (by omega) (by omega)));have i1:V7 a b (sc 2 M):=(by refine⟨?_,two a ?_,two b ?_⟩;{have:=(nV (k:=2) (by omega) a b M 1).2 hM;simpa using this};{rintro rfl;rw[ql]at h1;omega};·rintro rfl;rw[r5]at h2;omega);have i2:V7 t.1 t.2 (sc 2 M):=(by refine⟨?_,two _ (nv _ (.inl rfl)),two _ (nv _ (.inr rfl))⟩;have:=(nV (k:=2) (by omega) t.1 t.2 M 1).2 hh;simpa using this);have k:=yK hab (hl t ht) i1 i2;have:=hx t ht;unfold jZ kA at this;rcases k with k|k<;>simp[k]at this
theorem AV{a b:jk}(hab:a≠b){o:Ring}(he:Ends o)(hl:mA o)(hx:∀t∈jt o,jZ (a,b) t=false){y z p M:jk}(hc:Cons (pos a b) (Cut a b o) y z)(hp:has a b p 1)(p1:pos a b y<=pos a b p)(p2:pos a b p<=pos a b z)(hM:has a b M 1)(h1:pos a b y<pos a b M)(h2:pos a b M<pos a b z)(hn:place o (p,1)≠1):place o (p,1)=place o (M,1):=by
 have hk:=kO hab;obtain⟨y0,-⟩:=lC hab (kC hc.cx);obtain⟨-,z1⟩:=lC hab (kC hc.cy);obtain⟨q0',q1⟩:=lC hab hp;obtain⟨m0',m1⟩:=lC hab hM;refine H9 hab he hp.1 hM.1 hn (Dh hab hl hx hc hM h1 h2) ?_ ?_;{intro t ht c hc' xA hb;have hcut:Cut a b o c:=(by refine .inr (.inr ⟨?_,qw hab xA (by unfold lV at hb;omega) (by unfold lV at hb;omega)⟩);have:=lJ ht;rcases hc' with e|e<;>rw[e];{exact this.1};·exact this.2);have:=hc.no c hcut;have e:pos a b c=pos a b p:=(by unfold lV at hb;omega);have:=rT hab xA hp.1 e;rw[←this]at hn;exact hn (Q7 ht hc')};·rintro t ht⟨o1,o2⟩;have e1:=uF hp.1 t.1 t.2;have e2:=uF hM.1 t.1 t.2;have o3:=EU (by omega) q0' (by omega) m0' hk e1 e2 o2;have:=hx t ht;unfold jZ kA at this;rw[EW o1 o3]at this;simp at this
theorem lT{k:Int}(hk:0<k){p q:jk}:sc k p=sc k q↔p=q:=by
 constructor;{intro h;unfold sc at h;simp only[dF]at h;exact cJ (fB (by omega) h.1) (fB (by omega) h.2)};·rintro rfl;rfl
theorem Ot{k:Int}(hk:0<k){p q:jk}:jM (sc k p) (sc k q)↔jM p q:=by
 have e1:∀{x y:Int},k*x<k*y↔x<y:=fun{x y}=>⟨fun h=>dZ h (by omega),fun h=>cN h hk⟩;have e2:∀{x y:Int},k*x=k*y↔x=y:=fun{x y}=>⟨fun h=>fB (by omega) h,fun h=>by rw[h]⟩;unfold jM sc;simp only[e1,e2]
theorem adP{k:Int}(hk:0<k)(a b:jk):fwd (sc k a) (sc k b)=Dg k (fwd a b):=by
 unfold fwd;by_cases h:jM b a;{rw[ai h,ai ((Ot hk).2 h)];rfl};·rw[ag h,ag (fun g=>h ((Ot hk).1 g))];rfl
theorem adQ(k:Int)(c:Prop)[Decidable c](a b:jk):(if c then sc k a else sc k b)=sc k (if c then a else b):=by split<;>rfl
theorem Tc{k:Int}(hk:0<k)(s t:jK):kP (Dg k s) (Dg k t)=kP s t:=by
 unfold kP Dg;simp only[Ot hk,adQ,lT hk]
theorem wF(k:Int)(a b p:jk):cr (sc k a) (sc k b) (sc k p) 1=k*k*cr a b p 1:=by
 unfold cr sc;grind
theorem Eg{k:Int}(hk:0<k)(a b c d:jk):meet (sc k a) (sc k b) (sc k c) (sc k d)=meet a b c d:=by
 unfold meet;simp only[wF,Oq (pp hk hk),adP hk,Tc hk]
theorem yL{k:Int}(hk:0<k)(s t:jK):jZ (Dg k s) (Dg k t)=jZ s t:=by
 unfold jZ kA Dg;simp only[Eg hk]
theorem tQ(k:Int)(a b p:jk):pos (sc k a) (sc k b) (sc k p)=k*k*pos a b p:=by
 unfold pos dt sc;grind
theorem rV{k:Int}(hk:0<k)(a b p:jk):has (sc k a) (sc k b) (sc k p) 1↔has a b p 1:=by rw[mW hk,nV hk]
theorem Cg{k:Int}(hk:0<k){a b:jk}{l:List jk}{x:jk}:Cut (sc k a) (sc k b) (l.map (sc k)) x↔∃x',x=sc k x'∧Cut a b l x':=by
 unfold Cut;constructor;{rintro(rfl|rfl|⟨h1,h2⟩);{exact⟨a,rfl,.inl rfl⟩};{exact⟨b,rfl,.inr (.inl rfl)⟩};·obtain⟨x',hx',rfl⟩:=aO.1 h1;exact⟨x',rfl,.inr (.inr ⟨hx',(rV hk _ _ _).1 h2⟩)⟩};·rintro⟨x',rfl,rfl|rfl|⟨h1,h2⟩⟩;{exact .inl rfl};{exact .inr (.inl rfl)};·exact .inr (.inr ⟨aO.2 ⟨x',h1,rfl⟩,(rV hk _ _ _).2 h2⟩)
theorem Q8{k:Int}(hk:0<k){a b:jk}{l:List jk}{y z:jk}(h:Cons (pos (sc k a) (sc k b)) (Cut (sc k a) (sc k b) (l.map (sc k))) y z):∃y' z',y=sc k y'∧z=sc k z'∧Cons (pos a b) (Cut a b l) y' z':=by
 obtain⟨y',rfl,cy⟩:=(Cg hk).1 h.cx;obtain⟨z',rfl,cz⟩:=(Cg hk).1 h.cy;have kk2:=pp hk hk;have e1:∀{x y:Int},k*k*x<k*k*y↔x<y:=fun{x y}=>⟨fun h=>dZ h (by omega),fun h=>cN h kk2⟩;refine⟨y',z',rfl,rfl,cy,cz,?_,?_⟩;{have:=h.lt;rw[tQ,tQ]at this;exact e1.1 this};·rintro c hc⟨h1,h2⟩;refine h.no (sc k c) ((Cg hk).2 ⟨c,rfl,hc⟩) ?_;rw[tQ,tQ,tQ];exact⟨e1.2 h1,e1.2 h2⟩
theorem uH{k:Int}(hk:0<k){r:Ring}(h:mA r):mA (pg k r):=by
 intro s hs;rw[ot]at hs;obtain⟨t,ht,rfl⟩:=aO.1 hs;intro e;exact h t ht ((lT hk).1 e)
theorem AW{a b:jk}(hab:a≠b){o:Ring}(he:Ends o)(hl:mA o)(hx:∀t∈jt o,jZ (a,b) t=false){p:jC}(hw:0<p.2)(hp:has a b p.1 p.2)(hn:place o p≠1):∃m∈lS (a,b) [o],place o p=place o m:=by
 obtain⟨P,w⟩:=p;simp only at hw hp;have hK:(0:Int)<2*w:=(by omega);have wG:sc (2*w) a≠sc (2*w) b:=fun e=>hab ((lT hK).1 e);have hp':has (sc (2*w) a) (sc (2*w) b) (sc 2 P) 1:=(by rw[mW hK,aZ];exact(nV (by omega) a b P w).2 hp);obtain⟨y',z',hc',l1,l2⟩:=EX wG hp' (pg (2*w) o);obtain⟨y,z,rfl,rfl,hc⟩:=Q8 hK (l:=o) hc';have hm:jO y z∈lS (a,b) [o]:=(pH hab [o] _).2 ⟨y,z,by simpa using hc,rfl⟩;refine⟨_,hm,?_⟩;have e1:place o (P,w)=place (pg (2*w) o) (sc 2 P,1):=qK (p:=(P,w)) hw (k:=2) (by omega);have e2:place o (jO y z)=place (pg (2*w) o) (sc w (jO y z).1,1):=(by have:=qK (r:=o) (p:=jO y z) (show(0:Int)<2 by omega) (k:=w) hw;rw[show w*(jO y z).2=2*w by show w*2=2*w;omega]at this;exact this);rw[e1,e2];have c0y:=(kC hc.cx).1;have c0z:=(kC hc.cy).1;have f1:2*pos (sc (2*w) a) (sc (2*w) b) (sc w (jO y z).1)=pos (sc (2*w) a) (sc (2*w) b) (sc (2*w) y)+pos (sc (2*w) a) (sc (2*w) b) (sc (2*w) z):=(by unfold pos dt sc jO;grind);have f2:2*cr (sc (2*w) a) (sc (2*w) b) (sc w (jO y z).1) 1=cr (sc (2*w) a) (sc (2*w) b) (sc (2*w) y) 1+cr (sc (2*w) a) (sc (2*w) b) (sc (2*w) z) 1:=(by unfold cr sc jO;grind);rw[wF,wF,c0y,c0z,bB,e8]at f2
 have hlt:=hc'.lt;obtain⟨y0,y1⟩:=lC wG (kC hc'.cx);obtain⟨z0,z1⟩:=lC wG (kC hc'.cy);refine AV wG (sZ he) (uH hK hl) ?_ hc' hp' l1 l2 (qw wG (by omega) (by omega) (by omega)) (by omega) (by omega) ?_;{intro t ht;rw[ot]at ht;obtain⟨t',ht',rfl⟩:=aO.1 ht;have:=hx t' ht';rw[←yL hK]at this;exact this};·rw[←e1];exact hn
theorem pK{r o:Ring}(hr:mA r)(ho:mA o)(he:Ends o)(hx:jF r o=false){k:Int}(hk:lies r o k=true){p:jC}(hw:0<p.2)(hp:place r p=1):place o p=1∨place o p=k:=by
 obtain⟨s,hs,h⟩:=jG.1 hp;by_cases h1:place o p=1;{exact .inl h1};right;obtain⟨m,hm,e⟩:=AW (hr s hs) he ho (fun t ht=>by cases c:jZ (s.1,s.2) t with|false=>rfl|true=>have:jF r o=true:=(by unfold jF;exact aF.2 ⟨s,hs,aF.2 ⟨t,ht,c⟩⟩);rw[hx]at this;cases this) hw h h1;rw[e];unfold lies at hk;rw[iz]at hk;by_cases g:place o m=k;{exact g};·have:((jt r).any fun s=>(lS s [o]).any fun m=>decide (place o m≠k))=true:=aF.2 ⟨s,hs,aF.2 ⟨m,hm,aq g⟩⟩;rw[hk]at this;cases this
theorem LC{l:List jk}(h:l≠[]):∃p∈l,∀q∈l,q=p∨jM p q:=by induction l with|nil=>exact absurd rfl h|cons a t ih=>by_cases ht:t=[];{subst ht;exact⟨a,by simp,by simp⟩};·obtain⟨p,hp,hl⟩:=ih ht;rcases rS a p with k|k|k;{refine⟨a,by simp,fun q hq=>?_⟩;rcases aE.1 hq with e|hq;{exact .inl e};·rcases hl q hq with e|e;{rw[e];exact .inr k};·exact .inr (yI k e)};{refine⟨a,by simp,fun q hq=>?_⟩;rcases aE.1 hq with e|hq;{exact .inl e};·rw[k];exact hl q hq};·refine⟨p,by simp[hp],fun q hq=>?_⟩;rcases aE.1 hq with e|hq;{rw[e];exact .inr k};·exact hl q hq
theorem Ia{l:Poly}{s:jK}:s∈l7 l↔∃r∈l,s∈jt r:=by
 unfold l7;rw[bQ]
structure VR(r:Ring):Prop where
 shut:Shut r
 tw:twice r=false
 self:oJ r=false
theorem sK{m:jy}(h:least m=0):nk 1 m=false∧nk 2 m=false∧nk 3 m=false∧nk 4 m=false∧mO m=false:=by
 unfold least at h;cases h1:nk 1 m<;>cases h2:nk 2 m<;>cases h3:nk 3 m<;>cases h4:nk 4 m<;>cases h5:mO m<;>simp_all
theorem vh{m:jy}(hg:Good m)(h:nk 1 m=false):∀l∈m,∀r∈l,VR r:=by
 intro l hl r hr;have:(twice r||oJ r)=false:=(by cases hx:(twice r||oJ r)with|false=>rfl|true=>have:nk 1 m=true:=(by unfold nk;refine aF.2 ⟨l,hl,?_⟩;unfold oh simple;simp only[fM,eZ];exact aF.2 ⟨r,hr,hx⟩);rw[h]at this;cases this);rw[cW]at this;exact⟨hg.shut l hl r hr,this.1,this.2⟩
theorem VR.j7{r:Ring}(h:VR r):mA r:=JB h.shut h.tw
theorem VR.meet{r:Ring}(h:VR r){i j:Nat}(hij:i<j)(hj:j+1<r.length):kA (jj r i,jj r (i+1)) (jj r j,jj r (j+1))=qm (r.length-1) i j:=by
 have hs:=h.self;cases hx:decide (kA (GI (jt r) i) (GI (jt r) j)≠qm (jt r).length i j)with|true=>have:oJ r=true:=(by unfold oJ;exact kz (i:=j) (by rw[j6];omega) (kz (i:=i) hij hx));rw[hs]at this;cases this|false=>have:=fP hx;rw[Ee (by omega),Ee (by omega),j6]at this;exact Decidable.not_not.1 this
theorem VR.adj{r:Ring}(h:VR r){i:Nat}(h1:1<=i)(hi:i<r.length):kA (jj r (i-1),jj r i) (jj r i,kZ r i)=1:=by
 have h4:=h.shut.len;unfold kZ;by_cases hl:i+1<r.length;{rw[ai hl];have:=h.meet (i:=i-1) (j:=i) (by omega) hl;rw[show i-1+1=i by omega]at this;rw[this];unfold qm;rw[ai (by omega)]};·rw[ag hl,nG];have:=h.meet (i:=0) (j:=i-1) (by omega) (by omega);rw[show i-1+1=i by omega,h.shut.eq,show r.length-1=i by omega]at this;rw[this];unfold qm;rw[ai (by omega)]
theorem Td{r:Ring}(h:Shut r){i:Nat}(hi:i<r.length):kZ r i∈r:=by
 have h4:=h.len;unfold kZ;split;{rename_i k;exact bK (ju k)};·exact bK (ju (by omega))
theorem qW{r:Ring}{i:Nat}(hi:i<r.length):jj r i∈r:=bK (ju hi)
theorem LD{p x y:jk}(hx:jM p x)(hy:jM p y):kP (p,x) (p,y)=3:=by
 unfold kP;simp only;rw[ag (fun k=>nh k k)];split<;>first|rfl|rw[ai hy]|rw[ai hx]
theorem JG{p x y:jk}(hx:jM x p)(hy:jM y p):kP (x,p) (y,p)=3:=by
 unfold kP;simp only;rw[ag (c:=jM p p) (fun k=>nh k k)];split<;>first|rfl|rw[ai hy]|rw[ai hx]
theorem VR.turns{r:Ring}(h:VR r){i:Nat}(h1:1<=i)(hi:i<r.length)(he:(∀p∈r,p=jj r i∨jM (jj r i) p)∨(∀p∈r,p=jj r i∨jM p (jj r i))):turns r i=true:=by
 unfold Vd.turns;rw[aq h1,c8,bC];intro hz;have Te:=h.adj h1 hi;have hl:=h.j7;have s1:jj r (i-1)≠jj r i:=(by have:=hl (jj r (i-1),jj r (i-1+1)) (bK (kF (ju (by omega)) (ju (by omega))));rw[show i-1+1=i by omega]at this;exact this);have s2:jj r i≠kZ r i:=(by have h4:=h.shut.len;unfold kZ;split;{rename_i k;exact hl (jj r i,jj r (i+1)) (bK (kF (ju (by omega)) (ju k)))};·have:=hl (jj r 0,jj r 1) (bK (kF (ju (by omega)) (ju (by omega))));rw[h.shut.eq,show r.length-1=i by omega]at this;exact this);have cz:cr (jj r (i-1)) (jj r i) (kZ r i) 1=0:=(qs _).1 hz;have Wh:=qW (r:=r) (i:=i-1) (by omega);have hm2:=Td h.shut hi;generalize jj r (i-1)=x at*;generalize kZ r i=y at*;generalize jj r i=p at*;have z1:=ri x p;obtain⟨z3,z4⟩:=rB s1 z1 cz;have hm:kA (x,p) (p,y)=kP (fwd x p) (fwd p y):=(by unfold kA Vd.meet;simp[z1,cz,z3,z4,sg]);rw[hm]at Te;rcases he with he|he;·have b1:jM p x:=(by rcases he x Wh with e|e;exact absurd e s1;exact e);have b2:jM p y:=(by rcases he y hm2 with e|e;exact absurd e.symm s2;exact e);have e1:fwd x p=(p,x):=(by unfold fwd;rw[ai b1]);have e2:fwd p y=(p,y):=(by unfold fwd;rw[ag (fun k=>nh b2 k)]);rw[e1,e2,LD b1 b2]at Te;omega
 ·have b1:jM x p:=(by rcases he x Wh with e|e;exact absurd e s1;exact e);have b2:jM y p:=(by rcases he y hm2 with e|e;exact absurd e.symm s2;exact e);have e1:fwd x p=(x,p):=(by unfold fwd;rw[ag (fun k=>nh b1 k)]);have e2:fwd p y=(y,p):=(by unfold fwd;rw[ai b2]);rw[e1,e2,JG b1 b2]at Te;omega
theorem LF{l:List jk}(h:l≠[]):∃p∈l,∀q∈l,q=p∨jM q p:=by induction l with|nil=>exact absurd rfl h|cons a t ih=>by_cases ht:t=[];{subst ht;exact⟨a,by simp,by simp⟩};·obtain⟨p,hp,hl⟩:=ih ht;rcases rS p a with k|k|k;{refine⟨a,by simp,fun q hq=>?_⟩;rcases aE.1 hq with e|hq;{exact .inl e};·rcases hl q hq with e|e;{rw[e];exact .inr k};·exact .inr (yI e k)};{refine⟨a,by simp,fun q hq=>?_⟩;rcases aE.1 hq with e|hq;{exact .inl e};·rw[←k];exact hl q hq};·refine⟨p,by simp[hp],fun q hq=>?_⟩;rcases aE.1 hq with e|hq;{rw[e];exact .inr k};·exact hl q hq
theorem si{r:Ring}(h:Shut r){p:jk}(hp:p∈r):∃i,1<=i∧i<r.length∧jj r i=p:=by
 obtain⟨i,hi,e⟩:=eT hp;have e':jj r i=p:=(by have:=ju hi;rw[aG hi,e]at this;exact(aN this).symm);have h4:=h.len;by_cases h0:i=0;{exact⟨r.length-1,by omega,by omega,by rw[←h.eq,←h0];exact e'⟩};·exact⟨i,by omega,hi,e'⟩
theorem xP{r:Ring}{p:jk}:p∈jq r↔∃i,i<r.length∧Vd.turns r i=true∧jj r i=p:=by
 unfold jq kB;simp only[aO,bN,aV];constructor;{rintro⟨i,⟨h1,h2⟩,h3⟩;exact⟨i,h1,h2,h3⟩};·rintro⟨i,h1,h2,h3⟩;exact⟨i,⟨h1,h2⟩,h3⟩
theorem Tf{f:Nat->jk}{l:List Nat}(h:l.Nodup)(hf:∀x∈l,∀y∈l,f x=f y->x=y):(l.map f).Nodup:=by induction l with|nil=>exact fo|cons a t ih=>rw[b6]at h;rw[cB,b6];refine⟨?_,ih h.2 fun x hx y hy=>hf x (by simp[hx]) y (by simp[hy])⟩;intro hm;obtain⟨b,hb,e⟩:=aO.1 hm;have:=hf b (by simp[hb]) a (by simp) e;exact h.1 (this▸hb)
theorem VR.rW{r:Ring}(h:VR r):(jq r).Nodup:=by
 unfold jq kB;refine Tf (List.Pairwise.filter _ gK) ?_;intro x hx y hy e;have hx1:=bN.1 hx;have hy1:=bN.1 hy;have hx2:=aV.1 hx1.1;have VC:=aV.1 hy1.1;have hx3:1<=x:=(by have:=hx1.2;unfold Vd.turns at this;simp only[bM,bC]at this;exact this.1);have hy3:1<=y:=(by have:=hy1.2;unfold Vd.turns at this;simp only[bM,bC]at this;exact this.1);rcases dL x y with k|k|k;{have:twice r=true:=l8.2 ⟨x,y,hx3,k,VC,e⟩;rw[h.tw]at this;cases this};{exact k};·have:twice r=true:=l8.2 ⟨y,x,hy3,k,hx2,e.symm⟩;rw[h.tw]at this;cases this
theorem VR.uI{r:Ring}(h:VR r):2<=(jq r).length:=by
 have hne:r≠[]:=(by intro e;have:=h.shut.len;rw[e]at this;simp at this);obtain⟨p,hp,LG⟩:=LC hne;obtain⟨q,hq,hql⟩:=LF hne;obtain⟨i,i1,i2,i3⟩:=si h.shut hp;obtain⟨j,j1,j2,j3⟩:=si h.shut hq;have m1:p∈jq r:=xP.2 ⟨i,i2,h.turns i1 i2 (.inl (by rw[i3];exact LG)),i3⟩;have m2:q∈jq r:=xP.2 ⟨j,j2,h.turns j1 j2 (.inr (by rw[j3];exact hql)),j3⟩;have hpq:p≠q:=(by intro e;have h4:=h.shut.len;have h0:=qW (r:=r) (i:=1) (by omega);have h2:=qW (r:=r) (i:=2) (by omega);have hl:=h.j7 (jj r 1,jj r 2) (bK (kF (ju (by omega)) (ju (by omega))));have one:∀x∈r,x=p:=(by intro x hx;rcases LG x hx with k|k;{exact k};·rcases hql x hx with k2|k2;{rw[k2,e]};·rw[←e]at k2;exact(nh k k2).elim);exact hl (by rw[one _ h0,one _ h2]));match hc:jq r with|[]=>rw[hc]at m1;cases m1|[x]=>rw[hc]at m1 m2;simp at m1 m2;exact absurd (m1.trans m2.symm) hpq|x::y::t=>simp
theorem AX{r:Ring}(h:0<(jq r).length)(b:Bool):(jA r b).length=(jq r).length+1:=by
 unfold jA;rw[ag (by omega)];simp
theorem uJ{r:Ring}(h:0<(jq r).length)(b:Bool){i:Nat}(hi:i<(jq r).length+1):jj (jA r b) i=jj (jq r) ((jN (jq r)+i*tN (jq r) b)%(jq r).length):=by
 unfold jA;rw[ag (by omega)];unfold jj;rw[az,aB,cD hi];rfl
theorem EY(v:Ring)(b:Bool):tN v b=1∨tN v b=v.length-1:=by
 unfold tN;split;exact .inl rfl;exact .inr rfl
theorem Wi{v:Ring}(h:v.Nodup){i j:Nat}(hi:i<v.length)(hj:j<v.length)(e:jj v i=jj v j):i=j:=by
 have h1:=ju hi;have h2:=ju hj;rw[e,←h2]at h1;exact(List.getElem?_inj hi h).1 h1
theorem Wj{a k s n:Nat}(hn:2<=n)(hs:s=1∨s=n-1):(a+k*s)%n≠(a+(k+1)*s)%n:=by
 have e:a+(k+1)*s=a+k*s+s:=(by rw[je];omega);rw[e];generalize a+k*s=x;intro h;have h1:(x+s)%n=(x%n+s)%n:=(eO x n s).symm;rw[h1]at h;have h2:=cG x (show 0<n by omega);generalize x%n=y at*;rcases hs with rfl|rfl;{by_cases h3:y+1<n;{rw[bT h3]at h;omega};·rw[show y+1=n by omega,fQ]at h;omega};·by_cases h3:y=0;{rw[h3,cL,bT (by omega)]at h;omega};·rw[Nat.mod_eq_sub_mod (by omega),bT (by omega)]at h;omega
theorem VR.Tg{r:Ring}(h:VR r)(b:Bool):mA (jA r b):=by
 have h2:=h.uI;intro s hs;obtain⟨i,hi,rfl⟩:=oc hs;rw[AX (by omega)]at hi;rw[uJ (by omega) b (by omega),uJ (by omega) b hi];intro e;have:=Wi h.rW (cG _ (by omega)) (cG _ (by omega)) e;exact Wj h2 (EY _ b) this
theorem Th(m:jy):∀(is:List Nat)(o:jy),(∀i∈is,i<m.length)->∀l∈is.foldl (Of m) o,l∈m∨l∈o:=by
 intro is;induction is with|nil=>intro o _ l hl;exact .inr hl|cons i t ih=>intro o hi l hl;rw[dO]at hl;rcases ih _ (fun x hx=>hi x (by simp[hx])) l hl with h|h;{exact .inl h};·unfold Of at h;rcases List.mem_or_eq_of_mem_set h with h|h;{exact .inr h};·exact .inl (h▸pS (hi i (by simp)))
theorem Di{m:jy}{l:Poly}(h:l∈kM m):l∈m∨l=[]:=by
 unfold kM VX at h;rcases Th m _ _ (fun i hi=>aV.1 hi) l h with h|h;{exact .inl h};·exact .inr (List.eq_of_mem_replicate h)
theorem EZ{m:jy}{r:Ring}(h:r∈(form m).flatten):∃l∈m,∃o∈l,∃b,r=jA o b:=by
 obtain⟨l,hl,hr⟩:=cE.1 h;unfold form at hl;rcases Di hl with h1|h1;{obtain⟨l0,h0,rfl⟩:=aO.1 h1;refine⟨l0,h0,?_⟩;cases l0 with|nil=>cases hr|cons o t=>rcases aE.1 hr with e|e;{exact⟨o,by simp,true,e⟩};·obtain⟨l1,h2,h3⟩:=cE.1 e;rcases Di h2 with h4|h4;{obtain⟨o1,h5,rfl⟩:=aO.1 h4;exact⟨o1,by simp[h5],false,by simpa using h3⟩};·rw[h4]at h3;cases h3};·rw[h1]at hr;cases hr
theorem wH{a b z:jk}(h:has a b z 1):¬jM z (fwd a b).1∧¬jM (fwd a b).2 z:=by
 obtain⟨h0,h1,h2⟩:=h;have key:∀{a b:jk},¬jM b a->cr a b z 1=0->lV (a.1*1) z.1 (b.1*1)->lV (a.2*1) z.2 (b.2*1)->¬jM z a∧¬jM b z:=(by intro a b hab h0 h1 h2;unfold cr at h0;unfold lV at h1 h2;unfold jM at*;simp only[aZ]at h0 h1 h2;by_cases e:a.1=b.1;{omega};·have hlt:a.1<b.1:=(by omega);constructor;{rintro(g|⟨g1,g2⟩);{omega};·rw[g1,iN,bB,ij]at h0;rcases aK.1 h0 with q|q<;>omega};·rintro(g|⟨g1,g2⟩);{omega};·have:(b.1-a.1)*(z.2-b.2)=0:=(by have:(b.1-a.1)*(z.2-b.2)=(b.1-a.1)*(z.2-a.2)-(b.2-a.2)*(z.1-a.1):=(by rw[←g1];grind);omega);rcases aK.1 this with q|q<;>omega);unfold fwd;by_cases hb:jM b a;{rw[ai hb];exact key (a:=b) (b:=a) (fun h=>nh hb h) (by rw[mN,h0];rfl) (by unfold lV at*;omega) (by unfold lV at*;omega)};·rw[ag hb];exact key hb h0 h1 h2
theorem Ti{s t:jK}{z:jk}(h1:¬jM z s.1)(h2:¬jM s.2 z)(h3:¬jM z t.1)(h4:¬jM t.2 z):kP s t≠0:=by
 unfold kP;have f:¬jM z (if jM s.1 t.1 then t.1 else s.1):=(by split<;>assumption);have l:¬jM (if jM t.2 s.2 then t.2 else s.2) z:=(by split<;>assumption);generalize(if jM s.1 t.1 then t.1 else s.1)=F at*;generalize(if jM t.2 s.2 then t.2 else s.2)=L at*;by_cases c1:jM F L;{simp[c1]};·by_cases c2:F=L;{subst c2;simp[c1]};·exfalso;rcases rS F L with g|g|g;{exact c1 g};{exact c2 g};·unfold jM at*;omega
theorem E4{s t:jK}{z z':jk}(hz:jM z z')(h1:¬jM z s.1)(h4:¬jM z t.1)(k2:¬jM s.2 z')(k4:¬jM t.2 z'):kP s t=3:=by
 unfold kP;have f:¬jM z (if jM s.1 t.1 then t.1 else s.1):=(by split<;>assumption);have l:¬jM (if jM t.2 s.2 then t.2 else s.2) z':=(by split<;>assumption);generalize(if jM s.1 t.1 then t.1 else s.1)=F at*;generalize(if jM t.2 s.2 then t.2 else s.2)=L at*;have:jM F L:=(by unfold jM at*;omega);simp[this]
theorem Ib{x y p q k z:Int}(hk:0<k)(hp:0<=p)(hq:0<=q)(hs:0<p+q)(e:k*z=p*x+q*y)(hz:z=0):¬(0<x*y):=by
 intro h;rw[hz,bB]at e;rcases(xO x y).2 h with⟨g1,g2⟩|⟨g1,g2⟩;{by_cases p1:0<p;{have:=pp p1 g1;have:=p0 hq (bG g2);omega};·have:=p0 hp (bG g1);have:=pp (show 0<q by omega) g2;omega};·by_cases p1:0<p;{have:=pn p1 g1;have:=m0 hq (bG g2);omega};·have:=m0 hp (bG g1);have:=pn (show 0<q by omega) g2;omega
theorem Eh(x y:Int):sg x*sg y>0↔0<x*y:=by
 rcases jS x with⟨h,e⟩|⟨h,e⟩|⟨h,e⟩<;>rcases jS y with⟨k,f⟩|⟨k,f⟩|⟨k,f⟩<;>rw[e,f];{have:=pp h k;omega};{rw[k];simp};{have:=pn h k;omega};{rw[h];simp};{rw[h];simp};{rw[h];simp};{have:=np h k;omega};{rw[k];simp};·have:=QX h k;omega
theorem ou{a b c d z:jk}(hab:a≠b)(hcd:c≠d)(h1:has a b z 1)(h2:has c d z 1):meet a b c d≠0:=by
 have k1:=kO hab;have k2:=kO hcd;obtain⟨p1,p2⟩:=lC hab h1;obtain⟨q1,q2⟩:=lC hcd h2;have e1:=uF h2.1 a b;have e2:=uF h1.1 c d;have n1:=Ib k2 (by omega) q1 (by omega) e1 h1.1;have n2:=Ib k1 (by omega) p1 (by omega) e2 h2.1;unfold meet;simp only;split;{obtain⟨f1,f2⟩:=wH h1;obtain⟨f3,f4⟩:=wH h2;exact Ti f1 f2 f3 f4};·rw[ag (by rw[Eh,Eh];omega)];split<;>omega
theorem Ab{a b z z':jk}(hz:z≠z')(h1:cr a b z 1=0)(h2:cr a b z' 1=0){c:jk}(h3:cr z z' c 1=0)(hab:a≠b):cr a b c 1=0:=by
 have hk:=kO hab;have e:=qg h1 h2 c;rw[h3,bB]at e;rcases aK.1 e.symm with q|q;{exact absurd (rT hab h1 h2 (by omega)) hz};·exact q
theorem Q9{a b z z':jk}(hz:z≠z')(hab:a≠b)(h1:cr a b z 1=0)(h2:cr a b z' 1=0):cr z z' a 1=0∧cr z z' b 1=0:=by
 have hk:=kO hab;have e1:=qg h1 h2 a;have e2:=qg h1 h2 b;rw[r6,bB]at e1;rw[ri,bB]at e2;constructor;{rcases aK.1 e1 with q|q<;>omega};·rcases aK.1 e2 with q|q<;>omega
theorem lW{a b c d z z':jk}(hab:a≠b)(hcd:c≠d)(hz:z≠z')(h1:has a b z 1)(h2:has c d z 1)(h3:has a b z' 1)(h4:has c d z' 1):meet a b c d=3:=by
 obtain⟨x1,x2⟩:=Q9 hz hab h1.1 h3.1;obtain⟨y1,y2⟩:=Q9 hz hcd h2.1 h4.1;have z1:cr a b c 1=0:=Ab hz h1.1 h3.1 y1 hab;have z2:cr a b d 1=0:=Ab hz h1.1 h3.1 y2 hab;have z3:cr c d a 1=0:=Ab hz h2.1 h4.1 x1 hcd;have z4:cr c d b 1=0:=Ab hz h2.1 h4.1 x2 hcd;unfold meet;simp only[z1,z2,z3,z4];rw[ai (by simp[sg])];obtain⟨f1,f2⟩:=wH h1;obtain⟨f3,f4⟩:=wH h2;obtain⟨g1,g2⟩:=wH h3;obtain⟨g3,g4⟩:=wH h4;rcases rS z z' with h|h|h;{exact E4 h f1 f3 g2 g4};{exact absurd h hz};·exact E4 h g1 g3 f2 f4
theorem nI(p1:Ring)(a b:jk)(p2:Ring):jt (p1++a::b::p2)=jt (p1++[a])++(a,b)::jt (b::p2):=by induction p1 with|nil=>rfl|cons x p1 ih=>cases p1 with|nil=>rfl|cons y p1=>rw[aY,aY,lD,aY,aY,lD];rw[aY,aY]at ih;rw[ih];rfl
def qU(p1:Ring)(a b:jk)(p2:Ring):List jK:=jt (p1++[a])++jt (b::p2)
theorem l9{p1:Ring}{a b:jk}{p2:Ring}{s:jK}:s∈jt (p1++a::b::p2)↔s=(a,b)∨s∈qU p1 a b p2:=by
 rw[nI];unfold qU;simp only[aD,aE];constructor;{rintro(h|h|h);{exact .inr (.inl h)};{exact .inl h};·exact .inr (.inr h)};·rintro(h|h|h);{exact .inr (.inl h)};{exact .inl h};·exact .inr (.inr h)
theorem LH(p1:Ring)(a b:jk)(p2:Ring)(x:jC):jR (jt (p1++a::b::p2)) x=(pF a b x.1 x.2^^jR (qU p1 a b p2) x):=by
 rw[nI,lM,j9];unfold qU;rw[lM];generalize jR (jt (p1++[a])) x=u;generalize jR (jt (b::p2)) x=v;generalize pF a b x.1 x.2=w;cases u<;>cases v<;>cases w<;>rfl
theorem Ch{p1:Ring}{a b:jk}{p2:Ring}(hr:Ends (p1++a::b::p2)){x m:jk}(h:∀s∈qU p1 a b p2,KV x m s.1 s.2)(hx:∀s∈qU p1 a b p2,¬Xs x m s.1 s.2):(jR (qU p1 a b p2) (x,1)^^jR (qU p1 a b p2) (m,1))=(uV x m a^^uV x m b):=by
 unfold qU at*;obtain⟨u,t,e⟩:∃u t,p1++[a]=u::t:=(by cases p1 with|nil=>exact⟨a,[],rfl⟩|cons y p1=>exact⟨y,p1++[a],rfl⟩);have k1:=z8 x m t u (fun s hs=>h s (by rw[aD,e];exact .inl hs));have k2:=z8 x m p2 b (fun s hs=>h s (by rw[aD];exact .inr hs));have l1:(u::t).getLast (by simp)=a:=(by have:(p1++[a]).getLast (by simp)=a:=(by simp);simpa only[e]using this);have l2:u=(b::p2).getLast (by simp):=(by unfold Ends at hr;have h1:(p1++a::b::p2).head?=some u:=(by have:p1++a::b::p2=(p1++[a])++b::p2:=(by simp);rw[this,e];rfl);have h2:(p1++a::b::p2).getLast?=some ((b::p2).getLast (by simp)):=(by rw[dV,c7,eC (by simp)];rfl);rw[h1,h2]at hr;exact aN hr);rw[xN (fun s hs=>hx s (by rw[aD,e];exact .inl hs)),l1]at k1;rw[xN (fun s hs=>hx s (by rw[aD];exact .inr hs)),←l2]at k2;rw[lM,lM,e];revert k1 k2;generalize jR (jt (u::t)) (x,1)=x1;generalize jR (jt (u::t)) (m,1)=x2;generalize jR (jt (b::p2)) (x,1)=x3;generalize jR (jt (b::p2)) (m,1)=x4;generalize uV x m u=x5;generalize uV x m a=x6;generalize uV x m b=x7;revert x1 x2 x3 x4 x5 x6 x7;decide
def wI(a b:jk):Bool:=decide (a.2<b.2∨(a.2=b.2∧b.1<a.1))
theorem E5{a b:jk}(h:a≠b):wI b a=!wI a b:=by
 unfold wI;by_cases c:a.2<b.2∨(a.2=b.2∧b.1<a.1);{rw[aq c,aC (by omega)];rfl};·rw[aC c,aq];{rfl};·by_cases e:a.2=b.2;{have:a.1≠b.1:=fun q=>h (cJ q e);omega};·omega
structure oz(a b m:jk):Prop where
 on:has a b m 1
 na:m≠a
 nb:m≠b
theorem oC{a b m:jk}(hab:a≠b)(h:oz a b m):0<pos a b m∧pos a b m<kk a b:=by
 obtain⟨h1,h2⟩:=lC hab h.on;constructor;{rcases eF h1 with g|g;{exact g};·exact absurd (rT hab h.on.1 (r6 a b) (by rw[ql];omega)) h.na};·rcases eF h2 with g|g;{exact g};·exact absurd (rT hab h.on.1 (ri a b) (by rw[r5];omega)) h.nb
theorem E6{a b m x:jk}(hab:a≠b)(h:oz a b m):kk a b*cr x m a 1=-(pos a b m)*cr a b x 1∧kk a b*cr x m b 1=(kk a b-pos a b m)*cr a b x 1:=by
 obtain⟨e1,e2⟩:=AU h.on.1;have h0:=h.on.1;have f:cr a b x 1=(m.1-x.1)*(b.2-a.2)-(m.2-x.2)*(b.1-a.1):=(by have:=Q6 h0 x;rw[←this];grind);have g1:cr x m a 1=(m.1-x.1)*(a.2-m.2)-(m.2-x.2)*(a.1-m.1):=(by unfold cr;grind);have g2:cr x m b 1=(m.1-x.1)*(b.2-m.2)-(m.2-x.2)*(b.1-m.1):=(by unfold cr;grind);have i1:kk a b*(a.2-m.2)=-(pos a b m)*(b.2-a.2):=(by grind);have i2:kk a b*(a.1-m.1)=-(pos a b m)*(b.1-a.1):=(by grind);have i3:kk a b*(b.2-m.2)=(kk a b-pos a b m)*(b.2-a.2):=(by grind);have i4:kk a b*(b.1-m.1)=(kk a b-pos a b m)*(b.1-a.1):=(by grind);rw[f,g1,g2];generalize kk a b=K at*;generalize pos a b m=D at*;generalize m.1-x.1=u at*;generalize m.2-x.2=v at*;constructor;{have:K*(u*(a.2-m.2)-v*(a.1-m.1))=u*(K*(a.2-m.2))-v*(K*(a.1-m.1)):=(by grind);rw[this,i1,i2];grind};·have:K*(u*(b.2-m.2)-v*(b.1-m.1))=u*(K*(b.2-m.2))-v*(K*(b.1-m.1)):=(by grind);rw[this,i3,i4];grind
theorem Ra{a b m:jk}(hab:a≠b)(h:oz a b m):(a.2<m.2∧m.2<b.2)∨(b.2<m.2∧m.2<a.2)∨(a.2=m.2∧m.2=b.2):=by
 have hk:=kO hab;obtain⟨p1,p2⟩:=oC hab h;obtain⟨e1,e2⟩:=AU h.on.1;have i1:kk a b*(m.2-a.2)=pos a b m*(b.2-a.2):=(by grind);have i3:kk a b*(b.2-m.2)=(kk a b-pos a b m)*(b.2-a.2):=(by grind);have s1:=jU hk i1;have s2:=jU hk i3;have t1:=jU p1 (rfl:pos a b m*(b.2-a.2)=_);have t2:=jU (show 0<kk a b-pos a b m by omega) (rfl:(kk a b-pos a b m)*(b.2-a.2)=_);omega
theorem E7{a b m x:jk}(hab:a≠b)(h:oz a b m)(hx:0<cr a b x 1):(pF a b x 1^^(uV x m a^^uV x m b))=wI a b:=by
 have hk:=kO hab;obtain⟨p1,p2⟩:=oC hab h;obtain⟨e1,e2⟩:=E6 (x:=x) hab h;have s1:=jU hk e1;have s2:=jU hk e2;have t1:-(pos a b m)*cr a b x 1<0:=np (by omega) hx;have t2:0<(kk a b-pos a b m)*cr a b x 1:=pp (by omega) hx;have ca:cr x m a 1<0:=s1.2.1.2 t1;have cb:0<cr x m b 1:=s2.1.2 t2;have ca':cr m x a 1=-cr x m a 1:=mN x m a 1;have cb':cr m x b 1=-cr x m b 1:=mN x m b 1;have hy:=Ra hab h;rw[pT];unfold uV dR wI;have flat:a.2=b.2->cr a b x 1=(b.1-a.1)*(x.2-a.2):=(by intro e;unfold cr;rw[e];simp);have hf:a.2=b.2->(b.1<a.1↔x.2<a.2)∧x.2≠a.2:=(by intro e;have:=flat e;rw[this]at hx;have:=(xO (b.1-a.1) (x.2-a.2)).2 hx;omega);clear e1 e2 s1 s2 t1 t2 flat;rcases bZ x.2 m.2 with g|g|g;{rw[ai g,ai g];by_cases c1:a.2-x.2<=0∧0<b.2-x.2∧0<cr a b x 1∨b.2-x.2<=0∧0<a.2-x.2∧cr a b x 1<0<;>by_cases c2:x.2<a.2∧a.2<=m.2∧cr x m a 1<0<;>by_cases c3:x.2<b.2∧b.2<=m.2∧cr x m b 1<0<;>by_cases c4:a.2<b.2∨(a.2=b.2∧b.1<a.1)<;>first|(simp only[c1,c2,c3,c4,fC,e9];rfl)|(exfalso;omega)};·rw[ag (by omega),ag (by omega),ag (by omega),ag (by omega)];by_cases c1:a.2-x.2<=0∧0<b.2-x.2∧0<cr a b x 1∨b.2-x.2<=0∧0<a.2-x.2∧cr a b x 1<0<;>by_cases c4:a.2<b.2∨(a.2=b.2∧b.1<a.1)<;>first|(simp only[c1,c4,fC,e9];rfl)|(exfalso;omega)
 ·rw[ag (by omega),ai g,ag (by omega),ai g];by_cases c1:a.2-x.2<=0∧0<b.2-x.2∧0<cr a b x 1∨b.2-x.2<=0∧0<a.2-x.2∧cr a b x 1<0<;>by_cases c2:m.2<a.2∧a.2<=x.2∧cr m x a 1<0<;>by_cases c3:m.2<b.2∧b.2<=x.2∧cr m x b 1<0<;>by_cases c4:a.2<b.2∨(a.2=b.2∧b.1<a.1)<;>first|(simp only[c1,c2,c3,c4,fC,e9];rfl)|(exfalso;omega)
theorem E8(a b x:jk):pF a b x 1=pF b a x 1:=by
 rw[pT,pT,mN a b x 1];exact bJ.2 (by omega)
theorem LI{a b m x:jk}(hab:a≠b)(h:oz a b m)(hx:cr a b x 1<0):(pF a b x 1^^(uV x m a^^uV x m b))=!wI a b:=by
 have:=E7 (a:=b) (b:=a) (m:=m) (x:=x) (dh hab) ⟨nT.1 h.on,h.nb,h.na⟩ (by rw[mN];omega);rw[←E5 hab,←this,E8,Bool.xor_comm (uV x m a)]
theorem tC{p1 p2:Ring}{i:Nat}(h:i<p1.length):jj (p1++p2) i=jj p1 i:=by
 unfold jj;rw[az,az,aT h]
theorem qL{p1 p2:Ring}(i:Nat):jj (p1++p2) (p1.length+i)=jj p2 i:=by
 unfold jj;rw[az,az,aI (by omega),show p1.length+i-p1.length=i by omega]
theorem Wk{p1:Ring}{a b:jk}{p2:Ring}{s:jK}(h:s∈qU p1 a b p2):∃j,j≠p1.length∧j+1<(p1++a::b::p2).length∧s=(jj (p1++a::b::p2) j,jj (p1++a::b::p2) (j+1)):=by
 unfold qU at h;rcases aD.1 h with h|h;{obtain⟨j,hj,e⟩:=oc h;have hj':j+1<p1.length+1:=(by simpa using hj);refine⟨j,by omega,by simp;omega,?_⟩;have e2:p1++a::b::p2=(p1++[a])++b::p2:=(by simp);rw[e2,tC (p1:=p1++[a]) (i:=j) (by simp;omega),tC (p1:=p1++[a]) (i:=j+1) (by simp;omega)];exact e};·obtain⟨j,hj,e⟩:=oc h;refine⟨p1.length+(1+j),by omega,by simp at hj⊢;omega,?_⟩;have e2:p1++a::b::p2=(p1++[a])++b::p2:=(by simp);have l1:p1.length+(1+j)=(p1++[a]).length+j:=(by simp;omega);rw[e2,l1,qL,show(p1++[a]).length+j+1=(p1++[a]).length+(j+1)by omega,qL];exact e
theorem Rb(p1:Ring)(a b:jk)(p2:Ring):jj (p1++a::b::p2) p1.length=a∧jj (p1++a::b::p2) (p1.length+1)=b:=by
 constructor;{have:=qL (p1:=p1) (p2:=a::b::p2) 0;simpa[jj]using this};·rw[qL 1];rfl
theorem VR.other{p1:Ring}{a b:jk}{p2:Ring}(h:VR (p1++a::b::p2)){s:jK}(hs:s∈qU p1 a b p2):Vd.meet a b s.1 s.2=0∨(Vd.meet a b s.1 s.2=1∧(s.1=b∨s.2=a)):=by
 obtain⟨j,hj,hl,rfl⟩:=Wk hs;obtain⟨ha,hb⟩:=Rb p1 a b p2;have hlen:(p1++a::b::p2).length=p1.length+2+p2.length:=(by simp;omega);have heq:=h.shut.eq;rcases bH j p1.length with g|g;{have k:=h.meet (i:=j) (j:=p1.length) g (by omega);rw[ha,hb]at k;unfold kA at k;simp only at k;rw[Cc];simp only;rw[k];unfold qm;by_cases c:j+1=p1.length∨(j=0∧p1.length+1=(p1++a::b::p2).length-1);{rw[ai c];refine .inr ⟨rfl,?_⟩;rcases c with c|⟨c,c'⟩;{right;rw[c];exact ha};·left;rw[c,heq,←c'];exact hb};·rw[ag c];exact .inl rfl};·have k:=h.meet (i:=p1.length) (j:=j) (by omega) hl;rw[ha,hb]at k;unfold kA at k;simp only at k⊢;rw[k];unfold qm;by_cases c:p1.length+1=j∨(p1.length=0∧j+1=(p1++a::b::p2).length-1);{rw[ai c];refine .inr ⟨rfl,?_⟩;rcases c with c|⟨c,c'⟩;{left;rw[←c];exact hb};·right;rw[c',←heq,←c];exact ha};·rw[ag c];exact .inl rfl
theorem VR.here{p1:Ring}{a b:jk}{p2:Ring}(h:VR (p1++a::b::p2)):a≠b:=h.j7 (a,b) (l9.2 (.inl rfl))
theorem VR.pL{p1:Ring}{a b:jk}{p2:Ring}(h:VR (p1++a::b::p2)){s:jK}(hs:s∈qU p1 a b p2):s.1≠s.2:=h.j7 s (l9.2 (.inr hs))
theorem VR.off{p1:Ring}{a b:jk}{p2:Ring}(h:VR (p1++a::b::p2)){s:jK}(hs:s∈qU p1 a b p2){m:jk}(hm:oz a b m):¬has s.1 s.2 m 1:=by
 intro hh;rcases h.other hs with e|⟨e,c⟩;{exact ou h.here (h.pL hs) hm.on hh e};·rcases c with c|c;{have:=lW h.here (h.pL hs) hm.nb hm.on hh (mI a b) (by rw[←c];exact oa _ _);omega};·have:=lW h.here (h.pL hs) hm.na hm.on hh (oa a b) (by rw[←c];exact mI _ _);omega
theorem Wl{a b m m' c:jk}(hab:a≠b)(hm:oz a b m)(hm':oz a b m')(h:has m m' c 1):oz a b c:=by
 by_cases e:m=m';{subst e;have:c=m:=(by have h1:=h.2.1;have h2:=h.2.2;unfold lV at h1 h2;exact cJ (by omega) (by omega));rw[this];exact hm};·obtain⟨h0,hb⟩:=uG hab e hm.on.1 hm'.on.1 h;obtain⟨a1,a2⟩:=oC hab hm;obtain⟨b1,b2⟩:=oC hab hm';have q1:0<pos a b c∧pos a b c<kk a b:=(by unfold lV at hb;omega);refine⟨qw hab h0 (by omega) (by omega),?_,?_⟩;{rintro rfl;rw[ql]at q1;omega};·rintro rfl;rw[r5]at q1;omega
theorem VR.along{p1:Ring}{a b:jk}{p2:Ring}(h:VR (p1++a::b::p2)){m m':jk}(hm:oz a b m)(hm':oz a b m'){s:jK}(hs:s∈qU p1 a b p2):KV m m' s.1 s.2∧¬Xs m m' s.1 s.2:=by
 have hab:=h.here;have hk:=kO hab;refine⟨⟨fun k=>h.off hs (Wl hab hm hm' k) (oa _ _),fun k=>h.off hs (Wl hab hm hm' k) (mI _ _),h.off hs hm,h.off hs hm'⟩,?_⟩;rintro⟨o1,o2⟩;obtain⟨a1,a2⟩:=oC hab hm;obtain⟨b1,b2⟩:=oC hab hm';have e1:=uF hm.on.1 s.1 s.2;have e2:=uF hm'.on.1 s.1 s.2;have o3:=EU (by omega) (by omega) (by omega) (by omega) hk e1 e2 o2;have d1:=qg hm.on.1 hm'.on.1 s.1;have d2:=qg hm.on.1 hm'.on.1 s.2;have s1:=jU hk d1;have s2:=jU hk d2;have m1:=xO (pos a b m'-pos a b m) (cr a b s.1 1);have m2:=xO (pos a b m'-pos a b m) (cr a b s.2 1);have o4:nQ (cr a b s.1 1) (cr a b s.2 1):=(by unfold nQ at o1⊢;omega);have:=EW o4 o3;rcases h.other hs with e|⟨e,-⟩<;>omega
theorem AY{p q v:jk}(h:cr p q v 1=0):uV p q v=false:=by
 unfold uV dR;rw[mN p q v 1,h];simp
def Lh(p1:Ring)(a b:jk)(p2:Ring)(m:jC):Bool:=jR (qU p1 a b p2) m^^wI a b
theorem VR.aas{p1:Ring}{a b:jk}{p2:Ring}(h:VR (p1++a::b::p2)){m m':jk}(hm:oz a b m)(hm':oz a b m'):Lh p1 a b p2 (m,1)=Lh p1 a b p2 (m',1):=by
 have k:=Ch (jH h.shut) (x:=m) (m:=m') (fun s hs=>(h.along hm hm' hs).1) (fun s hs=>(h.along hm hm' hs).2);have hab:=h.here;have hk:=kO hab;have z1:cr m m' a 1=0:=(by have:=qg hm.on.1 hm'.on.1 a;rw[r6,bB]at this;rcases aK.1 this with q|q<;>omega);have z2:cr m m' b 1=0:=(by have:=qg hm.on.1 hm'.on.1 b;rw[ri,bB]at this;rcases aK.1 this with q|q<;>omega);rw[AY z1,AY z2]at k;unfold Lh;revert k;generalize jR (qU p1 a b p2) (m,1)=x;generalize jR (qU p1 a b p2) (m',1)=y;generalize wI a b=z;cases x<;>cases y<;>cases z<;>simp
structure Bes(p1:Ring)(a b:jk)(p2:Ring)(m x:jk):Prop where
 ins:oz a b m
 off:∀s∈qU p1 a b p2,KV x m s.1 s.2
 nx:∀s∈qU p1 a b p2,¬Xs x m s.1 s.2
theorem beside{p1:Ring}{a b:jk}{p2:Ring}(hr:Ends (p1++a::b::p2))(hab:a≠b){m x:jk}(h:Bes p1 a b p2 m x)(hx:cr a b x 1≠0):place (p1++a::b::p2) (x,1)=if(0<cr a b x 1↔Lh p1 a b p2 (m,1)=true)then 2 else 0:=by
 have k:=Ch hr h.off h.nx;have hn:∀s∈jt (p1++a::b::p2),¬has s.1 s.2 x 1:=(by intro s hs;rcases l9.1 hs with rfl|hs;{exact fun q=>hx q.1};·exact(h.off s hs).hp);rw[oq (p:=(x,1)) hn,LH];unfold Lh;rcases eE hx with g|g;{have l:=LI hab h.ins g;have ng:¬0<cr a b x 1:=(by omega);simp only[ng,false_iff];revert k l;generalize jR (qU p1 a b p2) (x,1)=x1;generalize jR (qU p1 a b p2) (m,1)=x2;generalize uV x m a=x3;generalize uV x m b=x4;generalize pF a b x 1=x5;generalize wI a b=x6;revert x1 x2 x3 x4 x5 x6;decide};·have l:=E7 hab h.ins g;simp only[g,true_iff];revert k l;generalize jR (qU p1 a b p2) (x,1)=x1;generalize jR (qU p1 a b p2) (m,1)=x2;generalize uV x m a=x3;generalize uV x m b=x4;generalize pF a b x 1=x5;generalize wI a b=x6;revert x1 x2 x3 x4 x5 x6;decide
theorem Tj{a b c m m':jk}(hab:a≠b)(hbc:b≠c)(hm:oz a b m)(hm':oz b c m')(hs:0<cr a b c 1):0<cr b c m 1∧0<cr a b m' 1∧0<cr m m' a 1∧0<cr m m' c 1:=by
 have k1:=kO hab;have k2:=kO hbc;obtain⟨a1,a2⟩:=oC hab hm;obtain⟨b1,b2⟩:=oC hbc hm';have e1:=uF hm.on.1 b c;have e2:=uF hm'.on.1 a b;have r1:cr b c a 1=cr a b c 1:=(by unfold cr;grind);rw[r6,bB,e8,r1]at e1;rw[ri,bB,iO]at e2;have q1:0<cr b c m 1:=(jU k1 e1).1.2 (pp (by omega) hs);have q2:0<cr a b m' 1:=(jU k2 e2).1.2 (pp (by omega) hs);refine⟨q1,q2,?_,?_⟩;{have f:=(E6 (x:=m') hab hm).1;rw[mN m m' a 1]at f;have:kk a b*cr m m' a 1=pos a b m*cr a b m' 1:=(by have e:kk a b*cr m m' a 1=-(kk a b*-cr m m' a 1):=(by grind);rw[e,f];grind);exact(jU k1 this).1.2 (pp a1 q2)};·have f:=(E6 (x:=m) hbc hm').2;exact(jU k2 f).1.2 (pp (by omega) q1)
theorem LJ{a b c m m':jk}(hab:a≠b)(hbc:b≠c)(hm:oz a b m)(hm':oz b c m')(hs:0<cr a b c 1):((pF b c m 1^^pF a b m' 1)^^((uV m m' a^^uV m m' c)^^(wI a b^^wI b c)))=false:=by
 obtain⟨s1,s2,s3,s4⟩:=Tj hab hbc hm hm' hs;have y1:=Ra hab hm;have y2:=Ra hbc hm';have c3:cr m' m a 1=-cr m m' a 1:=mN m m' a 1;have c4:cr m' m c 1=-cr m m' c 1:=mN m m' c 1;have f1:a.2=b.2->(a.1<b.1↔b.2<c.2)∧b.2≠c.2∧a.1≠b.1:=(by intro e;have:cr a b c 1=(b.1-a.1)*(c.2-b.2):=(by unfold cr;rw[e];grind);rw[this]at hs;have:=(xO (b.1-a.1) (c.2-b.2)).2 hs;omega);have f2:b.2=c.2->(c.1<b.1↔a.2<b.2)∧a.2≠b.2∧c.1≠b.1:=(by intro e;have:cr a b c 1=(b.2-a.2)*(b.1-c.1):=(by unfold cr;rw[←e];grind);rw[this]at hs;have:=(xO (b.2-a.2) (b.1-c.1)).2 hs;omega);rw[pT,pT];unfold uV dR wI;have t1:(b.2-m.2<=0∧0<c.2-m.2∧0<cr b c m 1∨c.2-m.2<=0∧0<b.2-m.2∧cr b c m 1<0)↔(b.2<=m.2∧m.2<c.2):=(by omega);have t2:(a.2-m'.2<=0∧0<b.2-m'.2∧0<cr a b m' 1∨b.2-m'.2<=0∧0<a.2-m'.2∧cr a b m' 1<0)↔(a.2<=m'.2∧m'.2<b.2):=(by omega);have t3:¬(m.2<a.2∧a.2<=m'.2∧cr m m' a 1<0):=(by omega);have t4:¬(m.2<c.2∧c.2<=m'.2∧cr m m' c 1<0):=(by omega);have t5:(m'.2<a.2∧a.2<=m.2∧cr m' m a 1<0)↔(m'.2<a.2∧a.2<=m.2):=(by omega);have t6:(m'.2<c.2∧c.2<=m.2∧cr m' m c 1<0)↔(m'.2<c.2∧c.2<=m.2):=(by omega);simp only[t1,t2,t3,t4,t5,t6];clear t1 t2 t3 t4 t5 t6 s1 s2 s3 s4 c3 c4 hs;rcases bZ m.2 m'.2 with g|g|g;·rw[ai g,ai g];by_cases c1:b.2<=m.2∧m.2<c.2<;>by_cases c2:a.2<=m'.2∧m'.2<b.2<;>by_cases c5:a.2<b.2∨(a.2=b.2∧b.1<a.1)<;>by_cases c6:b.2<c.2∨(b.2=c.2∧c.1<b.1)<;>first|(simp only[c1,c2,c5,c6,fC,e9];rfl)|(exfalso;omega)
 {rw[ag (by omega),ag (by omega),ag (by omega),ag (by omega)];by_cases c1:b.2<=m.2∧m.2<c.2<;>by_cases c2:a.2<=m'.2∧m'.2<b.2<;>by_cases c5:a.2<b.2∨(a.2=b.2∧b.1<a.1)<;>by_cases c6:b.2<c.2∨(b.2=c.2∧c.1<b.1)<;>first|(simp only[c1,c2,c5,c6,fC,e9];rfl)|(exfalso;omega)};·rw[ag (by omega),ai g,ag (by omega),ai g];by_cases c1:b.2<=m.2∧m.2<c.2<;>by_cases c2:a.2<=m'.2∧m'.2<b.2<;>by_cases c3:m'.2<a.2∧a.2<=m.2<;>by_cases c4:m'.2<c.2∧c.2<=m.2<;>by_cases c5:a.2<b.2∨(a.2=b.2∧b.1<a.1)<;>by_cases c6:b.2<c.2∨(b.2=c.2∧c.1<b.1)<;>first|(simp only[c1,c2,c3,c4,c5,c6,fC,e9];rfl)|(exfalso;omega)
theorem LK(p q v:jk):uV p q v=uV q p v:=by
 unfold uV;rcases bZ p.2 q.2 with h|h|h;{rw[ai h,ag (by omega),ai h]};{rw[ag (by omega),ag (by omega),ag (by omega),ag (by omega)]};·rw[ag (by omega),ai h,ai h]
theorem E9{a b m:jk}(h:oz a b m):oz b a m:=⟨nT.1 h.on,h.nb,h.na⟩
theorem LL{a b x:jk}(h:cr a b x 1=0):pF a b x 1=false:=by
 rw[pT,h];simp
theorem aat{a b c:jk}(hab:a≠b)(hbc:b≠c)(h:has a c b 1):wI a b=wI b c:=by
 obtain⟨h0,h1,h2⟩:=h;unfold lV at h1 h2;simp only[aZ]at h1 h2;unfold wI;have n1:a.1=b.1->a.2≠b.2:=fun e q=>hab (cJ e q);have n2:b.1=c.1->b.2≠c.2:=fun e q=>hbc (cJ e q);have l1:a.2=b.2->b.2≠c.2->a.1=b.1:=(by intro e hne;have:cr a c b 1=(a.2-c.2)*(b.1-a.1):=(by unfold cr;rw[e];grind);rw[this]at h0;rcases aK.1 h0 with q|q<;>omega);have l2:b.2=c.2->a.2≠b.2->b.1=c.1:=(by intro e hne;have:cr a c b 1=(c.2-a.2)*(c.1-b.1):=(by unfold cr;rw[e];grind);rw[this]at h0;rcases aK.1 h0 with q|q<;>omega);exact bJ.2 (by omega)
theorem aau{a b c m m':jk}(hab:a≠b)(hbc:b≠c)(hm:oz a b m)(hm':oz b c m')(hs:cr a b c 1≠0∨has a c b 1):((pF b c m 1^^pF a b m' 1)^^((uV m m' a^^uV m m' c)^^(wI a b^^wI b c)))=false:=by
 by_cases h0:cr a b c 1=0;{have h:has a c b 1:=(by rcases hs with q|q;{exact absurd h0 q};·exact q);have k1:=kO hab;have k2:=kO hbc;have e1:=uF hm.on.1 b c;have e2:=uF hm'.on.1 a b;have r1:cr b c a 1=cr a b c 1:=(by unfold cr;grind);rw[r6,r1,h0,bB,bB,e8]at e1;rw[ri,h0,bB,bB,e8]at e2;have z1:cr b c m 1=0:=(by rcases aK.1 e1 with q|q<;>omega);have z2:cr a b m' 1=0:=(by rcases aK.1 e2 with q|q<;>omega);have z3:cr m m' a 1=0:=(by have f:=qg hm.on.1 z2 a;rw[r6,bB]at f;rcases aK.1 f with q|q<;>omega);have z4:cr m m' c 1=0:=(by have f:=qg hm.on.1 z2 c;rw[h0,bB]at f;rcases aK.1 f with q|q<;>omega);rw[LL z1,LL z2,AY z3,AY z4,aat hab hbc h];simp};·rcases eE h0 with g|g;{have:=LJ (a:=c) (b:=b) (c:=a) (dh hbc) (dh hab) (E9 hm') (E9 hm) (by have:cr c b a 1=-cr a b c 1:=(by unfold cr;grind);omega);rw[E8 b a m',E8 c b m,LK m' m,LK m' m,E5 hab,E5 hbc]at this;revert this;generalize pF b c m 1=x1;generalize pF a b m' 1=x2;generalize uV m m' a=x3;generalize uV m m' c=x4;generalize wI a b=x5;generalize wI b c=x6;revert x1 x2 x3 x4 x5 x6;decide};·exact LJ hab hbc hm hm' g
def uW(p1:Ring)(a c:jk)(p2:Ring):List jK:=jt (p1++[a])++jt (c::p2)
theorem aav(p1:Ring)(a b c:jk)(p2:Ring)(x:jC):jR (qU p1 a b (c::p2)) x=(pF b c x.1 x.2^^jR (uW p1 a c p2) x):=by
 unfold qU uW;rw[lD,lM,lM,j9];generalize jR (jt (p1++[a])) x=u;generalize jR (jt (c::p2)) x=v;generalize pF (b,c).1 (b,c).2 x.1 x.2=w;cases u<;>cases v<;>cases w<;>rfl
theorem aaw(p1:Ring)(a b c:jk)(p2:Ring)(x:jC):jR (qU (p1++[a]) b c p2) x=(pF a b x.1 x.2^^jR (uW p1 a c p2) x):=by
 unfold qU uW;have e:jt (p1++[a]++[b])=jt (p1++[a])++[(a,b)]:=(by have:=nI p1 a b [];simpa[AR]using this);rw[e,lM,lM,lM,j9];show((jR (jt (p1++[a])) x^^(pF a b x.1 x.2^^false))^^jR (jt (c::p2)) x)=_;generalize jR (jt (p1++[a])) x=u;generalize jR (jt (c::p2)) x=v;generalize pF a b x.1 x.2=w;cases u<;>cases v<;>cases w<;>rfl
theorem Ou{p1:Ring}{a b c:jk}{p2:Ring}(hr:Ends (p1++a::b::c::p2)){x m:jk}(h:∀s∈uW p1 a c p2,KV x m s.1 s.2)(hx:∀s∈uW p1 a c p2,¬Xs x m s.1 s.2):(jR (uW p1 a c p2) (x,1)^^jR (uW p1 a c p2) (m,1))=(uV x m a^^uV x m c):=by
 have hr':Ends (p1++a::c::p2):=(by unfold Ends at*;rw[dV,c7]at hr⊢;rw[c7]at hr;rw[←hr];cases p1<;>rfl);exact Ch hr' h hx
theorem JH{p1:Ring}{a b c:jk}{p2:Ring}(hr:Ends (p1++a::b::c::p2))(hab:a≠b)(hbc:b≠c)(hs:cr a b c 1≠0∨has a c b 1){m m':jk}(hm:oz a b m)(hm':oz b c m')(h:∀s∈uW p1 a c p2,KV m m' s.1 s.2)(hx:∀s∈uW p1 a c p2,¬Xs m m' s.1 s.2):Lh p1 a b (c::p2) (m,1)=Lh (p1++[a]) b c p2 (m',1):=by
 have k:=Ou hr h hx;have l:=aau hab hbc hm hm' hs;unfold Lh;rw[aav,aaw];simp only;revert k l;generalize jR (uW p1 a c p2) (m,1)=x1;generalize jR (uW p1 a c p2) (m',1)=x2;generalize pF b c m 1=x3;generalize pF a b m' 1=x4;generalize uV m m' a=x5;generalize uV m m' c=x6;generalize wI a b=x7;generalize wI b c=x8;revert x1 x2 x3 x4 x5 x6 x7 x8;decide
theorem adR{x y p q:jk}(h:Xs x y p q):∃al be ga de:Int,0<al∧0<be∧0<ga∧0<de∧al+be=ga+de∧al*x.1+be*y.1=ga*p.1+de*q.1∧al*x.2+be*y.2=ga*p.2+de*q.2:=by
 have i1:cr x y q 1-cr x y p 1=cr p q x 1-cr p q y 1:=(by unfold cr;grind);have i2:cr p q y 1*x.1-cr p q x 1*y.1=cr x y p 1*q.1-cr x y q 1*p.1:=(by unfold cr;grind);have i3:cr p q y 1*x.2-cr p q x 1*y.2=cr x y p 1*q.2-cr x y q 1*p.2:=(by unfold cr;grind);obtain⟨o1,o2⟩:=h;generalize cr x y q 1=B at*;generalize cr x y p 1=A at*;generalize cr p q x 1=P at*;generalize cr p q y 1=Q at*;unfold nQ at o1 o2;rcases o2 with o2|o2;{have hB:A>0∧B<0:=(by omega);exact⟨Q,-P,-B,A,by omega,by omega,by omega,by omega,by omega,by grind,by grind⟩};·have hB:A<0∧0<B:=(by omega);exact⟨-Q,P,B,-A,by omega,by omega,by omega,by omega,by omega,by grind,by grind⟩
theorem Ov{al be ga de x y p q:Int}(h1:0<al)(h2:0<be)(h3:0<ga)(h4:0<de)(e:al+be=ga+de)(f:al*x+be*y=ga*p+de*q){t:Int}(hx:x<t)(hy:y<t)(hp:t<=p)(hq:t<=q):False:=by
 have a1:=cN hx h1;have a2:=cN hy h2;have a3:=bD hp (bG h3);have a4:=bD hq (bG h4);have:al*t+be*t=ga*t+de*t:=(by rw[←Int.add_mul,←Int.add_mul,e]);omega
theorem Rc{al be ga de x y p q:Int}(h1:0<al)(h2:0<be)(h3:0<ga)(h4:0<de)(e:al+be=ga+de)(f:al*x+be*y=ga*p+de*q){t:Int}(hx:t<x)(hy:t<y)(hp:p<=t)(hq:q<=t):False:=Ov h1 h2 h3 h4 e (x:=-x) (y:=-y) (p:=-p) (q:=-q) (by grind) (t:=-t) (by omega) (by omega) (by omega) (by omega)
def ki(k:Int)(b u:jk):jk:=(k*b.1+u.1,k*b.2+u.2)
theorem acI(k:Int)(g1 g2 b u:jk):cr (sc k g1) (sc k g2) (ki k b u) 1=k*(k*cr g1 g2 b 1+((g2.1-g1.1)*u.2-(g2.2-g1.2)*u.1)):=by
 unfold cr sc ki;grind
def big(g:jK)(u v:jk):Nat:=u.1.natAbs+u.2.natAbs+v.1.natAbs+v.2.natAbs+((g.2.1-g.1.1)*u.2-(g.2.2-g.1.2)*u.1).natAbs+((g.2.1-g.1.1)*v.2-(g.2.2-g.1.2)*v.1).natAbs
theorem Ic{k x:Int}(hk:0<k)(h:-k<k*x∧k*x<k):x=0:=by
 rcases bZ x 0 with g|g|g;{have:=bD (show x<=-1 by omega) (bG hk);omega};{exact g};·have:=bD (show 1<=x by omega) (bG hk);omega
theorem Wm{g:jK}{u v:jk}{k:Int}(hk:(big g u v:Int)<k):0<k∧(-k<u.1∧u.1<k)∧(-k<u.2∧u.2<k)∧(-k<v.1∧v.1<k)∧(-k<v.2∧v.2<k)∧(-k<(g.2.1-g.1.1)*u.2-(g.2.2-g.1.2)*u.1∧(g.2.1-g.1.1)*u.2-(g.2.2-g.1.2)*u.1<k)∧(-k<(g.2.1-g.1.1)*v.2-(g.2.2-g.1.2)*v.1∧(g.2.1-g.1.1)*v.2-(g.2.2-g.1.2)*v.1<k):=by
 unfold big at hk;generalize(g.2.1-g.1.1)*u.2-(g.2.2-g.1.2)*u.1=U at*;generalize(g.2.1-g.1.1)*v.2-(g.2.2-g.1.2)*v.1=V at*;generalize u.1=u1 at*;generalize u.2=u2 at*;generalize v.1=v1 at*;generalize v.2=v2 at*;clear g;refine⟨by omega,⟨by omega,by omega⟩,⟨by omega,by omega⟩,⟨by omega,by omega⟩,⟨by omega,by omega⟩,⟨by omega,by omega⟩,⟨by omega,by omega⟩⟩
theorem tD{b u v c:jk}{k:Int}(mV:0<k)(hu1:-k<u.1∧u.1<k)(oO:-k<u.2∧u.2<k)(Tk:-k<v.1∧v.1<k)(VD:-k<v.2∧v.2<k)(hc:c≠b):¬has (ki k b u) (ki k b v) (sc k c) 1:=by
 intro h;have h1:=h.2.1;have h2:=h.2.2;unfold ki sc lV at h1 h2;simp only[aZ]at h1 h2;have e1:k*(c.1-b.1)=k*c.1-k*b.1:=(by grind);have e2:k*(c.2-b.2)=k*c.2-k*b.2:=(by grind);have z1:=Ic mV (x:=c.1-b.1) (by rw[e1];omega);have z2:=Ic mV (x:=c.2-b.2) (by rw[e2];omega);exact hc (cJ (by omega) (by omega))
theorem nW{k x y:Int}(mV:0<k)(h:x<y):k*x+k<=k*y:=by
 have:=bD (show x+1<=y by omega) (bG mV);rw[Int.mul_add,aZ]at this;exact this
theorem Re{g:jK}{b t:jk}{k:Int}(mV:0<k)(h1:-k<t.1∧t.1<k)(h2:-k<t.2∧t.2<k)(hbe:(b.1<g.1.1∧b.1<g.2.1)∨(g.1.1<b.1∧g.2.1<b.1)∨(b.2<g.1.2∧b.2<g.2.2)∨(g.1.2<b.2∧g.2.2<b.2)):¬has (sc k g.1) (sc k g.2) (ki k b t) 1:=by
 intro h;have f1:=h.2.1;have f2:=h.2.2;unfold ki sc lV at f1 f2;simp only[aZ]at f1 f2;rcases hbe with⟨q1,q2⟩|⟨q1,q2⟩|⟨q1,q2⟩|⟨q1,q2⟩;{have:=nW mV q1;have:=nW mV q2;clear f2 h2;omega};{have:=nW mV q1;have:=nW mV q2;clear f2 h2;omega};{have:=nW mV q1;have:=nW mV q2;clear f1 h1;omega};·have:=nW mV q1;have:=nW mV q2;clear f1 h1;omega
theorem aax{g:jK}{b u v:jk}{k:Int}(mV:0<k)(hu1:-k<u.1∧u.1<k)(oO:-k<u.2∧u.2<k)(Tk:-k<v.1∧v.1<k)(VD:-k<v.2∧v.2<k)(hbe:(b.1<g.1.1∧b.1<g.2.1)∨(g.1.1<b.1∧g.2.1<b.1)∨(b.2<g.1.2∧b.2<g.2.2)∨(g.1.2<b.2∧g.2.2<b.2)):¬Xs (ki k b u) (ki k b v) (sc k g.1) (sc k g.2):=by
 intro h;obtain⟨al,be,ga,de,p1,p2,p3,p4,e,f1,f2⟩:=adR h;unfold ki sc at f1 f2;simp only at f1 f2;rcases hbe with⟨q1,q2⟩|⟨q1,q2⟩|⟨q1,q2⟩|⟨q1,q2⟩;{have:=nW mV q1;have:=nW mV q2;exact Ov p1 p2 p3 p4 e f1 (t:=k*b.1+k) (by omega) (by omega) (by omega) (by omega)};{have:=nW mV q1;have:=nW mV q2;exact Rc p1 p2 p3 p4 e f1 (t:=k*b.1-k) (by omega) (by omega) (by omega) (by omega)};{have:=nW mV q1;have:=nW mV q2;exact Ov p1 p2 p3 p4 e f2 (t:=k*b.2+k) (by omega) (by omega) (by omega) (by omega)};·have:=nW mV q1;have:=nW mV q2;exact Rc p1 p2 p3 p4 e f2 (t:=k*b.2-k) (by omega) (by omega) (by omega) (by omega)
theorem beyond{g:jK}{b:jk}(hb:¬has g.1 g.2 b 1)(h0:cr g.1 g.2 b 1=0):(b.1<g.1.1∧b.1<g.2.1)∨(g.1.1<b.1∧g.2.1<b.1)∨(b.2<g.1.2∧b.2<g.2.2)∨(g.1.2<b.2∧g.2.2<b.2):=by
 by_cases c1:lV (g.1.1*1) b.1 (g.2.1*1);{by_cases c2:lV (g.1.2*1) b.2 (g.2.2*1);{exact absurd ⟨h0,c1,c2⟩ hb};·unfold lV at c2;omega};·unfold lV at c1;omega
theorem xQ{g:jK}{b u v:jk}(hb:¬has g.1 g.2 b 1){k:Int}(hk:(big g u v:Int)<k):KV (ki k b u) (ki k b v) (sc k g.1) (sc k g.2)∧¬Xs (ki k b u) (ki k b v) (sc k g.1) (sc k g.2):=by
 obtain⟨mV,hu1,oO,Tk,VD,hU,hV⟩:=Wm hk;clear hk;have n1:g.1≠b:=fun e=>hb (by rw[←e];exact oa _ _);have n2:g.2≠b:=fun e=>hb (by rw[←e];exact mI _ _);by_cases h0:cr g.1 g.2 b 1=0;{have hbe:=beyond hb h0;exact⟨⟨tD mV hu1 oO Tk VD n1,tD mV hu1 oO Tk VD n2,Re mV hu1 oO hbe,Re mV Tk VD hbe⟩,aax mV hu1 oO Tk VD hbe⟩};·have c1:=acI k g.1 g.2 b u;have c2:=acI k g.1 g.2 b v;generalize(g.2.1-g.1.1)*u.2-(g.2.2-g.1.2)*u.1=U at*;generalize(g.2.1-g.1.1)*v.2-(g.2.2-g.1.2)*v.1=V at*;have s1:=jU mV (rfl:k*(k*cr g.1 g.2 b 1+U)=_);have s2:=jU mV (rfl:k*(k*cr g.1 g.2 b 1+V)=_);rw[←c1]at s1;rw[←c2]at s2;have dom:(0<cr g.1 g.2 b 1->k<=k*cr g.1 g.2 b 1)∧(cr g.1 g.2 b 1<0->k*cr g.1 g.2 b 1<=-k):=(by constructor;{intro q;have:=bD (show 1<=cr g.1 g.2 b 1 by omega) (bG mV);omega};·intro q;have:=bD (show cr g.1 g.2 b 1<=-1 by omega) (bG mV);omega);clear c1 c2;refine⟨⟨tD mV hu1 oO Tk VD n1,tD mV hu1 oO Tk VD n2,fun h=>?_,fun h=>?_⟩,fun h=>?_⟩;{have:=h.1;clear hu1 oO Tk VD s2;omega};{have:=h.1;clear hu1 oO Tk VD s1;omega};·have o:=h.2;clear hu1 oO Tk VD;unfold nQ at o;omega
end Vd
end Go.Proofs.YtcclepohmhdpbaaGreatDoor
