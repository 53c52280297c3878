import Derived.WalkKit
namespace Go.Proofs.YtcclepohmhdpbaaGreatDoor
abbrev ag:=@if_neg
abbrev ah:=@decide_eq_true
abbrev ai:=@if_pos
abbrev aj:=@List.length_append
abbrev aq:=@beq_eq_false_iff_ne
abbrev au:=@Nat.zero_le
abbrev az:=@List.getD_eq_getElem?_getD
abbrev aA:=@decide_eq_false
abbrev aB:=@List.length_map
abbrev aC:=@List.mem_append
abbrev aD:=@List.mem_cons
abbrev aE:=@List.getElem?_map
abbrev aF:=@Classical.byContradiction
abbrev aG:=@List.any_eq_true
abbrev aH:=@List.mem_map
abbrev aI:=@List.getElem?_eq_getElem
abbrev aJ:=@List.map_append
abbrev aK:=@List.getElem?_append_right
abbrev aL:=@Int.mul_eq_zero
abbrev aN:=@List.take_length
abbrev aO:=@Option.some.inj
abbrev aT:=@List.getElem?_append_left
abbrev aU:=@List.mem_range
abbrev aV:=@Int.mul_one
abbrev aW:=@List.mem_map_of_mem
abbrev aX:=@congrArg
abbrev aY:=@List.getElem?_eq_none
abbrev aZ:=@List.length_cons
abbrev bg:=@List.cons_append
abbrev bh:=@List.mem_flatten
abbrev bu:=@List.append_assoc
abbrev bw:=@List.append_nil
abbrev bA:=@List.mem_append_left
abbrev bB:=@List.mem_singleton
abbrev bC:=@Nat.le_refl
abbrev bD:=@Int.mul_zero
abbrev bE:=@of_decide_eq_true
abbrev bF:=@decide_eq_true_eq
abbrev bG:=@Int.mul_le_mul_of_nonneg_left
abbrev bH:=@List.length_take
abbrev bI:=@decide_eq_decide
abbrev bJ:=@Int.le_of_lt
abbrev bK:=@Nat.lt_or_ge
abbrev bL:=@List.mem_filter
abbrev bM:=@Option.map_eq_some_iff
abbrev bN:=@List.mem_of_getElem?
abbrev bQ:=@List.mem_flatMap
abbrev bT:=@Bool.and_eq_true
abbrev bZ:=@Nat.mod_eq_of_lt
abbrev b6:=@Int.lt_or_le
abbrev b7:=@Int.lt_trichotomy
abbrev b8:=@List.nodup_cons
abbrev b9:=@Nat.sub_self
abbrev cg:=@Int.mul_le_mul_of_nonneg_right
abbrev ck:=@List.mem_append_right
abbrev cq:=@Nat.le_trans
abbrev cw:=@List.map_congr_left
abbrev cA:=@List.nodup_append
abbrev cB:=@List.drop_eq_getElem_cons
abbrev cC:=@Nat.mod_lt
abbrev cD:=@List.map_cons
abbrev cE:=@List.set_append_right
abbrev cF:=@List.getElem?_range
abbrev cG:=@List.length_nil
abbrev cH:=@List.mem_cons_of_mem
abbrev cI:=@List.map_map
abbrev cJ:=@Prod.ext
abbrev cK:=@List.nil_append
abbrev cL:=@Nat.zero_add
abbrev cN:=@Int.mul_lt_mul_of_pos_left
abbrev cO:=@List.length_drop
abbrev cT:=@List.ext_getElem?
abbrev cU:=@Nat.add_mod_right
abbrev cV:=@Int.le_of_mul_le_mul_left
abbrev cW:=@List.pairwise_iff_getElem
abbrev cZ:=@Bool.or_eq_false_iff
abbrev c7:=@List.length_replicate
abbrev c8:=@List.getLast?_cons_cons
abbrev c9:=@Bool.true_and
abbrev dh:=@Ne.symm
abbrev di:=@Bool.or_eq_true
abbrev dj:=@Int.le_refl
abbrev dr:=@decide_eq_false_iff_not
abbrev dw:=@List.drop_eq_nil_of_le
abbrev dz:=@List.range_succ
abbrev dA:=@Int.zero_mul
abbrev dB:=@List.mem_iff_getElem?
abbrev dD:=@List.length_range
abbrev dF:=@Prod.mk.injEq
abbrev dG:=@Int.le_total
abbrev dH:=@Int.mul_le_mul_of_nonpos_right
abbrev dI:=@Bool.false_eq_true
abbrev dJ:=@Int.mul_comm
abbrev dK:=@List.filter_append
abbrev dL:=@List.filter_cons
abbrev dM:=@Nat.lt_trichotomy
abbrev dN:=@beq_iff_eq
abbrev dO:=@bne_iff_ne
abbrev dP:=@List.foldl_cons
abbrev dQ:=@List.length_set
abbrev dS:=@Or.inl
abbrev dU:=@List.set_cons_zero
abbrev dV:=@List.getElem?_cons_succ
abbrev dX:=@List.mem_of_mem_take
abbrev dY:=@List.countP_cons
abbrev dZ:=@List.getLast?_append
abbrev ee:=@Nat.pow_succ
abbrev ef:=@List.foldl_append
abbrev eC:=@List.length_reverse
abbrev eD:=@Int.lt_of_mul_lt_mul_left
abbrev eE:=@Int.eq_of_mul_eq_mul_left
abbrev eF:=@List.getElem?_eq_some_iff
abbrev eG:=@List.take_append_drop
abbrev eK:=@List.getLast?_eq_some_getLast
abbrev eL:=@List.eq_nil_of_length_eq_zero
abbrev eN:=@Int.lt_or_gt_of_ne
abbrev eO:=@Int.lt_or_eq_of_le
abbrev eT:=@Int.add_zero
abbrev eU:=@Or.inr
abbrev eV:=@Nat.lt_of_lt_of_le
abbrev eZ:=@List.getElem?_of_mem
abbrev e7:=@if_false
abbrev e8:=@List.any_eq_false
abbrev e9:=@Nat.mod_add_mod
abbrev fe:=@Bool.eq_iff_iff
abbrev ff:=@List.getElem_of_mem
abbrev fh:=@List.flatten_append
abbrev fj:=@Nat.div_div_eq_div_mul
abbrev fk:=@Bool.not_not
abbrev fm:=@decide_false
abbrev fq:=@List.getElem?_set_self
abbrev fA:=@List.take_of_length_le
abbrev fB:=@List.sum_cons
abbrev fC:=@List.exists_of_findSome?_eq_some
abbrev fD:=@List.drop_length
abbrev fE:=@List.nodup_nil
abbrev fF:=@Nat.lt_or_gt_of_ne
abbrev fG:=@List.getLast?_eq_getElem?
abbrev fH:=@decide_true
abbrev fI:=@Nat.mul_comm
abbrev fJ:=@Nat.le_of_eq
abbrev fK:=@Nat.add_zero
abbrev fL:=@Option.some.injEq
abbrev fM:=@List.flatten_cons
abbrev fN:=@Int.eq_ofNat_of_zero_le
abbrev fO:=@Nat.mul_le_mul_left
abbrev fP:=@List.replicate_succ
abbrev fQ:=@List.flatMap_append
abbrev fR:=@Int.mul_nonneg
abbrev fT:=@if_true
abbrev fU:=@List.head?_eq_getElem?
abbrev fV:=@Nat.mod_mod
abbrev fW:=@of_decide_eq_false
abbrev fX:=@Nat.mod_self
abbrev fY:=@Nat.eq_zero_or_pos
abbrev fZ:=@Nat.add_sub_cancel
abbrev gd:=@Int.natAbs_natCast
abbrev gh:=@List.eq_nil_or_concat
abbrev gi:=@List.concat_eq_append
abbrev gj:=@Nat.mul_le_mul_right
abbrev gl:=@Nat.add_mul_mod_self_left
abbrev gp:=@List.length_dropLast
abbrev gq:=@List.nodup_range
abbrev gu:=@List.all_eq_true
abbrev gw:=@List.append_of_mem
abbrev gx:=@List.countP_append
abbrev gy:=@List.getElem?_drop
abbrev gz:=@Int.not_lt
abbrev gC:=@Nat.min_eq_left
abbrev gD:=@List.drop_of_length_le
abbrev gE:=@List.range_succ_eq_map
abbrev gF:=@Int.mul_le_mul_of_nonpos_left
abbrev gG:=@List.pairwise_map
abbrev gH:=@List.filter_congr
abbrev gI:=@List.dropLast_concat_getLast
abbrev gJ:=@Bool.false_and
abbrev gK:=@List.countP_le_length
abbrev gL:=@List.countP_mono_left
abbrev gN:=@List.getElem?_reverse
abbrev gO:=@List.length_singleton
abbrev gT:=@List.length_filter_le
abbrev gU:=@List.take_zero
abbrev gV:=@Nat.ne_of_lt
abbrev gW:=@Int.mul_lt_mul_of_pos_right
abbrev gZ:=@List.getElem?_set_ne
abbrev ic:=@Array.toArray_toList
abbrev ie:=@List.perm_ext_iff_of_nodup
abbrev ig:=@Nat.mod_two_eq_zero_or_one
abbrev ij:=@Nat.mul_assoc
abbrev ir:=@Int.mul_sub
abbrev iw:=@List.reverse_append
abbrev iy:=@Int.mul_neg_of_neg_of_pos
abbrev iz:=@Int.mul_neg_of_pos_of_neg
abbrev iC:=@Option.map_some
abbrev iD:=@List.Perm.of_eq
abbrev iE:=@Int.sub_zero
abbrev iF:=@List.map_nil
abbrev iG:=@Nat.sub_zero
abbrev iH:=@Nat.succ_mul
abbrev iI:=@Nat.add_comm
abbrev iJ:=@decide_eq_true_iff
abbrev iK:=@Nat.le_of_lt
abbrev iL:=@List.pairwise_singleton
abbrev iM:=@Bool.not_eq_true'
abbrev iN:=@List.reverse_cons
abbrev iO:=@List.getElem_tail
abbrev iP:=@Nat.add_mod
abbrev iQ:=@Array.getElem?_eq_none
abbrev iR:=@Nat.add_assoc
abbrev iT:=@List.not_mem_nil
abbrev iU:=@List.perm_middle
abbrev iV:=@List.getElem_mem
abbrev iW:=@List.mem_reverse
abbrev iX:=@Option.bind_some
abbrev iY:=@List.perm_append_comm
abbrev iZ:=@trivial
abbrev ja:=@Array.getElem?_modify
abbrev jd:=@Nat.min_le_left
abbrev je:=@Int.sub_self
abbrev jf:=@Int.zero_add
abbrev jg:=@List.reverse_reverse
abbrev jh:=@List.pairwise_append
abbrev ji:=@List.Perm.trans
abbrev jj:=@List.filter_map
abbrev jk:=@Int.le_trans
abbrev jl:=@List.filter_eq_self
abbrev jm:=@List.take_succ_cons
abbrev jo:=@List.length_flatten
abbrev jq:=@Bool.xor_assoc
abbrev jr:=@List.Perm.refl
abbrev jt:=@Nat.mul_le_mul
abbrev ju:=@Nat.add_mul
abbrev jw:=@Int.mul_pos
end Go.Proofs.YtcclepohmhdpbaaGreatDoor
namespace Go.Proofs.YtcclepohmhdpbaaGreatDoor
set_option linter.all false
abbrev jE:=Int×Int
abbrev Ring:=List jE
abbrev Poly:=List Ring
abbrev jL:=List Poly
namespace Pl
def xU(x:Int):Bool:=decide (32768<x)||decide (x< -32768)
def uz(p:jE):Bool:=xU p.1||xU p.2
def yK(r:Ring):Bool:=r.any uz
def tO(l:Poly):Bool:=l.any yK
def wh(r:Ring):Bool:=decide (r.length<4)||!(decide (r.head?=r.getLast?))
def F4(l:Poly):Bool:=l.any wh
def tP(l:Poly):Bool:=l.isEmpty||F4 l
def nR(m:jL):Nat:=(m.map List.length).sum
def yM(l:Poly):Nat:=(l.map List.length).sum
def nP(m:jL):Nat:=(m.map yM).sum
def many(m:jL):Bool:=decide (8<m.length)||decide (12<nR m)||decide (100<nP m)
def wrong(m:jL):Int:=if many m=true then 6 else if m.any tP=true then 5 else if m.any tO=true then 4 else 0
structure Bd(m:jL):Prop where
 len:m.length<=1048576
 poly:∀l∈m,l.length<=1048576
 ring:∀l∈m,∀r∈l,r.length<=1048576
theorem take_one{α:Type}{l:List α}{k:Nat}{x:α}(h:l[k]?=some x):l.take (k+1)=l.take k++[x]:=by
 rw[List.take_succ,h];rfl
theorem jI{α:Type}{l:List α}{k:Nat}{x:α}(h:l[k]?=some x):k<l.length:=by
 rcases bK k l.length with g|g;{exact g};·rw[aY g]at h;cases h
theorem jz{α:Type}{l:List α}{k:Nat}{x:α}(h:l[k]?=some x):x∈l:=bN h
theorem jC{α:Type}{l:List α}{k:Nat}(h:k<l.length):∃x,l[k]?=some x:=⟨l[k],aI h⟩
theorem j9{α:Type}{l:List α}{k:Nat}{x:α}(p:α->Bool)(h:l[k]?=some x):(l.take (k+1)).any p=((l.take k).any p||p x):=by
 rw[take_one h];simp
theorem kQ{α:Type}{l:List α}{k:Nat}{x:α}(p:α->Bool)(h:l[k]?=some x)(hp:p x=true):l.any p=true:=aG.2 ⟨x,jz h,hp⟩
theorem wD(l:List Nat)(k:Nat):(l.take k).sum<=l.sum:=by
 (conv=>rhs;rw[←eG k l,List.sum_append]);omega
theorem S9{m:jL}{k:Nat}{l:Poly}(h:m[k]?=some l):nR (m.take (k+1))=nR (m.take k)+l.length:=by
 unfold nR;rw[take_one h];simp
theorem Ta{m:jL}{k:Nat}{l:Poly}(h:m[k]?=some l):nP (m.take (k+1))=nP (m.take k)+yM l:=by
 unfold nP;rw[take_one h];simp
theorem ML{l:Poly}{k:Nat}{r:Ring}(h:l[k]?=some r):yM (l.take (k+1))=yM (l.take k)+r.length:=by
 unfold yM;rw[take_one h];simp
theorem aiZ(m:jL)(k:Nat):nR (m.take k)<=nR m:=by
 unfold nR;rw[List.map_take];exact wD _ _
theorem ai0(m:jL)(k:Nat):nP (m.take k)<=nP m:=by
 unfold nP;rw[List.map_take];exact wD _ _
theorem afA(l:Poly)(k:Nat):yM (l.take k)<=yM l:=by
 unfold yM;rw[List.map_take];exact wD _ _
theorem xV{l:List Nat}{b:Nat}(h:∀x∈l,x<=b):l.sum<=l.length*b:=by induction l with|nil=>simp|cons a t ih=>have h1:=h a (by simp);have h2:=ih (fun x hx=>h x (by simp[hx]));rw[fB,aZ,ju];omega
theorem XY{m:jL}(hb:Bd m){l:Poly}(hl:l∈m)(k:Nat):yM (l.take k)<=k*1048576:=by
 unfold yM;refine cq (xV (b:=1048576) ?_) ?_;{intro x hx;obtain⟨r,hr,rfl⟩:=aH.1 hx;exact hb.ring l hl r (dX hr)};·rw[aB,bH];exact gj _ (jd _ _)
theorem ai1{m:jL}(hb:Bd m)(k:Nat):nP (m.take k)<=k*1099511627776:=by
 unfold nP;refine cq (xV (b:=1099511627776) ?_) ?_;{intro x hx;obtain⟨l,hl,rfl⟩:=aH.1 hx;have hl':=dX hl;have h1:=XY hb hl' l.length;have h2:=hb.poly l hl';rw[aN]at h1;omega};·rw[aB,bH];exact gj _ (jd _ _)
theorem ai2{m:jL}(hb:Bd m)(k:Nat):nR (m.take k)<=k*1048576:=by
 unfold nR;refine cq (xV (b:=1048576) ?_) ?_;{intro x hx;obtain⟨l,hl,rfl⟩:=aH.1 hx;exact hb.poly l (dX hl)};·rw[aB,bH];exact gj _ (jd _ _)
theorem Jv{r:Ring}{p q:jE}(h4:¬r.length<4)(h0:r[0]?=some p)(h1:r[r.length-1]?=some q):wh r=!(decide (p=q)):=by
 unfold wh;rw[fU,fG,h0,h1];simp[h4]
end Pl
namespace Bn
def ai3(a:Nat):List UInt8->Nat|[]=>a|c::t=>ai3 (a*256+c.toNat) t
def XD(l:List UInt8):Nat:=ai3 0 l
def ord(lit:Bool)(l:List UInt8):List UInt8:=if lit=true then l.reverse else l
def num(lit:Bool)(l:List UInt8):Nat:=XD (ord lit l)
def cut(n:Nat)(lit:Bool)(l:List UInt8):Option (Nat×List UInt8):=if l.length<n then none else some (num lit (l.take n),l.drop n)
def units(bits:Nat):Option Int:=if bits=0 then some 0 else if bits/4503599627370496%2048<1019∨1071<bits/4503599627370496%2048 then none else if(bits%4503599627370496+4503599627370496)%2^(1071-bits/4503599627370496%2048)≠0∨32768<(bits%4503599627370496+4503599627370496)/2^(1071-bits/4503599627370496%2048)then none else some (if 9223372036854775808<=bits then-((bits%4503599627370496+4503599627370496)/2^(1071-bits/4503599627370496%2048):Nat)else((bits%4503599627370496+4503599627370496)/2^(1071-bits/4503599627370496%2048):Nat))
def aeE(bits:Nat):Int:=(units bits).getD 0
abbrev Res(α:Type):=Option (α×List UInt8×Bool)
def point(lit:Bool)(l:List UInt8)(o:Bool):Res jE:=if l.length<16 then none else some ((aeE (num lit (l.take 8)),aeE (num lit ((l.drop 8).take 8))),l.drop 16,o||(units (num lit (l.take 8))).isNone||(units (num lit ((l.drop 8).take 8))).isNone)
def many{α:Type}(f:List UInt8->Bool->Res α):Nat->List UInt8->Bool->Res (List α)|0,l,o=>some ([],l,o)|n+1,l,o=>(f l o).bind fun x=>(many f n x.2.1 x.2.2).map fun y=>(x.1::y.1,y.2)
def ring(lit:Bool)(l:List UInt8)(o:Bool):Res Ring:=(cut 4 lit l).bind fun x=>many (point lit) x.1 x.2 o
def head(kind:Nat)(l:List UInt8):Option (Bool×Nat×List UInt8):=(cut 1 false l).bind fun x=>if 1<x.1 then none else(cut 4 (x.1==1) x.2).bind fun y=>if y.1≠kind then none else(cut 4 (x.1==1) y.2).bind fun z=>some (x.1==1,z.1,z.2)
def poly(l:List UInt8)(o:Bool):Res Poly:=(head 3 l).bind fun x=>many (ring x.1) x.2.1 x.2.2 o
def set(l:List UInt8):Res jL:=(head 6 l).bind fun x=>many poly x.2.1 x.2.2 false
def okR(r:Ring):Prop:=r.length<=6000∧∀p∈r,(-32768<=p.1∧p.1<=32768)∧-32768<=p.2∧p.2<=32768
def okL(l:Poly):Prop:=l.length<=6000∧∀r∈l,okR r
def MM(m:jL):Prop:=m.length<=6000∧∀l∈m,okL l
def low:Nat->Nat->List UInt8|0,_=>[]|n+1,v=>UInt8.ofNat (v%256)::low n (v/256)
def put(lit:Bool)(n v:Nat):List UInt8:=if lit=true then low n v else(low n v).reverse
theorem xW(n v:Nat):(low n v).length=n:=by induction n generalizing v with|zero=>rfl|succ n ih=>simp[low,ih]
theorem kq(lit:Bool)(n v:Nat):(put lit n v).length=n:=by
 unfold put;split<;>simp[xW]
theorem Tb(m n v:Nat):low (m+n) v=low m v++low n (v/256^m):=by induction m generalizing v with|zero=>simp[low]|succ m ih=>rw[show m+1+n=(m+n)+1 by omega];simp only[low,bg,ih];rw[fj,ee,fI 256]
theorem ab5(n v:Nat):low n (v%256^n)=low n v:=by induction n generalizing v with|zero=>rfl|succ n ih=>simp only[low];have h1:v%256^(n+1)%256=v%256:=(by rw[ee];exact Nat.mod_mod_of_dvd _ (Nat.dvd_mul_left _ _));have h2:v%256^(n+1)/256=v/256%256^n:=(by rw[ee,fI];exact Nat.mod_mul_right_div_self _ _ _);rw[h1,h2,ih]
theorem F5(hi lo:Nat)(h:lo<4294967296):low 8 (hi*4294967296+lo)=low 4 lo++low 4 hi:=by
 rw[show 8=4+4 from rfl,Tb];congr 1;{rw[←ab5];congr 1;show(hi*4294967296+lo)%4294967296=lo;omega};·congr 1;show(hi*4294967296+lo)/4294967296=hi;omega
theorem Bo(lit:Bool)(hi lo:Nat)(h:lo<4294967296):put lit 8 (hi*4294967296+lo)=if lit=true then put lit 4 lo++put lit 4 hi else put lit 4 hi++put lit 4 lo:=by
 cases lit;{show(low 8 _).reverse=(low 4 hi).reverse++(low 4 lo).reverse;rw[F5 _ _ h,iw]};·show low 8 _=low 4 lo++low 4 hi;rw[F5 _ _ h]
def sh:Nat->Nat->Nat|0,_=>0|f+1,k=>if k<4503599627370496 then sh f (2*k)+1 else 0
def A7(neg:Bool)(k j:Nat):Nat:=(if neg=true then 9223372036854775808 else 0)+(1071-j)*4503599627370496+(k*2^j-4503599627370496)
def yX(u:Int):Nat:=if u=0 then 0 else A7 (decide (u<0)) u.natAbs (sh 60 u.natAbs)
theorem Ft{f k i a:Nat}(h:sh 60 k=i+sh (f+1) a)(ha:a<4503599627370496):sh 60 k=(i+1)+sh f (2*a):=by
 rw[h,sh,ai ha];omega
theorem KZ{f k i a:Nat}(h:sh 60 k=i+sh (f+1) a)(ha:¬a<4503599627370496):sh 60 k=i:=by
 rw[h,sh,ag ha];omega
def Fb(lit:Bool)(kind n:Nat):List UInt8:=put lit 1 (if lit=true then 1 else 0)++put lit 4 kind++put lit 4 n
def K6(lit:Bool)(p:jE):List UInt8:=put lit 8 (yX p.1)++put lit 8 (yX p.2)
def nM(lit:Bool)(r:Ring):List UInt8:=put lit 4 r.length++r.flatMap (K6 lit)
def nN(lit:Bool)(l:Poly):List UInt8:=Fb lit 3 l.length++l.flatMap (nM lit)
def uD(lit:Bool)(m:jL):List UInt8:=Fb lit 6 m.length++m.flatMap (nN lit)
theorem yY(lit:Bool)(kind n:Nat):(Fb lit kind n).length=9:=by simp[Fb,kq]
theorem Qe(lit:Bool)(p:jE):(K6 lit p).length=16:=by simp[K6,kq]
theorem XZ{α:Type}(f:α->List UInt8)(b:Nat):∀l:List α,(∀a∈l,(f a).length<=b)->(l.flatMap f).length<=l.length*b|[],_=>by simp|a::t,h=>by have h1:=XZ f b t fun x hx=>h x (cH _ hx);have h2:=h a (by simp);simp only[List.flatMap_cons,aj,aZ,ju];omega
theorem B0(lit:Bool){r:Ring}(h:r.length<=6000):(nM lit r).length<=100000:=by
 have:=XZ (K6 lit) 16 r fun p _=>fJ (Qe lit p);simp only[nM,aj,kq];omega
theorem F6(lit:Bool){l:Poly}(h:okL l):(nN lit l).length<=600000100:=by
 have:=XZ (nM lit) 100000 l fun r hr=>B0 lit (h.2 r hr).1;have:=h.1;simp only[nN,aj,yY];omega
theorem uE{α:Type}(f:α->List UInt8){l:List α}{n:Nat}{a:α}(h:l[n]?=some a):(l.drop n).flatMap f=f a++(l.drop (n+1)).flatMap f:=by
 have hn:n<l.length:=Pl.jI h;rw[cB hn];have:l[n]=a:=(by rw[aI hn]at h;exact aO h);rw[this];rfl
theorem xX{α:Type}(f:α->List UInt8){l:List α}{n:Nat}(h:¬n<l.length):(l.drop n).flatMap f=[]:=by
 rw[gD (Nat.le_of_not_lt h)];rfl
end Bn
namespace Bg
def dv:List Int->Int|[]=>0|d::t=>d+10*dv t
theorem Tc{l:List Int}(h:l≠[]):∃t d,l=t++[d]:=⟨l.dropLast,l.getLast h,(gI h).symm⟩
def dg(l:List Int)(k:Nat):Int:=l.getD k 0
def sv(ng:Bool)(l:List Int):Int:=if ng then-(dv l)else dv l
end Bg
namespace Vd
def cr(a b p:jE)(w:Int):Int:=(b.1-a.1)*(p.2-a.2*w)-(b.2-a.2)*(p.1-a.1*w)
def dt(a b p:jE)(w:Int):Int:=(p.1-a.1*w)*(b.1-a.1)+(p.2-a.2*w)*(b.2-a.2)
def kk(a b:jE):Int:=(b.1-a.1)*(b.1-a.1)+(b.2-a.2)*(b.2-a.2)
def mP(e m o:Int):Prop:=(e<=m∧m<=o)∨(o<=m∧m<=e)
def has(a b p:jE)(w:Int):Prop:=cr a b p w=0∧mP (a.1*w) p.1 (b.1*w)∧mP (a.2*w) p.2 (b.2*w)
def on(a b p:jE)(w:Int):Prop:=cr a b p w=0∧0<=dt a b p w∧dt a b p w<=kk a b*w
theorem nn{x y:Int}(hx:0<=x)(hy:0<=y):0<=x*y:=fR hx hy
theorem yZ(x:Int):0<=x*x:=by
 rcases dG 0 x with h|h;{exact nn h h};·have:=nn (x:=-x) (y:=-x) (by omega) (by omega);rw[Int.neg_mul_neg]at this;exact this
theorem sq_pos{x:Int}(h:x≠0):0<x*x:=by
 have:=yZ x;have h2:x*x≠0:=fun e=>h (by simpa using aL.1 e);omega
theorem lI{a b:jE}(h:a≠b):0<kk a b:=by
 unfold kk;by_cases h1:b.1-a.1=0;{have h2:b.2-a.2≠0:=fun e=>h (cJ (by omega) (by omega));have:=sq_pos h2;have:=yZ (b.1-a.1);omega};·have:=sq_pos h1;have:=yZ (b.2-a.2);omega
theorem Td{u v w:Int}(hw:0<w)(h:mP 0 v (u*w)):0<=v*u∧v*u<=u*u*w:=by
 rcases h with⟨h1,h2⟩|⟨h1,h2⟩;{have hu:0<=u:=(by rcases b6 u 0 with g|g;{have:u*w<0:=iy g hw;omega};·exact g);refine⟨nn h1 hu,?_⟩;have:=cg h2 hu;have e:u*w*u=u*u*w:=(by grind);omega};·have hu:u<=0:=(by rcases b6 0 u with g|g;{have:0<u*w:=jw g hw;omega};·exact g);refine⟨by have:=nn (x:=-v) (y:=-u) (by omega) (by omega);rw[Int.neg_mul_neg]at this;exact this,?_⟩;have:=dH h1 hu;have e:u*w*u=u*u*w:=(by grind);omega
theorem Te{u v k d w:Int}(hk:0<k)(e:d*u=v*k)(h0:0<=d)(h1:d<=k*w):mP 0 v (u*w):=by
 rcases dG 0 u with hu|hu;{left;constructor;{have:=nn h0 hu;rw[e]at this;exact Int.nonneg_of_mul_nonneg_left this hk};·have:=cg h1 hu;rw[e]at this;have e2:k*w*u=u*w*k:=(by grind);rw[e2]at this;exact Int.le_of_mul_le_mul_right this hk};·right;constructor;{have:=dH h1 hu;rw[e]at this;have e2:k*w*u=u*w*k:=(by grind);rw[e2]at this;exact Int.le_of_mul_le_mul_right this hk};·have:=nn (x:=d) (y:=-u) h0 (by omega);have e2:d*-u=-v*k:=(by grind);rw[e2]at this;have:=Int.nonneg_of_mul_nonneg_left this hk;omega
theorem Fu{a p b w:Int}:mP (a*w) p (b*w)↔mP 0 (p-a*w) ((b-a)*w):=by
 have e:(b-a)*w=b*w-a*w:=(by grind);unfold mP;rw[e];omega
theorem sN{a b p:jE}{w:Int}(h:a≠b)(hw:0<w):has a b p w↔on a b p w:=by
 have hk:=lI h;constructor;{rintro⟨h0,h1,h2⟩;have g1:=Td hw (Fu.1 h1);have g2:=Td hw (Fu.1 h2);refine⟨h0,?_,?_⟩;{unfold dt;omega};·have e:kk a b*w=(b.1-a.1)*(b.1-a.1)*w+(b.2-a.2)*(b.2-a.2)*w:=(by unfold kk;grind);rw[e];unfold dt;omega};·rintro⟨h0,h1,h2⟩;have e1:dt a b p w*(b.1-a.1)=(p.1-a.1*w)*kk a b:=(by unfold cr at h0;unfold dt kk;grind);have e2:dt a b p w*(b.2-a.2)=(p.2-a.2*w)*kk a b:=(by unfold cr at h0;unfold dt kk;grind);exact⟨h0,Fu.2 (Te hk e1 h1 h2),Fu.2 (Te hk e2 h1 h2)⟩
def kn(p q:jE):Prop:=p.1<q.1∨(p.1=q.1∧p.2<q.2)
instance(p q:jE):Decidable (kn p q):=by
 unfold kn;infer_instance
def fwd(a b:jE):jE×jE:=if kn b a then(b,a)else(a,b)
def lP(s t:jE×jE):Int:=let f:=if kn s.1 t.1 then t.1 else s.1;let l:=if kn t.2 s.2 then t.2 else s.2;if kn f l then 3 else if f=l then 1 else 0
def pos(a b x:jE):Int:=dt a b x 1
theorem q9(a b:jE):pos a b a=0:=by
 unfold pos dt;grind
theorem tQ(a b:jE):pos a b b=kk a b:=by
 unfold pos dt kk;grind
theorem xY{a b x y:jE}(h:a≠b)(hx:cr a b x 1=0)(hy:cr a b y 1=0):(kn a b->(kn x y↔pos a b x<pos a b y))∧(kn b a->(kn x y↔pos a b y<pos a b x)):=by
 have hk:=lI h;have e1:(pos a b y-pos a b x)*(b.1-a.1)=(y.1-x.1)*kk a b:=(by unfold cr at hx hy;unfold pos dt kk;grind);have e2:(pos a b y-pos a b x)*(b.2-a.2)=(y.2-x.2)*kk a b:=(by unfold cr at hx hy;unfold pos dt kk;grind);obtain⟨D,hD⟩:∃D,D=pos a b y-pos a b x:=⟨_,rfl⟩;obtain⟨K,hK⟩:∃K,K=kk a b:=⟨_,rfl⟩;rw[←hD,←hK]at e1 e2;rw[←hK]at hk;have Tf:∀{u z:Int},0<u->D*u=z*K->(0<D↔0<z)∧(D=0↔z=0)∧(D<0↔z<0):=(by intro u z hu e;have p1:0<D->0<z:=fun g=>(by have:=jw g hu;rw[e]at this;exact Int.pos_of_mul_pos_left this hk|>fun h=>h);have p2:D=0->z=0:=fun g=>(by rw[g,dA]at e;rcases aL.1 e.symm with q|q<;>omega);have p3:D<0->z<0:=fun g=>(by have:=iy g hu;rw[e]at this;rcases b6 z 0 with q|q;{exact q};·have:=nn q (bJ hk);omega);omega);have t1:(kn x y↔0<y.1-x.1∨(y.1-x.1=0∧0<y.2-x.2)):=(by unfold kn;omega);have t2:pos a b x<pos a b y↔0<D:=(by omega);have t3:pos a b y<pos a b x↔D<0:=(by omega);rw[t1,t2,t3];constructor;·rintro(g|⟨g,g'⟩);{have:=Tf (u:=b.1-a.1) (by omega) e1;constructor;{rintro(q|⟨q,q'⟩);{omega};·have hz:D=0:=(by omega);rw[hz,dA]at e2;rcases aL.1 e2.symm with q|q<;>omega};·intro q;left;omega};·have:=Tf (u:=b.2-a.2) (by omega) e2;have hz:y.1-x.1=0:=(by rw[show b.1-a.1=0 by omega,bD]at e1;rcases aL.1 e1.symm with q|q<;>omega);omega
 ·rintro(g|⟨g,g'⟩);{have:=Tf (u:=a.1-b.1) (z:=-(y.1-x.1)) (by omega) (by grind);constructor;{rintro(q|⟨q,q'⟩);{omega};·have hz:D=0:=(by omega);rw[hz,dA]at e2;rcases aL.1 e2.symm with q|q<;>omega};·intro q;left;omega};·have:=Tf (u:=a.2-b.2) (z:=-(y.2-x.2)) (by omega) (by grind);have hz:y.1-x.1=0:=(by rw[show b.1-a.1=0 by omega,bD]at e1;rcases aL.1 e1.symm with q|q<;>omega);omega
theorem tI(p q:jE):kn p q∨p=q∨kn q p:=by
 unfold kn;by_cases h1:p.1=q.1;{by_cases h2:p.2=q.2;{exact .inr (.inl (cJ h1 h2))};·omega};·omega
theorem ou{p q:jE}(h:kn p q)(k:kn q p):False:=by
 unfold kn at h k;omega
theorem afB{p q:jE}(h:kn p q):p≠q:=by
 rintro rfl;exact ou h h
def count(k p q:Int):Int:=if q<0∨k<p then 0 else if q=0∨p=k then 1 else 2
end Vd
end Go.Proofs.YtcclepohmhdpbaaGreatDoor
namespace Go.Proofs.YtcclepohmhdpbaaGreatDoor
set_option linter.all false
namespace Vd
theorem tR(a b:jE):cr a b a 1=0:=by
 unfold cr;grind
theorem sJ(a b:jE):cr a b b 1=0:=by
 unfold cr;grind
section
variable{f:jE->Int}{S:jE->Prop}(hf:∀x y,S x->S y->(kn x y↔f x<f y))
include hf
theorem afC{x y:jE}(hx:S x)(hy:S y):x=y↔f x=f y:=by
 constructor;{rintro rfl;rfl};·intro e;rcases tI x y with h|h|h;{have:=(hf x y hx hy).1 h;omega};{exact h};·have:=(hf y x hy hx).1 h;omega
theorem Tg{a b:jE}(ha:S a)(hb:S b):S (fwd a b).1∧S (fwd a b).2∧f (fwd a b).1=min (f a) (f b)∧f (fwd a b).2=max (f a) (f b):=by
 unfold fwd;have:=hf b a hb ha;by_cases h:kn b a;{have h':=this.1 h;rw[ai h];exact⟨hb,ha,by simp only;omega,by simp only;omega⟩};·have h':¬f b<f a:=fun q=>h (this.2 q);rw[ag h];exact⟨ha,hb,by simp only;omega,by simp only;omega⟩
theorem MN{s t:jE×jE}(h1:S s.1)(h2:S s.2)(h3:S t.1)(h4:S t.2):lP s t=if max (f s.1) (f t.1)<min (f s.2) (f t.2)then 3 else if max (f s.1) (f t.1)=min (f s.2) (f t.2)then 1 else 0:=by
 have e1:S (if kn s.1 t.1 then t.1 else s.1)∧f (if kn s.1 t.1 then t.1 else s.1)=max (f s.1) (f t.1):=(by have:=hf _ _ h1 h3;by_cases h:kn s.1 t.1;{have h':=this.1 h;rw[ai h];exact⟨h3,by omega⟩};·have h':=mt this.2 h;rw[ag h];exact⟨h1,by omega⟩);have e2:S (if kn t.2 s.2 then t.2 else s.2)∧f (if kn t.2 s.2 then t.2 else s.2)=min (f s.2) (f t.2):=(by have:=hf _ _ h4 h2;by_cases h:kn t.2 s.2;{have h':=this.1 h;rw[ai h];exact⟨h4,by omega⟩};·have h':=mt this.2 h;rw[ag h];exact⟨h2,by omega⟩);unfold lP;simp only[hf _ _ e1.1 e2.1,afC hf e1.1 e2.1,e1.2,e2.2]
end
theorem B6{a b c d:jE}(hab:a≠b)(hcd:c≠d)(hc:cr a b c 1=0)(hd:cr a b d 1=0):lP (fwd a b) (fwd c d)=if count (kk a b) (min (pos a b c) (pos a b d)) (max (pos a b c) (pos a b d))=2 then 3 else count (kk a b) (min (pos a b c) (pos a b d)) (max (pos a b c) (pos a b d)):=by
 have hk:=lI hab;have pa:=q9 a b;have pb:=tQ a b;have ha:=tR a b;have hb:=sJ a b;rcases tI a b with h|h|h;{have hf:∀x y,cr a b x 1=0->cr a b y 1=0->(kn x y↔pos a b x<pos a b y):=fun x y hx hy=>(xY hab hx hy).1 h;obtain⟨s1,s2,s3,s4⟩:=Tg (S:=fun x=>cr a b x 1=0) hf ha hb;obtain⟨t1,t2,t3,t4⟩:=Tg (S:=fun x=>cr a b x 1=0) hf hc hd;have hne:pos a b c≠pos a b d:=fun e=>hcd ((afC (S:=fun x=>cr a b x 1=0) hf hc hd).2 e);rw[MN (S:=fun x=>cr a b x 1=0) hf s1 s2 t1 t2,s3,s4,t3,t4,pa,pb];unfold count;(repeat' split);all_goals omega};{exact absurd h hab};·have hf:∀x y,cr a b x 1=0->cr a b y 1=0->(kn x y↔-pos a b x< -pos a b y):=fun x y hx hy=>(by rw[(xY hab hx hy).2 h];omega);obtain⟨s1,s2,s3,s4⟩:=Tg (f:=fun x=>-pos a b x) (S:=fun x=>cr a b x 1=0) hf ha hb;obtain⟨t1,t2,t3,t4⟩:=Tg (f:=fun x=>-pos a b x) (S:=fun x=>cr a b x 1=0) hf hc hd;have hne:pos a b c≠pos a b d:=fun e=>hcd ((afC (f:=fun x=>-pos a b x) (S:=fun x=>cr a b x 1=0) hf hc hd).2 (by omega));rw[MN (f:=fun x=>-pos a b x) (S:=fun x=>cr a b x 1=0) hf s1 s2 t1 t2];rw[s3,s4,t3,t4,pa,pb];unfold count;(repeat' split);all_goals omega
def sg(n:Int):Int:=if n>0 then 1 else if n<0 then-1 else 0
def meet(a b c d:jE):Int:=let sA:=sg (cr a b c 1);let sB:=sg (cr a b d 1);let oA:=sg (cr c d a 1);let oB:=sg (cr c d b 1);if sA=0∧sB=0∧oA=0∧oB=0 then lP (fwd a b) (fwd c d)else if sA*sB>0∨oA*oB>0 then 0 else if sA*sB*oA*oB=0 then 1 else 2
def nn3(a b c d:jE):Int:=(b.1-a.1)*(d.2-c.2)-(b.2-a.2)*(d.1-c.1)
def common(a b c d:jE):Int×Bool:=let n:=nn3 a b c d;let s:=(c.1-a.1)*(d.2-c.2)-(c.2-a.2)*(d.1-c.1);let t:=(c.1-a.1)*(b.2-a.2)-(c.2-a.2)*(b.1-a.1);if n=0 then if t≠0 then(0,false)else(count (kk a b) (min (pos a b c) (pos a b d)) (max (pos a b c) (pos a b d)),false)else let n':=if n<0 then-n else n;let s':=if n<0 then-s else s;let t':=if n<0 then-t else t;if s'<0∨n'<s'∨t'<0∨n'<t' then(0,false)else(1,decide (0<s'∧s'<n'∧0<t'∧t'<n'))
end Vd
end Go.Proofs.YtcclepohmhdpbaaGreatDoor
namespace Go.Proofs.YtcclepohmhdpbaaGreatDoor
set_option linter.all false
namespace Vd
def how(x:Int×Bool):Int:=if x.1=2 then 3 else if x.2 then 2 else x.1
theorem kz(n:Int):(0<n∧sg n=1)∨(n=0∧sg n=0)∨(n<0∧sg n=-1):=by
 unfold sg;rcases b7 n 0 with h|h|h;{right;right;exact⟨h,by rw[ag (by omega),ai h]⟩};{right;left;exact⟨h,by rw[ag (by omega),ag (by omega)]⟩};·left;exact⟨h,by rw[ai h]⟩
theorem ai4{n s t X:Int}(h:0<n):(if sg (-t)=0∧sg (n-t)=0∧sg s=0∧sg (s-n)=0 then X else if sg (-t)*sg (n-t)>0∨sg s*sg (s-n)>0 then 0 else if sg (-t)*sg (n-t)*sg s*sg (s-n)=0 then 1 else 2)=how (if s<0∨n<s∨t<0∨n<t then(0,false)else(1,decide (0<s∧s<n∧0<t∧t<n))):=by
 by_cases C:s<0∨n<s∨t<0∨n<t;{rw[ai C];rcases kz (-t)with⟨g1,k1⟩|⟨g1,k1⟩|⟨g1,k1⟩<;>rcases kz (n-t)with⟨g2,k2⟩|⟨g2,k2⟩|⟨g2,k2⟩<;>rcases kz s with⟨g3,k3⟩|⟨g3,k3⟩|⟨g3,k3⟩<;>rcases kz (s-n)with⟨g4,k4⟩|⟨g4,k4⟩|⟨g4,k4⟩<;>first|(exfalso;omega)|(rw[k1,k2,k3,k4];simp[how])};·rw[ag C];by_cases D:0<s∧s<n∧0<t∧t<n;{rw[ah D];rcases kz (-t)with⟨g1,k1⟩|⟨g1,k1⟩|⟨g1,k1⟩<;>rcases kz (n-t)with⟨g2,k2⟩|⟨g2,k2⟩|⟨g2,k2⟩<;>rcases kz s with⟨g3,k3⟩|⟨g3,k3⟩|⟨g3,k3⟩<;>rcases kz (s-n)with⟨g4,k4⟩|⟨g4,k4⟩|⟨g4,k4⟩<;>first|(exfalso;omega)|(rw[k1,k2,k3,k4];simp[how])};·rw[aA D];rcases kz (-t)with⟨g1,k1⟩|⟨g1,k1⟩|⟨g1,k1⟩<;>rcases kz (n-t)with⟨g2,k2⟩|⟨g2,k2⟩|⟨g2,k2⟩<;>rcases kz s with⟨g3,k3⟩|⟨g3,k3⟩|⟨g3,k3⟩<;>rcases kz (s-n)with⟨g4,k4⟩|⟨g4,k4⟩|⟨g4,k4⟩<;>first|(exfalso;omega)|(rw[k1,k2,k3,k4];simp[how])
theorem ai5{n s t X:Int}(h:n<0):(if sg (-t)=0∧sg (n-t)=0∧sg s=0∧sg (s-n)=0 then X else if sg (-t)*sg (n-t)>0∨sg s*sg (s-n)>0 then 0 else if sg (-t)*sg (n-t)*sg s*sg (s-n)=0 then 1 else 2)=how (if-s<0∨-n< -s∨-t<0∨-n< -t then(0,false)else(1,decide (0< -s∧-s< -n∧0< -t∧-t< -n))):=by
 by_cases C:-s<0∨-n< -s∨-t<0∨-n< -t;{rw[ai C];rcases kz (-t)with⟨g1,k1⟩|⟨g1,k1⟩|⟨g1,k1⟩<;>rcases kz (n-t)with⟨g2,k2⟩|⟨g2,k2⟩|⟨g2,k2⟩<;>rcases kz s with⟨g3,k3⟩|⟨g3,k3⟩|⟨g3,k3⟩<;>rcases kz (s-n)with⟨g4,k4⟩|⟨g4,k4⟩|⟨g4,k4⟩<;>first|(exfalso;omega)|(rw[k1,k2,k3,k4];simp[how])};·rw[ag C];by_cases D:0< -s∧-s< -n∧0< -t∧-t< -n;{rw[ah D];rcases kz (-t)with⟨g1,k1⟩|⟨g1,k1⟩|⟨g1,k1⟩<;>rcases kz (n-t)with⟨g2,k2⟩|⟨g2,k2⟩|⟨g2,k2⟩<;>rcases kz s with⟨g3,k3⟩|⟨g3,k3⟩|⟨g3,k3⟩<;>rcases kz (s-n)with⟨g4,k4⟩|⟨g4,k4⟩|⟨g4,k4⟩<;>first|(exfalso;omega)|(rw[k1,k2,k3,k4];simp[how])};·rw[aA D];rcases kz (-t)with⟨g1,k1⟩|⟨g1,k1⟩|⟨g1,k1⟩<;>rcases kz (n-t)with⟨g2,k2⟩|⟨g2,k2⟩|⟨g2,k2⟩<;>rcases kz s with⟨g3,k3⟩|⟨g3,k3⟩|⟨g3,k3⟩<;>rcases kz (s-n)with⟨g4,k4⟩|⟨g4,k4⟩|⟨g4,k4⟩<;>first|(exfalso;omega)|(rw[k1,k2,k3,k4];simp[how])
theorem Ey{a b c d:jE}(hab:a≠b)(hcd:c≠d):meet a b c d=how (common a b c d):=by
 obtain⟨s,hs⟩:∃s,s=(c.1-a.1)*(d.2-c.2)-(c.2-a.2)*(d.1-c.1):=⟨_,rfl⟩;obtain⟨t,ht⟩:∃t,t=(c.1-a.1)*(b.2-a.2)-(c.2-a.2)*(b.1-a.1):=⟨_,rfl⟩;obtain⟨n,hn⟩:∃n,n=nn3 a b c d:=⟨_,rfl⟩;have e1:cr a b c 1=-t:=(by rw[ht];unfold cr;grind);have e2:cr a b d 1=n-t:=(by rw[ht,hn];unfold cr nn3;grind);have e3:cr c d a 1=s:=(by rw[hs];unfold cr;grind);have e4:cr c d b 1=s-n:=(by rw[hs,hn];unfold cr nn3;grind);by_cases h0:n=0;·by_cases h1:t=0;{have h2:s=0:=(by have g1:s*(b.1-a.1)=0:=(by rw[hn]at h0;unfold nn3 at h0;rw[hs];rw[ht]at h1;grind);have g2:s*(b.2-a.2)=0:=(by rw[hn]at h0;unfold nn3 at h0;rw[hs];rw[ht]at h1;grind);rcases aL.1 g1 with q|q;{exact q};·rcases aL.1 g2 with q'|q';{exact q'};·exact absurd (cJ (by omega) (by omega)) hab);have hc:cr a b c 1=0:=(by rw[e1,h1];rfl);have hd:cr a b d 1=0:=(by rw[e2,h0,h1];rfl);have m:meet a b c d=lP (fwd a b) (fwd c d):=(by unfold meet;simp[e1,e2,e3,e4,h0,h1,h2,sg]);rw[m,B6 hab hcd hc hd];unfold common how;simp only[←hn,←ht,h0,h1];simp};·have m:meet a b c d=0:=(by unfold meet;simp only[e1,e2,e3,e4,h0,Int.zero_sub,iE];rcases kz (-t)with⟨g,e⟩|⟨g,e⟩|⟨g,e⟩;{simp[e]};{omega};·simp[e]);rw[m];unfold common how;simp only[←hn,←ht,h0,ai,ai h1];simp[h1]
 ·have m:common a b c d=(let n':=if n<0 then-n else n;let s':=if n<0 then-s else s;let t':=if n<0 then-t else t;if s'<0∨n'<s'∨t'<0∨n'<t' then(0,false)else(1,decide (0<s'∧s'<n'∧0<t'∧t'<n'))):=(by unfold common;simp only[←hn,←ht,←hs,ag h0]);rw[m];have l:meet a b c d=(if sg (-t)=0∧sg (n-t)=0∧sg s=0∧sg (s-n)=0 then lP (fwd a b) (fwd c d)else if sg (-t)*sg (n-t)>0∨sg s*sg (s-n)>0 then 0 else if sg (-t)*sg (n-t)*sg s*sg (s-n)=0 then 1 else 2):=(by unfold meet;simp only[e1,e2,e3,e4]);rw[l];clear m l e1 e2 e3 e4 hs ht hn;rcases eN h0 with hneg|hneg;{simp only[hneg,fT];exact ai5 (by omega)};·simp only[show¬n<0 by omega,e7];exact ai4 (by omega)
theorem oc(a b p:jE)(w:Int):cr b a p w=-cr a b p w:=by
 unfold cr;grind
def p9(a b p:jE)(w:Int):Bool:=if decide (a.2*w>p.2)=decide (b.2*w>p.2)then false else if b.2*w>p.2 then decide (sg (cr a b p w)>0)else decide (sg (cr a b p w)<0)
def MO(a b p:jE)(w:Int):Bool:=let lo:=if a.2>b.2 then b else a;let hi:=if a.2>b.2 then a else b;decide (lo.2*w<=p.2∧p.2<hi.2*w)&&decide (cr lo hi p w>0)
theorem F7(n:Int):sg n>0↔n>0:=by rcases kz n with⟨h,e⟩|⟨h,e⟩|⟨h,e⟩<;>rw[e]<;>omega
theorem K7(n:Int):sg n<0↔n<0:=by rcases kz n with⟨h,e⟩|⟨h,e⟩|⟨h,e⟩<;>rw[e]<;>omega
theorem rB(n:Int):sg n=0↔n=0:=by rcases kz n with⟨h,e⟩|⟨h,e⟩|⟨h,e⟩<;>rw[e]<;>omega
theorem afD{a b p:jE}{w:Int}(hw:0<w):p9 a b p w=MO a b p w:=by
 unfold p9 MO;by_cases h:a.2>b.2;{have h1:b.2*w<a.2*w:=gW h hw;simp only[ai h,oc a b p w];by_cases hb:b.2*w>p.2;{rw[ai (by rw[ah hb,ah (show a.2*w>p.2 by omega)])];rw[aA (by omega),gJ]};·by_cases ha:a.2*w>p.2;{rw[ag (by rw[ah ha,aA hb];simp),ag hb,ah (show b.2*w<=p.2∧p.2<a.2*w by omega),c9];exact bI.2 (by rw[K7];omega)};·rw[ai (by rw[aA ha,aA hb]),aA (by omega),gJ]};·have h1:a.2*w<=b.2*w:=cg (by omega) (by omega);simp only[ag h];by_cases hb:b.2*w>p.2;{by_cases ha:a.2*w>p.2;{rw[ai (by rw[ah ha,ah hb]),aA (by omega),gJ]};·rw[ag (by rw[ah hb,aA ha];simp),ai hb,ah (show a.2*w<=p.2∧p.2<b.2*w by omega),c9];exact bI.2 (F7 _)};·rw[ai (by rw[aA hb,aA (show¬a.2*w>p.2 by omega)])];rw[aA (by omega),gJ]
abbrev jZ:=jE×jE
abbrev jS:=jE×Int
instance(a b c:Int):Decidable (mP a b c):=by
 unfold mP;infer_instance
instance(a b p:jE)(w:Int):Decidable (has a b p w):=by
 unfold has;infer_instance
def hasB(s:jZ)(p:jS):Bool:=decide (has s.1 s.2 p.1 p.2)
def side(s:jZ)(p:jS):Int:=sg (cr s.1 s.2 p.1 p.2)
def qW(p:jE):jS:=(p,1)
def j7(p q:jE):jS:=((p.1+q.1,p.2+q.2),2)
def kW(s t:jZ):Int:=meet s.1 s.2 t.1 t.2
def jG(r:Ring):List jZ:=r.zip r.tail
def nQ:List jZ->Bool->jS->Int|[],i,_=>if i then 2 else 0|s::t,i,p=>if hasB s p then 1 else nQ t (if p9 s.1 s.2 p.1 p.2 then !i else i) p
def place(r:Ring)(p:jS):Int:=nQ (jG r) false p
def wj(s:jZ)(f:jE)(to p:jE):jE:=if kn f p∧kn p to∧has s.1 s.2 p 1 then p else to
def oz(s:jZ)(f:jE)(rings:Poly):jE:=rings.flatten.foldl (wj s f) s.2
def tS:Nat->jZ->jE->Poly->List jS|0,_,_,_=>[]|n+1,s,f,rings=>if f=s.2 then[]else j7 f (oz s f rings)::tS n s (oz s f rings) rings
def mJ(s:jZ)(rings:Poly):List jS:=tS (rings.flatten.length+1) (fwd s.1 s.2) (fwd s.1 s.2).1 rings
def anyI(n:Nat)(f:Nat->Bool):Bool:=(List.range n).any f
theorem UW(f:Nat->Bool):anyI 0 f=false:=rfl
theorem oW(n:Nat)(f:Nat->Bool):anyI (n+1) f=(anyI n f||f n):=by simp[anyI,dz]
theorem kV{n:Nat}{f:Nat->Bool}{i:Nat}(h:i<n)(hf:f i=true):anyI n f=true:=by
 simp only[anyI,aG,aU];exact⟨i,h,hf⟩
theorem lJ{n:Nat}{f:Nat->Bool}:anyI n f=true↔∃i,i<n∧f i=true:=by simp only[anyI,aG,aU]
def twice(r:Ring):Bool:=anyI r.length fun i=>decide (1<=i)&&anyI r.length fun j=>decide (i<j)&&decide (r[i]?=r[j]?)
def ri(n i j:Nat):Int:=if i+1=j∨(i=0∧j+1=n)then 1 else 0
def IZ(l:List jZ)(i:Nat):jZ:=l.getD i ((0,0),(0,0))
def pS(r:Ring):Bool:=anyI (jG r).length fun j=>anyI j fun i=>decide (kW (IZ (jG r) i) (IZ (jG r) j)≠ri (jG r).length i j)
def simple(l:Poly):Bool:=!(l.any fun r=>twice r||pS r)
def kM(s t:jZ):Bool:=decide (kW s t=2)||decide (kW s t=3)
def jU(r o:Ring):Bool:=(jG r).any fun s=>(jG o).any fun t=>kM s t
def lD(l:Poly)(i:Nat):Ring:=l.getD i []
def touch(l:Poly):Bool:=!(anyI l.length fun j=>anyI j fun i=>jU (lD l i) (lD l j))
def lies(r o:Ring)(k:Int):Bool:=!((jG r).any fun s=>(mJ s [o]).any fun m=>decide (place o m≠k))
def qj(j:Nat):Int:=if j=0 then 2 else 0
def nested(l:Poly):Bool:=!(anyI l.length fun i=>decide (1<=i)&&anyI l.length fun j=>decide (i≠j)&&!(lies (lD l i) (lD l j) (qj j)))
def l7(l:Poly)(p:jE):List Nat:=(List.range l.length).filter fun i=>decide (place (lD l i) (qW p)=1)
def rI(l:Poly)(a:List jE)(p:jE):List jE:=if¬(p∈a)∧1<(l7 l p).length then a++[p]else a
def qz(l:Poly):List jE:=l.flatten.foldl (rI l) []
def qU(old first:Nat)(g:Nat):Nat:=if g=old then first else g
def mB(l:List Nat)(i:Nat):Nat:=l.getD i 0
def sK:List Nat->Nat->List Nat->Option (List Nat)|g,_,[]=>some g|g,a,j::t=>if mB g j=mB g a then none else sK (g.map (qU (mB g j) (mB g a))) a t
def join(g:List Nat):List Nat->Option (List Nat)|[]=>some g|a::t=>sK g a t
def y5(l:Poly):List jE->List Nat->Bool|[],_=>false|p::t,g=>match join g (l7 l p)with|none=>true|some g'=>y5 l t g'
def way(l:Poly):Bool:=y5 l (qz l) (List.range l.length)
def pH(c:Nat)(l:Poly):Bool:=if c=1 then simple l else if c=2 then touch l else if c=3 then nested l else !(way l)
def mH(a b:Poly):Bool:=a.any fun r=>b.any fun o=>jU r o
def oO:List Ring->Bool->Bool->jS->Bool|[],_,f,_=>f|r::t,first,f,p=>if place r p=1 then false else oO t false (f||(first&&decide (place r p=0))||(!first&&decide (place r p=2))) p
def free(l:Poly)(p:jS):Bool:=oO l true false p
def enters(a b:Poly):Bool:=a.any fun r=>(jG r).any fun s=>(mJ s b).any fun m=>!(free b m)
def kY(m:jL)(i:Nat):Poly:=m.getD i []
def od(m:jL):Bool:=anyI m.length fun j=>anyI j fun i=>mH (kY m i) (kY m j)||enters (kY m i) (kY m j)||enters (kY m j) (kY m i)
def oC(c:Nat)(m:jL):Bool:=m.any fun l=>!(pH c l)
def least(m:jL):Int:=if oC 1 m then 1 else if oC 2 m then 2 else if oC 3 m then 3 else if oC 4 m then 4 else if od m then 5 else 0
theorem Af{p q r:jE}(h:kn p q)(k:kn q r):kn p r:=by
 unfold kn at*;omega
theorem MP(s:jZ)(f:jE):∀(l:List jE)(t:jE),l.foldl (wj s f) t=t∨(l.foldl (wj s f) t∈l∧kn f (l.foldl (wj s f) t)):=by
 intro l;induction l with|nil=>intro t;exact .inl rfl|cons p l ih=>intro t;rw[dP];by_cases h:kn f p∧kn p t∧has s.1 s.2 p 1;{have e:wj s f t p=p:=ai h;rw[e];rcases ih p with k|⟨k1,k2⟩;{rw[k];exact .inr ⟨by simp,h.1⟩};·exact .inr ⟨by simp[k1],k2⟩};·have e:wj s f t p=t:=ag h;rw[e];rcases ih t with k|⟨k1,k2⟩;{exact .inl k};·exact .inr ⟨by simp[k1],k2⟩
def ahead(s:jZ)(f:jE)(rings:Poly):Nat:=if f=s.2 then 0 else 1+rings.flatten.countP fun p=>decide (kn f p)
theorem X4(s:jZ)(f:jE)(rings:Poly):ahead s f rings<=rings.flatten.length+1:=by
 unfold ahead;split;{omega};·have:=gK (p:=fun p=>decide (kn f p)) (l:=rings.flatten);omega
theorem Qf{s:jZ}{f:jE}{rings:Poly}(h:f≠s.2):ahead s (oz s f rings) rings<ahead s f rings:=by
 unfold ahead;rw[ag h];split;{omega};·rename_i g;rcases MP s f rings.flatten s.2 with k|⟨k1,k2⟩;{exact absurd k g};·have:rings.flatten.countP (fun p=>decide (kn (oz s f rings) p))<rings.flatten.countP (fun p=>decide (kn f p)):=(by obtain⟨l1,l2,e⟩:=gw k1;have mono:∀l:List jE,l.countP (fun p=>decide (kn (oz s f rings) p))<=l.countP (fun p=>decide (kn f p)):=(by intro l;apply gL;intro x _ hx;exact ah (Af k2 (bE hx)));have m1:=mono l1;have m2:=mono l2;have e':rings.flatten=l1++oz s f rings::l2:=e;generalize hx:oz s f rings=x at*;have k2':kn f x:=(by rw[←hx];exact k2);rw[e',gx,gx,dY,dY];have d1:decide (kn x x)=false:=aA fun q=>ou q q;have d2:decide (kn f x)=true:=ah k2';simp only[d1,d2,fT];simp;omega);omega
theorem UX{s:jZ}{f:jE}{rings:Poly}(h:f=s.2)(n:Nat):tS n s f rings=[]:=by cases n with|zero=>rfl|succ n=>unfold tS;rw[ai h]
theorem UY:∀(n:Nat)(s:jZ)(f:jE)(rings:Poly),(tS n s f rings).length<=n:=by
 intro n;induction n with|zero=>intro s f rings;exact bC _|succ n ih=>intro s f rings;unfold tS;split;{simp};·have:=ih s (oz s f rings) rings;simp;omega
theorem B7(s:jZ)(rings:Poly):(mJ s rings).length<=rings.flatten.length+1:=UY _ _ _ _
theorem kH(r:Ring):(jG r).length=r.length-1:=by simp[jG]
theorem lp{r:Ring}{i:Nat}{p q:jE}(hp:r[i]?=some p)(hq:r[i+1]?=some q):(jG r)[i]?=some (p,q):=by
 have hq':r.tail[i]?=some q:=(by simpa using hq);simp[jG,List.getElem?_zip_eq_some,hp,hq']
theorem kJ{r:Ring}{s:jZ}(h:s∈jG r):s.1∈r∧s.2∈r:=by
 have:=List.of_mem_zip (a:=s.1) (b:=s.2) (show(s.1,s.2)∈r.zip r.tail from h);exact⟨this.1,List.mem_of_mem_tail this.2⟩
theorem MQ(s:jZ)(f:jE)(rings:Poly):oz s f rings=s.2∨oz s f rings∈rings.flatten:=by
 rcases MP s f rings.flatten s.2 with k|⟨k1,_⟩;{exact .inl k};·exact .inr k1
def Cd(p:jE):Prop:=-32768<=p.1∧p.1<=32768∧-32768<=p.2∧p.2<=32768
def uP(s:jZ):Prop:=Cd s.1∧Cd s.2
def DA(r:Ring):Prop:=∀p∈r,Cd p
def y6(l:Poly):Prop:=∀r∈l,DA r
def Sp(p:jS):Prop:=-1048576<=p.1.1∧p.1.1<=1048576∧-1048576<=p.1.2∧p.1.2<=1048576∧1<=p.2∧p.2<=1048576
theorem uj{p:jE}(h:Cd p):Sp (qW p):=by
 unfold Cd at h;unfold Sp qW;simp only;omega
theorem afE{p q:jE}(h:Cd p)(k:Cd q):Sp (j7 p q):=by
 unfold Cd at h k;unfold Sp j7;simp only;omega
theorem xZ{r:Ring}(h:DA r){s:jZ}(hs:s∈jG r):uP s:=⟨h _ (kJ hs).1,h _ (kJ hs).2⟩
theorem F8{s:jZ}(h:uP s):uP (fwd s.1 s.2):=by
 unfold fwd;split;{exact⟨h.2,h.1⟩};·exact h
theorem uZ{s:jZ}{f:jE}{rings:Poly}(hs:uP s)(hr:y6 rings):Cd (oz s f rings):=by
 rcases MQ s f rings with k|k;{rw[k];exact hs.2};·obtain⟨r,h1,h2⟩:=bh.1 k;exact hr r h1 _ h2
theorem X5{s:jZ}{rings:Poly}(hs:uP s)(hr:y6 rings):∀(n:Nat)(f:jE),Cd f->∀m∈tS n s f rings,Sp m:=by
 intro n;induction n with|zero=>intro f _ m hm;cases hm|succ n ih=>intro f hf m hm;unfold tS at hm;split at hm;{cases hm};·rcases aD.1 hm with rfl|hm;{exact afE hf (uZ hs hr)};·exact ih _ (uZ hs hr) m hm
theorem K8{s:jZ}{rings:Poly}(hs:uP s)(hr:y6 rings):∀m∈mJ s rings,Sp m:=X5 (F8 hs) hr _ _ (F8 hs).1
theorem ai6{m:jL}(h:Pl.wrong m=0):∀l∈m,y6 l:=by
 have h4:m.any Pl.tO=false:=(by unfold Pl.wrong at h;split at h;{omega};·split at h;{omega};·split at h;{omega};·rename_i k;simpa using k);intro l hl r hr p hp;have h1:Pl.uz p=false:=(by cases hw:Pl.uz p with|false=>rfl|true=>have:m.any Pl.tO=true:=aG.2 ⟨l,hl,aG.2 ⟨r,hr,aG.2 ⟨p,hp,hw⟩⟩⟩;rw[h4]at this;cases this);unfold Pl.uz Pl.xU at h1;simp at h1;unfold Cd;omega
def jD(r:Ring)(i:Nat):jE:=r.getD i (0,0)
def l8(r:Ring)(i:Nat):jE:=if i+1<r.length then jD r (i+1)else jD r 1
def turns(r:Ring)(i:Nat):Bool:=decide (1<=i)&&decide (side (jD r (i-1),jD r i) (qW (l8 r i))≠0)
def kX(r:Ring)(n:Nat):Ring:=((List.range n).filter (turns r)).map (jD r)
def jJ(r:Ring):Ring:=kX r r.length
def y7(v:Ring)(f i:Nat):Nat:=if kn (jD v i) (jD v f)then i else f
def oH(v:Ring)(n:Nat):Nat:=(List.range n).foldl (y7 v) 0
def kg(v:Ring):Nat:=oH v v.length
def yN(v:Ring)(k:Nat):Bool:=decide (0<side (jD v ((k+v.length-1)%v.length),jD v k) (qW (jD v ((k+1)%v.length))))
def ve(v:Ring)(l:Bool):Nat:=if yN v (kg v)=l then 1 else v.length-1
def jP(r:Ring)(l:Bool):Ring:=if(jJ r).length=0 then[]else(List.range ((jJ r).length+1)).map fun i=>jD (jJ r) ((kg (jJ r)+i*ve (jJ r) l)%(jJ r).length)
def lH:Ring->Ring->Int|[],[]=>0|[],_::_=>-1|_::_,[]=>1|p::t,q::u=>if kn q p then 1 else if kn p q then-1 else lH t u
def mF:Poly->Poly->Int|[],[]=>0|[],_::_=>-1|_::_,[]=>1|p::t,q::u=>if lH p q≠0 then lH p q else mF t u
def isA(m:jL)(a i:Nat):Bool:=decide (mF (kY m i) (kY m a)<0)||(decide (mF (kY m i) (kY m a)=0)&&decide (i<a))
def pT(m:jL)(a n:Nat):Nat:=(List.range n).countP (isA m a)
def Qg(m:jL)(o:jL)(i:Nat):jL:=o.set (pT m i m.length) (kY m i)
def X6(m:jL)(n:Nat):jL:=(List.range n).foldl (Qg m) (List.replicate m.length [])
def lN(m:jL):jL:=X6 m m.length
def nJ(l:Poly):jL:=l.map fun r=>[jP r false]
def kR:Poly->Poly|[]=>[]|r::l=>jP r true::(lN (nJ l)).flatten
def form(m:jL):jL:=lN (m.map kR)
def ql:List Ring->Bool->jS->Bool|[],_,_=>true|r::t,first,p=>if(first&&decide (place r p=0))||(!first&&decide (place r p=2))then false else ql t false p
def lR(l:Poly)(p:jS):Bool:=ql l true p&&decide (0<l.length)
def y8(m:jL)(p:jS):Bool:=m.any fun l=>lR l p
def along(s:jZ):jE:=(s.2.1-s.1.1,s.2.2-s.1.2)
def oq(w o:jE):Int:=w.1*o.2-w.2*o.1
def P5(n:Int):Int:=if n<0 then-n else n
def Fc(p:jS)(s:jZ):jE:=(s.1.1*p.2-p.1.1,s.1.2*p.2-p.1.2)
def qm(p:jS)(w:jE)(s:jZ):Int:=if P5 (oq (Fc p s) (along s))=0 then 1 else(P5 (p.2*oq w (along s))).tdiv (P5 (oq (Fc p s) (along s)))+1
def vf(p:jS)(w:jE)(n:Int)(s:jZ):Int:=if n<qm p w s then qm p w s else n
def X7(p:jS)(w:jE)(n:Int):jS:=((p.1.1*n+p.2*w.1,p.1.2*n+p.2*w.2),p.2*n)
def near(both:List jZ)(p:jS)(w:jE):jS:=X7 p w (both.foldl (vf p w) 1)
def wU(both:List jZ)(s t:jZ)(m:jS):Option jS:=if oq (along s) (along t)<0 then some (near both m (along t))else if 0<oq (along s) (along t)then some (near both m (-(along t).1,-(along t).2))else none
def qV(other:jL)(both:List jZ)(s:jZ)(m:jS):List jZ->Option jS|[]=>if y8 other m then some (near both m ((along s).2,-(along s).1))else some m|t::l=>if hasB t m then wU both s t m else qV other both s m l
def kr(l:Poly):List jZ:=l.flatMap jG
def nE(a b:jL):Option jS:=(kr a.flatten).findSome? fun s=>(mJ s (a.flatten++b.flatten)).findSome? fun m=>qV b (kr (a.flatten++b.flatten)) s m (kr b.flatten)
def spot(a b:jL):Option jS:=match nE a b with|some p=>some p|none=>nE b a
def Cut(a b:jE)(l:List jE)(x:jE):Prop:=x=a∨x=b∨(x∈l∧has a b x 1)
structure Cons(f:jE->Int)(C:jE->Prop)(x y:jE):Prop where
 cx:C x
 cy:C y
 lt:f x<f y
 no:∀c,C c->¬(f x<f c∧f c<f y)
def uF(f:jE->Int)(ok:jE->Prop)[DecidablePred ok](from_ to p:jE):jE:=if ok p∧f from_<f p∧f p<f to then p else to
theorem Jw(f:jE->Int)(ok:jE->Prop)[DecidablePred ok](x:jE):∀(l:List jE)(t:jE),f x<f t->(l.foldl (uF f ok x) t=t∨(l.foldl (uF f ok x) t∈l∧ok (l.foldl (uF f ok x) t)))∧f x<f (l.foldl (uF f ok x) t)∧f (l.foldl (uF f ok x) t)<=f t∧∀c∈l,ok c->¬(f x<f c∧f c<f (l.foldl (uF f ok x) t)):=by
 intro l;induction l with|nil=>intro t h;exact⟨.inl rfl,h,dj _,by simp⟩|cons p l ih=>intro t h;rw[dP];by_cases k:ok p∧f x<f p∧f p<f t;{rw[show uF f ok x t p=p from ai k];obtain⟨h1,h2,h3,h4⟩:=ih p k.2.1;refine⟨?_,h2,by omega,?_⟩;{rcases h1 with e|⟨e1,e2⟩;{rw[e];exact .inr ⟨by simp,k.1⟩};·exact .inr ⟨by simp[e1],e2⟩};·intro c hc hok;rcases aD.1 hc with rfl|hc;{omega};·exact h4 c hc hok};·rw[show uF f ok x t p=t from ag k];obtain⟨h1,h2,h3,h4⟩:=ih t h;refine⟨?_,h2,h3,?_⟩;{rcases h1 with e|⟨e1,e2⟩;{exact .inl e};·exact .inr ⟨by simp[e1],e2⟩};·intro c hc hok;rcases aD.1 hc with rfl|hc;{intro⟨q1,q2⟩;exact k ⟨hok,q1,by omega⟩};·exact h4 c hc hok
def MR(f:jE->Int)(ok:jE->Prop)[DecidablePred ok](l:List jE)(b:jE):Nat->jE->List jS|0,_=>[]|n+1,x=>if x=b then[]else j7 x (l.foldl (uF f ok x) b)::MR f ok l b n (l.foldl (uF f ok x) b)
def fuel(f:jE->Int)(l:List jE)(b x:jE):Nat:=if x=b then 0 else 1+l.countP fun p=>decide (f x<f p)
theorem Jx{f:jE->Int}{ok:jE->Prop}[DecidablePred ok]{l:List jE}{b x:jE}(hx:x≠b)(h:f x<f b):fuel f l b (l.foldl (uF f ok x) b)<fuel f l b x:=by
 obtain⟨h1,h2,-,-⟩:=Jw f ok x l b h;unfold fuel;rw[ag hx];split;{omega};·rename_i g;rcases h1 with e|⟨e1,e2⟩;{exact absurd e g};·generalize l.foldl (uF f ok x) b=y at*;obtain⟨l1,l2,e⟩:=gw e1;have mono:∀l:List jE,l.countP (fun p=>decide (f y<f p))<=l.countP (fun p=>decide (f x<f p)):=(by intro l;apply gL;intro z _ hz;have:=bE hz;exact ah (by omega));have m1:=mono l1;have m2:=mono l2;rw[e,gx,gx,dY,dY];simp[h2];omega
theorem X8{f:jE->Int}{C ok:jE->Prop}[DecidablePred ok]{l:List jE}{a b:jE}(hC:∀x,C x↔x=a∨x=b∨(x∈l∧ok x))(inj:∀x y,C x->C y->f x=f y->x=y)(top:∀x,C x->f x<=f b):∀(n:Nat)(x:jE),C x->fuel f l b x<=n->f a<=f x->∀m,m∈MR f ok l b n x↔∃y z,Cons f C y z∧f x<=f y∧m=j7 y z:=by
 intro n;induction n with|zero=>intro x hx hn ha m;have:x=b:=(by unfold fuel at hn;split at hn<;>first|assumption|omega);subst this;constructor;{intro h;cases h};{rintro⟨y,z,hc,h1,-⟩;have:=top z hc.cy;have:=hc.lt;omega}|succ n ih=>intro x hx hn ha m;unfold MR;by_cases hb:x=b;{rw[ai hb];constructor;{intro h;cases h};·rintro⟨y,z,hc,h1,-⟩;have:=top z hc.cy;have:=hc.lt;rw[hb]at h1;omega};·rw[ag hb];have hlt:f x<f b:=(by have:=top x hx;rcases eO this with h|h;{exact h};·exact absurd (inj x b hx ((hC b).2 (.inr (.inl rfl))) h) hb);have hf:=Jx (ok:=ok) (l:=l) hb hlt;obtain⟨h1,h2,h3,h4⟩:=Jw f ok x l b hlt;generalize hy:l.foldl (uF f ok x) b=y at*;have cy:C y:=(by rw[hC];rcases h1 with e|⟨e1,e2⟩;{exact .inr (.inl e)};·exact .inr (.inr ⟨e1,e2⟩));have hno:∀c,C c->¬(f x<f c∧f c<f y):=(by intro c hc;rcases(hC c).1 hc with rfl|rfl|⟨e1,e2⟩;{omega};{omega};·exact h4 c e1 e2);have key:=ih y cy (by omega) (by omega) m;rw[aD,key];constructor;{rintro(rfl|⟨u,v,hc,k1,k2⟩);{exact⟨x,y,⟨hx,cy,h2,hno⟩,dj _,rfl⟩};·exact⟨u,v,hc,by omega,k2⟩};·rintro⟨u,v,hc,k1,k2⟩;by_cases hu:f y<=f u;{exact .inr ⟨u,v,hc,hu,k2⟩};·left;have e1:u=x:=(by refine inj u x hc.cx hx ?_;have:=hno u hc.cx;omega);subst e1;have e2:v=y:=(by refine inj v y hc.cy cy ?_;have g1:=hno v hc.cy;have g2:=hc.no y cy;have g3:=hc.lt;omega);rw[k2,e2]
theorem pq(a b:jE):has a b a 1:=⟨tR a b,by unfold mP;omega,by unfold mP;omega⟩
theorem nS(a b:jE):has a b b 1:=⟨sJ a b,by unfold mP;omega,by unfold mP;omega⟩
theorem kZ{a b:jE}{l:List jE}{x:jE}(h:Cut a b l x):has a b x 1:=by
 rcases h with rfl|rfl|h;{exact pq _ _};{exact nS _ _};·exact h.2
theorem mh{a b x:jE}(hab:a≠b)(h:has a b x 1):0<=pos a b x∧pos a b x<=kk a b:=by
 have:=(sN hab (by omega)).1 h;exact⟨this.2.1,by have:=this.2.2;unfold pos;omega⟩
theorem tJ{a b x y:jE}(hab:a≠b)(hx:cr a b x 1=0)(hy:cr a b y 1=0)(e:pos a b x=pos a b y):x=y:=by
 have hk:=lI hab;have e1:(pos a b y-pos a b x)*(b.1-a.1)=(y.1-x.1)*kk a b:=(by unfold cr at hx hy;unfold pos dt kk;grind);have e2:(pos a b y-pos a b x)*(b.2-a.2)=(y.2-x.2)*kk a b:=(by unfold cr at hx hy;unfold pos dt kk;grind);rw[e,je,dA]at e1 e2;have z:∀t:Int,0=t*kk a b->t=0:=(by intro t h;rcases aL.1 h.symm with h|h;{exact h};·omega);have:=z _ e1;have:=z _ e2;exact cJ (by omega) (by omega)
theorem F9{a b:jE}(hab:a≠b)(l:List jE){n:Nat}(hn:l.length+1<=n)(m:jS):m∈MR (pos a b) (fun x=>has a b x 1) l b n a↔∃y z,Cons (pos a b) (Cut a b l) y z∧m=j7 y z:=by
 have hk:=lI hab;have:=X8 (f:=pos a b) (C:=Cut a b l) (ok:=fun x=>has a b x 1) (l:=l) (a:=a) (b:=b) (fun x=>Iff.rfl) (fun x y hx hy e=>tJ hab (kZ hx).1 (kZ hy).1 e) (fun x hx=>by rw[tQ];exact(mh hab (kZ hx)).2) n a (.inl rfl) (by unfold fuel;split;{omega};·have:=gK (p:=fun p=>decide (pos a b a<pos a b p)) (l:=l);omega) (dj _) m;rw[this];constructor;{rintro⟨y,z,hc,-,e⟩;exact⟨y,z,hc,e⟩};·rintro⟨y,z,hc,e⟩;exact⟨y,z,hc,by rw[q9];exact(mh hab (kZ hc.cx)).1,e⟩
theorem MS{a b x y:jE}(h:kn a b)(hx:cr a b x 1=0)(hy:cr a b y 1=0):kn x y↔pos a b x<pos a b y:=(xY (afB h) hx hy).1 h
theorem MT{a b x:jE}(h:kn a b)(hx:cr a b x 1=0):∀(l:List jE)(t:jE),cr a b t 1=0->l.foldl (wj (a,b) x) t=l.foldl (uF (pos a b) (fun p=>has a b p 1) x) t∧cr a b (l.foldl (wj (a,b) x) t) 1=0:=by
 intro l;induction l with|nil=>intro t ht;exact⟨rfl,ht⟩|cons p l ih=>intro t ht;rw[dP,dP];by_cases hp:has a b p 1;{have e1:=MS h hx hp.1;have e2:=MS h hp.1 ht;have e:wj (a,b) x t p=uF (pos a b) (fun p=>has a b p 1) x t p:=(by unfold wj uF;by_cases c:kn x p∧kn p t;{rw[ai ⟨c.1,c.2,hp⟩,ai ⟨hp,e1.1 c.1,e2.1 c.2⟩]};·rw[ag (fun q=>c ⟨q.1,q.2.1⟩),ag (fun q=>c ⟨e1.2 q.2.1,e2.2 q.2.2⟩)]);have ht':cr a b (wj (a,b) x t p) 1=0:=(by unfold wj;split;exact hp.1;exact ht);rw[←e];exact ih _ ht'};·rw[show wj (a,b) x t p=t from ag (fun q=>hp q.2.2),show uF (pos a b) (fun p=>has a b p 1) x t p=t from ag (fun q=>hp q.1)];exact ih t ht
theorem MU{a b:jE}(h:kn a b)(rings:Poly):∀(n:Nat)(x:jE),cr a b x 1=0->tS n (a,b) x rings=MR (pos a b) (fun p=>has a b p 1) rings.flatten b n x:=by
 intro n;induction n with|zero=>intro x _;rfl|succ n ih=>intro x hx;obtain⟨e,k⟩:=MT h hx rings.flatten b (sJ a b);unfold tS MR oz;simp only;rw[←e,ih _ k]
theorem oD{a b p:jE}{w:Int}:has a b p w↔has b a p w:=by
 unfold has;rw[oc a b p w];unfold mP;omega
theorem Ga{a b:jE}{l:List jE}{x:jE}:Cut a b l x↔Cut b a l x:=by
 unfold Cut;rw[oD (a:=a)];constructor;{rintro(h|h|h);{exact .inr (.inl h)};{exact .inl h};·exact .inr (.inr h)};·rintro(h|h|h);{exact .inr (.inl h)};{exact .inl h};·exact .inr (.inr h)
theorem y9(a b x:jE):pos b a x=kk a b-pos a b x:=by
 unfold pos dt kk;grind
theorem Jy{a b:jE}{l:List jE}{x y:jE}(h:Cons (pos a b) (Cut a b l) x y):Cons (pos b a) (Cut b a l) y x:=by
 refine⟨Ga.1 h.cy,Ga.1 h.cx,?_,?_⟩;{rw[y9,y9 a b];have:=h.lt;omega};·intro c hc;have:=h.no c (Ga.2 hc);rw[y9,y9 a b c,y9 a b x];omega
theorem MV(x y:jE):j7 x y=j7 y x:=by
 unfold j7;rw[Int.add_comm,Int.add_comm x.2]
theorem qC{a b:jE}(hab:a≠b)(rings:Poly)(m:jS):m∈mJ (a,b) rings↔∃y z,Cons (pos a b) (Cut a b rings.flatten) y z∧m=j7 y z:=by
 unfold mJ fwd;simp only;by_cases h:kn b a;{rw[ai h];simp only;rw[MU h rings _ _ (tR b a),F9 (dh hab) _ (bC _)];constructor;{rintro⟨y,z,hc,e⟩;exact⟨z,y,Jy hc,by rw[e,MV]⟩};·rintro⟨y,z,hc,e⟩;exact⟨z,y,Jy hc,by rw[e,MV]⟩};·have h':kn a b:=(by rcases tI a b with k|k|k;{exact k};{exact absurd k hab};·exact absurd k h);rw[ag h];simp only;rw[MU h' rings _ _ (tR a b),F9 hab _ (bC _)]
def MW(a b x y:jE):Int:=(y.1-x.1)*(b.1-a.1)+(y.2-x.2)*(b.2-a.2)
theorem MX(a b x y:jE):MW a b x y=pos a b y-pos a b x:=by
 unfold MW pos dt;grind
instance(a b p:jE)(w:Int):Decidable (on a b p w):=by
 unfold on;infer_instance
def MY(a b x t p:jE):jE:=if on a b p 1∧MW a b x p>0∧MW a b p t>0 then p else t
def ze(a b x:jE)(rings:Poly):jE:=rings.flatten.foldl (MY a b x) b
def tT(a b:jE)(rings:Poly):Nat->jE->List jS|0,_=>[]|n+1,x=>if x=b then[]else j7 x (ze a b x rings)::tT a b rings n (ze a b x rings)
theorem ab7{a b:jE}(hab:a≠b)(x t p:jE):MY a b x t p=uF (pos a b) (fun p=>has a b p 1) x t p:=by
 unfold MY uF;have e:=sN (p:=p) (w:=1) hab (by omega);rw[MX,MX];by_cases c:has a b p 1∧pos a b x<pos a b p∧pos a b p<pos a b t;{rw[ai c,ai ⟨e.1 c.1,by omega,by omega⟩]};·rw[ag c,ag (fun q=>c ⟨e.2 q.1,by omega,by omega⟩)]
theorem B8{a b:jE}(hab:a≠b)(x:jE)(rings:Poly):ze a b x rings=rings.flatten.foldl (uF (pos a b) (fun p=>has a b p 1) x) b:=by
 unfold ze;congr 1;funext t p;exact ab7 hab x t p
theorem X9{a b:jE}(hab:a≠b)(rings:Poly):∀(n:Nat)(x:jE),tT a b rings n x=MR (pos a b) (fun p=>has a b p 1) rings.flatten b n x:=by
 intro n;induction n with|zero=>intro x;rfl|succ n ih=>intro x;unfold tT MR;rw[B8 hab,ih]
def Bp(a b:jE)(rings:Poly):List jS:=tT a b rings (rings.flatten.length+1) a
theorem Ya{a b:jE}(hab:a≠b)(rings:Poly)(m:jS):m∈Bp a b rings↔∃y z,Cons (pos a b) (Cut a b rings.flatten) y z∧m=j7 y z:=by
 unfold Bp;rw[X9 hab,F9 hab _ (bC _)]
theorem Ag{a b:jE}(hab:a≠b)(rings:Poly)(m:jS):m∈mJ (a,b) rings↔m∈Bp a b rings:=by rw[qC hab,Ya hab]
theorem K9{g:List Nat}{f:Nat->Nat}{i:Nat}(h:i<g.length):mB (g.map f) i=f (mB g i):=by
 unfold mB;simp[az,aI h]
theorem La{o f x y:Nat}(h:qU o f x=qU o f y):x=y∨((x=o∨x=f)∧(y=o∨y=f)):=by
 unfold qU at h;split at h<;>split at h<;>omega
theorem Yb:∀(js:List Nat)(g:List Nat)(a:Nat)(g':List Nat),a<g.length->(∀j∈js,j<g.length)->sK g a js=some g'->g'.length=g.length∧(∀x y,x<g.length->y<g.length->mB g x=mB g y->mB g' x=mB g' y)∧(∀j∈js,mB g' j=mB g' a)∧(∀j∈js,mB g j≠mB g a)∧js.Pairwise (fun i j=>mB g i≠mB g j):=by
 intro js;induction js with|nil=>intro g a g' _ _ h;simp only[sK,fL]at h;subst h;exact⟨rfl,fun _ _ _ _ e=>e,by simp,by simp,List.Pairwise.nil⟩|cons j t ih=>intro g a g' ha hj h;unfold sK at h;split at h;{cases h};·rename_i hne;have hjl:=hj j (by simp);have key:=ih _ a g' (by simpa using ha) (by intro x hx;simpa using hj x (by simp[hx])) h;obtain⟨k1,k2,k3,k4,k5⟩:=key;simp only[aB]at k1 k2;have m:∀x,x<g.length->mB (g.map (qU (mB g j) (mB g a))) x=qU (mB g j) (mB g a) (mB g x):=fun x hx=>K9 hx;have ma:qU (mB g j) (mB g a) (mB g a)=mB g a:=(by unfold qU;rw[ag (dh hne)]);have mj:qU (mB g j) (mB g a) (mB g j)=mB g a:=(by unfold qU;rw[ai rfl]);have kt:∀i∈t,mB g i≠mB g a∧mB g i≠mB g j:=(by intro i hi;have hil:=hj i (by simp[hi]);have:=k4 i hi;rw[m i hil,m a ha,ma]at this;constructor;{intro e;rw[e,ma]at this;exact this rfl};·intro e;rw[e,mj]at this;exact this rfl);refine⟨k1,?_,?_,?_,?_⟩;{intro x y hx hy e;refine k2 x y hx hy ?_;rw[m x hx,m y hy,e]};{intro i hi;rcases aD.1 hi with rfl|hi;{refine k2 _ _ hjl ha ?_;rw[m _ hjl,m a ha,mj,ma]};·exact k3 i hi};{intro i hi;rcases aD.1 hi with rfl|hi;{exact hne};·exact(kt i hi).1};·refine List.Pairwise.cons (fun i hi=>dh (kt i hi).2) ?_;refine List.Pairwise.imp_of_mem ?_ k5;intro x y hx hy e e2;rw[m x (hj x (by simp[hx])),m y (hj y (by simp[hy])),e2]at e;exact e rfl
theorem Qh:∀(js:List Nat)(g:List Nat)(a:Nat)(g':List Nat),a<g.length->(∀j∈js,j<g.length)->sK g a js=some g'->∀x y,x<g.length->y<g.length->mB g' x=mB g' y->mB g x=mB g y∨∃u∈a::js,∃v∈a::js,mB g u=mB g x∧mB g v=mB g y:=by
 intro js;induction js with|nil=>intro g a g' _ _ h x y _ _ e;simp only[sK,fL]at h;subst h;exact .inl e|cons j t ih=>intro g a g' ha hj h x y hx hy e;unfold sK at h;split at h;{cases h};·rename_i hne;have hjl:=hj j (by simp);have m:∀x,x<g.length->mB (g.map (qU (mB g j) (mB g a))) x=qU (mB g j) (mB g a) (mB g x):=fun x hx=>K9 hx;have key:=ih _ a g' (by simpa using ha) (by intro x hx;simpa using hj x (by simp[hx])) h x y (by simpa using hx) (by simpa using hy) e;have up:∀u∈a::t,∀z,z<g.length->mB (g.map (qU (mB g j) (mB g a))) u=mB (g.map (qU (mB g j) (mB g a))) z->∃u'∈a::j::t,mB g u'=mB g z:=(by intro u hu z hz e;have hul:u<g.length:=(by rcases aD.1 hu with rfl|hu;{exact ha};·exact hj u (by simp[hu]));rw[m u hul,m z hz]at e;rcases La e with e|⟨_,e|e⟩;{refine⟨u,?_,e⟩;rcases aD.1 hu with rfl|hu;{simp};·simp[hu]};{exact⟨j,by simp,e.symm⟩};·exact⟨a,by simp,e.symm⟩);rcases key with k|⟨u,hu,v,hv,k1,k2⟩;{rw[m x hx,m y hy]at k;rcases La k with k|⟨k1,k2⟩;{exact .inl k};·right;have one:∀z,(mB g z=mB g j∨mB g z=mB g a)->∃u∈a::j::t,mB g u=mB g z:=(by rintro z(e|e);{exact⟨j,by simp,e.symm⟩};·exact⟨a,by simp,e.symm⟩);obtain⟨u,hu,e1⟩:=one x k1;obtain⟨v,hv,e2⟩:=one y k2;exact⟨u,hu,v,hv,e1,e2⟩};·right;obtain⟨u',MZ,e1⟩:=up u hu x hx k1;obtain⟨v',hv',e2⟩:=up v hv y hy k2;exact⟨u',MZ,v',hv',e1,e2⟩
theorem Qi:∀(js:List Nat)(g:List Nat)(a:Nat),a<g.length->(∀j∈js,j<g.length)->(a::js).Nodup->sK g a js=none->∃u∈a::js,∃v∈a::js,u≠v∧mB g u=mB g v:=by
 intro js;induction js with|nil=>intro g a _ _ _ h;cases h|cons j t ih=>intro g a ha hj hnd h;have hjl:=hj j (by simp);have haj:a≠j:=fun e=>(b8.1 hnd).1 (by simp[e]);have hjt:j∉t:=(b8.1 (b8.1 hnd).2).1;unfold sK at h;split at h;{rename_i e;exact⟨j,by simp,a,by simp,dh haj,e⟩};·rename_i hne;have m:∀x,x<g.length->mB (g.map (qU (mB g j) (mB g a))) x=qU (mB g j) (mB g a) (mB g x):=fun x hx=>K9 hx;have I3:(a::t).Nodup:=(by rw[b8]at hnd⊢;exact⟨fun e=>hnd.1 (by simp[e]),(b8.1 hnd.2).2⟩);obtain⟨u,hu,v,hv,huv,e⟩:=ih _ a (by simpa using ha) (by intro x hx;simpa using hj x (by simp[hx])) I3 h;have lt:∀x∈a::t,x<g.length:=(by intro x hx;rcases aD.1 hx with rfl|hx;{exact ha};·exact hj x (by simp[hx]));have mM:∀x∈a::t,x∈a::j::t:=(by intro x hx;rcases aD.1 hx with rfl|hx;{simp};·simp[hx]);have far:∀x∈a::t,mB g x=mB g j->∃u∈a::j::t,∃v∈a::j::t,u≠v∧mB g u=mB g v:=(by intro x hx e;refine⟨x,mM x hx,j,by simp,?_,e⟩;rintro rfl;rcases aD.1 hx with e|e;{exact haj e.symm};·exact hjt e);rw[m u (lt u hu),m v (lt v hv)]at e;rcases La e with e|⟨e1|e1,e2|e2⟩;{exact⟨u,mM u hu,v,mM v hv,huv,e⟩};{exact far u hu e1};{exact far u hu e1};{exact far v hv e2};·exact⟨u,mM u hu,v,mM v hv,huv,by rw[e1,e2]⟩
abbrev I4:=Nat->jE->Prop
structure ai7(F:I4)(x y:Nat):Prop where
 pt:∀r p,F r p->∃r',r'≠r∧F r' p
 ring:∀r p,F r p->r≠x->r≠y->∃p',p'≠p∧F r p'
structure Core(F:I4):Prop where
 pt:∀r p,F r p->∃r',r'≠r∧F r' p
 ring:∀r p,F r p->∃p',p'≠p∧F r p'
structure At(n:Nat)(E:I4)(at_:jE->List Nat):Prop where
 mem:∀r p,r∈at_ p↔r<n∧E r p
 nd:∀p,(at_ p).Nodup
theorem afF{f:Nat->Nat}{l:List Nat}(h:l.Pairwise (fun i j=>f i≠f j)):∀x y,x∈l->y∈l->x≠y->f x≠f y:=by induction h with|nil=>intro x y hx;cases hx|cons h1 _ ih=>intro x y hx hy hxy;rcases aD.1 hx with e1|e1<;>rcases aD.1 hy with e2|e2;{exact absurd (e1.trans e2.symm) hxy};{rw[e1];exact h1 y e2};{rw[e2];exact dh (h1 x e1)};·exact ih x y e1 e2 hxy
theorem Gb{n:Nat}{E:I4}{at_:jE->List Nat}(hA:At n E at_)(p:jE)(g:List Nat)(hg:g.length=n):(∀g',join g (at_ p)=some g'->g'.length=n∧(∀x y,x<n->y<n->mB g x=mB g y->mB g' x=mB g' y)∧(∀a b,a∈at_ p->b∈at_ p->mB g' a=mB g' b)∧(∀a b,a∈at_ p->b∈at_ p->a≠b->mB g a≠mB g b)∧(∀x y,x<n->y<n->mB g' x=mB g' y->mB g x=mB g y∨∃u∈at_ p,∃v∈at_ p,mB g u=mB g x∧mB g v=mB g y))∧(join g (at_ p)=none->∃u∈at_ p,∃v∈at_ p,u≠v∧mB g u=mB g v):=by
 have hnd:=hA.nd p;have hlt:∀j∈at_ p,j<g.length:=fun j hj=>(by rw[hg];exact((hA.mem j p).1 hj).1);cases hp:at_ p with|nil=>refine⟨fun g' h=>?_,fun h=>by cases h⟩;simp only[join,fL]at h;subst h;exact⟨hg,fun _ _ _ _ e=>e,by simp,by simp,fun _ _ _ _ e=>.inl e⟩|cons a t=>rw[hp]at hnd hlt;have ha:=hlt a (by simp);have ht:∀j∈t,j<g.length:=fun j hj=>hlt j (by simp[hj]);refine⟨fun g' h=>?_,fun h=>Qi t g a ha ht hnd h⟩;obtain⟨k1,k2,k3,k4,k5⟩:=Yb t g a g' ha ht h;have k6:=Qh t g a g' ha ht h;rw[hg]at k1 k2 k6;refine⟨k1,k2,?_,?_,k6⟩;{have one:∀x∈a::t,mB g' x=mB g' a:=(by intro x hx;rcases aD.1 hx with rfl|hx;{rfl};·exact k3 x hx);intro x y hx hy;rw[one x hx,one y hy]};·intro x y hx hy hxy;rcases aD.1 hx with h1|h1<;>rcases aD.1 hy with h2|h2;{exact absurd (h1.trans h2.symm) hxy};{rw[h1];exact dh (k4 y h2)};{rw[h2];exact k4 x h1};·exact afF k5 x y h1 h2 hxy
structure Jd(n:Nat)(E:I4)(Q:jE->Prop)(g:List Nat):Prop where
 len:g.length=n
 one:∀p,Q p->∀a b,a<n->b<n->E a p->E b p->mB g a=mB g b
 no:∀F:I4,(∀r p,F r p->r<n∧E r p∧Q p)->∀x,ai7 F x x->∀r p,¬F r p
 good:∀a b,a<n->b<n->a≠b->mB g a=mB g b->∃F:I4,(∀r p,F r p->r<n∧E r p∧Q p)∧ai7 F a b∧(∃p,F a p)∧(∃p,F b p)
theorem Jd.step{n:Nat}{E:I4}{at_:jE->List Nat}(hA:At n E at_){Q:jE->Prop}{g g':List Nat}(h:Jd n E Q g){p:jE}(hp:¬Q p)(hj:join g (at_ p)=some g'):Jd n E (fun q=>Q q∨q=p) g':=by
 obtain⟨k1,k2,k3,k4,k5⟩:=(Gb hA p g h.len).1 g' hj;refine⟨k1,?_,?_,?_⟩;{rintro q(hq|rfl)a b ha hb ea eb;{exact k2 a b ha hb (h.one q hq a b ha hb ea eb)};·exact k3 a b ((hA.mem a q).2 ⟨ha,ea⟩) ((hA.mem b q).2 ⟨hb,eb⟩)};·intro F hF x hN r0 p0 h0;by_cases hu:∃r,F r p;{obtain⟨a,ha⟩:=hu;obtain⟨b,hba,hb⟩:=hN.pt a p ha;have ea:=hF a p ha;have eb:=hF b p hb;have hne:=k4 a b ((hA.mem a p).2 ⟨ea.1,ea.2.1⟩) ((hA.mem b p).2 ⟨eb.1,eb.2.1⟩) (dh hba);have key:∀c,F c p->mB g c≠mB g x->False:=(by intro c hc hcx;have ec:=hF c p hc;have ai8:c≠x:=fun e=>hcx (by rw[e]);obtain⟨q,hq,hcq⟩:=hN.ring c p hc ai8 ai8;refine h.no (fun r q=>F r q∧q≠p∧mB g r=mB g c) ?_ c ⟨?_,?_⟩ c q ⟨hcq,hq,rfl⟩;{rintro r q⟨h1,h2,-⟩;obtain⟨g1,g2,g3⟩:=hF r q h1;rcases g3 with g3|g3;{exact⟨g1,g2,g3⟩};·exact absurd g3 h2};{rintro r q⟨h1,h2,h3⟩;obtain⟨r',e,h4⟩:=hN.pt r q h1;have a1:=hF r q h1;have a2:=hF r' q h4;have hQ:Q q:=(by rcases a1.2.2 with t|t;exact t;exact absurd t h2);exact⟨r',e,h4,h2,by rw[←h3];exact h.one q hQ r' r a2.1 a1.1 a2.2.1 a1.2.1⟩};·rintro r q⟨h1,h2,h3⟩hr _;have hrx:r≠x:=fun e=>hcx (by rw[←e,h3]);obtain⟨q',e,h4⟩:=hN.ring r q h1 hrx hrx;refine⟨q',e,h4,?_,h3⟩;rintro rfl;have a1:=hF r q' h4;exact k4 r c ((hA.mem r q').2 ⟨a1.1,a1.2.1⟩) ((hA.mem c q').2 ⟨ec.1,ec.2.1⟩) hr h3);by_cases hax:mB g a=mB g x;{exact key b hb (fun e=>hne (by rw[hax,e]))};·exact key a ha hax};·refine h.no F ?_ x hN r0 p0 h0;intro r q hq;obtain⟨g1,g2,g3⟩:=hF r q hq;rcases g3 with g3|rfl;{exact⟨g1,g2,g3⟩};·exact absurd ⟨r,hq⟩ hu
 ·intro a b ha hb hab e;have wide:∀F:I4,(∀r p,F r p->r<n∧E r p∧Q p)->∀r q,F r q->r<n∧E r q∧(Q q∨q=p):=fun F hF r q hq=>⟨(hF r q hq).1,(hF r q hq).2.1,.inl (hF r q hq).2.2⟩;by_cases e0:mB g a=mB g b;{obtain⟨F,h1,h2,h3,h4⟩:=h.good a b ha hb hab e0;exact⟨F,wide F h1,h2,h3,h4⟩};·rcases k5 a b ha hb e with e1|⟨u,hu,v,hv,e1,e2⟩;{exact absurd e1 e0};have eu:=(hA.mem u p).1 hu;have ev:=(hA.mem v p).1 hv;have huv:u≠v:=(by rintro rfl;exact e0 (e1.symm.trans e2));have arm:∀z c,z<n->c<n->mB g z=mB g c->∃F:I4,(∀r q,F r q->r<n∧E r q∧Q q)∧(∀r q,F r q->∃r',r'≠r∧F r' q)∧(∀r q,F r q->r≠z->r≠c->∃q',q'≠q∧F r q')∧(z≠c->(∃q,F z q)∧(∃q,F c q)):=(by intro z c hz hc ezc;by_cases zc:z=c;{exact⟨fun _ _=>False,by simp,by simp,by simp,fun t=>absurd zc t⟩};·obtain⟨F,h1,h2,h3,h4⟩:=h.good z c hz hc zc ezc;exact⟨F,h1,h2.pt,h2.ring,fun _=>⟨h3,h4⟩⟩);obtain⟨F,f1,f2,f3,f4⟩:=arm u a eu.1 ha e1;obtain⟨G,g1,g2,g3,g4⟩:=arm v b ev.1 hb e2;refine⟨fun r q=>F r q∨G r q∨(q=p∧(r=u∨r=v)),?_,⟨?_,?_⟩,?_,?_⟩;{rintro r q(t|t|⟨rfl,rfl|rfl⟩);{exact wide F f1 r q t};{exact wide G g1 r q t};{exact⟨eu.1,eu.2,.inr rfl⟩};·exact⟨ev.1,ev.2,.inr rfl⟩};{rintro r q(t|t|⟨rfl,rfl|rfl⟩);{obtain⟨r',e,t'⟩:=f2 r q t;exact⟨r',e,.inl t'⟩};{obtain⟨r',e,t'⟩:=g2 r q t;exact⟨r',e,.inr (.inl t')⟩};{exact⟨v,dh huv,.inr (.inr ⟨rfl,.inr rfl⟩)⟩};·exact⟨u,huv,.inr (.inr ⟨rfl,.inl rfl⟩)⟩};{have atU:∀q,q≠p->∃q',q'≠q∧(F u q'∨G u q'∨(q'=p∧(u=u∨u=v))):=fun q hq=>⟨p,dh hq,.inr (.inr ⟨rfl,.inl rfl⟩)⟩;have atV:∀q,q≠p->∃q',q'≠q∧(F v q'∨G v q'∨(q'=p∧(v=u∨v=v))):=fun q hq=>⟨p,dh hq,.inr (.inr ⟨rfl,.inr rfl⟩)⟩;rintro r q(t|t|⟨rfl,rfl|rfl⟩)UZ hrb;{have hq:q≠p:=fun e=>hp (e▸(f1 r q t).2.2);by_cases ru:r=u;{subst ru;exact atU q hq};·obtain⟨q',e,t'⟩:=f3 r q t ru UZ;exact⟨q',e,.inl t'⟩};{have hq:q≠p:=fun e=>hp (e▸(g1 r q t).2.2);by_cases rv:r=v;{subst rv;exact atV q hq};·obtain⟨q',e,t'⟩:=g3 r q t rv hrb;exact⟨q',e,.inr (.inl t')⟩};{obtain⟨q',t'⟩:=(f4 UZ).1;exact⟨q',fun e=>hp (e▸(f1 r q' t').2.2),.inl t'⟩};·obtain⟨q',t'⟩:=(g4 hrb).1;exact⟨q',fun e=>hp (e▸(g1 r q' t').2.2),.inr (.inl t')⟩};{by_cases ua:u=a;{exact⟨p,.inr (.inr ⟨rfl,.inl ua.symm⟩)⟩};·obtain⟨q,t⟩:=(f4 ua).2;exact⟨q,.inl t⟩};·by_cases vb:v=b;{exact⟨p,.inr (.inr ⟨rfl,.inr vb.symm⟩)⟩};·obtain⟨q,t⟩:=(g4 vb).2;exact⟨q,.inr (.inl t)⟩
theorem Jd.core{n:Nat}{E:I4}{at_:jE->List Nat}(hA:At n E at_){Q:jE->Prop}{g:List Nat}(h:Jd n E Q g){p:jE}(hp:¬Q p)(hj:join g (at_ p)=none):∃F:I4,(∀r q,F r q->r<n∧E r q∧(Q q∨q=p))∧Core F∧∃r q,F r q:=by
 obtain⟨u,hu,v,hv,huv,e⟩:=(Gb hA p g h.len).2 hj;have eu:=(hA.mem u p).1 hu;have ev:=(hA.mem v p).1 hv;obtain⟨F,h1,h2,⟨qu,h3⟩,⟨qv,h4⟩⟩:=h.good u v eu.1 ev.1 huv e;have np:∀r q,F r q->q≠p:=fun r q t e=>hp (e▸(h1 r q t).2.2);refine⟨fun r q=>F r q∨(q=p∧(r=u∨r=v)),?_,⟨?_,?_⟩,u,p,.inr ⟨rfl,.inl rfl⟩⟩;{rintro r q(t|⟨rfl,rfl|rfl⟩);{exact⟨(h1 r q t).1,(h1 r q t).2.1,.inl (h1 r q t).2.2⟩};{exact⟨eu.1,eu.2,.inr rfl⟩};·exact⟨ev.1,ev.2,.inr rfl⟩};{rintro r q(t|⟨rfl,rfl|rfl⟩);{obtain⟨r',e,t'⟩:=h2.pt r q t;exact⟨r',e,.inl t'⟩};{exact⟨v,dh huv,.inr ⟨rfl,.inr rfl⟩⟩};·exact⟨u,huv,.inr ⟨rfl,.inl rfl⟩⟩};·rintro r q(t|⟨rfl,rfl|rfl⟩);{by_cases ru:r=u;{exact⟨p,dh (np r q t),.inr ⟨rfl,.inl ru⟩⟩};·by_cases rv:r=v;{exact⟨p,dh (np r q t),.inr ⟨rfl,.inr rv⟩⟩};·obtain⟨q',e,t'⟩:=h2.ring r q t ru rv;exact⟨q',e,.inl t'⟩};{exact⟨qu,np _ qu h3,.inl h3⟩};·exact⟨qv,np _ qv h4,.inl h4⟩
def Lb(l:Poly):I4:=fun r p=>place (lD l r) (qW p)=1
theorem sO (l : Poly) : At l.length (Lb l) (l7 l) where
  mem := by
    intro r p
    unfold l7 Lb
    simp
  nd := by
    intro p
    unfold l7
    exact List.Pairwise.filter _ (List.nodup_range)
theorem Jd.mono{n:Nat}{E:I4}{Q Q':jE->Prop}{g:List Nat}(h:Jd n E Q g)(k:∀p,Q p↔Q' p):Jd n E Q' g:=by
 have e:Q=Q':=funext fun p=>propext (k p);rw[←e];exact h
theorem Qj(l:Poly):∀(ps:List jE)(Q:jE->Prop)(g:List Nat),Jd l.length (Lb l) Q g->(∀p∈ps,¬Q p)->ps.Nodup->(y5 l ps g=true->∃F:I4,(∀r q,F r q->r<l.length∧Lb l r q∧(Q q∨q∈ps))∧Core F∧∃r q,F r q)∧(y5 l ps g=false->∃g',Jd l.length (Lb l) (fun q=>Q q∨q∈ps) g'):=by
 intro ps;induction ps with|nil=>intro Q g h _ _;refine⟨fun e=>?_,fun _=>⟨g,h.mono (by simp)⟩⟩;simp[y5]at e|cons p t ih=>intro Q g h hq hnd;have hp:=hq p (by simp);rw[b8]at hnd;cases hj:join g (l7 l p)with|none=>refine⟨fun _=>?_,fun e=>by simp[y5,hj]at e⟩;obtain⟨F,h1,h2,h3⟩:=h.core (sO l) hp hj;refine⟨F,fun r q t=>⟨(h1 r q t).1,(h1 r q t).2.1,?_⟩,h2,h3⟩;rcases(h1 r q t).2.2 with k|k;{exact .inl k};{exact .inr (by simp[k])}|some g'=>have h':=h.step (sO l) hp hj;have:=ih _ g' h' (by rintro q hq'(k|rfl);{exact hq q (by simp[hq']) k};·exact hnd.1 hq') hnd.2;have ew:y5 l (p::t) g=y5 l t g':=(by simp[y5,hj]);rw[ew];refine⟨fun e=>?_,fun e=>?_⟩;{obtain⟨F,h1,h2,h3⟩:=this.1 e;refine⟨F,fun r q t=>⟨(h1 r q t).1,(h1 r q t).2.1,?_⟩,h2,h3⟩;rcases(h1 r q t).2.2 with(k|k)|k;{exact .inl k};{exact .inr (by simp[k])};·exact .inr (by simp[k])};·obtain⟨g'',k⟩:=this.2 e;exact⟨g'',k.mono (by intro q;simp[or_assoc])⟩
theorem Br(l:Poly):∀(ps:List jE)(a:List jE),a.Nodup->(∀p∈a,1<(l7 l p).length)->(ps.foldl (rI l) a).Nodup∧∀q,q∈ps.foldl (rI l) a↔q∈a∨(q∈ps∧1<(l7 l q).length):=by
 intro ps;induction ps with|nil=>intro a h _;exact⟨h,by simp⟩|cons p t ih=>intro a h h1;rw[dP];by_cases c:¬(p∈a)∧1<(l7 l p).length;{rw[show rI l a p=a++[p]from ai c];have:=ih (a++[p]) (by rw[cA];exact⟨h,by simp,by intro x hx y hy;simp at hy;subst hy;rintro rfl;exact c.1 hx⟩) (by intro q hq;rcases aC.1 hq with hq|hq;{exact h1 q hq};·simp at hq;subst hq;exact c.2);refine⟨this.1,fun q=>?_⟩;rw[this.2 q];simp only[aC,aD,bB,iT,or_false];constructor;{rintro((k|rfl)|k);{exact .inl k};{exact .inr ⟨.inl rfl,c.2⟩};·exact .inr ⟨.inr k.1,k.2⟩};·rintro(k|⟨rfl|k,k2⟩);{exact .inl (.inl k)};{exact .inl (.inr rfl)};·exact .inr ⟨k,k2⟩};·rw[show rI l a p=a from ag c];have:=ih a h h1;refine⟨this.1,fun q=>?_⟩;rw[this.2 q];simp only[aD];constructor;{rintro(k|k);{exact .inl k};·exact .inr ⟨.inr k.1,k.2⟩};·rintro(k|⟨rfl|k,k2⟩);{exact .inl k};{by_cases hq:q∈a;{exact .inl hq};·exact absurd ⟨hq,k2⟩ c};·exact .inr ⟨k,k2⟩
theorem afH{n:Nat}{E:I4}{f:jE->List Nat}(hA:At n E f){p:jE}{a b:Nat}(ha:a∈f p)(hb:b∈f p)(hab:a≠b):1<(f p).length:=by match hf:f p with|[]=>rw[hf]at ha;cases ha|[x]=>rw[hf]at ha hb;simp at ha hb;exact absurd (ha.trans hb.symm) hab|x::y::t=>simp
theorem Jz{n a:Nat}(h:a<n):mB (List.range n) a=a:=by
 unfold mB;simp[az,cF h]
theorem Gc(l:Poly):way l=true↔∃F:I4,(∀r q,F r q->r<l.length∧Lb l r q∧q∈l.flatten)∧Core F∧∃r q,F r q:=by
 have ht:=Br l l.flatten [] fE (by simp);have h0:Jd l.length (Lb l) (fun _=>False) (List.range l.length):=(by refine⟨by simp,by simp,?_,?_⟩;{intro F hF x _ r p h;exact(hF r p h).2.2};·intro a b ha hb hab e;rw[Jz ha,Jz hb]at e;exact absurd e hab);have key:=Qj l (qz l) _ _ h0 (by simp) ht.1;constructor;{intro h;obtain⟨F,h1,h2,h3⟩:=key.1 h;refine⟨F,fun r q t=>⟨(h1 r q t).1,(h1 r q t).2.1,?_⟩,h2,h3⟩;rcases(h1 r q t).2.2 with k|k;{exact k.elim};·have:=(ht.2 q).1 k;simp only[iT,false_or]at this;exact this.1};·rintro⟨F,h1,h2,r,q,h3⟩;cases hw:way l with|true=>rfl|false=>exfalso;obtain⟨g,hg⟩:=key.2 hw;refine hg.no F ?_ 0 ⟨h2.pt,fun r p t _ _=>h2.ring r p t⟩ r q h3;intro r p t;obtain⟨r',e,t'⟩:=h2.pt r p t;have a1:=h1 r p t;have a2:=h1 r' p t';refine⟨a1.1,a1.2.1,.inr ?_⟩;refine(ht.2 p).2 (.inr ⟨a1.2.2,?_⟩);exact afH (sO l) (((sO l).mem r p).2 ⟨a1.1,a1.2.1⟩) (((sO l).mem r' p).2 ⟨a2.1,a2.2.1⟩) (dh e)
theorem M1(s t:jZ):lP s t=lP t s:=by
 have e1:(if kn s.1 t.1 then t.1 else s.1)=(if kn t.1 s.1 then s.1 else t.1):=(by rcases tI s.1 t.1 with h|h|h;{rw[ai h,ag (fun k=>ou h k)]};{rw[h]};·rw[ag (fun k=>ou h k),ai h]);have e2:(if kn t.2 s.2 then t.2 else s.2)=(if kn s.2 t.2 then s.2 else t.2):=(by rcases tI s.2 t.2 with h|h|h;{rw[ai h,ag (fun k=>ou h k)]};{rw[h]};·rw[ag (fun k=>ou h k),ai h]);unfold lP;simp only;rw[e1,e2]
theorem DB(a b c d:jE):meet a b c d=meet c d a b:=by
 unfold meet;simp only;generalize sg (cr a b c 1)=x;generalize sg (cr a b d 1)=y;generalize sg (cr c d a 1)=z;generalize sg (cr c d b 1)=u;rw[M1 (fwd a b)];have e1:(x=0∧y=0∧z=0∧u=0)↔(z=0∧u=0∧x=0∧y=0):=(by omega);have e2:(x*y>0∨z*u>0)↔(z*u>0∨x*y>0):=Or.comm;have e3:x*y*z*u=z*u*x*y:=(by grind);rw[e3];simp only[e1,e2]
theorem oJ(s t:jZ):kW s t=kW t s:=DB _ _ _ _
theorem Ez(s t:jZ):kM s t=kM t s:=by
 unfold kM;rw[oJ]
def qn:List jZ->Bool->jS->Int|[],i,_=>if i then 1 else-1|s::t,i,p=>if on s.1 s.2 p.1 p.2 then 0 else qn t (if MO s.1 s.2 p.1 p.2 then !i else i) p
def mW(r:Ring)(p:jS):Int:=qn (jG r) false p
def pl(k:Int):Int:=if k=0 then 1 else if k=1 then 2 else 0
theorem U0:∀(l:List jZ)(i:Bool)(p:jS),0<p.2->(∀s∈l,s.1≠s.2)->nQ l i p=pl (qn l i p)∧(qn l i p=0∨qn l i p=1∨qn l i p=-1):=by
 intro l;induction l with|nil=>intro i p _ _;cases i<;>simp[nQ,qn,pl]|cons s t ih=>intro i p hp hl;have hs:=hl s (by simp);have e:=sN (p:=p.1) (w:=p.2) hs hp;unfold nQ qn hasB;by_cases h:has s.1 s.2 p.1 p.2;{rw[ai (ah h),ai (e.1 h)];simp[pl]};·rw[aA h,ag (fun k=>h (e.2 k)),afD hp];simp only[dI,e7];exact ih _ p hp fun x hx=>hl x (by simp[hx])
def mO(r:Ring):Prop:=∀s∈jG r,s.1≠s.2
theorem B9{r:Ring}{p:jS}(hr:mO r)(hp:0<p.2):place r p=pl (mW r p)∧(mW r p=0∨mW r p=1∨mW r p=-1):=U0 _ _ _ hp hr
def U1:Int->List Ring->jS->Int|s,[],_=>s|s,r::t,p=>if mW r p=0∧0<=s then 0 else if mW r p=1 then-1 else U1 s t p
def U4:Poly->jS->Int|[],_=>0|r::t,p=>U1 (mW r p) t p
theorem M3:∀(t:List Ring)(s:Int)(f:Bool)(p:jS),0<p.2->(∀r∈t,mO r∧place r p≠1)->(s=1∨s=-1)->(f=true↔s=-1)->(oO t false f p=true↔U1 s t p=-1):=by
 intro t;induction t with|nil=>intro s f p _ _ _ hf;exact hf|cons r t ih=>intro s f p hp hr hs hf;obtain⟨hl,Qk⟩:=hr r (by simp);obtain⟨e1,e2⟩:=B9 hl hp;have ht:∀r∈t,mO r∧place r p≠1:=fun x hx=>hr x (by simp[hx]);unfold oO U1;rw[ag Qk];rcases e2 with e|e|e;{exfalso;rw[e]at e1;exact Qk e1};{rw[e]at e1;rw[ag (by omega),ai e];have e3:place r p=2:=e1;simp only[e3];have:∀(t:List Ring),(∀r∈t,mO r∧place r p≠1)->oO t false true p=true:=(by intro t;induction t with|nil=>intro _;rfl|cons r t ih=>intro h;unfold oO;rw[ag (h r (by simp)).2];simp only[Bool.true_or];exact ih fun x hx=>h x (by simp[hx]));simp[this t ht]};·rw[e]at e1;rw[ag (by omega),ag (by omega)];have e3:place r p=0:=e1;simp only[e3];have:=ih s f p hp ht hs hf;simpa using this
theorem ab8{l:Poly}{p:jS}(hp:0<p.2)(hne:l≠[])(hr:∀r∈l,mO r∧place r p≠1):free l p=true↔U4 l p=-1:=by cases l with|nil=>exact absurd rfl hne|cons r t=>obtain⟨hl,Qk⟩:=hr r (by simp);obtain⟨e1,e2⟩:=B9 hl hp;unfold free oO U4;rw[ag Qk];rcases e2 with e|e|e;{exfalso;rw[e]at e1;exact Qk e1};{rw[e]at e1;have e3:place r p=2:=e1;simp only[e3,e];exact M3 t 1 _ p hp (fun x hx=>hr x (by simp[hx])) (.inl rfl) (by simp)};·rw[e]at e1;have e3:place r p=0:=e1;simp only[e3,e];exact M3 t (-1) _ p hp (fun x hx=>hr x (by simp[hx])) (.inr rfl) (by simp)
theorem Yc(a b x y:jE):cr a b (j7 x y).1 2=cr a b x 1+cr a b y 1:=by
 unfold cr j7;grind
theorem Ql:∀(l:List jZ)(i:Bool)(p:jS),nQ l i p=1↔∃s∈l,has s.1 s.2 p.1 p.2:=by
 intro l;induction l with|nil=>intro i p;cases i<;>simp[nQ]|cons s t ih=>intro i p;unfold nQ hasB;by_cases h:has s.1 s.2 p.1 p.2;{rw[ai (ah h)];simp[h]};·rw[aA h];simp only[dI,e7];rw[ih];simp[h]
theorem jT{r:Ring}{p:jS}:place r p=1↔∃s∈jG r,has s.1 s.2 p.1 p.2:=Ql _ _ _
def Yd(a b m:jE):Prop:=has a b m 2∧m≠(a.1*2,a.2*2)∧m≠(b.1*2,b.2*2)
theorem Lc{a b m:jE}(hab:a≠b)(h:Yd a b m):0<dt a b m 2∧dt a b m 2<kk a b*2:=by
 have hk:=lI hab;obtain⟨h0,h1,h2⟩:=(sN hab (by omega)).1 h.1;have e1:dt a b m 2*(b.1-a.1)=(m.1-a.1*2)*kk a b:=(by unfold cr at h0;unfold dt kk;grind);have e2:dt a b m 2*(b.2-a.2)=(m.2-a.2*2)*kk a b:=(by unfold cr at h0;unfold dt kk;grind);have z:∀t:Int,0=t*kk a b->t=0:=(by intro t h;rcases aL.1 h.symm with h|h;{exact h};·omega);constructor;{rcases eO h1 with g|g;{exact g};·exfalso;rw[←g,dA]at e1 e2;have:=z _ e1;have:=z _ e2;exact h.2.1 (cJ (by simp only;omega) (by simp only;omega))};·rcases eO h2 with g|g;{exact g};·exfalso;have f1:0=(m.1-b.1*2)*kk a b:=(by rw[g]at e1;grind);have f2:0=(m.2-b.2*2)*kk a b:=(by rw[g]at e2;grind);have:=z _ f1;have:=z _ f2;exact h.2.2 (cJ (by simp only;omega) (by simp only;omega))
theorem weights{p q X Y:Int}(hp:0<p)(hq:0<q)(e:p*X+q*Y=0):(X=0∧Y=0)∨(0<X∧Y<0)∨(X<0∧0<Y):=by
 rcases b7 X 0 with h|h|h;{right;right;refine⟨h,?_⟩;have:=iz hp h;rcases b6 0 Y with g|g;{exact g};·have:=Int.mul_nonpos_of_nonneg_of_nonpos (bJ hq) g;omega};{left;refine⟨h,?_⟩;rw[h,bD,jf]at e;rcases aL.1 e with g|g;{omega};·exact g};·right;left;refine⟨h,?_⟩;have:=jw hp h;rcases b6 Y 0 with g|g;{exact g};·have:=fR (bJ hq) g;omega
theorem JA{a b c d m:jE}(hcd:c≠d)(h1:cr a b m 2=0)(h2:Yd c d m):(cr a b c 1=0∧cr a b d 1=0)∨(0<cr a b c 1∧cr a b d 1<0)∨(cr a b c 1<0∧0<cr a b d 1):=by
 obtain⟨g1,g2⟩:=Lc hcd h2;have h0:=h2.1.1;have e1:dt c d m 2*(d.1-c.1)=(m.1-c.1*2)*kk c d:=(by unfold cr at h0;unfold dt kk;grind);have e2:dt c d m 2*(d.2-c.2)=(m.2-c.2*2)*kk c d:=(by unfold cr at h0;unfold dt kk;grind);refine weights (p:=kk c d*2-dt c d m 2) (q:=dt c d m 2) (by omega) g1 ?_;generalize dt c d m 2=T at*;generalize kk c d=K at*;unfold cr at*;grind
theorem sR{a b c d:jE}(hab:a≠b)(h1:cr a b c 1=0)(h2:cr a b d 1=0):cr c d a 1=0∧cr c d b 1=0:=by
 have hk:=lI hab;have z:∀t:Int,kk a b*t=0->t=0:=(by intro t h;rcases aL.1 h with h|h;{omega};·exact h);constructor;{apply z;unfold cr at*;unfold kk;grind};·apply z;unfold cr at*;unfold kk;grind
theorem Qm(a b x:jE):dt a b (x.1*2,x.2*2) 2=2*pos a b x:=by
 unfold dt pos dt;grind
theorem M4{a b c d m:jE}(hcd:c≠d)(h2:Yd c d m):(2*pos a b c<dt a b m 2∧dt a b m 2<2*pos a b d)∨(2*pos a b d<dt a b m 2∧dt a b m 2<2*pos a b c)∨pos a b c=pos a b d:=by
 obtain⟨g1,g2⟩:=Lc hcd h2;have h0:=h2.1.1;have hk:=lI hcd;have e1:dt c d m 2*(d.1-c.1)=(m.1-c.1*2)*kk c d:=(by unfold cr at h0;unfold dt kk;grind);have e2:dt c d m 2*(d.2-c.2)=(m.2-c.2*2)*kk c d:=(by unfold cr at h0;unfold dt kk;grind);have e:dt c d m 2*(pos a b d-pos a b c)=kk c d*(dt a b m 2-2*pos a b c):=(by generalize dt c d m 2=T at*;generalize kk c d=K at*;unfold pos dt;grind);have e':(kk c d*2-dt c d m 2)*(pos a b d-pos a b c)=kk c d*(2*pos a b d-dt a b m 2):=(by have:(kk c d*2-dt c d m 2)*(pos a b d-pos a b c)=kk c d*2*(pos a b d-pos a b c)-dt c d m 2*(pos a b d-pos a b c):=(by grind);rw[this,e];grind);have g3:0<kk c d*2-dt c d m 2:=(by omega);have Tf:∀{p q A B:Int},0<p->0<q->p*A=q*B->(0<A->0<B)∧(A<0->B<0):=(by intro p q A B hp hq e;constructor;{intro hA;have:=jw hp hA;rw[e]at this;exact Int.pos_of_mul_pos_right this hq};·intro hA;have:=iz hp hA;rw[e]at this;rcases b6 B 0 with g|g;{exact g};·have:=fR (bJ hq) g;omega);rcases b7 (pos a b d-pos a b c) 0 with h|h|h;{have k1:=(Tf g1 hk e).2 h;have k2:=(Tf g3 hk e').2 h;right;left;omega};{right;right;omega};·have k1:=(Tf g1 hk e).1 h;have k2:=(Tf g3 hk e').1 h;left;omega
theorem Ah{a b c d m:jE}(hab:a≠b)(hcd:c≠d)(h1:Yd a b m)(h2:Yd c d m):meet a b c d=2∨meet a b c d=3:=by
 have s1:=JA hcd h1.1.1 h2;have s2:=JA hab h2.1.1 h1;have l1:=sR (c:=c) (d:=d) hab;have l2:=sR (c:=a) (d:=b) hcd;by_cases hz:cr a b c 1=0;{have hd:cr a b d 1=0:=(by omega);obtain⟨z1,z2⟩:=l1 hz hd;right;have hm:meet a b c d=lP (fwd a b) (fwd c d):=(by unfold meet;simp[hz,hd,z1,z2,sg]);rw[hm];obtain⟨p1,p2⟩:=Lc hab h1;have hb:=M4 (a:=a) (b:=b) hcd h2;have hne:pos a b c≠pos a b d:=fun e=>hcd (tJ hab hz hd e);rw[B6 hab hcd hz hd];have:count (kk a b) (min (pos a b c) (pos a b d)) (max (pos a b c) (pos a b d))=2:=(by unfold count;rw[ag (by omega),ag (by omega)]);simp[this]};·left;have t2:¬(cr c d a 1=0∧cr c d b 1=0):=fun e=>hz (l2 e.1 e.2).1;have sp:∀{n:Int},0<n->sg n=1:=fun h=>(by unfold sg;rw[ai h]);have sn:∀{n:Int},n<0->sg n=-1:=fun h=>(by unfold sg;rw[ag (by omega),ai h]);rcases s1 with e|⟨x1,y1⟩|⟨x1,y1⟩;{exact absurd e.1 hz};{rcases s2 with e|⟨z1,u1⟩|⟨z1,u1⟩;{exact absurd e t2};{unfold meet;simp[sp x1,sn y1,sp z1,sn u1]};·unfold meet;simp[sp x1,sn y1,sn z1,sp u1]};·rcases s2 with e|⟨z1,u1⟩|⟨z1,u1⟩;{exact absurd e t2};{unfold meet;simp[sn x1,sp y1,sp z1,sn u1]};·unfold meet;simp[sn x1,sp y1,sn z1,sp u1]
theorem Fv{a b:jE}(hab:a≠b){rings:Poly}{o:Ring}(ho:o∈rings)(hl:mO o){m:jS}(hm:m∈mJ (a,b) rings)(hx:∀t∈jG o,kM (a,b) t=false):place o m≠1:=by
 intro h1;obtain⟨y,z,hc,rfl⟩:=(qC hab rings m).1 hm;obtain⟨t,ht,hh⟩:=jT.1 h1;have hh':has t.1 t.2 (j7 y z).1 2:=hh;have py:=mh hab (kZ hc.cx);have pz:=mh hab (kZ hc.cy);have hlt:=hc.lt;have ep:dt a b (j7 y z).1 2=pos a b y+pos a b z:=(by unfold j7 pos dt;grind);have I5:has a b (j7 y z).1 2:=(by rw[sN hab (by omega)];refine⟨?_,by omega,by omega⟩;have:=Yc a b y z;rw[this,(kZ hc.cx).1,(kZ hc.cy).1];rfl);have i1:Yd a b (j7 y z).1:=(by refine⟨I5,?_,?_⟩;{intro e;have:=Qm a b a;rw[←e,ep,q9]at this;omega};·intro e;have:=Qm a b b;rw[←e,ep,tQ]at this;omega);have aeF:∀c,c∈o->(j7 y z).1≠(c.1*2,c.2*2):=(by intro c P6 e;have d2:=Qm a b c;rw[←e,ep]at d2;have hcut:Cut a b rings.flatten c:=(by refine .inr (.inr ⟨bh.2 ⟨o,ho,P6⟩,?_⟩);rw[sN hab (by omega)];have g0:cr a b (c.1*2,c.2*2) 2=0:=e▸I5.1;refine⟨?_,?_,?_⟩;{unfold cr at*;grind};{show 0<=pos a b c;omega};·show pos a b c<=_;omega);exact hc.no c hcut ⟨by omega,by omega⟩);have i2:Yd t.1 t.2 (j7 y z).1:=⟨hh',aeF _ (kJ ht).1,aeF _ (kJ ht).2⟩;have:=Ah hab (hl t ht) i1 i2;have hf:=hx t ht;unfold kM kW at hf;simp only[cZ,dr]at hf
 rcases this with e|e;{exact hf.1 e};·exact hf.2 e
def vh(r:Ring):Bool:=anyI (r.length-1) fun i=>anyI i fun j=>decide (jD r i=jD r j)
def uk(n i j:Nat):Bool:=decide (j+1=i)||(decide (j=0)&&decide (i+1=n))
def qX(next:Bool)(k:Int):Bool:=(next&&decide (k≠1))||(!next&&decide (k≠0))
def EA(r:Ring):Bool:=anyI (r.length-1) fun i=>anyI i fun j=>qX (uk (r.length-1) i j) (common (jD r i) (jD r (i+1)) (jD r j) (jD r (j+1))).1
def rJ(r:Ring):Bool:=!(vh r||EA r)
def yd(s t:jZ):Bool:=decide ((common s.1 s.2 t.1 t.2).1=2)||(common s.1 s.2 t.1 t.2).2
def og(a b:Ring):Bool:=!((jG a).any fun s=>(jG b).any fun t=>yd s t)
def uG(r:Ring)(q:Poly)(k:Int):Bool:=!((jG r).any fun s=>(Bp s.1 s.2 q).any fun m=>decide (U4 q m≠k))
structure Shut(r:Ring):Prop where
 len:4<=r.length
 eq:jD r 0=jD r (r.length-1)
theorem jM{r:Ring}{i:Nat}(h:i<r.length):r[i]?=some (jD r i):=by
 unfold jD;rw[az,aI h];rfl
theorem Fx{r:Ring}{i:Nat}(h:i+1<r.length):IZ (jG r) i=(jD r i,jD r (i+1)):=by
 unfold IZ;rw[az,lp (jM (by omega)) (jM h)];rfl
theorem pE{r:Ring}{s:jZ}(h:s∈jG r):∃i,i+1<r.length∧s=(jD r i,jD r (i+1)):=by
 obtain⟨i,hi,e⟩:=ff h;rw[kH]at hi;have hi':i+1<r.length:=(by omega);refine⟨i,hi',?_⟩;have:=lp (jM (show i<r.length by omega)) (jM hi');rw[aI (by rw[kH];exact hi)]at this;rw[←e];exact aO this
theorem mS{r:Ring}:twice r=true↔∃i j,1<=i∧i<j∧j<r.length∧jD r i=jD r j:=by
 unfold twice;rw[lJ];constructor;{rintro⟨i,hi,h⟩;simp only[bT,bF,lJ]at h;obtain⟨h1,j,hj,h2,h3⟩:=h;rw[jM hi,jM hj]at h3;exact⟨i,j,h1,h2,hj,aO h3⟩};·rintro⟨i,j,h1,h2,h3,h4⟩;refine⟨i,by omega,?_⟩;simp only[bT,bF,lJ];exact⟨h1,j,h3,h2,by rw[jM (show i<r.length by omega),jM h3,h4]⟩
theorem Qn{r:Ring}:vh r=true↔∃i j,j<i∧i<r.length-1∧jD r i=jD r j:=by
 unfold vh;rw[lJ];constructor;{rintro⟨i,hi,h⟩;simp only[lJ,bF]at h;obtain⟨j,hj,e⟩:=h;exact⟨i,j,hj,hi,e⟩};·rintro⟨i,j,h1,h2,h3⟩;refine⟨i,h2,?_⟩;simp only[lJ,bF];exact⟨j,h1,h3⟩
theorem oZ{a b:Bool}(h:a=true↔b=true):a=b:=by cases a<;>cases b<;>simp_all
theorem M5{r:Ring}(h:Shut r):twice r=vh r:=by
 apply oZ;rw[mS,Qn];have h4:=h.len;constructor;{rintro⟨i,j,h1,h2,h3,e⟩;by_cases hj:j=r.length-1;{exact⟨i,0,by omega,by omega,by rw[h.eq,e,hj]⟩};·exact⟨j,i,h2,by omega,e.symm⟩};·rintro⟨i,j,h1,h2,e⟩;by_cases hj:j=0;{exact⟨i,r.length-1,by omega,by omega,by omega,by rw[e,hj,h.eq]⟩};·exact⟨j,i,by omega,h1,by omega,e.symm⟩
theorem Ld{r:Ring}(h:Shut r)(ht:twice r=false):mO r:=by
 intro s hs e;obtain⟨i,hi,rfl⟩:=pE hs;have h4:=h.len;have:twice r=true:=(by rw[mS];by_cases h0:i=0;{subst h0;exact⟨1,r.length-1,by omega,by omega,by omega,by rw[←h.eq];exact e.symm⟩};·exact⟨i,i+1,by omega,by omega,hi,e⟩);rw[ht]at this;cases this
theorem afI{A B C:Prop}[Decidable A][Decidable B][Decidable C]{k:Int}{d:Bool}(h:(if A then(if B then((0:Int),false)else(k,false))else if C then(0,false)else(1,d)).2=true):(if A then(if B then((0:Int),false)else(k,false))else if C then(0,false)else(1,d)).1=1:=by by_cases hA:A<;>by_cases hB:B<;>by_cases hC:C<;>simp_all
theorem afJ{A B C:Prop}[Decidable A][Decidable B][Decidable C]{k:Int}{d:Bool}(hk:k=0∨k=1∨k=2):(if A then(if B then((0:Int),false)else(k,false))else if C then(0,false)else(1,d)).1=0∨(if A then(if B then((0:Int),false)else(k,false))else if C then(0,false)else(1,d)).1=1∨(if A then(if B then((0:Int),false)else(k,false))else if C then(0,false)else(1,d)).1=2:=by by_cases hA:A<;>by_cases hB:B<;>by_cases hC:C<;>simp_all
theorem Ca{a b c d:jE}(h:(common a b c d).2=true):(common a b c d).1=1:=afI h
theorem count_range(k p q:Int):count k p q=0∨count k p q=1∨count k p q=2:=by
 unfold count;split;{simp};·split<;>simp
theorem Cb(a b c d:jE):(common a b c d).1=0∨(common a b c d).1=1∨(common a b c d).1=2:=afJ (count_range _ _ _)
theorem qD{a b c d:jE}(h:cr a b c 1=0∨cr a b d 1=0):meet a b c d≠2:=by
 have hl:∀s t,lP s t≠2:=(by intro s t;unfold lP;simp only;split;{omega};·split<;>omega);unfold meet;simp only;split;{exact hl _ _};·split;{omega};·have:sg (cr a b c 1)*sg (cr a b d 1)*sg (cr c d a 1)*sg (cr c d b 1)=0:=(by rcases h with h|h;{rw[h];simp[sg]};·rw[h];simp[sg]);rw[ai this];omega
theorem Ye{s t:jZ}(hs:s.1≠s.2)(ht:t.1≠t.2):kM s t=yd s t:=by
 unfold kM yd kW;rw[Ey hs ht];have hr:=Cb s.1 s.2 t.1 t.2;have hc:=Ca (a:=s.1) (b:=s.2) (c:=t.1) (d:=t.2);unfold how;cases h2:(common s.1 s.2 t.1 t.2).2 with|true=>rw[hc h2];simp|false=>rcases hr with e|e|e<;>rw[e]<;>simp
theorem afK{a b c d:jE}(hab:a≠b)(hcd:c≠d){next:Bool}(hn:next=true->cr a b c 1=0∨cr a b d 1=0):qX next (common a b c d).1=decide (meet a b c d≠if next then 1 else 0):=by
 have hm:=Ey hab hcd;have hr:=Cb a b c d;have hc:=Ca (a:=a) (b:=b) (c:=c) (d:=d);have hs:=qD (a:=a) (b:=b) (c:=c) (d:=d);unfold qX;cases h2:(common a b c d).2 with|true=>have e:=hc h2;have hm2:meet a b c d=2:=(by rw[hm];unfold how;rw[h2,e];simp);(cases next with|true=>exact absurd hm2 (hs (hn rfl))|false=>rw[hm2,e];simp)|false=>rcases hr with e|e|e;{have hm2:meet a b c d=0:=(by rw[hm];unfold how;rw[h2,e];simp);cases next<;>simp[hm2,e]};{have hm2:meet a b c d=1:=(by rw[hm];unfold how;rw[h2,e];simp);cases next<;>simp[hm2,e]};·have hm2:meet a b c d=3:=(by rw[hm];unfold how;rw[h2,e];simp);cases next<;>simp[hm2,e]
theorem ab9{r:Ring}(h:Shut r)(hl:mO r):pS r=EA r:=by
 have h4:=h.len;have key:∀i j,j<i->i<r.length-1->qX (uk (r.length-1) i j) (common (jD r i) (jD r (i+1)) (jD r j) (jD r (j+1))).1=decide (kW (IZ (jG r) j) (IZ (jG r) i)≠ri (jG r).length j i):=(by intro i j hji hi;have e1:=Fx (r:=r) (i:=i) (by omega);have e2:=Fx (r:=r) (i:=j) (by omega);have l1:jD r i≠jD r (i+1):=hl (jD r i,jD r (i+1)) (bN (lp (jM (by omega)) (jM (by omega))));have l2:jD r j≠jD r (j+1):=hl (jD r j,jD r (j+1)) (bN (lp (jM (by omega)) (jM (by omega))));rw[e1,e2,oJ];unfold kW;simp only;rw[afK l1 l2 ?_];{have ew:(if uk (r.length-1) i j=true then(1:Int)else 0)=ri (jG r).length j i:=(by unfold uk ri;rw[kH];by_cases c:j+1=i∨(j=0∧i+1=r.length-1);{rw[ai c,ai];simpa using c};·rw[ag c,ag];simpa using c);rw[ew]};·intro hn;unfold uk at hn;simp only[di,bT,bF]at hn;rcases hn with e|⟨e,e'⟩;{right;rw[e];exact tR _ _};·left;subst e;rw[h.eq,show r.length-1=i+1 by omega];exact sJ _ _);apply oZ;unfold pS EA;rw[lJ,lJ,kH];constructor;·rintro⟨j,hj,k⟩;rw[lJ]at k;obtain⟨i,hi,k⟩:=k;refine⟨j,hj,?_⟩;rw[lJ];refine⟨i,hi,?_⟩;rw[key j i hi hj,kH];exact k
 ·rintro⟨j,hj,k⟩;rw[lJ]at k;obtain⟨i,hi,k⟩:=k;refine⟨j,hj,?_⟩;rw[lJ];refine⟨i,hi,?_⟩;rw[key j i hi hj,kH]at k;exact k
theorem Yf{r:Ring}(h:Shut r):(twice r||pS r)=(vh r||EA r):=by
 rw[M5 h];cases ht:vh r with|true=>rfl|false=>rw[ab9 h (Ld h (by rw[M5 h];exact ht))]
def d1(m:jL):Bool:=m.any fun l=>l.any fun r=>!(rJ r)
def d2(m:jL):Bool:=m.any fun l=>anyI l.length fun i=>anyI l.length fun j=>decide (j≠i)&&!(og (lD l i) (lD l j))
def nestD(j:Nat):Int:=if j=0 then 1 else-1
def d3(m:jL):Bool:=m.any fun l=>anyI l.length fun i=>decide (1<=i)&&anyI l.length fun j=>decide (j≠i)&&!(uG (lD l i) [lD l j] (nestD j))
def d5(m:jL):Bool:=anyI m.length fun p=>(kY m p).any fun r=>anyI m.length fun k=>decide (k≠p)&&((kY m k).any (fun s=>!(og r s))||!(uG r (kY m k) (-1)))
def ye(l:Poly):Prop:=∃F:I4,(∀r q,F r q->r<l.length∧mW (lD l r) (qW q)=0∧q∈l.flatten)∧Core F∧∃r q,F r q
structure Good(m:jL):Prop where
 ne:∀l∈m,l≠[]
 shut:∀l∈m,∀r∈l,Shut r
theorem qo{m:jL}(h:Pl.wrong m=0):Good m:=by
 have hb:m.any Pl.tP=false:=(by unfold Pl.wrong at h;split at h;{omega};·split at h;{omega};·rename_i k;simpa using k);have one:∀l∈m,Pl.tP l=false:=(by intro l hl;cases hx:Pl.tP l with|false=>rfl|true=>rw[aG.2 ⟨l,hl,hx⟩]at hb;cases hb);refine⟨fun l hl e=>?_,fun l hl r hr=>?_⟩;{have:=one l hl;unfold Pl.tP at this;rw[e]at this;simp at this};·have:=one l hl;unfold Pl.tP at this;simp only[cZ]at this;have wV:Pl.wh r=false:=(by cases hx:Pl.wh r with|false=>rfl|true=>have e:Pl.F4 l=true:=aG.2 ⟨r,hr,hx⟩;rw[e]at this;cases this.2);unfold Pl.wh at wV;simp only[cZ,dr,Bool.not_eq_false',bF]at wV;have h4:4<=r.length:=(by omega);refine⟨h4,?_⟩;have e:=wV.2;rw[fU,fG,jM (by omega),jM (by omega)]at e;exact aO e
theorem jY{l:Poly}{i:Nat}(h:i<l.length):lD l i∈l:=by
 unfold lD;rw[az,aI h];simp
theorem jR{m:jL}{i:Nat}(h:i<m.length):kY m i∈m:=by
 unfold kY;rw[az,aI h];simp
theorem any_congr{α:Type}{l:List α}{f g:α->Bool}(h:∀x∈l,f x=g x):l.any f=l.any g:=by induction l with|nil=>rfl|cons a t ih=>rw[List.any_cons,List.any_cons,h a (by simp),ih fun x hx=>h x (by simp[hx])]
theorem oK{n:Nat}{f g:Nat->Bool}(h:∀i,i<n->f i=g i):anyI n f=anyI n g:=any_congr fun x hx=>h x (aU.1 hx)
theorem ai9{m:jL}(h:Good m):oC 1 m=d1 m:=by
 unfold oC d1;refine any_congr fun l hl=>?_;unfold pH simple;simp only[fT,fk];refine any_congr fun r hr=>?_;rw[Yf (h.shut l hl r hr)];unfold rJ;simp
theorem Yg{m:jL}(h:Good m)(h1:oC 1 m=false):∀l∈m,∀r∈l,mO r:=by
 intro l hl r hr;have:(twice r||pS r)=false:=(by cases hx:(twice r||pS r)with|false=>rfl|true=>have:oC 1 m=true:=(by unfold oC;refine aG.2 ⟨l,hl,?_⟩;unfold pH simple;simp only[fT,fk];exact aG.2 ⟨r,hr,hx⟩);rw[h1]at this;cases this);rw[cZ]at this;exact Ld (h.shut l hl r hr) this.1
theorem DC{a b:Ring}(ha:mO a)(hb:mO b):og a b=!(jU a b):=by
 unfold og jU;congr 1;refine any_congr fun s hs=>any_congr fun t ht=>?_;rw[Ye (ha s hs) (hb t ht)]
theorem Bs(a b:Ring):jU a b=jU b a:=by
 apply oZ;unfold jU;simp only[aG];constructor;{rintro⟨s,hs,t,ht,h⟩;exact⟨t,ht,s,hs,by rw[Ez];exact h⟩};·rintro⟨s,hs,t,ht,h⟩;exact⟨t,ht,s,hs,by rw[Ez];exact h⟩
theorem Yh{n:Nat}{f:Nat->Nat->Bool}(hs:∀i j,f i j=f j i):(anyI n fun j=>anyI j fun i=>f i j)=anyI n fun i=>anyI n fun j=>decide (j≠i)&&f i j:=by
 apply oZ;simp only[lJ,bT,bF];constructor;{rintro⟨j,hj,i,hi,h⟩;exact⟨i,by omega,j,hj,by omega,h⟩};·rintro⟨i,hi,j,hj,hne,h⟩;rcases bK i j with k|k;{exact⟨j,hj,i,k,h⟩};·exact⟨i,hi,j,by omega,by rw[hs];exact h⟩
theorem ai'{m:jL}(hl:∀l∈m,∀r∈l,mO r):oC 2 m=d2 m:=by
 unfold oC d2;refine any_congr fun l h=>?_;unfold pH touch;simp only[fk,fT];rw[ag (by decide),fk,Yh (f:=fun i j=>jU (lD l i) (lD l j)) (fun i j=>Bs _ _)];refine oK fun i hi=>oK fun j hj=>?_;rw[DC (hl l h _ (jY hi)) (hl l h _ (jY hj)),fk]
theorem aeG{s:jZ}{q:Poly}{m:jS}(hs:s.1≠s.2)(h:m∈mJ s q):m.2=2:=by
 obtain⟨y,z,-,rfl⟩:=(qC hs q m).1 h;rfl
theorem ab'{r o:Ring}(hr:mO r)(ho:mO o){k k':Int}(hk:(k=1∧k'=2)∨(k=-1∧k'=0)):lies r o k'=uG r [o] k:=by
 unfold lies uG;congr 1;refine any_congr fun s hs=>?_;apply oZ;simp only[aG,bF];have MF:=hr s hs;have one:∀m:jS,m∈mJ s [o]->(place o m≠k'↔U4 [o] m≠k):=(by intro m hm;have hw:=aeG MF hm;obtain⟨e1,e2⟩:=B9 (p:=m) ho (by omega);show place o m≠k'↔mW o m≠k;rw[e1];unfold pl;rcases e2 with e|e|e<;>rw[e]<;>rcases hk with⟨rfl,rfl⟩|⟨rfl,rfl⟩<;>simp);constructor;{rintro⟨m,hm,h⟩;exact⟨m,(Ag MF _ m).1 hm,(one m hm).1 h⟩};·rintro⟨m,hm,h⟩;have hm':=(Ag MF _ m).2 hm;exact⟨m,hm',(one m hm').2 h⟩
theorem aja{m:jL}(hl:∀l∈m,∀r∈l,mO r):oC 3 m=d3 m:=by
 unfold oC d3;refine any_congr fun l h=>?_;unfold pH nested;rw[ag (by decide),ag (by decide),ai rfl,fk];refine oK fun i hi=>?_;congr 1;refine oK fun j hj=>?_;rw[ab' (hl l h _ (jY hi)) (hl l h _ (jY hj)) (k:=nestD j) (k':=qj j) (by unfold nestD qj;split<;>simp)];congr 1;exact bI.2 ⟨fun e=>dh e,fun e=>dh e⟩
theorem acd{l:Poly}(hl:∀r∈l,mO r):way l=true↔ye l:=by
 rw[Gc];have e:∀r p,r<l.length->(Lb l r p↔mW (lD l r) (qW p)=0):=(by intro r p hr;obtain⟨e1,e2⟩:=B9 (r:=lD l r) (p:=qW p) (hl _ (jY hr)) (by show(0:Int)<1;omega);unfold Lb;rw[e1];unfold pl;rcases e2 with e|e|e<;>rw[e]<;>simp);constructor;{rintro⟨F,h1,h2⟩;exact⟨F,fun r q t=>⟨(h1 r q t).1,(e r q (h1 r q t).1).1 (h1 r q t).2.1,(h1 r q t).2.2⟩,h2⟩};·rintro⟨F,h1,h2⟩;exact⟨F,fun r q t=>⟨(h1 r q t).1,(e r q (h1 r q t).1).2 (h1 r q t).2.1,(h1 r q t).2.2⟩,h2⟩
theorem JB{a b:Poly}(hb0:b≠[])(ha:∀r∈a,mO r)(hb:∀r∈b,mO r)(hx:mH a b=false):enters a b=a.any fun r=>!(uG r b (-1)):=by
 unfold enters;refine any_congr fun r hr=>?_;unfold uG;rw[fk];refine any_congr fun s hs=>?_;have MF:=ha r hr s hs;have off:∀m∈mJ s b,∀o∈b,place o m≠1:=(by intro m hm o ho;refine Fv MF ho (hb o ho) hm fun t ht=>?_;cases hc:kM (s.1,s.2) t with|false=>rfl|true=>have:mH a b=true:=(by unfold mH;refine aG.2 ⟨r,hr,aG.2 ⟨o,ho,?_⟩⟩;unfold jU;exact aG.2 ⟨s,hs,aG.2 ⟨t,ht,hc⟩⟩);rw[hx]at this;cases this);have one:∀m∈mJ s b,(free b m=false↔U4 b m≠-1):=(by intro m hm;have hw:=aeG MF hm;have:=ab8 (l:=b) (p:=m) (by omega) hb0 fun r hr=>⟨hb r hr,off m hm r hr⟩;constructor;{intro e e2;rw[this.2 e2]at e;cases e};·intro e;cases hf:free b m with|false=>rfl|true=>exact absurd (this.1 hf) e);apply oZ;simp only[aG,iM,bF];constructor;{rintro⟨m,hm,h⟩;exact⟨m,(Ag MF _ m).1 hm,(one m hm).1 h⟩};·rintro⟨m,hm,h⟩;have hm':=(Ag MF _ m).2 hm;exact⟨m,hm',(one m hm').2 h⟩
def half(a b:Poly):Bool:=a.any fun r=>b.any (fun s=>!(og r s))||!(uG r b (-1))
theorem ace{a b:Poly}(ha0:a≠[])(hb0:b≠[])(ha:∀r∈a,mO r)(hb:∀r∈b,mO r):(mH a b||enters a b||enters b a)=(half a b||half b a):=by
 have hs:mH a b=mH b a:=(by apply oZ;unfold mH;simp only[aG];constructor;{rintro⟨r,hr,o,ho,h⟩;exact⟨o,ho,r,hr,by rw[Bs];exact h⟩};·rintro⟨r,hr,o,ho,h⟩;exact⟨o,ho,r,hr,by rw[Bs];exact h⟩);have pt:∀{a b:Poly},(∀r∈a,mO r)->(∀r∈b,mO r)->half a b=(mH a b||a.any fun r=>!(uG r b (-1))):=(by intro a b ha hb;apply oZ;unfold half mH;simp only[aG,di];constructor;{rintro⟨r,hr,⟨s,hs,h⟩|h⟩;{rw[DC (ha r hr) (hb s hs),fk]at h;exact .inl ⟨r,hr,s,hs,h⟩};·exact .inr ⟨r,hr,h⟩};·rintro(⟨r,hr,s,hs,h⟩|⟨r,hr,h⟩);{exact⟨r,hr,.inl ⟨s,hs,by rw[DC (ha r hr) (hb s hs),fk];exact h⟩⟩};·exact⟨r,hr,.inr h⟩);rw[pt ha hb,pt hb ha,←hs];cases hx:mH a b with|true=>rfl|false=>rw[JB hb0 ha hb hx,JB ha0 hb ha (hs▸hx)];simp
theorem ajb{m:jL}(hg:Good m)(hl:∀l∈m,∀r∈l,mO r):od m=d5 m:=by
 have e1:od m=anyI m.length fun j=>anyI j fun i=>(half (kY m i) (kY m j)||half (kY m j) (kY m i)):=(by unfold od;refine oK fun j hj=>oK fun i hi=>?_;exact ace (hg.ne _ (jR (by omega))) (hg.ne _ (jR hj)) (hl _ (jR (by omega))) (hl _ (jR hj)));rw[e1];apply oZ;unfold d5 half;simp only[lJ,aG,bT,bF,di];constructor;{rintro⟨j,hj,i,hi,⟨r,hr,h⟩|⟨r,hr,h⟩⟩;{exact⟨i,by omega,r,hr,j,hj,by omega,h⟩};·exact⟨j,hj,r,hr,i,by omega,by omega,h⟩};·rintro⟨p,hp,r,hr,k,hk,hne,h⟩;rcases bK p k with g|g;{exact⟨k,hk,p,g,.inl ⟨r,hr,h⟩⟩};·exact⟨p,hp,k,by omega,.inr ⟨r,hr,h⟩⟩
end Vd
def tK(A:Int)(u:jE):Prop:=(-A<=u.1∧u.1<=A)∧-A<=u.2∧u.2<=A
theorem pI{p:jE}(h:Vd.Cd p):tK 32768 p:=by
 unfold Vd.Cd at h;unfold tK;omega
theorem mC{A B:Int}{u:jE}(h:tK A u)(k:A<=B):tK B u:=by
 unfold tK at*;omega
namespace Vd
theorem pp{x y:Int}(hx:0<x)(hy:0<y):0<x*y:=jw hx hy
theorem pn{x y:Int}(hx:0<x)(hy:y<0):x*y<0:=iz hx hy
theorem np{x y:Int}(hx:x<0)(hy:0<y):x*y<0:=iy hx hy
theorem Th{x y:Int}(hx:x<0)(hy:y<0):0<x*y:=Int.mul_pos_of_neg_of_neg hx hy
theorem p0{x y:Int}(hx:0<=x)(hy:0<=y):0<=x*y:=fR hx hy
theorem m0{x y:Int}(hx:0<=x)(hy:y<=0):x*y<=0:=Int.mul_nonpos_of_nonneg_of_nonpos hx hy
theorem n0{x y:Int}(hx:x<=0)(hy:0<=y):x*y<=0:=Int.mul_nonpos_of_nonpos_of_nonneg hx hy
theorem q0{x y:Int}(hx:x<=0)(hy:y<=0):0<=x*y:=Int.mul_nonneg_of_nonpos_of_nonpos hx hy
theorem kD{u P z:Int}(hu:0<u)(e:u*P=z):(0<P↔0<z)∧(P<0↔z<0)∧(P=0↔z=0):=by
 rcases b7 P 0 with h|h|h;{have:=pn hu h;omega};{have:u*P=0:=(by rw[h];simp);omega};·have:=pp hu h;omega
def oR(A B:Int):Prop:=(A<0∧0<B)∨(0<A∧B<0)
instance(A B:Int):Decidable (oR A B):=by
 unfold oR;infer_instance
theorem Cc{A B:Int}:oR A B↔oR B A:=by
 unfold oR;omega
theorem Le{A B:Int}:oR (-A) (-B)↔oR A B:=by
 unfold oR;omega
theorem Ti{u A B a b P Q:Int}(hu:0<u)(hab:a<=b)(e1:u*P=B*a-A*b)(e2:u*Q=B*(a-u)-A*(b-u))(h1:0<a->a<=u->A≠0)(h2:0<b->b<=u->B≠0)(h3:(a<=0∧0<b)∨(b<=0∧0<a)->P≠0)(h4:(a<=u∧u<b)∨(b<=u∧u<a)->Q≠0)(h5:a=u->b=u->¬oR A B):(((a<=0∧0<b∧0<P)∨(b<=0∧0<a∧P<0))↔((a<=u∧u<b∧0<Q)∨(b<=u∧u<a∧Q<0)))↔¬((oR A B∧oR P Q)↔((0<a∧a<=u∧A<0)↔(0<b∧b<=u∧B<0))):=by
 obtain⟨P1,P2,P3⟩:=kD hu e1;obtain⟨Q1,Q2,Q3⟩:=kD hu e2;clear e1 e2;by_cases zb:b<=0;{have n:¬(oR A B∧oR P Q):=(by rintro⟨k|k,k2⟩;{have:=m0 (bJ k.2) (show a<=0 by omega);have:=q0 (bJ k.1) zb;have:=m0 (bJ k.2) (show a-u<=0 by omega);have:=q0 (bJ k.1) (show b-u<=0 by omega);unfold oR at k2;omega};·have:=q0 (bJ k.2) (show a<=0 by omega);have:=m0 (bJ k.1) zb;have:=q0 (bJ k.2) (show a-u<=0 by omega);have:=m0 (bJ k.1) (show b-u<=0 by omega);unfold oR at k2;omega);simp only[n,false_iff];clear n h5;constructor;{intro _;omega};·intro _;omega};by_cases za:u<a;{have n:¬(oR A B∧oR P Q):=(by rintro⟨k|k,k2⟩;{have:=p0 (bJ k.2) (show 0<=a by omega);have:=n0 (bJ k.1) (show 0<=b by omega);have:=p0 (bJ k.2) (show 0<=a-u by omega);have:=n0 (bJ k.1) (show 0<=b-u by omega);unfold oR at k2;omega};·have:=n0 (bJ k.2) (show 0<=a by omega);have:=p0 (bJ k.1) (show 0<=b by omega);have:=n0 (bJ k.2) (show 0<=a-u by omega);have:=p0 (bJ k.1) (show 0<=b-u by omega);unfold oR at k2;omega);simp only[n,false_iff];clear n h5;constructor;{intro _;omega};·intro _;omega};by_cases ya:0<a;·have hA:=h1 ya (by omega);by_cases yb:b<=u;{have hB:=h2 (by omega) yb;have d:oR A B->oR P Q:=(by intro k;have k5:=fun e1 e2=>h5 e1 e2 k;rcases k with k|k;{have:=pp k.2 ya;have:=np k.1 (show 0<b by omega);have:0<P:=P1.2 (by omega);rcases eO (show a<=u by omega)with g|g;{have:=pn k.2 (show a-u<0 by omega);have:=q0 (bJ k.1) (show b-u<=0 by omega);have:Q<0:=Q2.2 (by omega);unfold oR;omega};·exact absurd (show b=u by omega) (k5 g)};·have:=np k.2 ya;have:=pp k.1 (show 0<b by omega);have:P<0:=P2.2 (by omega);rcases eO (show a<=u by omega)with g|g;{have:=Th k.2 (show a-u<0 by omega);have:=m0 (bJ k.1) (show b-u<=0 by omega);have:0<Q:=Q1.2 (by omega);unfold oR;omega};·exact absurd (show b=u by omega) (k5 g));have e:(oR A B∧oR P Q)↔oR A B:=⟨fun k=>k.1,fun k=>⟨k,d k⟩⟩;rw[e];clear d e h5 P1 P2 P3 Q1 Q2 Q3 h3 h4;unfold oR;omega};·have hQ:=h4 (by omega);have e:(oR A B∧oR P Q)↔((A<0∧Q<0)∨(0<A∧0<Q)):=(by rcases eN hA with k|k;{have t1:=np k (show 0<b by omega);have t2:=np k (show 0<b-u by omega);constructor;{rintro⟨o1|o1,o2⟩;{have:=pp o1.2 ya;have:0<P:=P1.2 (by omega);unfold oR at o2;omega};·omega};·intro o;have hq:Q<0:=(by omega);have hB:0<B:=(by rcases b6 0 B with g|g;{exact g};·have:=q0 g (show a-u<=0 by omega);have:=Q2.1 hq;omega);have:=pp hB ya;have:0<P:=P1.2 (by omega);unfold oR;omega};·have t1:=pp k (show 0<b by omega);have t2:=pp k (show 0<b-u by omega);constructor;{rintro⟨o1|o1,o2⟩;{omega};·have:=np o1.2 ya;have:P<0:=P2.2 (by omega);unfold oR at o2;omega};·intro o;have hq:0<Q:=(by omega);have hB:B<0:=(by rcases b6 B 0 with g|g;{exact g};·have:=m0 g (show a-u<=0 by omega);have:=Q1.1 hq;omega);have:=np hB ya;have:P<0:=P2.2 (by omega);unfold oR;omega);rw[e];clear e h5 P1 P2 P3 Q1 Q2 Q3 h3 h4;omega
 ·by_cases yb:b<=u;{have hB:=h2 (by omega) yb;have hP:=h3 (by omega);have e:(oR A B∧oR P Q)↔((B<0∧P<0)∨(0<B∧0<P)):=(by rcases eN hB with k|k;{have t1:=q0 (bJ k) (show a<=0 by omega);have t2:=Th k (show a-u<0 by omega);constructor;{rintro⟨o1|o1,o2⟩;{omega};·have:=m0 (bJ o1.1) (show b-u<=0 by omega);have:0<Q:=Q1.2 (by omega);unfold oR at o2;omega};·intro o;have hp:P<0:=(by omega);have hA:0<A:=(by rcases b6 0 A with g|g;{exact g};·have:=n0 g (show 0<=b by omega);have:=P2.1 hp;omega);have:=m0 (bJ hA) (show b-u<=0 by omega);have:0<Q:=Q1.2 (by omega);unfold oR;omega};·have t1:=m0 (bJ k) (show a<=0 by omega);have t2:=pn k (show a-u<0 by omega);constructor;{rintro⟨o1|o1,o2⟩;{have:=q0 (bJ o1.1) (show b-u<=0 by omega);have:Q<0:=Q2.2 (by omega);unfold oR at o2;omega};·omega};·intro o;have hp:0<P:=(by omega);have hA:A<0:=(by rcases b6 A 0 with g|g;{exact g};·have:=p0 g (show 0<=b by omega);have:=P1.1 hp;omega);have:=q0 (bJ hA) (show b-u<=0 by omega);have:Q<0:=Q2.2 (by omega);unfold oR;omega);rw[e];clear e h5 P1 P2 P3 Q1 Q2 Q3 h3 h4;omega};·have hP:=h3 (by omega);have hQ:=h4 (by omega);have d:oR P Q->oR A B:=(by rintro(k|k);{have f1:=P2.1 k.1;have f2:=Q1.1 k.2;have hA:0<A:=(by rcases b6 0 A with g|g;{exact g};·have:=n0 g (show 0<=b by omega);have hB:0<B:=(by rcases b6 0 B with g2|g2;{exact g2};·have:=q0 g2 (show a<=0 by omega);omega);have:=m0 (bJ hB) (show a-u<=0 by omega);have:B*a-B*(a-u)=B*u:=(by rw[←ir];congr 1;omega);have:A*b-A*(b-u)=A*u:=(by rw[←ir];congr 1;omega);have:=pp hB hu;have:=n0 g (bJ hu);omega);have:=pp hA (show 0<b by omega);have:=pp hA (show 0<b-u by omega);have hB:B<0:=(by rcases b6 B 0 with g2|g2;{exact g2};·have:=m0 g2 (show a-u<=0 by omega);omega);exact .inr ⟨hA,hB⟩};·have f1:=P1.1 k.1;have f2:=Q2.1 k.2;have hA:A<0:=(by rcases b6 A 0 with g|g;{exact g};·have:=p0 g (show 0<=b by omega);have hB:B<0:=(by rcases b6 B 0 with g2|g2;{exact g2};·have:=m0 g2 (show a<=0 by omega);omega);have:=q0 (bJ hB) (show a-u<=0 by omega);have:B*a-B*(a-u)=B*u:=(by rw[←ir];congr 1;omega);have:A*b-A*(b-u)=A*u:=(by rw[←ir];congr 1;omega);have:=np hB hu;have:=p0 g (bJ hu);omega);have:=np hA (show 0<b by omega);have:=np hA (show 0<b-u by omega);have hB:0<B:=(by rcases b6 0 B with g2|g2;{exact g2};·have:=q0 g2 (show a-u<=0 by omega);omega);exact .inl ⟨hA,hB⟩);have e:(oR A B∧oR P Q)↔oR P Q:=⟨fun k=>k.2,fun k=>⟨d k,k⟩⟩;rw[e];clear d e h5 P1 P2 P3 Q1 Q2 Q3 h3 h4 h1 h2;unfold oR;omega
theorem afL{u A B a b P Q:Int}(hu:0<u)(e1:u*P=B*a-A*b)(e2:u*Q=B*(a-u)-A*(b-u))(h1:0<a->a<=u->A≠0)(h2:0<b->b<=u->B≠0)(h3:(a<=0∧0<b)∨(b<=0∧0<a)->P≠0)(h4:(a<=u∧u<b)∨(b<=u∧u<a)->Q≠0)(h5:a=u->b=u->¬oR A B):(((a<=0∧0<b∧0<P)∨(b<=0∧0<a∧P<0))↔((a<=u∧u<b∧0<Q)∨(b<=u∧u<a∧Q<0)))↔¬((oR A B∧oR P Q)↔((0<a∧a<=u∧A<0)↔(0<b∧b<=u∧B<0))):=by
 rcases dG a b with h|h;{exact Ti hu h e1 e2 h1 h2 h3 h4 h5};·have:=Ti (P:=-P) (Q:=-Q) (A:=B) (B:=A) hu h (by rw[Int.mul_neg,e1];omega) (by rw[Int.mul_neg,e2];omega) h2 h1 (fun k=>by have:=h3 (by omega);omega) (fun k=>by have:=h4 (by omega);omega) (fun k1 k2 o=>h5 k2 k1 (Cc.1 o));rw[Cc (A:=B),Le]at this;have t1:((a<=0∧0<b∧0<P)∨(b<=0∧0<a∧P<0))↔((b<=0∧0<a∧0< -P)∨(a<=0∧0<b∧-P<0)):=(by omega);have t2:((a<=u∧u<b∧0<Q)∨(b<=u∧u<a∧Q<0))↔((b<=u∧u<a∧0< -Q)∨(a<=u∧u<b∧-Q<0)):=(by omega);rw[t1,t2,this,iff_comm (a:=(0<b∧b<=u∧B<0))]
def Xs(p q a b:jE):Prop:=oR (cr p q a 1) (cr p q b 1)∧oR (cr a b p 1) (cr a b q 1)
instance(p q a b:jE):Decidable (Xs p q a b):=by
 unfold Xs;infer_instance
def dR(p q v:jE):Bool:=decide (p.2<v.2∧v.2<=q.2∧cr p q v 1<0)
theorem qO(a b p:jE):p9 a b p 1=decide ((a.2-p.2<=0∧0<b.2-p.2∧0<cr a b p 1)∨(b.2-p.2<=0∧0<a.2-p.2∧cr a b p 1<0)):=by
 unfold p9;simp only[aV,F7,K7];by_cases h1:a.2>p.2<;>by_cases h2:b.2>p.2;{rw[ai (by simp[h1,h2])];symm;exact aA (by omega)};{rw[ag (by simp[h1,h2]),ag h2];exact bI.2 (by omega)};{rw[ag (by simp[h1,h2]),ai h2];exact bI.2 (by omega)};·rw[ai (by simp[h1,h2])];symm;exact aA (by omega)
theorem M6{u U x al:Int}(hu:0<u)(h0:0<=al)(h1:al<=u)(e:U*al=u*x):mP 0 x U:=by
 rcases dG 0 U with g|g;{left;have k1:=p0 g h0;have k2:U*al<=U*u:=bG h1 g;rw[e]at k1 k2;refine⟨Int.nonneg_of_mul_nonneg_right k1 hu,?_⟩;rw[dJ U u]at k2;exact cV k2 hu};·right;have k1:=n0 g h0;have k2:U*u<=U*al:=gF g h1;rw[e]at k1 k2;rw[dJ U u]at k2;refine⟨cV k2 hu,?_⟩;rcases b6 0 x with g2|g2;{have:=pp hu g2;omega};·exact g2
theorem qE{a b p:jE}(h0:cr a b p 1=0)(h:(a.2<=p.2∧p.2<=b.2∧a.2<b.2)∨(b.2<=p.2∧p.2<=a.2∧b.2<a.2)):has a b p 1:=by
 refine⟨h0,?_,by unfold mP;omega⟩;unfold cr at h0;rcases h with⟨h1,h2,h3⟩|⟨h1,h2,h3⟩;{have:=M6 (u:=b.2-a.2) (U:=b.1-a.1) (x:=p.1-a.1) (al:=p.2-a.2) (by omega) (by omega) (by omega) (by simp only[aV]at h0;omega);unfold mP at*;omega};·have:=M6 (u:=a.2-b.2) (U:=b.1-a.1) (x:=p.1-a.1) (al:=a.2-p.2) (by omega) (by omega) (by omega) (by simp only[aV]at h0;have e1:(b.1-a.1)*(a.2-p.2)=-((b.1-a.1)*(p.2-a.2)):=(by grind);have e2:(a.2-b.2)*(p.1-a.1)=-((b.2-a.2)*(p.1-a.1)):=(by grind);omega);unfold mP at*;omega
theorem Tj{p q a:jE}(h:a.2=q.2):cr p q a 1=(q.2-p.2)*(q.1-a.1):=by
 unfold cr;rw[h];grind
theorem Tk{r1 r2 x d1 d2:Prop}[Decidable r1][Decidable r2][Decidable x][Decidable d1][Decidable d2](h:(r1↔r2)↔¬(x↔(d1↔d2))):(decide r1^^decide r2)=(decide x^^(decide d1^^decide d2)):=by by_cases c1:r1<;>by_cases c2:r2<;>by_cases c3:x<;>by_cases c4:d1<;>by_cases c5:d2<;>simp_all
theorem Lf{p q a b:jE}(hpq:p.2<q.2)(ha:¬has p q a 1)(hb:¬has p q b 1)(hp:¬has a b p 1)(hq:¬has a b q 1):(p9 a b p 1^^p9 a b q 1)=(decide (Xs p q a b)^^(dR p q a^^dR p q b)):=by
 have key:=afL (u:=q.2-p.2) (A:=cr p q a 1) (B:=cr p q b 1) (a:=a.2-p.2) (b:=b.2-p.2) (P:=cr a b p 1) (Q:=cr a b q 1) (by omega) (by unfold cr;grind) (by unfold cr;grind) (fun h1 h2 e=>ha (qE e (by omega))) (fun h1 h2 e=>hb (qE e (by omega))) (fun h e=>hp (qE e (by omega))) (fun h e=>hq (qE e (by omega))) (fun h1 h2 o=>hq (by have e1:=Tj (p:=p) (q:=q) (a:=a) (by omega);have e2:=Tj (p:=p) (q:=q) (a:=b) (by omega);rw[e1,e2]at o;have s1:=kD (u:=q.2-p.2) (P:=q.1-a.1) (by omega) rfl;have s2:=kD (u:=q.2-p.2) (P:=q.1-b.1) (by omega) rfl;refine⟨?_,?_,by unfold mP;omega⟩;{unfold cr;rw[show b.2-a.2=0 by omega,show q.2-a.2*1=0 by omega];simp};·unfold oR at o;unfold mP;omega));rw[qO,qO];have t:((a.2-q.2<=0∧0<b.2-q.2∧0<cr a b q 1)∨(b.2-q.2<=0∧0<a.2-q.2∧cr a b q 1<0))↔((a.2-p.2<=q.2-p.2∧q.2-p.2<b.2-p.2∧0<cr a b q 1)∨(b.2-p.2<=q.2-p.2∧q.2-p.2<a.2-p.2∧cr a b q 1<0)):=(by omega);have t1:(p.2<a.2∧a.2<=q.2∧cr p q a 1<0)↔(0<a.2-p.2∧a.2-p.2<=q.2-p.2∧cr p q a 1<0):=(by omega);have t2:(p.2<b.2∧b.2<=q.2∧cr p q b 1<0)↔(0<b.2-p.2∧b.2-p.2<=q.2-p.2∧cr p q b 1<0):=(by omega);unfold dR;rw[bI.2 t,bI.2 t1,bI.2 t2];exact Tk key
theorem JC{p q a b:jE}(hpq:p.2=q.2)(ha:¬has p q a 1)(hb:¬has p q b 1)(hp:¬has a b p 1)(hq:¬has a b q 1):(p9 a b p 1^^p9 a b q 1)=decide (Xs p q a b):=by
 have eA:cr p q a 1=(q.1-p.1)*(a.2-p.2):=(by unfold cr;rw[hpq];grind);have eB:cr p q b 1=(q.1-p.1)*(b.2-p.2):=(by unfold cr;rw[hpq];grind);rw[qO,qO];unfold Xs;have hP:(a.2-p.2<=0∧0<b.2-p.2)∨(b.2-p.2<=0∧0<a.2-p.2)->cr a b p 1≠0:=fun h e=>hp (qE e (by omega));have hQ:(a.2-p.2<=0∧0<b.2-p.2)∨(b.2-p.2<=0∧0<a.2-p.2)->cr a b q 1≠0:=fun h e=>hq (qE e (by omega));have key:oR (cr a b p 1) (cr a b q 1)->((a.2-p.2<=0∧0<b.2-p.2)∨(b.2-p.2<=0∧0<a.2-p.2))->oR (cr p q a 1) (cr p q b 1):=by intro o h;have hne:q.1-p.1≠0:=(by intro e;have:p=q:=cJ (by omega) hpq;rw[this]at o;unfold oR at o;omega);have ia:a.2≠p.2:=(by intro e;have f1:cr a b p 1=-((b.2-a.2)*(p.1-a.1)):=(by unfold cr;rw[e];grind);have f2:cr a b q 1=-((b.2-a.2)*(q.1-a.1)):=(by unfold cr;rw[e,hpq];grind);have s1:=kD (u:=b.2-a.2) (P:=p.1-a.1) (by omega) rfl;have s2:=kD (u:=b.2-a.2) (P:=q.1-a.1) (by omega) rfl;rw[f1,f2]at o;refine ha ⟨by rw[eA,e];simp,?_,by unfold mP;omega⟩;unfold oR at o;unfold mP;omega);have ib:b.2≠p.2:=(by intro e;have f1:cr a b p 1=-((a.2-b.2)*(b.1-p.1)):=(by unfold cr;rw[e];grind);have f2:cr a b q 1=-((a.2-b.2)*(b.1-q.1)):=(by unfold cr;rw[e,hpq];grind);have s1:=kD (u:=a.2-b.2) (P:=b.1-p.1) (by omega) rfl;have s2:=kD (u:=a.2-b.2) (P:=b.1-q.1) (by omega) rfl;rw[f1,f2]at o;refine hb ⟨by rw[eB,e];simp,?_,by unfold mP;omega⟩;unfold oR at o;unfold mP;omega);rw[eA,eB];have m1:=eN hne;rcases m1 with m|m<;>rcases h with h|h;{exact .inr ⟨Th m (by omega),np m (by omega)⟩};{exact .inl ⟨np m (by omega),Th m (by omega)⟩};{exact .inl ⟨pn m (by omega),pp m (by omega)⟩};·exact .inr ⟨pp m (by omega),pn m (by omega)⟩
 have back:oR (cr p q a 1) (cr p q b 1)->((a.2-p.2<=0∧0<b.2-p.2)∨(b.2-p.2<=0∧0<a.2-p.2)):=(by intro o;rw[eA,eB]at o;rcases b7 (q.1-p.1) 0 with m|m|m;{have s1:=kD (u:=-(q.1-p.1)) (P:=a.2-p.2) (by omega) rfl;have s2:=kD (u:=-(q.1-p.1)) (P:=b.2-p.2) (by omega) rfl;rw[Int.neg_mul]at s1 s2;unfold oR at o;omega};{rw[m]at o;unfold oR at o;simp at o};·have s1:=kD (u:=q.1-p.1) (P:=a.2-p.2) (by omega) rfl;have s2:=kD (u:=q.1-p.1) (P:=b.2-p.2) (by omega) rfl;unfold oR at o;omega);have k:=Tk (r1:=(a.2-p.2<=0∧0<b.2-p.2∧0<cr a b p 1)∨(b.2-p.2<=0∧0<a.2-p.2∧cr a b p 1<0)) (r2:=(a.2-q.2<=0∧0<b.2-q.2∧0<cr a b q 1)∨(b.2-q.2<=0∧0<a.2-q.2∧cr a b q 1<0)) (x:=oR (cr p q a 1) (cr p q b 1)∧oR (cr a b p 1) (cr a b q 1)) (d1:=False) (d2:=False) (by by_cases h:(a.2-p.2<=0∧0<b.2-p.2)∨(b.2-p.2<=0∧0<a.2-p.2);{have g1:=hP h;have g2:=hQ h;have g3:=fun o=>key o h;have e:(oR (cr p q a 1) (cr p q b 1)∧oR (cr a b p 1) (cr a b q 1))↔oR (cr a b p 1) (cr a b q 1):=⟨fun x=>x.2,fun x=>⟨g3 x,x⟩⟩;rw[e];clear e g3 key back hP hQ eA eB;simp only[iff_self,iff_true];unfold oR;omega};·have e:¬(oR (cr p q a 1) (cr p q b 1)∧oR (cr a b p 1) (cr a b q 1)):=fun x=>h (back x.1);have r1:¬((a.2-p.2<=0∧0<b.2-p.2∧0<cr a b p 1)∨(b.2-p.2<=0∧0<a.2-p.2∧cr a b p 1<0)):=(by omega);have r2:¬((a.2-q.2<=0∧0<b.2-q.2∧0<cr a b q 1)∨(b.2-q.2<=0∧0<a.2-q.2∧cr a b q 1<0)):=(by omega);simp only[e,r1,r2];simp)
 rw[k];rw[show(decide False^^decide False)=false from rfl,Bool.xor_false]
theorem acf{p q a b:jE}:Xs q p a b↔Xs p q a b:=by
 unfold Xs;rw[oc p q a 1,oc p q b 1,Le,Cc (A:=cr a b q 1)]
def wW(p q v:jE):Bool:=if p.2<q.2 then dR p q v else if q.2<p.2 then dR q p v else false
theorem M7{p q a b:jE}(ha:¬has p q a 1)(hb:¬has p q b 1)(hp:¬has a b p 1)(hq:¬has a b q 1):(p9 a b p 1^^p9 a b q 1)=(decide (Xs p q a b)^^(wW p q a^^wW p q b)):=by
 unfold wW;rcases b7 p.2 q.2 with h|h|h;{rw[ai h,ai h];exact Lf h ha hb hp hq};{rw[ag (by omega),ag (by omega),ag (by omega),ag (by omega),JC h ha hb hp hq];simp};·rw[ag (by omega),ai h,ag (by omega),ai h];rw[Bool.xor_comm,Lf h (fun k=>ha (oD.1 k)) (fun k=>hb (oD.1 k)) hq hp,bI.2 acf]
def ki(l:List jZ)(p:jS):Bool:=l.foldr (fun s b=>p9 s.1 s.2 p.1 p.2^^b) false
def xsL(l:List jZ)(p q:jE):Bool:=l.foldr (fun s b=>decide (Xs p q s.1 s.2)^^b) false
theorem kF(s:jZ)(l:List jZ)(p:jS):ki (s::l) p=(p9 s.1 s.2 p.1 p.2^^ki l p):=rfl
theorem zg(s:jZ)(l:List jZ)(p q:jE):xsL (s::l) p q=(decide (Xs p q s.1 s.2)^^xsL l p q):=rfl
theorem mD(a b:List jZ)(p:jS):ki (a++b) p=(ki a p^^ki b p):=by induction a with|nil=>simp[ki]|cons s a ih=>rw[bg,kF,kF,ih,jq]
theorem mo(a b:jE)(t:Ring):jG (a::b::t)=(a,b)::jG (b::t):=rfl
theorem Ce(a:jE):jG [a]=[]:=rfl
structure Gd(p q a b:jE):Prop where
 ha:¬has p q a 1
 hb:¬has p q b 1
 hp:¬has a b p 1
 hq:¬has a b q 1
theorem Bu(p q:jE):∀(t:Ring)(a:jE),(∀s∈jG (a::t),Gd p q s.1 s.2)->(ki (jG (a::t)) (p,1)^^ki (jG (a::t)) (q,1))=(xsL (jG (a::t)) p q^^(wW p q a^^wW p q ((a::t).getLast (by simp)))):=by
 intro t;induction t with|nil=>intro a _;simp[Ce,ki,xsL]|cons b t ih=>intro a h;rw[mo]at h;have h1:=h (a,b) (by simp);have k:=ih b fun s hs=>h s (by simp[hs]);have e:=M7 h1.ha h1.hb h1.hp h1.hq;rw[mo,kF,kF,zg,List.getLast_cons (by simp)];simp only at e⊢;revert e k;generalize p9 a b p 1=x1;generalize p9 a b q 1=x2;generalize ki (jG (b::t)) (p,1)=x3;generalize ki (jG (b::t)) (q,1)=x4;generalize xsL (jG (b::t)) p q=x5;generalize decide (Xs p q a b)=x6;generalize wW p q a=x7;generalize wW p q b=x8;generalize wW p q ((b::t).getLast (by simp))=x9;revert x1 x2 x3 x4 x5 x6 x7 x8 x9;decide
def Ends(r:Ring):Prop:=r.head?=r.getLast?
theorem jW{r:Ring}(h:Shut r):Ends r:=by
 have h4:=h.len;unfold Ends;rw[fU,fG,jM (by omega),jM (by omega),h.eq]
theorem JD{r:Ring}(hr:Ends r){p q:jE}(h:∀s∈jG r,Gd p q s.1 s.2):(ki (jG r) (p,1)^^ki (jG r) (q,1))=xsL (jG r) p q:=by cases r with|nil=>rfl|cons a t=>have k:=Bu p q t a h;have e:a=(a::t).getLast (by simp):=(by unfold Ends at hr;rw[eK (by simp)]at hr;simpa using hr);rw[k,←e];simp
theorem M8:∀(l:List jZ)(i:Bool)(p:jS),(∀s∈l,¬has s.1 s.2 p.1 p.2)->nQ l i p=if(i^^ki l p)=true then 2 else 0:=by
 intro l;induction l with|nil=>intro i p _;simp[nQ,ki]|cons s l ih=>intro i p h;have h1:=h s (by simp);unfold nQ;rw[ag (by unfold hasB;simpa using h1),ih _ p fun t ht=>h t (by simp[ht]),kF];cases p9 s.1 s.2 p.1 p.2<;>cases i<;>simp
theorem mZ{r:Ring}{p:jS}(h:∀s∈jG r,¬has s.1 s.2 p.1 p.2):place r p=if ki (jG r) p=true then 2 else 0:=by
 unfold place;rw[M8 _ _ _ h];simp
theorem zh{l:List jZ}{p q:jE}(h:∀s∈l,¬Xs p q s.1 s.2):xsL l p q=false:=by induction l with|nil=>rfl|cons s l ih=>rw[zg,ih fun t ht=>h t (by simp[ht]),aA (h s (by simp))];rfl
theorem Ge{r:Ring}(hr:Ends r){p q:jE}(h:∀s∈jG r,Gd p q s.1 s.2)(hx:∀s∈jG r,¬Xs p q s.1 s.2):place r (p,1)=place r (q,1):=by
 have k:=JD hr h;rw[zh hx]at k;rw[mZ (p:=(p,1)) fun s hs=>(h s hs).hp,mZ (p:=(q,1)) fun s hs=>(h s hs).hq];have:ki (jG r) (p,1)=ki (jG r) (q,1):=(by revert k;generalize ki (jG r) (p,1)=x;generalize ki (jG r) (q,1)=y;cases x<;>cases y<;>simp);rw[this]
def sc(k:Int)(p:jE):jE:=(k*p.1,k*p.2)
def oT(k:Int)(r:Ring):Ring:=r.map (sc k)
def Cf(k:Int)(s:jZ):jZ:=(sc k s.1,sc k s.2)
theorem M9(k:Int)(a b p:jE)(w:Int):cr (sc k a) (sc k b) p w=k*cr a b p (k*w):=by
 unfold cr sc;grind
theorem Qo{k:Int}(hk:0<k)(n:Int):sg (k*n)=sg n:=by
 have s:=kD hk (rfl:k*n=k*n);rcases kz n with⟨h,e⟩|⟨h,e⟩|⟨h,e⟩<;>rcases kz (k*n)with⟨h',e'⟩|⟨h',e'⟩|⟨h',e'⟩<;>first|omega|rw[e,e']
theorem nT{k:Int}(hk:0<k)(a b p:jE)(w:Int):has (sc k a) (sc k b) p w↔has a b p (k*w):=by
 have s:=kD hk (rfl:k*cr a b p (k*w)=_);have e:∀x:Int,k*x*w=x*(k*w):=fun x=>(by grind);unfold has;rw[M9];unfold sc;simp only[e];constructor;{rintro⟨h1,h2⟩;exact⟨s.2.2.2 h1,h2⟩};·rintro⟨h1,h2⟩;exact⟨s.2.2.1 h1,h2⟩
theorem Gf{k:Int}(hk:0<k)(a b p:jE)(w:Int):p9 (sc k a) (sc k b) p w=p9 a b p (k*w):=by
 have e:∀x:Int,k*x*w=x*(k*w):=fun x=>(by grind);unfold p9;rw[M9,Qo hk];unfold sc;simp only[e]
theorem oU(k:Int)(r:Ring):jG (oT k r)=(jG r).map (Cf k):=by
 unfold jG oT;rw[←List.map_tail,List.zip_map];rfl
theorem U5{k:Int}(hk:0<k):∀(l:List jZ)(i:Bool)(p:jE)(w:Int),nQ (l.map (Cf k)) i (p,w)=nQ l i (p,k*w):=by
 intro l;induction l with|nil=>intro i p w;rfl|cons s l ih=>intro i p w;rw[cD];unfold nQ;have e1:hasB (Cf k s) (p,w)=hasB s (p,k*w):=bI.2 (nT hk s.1 s.2 p w);have e2:p9 (Cf k s).1 (Cf k s).2 p w=p9 s.1 s.2 p (k*w):=Gf hk s.1 s.2 p w;rw[e1,ih];simp only[e2]
theorem mK{k:Int}(hk:0<k)(r:Ring)(p:jE)(w:Int):place (oT k r) (p,w)=place r (p,k*w):=by
 unfold place;rw[oU,U5 hk]
theorem r7{k:Int}{r:Ring}(h:Ends r):Ends (oT k r):=by
 unfold Ends oT at*;rw[List.head?_map,List.getLast?_map,h]
theorem Lg(k:Int)(a b p:jE)(w:Int):cr a b (sc k p) (k*w)=k*cr a b p w:=by
 unfold cr sc;grind
theorem acg{k:Int}(hk:0<k){a p b:Int}:mP (k*a) (k*p) (k*b)↔mP a p b:=by
 have e1:∀{x y:Int},k*x<=k*y↔x<=y:=fun{x y}=>⟨fun h=>cV h hk,fun h=>bG h (by omega)⟩;unfold mP;simp only[e1]
theorem nU{k:Int}(hk:0<k)(a b p:jE)(w:Int):has a b (sc k p) (k*w)↔has a b p w:=by
 have s:=kD hk (rfl:k*cr a b p w=_);have e:∀x:Int,x*(k*w)=k*(x*w):=fun x=>(by grind);unfold has;rw[Lg];unfold sc;simp only[e,acg hk];constructor;{rintro⟨h1,h2⟩;exact⟨s.2.2.2 h1,h2⟩};·rintro⟨h1,h2⟩;exact⟨s.2.2.1 h1,h2⟩
theorem Na{k:Int}(hk:0<k)(a b p:jE)(w:Int):p9 a b (sc k p) (k*w)=p9 a b p w:=by
 have e:∀x:Int,x*(k*w)=k*(x*w):=fun x=>(by grind);have e1:∀{x y:Int},k*x>k*y↔x>y:=fun{x y}=>⟨fun h=>eD h (by omega),fun h=>cN h hk⟩;unfold p9;rw[Lg,Qo hk];unfold sc;simp only[e,e1]
theorem Nb{k:Int}(hk:0<k)(p:jE)(w:Int):∀(l:List jZ)(i:Bool),nQ l i (sc k p,k*w)=nQ l i (p,w):=by
 intro l;induction l with|nil=>intro i;rfl|cons s l ih=>intro i;unfold nQ;have e1:hasB s (sc k p,k*w)=hasB s (p,w):=bI.2 (nU hk s.1 s.2 p w);rw[e1,ih];simp only[Na hk]
theorem yf{k:Int}(hk:0<k)(r:Ring)(p:jE)(w:Int):place r (sc k p,k*w)=place r (p,w):=by
 unfold place;rw[Nb hk]
theorem rN{r:Ring}{p:jS}(hp:0<p.2){k:Int}(hk:0<k):place r p=place (oT (k*p.2) r) (sc k p.1,1):=by rw[mK (pp hk hp),aV,yf hk]
theorem Li{α:Type}(f:α->Int)(P:α->Prop):∀(l:List α),(∃x∈l,P x)->∃x∈l,P x∧∀y∈l,P y->f y<=f x:=by
 intro l;induction l with|nil=>rintro⟨x,hx,_⟩;cases hx|cons a t ih=>rintro⟨x,hx,hp⟩;by_cases ht:∃y∈t,P y;{obtain⟨y,hy,py,my⟩:=ih ht;by_cases ha:P a∧f y<f a;{refine⟨a,by simp,ha.1,fun z hz pz=>?_⟩;rcases aD.1 hz with rfl|hz;{exact dj _};·have:=my z hz pz;omega};·refine⟨y,by simp[hy],py,fun z hz pz=>?_⟩;rcases aD.1 hz with rfl|hz;{by_cases c:f y<f z;{exact absurd ⟨pz,c⟩ ha};·omega};·exact my z hz pz};·rcases aD.1 hx with rfl|hx;{refine⟨x,by simp,hp,fun z hz pz=>?_⟩;rcases aD.1 hz with rfl|hz;{exact dj _};·exact absurd ⟨z,hz,pz⟩ ht};·exact absurd ⟨x,hx,hp⟩ ht
theorem Qp{α:Type}(f:α->Int)(P:α->Prop)(l:List α)(h:∃x∈l,P x):∃x∈l,P x∧∀y∈l,P y->f x<=f y:=by
 obtain⟨x,hx,hp,m⟩:=Li (fun x=>-f x) P l h;exact⟨x,hx,hp,fun y hy py=>by have:=m y hy py;omega⟩
theorem Gg{a b:jE}{l:List jE}{x:jE}:Cut a b l x↔x∈a::b::l∧(x=a∨x=b∨(x∈l∧has a b x 1)):=by
 unfold Cut;constructor;{intro h;refine⟨?_,h⟩;rcases h with rfl|rfl|h;{simp};{simp};·simp[h.1]};·exact fun h=>h.2
theorem Cg{a b p:jE}(h0:cr a b p 1=0):kk a b*p.1=kk a b*a.1+pos a b p*(b.1-a.1)∧kk a b*p.2=kk a b*a.2+pos a b p*(b.2-a.2):=by
 unfold cr at h0;unfold pos dt kk;constructor<;>grind
theorem afM{k D a1 a2 b1 b2 p1 p2 c1 c2 d1 d2:Int}(e1:k*p1=k*a1+D*(b1-a1))(e2:k*p2=k*a2+D*(b2-a2)):k*((d1-c1)*(p2-c2)-(d2-c2)*(p1-c1))=(k-D)*((d1-c1)*(a2-c2)-(d2-c2)*(a1-c1))+D*((d1-c1)*(b2-c2)-(d2-c2)*(b1-c1)):=by grind
theorem wE{a b p:jE}(h0:cr a b p 1=0)(c d:jE):kk a b*cr c d p 1=(kk a b-pos a b p)*cr c d a 1+pos a b p*cr c d b 1:=by
 obtain⟨e1,e2⟩:=Cg h0;have:=afM (c1:=c.1) (c2:=c.2) (d1:=d.1) (d2:=d.2) e1 e2;unfold cr;simpa only[aV]using this
theorem ach{k D E a1 a2 b1 b2 p1 p2 q1 q2:Int}(e1:k*p1=k*a1+D*(b1-a1))(e2:k*p2=k*a2+D*(b2-a2))(f1:k*q1=k*a1+E*(b1-a1))(f2:k*q2=k*a2+E*(b2-a2)):k*(q1-p1)=(E-D)*(b1-a1)∧k*(q2-p2)=(E-D)*(b2-a2):=by constructor<;>grind
theorem Fy{a b p q:jE}(hp:cr a b p 1=0)(hq:cr a b q 1=0):kk a b*(q.1-p.1)=(pos a b q-pos a b p)*(b.1-a.1)∧kk a b*(q.2-p.2)=(pos a b q-pos a b p)*(b.2-a.2):=by
 obtain⟨e1,e2⟩:=Cg hp;obtain⟨f1,f2⟩:=Cg hq;exact ach e1 e2 f1 f2
theorem Tl{k L u1 u2 v1 v2 x1 x2:Int}(e1:k*v1=L*u1)(e2:k*v2=L*u2):k*(v1*x2-v2*x1)=L*(u1*x2-u2*x1)∧k*(x1*v1+x2*v2)=L*(x1*u1+x2*u2):=by constructor<;>grind
theorem Tm{a b p:jE}(hp:cr a b p 1=0)(c:jE):(b.1-a.1)*(c.2-p.2)-(b.2-a.2)*(c.1-p.1)=cr a b c 1:=by
 unfold cr at*;grind
theorem qY{a b p q:jE}(hp:cr a b p 1=0)(hq:cr a b q 1=0)(c:jE):kk a b*cr p q c 1=(pos a b q-pos a b p)*cr a b c 1:=by
 obtain⟨e1,e2⟩:=Fy hp hq;have:=(Tl (x1:=c.1-p.1) (x2:=c.2-p.2) e1 e2).1;rw[Tm hp]at this;rw[←this];unfold cr;simp only[aV]
theorem Yi(a b p c:jE):(c.1-p.1)*(b.1-a.1)+(c.2-p.2)*(b.2-a.2)=pos a b c-pos a b p:=by
 unfold pos dt;grind
theorem DD{a b p q:jE}(hp:cr a b p 1=0)(hq:cr a b q 1=0)(c:jE):kk a b*dt p q c 1=(pos a b q-pos a b p)*(pos a b c-pos a b p):=by
 obtain⟨e1,e2⟩:=Fy hp hq;have:=(Tl (x1:=c.1-p.1) (x2:=c.2-p.2) e1 e2).2;rw[Yi a b p c]at this;rw[←this];unfold dt;simp only[aV]
theorem Yj(p q:jE):kk p q=dt p q q 1:=by
 unfold kk dt;simp
theorem wF{a b p q c:jE}(hab:a≠b)(hpq:p≠q)(hp:cr a b p 1=0)(hq:cr a b q 1=0)(h:has p q c 1):cr a b c 1=0∧mP (pos a b p) (pos a b c) (pos a b q):=by
 have hk:=lI hab;obtain⟨h0,h1,h2⟩:=(sN hpq (by omega)).1 h;have hne:pos a b q-pos a b p≠0:=fun e=>hpq (tJ hab hp hq (by omega));have e:=qY hp hq c;rw[h0,bD]at e;have e1:=DD hp hq c;have e2:=DD hp hq q;rw[aV,Yj]at h2;have m1:=p0 (bJ hk) h1;have m2:=bG h2 (bJ hk);rw[e1]at m1;rw[e1,e2]at m2;refine⟨?_,?_⟩;{rcases aL.1 e.symm with g|g;{exact absurd g hne};·exact g};·unfold mP;rcases eN hne with g|g;{right;constructor;{rcases b6 (pos a b c) (pos a b q)with q'|q';{have:=Int.mul_lt_mul_of_neg_left (show pos a b c-pos a b p<pos a b q-pos a b p by omega) g;omega};·exact q'};·rcases b6 (pos a b p) (pos a b c)with q|q;{have:=np g (show 0<pos a b c-pos a b p by omega);omega};·exact q};·left;constructor;{rcases b6 (pos a b c) (pos a b p)with q|q;{have:=pn g (show pos a b c-pos a b p<0 by omega);omega};·exact q};·have:=cV m2 g;omega
theorem Gh{x y s t s' t' X Y:Int}(hs:0<=s)(ht:0<=t)(hs':0<=s')(ht':0<=t'){k:Int}(hk:0<k)(e1:k*X=s*x+t*y)(e2:k*Y=s'*x+t'*y)(o:oR X Y):oR x y:=by
 obtain⟨P1,P2,-⟩:=kD hk e1;obtain⟨Q1,Q2,-⟩:=kD hk e2;have both:¬(0<=x∧0<=y):=(by rintro⟨hx,hy⟩;have:=p0 hs hx;have:=p0 ht hy;have:=p0 hs' hx;have:=p0 ht' hy;unfold oR at o;omega);have none:¬(x<=0∧y<=0):=(by rintro⟨hx,hy⟩;have:=m0 hs hx;have:=m0 ht hy;have:=m0 hs' hx;have:=m0 ht' hy;unfold oR at o;omega);unfold oR;omega
theorem Gi{a b c d:jE}(h1:oR (cr a b c 1) (cr a b d 1))(h2:oR (cr c d a 1) (cr c d b 1)):meet a b c d=2:=by
 unfold meet oR at*;rcases kz (cr a b c 1)with⟨g1,k1⟩|⟨g1,k1⟩|⟨g1,k1⟩<;>rcases kz (cr a b d 1)with⟨g2,k2⟩|⟨g2,k2⟩|⟨g2,k2⟩<;>rcases kz (cr c d a 1)with⟨g3,k3⟩|⟨g3,k3⟩|⟨g3,k3⟩<;>rcases kz (cr c d b 1)with⟨g4,k4⟩|⟨g4,k4⟩|⟨g4,k4⟩<;>first|(exfalso;omega)|simp[k1,k2,k3,k4]
theorem zi(x y:Int):(x*y<0->(0<x∧y<0)∨(x<0∧0<y))∧(0<x*y->(0<x∧0<y)∨(x<0∧y<0)):=by
 rcases b7 x 0 with h|h|h<;>rcases b7 y 0 with k|k|k;{have:=Th h k;omega};{rw[k];simp};{have:=np h k;omega};{rw[h];simp};{rw[h];simp};{rw[h];simp};{have:=pn h k;omega};{rw[k];simp};·have:=pp h k;omega
theorem JE{a b:jE}(hab:a≠b){o:Ring}(he:Ends o){p q:jE}(hp:cr a b p 1=0)(hq:cr a b q 1=0)(np:place o (p,1)≠1)(nq:place o (q,1)≠1)(hv:∀t∈jG o,∀c,c=t.1∨c=t.2->cr a b c 1=0->¬mP (pos a b p) (pos a b c) (pos a b q))(hx:∀t∈jG o,¬(oR (cr a b t.1 1) (cr a b t.2 1)∧oR (cr t.1 t.2 p 1) (cr t.1 t.2 q 1))):place o (p,1)=place o (q,1):=by
 by_cases hpq:p=q;{rw[hpq]};have hk:=lI hab;refine Ge he (fun t ht=>⟨fun h=>?_,fun h=>?_,fun h=>np (jT.2 ⟨t,ht,h⟩),fun h=>nq (jT.2 ⟨t,ht,h⟩)⟩) (fun t ht h=>?_);{obtain⟨k1,k2⟩:=wF hab hpq hp hq h;exact hv t ht _ (.inl rfl) k1 k2};{obtain⟨k1,k2⟩:=wF hab hpq hp hq h;exact hv t ht _ (.inr rfl) k1 k2};·refine hx t ht ⟨?_,h.2⟩;have e1:=qY hp hq t.1;have e2:=qY hp hq t.2;have s1:=kD hk e1;have s2:=kD hk e2;have o:=h.1;have m1:=zi (pos a b q-pos a b p) (cr a b t.1 1);have m2:=zi (pos a b q-pos a b p) (cr a b t.2 1);unfold oR at o⊢;omega
theorem Gj{a b p:jE}(hab:a≠b)(hp:has a b p 1)(l:List jE):∃y z,Cons (pos a b) (Cut a b l) y z∧pos a b y<=pos a b p∧pos a b p<=pos a b z:=by
 obtain⟨d0,d1⟩:=mh hab hp;have hk:=lI hab;obtain⟨y,hy,⟨cy,ly,ny⟩,my⟩:=Li (pos a b) (fun x=>Cut a b l x∧pos a b x<=pos a b p∧pos a b x<kk a b) (a::b::l) ⟨a,by simp,.inl rfl,by rw[q9];exact d0,by rw[q9];exact hk⟩;obtain⟨z,hz,⟨cz,lz⟩,mz⟩:=Qp (pos a b) (fun x=>Cut a b l x∧pos a b y<pos a b x) (a::b::l) ⟨b,by simp,.inr (.inl rfl),by rw[tQ];exact ny⟩;refine⟨y,z,⟨cy,cz,lz,fun c hc⟨h1,h2⟩=>?_⟩,ly,?_⟩;{have:=mz c (Gg.1 hc).1 ⟨hc,h1⟩;omega};·rcases dG (pos a b p) (pos a b z)with g|g;{exact g};·by_cases e:pos a b z<kk a b;{have:=my z hz ⟨cz,g,e⟩;omega};·have h1:=(mh hab (kZ cz)).2;omega
theorem rC{a b p:jE}(hab:a≠b)(h0:cr a b p 1=0)(h1:0<=pos a b p)(h2:pos a b p<=kk a b):has a b p 1:=(sN hab (by omega)).2 ⟨h0,h1,by rw[aV];exact h2⟩
theorem Tp{o:Ring}{t:jZ}(ht:t∈jG o){c:jE}(hc:c=t.1∨c=t.2):place o (c,1)=1:=by
 refine jT.2 ⟨t,ht,?_⟩;rcases hc with rfl|rfl;{exact pq _ _};·exact nS _ _
theorem EB{a b:jE}(hab:a≠b){o:Ring}(hl:mO o)(hx:∀t∈jG o,kM (a,b) t=false){y z M:jE}(hc:Cons (pos a b) (Cut a b o) y z)(hM:has a b M 1)(h1:pos a b y<pos a b M)(h2:pos a b M<pos a b z):place o (M,1)≠1:=by
 intro h;obtain⟨t,ht,hh⟩:=jT.1 h;simp only at hh;obtain⟨y0,-⟩:=mh hab (kZ hc.cx);obtain⟨-,z1⟩:=mh hab (kZ hc.cy);have ajc:¬Cut a b o M:=fun c=>hc.no M c ⟨h1,h2⟩;have nv:∀c,c=t.1∨c=t.2->M≠c:=(by rintro c hc' rfl;have:=kJ ht;exact ajc (.inr (.inr ⟨by rcases hc' with e|e<;>rw[e];exact this.1;exact this.2,hM⟩)));have two:∀c:jE,M≠c->sc 2 M≠(c.1*2,c.2*2):=(by intro c hne e;unfold sc at e;simp only[dF]at e;exact hne (cJ (by omega) (by omega)));have i1:Yd a b (sc 2 M):=(by refine⟨?_,two a ?_,two b ?_⟩;{have:=(nU (k:=2) (by omega) a b M 1).2 hM;simpa using this};{rintro rfl;rw[q9]at h1;omega};·rintro rfl;rw[tQ]at h2;omega);have i2:Yd t.1 t.2 (sc 2 M):=(by refine⟨?_,two _ (nv _ (.inl rfl)),two _ (nv _ (.inr rfl))⟩;have:=(nU (k:=2) (by omega) t.1 t.2 M 1).2 hh;simpa using this);have k:=Ah hab (hl t ht) i1 i2;have:=hx t ht;unfold kM kW at this;rcases k with k|k<;>simp[k]at this
theorem Ch{a b:jE}(hab:a≠b){o:Ring}(he:Ends o)(hl:mO o)(hx:∀t∈jG o,kM (a,b) t=false){y z p M:jE}(hc:Cons (pos a b) (Cut a b o) y z)(hp:has a b p 1)(p1:pos a b y<=pos a b p)(p2:pos a b p<=pos a b z)(hM:has a b M 1)(h1:pos a b y<pos a b M)(h2:pos a b M<pos a b z)(hn:place o (p,1)≠1):place o (p,1)=place o (M,1):=by
 have hk:=lI hab;obtain⟨y0,-⟩:=mh hab (kZ hc.cx);obtain⟨-,z1⟩:=mh hab (kZ hc.cy);obtain⟨q0',q1⟩:=mh hab hp;obtain⟨m0',m1⟩:=mh hab hM;refine JE hab he hp.1 hM.1 hn (EB hab hl hx hc hM h1 h2) ?_ ?_;{intro t ht c hc' vW hb;have hcut:Cut a b o c:=(by refine .inr (.inr ⟨?_,rC hab vW (by unfold mP at hb;omega) (by unfold mP at hb;omega)⟩);have:=kJ ht;rcases hc' with e|e<;>rw[e];{exact this.1};·exact this.2);have:=hc.no c hcut;have e:pos a b c=pos a b p:=(by unfold mP at hb;omega);have:=tJ hab vW hp.1 e;rw[←this]at hn;exact hn (Tp ht hc')};·rintro t ht⟨o1,o2⟩;have e1:=wE hp.1 t.1 t.2;have e2:=wE hM.1 t.1 t.2;have o3:=Gh (by omega) q0' (by omega) m0' hk e1 e2 o2;have:=hx t ht;unfold kM kW at this;rw[Gi o1 o3]at this;simp at this
theorem mq{k:Int}(hk:0<k){p q:jE}:sc k p=sc k q↔p=q:=by
 constructor;{intro h;unfold sc at h;simp only[dF]at h;exact cJ (eE (by omega) h.1) (eE (by omega) h.2)};·rintro rfl;rfl
theorem Qq{k:Int}(hk:0<k){p q:jE}:kn (sc k p) (sc k q)↔kn p q:=by
 have e1:∀{x y:Int},k*x<k*y↔x<y:=fun{x y}=>⟨fun h=>eD h (by omega),fun h=>cN h hk⟩;have e2:∀{x y:Int},k*x=k*y↔x=y:=fun{x y}=>⟨fun h=>eE (by omega) h,fun h=>by rw[h]⟩;unfold kn sc;simp only[e1,e2]
theorem afN{k:Int}(hk:0<k)(a b:jE):fwd (sc k a) (sc k b)=Cf k (fwd a b):=by
 unfold fwd;by_cases h:kn b a;{rw[ai h,ai ((Qq hk).2 h)];rfl};·rw[ag h,ag (fun g=>h ((Qq hk).1 g))];rfl
theorem afO(k:Int)(c:Prop)[Decidable c](a b:jE):(if c then sc k a else sc k b)=sc k (if c then a else b):=by split<;>rfl
theorem U6{k:Int}(hk:0<k)(s t:jZ):lP (Cf k s) (Cf k t)=lP s t:=by
 unfold lP Cf;simp only[Qq hk,afO,mq hk]
theorem yg(k:Int)(a b p:jE):cr (sc k a) (sc k b) (sc k p) 1=k*k*cr a b p 1:=by
 unfold cr sc;grind
theorem Fz{k:Int}(hk:0<k)(a b c d:jE):meet (sc k a) (sc k b) (sc k c) (sc k d)=meet a b c d:=by
 unfold meet;simp only[yg,Qo (pp hk hk),afN hk,U6 hk]
theorem Ai{k:Int}(hk:0<k)(s t:jZ):kM (Cf k s) (Cf k t)=kM s t:=by
 unfold kM kW Cf;simp only[Fz hk]
theorem vl(k:Int)(a b p:jE):pos (sc k a) (sc k b) (sc k p)=k*k*pos a b p:=by
 unfold pos dt sc;grind
theorem tL{k:Int}(hk:0<k)(a b p:jE):has (sc k a) (sc k b) (sc k p) 1↔has a b p 1:=by rw[nT hk,nU hk]
theorem DF{k:Int}(hk:0<k){a b:jE}{l:List jE}{x:jE}:Cut (sc k a) (sc k b) (l.map (sc k)) x↔∃x',x=sc k x'∧Cut a b l x':=by
 unfold Cut;constructor;{rintro(rfl|rfl|⟨h1,h2⟩);{exact⟨a,rfl,.inl rfl⟩};{exact⟨b,rfl,.inr (.inl rfl)⟩};·obtain⟨x',hx',rfl⟩:=aH.1 h1;exact⟨x',rfl,.inr (.inr ⟨hx',(tL hk _ _ _).1 h2⟩)⟩};·rintro⟨x',rfl,rfl|rfl|⟨h1,h2⟩⟩;{exact .inl rfl};{exact .inr (.inl rfl)};·exact .inr (.inr ⟨aH.2 ⟨x',h1,rfl⟩,(tL hk _ _ _).2 h2⟩)
theorem Tq{k:Int}(hk:0<k){a b:jE}{l:List jE}{y z:jE}(h:Cons (pos (sc k a) (sc k b)) (Cut (sc k a) (sc k b) (l.map (sc k))) y z):∃y' z',y=sc k y'∧z=sc k z'∧Cons (pos a b) (Cut a b l) y' z':=by
 obtain⟨y',rfl,cy⟩:=(DF hk).1 h.cx;obtain⟨z',rfl,cz⟩:=(DF hk).1 h.cy;have kk2:=pp hk hk;have e1:∀{x y:Int},k*k*x<k*k*y↔x<y:=fun{x y}=>⟨fun h=>eD h (by omega),fun h=>cN h kk2⟩;refine⟨y',z',rfl,rfl,cy,cz,?_,?_⟩;{have:=h.lt;rw[vl,vl]at this;exact e1.1 this};·rintro c hc⟨h1,h2⟩;refine h.no (sc k c) ((DF hk).2 ⟨c,rfl,hc⟩) ?_;rw[vl,vl,vl];exact⟨e1.2 h1,e1.2 h2⟩
theorem r8{k:Int}(hk:0<k){r:Ring}(h:mO r):mO (oT k r):=by
 intro s hs;rw[oU]at hs;obtain⟨t,ht,rfl⟩:=aH.1 hs;intro e;exact h t ht ((mq hk).1 e)
theorem Cj{a b:jE}(hab:a≠b){o:Ring}(he:Ends o)(hl:mO o)(hx:∀t∈jG o,kM (a,b) t=false){p:jS}(hw:0<p.2)(hp:has a b p.1 p.2)(hn:place o p≠1):∃m∈mJ (a,b) [o],place o p=place o m:=by
 obtain⟨P,w⟩:=p;simp only at hw hp;have hK:(0:Int)<2*w:=(by omega);have yh:sc (2*w) a≠sc (2*w) b:=fun e=>hab ((mq hK).1 e);have hp':has (sc (2*w) a) (sc (2*w) b) (sc 2 P) 1:=(by rw[nT hK,aV];exact(nU (by omega) a b P w).2 hp);obtain⟨y',z',hc',l1,l2⟩:=Gj yh hp' (oT (2*w) o);obtain⟨y,z,rfl,rfl,hc⟩:=Tq hK (l:=o) hc';have hm:j7 y z∈mJ (a,b) [o]:=(qC hab [o] _).2 ⟨y,z,by simpa using hc,rfl⟩;refine⟨_,hm,?_⟩;have e1:place o (P,w)=place (oT (2*w) o) (sc 2 P,1):=rN (p:=(P,w)) hw (k:=2) (by omega);have e2:place o (j7 y z)=place (oT (2*w) o) (sc w (j7 y z).1,1):=(by have:=rN (r:=o) (p:=j7 y z) (show(0:Int)<2 by omega) (k:=w) hw;rw[show w*(j7 y z).2=2*w by show w*2=2*w;omega]at this;exact this);rw[e1,e2];have c0y:=(kZ hc.cx).1;have c0z:=(kZ hc.cy).1;have f1:2*pos (sc (2*w) a) (sc (2*w) b) (sc w (j7 y z).1)=pos (sc (2*w) a) (sc (2*w) b) (sc (2*w) y)+pos (sc (2*w) a) (sc (2*w) b) (sc (2*w) z):=(by unfold pos dt sc j7;grind);have f2:2*cr (sc (2*w) a) (sc (2*w) b) (sc w (j7 y z).1) 1=cr (sc (2*w) a) (sc (2*w) b) (sc (2*w) y) 1+cr (sc (2*w) a) (sc (2*w) b) (sc (2*w) z) 1:=(by unfold cr sc j7;grind);rw[yg,yg,c0y,c0z,bD,eT]at f2
 have hlt:=hc'.lt;obtain⟨y0,y1⟩:=mh yh (kZ hc'.cx);obtain⟨z0,z1⟩:=mh yh (kZ hc'.cy);refine Ch yh (r7 he) (r8 hK hl) ?_ hc' hp' l1 l2 (rC yh (by omega) (by omega) (by omega)) (by omega) (by omega) ?_;{intro t ht;rw[oU]at ht;obtain⟨t',ht',rfl⟩:=aH.1 ht;have:=hx t' ht';rw[←Ai hK]at this;exact this};·rw[←e1];exact hn
theorem qF{r o:Ring}(hr:mO r)(ho:mO o)(he:Ends o)(hx:jU r o=false){k:Int}(hk:lies r o k=true){p:jS}(hw:0<p.2)(hp:place r p=1):place o p=1∨place o p=k:=by
 obtain⟨s,hs,h⟩:=jT.1 hp;by_cases h1:place o p=1;{exact .inl h1};right;obtain⟨m,hm,e⟩:=Cj (hr s hs) he ho (fun t ht=>by cases c:kM (s.1,s.2) t with|false=>rfl|true=>have:jU r o=true:=(by unfold jU;exact aG.2 ⟨s,hs,aG.2 ⟨t,ht,c⟩⟩);rw[hx]at this;cases this) hw h h1;rw[e];unfold lies at hk;rw[iM]at hk;by_cases g:place o m=k;{exact g};·have:((jG r).any fun s=>(mJ s [o]).any fun m=>decide (place o m≠k))=true:=aG.2 ⟨s,hs,aG.2 ⟨m,hm,ah g⟩⟩;rw[hk]at this;cases this
theorem Nc{p:jS}:∀(t:List Ring),ql t false p=true↔∀r∈t,place r p≠2:=by
 intro t;induction t with|nil=>simp[ql]|cons r t ih=>unfold ql;by_cases h:place r p=2;{simp[h]};·simp[h,ih]
def mv(v p:jE):jE:=(p.1+v.1,p.2+v.2)
structure RG(X:jL):Prop where
 kj:∀r∈X.flatten,mO r
 from_:∀r∈X.flatten,∀p∈r,∃q,(p,q)∈jG r
theorem Nd{l:List jE}(h:l≠[]):∃p∈l,∀q∈l,q=p∨kn p q:=by induction l with|nil=>exact absurd rfl h|cons a t ih=>by_cases ht:t=[];{subst ht;exact⟨a,by simp,by simp⟩};·obtain⟨p,hp,hl⟩:=ih ht;rcases tI a p with k|k|k;{refine⟨a,by simp,fun q hq=>?_⟩;rcases aD.1 hq with e|hq;{exact .inl e};·rcases hl q hq with e|e;{rw[e];exact .inr k};·exact .inr (Af k e)};{refine⟨a,by simp,fun q hq=>?_⟩;rcases aD.1 hq with e|hq;{exact .inl e};·rw[k];exact hl q hq};·refine⟨p,by simp[hp],fun q hq=>?_⟩;rcases aD.1 hq with e|hq;{rw[e];exact .inr k};·exact hl q hq
theorem kN{l:Poly}{s:jZ}:s∈kr l↔∃r∈l,s∈jG r:=by
 unfold kr;rw[bQ]
structure VR(r:Ring):Prop where
 shut:Shut r
 tw:twice r=false
 self:pS r=false
theorem um{m:jL}(h:least m=0):oC 1 m=false∧oC 2 m=false∧oC 3 m=false∧oC 4 m=false∧od m=false:=by
 unfold least at h;cases h1:oC 1 m<;>cases h2:oC 2 m<;>cases h3:oC 3 m<;>cases h4:oC 4 m<;>cases h5:od m<;>simp_all
theorem xh{m:jL}(hg:Good m)(h:oC 1 m=false):∀l∈m,∀r∈l,VR r:=by
 intro l hl r hr;have:(twice r||pS r)=false:=(by cases hx:(twice r||pS r)with|false=>rfl|true=>have:oC 1 m=true:=(by unfold oC;refine aG.2 ⟨l,hl,?_⟩;unfold pH simple;simp only[fT,fk];exact aG.2 ⟨r,hr,hx⟩);rw[h]at this;cases this);rw[cZ]at this;exact⟨hg.shut l hl r hr,this.1,this.2⟩
theorem VR.kj{r:Ring}(h:VR r):mO r:=Ld h.shut h.tw
theorem VR.meet{r:Ring}(h:VR r){i j:Nat}(hij:i<j)(hj:j+1<r.length):kW (jD r i,jD r (i+1)) (jD r j,jD r (j+1))=ri (r.length-1) i j:=by
 have hs:=h.self;cases hx:decide (kW (IZ (jG r) i) (IZ (jG r) j)≠ri (jG r).length i j)with|true=>have:pS r=true:=(by unfold pS;exact kV (i:=j) (by rw[kH];omega) (kV (i:=i) hij hx));rw[hs]at this;cases this|false=>have:=fW hx;rw[Fx (by omega),Fx (by omega),kH]at this;exact Decidable.not_not.1 this
theorem VR.adj{r:Ring}(h:VR r){i:Nat}(h1:1<=i)(hi:i<r.length):kW (jD r (i-1),jD r i) (jD r i,l8 r i)=1:=by
 have h4:=h.shut.len;unfold l8;by_cases hl:i+1<r.length;{rw[ai hl];have:=h.meet (i:=i-1) (j:=i) (by omega) hl;rw[show i-1+1=i by omega]at this;rw[this];unfold ri;rw[ai (by omega)]};·rw[ag hl,oJ];have:=h.meet (i:=0) (j:=i-1) (by omega) (by omega);rw[show i-1+1=i by omega,h.shut.eq,show r.length-1=i by omega]at this;rw[this];unfold ri;rw[ai (by omega)]
theorem U7{r:Ring}(h:Shut r){i:Nat}(hi:i<r.length):l8 r i∈r:=by
 have h4:=h.len;unfold l8;split;{rename_i k;exact bN (jM k)};·exact bN (jM (by omega))
theorem r9{r:Ring}{i:Nat}(hi:i<r.length):jD r i∈r:=bN (jM hi)
theorem Nf{p x y:jE}(hx:kn p x)(hy:kn p y):lP (p,x) (p,y)=3:=by
 unfold lP;simp only;rw[ag (fun k=>ou k k)];split<;>first|rfl|rw[ai hy]|rw[ai hx]
theorem Lj{p x y:jE}(hx:kn x p)(hy:kn y p):lP (x,p) (y,p)=3:=by
 unfold lP;simp only;rw[ag (c:=kn p p) (fun k=>ou k k)];split<;>first|rfl|rw[ai hy]|rw[ai hx]
theorem VR.turns{r:Ring}(h:VR r){i:Nat}(h1:1<=i)(hi:i<r.length)(he:(∀p∈r,p=jD r i∨kn (jD r i) p)∨(∀p∈r,p=jD r i∨kn p (jD r i))):turns r i=true:=by
 unfold Vd.turns;rw[ah h1,c9,bF];intro hz;have U8:=h.adj h1 hi;have hl:=h.kj;have s1:jD r (i-1)≠jD r i:=(by have:=hl (jD r (i-1),jD r (i-1+1)) (bN (lp (jM (by omega)) (jM (by omega))));rw[show i-1+1=i by omega]at this;exact this);have s2:jD r i≠l8 r i:=(by have h4:=h.shut.len;unfold l8;split;{rename_i k;exact hl (jD r i,jD r (i+1)) (bN (lp (jM (by omega)) (jM k)))};·have:=hl (jD r 0,jD r 1) (bN (lp (jM (by omega)) (jM (by omega))));rw[h.shut.eq,show r.length-1=i by omega]at this;exact this);have cz:cr (jD r (i-1)) (jD r i) (l8 r i) 1=0:=(rB _).1 hz;have Yk:=r9 (r:=r) (i:=i-1) (by omega);have hm2:=U7 h.shut hi;generalize jD r (i-1)=x at*;generalize l8 r i=y at*;generalize jD r i=p at*;have z1:=sJ x p;obtain⟨z3,z4⟩:=sR s1 z1 cz;have hm:kW (x,p) (p,y)=lP (fwd x p) (fwd p y):=(by unfold kW Vd.meet;simp[z1,cz,z3,z4,sg]);rw[hm]at U8;rcases he with he|he;·have b1:kn p x:=(by rcases he x Yk with e|e;exact absurd e s1;exact e);have b2:kn p y:=(by rcases he y hm2 with e|e;exact absurd e.symm s2;exact e);have e1:fwd x p=(p,x):=(by unfold fwd;rw[ai b1]);have e2:fwd p y=(p,y):=(by unfold fwd;rw[ag (fun k=>ou b2 k)]);rw[e1,e2,Nf b1 b2]at U8;omega
 ·have b1:kn x p:=(by rcases he x Yk with e|e;exact absurd e s1;exact e);have b2:kn y p:=(by rcases he y hm2 with e|e;exact absurd e.symm s2;exact e);have e1:fwd x p=(x,p):=(by unfold fwd;rw[ag (fun k=>ou b1 k)]);have e2:fwd p y=(y,p):=(by unfold fwd;rw[ai b2]);rw[e1,e2,Lj b1 b2]at U8;omega
theorem Ng{l:List jE}(h:l≠[]):∃p∈l,∀q∈l,q=p∨kn q p:=by induction l with|nil=>exact absurd rfl h|cons a t ih=>by_cases ht:t=[];{subst ht;exact⟨a,by simp,by simp⟩};·obtain⟨p,hp,hl⟩:=ih ht;rcases tI p a with k|k|k;{refine⟨a,by simp,fun q hq=>?_⟩;rcases aD.1 hq with e|hq;{exact .inl e};·rcases hl q hq with e|e;{rw[e];exact .inr k};·exact .inr (Af e k)};{refine⟨a,by simp,fun q hq=>?_⟩;rcases aD.1 hq with e|hq;{exact .inl e};·rw[←k];exact hl q hq};·refine⟨p,by simp[hp],fun q hq=>?_⟩;rcases aD.1 hq with e|hq;{rw[e];exact .inr k};·exact hl q hq
theorem si{r:Ring}(h:Shut r){p:jE}(hp:p∈r):∃i,1<=i∧i<r.length∧jD r i=p:=by
 obtain⟨i,hi,e⟩:=ff hp;have e':jD r i=p:=(by have:=jM hi;rw[aI hi,e]at this;exact(aO this).symm);have h4:=h.len;by_cases h0:i=0;{exact⟨r.length-1,by omega,by omega,by rw[←h.eq,←h0];exact e'⟩};·exact⟨i,by omega,hi,e'⟩
theorem zj{r:Ring}{p:jE}:p∈jJ r↔∃i,i<r.length∧Vd.turns r i=true∧jD r i=p:=by
 unfold jJ kX;simp only[aH,bL,aU];constructor;{rintro⟨i,⟨h1,h2⟩,h3⟩;exact⟨i,h1,h2,h3⟩};·rintro⟨i,h1,h2,h3⟩;exact⟨i,⟨h1,h2⟩,h3⟩
theorem U9{f:Nat->jE}{l:List Nat}(h:l.Nodup)(hf:∀x∈l,∀y∈l,f x=f y->x=y):(l.map f).Nodup:=by induction l with|nil=>exact fE|cons a t ih=>rw[b8]at h;rw[cD,b8];refine⟨?_,ih h.2 fun x hx y hy=>hf x (by simp[hx]) y (by simp[hy])⟩;intro hm;obtain⟨b,hb,e⟩:=aH.1 hm;have:=hf b (by simp[hb]) a (by simp) e;exact h.1 (this▸hb)
theorem VR.tM{r:Ring}(h:VR r):(jJ r).Nodup:=by
 unfold jJ kX;refine U9 (List.Pairwise.filter _ gq) ?_;intro x hx y hy e;have hx1:=bL.1 hx;have hy1:=bL.1 hy;have hx2:=aU.1 hx1.1;have XE:=aU.1 hy1.1;have hx3:1<=x:=(by have:=hx1.2;unfold Vd.turns at this;simp only[bT,bF]at this;exact this.1);have hy3:1<=y:=(by have:=hy1.2;unfold Vd.turns at this;simp only[bT,bF]at this;exact this.1);rcases dM x y with k|k|k;{have:twice r=true:=mS.2 ⟨x,y,hx3,k,XE,e⟩;rw[h.tw]at this;cases this};{exact k};·have:twice r=true:=mS.2 ⟨y,x,hy3,k,hx2,e.symm⟩;rw[h.tw]at this;cases this
theorem VR.wG{r:Ring}(h:VR r):2<=(jJ r).length:=by
 have hne:r≠[]:=(by intro e;have:=h.shut.len;rw[e]at this;simp at this);obtain⟨p,hp,Fe⟩:=Nd hne;obtain⟨q,hq,hql⟩:=Ng hne;obtain⟨i,i1,i2,i3⟩:=si h.shut hp;obtain⟨j,j1,j2,j3⟩:=si h.shut hq;have m1:p∈jJ r:=zj.2 ⟨i,i2,h.turns i1 i2 (.inl (by rw[i3];exact Fe)),i3⟩;have m2:q∈jJ r:=zj.2 ⟨j,j2,h.turns j1 j2 (.inr (by rw[j3];exact hql)),j3⟩;have hpq:p≠q:=(by intro e;have h4:=h.shut.len;have h0:=r9 (r:=r) (i:=1) (by omega);have h2:=r9 (r:=r) (i:=2) (by omega);have hl:=h.kj (jD r 1,jD r 2) (bN (lp (jM (by omega)) (jM (by omega))));have one:∀x∈r,x=p:=(by intro x hx;rcases Fe x hx with k|k;{exact k};·rcases hql x hx with k2|k2;{rw[k2,e]};·rw[←e]at k2;exact(ou k k2).elim);exact hl (by rw[one _ h0,one _ h2]));match hc:jJ r with|[]=>rw[hc]at m1;cases m1|[x]=>rw[hc]at m1 m2;simp at m1 m2;exact absurd (m1.trans m2.symm) hpq|x::y::t=>simp
theorem Ck{r:Ring}(h:0<(jJ r).length)(b:Bool):(jP r b).length=(jJ r).length+1:=by
 unfold jP;rw[ag (by omega)];simp
theorem wH{r:Ring}(h:0<(jJ r).length)(b:Bool){i:Nat}(hi:i<(jJ r).length+1):jD (jP r b) i=jD (jJ r) ((kg (jJ r)+i*ve (jJ r) b)%(jJ r).length):=by
 unfold jP;rw[ag (by omega)];unfold jD;rw[az,aE,cF hi];rfl
theorem Gk(v:Ring)(b:Bool):ve v b=1∨ve v b=v.length-1:=by
 unfold ve;split;exact .inl rfl;exact .inr rfl
theorem Yl{v:Ring}(h:v.Nodup){i j:Nat}(hi:i<v.length)(hj:j<v.length)(e:jD v i=jD v j):i=j:=by
 have h1:=jM hi;have h2:=jM hj;rw[e,←h2]at h1;exact(List.getElem?_inj hi h).1 h1
theorem Ym{a k s n:Nat}(hn:2<=n)(hs:s=1∨s=n-1):(a+k*s)%n≠(a+(k+1)*s)%n:=by
 have e:a+(k+1)*s=a+k*s+s:=(by rw[ju];omega);rw[e];generalize a+k*s=x;intro h;have h1:(x+s)%n=(x%n+s)%n:=(e9 x n s).symm;rw[h1]at h;have h2:=cC x (show 0<n by omega);generalize x%n=y at*;rcases hs with rfl|rfl;{by_cases h3:y+1<n;{rw[bZ h3]at h;omega};·rw[show y+1=n by omega,fX]at h;omega};·by_cases h3:y=0;{rw[h3,cL,bZ (by omega)]at h;omega};·rw[Nat.mod_eq_sub_mod (by omega),bZ (by omega)]at h;omega
theorem VR.U'{r:Ring}(h:VR r)(b:Bool):mO (jP r b):=by
 have h2:=h.wG;intro s hs;obtain⟨i,hi,rfl⟩:=pE hs;rw[Ck (by omega)]at hi;rw[wH (by omega) b (by omega),wH (by omega) b hi];intro e;have:=Yl h.tM (cC _ (by omega)) (cC _ (by omega)) e;exact Ym h2 (Gk _ b) this
theorem Va(m:jL):∀(is:List Nat)(o:jL),(∀i∈is,i<m.length)->∀l∈is.foldl (Qg m) o,l∈m∨l∈o:=by
 intro is;induction is with|nil=>intro o _ l hl;exact .inr hl|cons i t ih=>intro o hi l hl;rw[dP]at hl;rcases ih _ (fun x hx=>hi x (by simp[hx])) l hl with h|h;{exact .inl h};·unfold Qg at h;rcases List.mem_or_eq_of_mem_set h with h|h;{exact .inr h};·exact .inl (h▸jR (hi i (by simp)))
theorem EC{m:jL}{l:Poly}(h:l∈lN m):l∈m∨l=[]:=by
 unfold lN X6 at h;rcases Va m _ _ (fun i hi=>aU.1 hi) l h with h|h;{exact .inl h};·exact .inr (List.eq_of_mem_replicate h)
theorem Gl{m:jL}{r:Ring}(h:r∈(form m).flatten):∃l∈m,∃o∈l,∃b,r=jP o b:=by
 obtain⟨l,hl,hr⟩:=bh.1 h;unfold form at hl;rcases EC hl with h1|h1;{obtain⟨l0,h0,rfl⟩:=aH.1 h1;refine⟨l0,h0,?_⟩;cases l0 with|nil=>cases hr|cons o t=>rcases aD.1 hr with e|e;{exact⟨o,by simp,true,e⟩};·obtain⟨l1,h2,h3⟩:=bh.1 e;rcases EC h2 with h4|h4;{obtain⟨o1,h5,rfl⟩:=aH.1 h4;exact⟨o1,by simp[h5],false,by simpa using h3⟩};·rw[h4]at h3;cases h3};·rw[h1]at hr;cases hr
theorem yj{a b z:jE}(h:has a b z 1):¬kn z (fwd a b).1∧¬kn (fwd a b).2 z:=by
 obtain⟨h0,h1,h2⟩:=h;have key:∀{a b:jE},¬kn b a->cr a b z 1=0->mP (a.1*1) z.1 (b.1*1)->mP (a.2*1) z.2 (b.2*1)->¬kn z a∧¬kn b z:=(by intro a b hab h0 h1 h2;unfold cr at h0;unfold mP at h1 h2;unfold kn at*;simp only[aV]at h0 h1 h2;by_cases e:a.1=b.1;{omega};·have hlt:a.1<b.1:=(by omega);constructor;{rintro(g|⟨g1,g2⟩);{omega};·rw[g1,je,bD,iE]at h0;rcases aL.1 h0 with q|q<;>omega};·rintro(g|⟨g1,g2⟩);{omega};·have:(b.1-a.1)*(z.2-b.2)=0:=(by have:(b.1-a.1)*(z.2-b.2)=(b.1-a.1)*(z.2-a.2)-(b.2-a.2)*(z.1-a.1):=(by rw[←g1];grind);omega);rcases aL.1 this with q|q<;>omega);unfold fwd;by_cases hb:kn b a;{rw[ai hb];exact key (a:=b) (b:=a) (fun h=>ou hb h) (by rw[oc,h0];rfl) (by unfold mP at*;omega) (by unfold mP at*;omega)};·rw[ag hb];exact key hb h0 h1 h2
theorem Vb{s t:jZ}{z:jE}(h1:¬kn z s.1)(h2:¬kn s.2 z)(h3:¬kn z t.1)(h4:¬kn t.2 z):lP s t≠0:=by
 unfold lP;have f:¬kn z (if kn s.1 t.1 then t.1 else s.1):=(by split<;>assumption);have l:¬kn (if kn t.2 s.2 then t.2 else s.2) z:=(by split<;>assumption);generalize(if kn s.1 t.1 then t.1 else s.1)=F at*;generalize(if kn t.2 s.2 then t.2 else s.2)=L at*;by_cases c1:kn F L;{simp[c1]};·by_cases c2:F=L;{subst c2;simp[c1]};·exfalso;rcases tI F L with g|g|g;{exact c1 g};{exact c2 g};·unfold kn at*;omega
theorem Gm{s t:jZ}{z z':jE}(hz:kn z z')(h1:¬kn z s.1)(h4:¬kn z t.1)(k2:¬kn s.2 z')(k4:¬kn t.2 z'):lP s t=3:=by
 unfold lP;have f:¬kn z (if kn s.1 t.1 then t.1 else s.1):=(by split<;>assumption);have l:¬kn (if kn t.2 s.2 then t.2 else s.2) z':=(by split<;>assumption);generalize(if kn s.1 t.1 then t.1 else s.1)=F at*;generalize(if kn t.2 s.2 then t.2 else s.2)=L at*;have:kn F L:=(by unfold kn at*;omega);simp[this]
theorem JF{x y p q k z:Int}(hk:0<k)(hp:0<=p)(hq:0<=q)(hs:0<p+q)(e:k*z=p*x+q*y)(hz:z=0):¬(0<x*y):=by
 intro h;rw[hz,bD]at e;rcases(zi x y).2 h with⟨g1,g2⟩|⟨g1,g2⟩;{by_cases p1:0<p;{have:=pp p1 g1;have:=p0 hq (bJ g2);omega};·have:=p0 hp (bJ g1);have:=pp (show 0<q by omega) g2;omega};·by_cases p1:0<p;{have:=pn p1 g1;have:=m0 hq (bJ g2);omega};·have:=m0 hp (bJ g1);have:=pn (show 0<q by omega) g2;omega
theorem FA(x y:Int):sg x*sg y>0↔0<x*y:=by
 rcases kz x with⟨h,e⟩|⟨h,e⟩|⟨h,e⟩<;>rcases kz y with⟨k,f⟩|⟨k,f⟩|⟨k,f⟩<;>rw[e,f];{have:=pp h k;omega};{rw[k];simp};{have:=pn h k;omega};{rw[h];simp};{rw[h];simp};{rw[h];simp};{have:=np h k;omega};{rw[k];simp};·have:=Th h k;omega
theorem pJ{a b c d z:jE}(hab:a≠b)(hcd:c≠d)(h1:has a b z 1)(h2:has c d z 1):meet a b c d≠0:=by
 have k1:=lI hab;have k2:=lI hcd;obtain⟨p1,p2⟩:=mh hab h1;obtain⟨q1,q2⟩:=mh hcd h2;have e1:=wE h2.1 a b;have e2:=wE h1.1 c d;have n1:=JF k2 (by omega) q1 (by omega) e1 h1.1;have n2:=JF k1 (by omega) p1 (by omega) e2 h2.1;unfold meet;simp only;split;{obtain⟨f1,f2⟩:=yj h1;obtain⟨f3,f4⟩:=yj h2;exact Vb f1 f2 f3 f4};·rw[ag (by rw[FA,FA];omega)];split<;>omega
theorem Bv{a b z z':jE}(hz:z≠z')(h1:cr a b z 1=0)(h2:cr a b z' 1=0){c:jE}(h3:cr z z' c 1=0)(hab:a≠b):cr a b c 1=0:=by
 have hk:=lI hab;have e:=qY h1 h2 c;rw[h3,bD]at e;rcases aL.1 e.symm with q|q;{exact absurd (tJ hab h1 h2 (by omega)) hz};·exact q
theorem Tr{a b z z':jE}(hz:z≠z')(hab:a≠b)(h1:cr a b z 1=0)(h2:cr a b z' 1=0):cr z z' a 1=0∧cr z z' b 1=0:=by
 have hk:=lI hab;have e1:=qY h1 h2 a;have e2:=qY h1 h2 b;rw[tR,bD]at e1;rw[sJ,bD]at e2;constructor;{rcases aL.1 e1 with q|q<;>omega};·rcases aL.1 e2 with q|q<;>omega
theorem mQ{a b c d z z':jE}(hab:a≠b)(hcd:c≠d)(hz:z≠z')(h1:has a b z 1)(h2:has c d z 1)(h3:has a b z' 1)(h4:has c d z' 1):meet a b c d=3:=by
 obtain⟨x1,x2⟩:=Tr hz hab h1.1 h3.1;obtain⟨y1,y2⟩:=Tr hz hcd h2.1 h4.1;have z1:cr a b c 1=0:=Bv hz h1.1 h3.1 y1 hab;have z2:cr a b d 1=0:=Bv hz h1.1 h3.1 y2 hab;have z3:cr c d a 1=0:=Bv hz h2.1 h4.1 x1 hcd;have z4:cr c d b 1=0:=Bv hz h2.1 h4.1 x2 hcd;unfold meet;simp only[z1,z2,z3,z4];rw[ai (by simp[sg])];obtain⟨f1,f2⟩:=yj h1;obtain⟨f3,f4⟩:=yj h2;obtain⟨g1,g2⟩:=yj h3;obtain⟨g3,g4⟩:=yj h4;rcases tI z z' with h|h|h;{exact Gm h f1 f3 g2 g4};{exact absurd h hz};·exact Gm h g1 g3 f2 f4
theorem oL(p1:Ring)(a b:jE)(p2:Ring):jG (p1++a::b::p2)=jG (p1++[a])++(a,b)::jG (b::p2):=by induction p1 with|nil=>rfl|cons x p1 ih=>cases p1 with|nil=>rfl|cons y p1=>rw[bg,bg,mo,bg,bg,mo];rw[bg,bg]at ih;rw[ih];rfl
def rY(p1:Ring)(a b:jE)(p2:Ring):List jZ:=jG (p1++[a])++jG (b::p2)
theorem mI{p1:Ring}{a b:jE}{p2:Ring}{s:jZ}:s∈jG (p1++a::b::p2)↔s=(a,b)∨s∈rY p1 a b p2:=by
 rw[oL];unfold rY;simp only[aC,aD];constructor;{rintro(h|h|h);{exact .inr (.inl h)};{exact .inl h};·exact .inr (.inr h)};·rintro(h|h|h);{exact .inr (.inl h)};{exact .inl h};·exact .inr (.inr h)
theorem Nh(p1:Ring)(a b:jE)(p2:Ring)(x:jS):ki (jG (p1++a::b::p2)) x=(p9 a b x.1 x.2^^ki (rY p1 a b p2) x):=by
 rw[oL,mD,kF];unfold rY;rw[mD];generalize ki (jG (p1++[a])) x=u;generalize ki (jG (b::p2)) x=v;generalize p9 a b x.1 x.2=w;cases u<;>cases v<;>cases w<;>rfl
theorem DG{p1:Ring}{a b:jE}{p2:Ring}(hr:Ends (p1++a::b::p2)){x m:jE}(h:∀s∈rY p1 a b p2,Gd x m s.1 s.2)(hx:∀s∈rY p1 a b p2,¬Xs x m s.1 s.2):(ki (rY p1 a b p2) (x,1)^^ki (rY p1 a b p2) (m,1))=(wW x m a^^wW x m b):=by
 unfold rY at*;obtain⟨u,t,e⟩:∃u t,p1++[a]=u::t:=(by cases p1 with|nil=>exact⟨a,[],rfl⟩|cons y p1=>exact⟨y,p1++[a],rfl⟩);have k1:=Bu x m t u (fun s hs=>h s (by rw[aC,e];exact .inl hs));have k2:=Bu x m p2 b (fun s hs=>h s (by rw[aC];exact .inr hs));have l1:(u::t).getLast (by simp)=a:=(by have:(p1++[a]).getLast (by simp)=a:=(by simp);simpa only[e]using this);have l2:u=(b::p2).getLast (by simp):=(by unfold Ends at hr;have h1:(p1++a::b::p2).head?=some u:=(by have:p1++a::b::p2=(p1++[a])++b::p2:=(by simp);rw[this,e];rfl);have h2:(p1++a::b::p2).getLast?=some ((b::p2).getLast (by simp)):=(by rw[dZ,c8,eK (by simp)];rfl);rw[h1,h2]at hr;exact aO hr);rw[zh (fun s hs=>hx s (by rw[aC,e];exact .inl hs)),l1]at k1;rw[zh (fun s hs=>hx s (by rw[aC];exact .inr hs)),←l2]at k2;rw[mD,mD,e];revert k1 k2;generalize ki (jG (u::t)) (x,1)=x1;generalize ki (jG (u::t)) (m,1)=x2;generalize ki (jG (b::p2)) (x,1)=x3;generalize ki (jG (b::p2)) (m,1)=x4;generalize wW x m u=x5;generalize wW x m a=x6;generalize wW x m b=x7;revert x1 x2 x3 x4 x5 x6 x7;decide
def yl(a b:jE):Bool:=decide (a.2<b.2∨(a.2=b.2∧b.1<a.1))
theorem Gn{a b:jE}(h:a≠b):yl b a=!yl a b:=by
 unfold yl;by_cases c:a.2<b.2∨(a.2=b.2∧b.1<a.1);{rw[ah c,aA (by omega)];rfl};·rw[aA c,ah];{rfl};·by_cases e:a.2=b.2;{have:a.1≠b.1:=fun q=>h (cJ q e);omega};·omega
structure pg(a b m:jE):Prop where
 on:has a b m 1
 na:m≠a
 nb:m≠b
theorem pK{a b m:jE}(hab:a≠b)(h:pg a b m):0<pos a b m∧pos a b m<kk a b:=by
 obtain⟨h1,h2⟩:=mh hab h.on;constructor;{rcases eO h1 with g|g;{exact g};·exact absurd (tJ hab h.on.1 (tR a b) (by rw[q9];omega)) h.na};·rcases eO h2 with g|g;{exact g};·exact absurd (tJ hab h.on.1 (sJ a b) (by rw[tQ];omega)) h.nb
theorem Gp{a b m x:jE}(hab:a≠b)(h:pg a b m):kk a b*cr x m a 1=-(pos a b m)*cr a b x 1∧kk a b*cr x m b 1=(kk a b-pos a b m)*cr a b x 1:=by
 obtain⟨e1,e2⟩:=Cg h.on.1;have h0:=h.on.1;have f:cr a b x 1=(m.1-x.1)*(b.2-a.2)-(m.2-x.2)*(b.1-a.1):=(by have:=Tm h0 x;rw[←this];grind);have g1:cr x m a 1=(m.1-x.1)*(a.2-m.2)-(m.2-x.2)*(a.1-m.1):=(by unfold cr;grind);have g2:cr x m b 1=(m.1-x.1)*(b.2-m.2)-(m.2-x.2)*(b.1-m.1):=(by unfold cr;grind);have i1:kk a b*(a.2-m.2)=-(pos a b m)*(b.2-a.2):=(by grind);have i2:kk a b*(a.1-m.1)=-(pos a b m)*(b.1-a.1):=(by grind);have i3:kk a b*(b.2-m.2)=(kk a b-pos a b m)*(b.2-a.2):=(by grind);have i4:kk a b*(b.1-m.1)=(kk a b-pos a b m)*(b.1-a.1):=(by grind);rw[f,g1,g2];generalize kk a b=K at*;generalize pos a b m=D at*;generalize m.1-x.1=u at*;generalize m.2-x.2=v at*;constructor;{have:K*(u*(a.2-m.2)-v*(a.1-m.1))=u*(K*(a.2-m.2))-v*(K*(a.1-m.1)):=(by grind);rw[this,i1,i2];grind};·have:K*(u*(b.2-m.2)-v*(b.1-m.1))=u*(K*(b.2-m.2))-v*(K*(b.1-m.1)):=(by grind);rw[this,i3,i4];grind
theorem Ts{a b m:jE}(hab:a≠b)(h:pg a b m):(a.2<m.2∧m.2<b.2)∨(b.2<m.2∧m.2<a.2)∨(a.2=m.2∧m.2=b.2):=by
 have hk:=lI hab;obtain⟨p1,p2⟩:=pK hab h;obtain⟨e1,e2⟩:=Cg h.on.1;have i1:kk a b*(m.2-a.2)=pos a b m*(b.2-a.2):=(by grind);have i3:kk a b*(b.2-m.2)=(kk a b-pos a b m)*(b.2-a.2):=(by grind);have s1:=kD hk i1;have s2:=kD hk i3;have t1:=kD p1 (rfl:pos a b m*(b.2-a.2)=_);have t2:=kD (show 0<kk a b-pos a b m by omega) (rfl:(kk a b-pos a b m)*(b.2-a.2)=_);omega
theorem Gq{a b m x:jE}(hab:a≠b)(h:pg a b m)(hx:0<cr a b x 1):(p9 a b x 1^^(wW x m a^^wW x m b))=yl a b:=by
 have hk:=lI hab;obtain⟨p1,p2⟩:=pK hab h;obtain⟨e1,e2⟩:=Gp (x:=x) hab h;have s1:=kD hk e1;have s2:=kD hk e2;have t1:-(pos a b m)*cr a b x 1<0:=np (by omega) hx;have t2:0<(kk a b-pos a b m)*cr a b x 1:=pp (by omega) hx;have ca:cr x m a 1<0:=s1.2.1.2 t1;have cb:0<cr x m b 1:=s2.1.2 t2;have ca':cr m x a 1=-cr x m a 1:=oc x m a 1;have cb':cr m x b 1=-cr x m b 1:=oc x m b 1;have hy:=Ts hab h;rw[qO];unfold wW dR yl;have flat:a.2=b.2->cr a b x 1=(b.1-a.1)*(x.2-a.2):=(by intro e;unfold cr;rw[e];simp);have hf:a.2=b.2->(b.1<a.1↔x.2<a.2)∧x.2≠a.2:=(by intro e;have:=flat e;rw[this]at hx;have:=(zi (b.1-a.1) (x.2-a.2)).2 hx;omega);clear e1 e2 s1 s2 t1 t2 flat;rcases b7 x.2 m.2 with g|g|g;{rw[ai g,ai g];by_cases c1:a.2-x.2<=0∧0<b.2-x.2∧0<cr a b x 1∨b.2-x.2<=0∧0<a.2-x.2∧cr a b x 1<0<;>by_cases c2:x.2<a.2∧a.2<=m.2∧cr x m a 1<0<;>by_cases c3:x.2<b.2∧b.2<=m.2∧cr x m b 1<0<;>by_cases c4:a.2<b.2∨(a.2=b.2∧b.1<a.1)<;>first|(simp only[c1,c2,c3,c4,fH,fm];rfl)|(exfalso;omega)};·rw[ag (by omega),ag (by omega),ag (by omega),ag (by omega)];by_cases c1:a.2-x.2<=0∧0<b.2-x.2∧0<cr a b x 1∨b.2-x.2<=0∧0<a.2-x.2∧cr a b x 1<0<;>by_cases c4:a.2<b.2∨(a.2=b.2∧b.1<a.1)<;>first|(simp only[c1,c4,fH,fm];rfl)|(exfalso;omega)
 ·rw[ag (by omega),ai g,ag (by omega),ai g];by_cases c1:a.2-x.2<=0∧0<b.2-x.2∧0<cr a b x 1∨b.2-x.2<=0∧0<a.2-x.2∧cr a b x 1<0<;>by_cases c2:m.2<a.2∧a.2<=x.2∧cr m x a 1<0<;>by_cases c3:m.2<b.2∧b.2<=x.2∧cr m x b 1<0<;>by_cases c4:a.2<b.2∨(a.2=b.2∧b.1<a.1)<;>first|(simp only[c1,c2,c3,c4,fH,fm];rfl)|(exfalso;omega)
theorem Gs(a b x:jE):p9 a b x 1=p9 b a x 1:=by
 rw[qO,qO,oc a b x 1];exact bI.2 (by omega)
theorem Ni{a b m x:jE}(hab:a≠b)(h:pg a b m)(hx:cr a b x 1<0):(p9 a b x 1^^(wW x m a^^wW x m b))=!yl a b:=by
 have:=Gq (a:=b) (b:=a) (m:=m) (x:=x) (dh hab) ⟨oD.1 h.on,h.nb,h.na⟩ (by rw[oc];omega);rw[←Gn hab,←this,Gs,Bool.xor_comm (wW x m a)]
theorem uQ{p1 p2:Ring}{i:Nat}(h:i<p1.length):jD (p1++p2) i=jD p1 i:=by
 unfold jD;rw[az,az,aT h]
theorem rO{p1 p2:Ring}(i:Nat):jD (p1++p2) (p1.length+i)=jD p2 i:=by
 unfold jD;rw[az,az,aK (by omega),show p1.length+i-p1.length=i by omega]
theorem Yn{p1:Ring}{a b:jE}{p2:Ring}{s:jZ}(h:s∈rY p1 a b p2):∃j,j≠p1.length∧j+1<(p1++a::b::p2).length∧s=(jD (p1++a::b::p2) j,jD (p1++a::b::p2) (j+1)):=by
 unfold rY at h;rcases aC.1 h with h|h;{obtain⟨j,hj,e⟩:=pE h;have hj':j+1<p1.length+1:=(by simpa using hj);refine⟨j,by omega,by simp;omega,?_⟩;have e2:p1++a::b::p2=(p1++[a])++b::p2:=(by simp);rw[e2,uQ (p1:=p1++[a]) (i:=j) (by simp;omega),uQ (p1:=p1++[a]) (i:=j+1) (by simp;omega)];exact e};·obtain⟨j,hj,e⟩:=pE h;refine⟨p1.length+(1+j),by omega,by simp at hj⊢;omega,?_⟩;have e2:p1++a::b::p2=(p1++[a])++b::p2:=(by simp);have l1:p1.length+(1+j)=(p1++[a]).length+j:=(by simp;omega);rw[e2,l1,rO,show(p1++[a]).length+j+1=(p1++[a]).length+(j+1)by omega,rO];exact e
theorem Tt(p1:Ring)(a b:jE)(p2:Ring):jD (p1++a::b::p2) p1.length=a∧jD (p1++a::b::p2) (p1.length+1)=b:=by
 constructor;{have:=rO (p1:=p1) (p2:=a::b::p2) 0;simpa[jD]using this};·rw[rO 1];rfl
theorem VR.other{p1:Ring}{a b:jE}{p2:Ring}(h:VR (p1++a::b::p2)){s:jZ}(hs:s∈rY p1 a b p2):Vd.meet a b s.1 s.2=0∨(Vd.meet a b s.1 s.2=1∧(s.1=b∨s.2=a)):=by
 obtain⟨j,hj,hl,rfl⟩:=Yn hs;obtain⟨ha,hb⟩:=Tt p1 a b p2;have hlen:(p1++a::b::p2).length=p1.length+2+p2.length:=(by simp;omega);have heq:=h.shut.eq;rcases bK j p1.length with g|g;{have k:=h.meet (i:=j) (j:=p1.length) g (by omega);rw[ha,hb]at k;unfold kW at k;simp only at k;rw[DB];simp only;rw[k];unfold ri;by_cases c:j+1=p1.length∨(j=0∧p1.length+1=(p1++a::b::p2).length-1);{rw[ai c];refine .inr ⟨rfl,?_⟩;rcases c with c|⟨c,c'⟩;{right;rw[c];exact ha};·left;rw[c,heq,←c'];exact hb};·rw[ag c];exact .inl rfl};·have k:=h.meet (i:=p1.length) (j:=j) (by omega) hl;rw[ha,hb]at k;unfold kW at k;simp only at k⊢;rw[k];unfold ri;by_cases c:p1.length+1=j∨(p1.length=0∧j+1=(p1++a::b::p2).length-1);{rw[ai c];refine .inr ⟨rfl,?_⟩;rcases c with c|⟨c,c'⟩;{left;rw[←c];exact hb};·right;rw[c',←heq,←c];exact ha};·rw[ag c];exact .inl rfl
theorem VR.here{p1:Ring}{a b:jE}{p2:Ring}(h:VR (p1++a::b::p2)):a≠b:=h.kj (a,b) (mI.2 (.inl rfl))
theorem VR.qG{p1:Ring}{a b:jE}{p2:Ring}(h:VR (p1++a::b::p2)){s:jZ}(hs:s∈rY p1 a b p2):s.1≠s.2:=h.kj s (mI.2 (.inr hs))
theorem VR.off{p1:Ring}{a b:jE}{p2:Ring}(h:VR (p1++a::b::p2)){s:jZ}(hs:s∈rY p1 a b p2){m:jE}(hm:pg a b m):¬has s.1 s.2 m 1:=by
 intro hh;rcases h.other hs with e|⟨e,c⟩;{exact pJ h.here (h.qG hs) hm.on hh e};·rcases c with c|c;{have:=mQ h.here (h.qG hs) hm.nb hm.on hh (nS a b) (by rw[←c];exact pq _ _);omega};·have:=mQ h.here (h.qG hs) hm.na hm.on hh (pq a b) (by rw[←c];exact nS _ _);omega
theorem Yo{a b m m' c:jE}(hab:a≠b)(hm:pg a b m)(hm':pg a b m')(h:has m m' c 1):pg a b c:=by
 by_cases e:m=m';{subst e;have:c=m:=(by have h1:=h.2.1;have h2:=h.2.2;unfold mP at h1 h2;exact cJ (by omega) (by omega));rw[this];exact hm};·obtain⟨h0,hb⟩:=wF hab e hm.on.1 hm'.on.1 h;obtain⟨a1,a2⟩:=pK hab hm;obtain⟨b1,b2⟩:=pK hab hm';have q1:0<pos a b c∧pos a b c<kk a b:=(by unfold mP at hb;omega);refine⟨rC hab h0 (by omega) (by omega),?_,?_⟩;{rintro rfl;rw[q9]at q1;omega};·rintro rfl;rw[tQ]at q1;omega
theorem VR.along{p1:Ring}{a b:jE}{p2:Ring}(h:VR (p1++a::b::p2)){m m':jE}(hm:pg a b m)(hm':pg a b m'){s:jZ}(hs:s∈rY p1 a b p2):Gd m m' s.1 s.2∧¬Xs m m' s.1 s.2:=by
 have hab:=h.here;have hk:=lI hab;refine⟨⟨fun k=>h.off hs (Yo hab hm hm' k) (pq _ _),fun k=>h.off hs (Yo hab hm hm' k) (nS _ _),h.off hs hm,h.off hs hm'⟩,?_⟩;rintro⟨o1,o2⟩;obtain⟨a1,a2⟩:=pK hab hm;obtain⟨b1,b2⟩:=pK hab hm';have e1:=wE hm.on.1 s.1 s.2;have e2:=wE hm'.on.1 s.1 s.2;have o3:=Gh (by omega) (by omega) (by omega) (by omega) hk e1 e2 o2;have d1:=qY hm.on.1 hm'.on.1 s.1;have d2:=qY hm.on.1 hm'.on.1 s.2;have s1:=kD hk d1;have s2:=kD hk d2;have m1:=zi (pos a b m'-pos a b m) (cr a b s.1 1);have m2:=zi (pos a b m'-pos a b m) (cr a b s.2 1);have o4:oR (cr a b s.1 1) (cr a b s.2 1):=(by unfold oR at o1⊢;omega);have:=Gi o4 o3;rcases h.other hs with e|⟨e,-⟩<;>omega
theorem Cl{p q v:jE}(h:cr p q v 1=0):wW p q v=false:=by
 unfold wW dR;rw[oc p q v 1,h];simp
def Lh(p1:Ring)(a b:jE)(p2:Ring)(m:jS):Bool:=ki (rY p1 a b p2) m^^yl a b
theorem VR.aci{p1:Ring}{a b:jE}{p2:Ring}(h:VR (p1++a::b::p2)){m m':jE}(hm:pg a b m)(hm':pg a b m'):Lh p1 a b p2 (m,1)=Lh p1 a b p2 (m',1):=by
 have k:=DG (jW h.shut) (x:=m) (m:=m') (fun s hs=>(h.along hm hm' hs).1) (fun s hs=>(h.along hm hm' hs).2);have hab:=h.here;have hk:=lI hab;have z1:cr m m' a 1=0:=(by have:=qY hm.on.1 hm'.on.1 a;rw[tR,bD]at this;rcases aL.1 this with q|q<;>omega);have z2:cr m m' b 1=0:=(by have:=qY hm.on.1 hm'.on.1 b;rw[sJ,bD]at this;rcases aL.1 this with q|q<;>omega);rw[Cl z1,Cl z2]at k;unfold Lh;revert k;generalize ki (rY p1 a b p2) (m,1)=x;generalize ki (rY p1 a b p2) (m',1)=y;generalize yl a b=z;cases x<;>cases y<;>cases z<;>simp
structure Bes(p1:Ring)(a b:jE)(p2:Ring)(m x:jE):Prop where
 ins:pg a b m
 off:∀s∈rY p1 a b p2,Gd x m s.1 s.2
 nx:∀s∈rY p1 a b p2,¬Xs x m s.1 s.2
theorem beside{p1:Ring}{a b:jE}{p2:Ring}(hr:Ends (p1++a::b::p2))(hab:a≠b){m x:jE}(h:Bes p1 a b p2 m x)(hx:cr a b x 1≠0):place (p1++a::b::p2) (x,1)=if(0<cr a b x 1↔Lh p1 a b p2 (m,1)=true)then 2 else 0:=by
 have k:=DG hr h.off h.nx;have hn:∀s∈jG (p1++a::b::p2),¬has s.1 s.2 x 1:=(by intro s hs;rcases mI.1 hs with rfl|hs;{exact fun q=>hx q.1};·exact(h.off s hs).hp);rw[mZ (p:=(x,1)) hn,Nh];unfold Lh;rcases eN hx with g|g;{have l:=Ni hab h.ins g;have ng:¬0<cr a b x 1:=(by omega);simp only[ng,false_iff];revert k l;generalize ki (rY p1 a b p2) (x,1)=x1;generalize ki (rY p1 a b p2) (m,1)=x2;generalize wW x m a=x3;generalize wW x m b=x4;generalize p9 a b x 1=x5;generalize yl a b=x6;revert x1 x2 x3 x4 x5 x6;decide};·have l:=Gq hab h.ins g;simp only[g,true_iff];revert k l;generalize ki (rY p1 a b p2) (x,1)=x1;generalize ki (rY p1 a b p2) (m,1)=x2;generalize wW x m a=x3;generalize wW x m b=x4;generalize p9 a b x 1=x5;generalize yl a b=x6;revert x1 x2 x3 x4 x5 x6;decide
theorem Vc{a b c m m':jE}(hab:a≠b)(hbc:b≠c)(hm:pg a b m)(hm':pg b c m')(hs:0<cr a b c 1):0<cr b c m 1∧0<cr a b m' 1∧0<cr m m' a 1∧0<cr m m' c 1:=by
 have k1:=lI hab;have k2:=lI hbc;obtain⟨a1,a2⟩:=pK hab hm;obtain⟨b1,b2⟩:=pK hbc hm';have e1:=wE hm.on.1 b c;have e2:=wE hm'.on.1 a b;have r1:cr b c a 1=cr a b c 1:=(by unfold cr;grind);rw[tR,bD,eT,r1]at e1;rw[sJ,bD,jf]at e2;have q1:0<cr b c m 1:=(kD k1 e1).1.2 (pp (by omega) hs);have q2:0<cr a b m' 1:=(kD k2 e2).1.2 (pp (by omega) hs);refine⟨q1,q2,?_,?_⟩;{have f:=(Gp (x:=m') hab hm).1;rw[oc m m' a 1]at f;have:kk a b*cr m m' a 1=pos a b m*cr a b m' 1:=(by have e:kk a b*cr m m' a 1=-(kk a b*-cr m m' a 1):=(by grind);rw[e,f];grind);exact(kD k1 this).1.2 (pp a1 q2)};·have f:=(Gp (x:=m) hbc hm').2;exact(kD k2 f).1.2 (pp (by omega) q1)
theorem Nj{a b c m m':jE}(hab:a≠b)(hbc:b≠c)(hm:pg a b m)(hm':pg b c m')(hs:0<cr a b c 1):((p9 b c m 1^^p9 a b m' 1)^^((wW m m' a^^wW m m' c)^^(yl a b^^yl b c)))=false:=by
 obtain⟨s1,s2,s3,s4⟩:=Vc hab hbc hm hm' hs;have y1:=Ts hab hm;have y2:=Ts hbc hm';have c3:cr m' m a 1=-cr m m' a 1:=oc m m' a 1;have c4:cr m' m c 1=-cr m m' c 1:=oc m m' c 1;have f1:a.2=b.2->(a.1<b.1↔b.2<c.2)∧b.2≠c.2∧a.1≠b.1:=(by intro e;have:cr a b c 1=(b.1-a.1)*(c.2-b.2):=(by unfold cr;rw[e];grind);rw[this]at hs;have:=(zi (b.1-a.1) (c.2-b.2)).2 hs;omega);have f2:b.2=c.2->(c.1<b.1↔a.2<b.2)∧a.2≠b.2∧c.1≠b.1:=(by intro e;have:cr a b c 1=(b.2-a.2)*(b.1-c.1):=(by unfold cr;rw[←e];grind);rw[this]at hs;have:=(zi (b.2-a.2) (b.1-c.1)).2 hs;omega);rw[qO,qO];unfold wW dR yl;have t1:(b.2-m.2<=0∧0<c.2-m.2∧0<cr b c m 1∨c.2-m.2<=0∧0<b.2-m.2∧cr b c m 1<0)↔(b.2<=m.2∧m.2<c.2):=(by omega);have t2:(a.2-m'.2<=0∧0<b.2-m'.2∧0<cr a b m' 1∨b.2-m'.2<=0∧0<a.2-m'.2∧cr a b m' 1<0)↔(a.2<=m'.2∧m'.2<b.2):=(by omega);have t3:¬(m.2<a.2∧a.2<=m'.2∧cr m m' a 1<0):=(by omega);have t4:¬(m.2<c.2∧c.2<=m'.2∧cr m m' c 1<0):=(by omega);have t5:(m'.2<a.2∧a.2<=m.2∧cr m' m a 1<0)↔(m'.2<a.2∧a.2<=m.2):=(by omega);have t6:(m'.2<c.2∧c.2<=m.2∧cr m' m c 1<0)↔(m'.2<c.2∧c.2<=m.2):=(by omega);simp only[t1,t2,t3,t4,t5,t6];clear t1 t2 t3 t4 t5 t6 s1 s2 s3 s4 c3 c4 hs;rcases b7 m.2 m'.2 with g|g|g;·rw[ai g,ai g];by_cases c1:b.2<=m.2∧m.2<c.2<;>by_cases c2:a.2<=m'.2∧m'.2<b.2<;>by_cases c5:a.2<b.2∨(a.2=b.2∧b.1<a.1)<;>by_cases c6:b.2<c.2∨(b.2=c.2∧c.1<b.1)<;>first|(simp only[c1,c2,c5,c6,fH,fm];rfl)|(exfalso;omega)
 {rw[ag (by omega),ag (by omega),ag (by omega),ag (by omega)];by_cases c1:b.2<=m.2∧m.2<c.2<;>by_cases c2:a.2<=m'.2∧m'.2<b.2<;>by_cases c5:a.2<b.2∨(a.2=b.2∧b.1<a.1)<;>by_cases c6:b.2<c.2∨(b.2=c.2∧c.1<b.1)<;>first|(simp only[c1,c2,c5,c6,fH,fm];rfl)|(exfalso;omega)};·rw[ag (by omega),ai g,ag (by omega),ai g];by_cases c1:b.2<=m.2∧m.2<c.2<;>by_cases c2:a.2<=m'.2∧m'.2<b.2<;>by_cases c3:m'.2<a.2∧a.2<=m.2<;>by_cases c4:m'.2<c.2∧c.2<=m.2<;>by_cases c5:a.2<b.2∨(a.2=b.2∧b.1<a.1)<;>by_cases c6:b.2<c.2∨(b.2=c.2∧c.1<b.1)<;>first|(simp only[c1,c2,c3,c4,c5,c6,fH,fm];rfl)|(exfalso;omega)
theorem Nk(p q v:jE):wW p q v=wW q p v:=by
 unfold wW;rcases b7 p.2 q.2 with h|h|h;{rw[ai h,ag (by omega),ai h]};{rw[ag (by omega),ag (by omega),ag (by omega),ag (by omega)]};·rw[ag (by omega),ai h,ai h]
theorem Gt{a b m:jE}(h:pg a b m):pg b a m:=⟨oD.1 h.on,h.nb,h.na⟩
theorem Nl{a b x:jE}(h:cr a b x 1=0):p9 a b x 1=false:=by
 rw[qO,h];simp
theorem acj{a b c:jE}(hab:a≠b)(hbc:b≠c)(h:has a c b 1):yl a b=yl b c:=by
 obtain⟨h0,h1,h2⟩:=h;unfold mP at h1 h2;simp only[aV]at h1 h2;unfold yl;have n1:a.1=b.1->a.2≠b.2:=fun e q=>hab (cJ e q);have n2:b.1=c.1->b.2≠c.2:=fun e q=>hbc (cJ e q);have l1:a.2=b.2->b.2≠c.2->a.1=b.1:=(by intro e hne;have:cr a c b 1=(a.2-c.2)*(b.1-a.1):=(by unfold cr;rw[e];grind);rw[this]at h0;rcases aL.1 h0 with q|q<;>omega);have l2:b.2=c.2->a.2≠b.2->b.1=c.1:=(by intro e hne;have:cr a c b 1=(c.2-a.2)*(c.1-b.1):=(by unfold cr;rw[e];grind);rw[this]at h0;rcases aL.1 h0 with q|q<;>omega);exact bI.2 (by omega)
theorem ack{a b c m m':jE}(hab:a≠b)(hbc:b≠c)(hm:pg a b m)(hm':pg b c m')(hs:cr a b c 1≠0∨has a c b 1):((p9 b c m 1^^p9 a b m' 1)^^((wW m m' a^^wW m m' c)^^(yl a b^^yl b c)))=false:=by
 by_cases h0:cr a b c 1=0;{have h:has a c b 1:=(by rcases hs with q|q;{exact absurd h0 q};·exact q);have k1:=lI hab;have k2:=lI hbc;have e1:=wE hm.on.1 b c;have e2:=wE hm'.on.1 a b;have r1:cr b c a 1=cr a b c 1:=(by unfold cr;grind);rw[tR,r1,h0,bD,bD,eT]at e1;rw[sJ,h0,bD,bD,eT]at e2;have z1:cr b c m 1=0:=(by rcases aL.1 e1 with q|q<;>omega);have z2:cr a b m' 1=0:=(by rcases aL.1 e2 with q|q<;>omega);have z3:cr m m' a 1=0:=(by have f:=qY hm.on.1 z2 a;rw[tR,bD]at f;rcases aL.1 f with q|q<;>omega);have z4:cr m m' c 1=0:=(by have f:=qY hm.on.1 z2 c;rw[h0,bD]at f;rcases aL.1 f with q|q<;>omega);rw[Nl z1,Nl z2,Cl z3,Cl z4,acj hab hbc h];simp};·rcases eN h0 with g|g;{have:=Nj (a:=c) (b:=b) (c:=a) (dh hbc) (dh hab) (Gt hm') (Gt hm) (by have:cr c b a 1=-cr a b c 1:=(by unfold cr;grind);omega);rw[Gs b a m',Gs c b m,Nk m' m,Nk m' m,Gn hab,Gn hbc]at this;revert this;generalize p9 b c m 1=x1;generalize p9 a b m' 1=x2;generalize wW m m' a=x3;generalize wW m m' c=x4;generalize yl a b=x5;generalize yl b c=x6;revert x1 x2 x3 x4 x5 x6;decide};·exact Nj hab hbc hm hm' g
def wX(p1:Ring)(a c:jE)(p2:Ring):List jZ:=jG (p1++[a])++jG (c::p2)
theorem acm(p1:Ring)(a b c:jE)(p2:Ring)(x:jS):ki (rY p1 a b (c::p2)) x=(p9 b c x.1 x.2^^ki (wX p1 a c p2) x):=by
 unfold rY wX;rw[mo,mD,mD,kF];generalize ki (jG (p1++[a])) x=u;generalize ki (jG (c::p2)) x=v;generalize p9 (b,c).1 (b,c).2 x.1 x.2=w;cases u<;>cases v<;>cases w<;>rfl
theorem acn(p1:Ring)(a b c:jE)(p2:Ring)(x:jS):ki (rY (p1++[a]) b c p2) x=(p9 a b x.1 x.2^^ki (wX p1 a c p2) x):=by
 unfold rY wX;have e:jG (p1++[a]++[b])=jG (p1++[a])++[(a,b)]:=(by have:=oL p1 a b [];simpa[Ce]using this);rw[e,mD,mD,mD,kF];show((ki (jG (p1++[a])) x^^(p9 a b x.1 x.2^^false))^^ki (jG (c::p2)) x)=_;generalize ki (jG (p1++[a])) x=u;generalize ki (jG (c::p2)) x=v;generalize p9 a b x.1 x.2=w;cases u<;>cases v<;>cases w<;>rfl
theorem Qr{p1:Ring}{a b c:jE}{p2:Ring}(hr:Ends (p1++a::b::c::p2)){x m:jE}(h:∀s∈wX p1 a c p2,Gd x m s.1 s.2)(hx:∀s∈wX p1 a c p2,¬Xs x m s.1 s.2):(ki (wX p1 a c p2) (x,1)^^ki (wX p1 a c p2) (m,1))=(wW x m a^^wW x m c):=by
 have hr':Ends (p1++a::c::p2):=(by unfold Ends at*;rw[dZ,c8]at hr⊢;rw[c8]at hr;rw[←hr];cases p1<;>rfl);exact DG hr' h hx
theorem Ll{p1:Ring}{a b c:jE}{p2:Ring}(hr:Ends (p1++a::b::c::p2))(hab:a≠b)(hbc:b≠c)(hs:cr a b c 1≠0∨has a c b 1){m m':jE}(hm:pg a b m)(hm':pg b c m')(h:∀s∈wX p1 a c p2,Gd m m' s.1 s.2)(hx:∀s∈wX p1 a c p2,¬Xs m m' s.1 s.2):Lh p1 a b (c::p2) (m,1)=Lh (p1++[a]) b c p2 (m',1):=by
 have k:=Qr hr h hx;have l:=ack hab hbc hm hm' hs;unfold Lh;rw[acm,acn];simp only;revert k l;generalize ki (wX p1 a c p2) (m,1)=x1;generalize ki (wX p1 a c p2) (m',1)=x2;generalize p9 b c m 1=x3;generalize p9 a b m' 1=x4;generalize wW m m' a=x5;generalize wW m m' c=x6;generalize yl a b=x7;generalize yl b c=x8;revert x1 x2 x3 x4 x5 x6 x7 x8;decide
theorem afP{x y p q:jE}(h:Xs x y p q):∃al be ga de:Int,0<al∧0<be∧0<ga∧0<de∧al+be=ga+de∧al*x.1+be*y.1=ga*p.1+de*q.1∧al*x.2+be*y.2=ga*p.2+de*q.2:=by
 have i1:cr x y q 1-cr x y p 1=cr p q x 1-cr p q y 1:=(by unfold cr;grind);have i2:cr p q y 1*x.1-cr p q x 1*y.1=cr x y p 1*q.1-cr x y q 1*p.1:=(by unfold cr;grind);have i3:cr p q y 1*x.2-cr p q x 1*y.2=cr x y p 1*q.2-cr x y q 1*p.2:=(by unfold cr;grind);obtain⟨o1,o2⟩:=h;generalize cr x y q 1=B at*;generalize cr x y p 1=A at*;generalize cr p q x 1=P at*;generalize cr p q y 1=Q at*;unfold oR at o1 o2;rcases o2 with o2|o2;{have hB:A>0∧B<0:=(by omega);exact⟨Q,-P,-B,A,by omega,by omega,by omega,by omega,by omega,by grind,by grind⟩};·have hB:A<0∧0<B:=(by omega);exact⟨-Q,P,B,-A,by omega,by omega,by omega,by omega,by omega,by grind,by grind⟩
theorem Qs{al be ga de x y p q:Int}(h1:0<al)(h2:0<be)(h3:0<ga)(h4:0<de)(e:al+be=ga+de)(f:al*x+be*y=ga*p+de*q){t:Int}(hx:x<t)(hy:y<t)(hp:t<=p)(hq:t<=q):False:=by
 have a1:=cN hx h1;have a2:=cN hy h2;have a3:=bG hp (bJ h3);have a4:=bG hq (bJ h4);have:al*t+be*t=ga*t+de*t:=(by rw[←Int.add_mul,←Int.add_mul,e]);omega
theorem Tu{al be ga de x y p q:Int}(h1:0<al)(h2:0<be)(h3:0<ga)(h4:0<de)(e:al+be=ga+de)(f:al*x+be*y=ga*p+de*q){t:Int}(hx:t<x)(hy:t<y)(hp:p<=t)(hq:q<=t):False:=Qs h1 h2 h3 h4 e (x:=-x) (y:=-y) (p:=-p) (q:=-q) (by grind) (t:=-t) (by omega) (by omega) (by omega) (by omega)
def kB(k:Int)(b u:jE):jE:=(k*b.1+u.1,k*b.2+u.2)
theorem aeI(k:Int)(g1 g2 b u:jE):cr (sc k g1) (sc k g2) (kB k b u) 1=k*(k*cr g1 g2 b 1+((g2.1-g1.1)*u.2-(g2.2-g1.2)*u.1)):=by
 unfold cr sc kB;grind
def XD(g:jZ)(u v:jE):Nat:=u.1.natAbs+u.2.natAbs+v.1.natAbs+v.2.natAbs+((g.2.1-g.1.1)*u.2-(g.2.2-g.1.2)*u.1).natAbs+((g.2.1-g.1.1)*v.2-(g.2.2-g.1.2)*v.1).natAbs
theorem JG{k x:Int}(hk:0<k)(h:-k<k*x∧k*x<k):x=0:=by
 rcases b7 x 0 with g|g|g;{have:=bG (show x<=-1 by omega) (bJ hk);omega};{exact g};·have:=bG (show 1<=x by omega) (bJ hk);omega
theorem Qt{g:jZ}{u v:jE}{k:Int}(hk:(XD g u v:Int)<k):0<k∧(-k<u.1∧u.1<k)∧(-k<u.2∧u.2<k)∧(-k<v.1∧v.1<k)∧(-k<v.2∧v.2<k)∧(-k<(g.2.1-g.1.1)*u.2-(g.2.2-g.1.2)*u.1∧(g.2.1-g.1.1)*u.2-(g.2.2-g.1.2)*u.1<k)∧(-k<(g.2.1-g.1.1)*v.2-(g.2.2-g.1.2)*v.1∧(g.2.1-g.1.1)*v.2-(g.2.2-g.1.2)*v.1<k):=by
 unfold XD at hk;generalize(g.2.1-g.1.1)*u.2-(g.2.2-g.1.2)*u.1=U at*;generalize(g.2.1-g.1.1)*v.2-(g.2.2-g.1.2)*v.1=V at*;generalize u.1=u1 at*;generalize u.2=u2 at*;generalize v.1=v1 at*;generalize v.2=v2 at*;clear g;refine⟨by omega,⟨by omega,by omega⟩,⟨by omega,by omega⟩,⟨by omega,by omega⟩,⟨by omega,by omega⟩,⟨by omega,by omega⟩,⟨by omega,by omega⟩⟩
theorem sS{b u v c:jE}{k:Int}(mL:0<k)(hu1:-k<u.1∧u.1<k)(pW:-k<u.2∧u.2<k)(Ve:-k<v.1∧v.1<k)(XF:-k<v.2∧v.2<k)(hc:c≠b):¬has (kB k b u) (kB k b v) (sc k c) 1:=by
 intro h;have h1:=h.2.1;have h2:=h.2.2;unfold kB sc mP at h1 h2;simp only[aV]at h1 h2;have e1:k*(c.1-b.1)=k*c.1-k*b.1:=(by grind);have e2:k*(c.2-b.2)=k*c.2-k*b.2:=(by grind);have z1:=JG mL (x:=c.1-b.1) (by rw[e1];omega);have z2:=JG mL (x:=c.2-b.2) (by rw[e2];omega);exact hc (cJ (by omega) (by omega))
theorem o5{k x y:Int}(mL:0<k)(h:x<y):k*x+k<=k*y:=by
 have:=bG (show x+1<=y by omega) (bJ mL);rw[Int.mul_add,aV]at this;exact this
theorem Tv{g:jZ}{b t:jE}{k:Int}(mL:0<k)(h1:-k<t.1∧t.1<k)(h2:-k<t.2∧t.2<k)(hbe:(b.1<g.1.1∧b.1<g.2.1)∨(g.1.1<b.1∧g.2.1<b.1)∨(b.2<g.1.2∧b.2<g.2.2)∨(g.1.2<b.2∧g.2.2<b.2)):¬has (sc k g.1) (sc k g.2) (kB k b t) 1:=by
 intro h;have f1:=h.2.1;have f2:=h.2.2;unfold kB sc mP at f1 f2;simp only[aV]at f1 f2;rcases hbe with⟨q1,q2⟩|⟨q1,q2⟩|⟨q1,q2⟩|⟨q1,q2⟩;{have:=o5 mL q1;have:=o5 mL q2;clear f2 h2;omega};{have:=o5 mL q1;have:=o5 mL q2;clear f2 h2;omega};{have:=o5 mL q1;have:=o5 mL q2;clear f1 h1;omega};·have:=o5 mL q1;have:=o5 mL q2;clear f1 h1;omega
theorem aco{g:jZ}{b u v:jE}{k:Int}(mL:0<k)(hu1:-k<u.1∧u.1<k)(pW:-k<u.2∧u.2<k)(Ve:-k<v.1∧v.1<k)(XF:-k<v.2∧v.2<k)(hbe:(b.1<g.1.1∧b.1<g.2.1)∨(g.1.1<b.1∧g.2.1<b.1)∨(b.2<g.1.2∧b.2<g.2.2)∨(g.1.2<b.2∧g.2.2<b.2)):¬Xs (kB k b u) (kB k b v) (sc k g.1) (sc k g.2):=by
 intro h;obtain⟨al,be,ga,de,p1,p2,p3,p4,e,f1,f2⟩:=afP h;unfold kB sc at f1 f2;simp only at f1 f2;rcases hbe with⟨q1,q2⟩|⟨q1,q2⟩|⟨q1,q2⟩|⟨q1,q2⟩;{have:=o5 mL q1;have:=o5 mL q2;exact Qs p1 p2 p3 p4 e f1 (t:=k*b.1+k) (by omega) (by omega) (by omega) (by omega)};{have:=o5 mL q1;have:=o5 mL q2;exact Tu p1 p2 p3 p4 e f1 (t:=k*b.1-k) (by omega) (by omega) (by omega) (by omega)};{have:=o5 mL q1;have:=o5 mL q2;exact Qs p1 p2 p3 p4 e f2 (t:=k*b.2+k) (by omega) (by omega) (by omega) (by omega)};·have:=o5 mL q1;have:=o5 mL q2;exact Tu p1 p2 p3 p4 e f2 (t:=k*b.2-k) (by omega) (by omega) (by omega) (by omega)
theorem beyond{g:jZ}{b:jE}(hb:¬has g.1 g.2 b 1)(h0:cr g.1 g.2 b 1=0):(b.1<g.1.1∧b.1<g.2.1)∨(g.1.1<b.1∧g.2.1<b.1)∨(b.2<g.1.2∧b.2<g.2.2)∨(g.1.2<b.2∧g.2.2<b.2):=by
 by_cases c1:mP (g.1.1*1) b.1 (g.2.1*1);{by_cases c2:mP (g.1.2*1) b.2 (g.2.2*1);{exact absurd ⟨h0,c1,c2⟩ hb};·unfold mP at c2;omega};·unfold mP at c1;omega
theorem vm{g:jZ}{b u v:jE}(hb:¬has g.1 g.2 b 1){k:Int}(hk:(XD g u v:Int)<k):Gd (kB k b u) (kB k b v) (sc k g.1) (sc k g.2)∧¬Xs (kB k b u) (kB k b v) (sc k g.1) (sc k g.2):=by
 obtain⟨mL,hu1,pW,Ve,XF,hU,hV⟩:=Qt hk;clear hk;have n1:g.1≠b:=fun e=>hb (by rw[←e];exact pq _ _);have n2:g.2≠b:=fun e=>hb (by rw[←e];exact nS _ _);by_cases h0:cr g.1 g.2 b 1=0;{have hbe:=beyond hb h0;exact⟨⟨sS mL hu1 pW Ve XF n1,sS mL hu1 pW Ve XF n2,Tv mL hu1 pW hbe,Tv mL Ve XF hbe⟩,aco mL hu1 pW Ve XF hbe⟩};·have c1:=aeI k g.1 g.2 b u;have c2:=aeI k g.1 g.2 b v;generalize(g.2.1-g.1.1)*u.2-(g.2.2-g.1.2)*u.1=U at*;generalize(g.2.1-g.1.1)*v.2-(g.2.2-g.1.2)*v.1=V at*;have s1:=kD mL (rfl:k*(k*cr g.1 g.2 b 1+U)=_);have s2:=kD mL (rfl:k*(k*cr g.1 g.2 b 1+V)=_);rw[←c1]at s1;rw[←c2]at s2;have dom:(0<cr g.1 g.2 b 1->k<=k*cr g.1 g.2 b 1)∧(cr g.1 g.2 b 1<0->k*cr g.1 g.2 b 1<=-k):=(by constructor;{intro q;have:=bG (show 1<=cr g.1 g.2 b 1 by omega) (bJ mL);omega};·intro q;have:=bG (show cr g.1 g.2 b 1<=-1 by omega) (bJ mL);omega);clear c1 c2;refine⟨⟨sS mL hu1 pW Ve XF n1,sS mL hu1 pW Ve XF n2,fun h=>?_,fun h=>?_⟩,fun h=>?_⟩;{have:=h.1;clear hu1 pW Ve XF s2;omega};{have:=h.1;clear hu1 pW Ve XF s1;omega};·have o:=h.2;clear hu1 pW Ve XF;unfold oR at o;omega
end Vd
end Go.Proofs.YtcclepohmhdpbaaGreatDoor
