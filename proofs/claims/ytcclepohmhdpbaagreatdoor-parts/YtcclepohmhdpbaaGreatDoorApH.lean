import Derived.Test.YtcclepohmhdpbaaGreatDoorCnA
import Derived.Test.YtcclepohmhdpbaaGreatDoorCnH
import Derived.Test.YtcclepohmhdpbaaGreatDoorCnD
import Derived.Test.YtcclepohmhdpbaaGreatDoorShelf
set_option maxHeartbeats 1000000
namespace Go.Proofs.YtcclepohmhdpbaaGreatDoor
set_option linter.all false
open Go.RowKit Go.Deep
theorem aiF{base:Nat}{w:World}{G:Nat}{X:List PG}(h:NS base w G X):vM w (.slice (some ⟨G,0,none⟩) X.length X.length) (PG.m X):=by
 refine⟨_,_,by rw[PG.qJ],fun i l hl=>?_⟩;unfold PG.m at hl;rw[aI,b6]at hl;obtain⟨x,hx,rfl⟩:=hl;exact⟨G,x.v,rfl,h.row.cell (by rw[aI,hx];rfl),(h.ok x (Pl.jP hx)).rc.rd⟩
def DR(w:World):Prop:=Lib.TabIs Tryz.prog w "internal/strconv.uint64pow10" .u64 Lib.pow10Tab
theorem DR.up{w w':World}(h:DR w)(k:Up w w'):DR w':=by
 unfold DR Lib.TabIs World.var? at*;generalize Tryz.prog.globalNamed "internal/strconv.uint64pow10" =o at*;cases o with|none=>simp at h|some g=>simp only[Option.bind_some]at h⊢;have hg:g<w.heap.size:=(by rcases bI g w.heap.size with e|e;{exact e};·rw[Array.getElem?_eq_none e]at h;simp at h);rw[k.block g hg];exact h
theorem ab8(w:World)(os:Array Obj):Up w (Go.Sort.grow w os):=⟨rfl,rfl,rfl,by simp[Go.Sort.grow],fun b hb=>by simp[Go.Sort.grow,Array.getElem?_append_left hb]⟩
theorem JJ(n:Int)(h0:-9223372036854775808<=n)(h1:n<=9223372036854775807)(w:World)(ht:DR w):Calls Tryz.prog 137 #[.int .i64 n,.int .i64 10] w fun e w'=>e=.returned (.string (bs (Lib.itoa n)))∧Up w w':=(Tryz.strconv_FormatInt_10 n h0 h1 w ht).mono fun e w'⟨h1,k,os,h2⟩=>⟨by rw[h1];rfl,by rw[h2];exact((Up.refl w).drewN k).trans (ab8 _ os)⟩
theorem Cw(n:Int)(h0:-9223372036854775808<=n)(h1:n<=9223372036854775807)(w:World)(ht:DR w):Calls Tryz.prog 98 #[.int .i64 n] w fun e w'=>e=.returned (.string (bs (Lib.itoa n)))∧Up w w':=by
 have HK:=jO (JJ n h0 h1 w ht);clear h0 h1 ht;generalize bs (Lib.itoa n)=s at*;go_enter Tryz.func98,Tryz.ntmps98;go_wp2_with fail;refine HK.out.mono ?_;rintro e w2⟨rfl,hu⟩;replace hu:=jO hu;go_wp2;go_ret;exact⟨rfl,hu.out⟩
def Fit(p:Vd.j9):Prop:=((-9223372036854775808<=p.1.1∧p.1.1<=9223372036854775807)∧(-9223372036854775808<=p.1.2∧p.1.2<=9223372036854775807))∧-9223372036854775808<=p.2∧p.2<=9223372036854775807
theorem aff{p:Vd.j9}{u:jS}(hp:Mp p)(hu:uF 65536 u):∀(l:List Vd.kF)(n:Int),(∀s∈l,Vd.vS s)->1<=n->n<=17179869185->1<=l.foldl (Vd.ql p u) n∧l.foldl (Vd.ql p u) n<=17179869185:=by
 intro l;induction l with|nil=>intro n _ h1 h2;exact⟨h1,h2⟩|cons s t ih=>intro n hl h1 h2;have hb:=I4 hp hu (hl s (by simp));rw[eK];refine ih _ (fun s hs=>hl s (dP _ hs)) ?_ ?_;{unfold Vd.ql;split<;>omega};·unfold Vd.ql;split<;>omega
theorem Jb{both:List Vd.kF}{p:Vd.j9}{u:jS}(hp:Mp p)(hu:uF 65536 u)(hc:∀s∈both,Vd.vS s):Fit (Vd.near both p u):=by
 obtain⟨n1,n2⟩:=aff hp hu both 1 hc (by omega) (by omega);unfold Vd.near Vd.lG;generalize both.foldl (Vd.ql p u) 1=n at*;obtain⟨⟨x1,x2⟩,⟨y1,y2⟩,t1,t2⟩:=hp;obtain⟨⟨u1,u2⟩,u3,u4⟩:=hu;have m1:=k9 (a:=p.1.1) (b:=n) (A:=65536) (B:=17179869185) (by omega) (by omega) (by omega) (by omega);have m2:=k9 (a:=p.1.2) (b:=n) (A:=65536) (B:=17179869185) (by omega) (by omega) (by omega) (by omega);have m3:=k9 (a:=p.2) (b:=n) (A:=2) (B:=17179869185) (by omega) (by omega) (by omega) (by omega);have m4:=k9 (a:=p.2) (b:=u.1) (A:=2) (B:=65536) (by omega) (by omega) (by omega) (by omega);have m5:=k9 (a:=p.2) (b:=u.2) (A:=2) (B:=65536) (by omega) (by omega) (by omega) (by omega);unfold Fit;simp only;omega
theorem ab9{o:jX}{both:List Vd.kF}{s:Vd.kF}{m:Vd.j9}(hm:Mp m)(hs:Vd.vS s)(hc:∀s∈both,Vd.vS s):∀(l:List Vd.kF),(∀t∈l,Vd.vS t)->∀p,Vd.pe o both s m l=some p->Fit p:=by
 have hmf:Fit m:=(by obtain⟨⟨x1,x2⟩,⟨y1,y2⟩,t1,t2⟩:=hm;unfold Fit;omega);intro l;induction l with|nil=>intro _ p h;rw[Ln]at h;split at h;{cases h;exact Jb hm (Ll (mO hs)) hc};{cases h;exact hmf}|cons t k ih=>intro hl p h;rw[I5]at h;split at h;{unfold Vd.tD at h;split at h;{cases h;exact Jb hm (mO (hl t (by simp))) hc};·split at h;{cases h;exact Jb hm (Vf (mO (hl t (by simp)))) hc};·cases h};·exact ih (fun t ht=>hl t (dP _ ht)) p h
theorem Jc{a b:jX}(za:Lq a)(zb:Lq b){p:Vd.j9}(h:Vd.lT a b=some p):Fit p:=by
 unfold Vd.lT at h;obtain⟨s,hs,h⟩:=ef h;obtain⟨m,hm,h⟩:=ef h;have hS:=yu za.cd s hs;have hC:=(za.r2 zb).cd;exact ab9 (Vh hS hC m hm) hS (yu hC) _ (yu zb.cd) p h
theorem Qi{a b:jX}(za:Lq a)(zb:Lq b){p:Vd.j9}(h:Vd.spot a b=some p):Fit p:=by
 unfold Vd.spot at h;split at h;{rename_i q hq;cases h;exact Jc za zb hq};·exact Jc zb za h
def aiG:Option Vd.j9->Value|none=>.tuple #[.string ⟨#[]⟩,.string ⟨#[]⟩,.string ⟨#[]⟩,.int .i64 8]|some p=>.tuple #[.string (bs (Lib.itoa p.1.1)),.string (bs (Lib.itoa p.1.2)),.string (bs (Lib.itoa p.2)),.int .i64 0]
end Go.Proofs.YtcclepohmhdpbaaGreatDoor
