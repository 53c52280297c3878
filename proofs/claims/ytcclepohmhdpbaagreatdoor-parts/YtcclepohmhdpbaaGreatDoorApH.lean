import Derived.Test.YtcclepohmhdpbaaGreatDoorCnA
import Derived.Test.YtcclepohmhdpbaaGreatDoorCnH
import Derived.Test.YtcclepohmhdpbaaGreatDoorCnD
import Derived.Test.YtcclepohmhdpbaaGreatDoorShelf
set_option maxHeartbeats 1000000
namespace Go.Proofs.YtcclepohmhdpbaaGreatDoor
set_option linter.all false
open Go.RowKit Go.Deep
theorem ae4{base:Nat}{w:World}{G:Nat}{X:List PG}(h:NS base w G X):oF w (.slice (some ⟨G,0,none⟩) X.length X.length) (PG.m X):=by
 refine⟨_,_,by rw[PG.jr],λi l hl=>?_⟩;unfold PG.m at hl;rw[An,To]at hl;obtain⟨x,hx,rfl⟩:=hl;exact⟨G,x.v,rfl,h.row.cell (by rw[An,hx];rfl),(h.ok x (Pl.ah hx)).rc.rd⟩
def yO(w:World):Prop:=Lib.TabIs Tryz.prog w "internal/strconv.uint64pow10" .u64 Lib.pow10Tab
theorem yO.up{w w':World}(h:yO w)(k:Up w w'):yO w':=by
 unfold yO Lib.TabIs World.var? at*;generalize Tryz.prog.globalNamed "internal/strconv.uint64pow10" =o at*;cases o with|none=>simp at h|some g=>simp only[Option.bind_some]at h⊢;have hg:g<w.heap.size:=(by rcases NO g w.heap.size with e|e;{exact e};·rw[Array.getElem?_eq_none e]at h;simp at h);rw[k.block g hg];exact h
theorem Yk(w:World)(os:Array Obj):Up w (Go.Sort.grow w os):=⟨rfl,rfl,rfl,by simp[Go.Sort.grow],λb hb=>by simp[Go.Sort.grow,Array.getElem?_append_left hb]⟩
theorem Ez(n:Int)(h0:-9223372036854775808<=n)(h1:n<=9223372036854775807)(w:World)(ht:yO w):Calls Tryz.prog 137 #[.int .i64 n,.int .i64 10] w λe w'=>e=.returned (.string (bs (Lib.itoa n)))/\Up w w':=(Tryz.strconv_FormatInt_10 n h0 h1 w ht).mono λe w'⟨h1,k,os,h2⟩=>⟨by rw[h1];rfl,by rw[h2];exact((Up.refl w).drewN k).trans (Yk _ os)⟩
theorem xh(n:Int)(h0:-9223372036854775808<=n)(h1:n<=9223372036854775807)(w:World)(ht:yO w):Calls Tryz.prog 98 #[.int .i64 n] w λe w'=>e=.returned (.string (bs (Lib.itoa n)))/\Up w w':=by
 have HK:=ag (Ez n h0 h1 w ht);clear h0 h1 ht;generalize bs (Lib.itoa n)=s at*;go_enter Tryz.func98,Tryz.ntmps98;go_wp2_with fail;refine HK.out.mono ?_;rintro e w2⟨rfl,hu⟩;replace hu:=ag hu;go_wp2;go_ret;exact⟨rfl,hu.out⟩
def Fit(p:Vd.aL):Prop:=((-9223372036854775808<=p.1.1/\p.1.1<=9223372036854775807)/\(-9223372036854775808<=p.1.2/\p.1.2<=9223372036854775807))/\-9223372036854775808<=p.2/\p.2<=9223372036854775807
theorem abw{p:Vd.aL}{u:aA}(hp:Mp p)(hu:mR 65536 u):∀(l:List Vd.bg)(n:Int),(∀s∈l,Vd.oK s)->1<=n->n<=17179869185->1<=l.foldl (Vd.iV p u) n/\l.foldl (Vd.iV p u) n<=17179869185:=by
 intro l;induction l with|nil=>intro n _ h1 h2;exact⟨h1,h2⟩|cons s t ih=>intro n hl h1 h2;have hb:=DK hp hu (hl s (by simp));rw[aci];refine ih _ (λs hs=>hl s (ab1 _ hs)) ?_ ?_;{unfold Vd.iV;split<;>omega};·unfold Vd.iV;split<;>omega
theorem DU{both:List Vd.bg}{p:Vd.aL}{u:aA}(hp:Mp p)(hu:mR 65536 u)(hc:∀s∈both,Vd.oK s):Fit (Vd.near both p u):=by
 obtain⟨n1,n2⟩:=abw hp hu both 1 hc (by omega) (by omega);unfold Vd.near Vd.cD;generalize both.foldl (Vd.iV p u) 1=n at*;obtain⟨⟨x1,x2⟩,⟨y1,y2⟩,t1,t2⟩:=hp;obtain⟨⟨u1,u2⟩,u3,u4⟩:=hu;have m1:=b7 (a:=p.1.1) (b:=n) (A:=65536) (B:=17179869185) (by omega) (by omega) (by omega) (by omega);have m2:=b7 (a:=p.1.2) (b:=n) (A:=65536) (B:=17179869185) (by omega) (by omega) (by omega) (by omega);have m3:=b7 (a:=p.2) (b:=n) (A:=2) (B:=17179869185) (by omega) (by omega) (by omega) (by omega);have m4:=b7 (a:=p.2) (b:=u.1) (A:=2) (B:=65536) (by omega) (by omega) (by omega) (by omega);have m5:=b7 (a:=p.2) (b:=u.2) (A:=2) (B:=65536) (by omega) (by omega) (by omega) (by omega);unfold Fit;simp only;omega
theorem Yl{o:aF}{both:List Vd.bg}{s:Vd.bg}{m:Vd.aL}(hm:Mp m)(hs:Vd.oK s)(hc:∀s∈both,Vd.oK s):∀(l:List Vd.bg),(∀t∈l,Vd.oK t)->∀p,Vd.gU o both s m l=some p->Fit p:=by
 have hmf:Fit m:=(by obtain⟨⟨x1,x2⟩,⟨y1,y2⟩,t1,t2⟩:=hm;unfold Fit;omega);intro l;induction l with|nil=>intro _ p h;rw[Ge]at h;split at h;{cases h;exact DU hm (Gc (eD hs)) hc};{cases h;exact hmf}|cons t k ih=>intro hl p h;rw[DL]at h;split at h;{unfold Vd.lQ at h;split at h;{cases h;exact DU hm (eD (hl t (by simp))) hc};·split at h;{cases h;exact DU hm (Qt (eD (hl t (by simp)))) hc};·cases h};·exact ih (λt ht=>hl t (ab1 _ ht)) p h
theorem DV{a b:aF}(za:Gg a)(zb:Gg b){p:Vd.aL}(h:Vd.cU a b=some p):Fit p:=by
 unfold Vd.cU at h;obtain⟨s,hs,h⟩:=ab' h;obtain⟨m,hm,h⟩:=ab' h;have hS:=ri za.cd s hs;have hC:=(za.r2 zb).cd;exact Yl (Qv hS hC m hm) hS (ri hC) _ (ri zb.cd) p h
theorem LQ{a b:aF}(za:Gg a)(zb:Gg b){p:Vd.aL}(h:Vd.spot a b=some p):Fit p:=by
 unfold Vd.spot at h;split at h;{rename_i q hq;cases h;exact DV za zb hq};·exact DV zb za h
def ae5:Option Vd.aL->Value|none=>.tuple #[.string ⟨#[]⟩,.string ⟨#[]⟩,.string ⟨#[]⟩,.int .i64 8]|some p=>.tuple #[.string (bs (Lib.itoa p.1.1)),.string (bs (Lib.itoa p.1.2)),.string (bs (Lib.itoa p.2)),.int .i64 0]
end Go.Proofs.YtcclepohmhdpbaaGreatDoor
