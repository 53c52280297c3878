import Derived.Test.YtcclepohmhdpbaaGreatDoorNoted
namespace Go.Proofs.YtcclepohmhdpbaaGreatDoor
set_option linter.all false
open Go.RowKit Go.Deep
def RV(F:Nat->Prop)(w:World)(v:Value)(vs:List Value):Prop:=∃ao cap,v=.slice ao vs.length cap∧∀i u,vs[i]?=some u->∃b,F b∧ao=some ⟨b,0,none⟩∧w.cell? ⟨b,i,none⟩=some u
theorem RV.keep{F F':Nat->Prop}{S:Nat->Prop}{w w':World}{v:Value}{vs:List Value}(h:RV F w v vs)(k:Fr S w w')(hF:∀b,b<w.heap.size->F b->F' b∧¬S b):RV F' w' v vs:=by
 obtain⟨ao,cap,e,h⟩:=h;refine⟨ao,cap,e,fun i p hp=>?_⟩;obtain⟨b,f,e1,e2⟩:=h i p hp;obtain⟨g1,g2⟩:=hF b (pP e2) f;exact⟨b,g1,e1,k.cell e2 g2⟩
theorem Kg{w:World}{base:Nat}{e:TypeId}{v:Value}{n:Nat}{xs:List Value}(h:w.ownsRow base e 1 v n xs):RV (fun b=>base<=b∧b<w.heap.size) w v xs:=by
 have hl:=h.1;rcases h.2 with⟨rfl,rfl⟩|⟨g,cap,cur,rfl,hb,hh,_⟩;{have:xs=[]:=eD (by omega);subst this;exact⟨none,0,rfl,fun i u hu=>by simp at hu⟩};·refine⟨some ⟨g,0,none⟩,cap,by rw[show xs.length=n by omega],fun i u hu=>⟨g,⟨hb,(jJ h rfl).2⟩,rfl,?_⟩⟩;have:=h.cells (g:=g) rfl i u hu;have XE:(⟨g,0,none⟩:Addr).add i=⟨g,i,none⟩:=(by unfold Addr.add;split<;>simp_all);rwa[XE]at this
structure HS(F:Nat->Prop)(w:World)(sv pv rv qE qj:Value)(sm:Int)(R P:List (Value×Int))(n:Nat):Prop where
 rings:RV F w rv (oN R)
 rm:RV F w qE (rJ R)
 rr:∀e∈R,∃n,n<=1048576∧RF1 F w e.1 (List.replicate n (-77,e.2))
 MH:RV F w pv (oN P)
 pm:RV F w qj (rJ P)
 pp:∀e∈P,∃n,n<=1048576∧RF2 F w e.1 (List.replicate n [(77,e.2)])
 set:RF3 F w sv (List.replicate n [[(777,sm)]])
 bn:n<=1048576
 bR:R.length<=1073741824
 bP:P.length<=1073741824
theorem HS.keep{F F':Nat->Prop}{S:Nat->Prop}{w w':World}{sv pv rv qE qj:Value}{sm:Int}{R P:List (Value×Int)}{n:Nat}(h:HS F w sv pv rv qE qj sm R P n)(k:Fr S w w')(hF:∀b,b<w.heap.size->F b->F' b∧¬S b):HS F' w' sv pv rv qE qj sm R P n:=⟨h.rings.keep k hF,h.rm.keep k hF,fun e he=>by obtain⟨n,b,r⟩:=h.rr e he;exact⟨n,b,r.keep k hF⟩,h.MH.keep k hF,h.pm.keep k hF,fun e he=>by obtain⟨n,b,r⟩:=h.pp e he;exact⟨n,b,r.keep k hF⟩,h.set.keep k hF,h.bn,h.bR,h.bP⟩
theorem HS.made{w w1 wS w2:World}{d:D3}{Wb:Nat}{S:Nat->Prop}{ps l out pv rv qE qj:Value}{k:Int}(hn:Sh w w1 pv rv qE qj (nY d.ps k) (oG d.ps k))(hm:Fr S w1 wS)(hs:y5 wS w2 d Wb ps l out k)(hdw:∀b∈d.bl,b<w.heap.size)(Pe:Wb<w.heap.size)(hS:∀b,w.heap.size<=b->b<w1.heap.size->¬S b)(hb:Pl.Bd d.m)(hnr:Pl.nR d.m<=1048576):HS (fun b=>b∈d.bl∨(w.heap.size<=b∧b<w1.heap.size)∨wS.heap.size<=b) w2 d.v pv rv qE qj (k+off d.ps) (oG d.ps k) (nY d.ps k) d.ps.length:=by
 have hsz:=hn.up.size;have abl:=hm.size;have f12:Fr (fun b=>S b∨b∈d.bl∨b=Wb) w1 w2:=(hm.mono fun b _ h=>.inl h).trans (hs.fr.mono fun b _ h=>.inr h);have hF:∀b,b<w1.heap.size->(w.heap.size<=b∧b<w1.heap.size)->(b∈d.bl∨(w.heap.size<=b∧b<w1.heap.size)∨wS.heap.size<=b)∧¬(S b∨b∈d.bl∨b=Wb):=fun b _ hb=>⟨.inr (.inl hb),by rintro(e|e|e);{exact hS b hb.1 hb.2 e};{have:=hdw b e;omega};·omega⟩;refine⟨(Kg hn.FW).keep f12 hF,(Kg hn.GF).keep f12 hF,?_,(Kg hn.FV).keep f12 hF,(Kg hn.GG).keep f12 hF,?_,?_,?_,?_,?_⟩;{intro e he;obtain⟨j,x,i,y,hx,hy,rfl⟩:=Pf _ _ _ he;refine⟨y.r.length,hb.ring x.pts (aU (Pl.jh hx)) y.r (aU (Pl.jh hy)),?_⟩;refine((hs.MH j x hx).1 i y hy).keep (Fr.refl (fun _=>False) _) fun b _ hb=>⟨?_,fun h=>h⟩;rcases hb with hb|hb;{exact .inl (D3.mR (Pl.jh hx) hb)};·exact .inr (.inr hb)};·intro e he;obtain⟨j,x,hx,rfl⟩:=Pg _ _ _ he;have hl:x.rs.length<=1048576:=(by have:=hb.poly x.pts (aU (Pl.jh hx));simpa[D2.pts]using this);refine⟨x.rs.length,hl,?_⟩;refine(hs.MH j x hx).2.keep (Fr.refl (fun _=>False) _) fun b _ hb=>⟨?_,fun h=>h⟩;rcases hb with hb|hb;{exact .inl (D3.mR (Pl.jh hx) hb)};·exact .inr (.inr hb)
 {refine hs.set.keep (Fr.refl (fun _=>False) _) fun b _ hb=>⟨?_,fun h=>h⟩;rcases hb with hb|hb;{exact .inl hb};·exact .inr (.inr hb)};{have:=hb.len;simpa[D3.m]using this};{have:=IQ d d.ps.length k;rw[aL]at this;omega};·rw[zL];have:=hb.len;have h2:d.m.length=d.ps.length:=(by simp[D3.m]);omega
theorem XP(d:D3):off d.ps=Pl.nR d.m+d.ps.length:=by
 have e:∀l:List D2,off l=((l.map D2.pts).map List.length).sum+l.length:=(by intro l;induction l with|nil=>rfl|cons x t ih=>rw[yo,ih];simp[D2.pts];omega);exact e d.ps
structure OG where
 sv:Value
 pv:Value
 rv:Value
 qE:Value
 qj:Value
 sm:Int
def OG.cells(o:OG):List Value:=[o.sv,o.pv,o.rv,o.qE,o.qj,.int .i64 o.sm]
def HSo(F:Nat->Prop)(w:World)(o:OG):Prop:=∃R P n,HS F w o.sv o.pv o.rv o.qE o.qj o.sm R P n
theorem HSo.keep{F F':Nat->Prop}{S:Nat->Prop}{w w':World}{o:OG}(h:HSo F w o)(k:Fr S w w')(hF:∀b,b<w.heap.size->F b->F' b∧¬S b):HSo F' w' o:=by
 obtain⟨R,P,n,h⟩:=h;exact⟨R,P,n,h.keep k hF⟩
def rK(O:List OG):List Value:=O.flatMap OG.cells
theorem MN(O:List OG)(o:OG):rK (O++[o])=rK O++o.cells:=by simp[rK]
theorem tI(O:List OG):∀(i:Nat)(o:OG)(c:Nat)(v:Value),O[i]?=some o->o.cells[c]?=some v->(rK O)[i*6+c]?=some v:=by induction O with|nil=>intro i o c v h;simp at h|cons a t ih=>intro i o c v h hc;have hc6:c<6:=(by have:=Pl.jo hc;simpa[OG.cells]using this);show(a.cells++rK t)[i*6+c]?=some v;cases i with|zero=>simp at h;subst h;rw[aT (by simp[OG.cells];omega)];simpa using hc|succ i=>have:=ih i o c v (by simpa using h) hc;rw[aI (by simp[OG.cells];omega)];rw[show(i+1)*6+c-a.cells.length=i*6+c by simp[OG.cells];omega];exact this
theorem ku{w:World}{base:Nat}{e:TypeId}{size:Nat}{v:Value}{n:Nat}{xs:List Value}(h:w.ownsRow base e size v n xs)(hn:0<n):∃g cap,v=.slice (some ⟨g,0,none⟩) n cap∧∀(j:Nat)u,xs[j]?=some u->w.cell? ⟨g,j,none⟩=some u:=by
 rcases h.2 with⟨_,h0⟩|⟨g,cap,cur,rfl,hb,hh,_⟩;{omega};·refine⟨g,cap,rfl,fun j u hu=>?_⟩;have:=h.cells (g:=g) rfl j u hu;have XE:(⟨g,0,none⟩:Addr).add j=⟨g,j,none⟩:=(by unfold Addr.add;split<;>simp_all);rwa[XE]at this
theorem jI{w:World}{base:Nat}{e:TypeId}{size:Nat}{v:Value}{n:Nat}{xs:List Value}(h:w.ownsRow base e size v n xs):∃ao cap,v=.slice ao n cap:=by
 rcases h.2 with⟨rfl,rfl⟩|⟨g,cap,cur,rfl,_⟩;{exact⟨_,_,rfl⟩};·exact⟨_,_,rfl⟩
end Go.Proofs.YtcclepohmhdpbaaGreatDoor
