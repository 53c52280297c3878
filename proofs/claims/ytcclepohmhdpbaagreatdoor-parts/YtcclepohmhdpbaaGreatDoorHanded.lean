import Derived.Test.YtcclepohmhdpbaaGreatDoorNoted
namespace Go.Proofs.YtcclepohmhdpbaaGreatDoor
set_option linter.all false
open Go.RowKit Go.Deep
def RV(F:Nat->Prop)(w:World)(v:Value)(vs:List Value):Prop:=∃ao cap,v=.slice ao vs.length cap∧∀i u,vs[i]?=some u->∃b,F b∧ao=some ⟨b,0,none⟩∧w.cell? ⟨b,i,none⟩=some u
theorem RV.keep{F F':Nat->Prop}{S:Nat->Prop}{w w':World}{v:Value}{vs:List Value}(h:RV F w v vs)(k:Fr S w w')(hF:∀b,b<w.heap.size->F b->F' b∧¬S b):RV F' w' v vs:=by
 obtain⟨ao,cap,e,h⟩:=h;refine⟨ao,cap,e,fun i p hp=>?_⟩;obtain⟨b,f,e1,e2⟩:=h i p hp;obtain⟨g1,g2⟩:=hF b (rB e2) f;exact⟨b,g1,e1,k.cell e2 g2⟩
structure HS(F:Nat->Prop)(w:World)(sv pv rv rmv pmv:Value)(sm:Int)(R P:List (Value×Int))(n:Nat):Prop where
 rings:RV F w rv (WD R)
 rm:RV F w rmv (WC R)
 rr:∀e∈R,∃n,n<=1048576∧RF1 F w e.1 (List.replicate n (-77,e.2))
 aax:RV F w pv (WD P)
 pm:RV F w pmv (WC P)
 pp:∀e∈P,∃n,n<=1048576∧RF2 F w e.1 (List.replicate n [(77,e.2)])
 set:RF3 F w sv (List.replicate n [[(777,sm)]])
 bn:n<=1048576
 bR:R.length<=1073741824
 bP:P.length<=1073741824
theorem HS.keep{F F':Nat->Prop}{S:Nat->Prop}{w w':World}{sv pv rv rmv pmv:Value}{sm:Int}{R P:List (Value×Int)}{n:Nat}(h:HS F w sv pv rv rmv pmv sm R P n)(k:Fr S w w')(hF:∀b,b<w.heap.size->F b->F' b∧¬S b):HS F' w' sv pv rv rmv pmv sm R P n:=⟨h.rings.keep k hF,h.rm.keep k hF,fun e he=>by obtain⟨n,b,r⟩:=h.rr e he;exact⟨n,b,r.keep k hF⟩,h.aax.keep k hF,h.pm.keep k hF,fun e he=>by obtain⟨n,b,r⟩:=h.pp e he;exact⟨n,b,r.keep k hF⟩,h.set.keep k hF,h.bn,h.bR,h.bP⟩
theorem ahs(d:D3):off d.ps=Pl.nR d.m+d.ps.length:=by
 have e:∀l:List D2,off l=((l.map D2.pts).map List.length).sum+l.length:=(by intro l;induction l with|nil=>rfl|cons x t ih=>rw[aay,ih];simp[D2.pts];omega);exact e d.ps
structure OG where
 sv:Value
 pv:Value
 rv:Value
 rmv:Value
 pmv:Value
 sm:Int
def OG.cells(o:OG):List Value:=[o.sv,o.pv,o.rv,o.rmv,o.pmv,.int .i64 o.sm]
def HSo(F:Nat->Prop)(w:World)(o:OG):Prop:=∃R P n,HS F w o.sv o.pv o.rv o.rmv o.pmv o.sm R P n
theorem HSo.keep{F F':Nat->Prop}{S:Nat->Prop}{w w':World}{o:OG}(h:HSo F w o)(k:Fr S w w')(hF:∀b,b<w.heap.size->F b->F' b∧¬S b):HSo F' w' o:=by
 obtain⟨R,P,n,h⟩:=h;exact⟨R,P,n,h.keep k hF⟩
def Mx(O:List OG):List Value:=O.flatMap OG.cells
theorem wm(O:List OG):∀(i:Nat)(o:OG)(c:Nat)(v:Value),O[i]?=some o->o.cells[c]?=some v->(Mx O)[i*6+c]?=some v:=by induction O with|nil=>intro i o c v h;simp at h|cons a t ih=>intro i o c v h hc;have hc6:c<6:=(by have:=Pl.jW hc;simpa[OG.cells]using this);show(a.cells++Mx t)[i*6+c]?=some v;cases i with|zero=>simp at h;subst h;rw[bh (by simp[OG.cells];omega)];simpa using hc|succ i=>have:=ih i o c v (by simpa using h) hc;rw[aN (by simp[OG.cells];omega)];rw[show(i+1)*6+c-a.cells.length=i*6+c by simp[OG.cells];omega];exact this
theorem lI{w:World}{base:Nat}{e:TypeId}{size:Nat}{v:Value}{n:Nat}{xs:List Value}(h:w.ownsRow base e size v n xs)(hn:0<n):∃g cap,v=.slice (some ⟨g,0,none⟩) n cap∧∀(j:Nat)u,xs[j]?=some u->w.cell? ⟨g,j,none⟩=some u:=by
 rcases h.2 with⟨_,h0⟩|⟨g,cap,cur,rfl,hb,hh,_⟩;{omega};·refine⟨g,cap,rfl,fun j u hu=>?_⟩;have:=h.cells (g:=g) rfl j u hu;have ahj:(⟨g,0,none⟩:Addr).add j=⟨g,j,none⟩:=(by unfold Addr.add;split<;>simp_all);rwa[ahj]at this
theorem kO{w:World}{base:Nat}{e:TypeId}{size:Nat}{v:Value}{n:Nat}{xs:List Value}(h:w.ownsRow base e size v n xs):∃ao cap,v=.slice ao n cap:=by
 rcases h.2 with⟨rfl,rfl⟩|⟨g,cap,cur,rfl,_⟩;{exact⟨_,_,rfl⟩};·exact⟨_,_,rfl⟩
end Go.Proofs.YtcclepohmhdpbaaGreatDoor
