import Derived.Test.YtcclepohmhdpbaaGreatDoorCnA
import Derived.Test.YtcclepohmhdpbaaGreatDoorWalkF
import Derived.Test.YtcclepohmhdpbaaGreatDoorClI
import Derived.Test.YtcclepohmhdpbaaGreatDoorCnD
import Derived.Test.YtcclepohmhdpbaaGreatDoorGiL
import Derived.Test.YtcclepohmhdpbaaGreatDoorRfP
import Derived.Test.YtcclepohmhdpbaaGreatDoorInv
set_option maxHeartbeats 8000000
set_option maxRecDepth 8000
namespace Go.Proofs.YtcclepohmhdpbaaGreatDoor
set_option linter.all false
open Go.RowKit Go.Deep
namespace Vd
theorem FC(v:Ring)(n:Nat):pH v (n+1)=zD v (pH v n) n:=by
 unfold pH;rw[dX,fq];rfl
theorem ES(v:Ring):∀n,pH v n<=n-1|0=>bB _|n+1=>by rw[FC];unfold zD;have:=ES v n;split<;>omega
end Vd
theorem Tp(v:Value)(r:Ring)(w:World)(hv:wh w v r)(hr:r.length<=1048576):Calls Tryz.prog 206 #[v] w fun e w'=>e=.returned (.int .i64 (Vd.kN r))∧Up w w':=by
 obtain⟨ao,cap,rfl,hm⟩:=hv;have HM:=jO hm;have HS:=jO (fun n=>Vd.FC r n);have HL:=jO (fun n=>Vd.ES r n);have HD:Hid (Vd.kN r=Vd.pH r r.length):=rfl;clear hm;go_enter Tryz.func206,Tryz.ntmps206;go_wp2;go_loopw[3,8](fun fv i wr=>∃(k f:Nat),i=.int .i64 k∧fv=.int .i64 f∧k<=r.length∧Hid (Up w wr)∧Hid (f=Vd.pH r k))(fun _ i _=>r.length-(intOf i).toNat);(case atStart=>exact⟨0,0,rfl,rfl,aD _,Up.refl _,rfl⟩);case round=>obtain⟨k,f,rfl,rfl,hk,HU,HF⟩:=hrel;by_cases hlt:k<r.length;{obtain⟨⟨px,py⟩,hp⟩:=Pl.jQ hlt;have hfl:f<r.length:=(by have:=HL.out k;rw[←HF.out]at this;omega);obtain⟨⟨qx,qy⟩,hq⟩:=Pl.jQ hfl;obtain⟨b,rfl,c0,c1⟩:=HM.out k _ hp;obtain⟨b',e',d0,d1⟩:=HM.out f _ hq;cases e';have e0:=HU.out.cell c0;have e1:=HU.out.cell c1;have Vc:Hid (Up wr (wr.alloc (.cells #[.int .i64 px,.int .i64 py] 32))):=(Up.refl _).alloc _;have RN:=jO (kH (w:=wr) (o:=.cells #[.int .i64 px,.int .i64 py] 32) (vs:=[.int .i64 px,.int .i64 py]) rfl);have g0:=ki (Vc.out.cell (HU.out.cell d0));have g1:=ki (Vc.out.cell (HU.out.cell d1));have q0:=RN.out.gr (i:=0) rfl;have q1:=RN.out.gr (i:=1) rfl;have HK:Hid (∀g:Gr (wr.alloc (.cells #[.int .i64 px,.int .i64 py] 32)),Calls Tryz.prog 236 #[.agg #[.int .i64 px,.int .i64 py],.agg #[.int .i64 qx,.int .i64 qy]] g.v fun e w'=>e=.returned (.bool (decide (Vd.kS (px,py) (qx,qy))))∧Up g.v w'):=fun g=>oq (px,py) (qx,qy) g.v;have DI:Hid (Vd.pH r (k+1)=if Vd.kS (px,py) (qx,qy)then k else f):=(by rw[HS.out,←HF.out];unfold Vd.zD;rw[oa hp,oa hq];exact rfl);have i1:(0:Int)<=(k:Int):=(by omega);have i2:(k:Int)<(r.length:Int):=(by omega);have i3:(0:Int)<=(f:Int):=(by omega);have i4:(f:Int)<(r.length:Int):=(by omega);(try dsimp only at e0 e1 g0 g1 q0 q1);by_cases hb:Vd.kS (px,py) (qx,qy);all_goals(first|rw[ag hb]at HK|rw[aA hb]at HK);(first|rw[aB hb]at DI|rw[ah hb]at DI);clear hp hq c0 c1 d0 d1 hb;go_upto_region 5 with fail;refine jZ (by kernel_rfl) (by kernel_rfl) ?_;(repeat first|go_big_quiet_step((go_at_call 236;exact Calls.lC (HK.out _))));refine wpQuiet_nil ?_;rintro w3⟨⟨_,u3⟩,rfl⟩;have mG:=jO (HU.out.trans (Vc.out.trans u3));clear u3 e0 e1 g0 g1 q0 q1 HK;go_wp2;go_roundw;(case rel=>exact⟨k+1,_,by go_num,rfl,by omega,mG,DI.out.symm⟩);case measure=>simp[intOf];omega};·have hk2:k=r.length:=(by omega);have HR:Hid (f=Vd.kN r):=(by rw[HD.out,HF.out,hk2];exact rfl);have i9:¬(k:Int)<(r.length:Int):=(by omega);clear hk2;go_wp2;go_ret;exact⟨oQ (by rw[HR.out]),HU.out⟩
theorem JI(v:Value)(r:Ring)(k:Nat)(w:World)(hv:wh w v r)(hr:r.length<=1048576)(hc:Vd.DX r)(hk:k<r.length):Calls Tryz.prog 207 #[v,.int .i64 k] w fun e w'=>e=.returned (.bool (Vd.wC r k))∧Up w w':=by
 obtain⟨ao,cap,rfl,hm⟩:=hv;have NY:(k+r.length-1)%r.length<r.length:=cE _ (by omega);have hnl:(k+1)%r.length<r.length:=cE _ (by omega);obtain⟨⟨px,py⟩,hp⟩:=Pl.jQ NY;obtain⟨⟨qx,qy⟩,hq⟩:=Pl.jQ hk;obtain⟨⟨nx,ny⟩,hn⟩:=Pl.jQ hnl;obtain⟨b,rfl,c0,c1⟩:=hm _ _ hp;obtain⟨b',e',d0,d1⟩:=hm _ _ hq;cases e';obtain⟨b',e',n0,n1⟩:=hm _ _ hn;cases e';have HR:Hid (Vd.wC r k=decide (0<Vd.side ((px,py),(qx,qy)) (Vd.rG (nx,ny)))):=(by unfold Vd.wC;rw[oa hp,oa hq,oa hn];exact rfl);have Cp:=jO (hc _ (Pl.jP hp));have Cq:=jO (hc _ (Pl.jP hq));have Cn:=jO (hc _ (Pl.jP hn));have j1:IntKind.i64.wrap ((k:Int)+(r.length:Int))=(k:Int)+(r.length:Int):=kn (by omega) (by omega);have j2:IntKind.i64.wrap ((k:Int)+(r.length:Int)-1)=(k:Int)+(r.length:Int)-1:=kn (by omega) (by omega);have j3:IntKind.i64.wrap ((k:Int)+1)=(k:Int)+1:=kn (by omega) (by omega);have jn:¬r=[]:=fun e=>(by subst e;simp at hk);obtain⟨P,hP⟩:∃P,(k+r.length-1)%r.length=P:=⟨_,rfl⟩;obtain⟨N,hN⟩:∃N,(k+1)%r.length=N:=⟨_,rfl⟩;have j4:((k:Int)+(r.length:Int)-1).tmod (r.length:Int)=(P:Int):=by rw[←hP,show(k:Int)+(r.length:Int)-1=((k+r.length-1:Nat):Int)by omega];exact rfl
 have j5:((k:Int)+1).tmod (r.length:Int)=(N:Int):=(by rw[←hN];exact rfl);rw[hP]at c0 c1 NY;rw[hN]at n0 n1 hnl;have k1:(P:Int)<(r.length:Int):=(by omega);have k2:(N:Int)<(r.length:Int):=(by omega);have k3:(k:Int)<(r.length:Int):=(by omega);have k4:(0:Int)<=(P:Int):=(by omega);have k5:(0:Int)<=(N:Int):=(by omega);have k6:(0:Int)<=(k:Int):=(by omega);have c0a:=fun o=>((Up.refl w).alloc o).cell c0;have WI:=fun o=>((Up.refl w).alloc o).cell c1;have d0a:=fun o=>((Up.refl w).alloc o).cell d0;have d1a:=fun o=>((Up.refl w).alloc o).cell d1;(try dsimp only at c0 c1 d0 d1 n0 n1 c0a WI d0a d1a);have N0:=jO n0;have N1:=jO n1;clear hm hc hp hq hn hP hN n0 n1;go_enter Tryz.func207,Tryz.ntmps207;go_upto_region 2 with fail;go_cut[6](fun sl wc=>∃S:Nat,sl=.pointer (some ⟨S,0,none⟩)∧Hid (Up w wc)∧Hid (jV wc S 191 [.int .i64 px,.int .i64 py,.int .i64 qx,.int .i64 qy]));(case first=>go_region;all_goals go_wp2;go_meet;case rel=>exact⟨w.heap.size,rfl,(by first|exact((Up.refl w).alloc _).drew|exact(Up.refl w).alloc _|exact((Up.refl w).drew.alloc _)),(by first|exact jV.drewN (jV.new w _ _) 1|exact jV.new w _ _)⟩);case rest=>obtain⟨S,rfl,xM,RS⟩:=hcut;clear c0 c1 d0 d1 c0a WI d0a d1a;have s0:=RS.out.gr (i:=0) rfl;have s1:=RS.out.gr (i:=1) rfl;have s2:=RS.out.gr (i:=2) rfl;have s3:=RS.out.gr (i:=3) rfl;have q0:=ki (xM.out.cell N0.out);have q1:=ki (xM.out.cell N1.out);have HA:Hid (∀g:Gr wc,Calls Tryz.prog 199 #[.agg #[.int .i64 nx,.int .i64 ny]] g.v fun e w'=>e=.returned (.agg #[.int .i64 nx,.int .i64 ny,.int .i64 1])∧Up g.v w'):=fun g=>xL (nx,ny) g.v;have HB:Hid (∀g:Gr wc,Calls Tryz.prog 233 #[.agg #[.int .i64 px,.int .i64 py,.int .i64 qx,.int .i64 qy],.agg #[.int .i64 nx,.int .i64 ny,.int .i64 1]] g.v fun e w'=>e=.returned (.int .i64 (Vd.side ((px,py),(qx,qy)) (Vd.rG (nx,ny))))∧Up g.v w'):=fun g=>rZ ((px,py),(qx,qy)) (Vd.rG (nx,ny)) ⟨Cp.out,Cq.out⟩ (Vd.uY Cn.out) g.v;generalize Vd.side ((px,py),(qx,qy)) (Vd.rG (nx,ny))=X at*;go_wp2_with fail;refine jZ (by kernel_rfl) (by kernel_rfl) ?_;(repeat first|go_big_quiet_step(first|(go_at_call 199;exact Calls.lC (HA.out _))|(go_at_call 233;exact Calls.lC (HB.out _))));refine wpQuiet_nil ?_;rintro w3⟨⟨_,u3⟩,rfl⟩;have mG:=jO (xM.out.trans u3);clear u3 q0 q1 s0 s1 s2 s3 HA HB RS xM;go_wp2;go_ret;exact⟨kU (by rw[HR.out]),mG.out⟩
namespace Vd
theorem Qf{r:Ring}{p:jS}(h:p∈jU r):p∈r:=by
 unfold jU lP at h;obtain⟨i,hi,rfl⟩:=aJ.1 h;have hl:=bg.1 (bM.1 hi).1;obtain⟨x,hx⟩:=Pl.jQ hl;unfold jR;rw[aC,hx];exact Pl.jP hx
theorem Tq{r:Ring}(h:DX r):DX (jU r):=fun p hp=>h p (Qf hp)
theorem XV{v:Ring}(h:v.length≠0):kN v<v.length:=by
 have:=ES v v.length;unfold kN;omega
theorem ab0{v:Ring}(l:Bool)(h:v.length≠0):sR v l<=v.length:=by
 unfold sR;split<;>omega
theorem Lr{r:Ring}{l:Bool}(h:(jU r).length≠0):(j6 r l).length=(jU r).length+1:=by
 unfold j6;rw[ah h];simp
theorem ab1{r:Ring}{l:Bool}(h:(jU r).length≠0){k:Nat}(hk:k<(jU r).length+1):(j6 r l)[k]?=some (jR (jU r) ((kN (jU r)+k*sR (jU r) l)%(jU r).length)):=by
 unfold j6;rw[ah h,aI,cK hk];rfl
end Vd
def yw(L:Ring)(k:Nat):Ring:=L.take k++rC (L.length-k)
theorem I6(L:Ring):yw L 0=rC L.length:=by simp[yw]
theorem Ls(L:Ring):yw L L.length=L:=by simp[yw,rC]
theorem Lu{L:Ring}{k:Nat}{p:jS}(h:L[k]?=some p):(yw L k).set k p=yw L (k+1):=by
 have hk:=Pl.jW h;unfold yw rC;rw[Pl.take_one h,cO _ _ (by rw[bH];omega),bH,show k-min k L.length=0 by omega,show L.length-k=L.length-(k+1)+1 by omega,ir,fI];simp
theorem DL{L:Ring}{k:Nat}(h:k<L.length):(yw L k)[k]?=some (0,0):=by
 unfold yw rC;rw[aN (by rw[bH];omega),bH,show k-min k L.length=0 by omega,show L.length-k=L.length-(k+1)+1 by omega,ir];rfl
theorem DM(v:Value)(r:Ring)(l:Bool)(w:World)(hv:wh w v r)(hr:r.length<=1048575)(hc:Vd.DX r)(h0:(Vd.jU r).length≠0):Calls Tryz.prog 167 #[v,.bool l] w fun e w'=>∃g:Nat,e=.returned (.slice (some ⟨g,0,none⟩) (Vd.j6 r l).length (Vd.j6 r l).length)∧w.heap.size<=g∧pE w' g (Vd.j6 r l)∧Up w w':=by
 have hlen:(Vd.jU r).length<=r.length:=(by have:=Vd.y8 r r.length;exact this);have HV:=jO hv;have HC:=jO hc;have HCV:=jO (Vd.Tq hc);have HF:Hid (∀k,k<(Vd.jU r).length+1->(Vd.j6 r l)[k]?=some (Vd.jR (Vd.jU r) ((Vd.kN (Vd.jU r)+k*Vd.sR (Vd.jU r) l)%(Vd.jU r).length))):=fun k hk=>Vd.ab1 h0 hk;have hfl:=Vd.XV h0;have TI:=Vd.ab0 l h0;have Ym:=jO (Vd.Lr (l:=l) h0);obtain⟨ao0,aem,rfl,-⟩:=HV.out;clear hv hc;have HCo:=jO (Qe _ r w HV.out (by omega) HC.out);have HSt:Hid (Vd.sR (Vd.jU r) l=if Vd.wC (Vd.jU r) (Vd.kN (Vd.jU r))=l then 1 else(Vd.jU r).length-1):=rfl;generalize Vd.jU r=V at*;generalize Vd.j6 r l=L at*;generalize hf:Vd.kN V=f at*;generalize hs:Vd.sR V l=s at*;have Hf:=jO hf;clear hf hs;have j0:((V.length:Int)==0)=false:=ai.2 (by omega);have jn:¬V=[]:=fun e=>(by subst e;simp at h0);go_enter Tryz.func167,Tryz.ntmps167;go_wp2_with fail;refine HCo.out.mono ?_;rintro e w1⟨u,rfl,hu1,ho⟩;have tV:=jO hu1;obtain⟨ao,cap,rfl⟩:=kO ho;have HR1:=jO (xA ho);clear hu1 ho HCo;go_wp2_with fail;refine(Tp _ V w1 HR1.out (by omega)).mono ?_
 rintro e w2⟨rfl,oZ⟩;rw[Hf.out];have lX:=jO (tV.out.trans oZ);have A9:=jO (HR1.out.up oZ);clear oZ;go_wp2_with fail;refine(JI _ V f w2 A9.out (by omega) HCV.out hfl).mono ?_;rintro e w3⟨rfl,qj⟩;have mG:=jO (lX.out.trans qj);have HR3:=jO (A9.out.up qj);clear qj;have Yq:Hid (L.length=V.length+1):=Ym.out;have hmk:∀w:World,(Instr.makeSlice 30 (.int .i64 ((V.length:Int)+1)) (.int .i64 ((V.length:Int)+1))).run Tryz.prog w=.ok (.slice (some ⟨w.heap.size,0,none⟩) (V.length+1) (V.length+1)) (w.alloc (.cells (flat (rC (V.length+1))).toArray 32)):=fun w=>Im (V.length+1) (by omega) w;have j1:IntKind.i64.wrap ((V.length:Int)+1)=(V.length:Int)+1:=kn (by omega) (by omega);have j2:IntKind.i64.wrap ((V.length:Int)-1)=(V.length:Int)-1:=kn (by omega) (by omega);have hcs:(Vd.wC V f=l∧s=1)∨(Vd.wC V f≠l∧s=V.length-1):=(by by_cases h:Vd.wC V f=l;{exact .inl ⟨h,by rw[HSt.out,aB h]⟩};·exact .inr ⟨h,by rw[HSt.out,ah h]⟩);clear HSt;generalize Vd.wC V f=B at*;rcases hcs with⟨hB,hs⟩|⟨hB,hs⟩;·have hB1:(B !=l)=false:=(by rw[hB];simp);have hB2:(B==l)=true:=(by rw[hB];simp);subst hs;clear hB;go_wp2_with fail;have MG:Hid (Up w3 (w3.alloc (.cells (flat (rC (V.length+1))).toArray 32))):=(Up.refl _).alloc _;have RB:Hid (pE (w3.alloc (.cells (flat (rC (V.length+1))).toArray 32)) w3.heap.size (yw L 0)):=(by rw[I6,Yq.out];exact jV.new w3 _ _);have hbase:Hid (w.heap.size<=w3.heap.size):=mG.out.size;obtain⟨G,hG⟩:∃G,w3.heap.size=G:=⟨_,rfl⟩;rw[hG]at RB hbase⊢;have HG:=jO hG;generalize w3.alloc (.cells (flat (rC (V.length+1))).toArray 32)=W0 at*;clear hmk hG;go_loopw[31](fun i wq=>∃t:Nat,i=.int .i64 t∧t<=V.length+1∧Hid (Up w3 wq)∧Hid (pE wq G (yw L t)))(fun i _=>V.length+1-(intOf i).toNat);(case atStart=>exact⟨0,rfl,aD _,MG,RB⟩);case round=>clear MG RB;obtain⟨t,rfl,ht,qT,RB⟩:=hrel;by_cases hlt:t<V.length+1;{have hmul:t*1<=(V.length+1)*V.length:=jL (by omega) (by omega);have ab2:(V.length+1)*V.length<=1048577*1048576:=jL (by omega) (by omega);obtain⟨P,hP⟩:∃P,(f+t*1)%V.length=P:=⟨_,rfl⟩;have hPl:P<V.length:=(by rw[←hP];exact cE _ (by omega));obtain⟨⟨px,py⟩,hp⟩:=Pl.jQ hPl;obtain⟨ao',cap',e',hm⟩:=HR3.out;cases e';obtain⟨b,rfl,c0,c1⟩:=hm P _ hp;have k0:=qT.out.cell c0;have k1:=qT.out.cell c1;have HLt:=jO (HF.out t hlt);rw[hP,oa hp]at HLt;have m3:IntKind.i64.wrap ((f:Int)+(t:Int))=(f:Int)+(t:Int):=kn (by omega) (by omega);have m4:((f:Int)+(t:Int)).tmod (V.length:Int)=(P:Int):=(by rw[show(f:Int)+(t:Int)=((f+t*1:Nat):Int)by omega,←hP];exact rfl);have m5:IntKind.i64.wrap (t:Int)=(t:Int):=kn (by omega) (by omega);have n1:(0:Int)<=(P:Int):=(by omega);have n2:(P:Int)<(V.length:Int):=(by omega);have n3:(0:Int)<=(t:Int):=(by omega);have n4:(t:Int)<(V.length:Int)+1:=(by omega);have hLt:t<L.length:=(by rw[Yq.out];exact hlt);have z0:=(pE.cells RB.out (DL hLt)).1;have z1:=(pE.cells RB.out (DL hLt)).2;have zf:=fun i=>jV.frozen RB.out i;have vh:Hid (w3.heap.size<=G):=gL HG.out;(try dsimp only at k0 k1 z0 z1);clear hm hp c0 c1 hP hmul ab2;go_wp2;go_roundw;(case rel=>exact⟨t+1,by go_num,by omega,(qT.out.setCell vh.out _).setCell vh.out _,by have:=pE.set RB.out t (px,py);rw[Lu HLt.out]at this;exact this⟩);case measure=>simp[intOf];omega};·have e:t=L.length:=(by rw[Yq.out];omega);have HRr:Hid (pE wr G L):=(by have:=RB.out;rw[e,Ls]at this;exact this);have n4:¬(t:Int)<(V.length:Int)+1:=(by omega);clear e;go_wp2;go_ret;exact⟨G,by rw[Yq.out];rfl,hbase.out,HRr.out,mG.out.trans qT.out⟩
 ·have hB1:(B !=l)=true:=(by simpa using hB);have hB2:(B==l)=false:=(by simpa using hB);have hsI:(V.length:Int)-1=(s:Int):=(by omega);clear hB hs;go_wp2_with fail;have MG:Hid (Up w3 (w3.alloc (.cells (flat (rC (V.length+1))).toArray 32))):=(Up.refl _).alloc _;have RB:Hid (pE (w3.alloc (.cells (flat (rC (V.length+1))).toArray 32)) w3.heap.size (yw L 0)):=(by rw[I6,Yq.out];exact jV.new w3 _ _);have hbase:Hid (w.heap.size<=w3.heap.size):=mG.out.size;obtain⟨G,hG⟩:∃G,w3.heap.size=G:=⟨_,rfl⟩;rw[hG]at RB hbase⊢;have HG:=jO hG;generalize w3.alloc (.cells (flat (rC (V.length+1))).toArray 32)=W0 at*;clear hmk hG;go_loopw[31](fun i wq=>∃t:Nat,i=.int .i64 t∧t<=V.length+1∧Hid (Up w3 wq)∧Hid (pE wq G (yw L t)))(fun i _=>V.length+1-(intOf i).toNat);(case atStart=>exact⟨0,rfl,aD _,MG,RB⟩);case round=>clear MG RB;obtain⟨t,rfl,ht,qT,RB⟩:=hrel;by_cases hlt:t<V.length+1;{have hmul:t*s<=(V.length+1)*V.length:=jL (by omega) TI;have ab2:(V.length+1)*V.length<=1048577*1048576:=jL (by omega) (by omega);obtain⟨P,hP⟩:∃P,(f+t*s)%V.length=P:=⟨_,rfl⟩;have hPl:P<V.length:=(by rw[←hP];exact cE _ (by omega));obtain⟨⟨px,py⟩,hp⟩:=Pl.jQ hPl;obtain⟨ao',cap',e',hm⟩:=HR3.out;cases e';obtain⟨b,rfl,c0,c1⟩:=hm P _ hp;have k0:=qT.out.cell c0;have k1:=qT.out.cell c1;have HLt:=jO (HF.out t hlt);rw[hP,oa hp]at HLt;have m1:(t:Int)*(s:Int)=((t*s:Nat):Int):=(by rw[Int.natCast_mul]);have m2:IntKind.i64.wrap ((t:Int)*(s:Int))=(t:Int)*(s:Int):=kn (by rw[m1];omega) (by rw[m1];omega);have m3:IntKind.i64.wrap ((f:Int)+(t:Int)*(s:Int))=(f:Int)+(t:Int)*(s:Int):=kn (by rw[m1];omega) (by rw[m1];omega);have m4:((f:Int)+(t:Int)*(s:Int)).tmod (V.length:Int)=(P:Int):=(by rw[m1,show(f:Int)+((t*s:Nat):Int)=((f+t*s:Nat):Int)by omega,←hP];exact rfl);have n1:(0:Int)<=(P:Int):=(by omega);have n2:(P:Int)<(V.length:Int):=(by omega);have n3:(0:Int)<=(t:Int):=(by omega);have n4:(t:Int)<(V.length:Int)+1:=(by omega);have hLt:t<L.length:=(by rw[Yq.out];exact hlt);have z0:=(pE.cells RB.out (DL hLt)).1;have z1:=(pE.cells RB.out (DL hLt)).2;have zf:=fun i=>jV.frozen RB.out i;have vh:Hid (w3.heap.size<=G):=gL HG.out;(try dsimp only at k0 k1 z0 z1);clear hm hp c0 c1 hP m1 hmul ab2;go_wp2;go_roundw;(case rel=>exact⟨t+1,by go_num,by omega,(qT.out.setCell vh.out _).setCell vh.out _,by have:=pE.set RB.out t (px,py);rw[Lu HLt.out]at this;exact this⟩);case measure=>simp[intOf];omega};·have e:t=L.length:=(by rw[Yq.out];omega);have HRr:Hid (pE wr G L):=(by have:=RB.out;rw[e,Ls]at this;exact this);have n4:¬(t:Int)<(V.length:Int)+1:=(by omega);clear e;go_wp2;go_ret;exact⟨G,by rw[Yq.out];rfl,hbase.out,HRr.out,mG.out.trans qT.out⟩
def Vls(w:World)(v:Value)(us:List Value):Prop:=∃ao cap,v=.slice ao us.length cap∧∀i u,us[i]?=some u->∃b,ao=some ⟨b,0,none⟩∧w.cell? ⟨b,i,none⟩=some u
def ab3(us:List Value)(i:Nat):Value:=us.getD i (.slice none 0 0)
theorem ET{us:List Value}{i:Nat}{u:Value}(h:us[i]?=some u):ab3 us i=u:=by
 unfold ab3;rw[aC,h];rfl
def EU(m:jX)(us:List Value)(n:Nat):List Value:=Vd.LU (fun i=>Vd.qE m i m.length) (ab3 us) (tC m.length) n
theorem I7(m:jX)(us:List Value)(n:Nat):(EU m us n).length=m.length:=by
 unfold EU;rw[Vd.xV];simp[tC]
theorem XW(m:jX)(us:List Value)(n:Nat):EU m us (n+1)=(EU m us n).set (Vd.qE m n m.length) (ab3 us n):=by
 unfold EU;rw[Vd.Ej]
theorem Vi{m:jX}{us:List Value}{i:Nat}(hi:i<m.length):(EU m us m.length)[Vd.qE m i m.length]?=some (ab3 us i):=Vd.Gd (f:=fun i=>Vd.qE m i m.length) (N:=m.length) (fun i h=>by simpa[tC]using Vd.s6 h) (fun i k h1 h2=>Vd.AR h1 h2) m.length (bB _) i hi
theorem FD(v:Value)(m:jX)(us:List Value)(w:World)(hv:vM w v m)(hu:Vls w v us)(hlen:us.length=m.length)(hm:m.length<=1048576)(hl:∀l∈m,l.length<=1048576)(hr:∀l∈m,∀r∈l,r.length<=1048576):Calls Tryz.prog 132 #[v] w fun e w'=>∃G:Nat,e=.returned (.slice (some ⟨G,0,none⟩) m.length m.length)∧w.heap.size<=G∧jV w' G 33 (EU m us m.length)∧Up w w':=by
 have HL:=jO hl;have HR:=jO hr;obtain⟨ao,cap,rfl,hU⟩:=hu;have FB:=jO hU;have Ym:=jO hlen;rw[hlen]at hv⊢;have HV:=jO hv;have HSl:Hid (∀(i:Nat)(u:Value),us[i]?=some u->∃a n c,u=.slice a n c):=fun i u hu=>(by obtain⟨b,e,c⟩:=FB.out i u hu;obtain⟨rS,mq,e2,h2⟩:=HV.out;cases e2;obtain⟨l,hl⟩:=Pl.jQ (show i<m.length by rw[←Ym.out];exact Pl.jW hu);obtain⟨b',u',e',c',FW⟩:=h2 i l hl;rw[e]at e';cases e';rw[c]at c';cases c';obtain⟨a,cp,rfl,-⟩:=FW;exact⟨_,_,_,rfl⟩);have hmk:=Cf m.length (by omega);clear hv hl hr hU hlen;go_enter Tryz.func132,Tryz.ntmps132;go_wp2;have MG:Hid (Up w (w.alloc (.cells (tC m.length).toArray 33))):=(Up.refl _).alloc _;have RB:Hid (jV (w.alloc (.cells (tC m.length).toArray 33)) w.heap.size 33 (EU m us 0)):=jV.new w _ _;obtain⟨G,hG⟩:∃G,w.heap.size=G:=⟨_,rfl⟩;rw[hG]at RB⊢;have HG:=jO hG;generalize w.alloc (.cells (tC m.length).toArray 33)=W0 at*;clear hmk hG;go_loopw[11](fun i wq=>∃t:Nat,i=.int .i64 t∧t<=m.length∧Hid (Up w wq)∧Hid (jV wq G 33 (EU m us t)))(fun i _=>m.length-(intOf i).toNat);(case atStart=>exact⟨0,rfl,aD _,MG,RB⟩);case round=>clear MG RB;obtain⟨k,rfl,hk,HU,RB⟩:=hrel;by_cases hlt:k<m.length;{obtain⟨u,hu⟩:=Pl.jQ (show k<us.length by rw[Ym.out];exact hlt);obtain⟨b,rfl,c0⟩:=FB.out k u hu;obtain⟨ua,un,uc,rfl⟩:=HSl.out k u hu;have HX:=jO (XW m us k);rw[ET hu]at HX;have e0:=HU.out.cell c0;have hcl:=Vd.s6 (m:=m) hlt;have HKc:=jO (IY _ m k wr (HV.out.up HU.out) hlt hm HL.out HR.out);generalize Vd.qE m k m.length=C at*;have i1:(0:Int)<=(k:Int):=(by omega);have i2:(k:Int)<(m.length:Int):=(by omega);have i3:(0:Int)<=(C:Int):=(by omega);have i4:(C:Int)<(m.length:Int):=(by omega);clear hu c0;go_wp2_with fail;refine HKc.out.mono ?_;rintro e w2⟨rfl,oZ⟩;have lX:=jO (HU.out.trans oZ);have RB2:=jO (RB.out.up oZ);obtain⟨z,hz⟩:=Pl.jQ (show C<(EU m us k).length by rw[I7];exact hcl);have z0:=RB2.out.cell hz;have zf:=fun i=>RB2.out.frozen i;have vh:Hid (w.heap.size<=G):=gL HG.out;(try dsimp only at z0 zf);clear oZ e0 HKc hz RB;go_wp2;go_roundw;(case rel=>exact⟨k+1,by go_num,by omega,lX.out.setCell vh.out _,by rw[HX.out];exact RB2.out.set C _⟩);case measure=>simp[intOf];omega};·have hk2:k=m.length:=(by omega);have HRr:Hid (jV wr G 33 (EU m us m.length)):=(by have:=RB.out;rw[hk2]at this;exact this);have i2:¬(k:Int)<(m.length:Int):=(by omega);clear hk2;go_wp2;go_ret;exact⟨G,rfl,gL HG.out,HRr.out,HU.out⟩
structure RG where
 g:Nat
 r:Ring
def RG.v(q:RG):Value:=.slice (some ⟨q.g,0,none⟩) q.r.length q.r.length
def RG.ok(base:Nat)(w:World)(q:RG):Prop:=base<=q.g∧pE w q.g q.r
theorem RG.ok.up{base:Nat}{w w':World}{q:RG}(h:q.ok base w)(k:Up w w'):q.ok base w':=⟨h.1,jV.up h.2 k⟩
theorem RG.ok.grown{base base' n:Nat}{w w':World}{q:RG}{v:Value}{xs:List Value}{e:TypeId}(h:q.ok base w)(ho:w.ownsRow base' e 1 v n xs)(he:e≠32)(hg:w.grownBy w' v.ownBlock):q.ok base w':=⟨h.1,jV.grown h.2 hg (ko ho h.2 he)⟩
structure QF(base:Nat)(w:World)(v:Value)(Q:List RG):Prop where
 own:w.ownsRow base 30 1 v Q.length (Q.map RG.v)
 ok:∀q∈Q,q.ok base w
theorem QF.up{base:Nat}{w w':World}{v:Value}{Q:List RG}(h:QF base w v Q)(k:Up w w'):QF base w' v Q:=⟨mA h.own k,fun q hq=>(h.ok q hq).up k⟩
structure HB where
 p:Nat
 q:RG
def HB.v(h:HB):Value:=.slice (some ⟨h.p,0,none⟩) 1 1
def HB.ok(base:Nat)(w:World)(h:HB):Prop:=base<=h.p∧jV w h.p 30 [h.q.v]∧h.q.ok base w
theorem HB.ok.up{base:Nat}{w w':World}{q:HB}(h:q.ok base w)(k:Up w w'):q.ok base w':=⟨h.1,h.2.1.up k,h.2.2.up k⟩
structure QH(base:Nat)(w:World)(fv v:Value)(H:List HB):Prop where
 own:w.ownsRow base 33 1 v H.length (H.map HB.v)
 ok:∀h∈H,h.ok base w
 ne:∀h∈H,fv.ownBlock≠some h.p
theorem QH.up{base:Nat}{w w':World}{fv v:Value}{H:List HB}(h:QH base w fv v H)(k:Up w w'):QH base w' fv v H:=⟨mA h.own k,fun q hq=>(h.ok q hq).up k,h.ne⟩
theorem yz{base base' n n' s s':Nat}{w w':World}{v v':Value}{xs xs':List Value}{e e':TypeId}(h:w.ownsRow base e s v n xs)(ho:w.ownsRow base' e' s' v' n' xs')(he:e≠e')(hg:w.grownBy w' v'.ownBlock):w'.ownsRow base e s v n xs:=qz h fun g hb=>hg.block g (lH h hb).2 (fun e2=>ML h ho he hb e2.symm)
theorem QF.push{base:Nat}{w w':World}{v:Value}{Q:List RG}{q:RG}{g cap:Nat}(h:QF base w v Q)(hq:q.ok base w)(hg:w.grownBy w' v.ownBlock)(hown:w'.ownsRow base 30 1 (.slice (some ⟨g,0,none⟩) (Q.length+1) cap) (Q.length+1) (Q.map RG.v++[q.v])):QF base w' (.slice (some ⟨g,0,none⟩) (Q.length+1) cap) (Q++[q]):=by
 refine⟨by rw[aV,aE];exact hown,fun x hx=>?_⟩;rcases aj.1 hx with hx|hx;{exact(h.ok x hx).grown h.own (by decide) hg};·rw[bu.1 hx];exact hq.grown h.own (by decide) hg
theorem QF.byH{base:Nat}{w w':World}{fv v:Value}{Q:List RG}{H:List HB}(h:QF base w fv Q)(k:QH base w fv v H)(hg:w.grownBy w' v.ownBlock):QF base w' fv Q:=⟨yz h.own k.own (by decide) hg,fun x hx=>(h.ok x hx).grown k.own (by decide) hg⟩
theorem HB.ok.byF{base:Nat}{w w':World}{fv:Value}{Q:List RG}{h:HB}(k:h.ok base w)(hf:QF base w fv Q)(hne:fv.ownBlock≠some h.p)(hg:w.grownBy w' fv.ownBlock):h.ok base w':=⟨k.1,k.2.1.grown hg hne,k.2.2.grown hf.own (by decide) hg⟩
theorem QH.byF{base:Nat}{w w':World}{fv v:Value}{Q:List RG}{H:List HB}{g cap n:Nat}(k:QH base w fv v H)(h:QF base w fv Q)(hg:w.grownBy w' fv.ownBlock)(IA:fv.ownBlock=some g∨g=w.heap.size):QH base w' (.slice (some ⟨g,0,none⟩) n cap) v H:=by
 refine⟨yz k.own h.own (by decide) hg,fun x hx=>(k.ok x hx).byF h (k.ne x hx) hg,fun x hx e=>?_⟩;have hlt:x.p<w.heap.size:=jV.lt (k.ok x hx).2.1;have e':g=x.p:=aY e;rcases IA with e2|e2;{exact k.ne x hx (e'▸e2)};·omega
theorem QH.push{base:Nat}{w w':World}{fv v:Value}{H:List HB}{x:HB}{g cap:Nat}(h:QH base w fv v H)(hx:x.ok base w)(hne:fv.ownBlock≠some x.p)(hg:w.grownBy w' v.ownBlock)(hown:w'.ownsRow base 33 1 (.slice (some ⟨g,0,none⟩) (H.length+1) cap) (H.length+1) (H.map HB.v++[x.v])):QH base w' fv (.slice (some ⟨g,0,none⟩) (H.length+1) cap) (H++[x]):=by
 refine⟨by rw[aV,aE];exact hown,fun y hy=>?_,fun y hy=>?_⟩;{have one:∀y:HB,y.ok base w->y.ok base w':=fun y k=>⟨k.1,k.2.1.grown hg (ko h.own k.2.1 (by decide)),k.2.2.grown h.own (by decide) hg⟩;rcases aj.1 hy with hy|hy;{exact one y (h.ok y hy)};·rw[bu.1 hy];exact one x hx};·rcases aj.1 hy with hy|hy;{exact h.ne y hy};·rw[bu.1 hy];exact hne
theorem QF.nil(base:Nat)(w:World):QF base w (.slice none 0 0) []:=⟨World.ownsRow_nil _ _ _ _,fun q hq=>by simp at hq⟩
theorem QH.nil(base:Nat)(w:World):QH base w (.slice none 0 0) (.slice none 0 0) []:=⟨World.ownsRow_nil _ _ _ _,fun q hq=>by simp at hq,fun q hq=>by simp at hq⟩
def HB.m(H:List HB):jX:=H.map fun h=>[h.q.r]
theorem RG.ok.rd{base:Nat}{w:World}{q:RG}(h:q.ok base w):wh w q.v q.r:=⟨some ⟨q.g,0,none⟩,_,rfl,fun i p hp=>⟨q.g,rfl,(pE.cells h.2 hp).1,(pE.cells h.2 hp).2⟩⟩
theorem QH.rd{base:Nat}{w:World}{fv v:Value}{H:List HB}(h:QH base w fv v H):vM w v (HB.m H)∧Vls w v (H.map HB.v):=by
 obtain⟨ao,cap,e⟩:=kO h.own;have key:∀i x,H[i]?=some x->∃g,ao=some ⟨g,0,none⟩∧w.cell? ⟨g,i,none⟩=some x.v:=fun i x hx=>(by obtain⟨g,cap',e',hc⟩:=lI h.own (by have:=Pl.jW hx;omega);rw[e]at e';cases e';exact⟨g,rfl,hc i _ (by rw[aI,hx];rfl)⟩);constructor;{refine⟨ao,cap,by rw[e];simp[HB.m],fun i l hl=>?_⟩;unfold HB.m at hl;rw[aI,b6]at hl;obtain⟨x,hx,rfl⟩:=hl;obtain⟨g,eg,c⟩:=key i x hx;refine⟨g,x.v,eg,c,some ⟨x.p,0,none⟩,1,rfl,fun j r hr=>?_⟩;cases j with|zero=>simp at hr;subst hr;exact⟨x.p,x.q.v,rfl,(h.ok x (Pl.jP hx)).2.1.cell (i:=0) rfl,(h.ok x (Pl.jP hx)).2.2.rd⟩|succ j=>simp at hr};·refine⟨ao,cap,by rw[e];simp,fun i u hu=>?_⟩;rw[aI,b6]at hu;obtain⟨x,hx,rfl⟩:=hu;obtain⟨g,eg,c⟩:=key i x hx;exact⟨g,eg,c⟩
def I8(H:List HB):List HB:=Vd.LU (fun i=>Vd.qE (HB.m H) i H.length) (fun i=>H.getD i ⟨0,⟨0,[]⟩⟩) (List.replicate H.length ⟨0,⟨0,[]⟩⟩) H.length
theorem DN(H:List HB):(I8 H).length=H.length:=by
 unfold I8;rw[Vd.xV];simp
theorem HB.qJ(H:List HB):(HB.m H).length=H.length:=by simp[HB.m]
theorem MU{H:List HB}{j:Nat}(hj:j<H.length):∃(i:Nat)(x:HB),H[i]?=some x∧Vd.qE (HB.m H) i H.length=j∧(I8 H)[j]?=some x:=by
 obtain⟨i,hi,e⟩:=Vd.zS (m:=HB.m H) hj;obtain⟨x,hx⟩:=Pl.jQ hi;refine⟨i,x,hx,e,?_⟩;rw[←e];unfold I8;rw[Vd.Gd (f:=fun i=>Vd.qE (HB.m H) i H.length) (N:=H.length) (fun i h=>by simpa using Vd.s6 h) (fun i k h1 h2=>Vd.AR h1 h2) H.length (bB _) i hi,aC,hx];rfl
theorem Qg{H:List HB}{x:HB}(h:x∈I8 H):x∈H:=by
 obtain⟨j,hj⟩:=fL h;have:=Pl.jW hj;rw[DN]at this;obtain⟨i,y,hy,-,e⟩:=MU this;rw[hj]at e;cases e;exact Pl.jP hy
theorem XX(H:List HB):EU (HB.m H) (H.map HB.v) (HB.m H).length=(I8 H).map HB.v:=by
 refine dz fun j=>?_;rcases bI j H.length with hj|hj;{obtain⟨i,x,hx,e,ho⟩:=MU hj;rw[aI,ho];have:=Vi (m:=HB.m H) (us:=H.map HB.v) (i:=i) (by rw[HB.qJ];exact Pl.jW hx);rw[HB.qJ,e]at this;rw[HB.qJ,this,ET (u:=x.v) (by rw[aI,hx];rfl)];rfl};·rw[aZ (by rw[I7,HB.qJ];exact hj),aZ (by rw[aH,DN];exact hj)]
theorem Tr(H:List HB):Vd.mP (HB.m H)=(I8 H).map fun h=>[h.q.r]:=by
 refine dz fun j=>?_;rcases bI j H.length with hj|hj;{obtain⟨i,x,hx,e,ho⟩:=MU hj;rw[aI,ho];have:=Vd.yO (HB.m H) (i:=i) (by rw[HB.qJ];exact Pl.jW hx);rw[HB.qJ,e]at this;rw[this];have h2:(HB.m H)[i]?=some [x.q.r]:=(by unfold HB.m;rw[aI,hx];rfl);rw[tS h2];rfl};·rw[aZ (by rw[Vd.uT,HB.qJ];exact hj),aZ (by rw[aH,DN];exact hj)]
theorem XY(L:List HB):(L.map fun h=>[h.q.r]).flatten=L.map fun h=>h.q.r:=by induction L with|nil=>rfl|cons a t ih=>simp[ih]
structure RZ(r:Ring):Prop where
 len:r.length<=1048575
 cd:Vd.DX r
 cn:(Vd.jU r).length≠0
theorem I9{r:Ring}{l:Bool}(h:RZ r):(Vd.j6 r l).length<=1048576:=by
 rw[Vd.Lr h.cn];have:(Vd.jU r).length<=r.length:=Vd.y8 r r.length;have:=h.len;omega
theorem FR (v : Value) (l : Poly) (w : World) (hv : wj w v l) (hl : l.length ≤ 1048576) (hz : ∀ r ∈ l, RZ r) :
    Calls Tryz.prog 131 #[v] w fun e w' => ∃ (fv : Value) (Q : List RG), e = .returned fv ∧ QF w.heap.size w' fv Q ∧ Q.map RG.r = Vd.lM l ∧ Up w w' := by
  obtain ⟨ao, cap, rfl, hm⟩ := hv
  have HM := jO hm
  have HZ := jO hz
  clear hm hz
  go_enter Tryz.func131, Tryz.ntmps131
  go_wp2
  go_loopw [3, 4, 11] (fun fv hv i wr => ∃ (k : Nat) (u x : Value) (Q : List RG) (H : List HB), i = .int .i64 k ∧ u = fv ∧ x = hv ∧ k ≤ l.length ∧ Hid (Up w wr) ∧ Hid (QF w.heap.size wr u Q) ∧ Hid (QH w.heap.size wr u x H) ∧ Hid (Q.map RG.r = ((l.take k).take 1).map (Vd.j6 · true)) ∧ Hid ((H.map fun h => h.q.r) = ((l.take k).drop 1).map (Vd.j6 · false))) (fun _ _ i _ => l.length - (intOf i).toNat)
  case atStart => exact ⟨0, _, _, [], [], rfl, rfl, rfl, Nat.zero_le _, Up.refl _, QF.nil _ _, QH.nil _ _, rfl, rfl⟩
  case round =>
    obtain ⟨k, u, x, Q, H, rfl, rfl, rfl, hk, HU, HQ, HH, HE1, y5⟩ := hrel
    by_cases hlt : k < l.length
    · obtain ⟨r, hr⟩ := Pl.jQ hlt
      obtain ⟨b, y, rfl, cy, hy⟩ := HM.out k r hr
      have e0 := HU.out.cell cy
      have Hy := jO (hy.up HU.out)
      have HZr := jO (HZ.out r (Pl.jP hr))
      have HTk := jO (Pl.take_one hr)
      have i1 : (0 : Int) ≤ (k : Int) := by omega
      have i2 : (k : Int) < (l.length : Int) := by omega
      have hsz : Hid (w.heap.size ≤ wr.heap.size) := HU.out.size
      have hQl : Hid (Q.length ≤ 1073741824) := by
        have := congrArg List.length HE1.out
        simp only [List.length_map, List.length_take] at this
        show _ ≤ _; omega
      have hHl : Hid (H.length ≤ 1073741824) := by
        have := congrArg List.length y5.out
        simp only [List.length_map, List.length_take, List.length_drop] at this
        show _ ≤ _; omega
      clear hr cy hy
      by_cases nH : k = 0
      · subst nH
        have aiB : Hid (∀ q : RG, q.r = Vd.j6 r true → (Q ++ [q]).map RG.r = ((l.take (0 + 1)).take 1).map (Vd.j6 · true)) := fun q hq => by
          rw [List.map_append, HE1.out, HTk.out]; simp [hq]
        have aiC : Hid ((H.map fun h => h.q.r) = ((l.take (0 + 1)).drop 1).map (Vd.j6 · false)) := by
          rw [y5.out, HTk.out]; simp [Hid]
        go_wp2_with fail
        refine (DM _ r true _ Hy.out HZr.out.len HZr.out.cd HZr.out.cn).mono ?_
        rintro e w2 ⟨g, rfl, hg, hP, oZ⟩
        have lX := jO oZ
        have Hq : Hid (RG.ok w.heap.size w2 ⟨g, Vd.j6 r true⟩) := ⟨Nat.le_trans hsz.out hg, hP⟩
        generalize hF : Vd.j6 r true = F at *
        clear oZ hP e0 hF
        have Cm : Hid (Up wr (w2.alloc (.cells #[.slice (some ⟨g, 0, none⟩) F.length F.length] 30))) := lX.out.alloc _
        have Hqa : Hid (RG.ok w.heap.size (w2.alloc (.cells #[.slice (some ⟨g, 0, none⟩) F.length F.length] 30)) ⟨g, F⟩) := Hq.out.up ((Up.refl _).alloc _)
        have Qh := jO (HQ.out.up Cm.out)
        have HHa := jO (HH.out.up Cm.out)
        have aiD : Hid (w.heap.size ≤ w2.heap.size) := Nat.le_trans hsz.out lX.out.size
        have yA : Hid ((w2.alloc (.cells #[.slice (some ⟨g, 0, none⟩) F.length F.length] 30)).heap[w2.heap.size]? = some (.cells [Value.slice (some ⟨g, 0, none⟩) F.length F.length].toArray 30 (0, 0))) := jV.new w2 [.slice (some ⟨g, 0, none⟩) F.length F.length] 30
        have Nn : Hid (w.heap.size ≤ (w2.alloc (.cells #[.slice (some ⟨g, 0, none⟩) F.length F.length] 30)).heap.size) := by
          have := aiD.out; simp [Hid]; omega
        obtain ⟨xa, xc, rfl⟩ := kO HH.out.own
        obtain ⟨ua, uc, rfl⟩ := kO HQ.out.own
        go_wp2_with (at_builtin; refine kG wS rfl (.tmp 18) (.tmp 21) rfl w.heap.size _ _ _ (by rfl) Qh.out.own w2.heap.size [.slice (some ⟨g, 0, none⟩) F.length F.length] (by rfl) rfl yA.out (by intro z hz; simp at hz; subst hz; rfl) hQl.out Nn.out ?_; intro g5 xN w5 lJ o5 qU rT; have XZ := jO (Qh.out.push Hqa.out o5 lJ); have HH5 := jO (HHa.out.byF (n := Q.length + 1) (cap := xN) Qh.out o5 qU); have uJ : Hid (Up w w5) := Fr.up (S := fun _ => False) ((Fr.nS (HU.out.trans Cm.out)).grown o5 fun z hz => .inr (lH HQ.out.own hz).1) (fun _ _ h => h); clear lJ o5 qU rT)
        go_roundw
        case rel => exact ⟨0 + 1, _, _, _, H, by go_num, rfl, rfl, by omega, uJ, XZ, HH5, aiB.out _ rfl, aiC⟩
        case measure => simp [intOf]; omega
      · have aqb : ((k : Int) == 0) = false := beq_eq_false_iff_ne.2 (by omega)
        have aiB : Hid (Q.map RG.r = ((l.take (k + 1)).take 1).map (Vd.j6 · true)) := by
          rw [HE1.out, HTk.out]; show _ = _; rw [List.take_append_of_le_length (by rw [List.length_take]; omega)]
        have aiC : Hid (∀ q : HB, q.q.r = Vd.j6 r false → ((H ++ [q]).map fun h => h.q.r) = ((l.take (k + 1)).drop 1).map (Vd.j6 · false)) := fun q hq => by
          rw [List.map_append, y5.out, HTk.out, List.drop_append_of_le_length (by rw [List.length_take]; omega), List.map_append]; simp [hq]
        clear nH
        go_wp2_with fail
        refine (DM _ r false _ Hy.out HZr.out.len HZr.out.cd HZr.out.cn).mono ?_
        rintro e w2 ⟨g, rfl, hg, hP, oZ⟩
        have lX := jO oZ
        have Hq : Hid (RG.ok w.heap.size w2 ⟨g, Vd.j6 r false⟩) := ⟨Nat.le_trans hsz.out hg, hP⟩
        have hfl := jO (I9 (l := false) HZr.out)
        generalize hF : Vd.j6 r false = F at *
        clear oZ hP e0 hF
        have Cm : Hid (Up wr ((w2.alloc (.cells #[.slice (some ⟨g, 0, none⟩) F.length F.length] 30)).alloc (.cells #[.slice (some ⟨w2.heap.size, 0, none⟩) 1 1] 33))) := (lX.out.alloc _).alloc _
        have HXo : Hid (HB.ok w.heap.size ((w2.alloc (.cells #[.slice (some ⟨g, 0, none⟩) F.length F.length] 30)).alloc (.cells #[.slice (some ⟨w2.heap.size, 0, none⟩) 1 1] 33)) ⟨w2.heap.size, ⟨g, F⟩⟩) :=
          ⟨Nat.le_trans hsz.out lX.out.size, (jV.new w2 _ _).up ((Up.refl _).alloc _), Hq.out.up (((Up.refl _).alloc _).alloc _)⟩
        have Qh := jO (HQ.out.up Cm.out)
        have HHa := jO (HH.out.up Cm.out)
        have hne : Hid (u.ownBlock ≠ some w2.heap.size) := fun e => by have := (lH HQ.out.own e).2; have := lX.out.size; omega
        have aiD : Hid (w.heap.size ≤ w2.heap.size) := Nat.le_trans hsz.out lX.out.size
        have yA : Hid (((w2.alloc (.cells #[.slice (some ⟨g, 0, none⟩) F.length F.length] 30)).alloc (.cells #[.slice (some ⟨w2.heap.size, 0, none⟩) 1 1] 33)).heap[w2.heap.size + 1]? = some (.cells [Value.slice (some ⟨w2.heap.size, 0, none⟩) 1 1].toArray 33 (0, 0))) := by
          have := jV.new (w2.alloc (.cells #[.slice (some ⟨g, 0, none⟩) F.length F.length] 30)) [.slice (some ⟨w2.heap.size, 0, none⟩) 1 1] 33
          unfold jV at this
          rw [show (w2.alloc (.cells #[.slice (some ⟨g, 0, none⟩) F.length F.length] 30)).heap.size = w2.heap.size + 1 by simp] at this
          exact this
        have Nn : Hid (w.heap.size ≤ ((w2.alloc (.cells #[.slice (some ⟨g, 0, none⟩) F.length F.length] 30)).alloc (.cells #[.slice (some ⟨w2.heap.size, 0, none⟩) 1 1] 33)).heap.size) := by
          have := aiD.out; simp [Hid]; omega
        obtain ⟨xa, xc, rfl⟩ := kO HH.out.own
        obtain ⟨ua, uc, rfl⟩ := kO HQ.out.own
        go_wp2_with (at_builtin; refine kG Ix rfl (.tmp 23) (.tmp 27) rfl w.heap.size _ _ _ (by rfl) HHa.out.own (w2.heap.size + 1) [.slice (some ⟨w2.heap.size, 0, none⟩) 1 1] (by rfl) rfl yA.out (by intro z hz; simp at hz; subst hz; rfl) hHl.out Nn.out ?_; intro g5 xN w5 lJ o5 qU rT; have HH5 := jO (HHa.out.push HXo.out hne.out o5 lJ); have XZ := jO (Qh.out.byH HHa.out o5); have uJ : Hid (Up w w5) := Fr.up (S := fun _ => False) ((Fr.nS (HU.out.trans Cm.out)).grown o5 fun z hz => .inr (lH HH.out.own hz).1) (fun _ _ h => h); clear lJ o5 qU rT)
        go_roundw
        case rel => exact ⟨k + 1, _, _, Q, _, by go_num, rfl, rfl, by omega, uJ, XZ, HH5, aiB, aiC.out _ rfl⟩
        case measure => simp [intOf]; omega
    · have i2 : ¬ (k : Int) < (l.length : Int) := by omega
      have hkl : k = l.length := by omega
      have HF1 : Hid (Q.map RG.r = (l.take 1).map (Vd.j6 · true)) := by have := HE1.out; rw [hkl, List.take_length] at this; exact this
      have U7 : Hid ((H.map fun h => h.q.r) = (l.drop 1).map (Vd.j6 · false)) := by have := y5.out; rw [hkl, List.take_length] at this; exact this
      have hHl : H.length ≤ 1048576 := by
        have := congrArg List.length U7.out
        simp only [List.length_map, List.length_drop] at this
        omega
      have hQl : Q.length ≤ 1 := by
        have := congrArg List.length HF1.out
        simp only [List.length_map, List.length_take] at this
        omega
      have HRl : Hid (∀ h ∈ H, h.q.r.length ≤ 1048576) := fun h hh => by
        have : h.q.r ∈ (l.drop 1).map (Vd.j6 · false) := by rw [← U7.out]; exact List.mem_map.2 ⟨h, hh, rfl⟩
        obtain ⟨r, hr, e⟩ := List.mem_map.1 this
        rw [← e]
        exact I9 (HZ.out r (List.mem_of_mem_drop hr))
      have HPF : Hid (∀ Q' : List RG, Q'.map RG.r = Q.map RG.r ++ ((I8 H).map fun h => h.q.r) → Q'.map RG.r = Vd.lM l) := fun Q' hQ' => by
        rw [hQ', HF1.out]
        cases l with
        | nil =>
          have hn : H = [] := by have := congrArg List.length U7.out; simp at this; exact this
          subst hn
          rfl
        | cons r0 t =>
          have e : Vd.qW t = HB.m H := by
            unfold Vd.qW HB.m
            have := U7.out
            simp only [List.drop_succ_cons, List.drop_zero] at this
            have h2 := congrArg (List.map fun r : Ring => [r]) this
            simp only [List.map_map] at h2
            exact h2.symm
          show [Vd.j6 r0 true] ++ _ = Vd.j6 r0 true :: (Vd.mP (Vd.qW t)).flatten
          rw [e, Tr, XY]; rfl
      have HIO := jO (FD _ (HB.m H) (H.map HB.v) wr HH.out.rd.1 HH.out.rd.2 (by rw [List.length_map, HB.qJ]) (by rw [HB.qJ]; exact hHl) (fun p hp => by unfold HB.m at hp; obtain ⟨h, _, rfl⟩ := List.mem_map.1 hp; simp) (fun p hp r hr => by unfold HB.m at hp; obtain ⟨h, hh, rfl⟩ := List.mem_map.1 hp; rw [List.mem_singleton.1 hr]; exact HRl.out h hh))
      rw [XX, HB.qJ] at HIO
      clear hkl HE1 y5
      obtain ⟨xa, xc, rfl⟩ := kO HH.out.own
      obtain ⟨ua, uc, rfl⟩ := kO HQ.out.own
      go_wp2_with fail
      refine HIO.out.mono ?_
      rintro e w2 ⟨G, rfl, hG, ab4, oZ⟩
      have lX := jO (HU.out.trans oZ)
      have HQ2 := jO (HQ.out.up oZ)
      have Fq : Hid (∀ h ∈ I8 H, h.ok w.heap.size w2 ∧ (Value.slice ua Q.length uc).ownBlock ≠ some h.p) := fun h hh => ⟨(HH.out.ok h (Qg hh)).up oZ, HH.out.ne h (Qg hh)⟩
      have hOl : (I8 H).length = H.length := DN H
      have MK := jO ab4
      have HGn : Hid ((Value.slice ua Q.length uc).ownBlock ≠ some G) := fun e => by have := (lH HQ.out.own e).2; omega
      generalize I8 H = O at *
      clear hG ab4 oZ HIO HH HF1 U7 HQ HU HRl
      go_wp2
      go_loopw [3, 33] (fun fv i wq => ∃ (t : Nat) (u : Value) (Q' : List RG), i = .int .i64 t ∧ u = fv ∧ t ≤ H.length ∧ Hid (Up w wq) ∧ Hid (QF w.heap.size wq u Q') ∧ Hid (jV wq G 33 (O.map HB.v)) ∧ Hid (u.ownBlock ≠ some G) ∧ Hid (∀ h ∈ O, h.ok w.heap.size wq ∧ u.ownBlock ≠ some h.p) ∧ Hid (Q'.map RG.r = Q.map RG.r ++ ((O.take t).map fun h => h.q.r))) (fun _ i _ => H.length - (intOf i).toNat)
      case atStart => exact ⟨0, _, Q, rfl, rfl, Nat.zero_le _, lX, HQ2, MK, HGn, Fq, by simp [Hid]⟩
      case round =>
        clear lX HQ2 MK HGn Fq
        obtain ⟨t, u, Q', rfl, rfl, ht, HU, HQ, MK, HGn, HK, HE⟩ := hrel
        by_cases P0 : t < H.length
        · obtain ⟨h, hh⟩ := Pl.jQ (show t < O.length by omega)
          have e0 := MK.out.cell (i := t) (v := h.v) (by rw [List.getElem?_map, hh]; rfl)
          have Hk := jO (HK.out h (Pl.jP hh))
          have HEn : Hid ((Q' ++ [h.q]).map RG.r = Q.map RG.r ++ ((O.take (t + 1)).map fun h => h.q.r)) := by rw [Pl.take_one hh, List.map_append, HE.out, List.map_append, List.append_assoc]; exact rfl
          have aqA : Hid (Q'.length ≤ 1073741824) := by
            have := congrArg List.length HE.out
            simp only [List.length_map, List.length_append, List.length_take] at this
            show _ ≤ _; omega
          have Nn : Hid (w.heap.size ≤ wr.heap.size) := HU.out.size
          have yA : Hid (wr.heap[h.p]? = some (.cells [h.q.v].toArray 30 (0, 0))) := Hk.out.1.2.1
          have j1 : (0 : Int) ≤ (t : Int) := by omega
          have j2 : (t : Int) < (H.length : Int) := by omega
          rw [HB.v] at e0
          obtain ⟨ua', uc', rfl⟩ := kO HQ.out.own
          clear hh
          go_wp2_with (at_builtin; refine kG wS rfl (.tmp 37) (.tmp 38) rfl w.heap.size _ _ _ (by rfl) HQ.out.own h.p [h.q.v] (by rfl) rfl yA.out (by intro z hz; simp at hz; subst hz; rfl) aqA.out Nn.out ?_; intro g5 xN w5 lJ o5 qU rT; have XZ := jO (HQ.out.push Hk.out.1.2.2 o5 lJ); have uJ : Hid (Up w w5) := Fr.up (S := fun _ => False) ((Fr.nS HU.out).grown o5 fun z hz => .inr (lH HQ.out.own hz).1) (fun _ _ h => h); have HR5 := jO (MK.out.grown o5 HGn.out); have HG5 : Hid ((Value.slice (some ⟨g5, 0, none⟩) (Q'.length + 1) xN).ownBlock ≠ some G) := (fun e => by have hlt := MK.out.lt; have e' : g5 = G := Option.some.inj e; rcases qU with e2 | e2; exact HGn.out (e' ▸ e2); omega); have HK5 : Hid (∀ h ∈ O, h.ok w.heap.size w5 ∧ (Value.slice (some ⟨g5, 0, none⟩) (Q'.length + 1) xN).ownBlock ≠ some h.p) := (fun x hx => ⟨(HK.out x hx).1.byF HQ.out (HK.out x hx).2 o5, fun e => by have hlt : x.p < wr.heap.size := (HK.out x hx).1.2.1.lt; have e' : g5 = x.p := Option.some.inj e; rcases qU with e2 | e2; exact (HK.out x hx).2 (e' ▸ e2); omega⟩); clear lJ o5 qU rT)
          go_roundw
          case rel => exact ⟨t + 1, _, _, by go_num, rfl, by omega, uJ, XZ, HR5, HG5, HK5, HEn⟩
          case measure => simp [intOf]; omega
        · have j2 : ¬ (t : Int) < (H.length : Int) := by omega
          have HR := jO (HPF.out Q' (by rw [HE.out, List.take_of_length_le (by omega)]))
          go_wp2
          go_ret
          exact ⟨_, rfl, Q', HQ.out, HR.out, HU.out⟩
structure PG where
 v:Value
 q:List RG
def PG.l(x:PG):Poly:=x.q.map RG.r
structure QP(base:Nat)(w:World)(v:Value)(X:List PG):Prop where
 own:w.ownsRow base 33 1 v X.length (X.map PG.v)
 ok:∀x∈X,QF base w x.v x.q
theorem QF.base{base base':Nat}{w:World}{v:Value}{Q:List RG}(h:QF base w v Q)(hb:base'<=base):QF base' w v Q:=⟨Af h.own hb,fun q hq=>⟨cT hb (h.ok q hq).1,(h.ok q hq).2⟩⟩
theorem QF.byP{base base' n:Nat}{w w':World}{v u:Value}{Q:List RG}{xs:List Value}(h:QF base w v Q)(k:w.ownsRow base' 33 1 u n xs)(hg:w.grownBy w' u.ownBlock):QF base w' v Q:=⟨yz h.own k (by decide) hg,fun x hx=>(h.ok x hx).grown k (by decide) hg⟩
theorem QP.nil(base:Nat)(w:World):QP base w (.slice none 0 0) []:=⟨World.ownsRow_nil _ _ _ _,fun q hq=>by simp at hq⟩
theorem QP.up{base:Nat}{w w':World}{v:Value}{X:List PG}(h:QP base w v X)(k:Up w w'):QP base w' v X:=⟨mA h.own k,fun q hq=>(h.ok q hq).up k⟩
theorem QP.push{base:Nat}{w w':World}{v:Value}{X:List PG}{x:PG}{g cap:Nat}(h:QP base w v X)(hx:QF base w x.v x.q)(hg:w.grownBy w' v.ownBlock)(hown:w'.ownsRow base 33 1 (.slice (some ⟨g,0,none⟩) (X.length+1) cap) (X.length+1) (X.map PG.v++[x.v])):QP base w' (.slice (some ⟨g,0,none⟩) (X.length+1) cap) (X++[x]):=by
 refine⟨by rw[aV,aE];exact hown,fun y hy=>?_⟩;rcases aj.1 hy with hy|hy;{exact(h.ok y hy).byP h.own hg};·rw[bu.1 hy];exact hx.byP h.own hg
theorem QF.rc{base:Nat}{w:World}{v:Value}{Q:List RG}(h:QF base w v Q):Rc2 w v (Q.map RG.r):=by
 obtain⟨ao,cap,e⟩:=kO h.own;refine⟨ao,cap,by rw[e,aH],?_,fun i r hr=>?_⟩;{rw[aH];rcases h.own.2 with⟨e2,h0⟩|⟨g,cap',cur,e2,hb,hh,hc⟩;{rw[h0];exact aD _};·rw[e]at e2;cases e2;exact hc.1};·rw[aI,b6]at hr;obtain⟨q,hq,rfl⟩:=hr;obtain⟨g,cap',e',hc⟩:=lI h.own (by have:=Pl.jW hq;omega);rw[e]at e';cases e';exact⟨g,q.v,rfl,hc i _ (by rw[aI,hq];rfl),(h.ok q (Pl.jP hq)).rd⟩
namespace Vd
theorem Vj{m:jX}{x:Poly}(h:x∈mP m):x∈m:=by
 obtain⟨j,hj⟩:=fL h;have hl:=Pl.jW hj;rw[uT]at hl;obtain⟨i,hi,e⟩:=zS (m:=m) hl;have:=yO m hi;rw[e,hj]at this;cases this;obtain⟨l,hl⟩:=Pl.jQ hi;unfold lp;rw[aC,hl];exact Pl.jP hl
theorem MV{l:Poly}{x:Ring}(h:x∈lM l):∃r∈l,∃b,x=j6 r b:=by cases l with|nil=>simp[lM]at h|cons r0 t=>rw[lM]at h;rcases aF.1 h with rfl|h;{exact⟨r0,by simp,true,rfl⟩};·obtain⟨p,hp,hx⟩:=aT.1 h;obtain⟨r,hr,rfl⟩:=aJ.1 (Vj hp);exact⟨r,by simp[hr],false,bu.1 hx⟩
theorem MW{m:jX}(h:∀x∈m,x.length=1):m.flatten.length=m.length:=by induction m with|nil=>rfl|cons a t ih=>rw[fM,aE,h a (by simp),ih fun x hx=>h x (by simp[hx]),bG];omega
theorem MX(l:Poly):(lM l).length=l.length:=by cases l with|nil=>rfl|cons r0 t=>rw[lM,bG,bG,MW,uT];{unfold qW;rw[aH]};·intro x hx;obtain⟨r,_,rfl⟩:=aJ.1 (Vj hx);rfl
end Vd
def PG.m(X:List PG):jX:=X.map PG.l
theorem PG.qJ(X:List PG):(PG.m X).length=X.length:=by simp[PG.m]
theorem QP.rd{base:Nat}{w:World}{v:Value}{X:List PG}(h:QP base w v X):vM w v (PG.m X)∧Vls w v (X.map PG.v):=by
 obtain⟨ao,cap,e⟩:=kO h.own;have key:∀i x,X[i]?=some x->∃g,ao=some ⟨g,0,none⟩∧w.cell? ⟨g,i,none⟩=some x.v:=fun i x hx=>(by obtain⟨g,cap',e',hc⟩:=lI h.own (by have:=Pl.jW hx;omega);rw[e]at e';cases e';exact⟨g,rfl,hc i _ (by rw[aI,hx];rfl)⟩);constructor;{refine⟨ao,cap,by rw[e,PG.qJ],fun i l hl=>?_⟩;unfold PG.m at hl;rw[aI,b6]at hl;obtain⟨x,hx,rfl⟩:=hl;obtain⟨g,eg,c⟩:=key i x hx;exact⟨g,x.v,eg,c,(h.ok x (Pl.jP hx)).rc.rd⟩};·refine⟨ao,cap,by rw[e,aH],fun i u hu=>?_⟩;rw[aI,b6]at hu;obtain⟨x,hx,rfl⟩:=hu;obtain⟨g,eg,c⟩:=key i x hx;exact⟨g,eg,c⟩
def Ja(X:List PG):List PG:=Vd.LU (fun i=>Vd.qE (PG.m X) i X.length) (fun i=>X.getD i ⟨.slice none 0 0,[]⟩) (List.replicate X.length ⟨.slice none 0 0,[]⟩) X.length
theorem DO(X:List PG):(Ja X).length=X.length:=by
 unfold Ja;rw[Vd.xV];simp
theorem MY{X:List PG}{j:Nat}(hj:j<X.length):∃(i:Nat)(x:PG),X[i]?=some x∧Vd.qE (PG.m X) i X.length=j∧(Ja X)[j]?=some x:=by
 obtain⟨i,hi,e⟩:=Vd.zS (m:=PG.m X) hj;obtain⟨x,hx⟩:=Pl.jQ hi;refine⟨i,x,hx,e,?_⟩;rw[←e];unfold Ja;rw[Vd.Gd (f:=fun i=>Vd.qE (PG.m X) i X.length) (N:=X.length) (fun i h=>by simpa using Vd.s6 h) (fun i k h1 h2=>Vd.AR h1 h2) X.length (bB _) i hi,aC,hx];rfl
theorem ab5{X:List PG}{x:PG}(h:x∈Ja X):x∈X:=by
 obtain⟨j,hj⟩:=fL h;have:=Pl.jW hj;rw[DO]at this;obtain⟨i,y,hy,-,e⟩:=MY this;rw[hj]at e;cases e;exact Pl.jP hy
theorem X4(X:List PG):EU (PG.m X) (X.map PG.v) (PG.m X).length=(Ja X).map PG.v:=by
 refine dz fun j=>?_;rcases bI j X.length with hj|hj;{obtain⟨i,x,hx,e,ho⟩:=MY hj;rw[aI,ho];have:=Vi (m:=PG.m X) (us:=X.map PG.v) (i:=i) (by rw[PG.qJ];exact Pl.jW hx);rw[PG.qJ,e]at this;rw[PG.qJ,this,ET (u:=x.v) (by rw[aI,hx];rfl)];rfl};·rw[aZ (by rw[I7,PG.qJ];exact hj),aZ (by rw[aH,DO];exact hj)]
theorem Ts(X:List PG):Vd.mP (PG.m X)=(Ja X).map PG.l:=by
 refine dz fun j=>?_;rcases bI j X.length with hj|hj;{obtain⟨i,x,hx,e,ho⟩:=MY hj;rw[aI,ho];have:=Vd.yO (PG.m X) (i:=i) (by rw[PG.qJ];exact Pl.jW hx);rw[PG.qJ,e]at this;rw[this];have h2:(PG.m X)[i]?=some x.l:=(by unfold PG.m;rw[aI,hx];rfl);rw[tS h2];rfl};·rw[aZ (by rw[Vd.uT,PG.qJ];exact hj),aZ (by rw[aH,DO];exact hj)]
structure FZ(m:jX):Prop where
 len:m.length<=1048576
 poly:∀l∈m,l.length<=1048576
 ring:∀l∈m,∀r∈l,RZ r
structure NS(base:Nat)(w:World)(G:Nat)(X:List PG):Prop where
 low:base<=G
 row:jV w G 33 (X.map PG.v)
 ok:∀x∈X,QF base w x.v x.q
theorem ab6(v:Value)(m:jX)(w:World)(hv:vM w v m)(hz:FZ m):Calls Tryz.prog 93 #[v] w fun e w'=>∃(G:Nat)(X:List PG),e=.returned (.slice (some ⟨G,0,none⟩) X.length X.length)∧NS w.heap.size w' G X∧PG.m X=Vd.form m∧Up w w':=by
 obtain⟨ao,cap,rfl,hm⟩:=hv;have HM:=jO hm;have HZ:=jO hz;have hl:=hz.len;have HDf:Hid (Vd.form m=Vd.mP (m.map Vd.lM)):=rfl;clear hm hz;go_enter Tryz.func93,Tryz.ntmps93;go_wp2;go_loopw[3,8](fun fv i wr=>∃(k:Nat)(u:Value)(X:List PG),i=.int .i64 k∧u=fv∧k<=m.length∧Hid (Up w wr)∧Hid (QP w.heap.size wr u X)∧Hid (PG.m X=(m.take k).map Vd.lM))(fun _ i _=>m.length-(intOf i).toNat);(case atStart=>exact⟨0,_,[],rfl,rfl,aD _,Up.refl _,QP.nil _ _,rfl⟩);case round=>obtain⟨k,u,X,rfl,rfl,hk,HU,HQ,HE⟩:=hrel;have hXl:X.length=k:=(by have:=cg List.length HE.out;rw[PG.qJ,aH,bH]at this;omega);by_cases hlt:k<m.length;{obtain⟨l,hr⟩:=Pl.jQ hlt;obtain⟨b,y,rfl,cy,hy⟩:=HM.out k l hr;have e0:=HU.out.cell cy;have HKp:=jO (FR y l wr (hy.up HU.out) (HZ.out.poly l (Pl.jP hr)) (HZ.out.ring l (Pl.jP hr)));have HEn:Hid (∀x:PG,x.l=Vd.lM l->PG.m (X++[x])=(m.take (k+1)).map Vd.lM):=fun x hx=>(by unfold PG.m at*;rw[aV,HE.out,Pl.take_one hr,aV];simp[hx]);have i1:(0:Int)<=(k:Int):=(by omega);have i2:(k:Int)<(m.length:Int):=(by omega);have hsz:Hid (w.heap.size<=wr.heap.size):=HU.out.size;have hXb:Hid (X.length<=1073741824):=(by show _<=_;omega);clear hr cy hy hXl;go_wp2_with fail;refine HKp.out.mono ?_;rintro e w2⟨fv,Q,rfl,hQF,hQe,oZ⟩;have lX:=jO oZ;have HQF:=jO (hQF.base hsz.out);have HQe:=jO hQe;obtain⟨fa,fc,rfl⟩:=kO hQF.own;clear oZ hQF hQe e0 HKp;have Cm:Hid (Up wr (w2.alloc (.cells #[.slice fa Q.length fc] 33))):=lX.out.alloc _;have HFa:Hid (QF w.heap.size (w2.alloc (.cells #[.slice fa Q.length fc] 33)) (.slice fa Q.length fc) Q):=HQF.out.up ((Up.refl _).alloc _);have Qh:=jO (HQ.out.up Cm.out);have yA:Hid ((w2.alloc (.cells #[.slice fa Q.length fc] 33)).heap[w2.heap.size]?=some (.cells [Value.slice fa Q.length fc].toArray 33 (0,0))):=jV.new w2 [.slice fa Q.length fc] 33;have Nn:Hid (w.heap.size<=(w2.alloc (.cells #[.slice fa Q.length fc] 33)).heap.size):=(by have:=cT hsz.out lX.out.size;simp[Hid];omega);obtain⟨ua,uc,rfl⟩:=kO HQ.out.own;go_wp2_with(at_builtin;refine kG Ix rfl (.tmp 12) (.tmp 15) rfl w.heap.size _ _ _ (by rfl) Qh.out.own w2.heap.size [.slice fa Q.length fc] (by rfl) rfl yA.out (by intro z hz;simp at hz;subst hz;rfl) hXb.out Nn.out ?_;intro g5 xN w5 lJ o5 qU rT;have XZ:=jO (Qh.out.push (x:=⟨.slice fa Q.length fc,Q⟩) HFa.out o5 lJ);have uJ:Hid (Up w w5):=Fr.up (S:=fun _=>False) ((Fr.nS (HU.out.trans Cm.out)).grown o5 fun z hz=>.inr (lH HQ.out.own hz).1) (fun _ _ h=>h);clear lJ o5 qU rT);go_roundw;(case rel=>exact⟨k+1,_,_,by go_num,rfl,by omega,uJ,XZ,HEn.out _ HQe.out⟩);case measure=>simp[intOf];omega};·have i2:¬(k:Int)<(m.length:Int):=(by omega);have HEf:Hid (PG.m X=m.map Vd.lM):=(by have:=HE.out;rw[show k=m.length by omega,aO]at this;exact this);have HIO:=jO (FD _ (PG.m X) (X.map PG.v) wr HQ.out.rd.1 HQ.out.rd.2 (by rw[aH,PG.qJ]) (by rw[PG.qJ];omega) (fun p hp=>by rw[HEf.out]at hp;obtain⟨l,hl,rfl⟩:=aJ.1 hp;rw[Vd.MX];exact HZ.out.poly l hl) (fun p hp r hr=>by rw[HEf.out]at hp;obtain⟨l,hl,rfl⟩:=aJ.1 hp;obtain⟨r0,hr0,b,rfl⟩:=Vd.MV hr;exact I9 (HZ.out.ring l hl r0 hr0)));rw[X4,PG.qJ]at HIO;have HRf:Hid (PG.m (Ja X)=Vd.form m):=(by rw[HDf.out,←HEf.out,Ts];exact rfl);have hOl:(Ja X).length=X.length:=DO X;have HOk:Hid (∀x∈Ja X,QF w.heap.size wr x.v x.q):=fun x hx=>HQ.out.ok x (ab5 hx);have hsz:Hid (w.heap.size<=wr.heap.size):=HU.out.size;obtain⟨ua,uc,rfl⟩:=kO HQ.out.own;generalize Ja X=O at*;clear hXl;go_wp2_with fail;refine HIO.out.mono ?_;rintro e w2⟨G,rfl,hG,ab4,oZ⟩;have HN:Hid (NS w.heap.size w2 G O):=⟨cT hsz.out hG,ab4,fun x hx=>(HOk.out x hx).up oZ⟩;have lX:=jO (HU.out.trans oZ);rw[←hOl];clear hG ab4 oZ HIO;go_wp2;go_ret;exact⟨G,O,by rw[hOl];rfl,HN.out,HRf.out,lX.out⟩
theorem xC(v:Value)(m:jX)(w:World)(g:Nat)(u:Value)(hs:Cv w v m g u)(hz:Sz m)(hv:Vd.least m≠0):Calls Tryz.prog 57 #[v] w fun e w'=>e=.returned (.tuple #[.pointer none,.int .i64 7])∧Up w w':=by
 have HK:=jO (IQ (aA hv) hs hz);obtain⟨rfl,-,-⟩:=hs;clear hz hv;go_enter Tryz.func57,Tryz.ntmps57;go_wp2_with fail;refine HK.out.mono ?_;rintro e w2⟨rfl,hu⟩;replace hu:=jO hu;go_wp2;go_ret2;exact⟨rfl,hu.out⟩
theorem MZ(v:Value)(m:jX)(w:World)(g:Nat)(u:Value)(hs:Cv w v m g u)(hz:Sz m)(hf:FZ m)(hv:Vd.least m=0):Calls Tryz.prog 57 #[v] w fun e w'=>∃(b G:Nat)(X:List PG),e=.returned (.tuple #[.pointer (some ⟨b,0,none⟩),.int .i64 0])∧w.heap.size<=b∧jV w' b 78 [.slice (some ⟨G,0,none⟩) X.length X.length]∧NS w.heap.size w' G X∧PG.m X=Vd.form m∧Up w w':=by
 have HK:=jO (IQ (ag hv) hs hz);have HS:=jO hs;have HF:=jO hf;obtain⟨rfl,-,-⟩:=hs;obtain⟨ua,uc,rfl,-⟩:=HS.out.rd;clear hz hv hf;go_enter Tryz.func57,Tryz.ntmps57;go_wp2_with fail;refine HK.out.mono ?_;rintro e w2⟨rfl,hu⟩;have HU:=jO hu;have c0:=((HS.out.up hu).cell).cell (i:=0) rfl;have HFm:=jO (ab6 _ m w2 (HS.out.rd.up hu) HF.out);clear hu HK;go_wp2_with fail;refine HFm.out.mono ?_;rintro e w3⟨G,X,rfl,hN,hE,qj⟩;have mG:=jO (HU.out.trans qj);have hb:Hid (w.heap.size<=w2.heap.size):=HU.out.size;have HN:Hid (NS w.heap.size (w3.alloc (.cells #[.slice (some ⟨G,0,none⟩) X.length X.length] 78)) G X):=⟨cT hb.out hN.low,hN.row.up ((Up.refl _).alloc _),fun x hx=>((hN.ok x hx).base hb.out).up ((Up.refl _).alloc _)⟩;have HE:=jO hE;have HR:=jO (jV.new w3 [.slice (some ⟨G,0,none⟩) X.length X.length] 78);have hs3:Hid (w.heap.size<=w3.heap.size):=mG.out.size;clear hN hE qj HFm c0;go_wp2;go_ret2;exact⟨w3.heap.size,G,X,rfl,hs3.out,HR.out,HN.out,HE.out,mG.out.alloc _⟩
end Go.Proofs.YtcclepohmhdpbaaGreatDoor
