import Derived.Test.YtcclepohmhdpbaaGreatDoorCnA
import Derived.Test.YtcclepohmhdpbaaGreatDoorWalkF
import Derived.Test.YtcclepohmhdpbaaGreatDoorClI
import Derived.Test.YtcclepohmhdpbaaGreatDoorCnD
import Derived.Test.YtcclepohmhdpbaaGreatDoorGiL
import Derived.Test.YtcclepohmhdpbaaGreatDoorRfP
import Derived.Test.YtcclepohmhdpbaaGreatDoorInv
set_option maxHeartbeats 8000000
set_option maxRecDepth 8000
namespace Go.Proofs.YtcclepohmhdpbaaGreatDoor
set_option linter.all false
open Go.RowKit Go.Deep
namespace Vd
theorem AK(v:Ring)(n:Nat):ig v (n+1)=sV v (ig v n) n:=by
 unfold ig;rw[ab6,adD];rfl
theorem zV(v:Ring):∀n,ig v n<=n-1|0=>IN _|n+1=>by rw[AK];unfold sV;have:=zV v n;split<;>omega
end Vd
theorem Ou(v:Value)(r:Ring)(w:World)(hv:oQ w v r)(hr:r.length<=1048576):Calls Tryz.prog 206 #[v] w λe w'=>e=.returned (.int .i64 (Vd.bD r))/\Up w w':=by
 obtain⟨ao,cap,rfl,hm⟩:=hv;have HM:=ag hm;have HS:=ag (λn=>Vd.AK r n);have HL:=ag (λn=>Vd.zV r n);have HD:Hid (Vd.bD r=Vd.ig r r.length):=rfl;clear hm;go_enter Tryz.func206,Tryz.ntmps206;go_wp2;go_loopw[3,8](λfv i wr=>∃(k f:Nat),i=.int .i64 k/\fv=.int .i64 f/\k<=r.length/\Hid (Up w wr)/\Hid (f=Vd.ig r k))(λ_ i _=>r.length-(intOf i).toNat);(case atStart=>exact⟨0,0,rfl,rfl,oE _,Up.refl _,rfl⟩);case round=>obtain⟨k,f,rfl,rfl,hk,HU,HF⟩:=hrel;by_cases hlt:k<r.length;{obtain⟨⟨px,py⟩,hp⟩:=Pl.ai hlt;have hfl:f<r.length:=(by have:=HL.out k;rw[<-HF.out]at this;omega);obtain⟨⟨qx,qy⟩,hq⟩:=Pl.ai hfl;obtain⟨b,rfl,c0,c1⟩:=HM.out k _ hp;obtain⟨b',e',d0,d1⟩:=HM.out f _ hq;cases e';have e0:=HU.out.cell c0;have e1:=HU.out.cell c1;have Qr:Hid (Up wr (wr.alloc (.cells #[.int .i64 px,.int .i64 py] 32))):=(Up.refl _).alloc _;have RN:=ag (bu (w:=wr) (o:=.cells #[.int .i64 px,.int .i64 py] 32) (vs:=[.int .i64 px,.int .i64 py]) rfl);have g0:=aO (Qr.out.cell (HU.out.cell d0));have g1:=aO (Qr.out.cell (HU.out.cell d1));have q0:=RN.out.gr (i:=0) rfl;have q1:=RN.out.gr (i:=1) rfl;have HK:Hid (∀g:Gr (wr.alloc (.cells #[.int .i64 px,.int .i64 py] 32)),Calls Tryz.prog 236 #[.agg #[.int .i64 px,.int .i64 py],.agg #[.int .i64 qx,.int .i64 qy]] g.v λe w'=>e=.returned (.bool (decide (Vd.bI (px,py) (qx,qy))))/\Up g.v w'):=λg=>fN (px,py) (qx,qy) g.v;have yG:Hid (Vd.ig r (k+1)=if Vd.bI (px,py) (qx,qy)then k else f):=(by rw[HS.out,<-HF.out];unfold Vd.sV;rw[fJ hp,fJ hq];exact rfl);have i1:(0:Int)<=(k:Int):=(by omega);have i2:(k:Int)<(r.length:Int):=(by omega);have i3:(0:Int)<=(f:Int):=(by omega);have i4:(f:Int)<(r.length:Int):=(by omega);(try dsimp only at e0 e1 g0 g1 q0 q1);by_cases hb:Vd.bI (px,py) (qx,qy);all_goals(first|rw[dj hb]at HK|rw[gx hb]at HK);(first|rw[mu hb]at yG|rw[ef hb]at yG);clear hp hq c0 c1 d0 d1 hb;go_upto_region 5 with fail;refine aH (by kernel_rfl) (by kernel_rfl) ?_;(repeat first|go_big_quiet_step((go_at_call 236;exact Calls.ck (HK.out _))));refine wpQuiet_nil ?_;rintro w3⟨⟨_,u3⟩,rfl⟩;have dQ:=ag (HU.out.trans (Qr.out.trans u3));clear u3 e0 e1 g0 g1 q0 q1 HK;go_wp2;go_roundw;(case rel=>exact⟨k+1,_,by go_num,rfl,by omega,dQ,yG.out.symm⟩);case measure=>simp[intOf];omega};·have hk2:k=r.length:=(by omega);have HR:Hid (f=Vd.bD r):=(by rw[HD.out,HF.out,hk2];exact rfl);have i9:¬(k:Int)<(r.length:Int):=(by omega);clear hk2;go_wp2;go_ret;exact⟨gD (by rw[HR.out]),HU.out⟩
theorem Ey(v:Value)(r:Ring)(k:Nat)(w:World)(hv:oQ w v r)(hr:r.length<=1048576)(hc:Vd.yT r)(hk:k<r.length):Calls Tryz.prog 207 #[v,.int .i64 k] w λe w'=>e=.returned (.bool (Vd.oZ r k))/\Up w w':=by
 obtain⟨ao,cap,rfl,hm⟩:=hv;have Jz:(k+r.length-1)%r.length<r.length:=aas _ (by omega);have hnl:(k+1)%r.length<r.length:=aas _ (by omega);obtain⟨⟨px,py⟩,hp⟩:=Pl.ai Jz;obtain⟨⟨qx,qy⟩,hq⟩:=Pl.ai hk;obtain⟨⟨nx,ny⟩,hn⟩:=Pl.ai hnl;obtain⟨b,rfl,c0,c1⟩:=hm _ _ hp;obtain⟨b',e',d0,d1⟩:=hm _ _ hq;cases e';obtain⟨b',e',n0,n1⟩:=hm _ _ hn;cases e';have HR:Hid (Vd.oZ r k=decide (0<Vd.side ((px,py),(qx,qy)) (Vd.jZ (nx,ny)))):=(by unfold Vd.oZ;rw[fJ hp,fJ hq,fJ hn];exact rfl);have Cp:=ag (hc _ (Pl.ah hp));have Cq:=ag (hc _ (Pl.ah hq));have Cn:=ag (hc _ (Pl.ah hn));have j1:IntKind.i64.wrap ((k:Int)+(r.length:Int))=(k:Int)+(r.length:Int):=aU (by omega) (by omega);have j2:IntKind.i64.wrap ((k:Int)+(r.length:Int)-1)=(k:Int)+(r.length:Int)-1:=aU (by omega) (by omega);have j3:IntKind.i64.wrap ((k:Int)+1)=(k:Int)+1:=aU (by omega) (by omega);have jn:¬r=[]:=λe=>(by subst e;simp at hk);obtain⟨P,hP⟩:∃P,(k+r.length-1)%r.length=P:=⟨_,rfl⟩;obtain⟨N,hN⟩:∃N,(k+1)%r.length=N:=⟨_,rfl⟩;have j4:((k:Int)+(r.length:Int)-1).tmod (r.length:Int)=(P:Int):=(by rw[<-hP,show(k:Int)+(r.length:Int)-1=((k+r.length-1:Nat):Int)by omega];exact rfl);have j5:((k:Int)+1).tmod (r.length:Int)=(N:Int):=(by rw[<-hN];exact rfl);rw[hP]at c0 c1 Jz
 rw[hN]at n0 n1 hnl;have k1:(P:Int)<(r.length:Int):=(by omega);have k2:(N:Int)<(r.length:Int):=(by omega);have k3:(k:Int)<(r.length:Int):=(by omega);have k4:(0:Int)<=(P:Int):=(by omega);have k5:(0:Int)<=(N:Int):=(by omega);have k6:(0:Int)<=(k:Int):=(by omega);have c0a:=λo=>((Up.refl w).alloc o).cell c0;have St:=λo=>((Up.refl w).alloc o).cell c1;have d0a:=λo=>((Up.refl w).alloc o).cell d0;have d1a:=λo=>((Up.refl w).alloc o).cell d1;(try dsimp only at c0 c1 d0 d1 n0 n1 c0a St d0a d1a);have N0:=ag n0;have N1:=ag n1;clear hm hc hp hq hn hP hN n0 n1;go_enter Tryz.func207,Tryz.ntmps207;go_upto_region 2 with fail;go_cut[6](λsl wc=>∃S:Nat,sl=.pointer (some ⟨S,0,none⟩)/\Hid (Up w wc)/\Hid (aD wc S 191 [.int .i64 px,.int .i64 py,.int .i64 qx,.int .i64 qy]));(case first=>go_region;all_goals go_wp2;go_meet;case rel=>exact⟨w.heap.size,rfl,(by first|exact((Up.refl w).alloc _).drew|exact(Up.refl w).alloc _|exact((Up.refl w).drew.alloc _)),(by first|exact aD.drewN (aD.new w _ _) 1|exact aD.new w _ _)⟩);case rest=>obtain⟨S,rfl,qC,RS⟩:=hcut;clear c0 c1 d0 d1 c0a St d0a d1a;have s0:=RS.out.gr (i:=0) rfl;have s1:=RS.out.gr (i:=1) rfl;have s2:=RS.out.gr (i:=2) rfl;have s3:=RS.out.gr (i:=3) rfl;have q0:=aO (qC.out.cell N0.out);have q1:=aO (qC.out.cell N1.out);have HA:Hid (∀g:Gr wc,Calls Tryz.prog 199 #[.agg #[.int .i64 nx,.int .i64 ny]] g.v λe w'=>e=.returned (.agg #[.int .i64 nx,.int .i64 ny,.int .i64 1])/\Up g.v w'):=λg=>qB (nx,ny) g.v;have HB:Hid (∀g:Gr wc,Calls Tryz.prog 233 #[.agg #[.int .i64 px,.int .i64 py,.int .i64 qx,.int .i64 qy],.agg #[.int .i64 nx,.int .i64 ny,.int .i64 1]] g.v λe w'=>e=.returned (.int .i64 (Vd.side ((px,py),(qx,qy)) (Vd.jZ (nx,ny))))/\Up g.v w'):=λg=>kL ((px,py),(qx,qy)) (Vd.jZ (nx,ny)) ⟨Cp.out,Cq.out⟩ (Vd.nO Cn.out) g.v;generalize Vd.side ((px,py),(qx,qy)) (Vd.jZ (nx,ny))=X at*;go_wp2_with fail;refine aH (by kernel_rfl) (by kernel_rfl) ?_;(repeat first|go_big_quiet_step(first|(go_at_call 199;exact Calls.ck (HA.out _))|(go_at_call 233;exact Calls.ck (HB.out _))));refine wpQuiet_nil ?_;rintro w3⟨⟨_,u3⟩,rfl⟩;have dQ:=ag (qC.out.trans u3);clear u3 q0 q1 s0 s1 s2 s3 HA HB RS qC;go_wp2;go_ret;exact⟨bK (by rw[HR.out]),dQ.out⟩
namespace Vd
theorem LN{r:Ring}{p:aA}(h:p∈aC r):p∈r:=by
 unfold aC cK at h;obtain⟨i,hi,rfl⟩:=As.1 h;have hl:=DS.1 (Rr.1 hi).1;obtain⟨x,hx⟩:=Pl.ai hl;unfold aj;rw[mT,hx];exact Pl.ah hx
theorem Ov{r:Ring}(h:yT r):yT (aC r):=λp hp=>h p (LN hp)
theorem TG{v:Ring}(h:v.length≠0):bD v<v.length:=by
 have:=zV v v.length;unfold bD;omega
theorem Yc{v:Ring}(l:Bool)(h:v.length≠0):ld v l<=v.length:=by
 unfold ld;split<;>omega
theorem Gh{r:Ring}{l:Bool}(h:(aC r).length≠0):(aI r l).length=(aC r).length+1:=by
 unfold aI;rw[ef h];simp
theorem Yd{r:Ring}{l:Bool}(h:(aC r).length≠0){k:Nat}(hk:k<(aC r).length+1):(aI r l)[k]?=some (aj (aC r) ((bD (aC r)+k*ld (aC r) l)%(aC r).length)):=by
 unfold aI;rw[ef h,An,aaT hk];rfl
end Vd
def rj(L:Ring)(k:Nat):Ring:=L.take k++jV (L.length-k)
theorem DM(L:Ring):rj L 0=jV L.length:=by simp[rj]
theorem Gi(L:Ring):rj L L.length=L:=by simp[rj,jV]
theorem Gj{L:Ring}{k:Nat}{p:aA}(h:L[k]?=some p):(rj L k).set k p=rj L (k+1):=by
 have hk:=Pl.aE h;unfold rj jV;rw[Pl.take_one h,aaX _ _ (by rw[No];omega),No,show k-min k L.length=0 by omega,show L.length-k=L.length-(k+1)+1 by omega,afw,ad'];simp
theorem yJ{L:Ring}{k:Nat}(h:k<L.length):(rj L k)[k]?=some (0,0):=by
 unfold rj jV;rw[AN (by rw[No];omega),No,show k-min k L.length=0 by omega,show L.length-k=L.length-(k+1)+1 by omega,afw];rfl
theorem yK(v:Value)(r:Ring)(l:Bool)(w:World)(hv:oQ w v r)(hr:r.length<=1048575)(hc:Vd.yT r)(h0:(Vd.aC r).length≠0):Calls Tryz.prog 167 #[v,.bool l] w λe w'=>∃g:Nat,e=.returned (.slice (some ⟨g,0,none⟩) (Vd.aI r l).length (Vd.aI r l).length)/\w.heap.size<=g/\gZ w' g (Vd.aI r l)/\Up w w':=by
 have hlen:(Vd.aC r).length<=r.length:=(by have:=Vd.r5 r r.length;exact this);have HV:=ag hv;have HC:=ag hc;have HCV:=ag (Vd.Ov hc);have HF:Hid (∀k,k<(Vd.aC r).length+1->(Vd.aI r l)[k]?=some (Vd.aj (Vd.aC r) ((Vd.bD (Vd.aC r)+k*Vd.ld (Vd.aC r) l)%(Vd.aC r).length))):=λk hk=>Vd.Yd h0 hk;have hfl:=Vd.TG h0;have OP:=Vd.Yc l h0;have T8:=ag (Vd.Gh (l:=l) h0);obtain⟨ao0,aaC,rfl,-⟩:=HV.out;clear hv hc;have HCo:=ag (LM _ r w HV.out (by omega) HC.out);have YW:Hid (Vd.ld (Vd.aC r) l=if Vd.oZ (Vd.aC r) (Vd.bD (Vd.aC r))=l then 1 else(Vd.aC r).length-1):=rfl;generalize Vd.aC r=V at*;generalize Vd.aI r l=L at*;generalize hf:Vd.bD V=f at*;generalize hs:Vd.ld V l=s at*;have Hf:=ag hf;clear hf hs;have j0:((V.length:Int)==0)=false:=ff.2 (by omega);have jn:¬V=[]:=λe=>(by subst e;simp at h0);go_enter Tryz.func167,Tryz.ntmps167;go_wp2_with fail;refine HCo.out.mono ?_;rintro e w1⟨u,rfl,hu1,ho⟩;have mo:=ag hu1;obtain⟨ao,cap,rfl⟩:=bE ho;have HR1:=ag (qj ho);clear hu1 ho HCo;go_wp2_with fail;refine(Ou _ V w1 HR1.out (by omega)).mono ?_;rintro e w2⟨rfl,gJ⟩;rw[Hf.out];have c8:=ag (mo.out.trans gJ);have ve:=ag (HR1.out.up gJ);clear gJ;go_wp2_with fail;refine(Ey _ V f w2 ve.out (by omega) HCV.out hfl).mono ?_;rintro e w3⟨rfl,iU⟩
 have dQ:=ag (c8.out.trans iU);have HR3:=ag (ve.out.up iU);clear iU;have Uc:Hid (L.length=V.length+1):=T8.out;have hmk:∀w:World,(Instr.makeSlice 30 (.int .i64 ((V.length:Int)+1)) (.int .i64 ((V.length:Int)+1))).run Tryz.prog w=.ok (.slice (some ⟨w.heap.size,0,none⟩) (V.length+1) (V.length+1)) (w.alloc (.cells (flat (jV (V.length+1))).toArray 32)):=λw=>Dc (V.length+1) (by omega) w;have j1:IntKind.i64.wrap ((V.length:Int)+1)=(V.length:Int)+1:=aU (by omega) (by omega);have j2:IntKind.i64.wrap ((V.length:Int)-1)=(V.length:Int)-1:=aU (by omega) (by omega);have hcs:(Vd.oZ V f=l/\s=1)\/(Vd.oZ V f≠l/\s=V.length-1):=(by by_cases h:Vd.oZ V f=l;{exact .inl ⟨h,by rw[YW.out,mu h]⟩};·exact .inr ⟨h,by rw[YW.out,ef h]⟩);clear YW;generalize Vd.oZ V f=B at*;rcases hcs with⟨hB,hs⟩|⟨hB,hs⟩;·have hB1:(B !=l)=false:=(by rw[hB];simp);have hB2:(B==l)=true:=(by rw[hB];simp);subst hs;clear hB;go_wp2_with fail;have Ib:Hid (Up w3 (w3.alloc (.cells (flat (jV (V.length+1))).toArray 32))):=(Up.refl _).alloc _;have RB:Hid (gZ (w3.alloc (.cells (flat (jV (V.length+1))).toArray 32)) w3.heap.size (rj L 0)):=(by rw[DM,Uc.out];exact aD.new w3 _ _);have hbase:Hid (w.heap.size<=w3.heap.size):=dQ.out.size;obtain⟨G,hG⟩:∃G,w3.heap.size=G:=⟨_,rfl⟩;rw[hG]at RB hbase⊢;have HG:=ag hG;generalize w3.alloc (.cells (flat (jV (V.length+1))).toArray 32)=W0 at*;clear hmk hG;go_loopw[31](λi wq=>∃t:Nat,i=.int .i64 t/\t<=V.length+1/\Hid (Up w3 wq)/\Hid (gZ wq G (rj L t)))(λi _=>V.length+1-(intOf i).toNat);(case atStart=>exact⟨0,rfl,oE _,Ib,RB⟩);case round=>clear Ib RB;obtain⟨t,rfl,ht,jG,RB⟩:=hrel;by_cases hlt:t<V.length+1;{have hmul:t*1<=(V.length+1)*V.length:=ag6 (by omega) (by omega);have Ye:(V.length+1)*V.length<=1048577*1048576:=ag6 (by omega) (by omega);obtain⟨P,hP⟩:∃P,(f+t*1)%V.length=P:=⟨_,rfl⟩;have hPl:P<V.length:=(by rw[<-hP];exact aas _ (by omega));obtain⟨⟨px,py⟩,hp⟩:=Pl.ai hPl;obtain⟨ao',cap',e',hm⟩:=HR3.out;cases e';obtain⟨b,rfl,c0,c1⟩:=hm P _ hp;have k0:=jG.out.cell c0;have k1:=jG.out.cell c1;have HLt:=ag (HF.out t hlt);rw[hP,fJ hp]at HLt;have m3:IntKind.i64.wrap ((f:Int)+(t:Int))=(f:Int)+(t:Int):=aU (by omega) (by omega);have m4:((f:Int)+(t:Int)).tmod (V.length:Int)=(P:Int):=(by rw[show(f:Int)+(t:Int)=((f+t*1:Nat):Int)by omega,<-hP];exact rfl);have m5:IntKind.i64.wrap (t:Int)=(t:Int):=aU (by omega) (by omega);have n1:(0:Int)<=(P:Int):=(by omega);have n2:(P:Int)<(V.length:Int):=(by omega);have n3:(0:Int)<=(t:Int):=(by omega);have n4:(t:Int)<(V.length:Int)+1:=(by omega);have hLt:t<L.length:=(by rw[Uc.out];exact hlt);have z0:=(gZ.cells RB.out (yJ hLt)).1;have z1:=(gZ.cells RB.out (yJ hLt)).2;have zf:=λi=>aD.frozen RB.out i;have nY:Hid (w3.heap.size<=G):=afk HG.out;(try dsimp only at k0 k1 z0 z1);clear hm hp c0 c1 hP hmul Ye;go_wp2;go_roundw;(case rel=>exact⟨t+1,by go_num,by omega,(jG.out.setCell nY.out _).setCell nY.out _,by have:=gZ.set RB.out t (px,py);rw[Gj HLt.out]at this;exact this⟩);case measure=>simp[intOf];omega};·have e:t=L.length:=(by rw[Uc.out];omega);have HRr:Hid (gZ wr G L):=(by have:=RB.out;rw[e,Gi]at this;exact this);have n4:¬(t:Int)<(V.length:Int)+1:=(by omega);clear e;go_wp2;go_ret;exact⟨G,by rw[Uc.out];rfl,hbase.out,HRr.out,dQ.out.trans jG.out⟩
 ·have hB1:(B !=l)=true:=(by simpa using hB);have hB2:(B==l)=false:=(by simpa using hB);have hsI:(V.length:Int)-1=(s:Int):=(by omega);clear hB hs;go_wp2_with fail;have Ib:Hid (Up w3 (w3.alloc (.cells (flat (jV (V.length+1))).toArray 32))):=(Up.refl _).alloc _;have RB:Hid (gZ (w3.alloc (.cells (flat (jV (V.length+1))).toArray 32)) w3.heap.size (rj L 0)):=(by rw[DM,Uc.out];exact aD.new w3 _ _);have hbase:Hid (w.heap.size<=w3.heap.size):=dQ.out.size;obtain⟨G,hG⟩:∃G,w3.heap.size=G:=⟨_,rfl⟩;rw[hG]at RB hbase⊢;have HG:=ag hG;generalize w3.alloc (.cells (flat (jV (V.length+1))).toArray 32)=W0 at*;clear hmk hG;go_loopw[31](λi wq=>∃t:Nat,i=.int .i64 t/\t<=V.length+1/\Hid (Up w3 wq)/\Hid (gZ wq G (rj L t)))(λi _=>V.length+1-(intOf i).toNat);(case atStart=>exact⟨0,rfl,oE _,Ib,RB⟩);case round=>clear Ib RB;obtain⟨t,rfl,ht,jG,RB⟩:=hrel;by_cases hlt:t<V.length+1;{have hmul:t*s<=(V.length+1)*V.length:=ag6 (by omega) OP;have Ye:(V.length+1)*V.length<=1048577*1048576:=ag6 (by omega) (by omega);obtain⟨P,hP⟩:∃P,(f+t*s)%V.length=P:=⟨_,rfl⟩;have hPl:P<V.length:=(by rw[<-hP];exact aas _ (by omega));obtain⟨⟨px,py⟩,hp⟩:=Pl.ai hPl;obtain⟨ao',cap',e',hm⟩:=HR3.out;cases e';obtain⟨b,rfl,c0,c1⟩:=hm P _ hp;have k0:=jG.out.cell c0;have k1:=jG.out.cell c1;have HLt:=ag (HF.out t hlt);rw[hP,fJ hp]at HLt;have m1:(t:Int)*(s:Int)=((t*s:Nat):Int):=(by rw[Int.natCast_mul]);have m2:IntKind.i64.wrap ((t:Int)*(s:Int))=(t:Int)*(s:Int):=aU (by rw[m1];omega) (by rw[m1];omega);have m3:IntKind.i64.wrap ((f:Int)+(t:Int)*(s:Int))=(f:Int)+(t:Int)*(s:Int):=aU (by rw[m1];omega) (by rw[m1];omega);have m4:((f:Int)+(t:Int)*(s:Int)).tmod (V.length:Int)=(P:Int):=(by rw[m1,show(f:Int)+((t*s:Nat):Int)=((f+t*s:Nat):Int)by omega,<-hP];exact rfl);have n1:(0:Int)<=(P:Int):=(by omega);have n2:(P:Int)<(V.length:Int):=(by omega);have n3:(0:Int)<=(t:Int):=(by omega);have n4:(t:Int)<(V.length:Int)+1:=(by omega);have hLt:t<L.length:=(by rw[Uc.out];exact hlt);have z0:=(gZ.cells RB.out (yJ hLt)).1;have z1:=(gZ.cells RB.out (yJ hLt)).2;have zf:=λi=>aD.frozen RB.out i;have nY:Hid (w3.heap.size<=G):=afk HG.out;(try dsimp only at k0 k1 z0 z1);clear hm hp c0 c1 hP m1 hmul Ye;go_wp2;go_roundw;(case rel=>exact⟨t+1,by go_num,by omega,(jG.out.setCell nY.out _).setCell nY.out _,by have:=gZ.set RB.out t (px,py);rw[Gj HLt.out]at this;exact this⟩);case measure=>simp[intOf];omega};·have e:t=L.length:=(by rw[Uc.out];omega);have HRr:Hid (gZ wr G L):=(by have:=RB.out;rw[e,Gi]at this;exact this);have n4:¬(t:Int)<(V.length:Int)+1:=(by omega);clear e;go_wp2;go_ret;exact⟨G,by rw[Uc.out];rfl,hbase.out,HRr.out,dQ.out.trans jG.out⟩
def Vls(w:World)(v:Value)(us:List Value):Prop:=∃ao cap,v=.slice ao us.length cap/\∀i u,us[i]?=some u->∃b,ao=some ⟨b,0,none⟩/\w.cell? ⟨b,i,none⟩=some u
def Yf(us:List Value)(i:Nat):Value:=us.getD i (.slice none 0 0)
theorem zX{us:List Value}{i:Nat}{u:Value}(h:us[i]?=some u):Yf us i=u:=by
 unfold Yf;rw[mT,h];rfl
def zY(m:aF)(us:List Value)(n:Nat):List Value:=Vd.GI (λi=>Vd.jk m i m.length) (Yf us) (lP m.length) n
theorem DN(m:aF)(us:List Value)(n:Nat):(zY m us n).length=m.length:=by
 unfold zY;rw[Vd.qL];simp[lP]
theorem TH(m:aF)(us:List Value)(n:Nat):zY m us (n+1)=(zY m us n).set (Vd.jk m n m.length) (Yf us n):=by
 unfold zY;rw[Vd.zk]
theorem Qw{m:aF}{us:List Value}{i:Nat}(hi:i<m.length):(zY m us m.length)[Vd.jk m i m.length]?=some (Yf us i):=Vd.Bk (f:=λi=>Vd.jk m i m.length) (N:=m.length) (λi h=>by simpa[lP]using Vd.lF h) (λi k h1 h2=>Vd.uL h1 h2) m.length (IN _) i hi
theorem AL(v:Value)(m:aF)(us:List Value)(w:World)(hv:oF w v m)(hu:Vls w v us)(hlen:us.length=m.length)(hm:m.length<=1048576)(hl:∀l∈m,l.length<=1048576)(hr:∀l∈m,∀r∈l,r.length<=1048576):Calls Tryz.prog 132 #[v] w λe w'=>∃G:Nat,e=.returned (.slice (some ⟨G,0,none⟩) m.length m.length)/\w.heap.size<=G/\aD w' G 33 (zY m us m.length)/\Up w w':=by
 have HL:=ag hl;have HR:=ag hr;obtain⟨ao,cap,rfl,hU⟩:=hu;have AJ:=ag hU;have T8:=ag hlen;rw[hlen]at hv⊢;have HV:=ag hv;have HSl:Hid (∀(i:Nat)(u:Value),us[i]?=some u->∃a n c,u=.slice a n c):=λi u hu=>(by obtain⟨b,e,c⟩:=AJ.out i u hu;obtain⟨kD,dH,e2,h2⟩:=HV.out;cases e2;obtain⟨l,hl⟩:=Pl.ai (show i<m.length by rw[<-T8.out];exact Pl.aE hu);obtain⟨b',u',e',c',A4⟩:=h2 i l hl;rw[e]at e';cases e';rw[c]at c';cases c';obtain⟨a,cp,rfl,-⟩:=A4;exact⟨_,_,_,rfl⟩);have hmk:=wS m.length (by omega);clear hv hl hr hU hlen;go_enter Tryz.func132,Tryz.ntmps132;go_wp2;have Ib:Hid (Up w (w.alloc (.cells (lP m.length).toArray 33))):=(Up.refl _).alloc _;have RB:Hid (aD (w.alloc (.cells (lP m.length).toArray 33)) w.heap.size 33 (zY m us 0)):=aD.new w _ _;obtain⟨G,hG⟩:∃G,w.heap.size=G:=⟨_,rfl⟩;rw[hG]at RB⊢;have HG:=ag hG;generalize w.alloc (.cells (lP m.length).toArray 33)=W0 at*;clear hmk hG;go_loopw[11](λi wq=>∃t:Nat,i=.int .i64 t/\t<=m.length/\Hid (Up w wq)/\Hid (aD wq G 33 (zY m us t)))(λi _=>m.length-(intOf i).toNat);(case atStart=>exact⟨0,rfl,oE _,Ib,RB⟩);case round=>clear Ib RB;obtain⟨k,rfl,hk,HU,RB⟩:=hrel;by_cases hlt:k<m.length;{obtain⟨u,hu⟩:=Pl.ai (show k<us.length by rw[T8.out];exact hlt);obtain⟨b,rfl,c0⟩:=AJ.out k u hu;obtain⟨ua,un,uc,rfl⟩:=HSl.out k u hu;have HX:=ag (TH m us k);rw[zX hu]at HX;have e0:=HU.out.cell c0;have hcl:=Vd.lF (m:=m) hlt;have HKc:=ag (DG _ m k wr (HV.out.up HU.out) hlt hm HL.out HR.out);generalize Vd.jk m k m.length=C at*;have i1:(0:Int)<=(k:Int):=(by omega);have i2:(k:Int)<(m.length:Int):=(by omega);have i3:(0:Int)<=(C:Int):=(by omega);have i4:(C:Int)<(m.length:Int):=(by omega);clear hu c0;go_wp2_with fail;refine HKc.out.mono ?_;rintro e w2⟨rfl,gJ⟩;have c8:=ag (HU.out.trans gJ);have RB2:=ag (RB.out.up gJ);obtain⟨z,hz⟩:=Pl.ai (show C<(zY m us k).length by rw[DN];exact hcl);have z0:=RB2.out.cell hz;have zf:=λi=>RB2.out.frozen i;have nY:Hid (w.heap.size<=G):=afk HG.out;(try dsimp only at z0 zf);clear gJ e0 HKc hz RB;go_wp2;go_roundw;(case rel=>exact⟨k+1,by go_num,by omega,c8.out.setCell nY.out _,by rw[HX.out];exact RB2.out.set C _⟩);case measure=>simp[intOf];omega};·have hk2:k=m.length:=(by omega);have HRr:Hid (aD wr G 33 (zY m us m.length)):=(by have:=RB.out;rw[hk2]at this;exact this);have i2:¬(k:Int)<(m.length:Int):=(by omega);clear hk2;go_wp2;go_ret;exact⟨G,rfl,afk HG.out,HRr.out,HU.out⟩
structure RG where
 g:Nat
 r:Ring
def RG.v(q:RG):Value:=.slice (some ⟨q.g,0,none⟩) q.r.length q.r.length
def RG.ok(base:Nat)(w:World)(q:RG):Prop:=base<=q.g/\gZ w q.g q.r
theorem RG.ok.up{base:Nat}{w w':World}{q:RG}(h:q.ok base w)(k:Up w w'):q.ok base w':=⟨h.1,aD.up h.2 k⟩
theorem RG.ok.grown{base base' n:Nat}{w w':World}{q:RG}{v:Value}{xs:List Value}{e:TypeId}(h:q.ok base w)(ho:w.ownsRow base' e 1 v n xs)(he:e≠32)(hg:w.grownBy w' v.ownBlock):q.ok base w':=⟨h.1,aD.grown h.2 hg (aV ho h.2 he)⟩
structure QF(base:Nat)(w:World)(v:Value)(Q:List RG):Prop where
 own:w.ownsRow base 30 1 v Q.length (Q.map RG.v)
 ok:∀q∈Q,q.ok base w
theorem QF.up{base:Nat}{w w':World}{v:Value}{Q:List RG}(h:QF base w v Q)(k:Up w w'):QF base w' v Q:=⟨dJ h.own k,λq hq=>(h.ok q hq).up k⟩
structure HB where
 p:Nat
 q:RG
def HB.v(h:HB):Value:=.slice (some ⟨h.p,0,none⟩) 1 1
def HB.ok(base:Nat)(w:World)(h:HB):Prop:=base<=h.p/\aD w h.p 30 [h.q.v]/\h.q.ok base w
theorem HB.ok.up{base:Nat}{w w':World}{q:HB}(h:q.ok base w)(k:Up w w'):q.ok base w':=⟨h.1,h.2.1.up k,h.2.2.up k⟩
structure QH(base:Nat)(w:World)(fv v:Value)(H:List HB):Prop where
 own:w.ownsRow base 33 1 v H.length (H.map HB.v)
 ok:∀h∈H,h.ok base w
 ne:∀h∈H,fv.ownBlock≠some h.p
theorem QH.up{base:Nat}{w w':World}{fv v:Value}{H:List HB}(h:QH base w fv v H)(k:Up w w'):QH base w' fv v H:=⟨dJ h.own k,λq hq=>(h.ok q hq).up k,h.ne⟩
theorem rq{base base' n n' s s':Nat}{w w':World}{v v':Value}{xs xs':List Value}{e e':TypeId}(h:w.ownsRow base e s v n xs)(ho:w.ownsRow base' e' s' v' n' xs')(he:e≠e')(hg:w.grownBy w' v'.ownBlock):w'.ownsRow base e s v n xs:=jf h λg hb=>hg.block g (cw h hb).2 (λe2=>Ii h ho he hb e2.symm)
theorem QF.push{base:Nat}{w w':World}{v:Value}{Q:List RG}{q:RG}{g cap:Nat}(h:QF base w v Q)(hq:q.ok base w)(hg:w.grownBy w' v.ownBlock)(hown:w'.ownsRow base 30 1 (.slice (some ⟨g,0,none⟩) (Q.length+1) cap) (Q.length+1) (Q.map RG.v++[q.v])):QF base w' (.slice (some ⟨g,0,none⟩) (Q.length+1) cap) (Q++[q]):=by
 refine⟨by rw[C',oS];exact hown,λx hx=>?_⟩;rcases gd.1 hx with hx|hx;{exact(h.ok x hx).grown h.own (by decide) hg};·rw[Is.1 hx];exact hq.grown h.own (by decide) hg
theorem QF.byH{base:Nat}{w w':World}{fv v:Value}{Q:List RG}{H:List HB}(h:QF base w fv Q)(k:QH base w fv v H)(hg:w.grownBy w' v.ownBlock):QF base w' fv Q:=⟨rq h.own k.own (by decide) hg,λx hx=>(h.ok x hx).grown k.own (by decide) hg⟩
theorem HB.ok.byF{base:Nat}{w w':World}{fv:Value}{Q:List RG}{h:HB}(k:h.ok base w)(hf:QF base w fv Q)(hne:fv.ownBlock≠some h.p)(hg:w.grownBy w' fv.ownBlock):h.ok base w':=⟨k.1,k.2.1.grown hg hne,k.2.2.grown hf.own (by decide) hg⟩
theorem QH.byF{base:Nat}{w w':World}{fv v:Value}{Q:List RG}{H:List HB}{g cap n:Nat}(k:QH base w fv v H)(h:QF base w fv Q)(hg:w.grownBy w' fv.ownBlock)(Dn:fv.ownBlock=some g\/g=w.heap.size):QH base w' (.slice (some ⟨g,0,none⟩) n cap) v H:=by
 refine⟨rq k.own h.own (by decide) hg,λx hx=>(k.ok x hx).byF h (k.ne x hx) hg,λx hx e=>?_⟩;have hlt:x.p<w.heap.size:=aD.lt (k.ok x hx).2.1;have e':g=x.p:=DP e;rcases Dn with e2|e2;{exact k.ne x hx (e'▸e2)};·omega
theorem QH.push{base:Nat}{w w':World}{fv v:Value}{H:List HB}{x:HB}{g cap:Nat}(h:QH base w fv v H)(hx:x.ok base w)(hne:fv.ownBlock≠some x.p)(hg:w.grownBy w' v.ownBlock)(hown:w'.ownsRow base 33 1 (.slice (some ⟨g,0,none⟩) (H.length+1) cap) (H.length+1) (H.map HB.v++[x.v])):QH base w' fv (.slice (some ⟨g,0,none⟩) (H.length+1) cap) (H++[x]):=by
 refine⟨by rw[C',oS];exact hown,λy hy=>?_,λy hy=>?_⟩;{have one:∀y:HB,y.ok base w->y.ok base w':=λy k=>⟨k.1,k.2.1.grown hg (aV h.own k.2.1 (by decide)),k.2.2.grown h.own (by decide) hg⟩;rcases gd.1 hy with hy|hy;{exact one y (h.ok y hy)};·rw[Is.1 hy];exact one x hx};·rcases gd.1 hy with hy|hy;{exact h.ne y hy};·rw[Is.1 hy];exact hne
theorem QF.nil(base:Nat)(w:World):QF base w (.slice none 0 0) []:=⟨World.ownsRow_nil _ _ _ _,λq hq=>by simp at hq⟩
theorem QH.nil(base:Nat)(w:World):QH base w (.slice none 0 0) (.slice none 0 0) []:=⟨World.ownsRow_nil _ _ _ _,λq hq=>by simp at hq,λq hq=>by simp at hq⟩
def HB.m(H:List HB):aF:=H.map λh=>[h.q.r]
theorem RG.ok.rd{base:Nat}{w:World}{q:RG}(h:q.ok base w):oQ w q.v q.r:=⟨some ⟨q.g,0,none⟩,_,rfl,λi p hp=>⟨q.g,rfl,(gZ.cells h.2 hp).1,(gZ.cells h.2 hp).2⟩⟩
theorem QH.rd{base:Nat}{w:World}{fv v:Value}{H:List HB}(h:QH base w fv v H):oF w v (HB.m H)/\Vls w v (H.map HB.v):=by
 obtain⟨ao,cap,e⟩:=bE h.own;have key:∀i x,H[i]?=some x->∃g,ao=some ⟨g,0,none⟩/\w.cell? ⟨g,i,none⟩=some x.v:=λi x hx=>(by obtain⟨g,cap',e',hc⟩:=cE h.own (by have:=Pl.aE hx;omega);rw[e]at e';cases e';exact⟨g,rfl,hc i _ (by rw[An,hx];rfl)⟩);constructor;{refine⟨ao,cap,by rw[e];simp[HB.m],λi l hl=>?_⟩;unfold HB.m at hl;rw[An,To]at hl;obtain⟨x,hx,rfl⟩:=hl;obtain⟨g,eg,c⟩:=key i x hx;refine⟨g,x.v,eg,c,some ⟨x.p,0,none⟩,1,rfl,λj r hr=>?_⟩;cases j with|zero=>simp at hr;subst hr;exact⟨x.p,x.q.v,rfl,(h.ok x (Pl.ah hx)).2.1.cell (i:=0) rfl,(h.ok x (Pl.ah hx)).2.2.rd⟩|succ j=>simp at hr};·refine⟨ao,cap,by rw[e];simp,λi u hu=>?_⟩;rw[An,To]at hu;obtain⟨x,hx,rfl⟩:=hu;obtain⟨g,eg,c⟩:=key i x hx;exact⟨g,eg,c⟩
def DO(H:List HB):List HB:=Vd.GI (λi=>Vd.jk (HB.m H) i H.length) (λi=>H.getD i ⟨0,⟨0,[]⟩⟩) (List.replicate H.length ⟨0,⟨0,[]⟩⟩) H.length
theorem yM(H:List HB):(DO H).length=H.length:=by
 unfold DO;rw[Vd.qL];simp
theorem HB.jr(H:List HB):(HB.m H).length=H.length:=by simp[HB.m]
theorem Iu{H:List HB}{j:Nat}(hj:j<H.length):∃(i:Nat)(x:HB),H[i]?=some x/\Vd.jk (HB.m H) i H.length=j/\(DO H)[j]?=some x:=by
 obtain⟨i,hi,e⟩:=Vd.tF (m:=HB.m H) hj;obtain⟨x,hx⟩:=Pl.ai hi;refine⟨i,x,hx,e,?_⟩;rw[<-e];unfold DO;rw[Vd.Bk (f:=λi=>Vd.jk (HB.m H) i H.length) (N:=H.length) (λi h=>by simpa using Vd.lF h) (λi k h1 h2=>Vd.uL h1 h2) H.length (IN _) i hi,mT,hx];rfl
theorem LO{H:List HB}{x:HB}(h:x∈DO H):x∈H:=by
 obtain⟨j,hj⟩:=aee h;have:=Pl.aE hj;rw[yM]at this;obtain⟨i,y,hy,-,e⟩:=Iu this;rw[hj]at e;cases e;exact Pl.ah hy
theorem TI(H:List HB):zY (HB.m H) (H.map HB.v) (HB.m H).length=(DO H).map HB.v:=by
 refine abv λj=>?_;rcases NO j H.length with hj|hj;{obtain⟨i,x,hx,e,ho⟩:=Iu hj;rw[An,ho];have:=Qw (m:=HB.m H) (us:=H.map HB.v) (i:=i) (by rw[HB.jr];exact Pl.aE hx);rw[HB.jr,e]at this;rw[HB.jr,this,zX (u:=x.v) (by rw[An,hx];rfl)];rfl};·rw[DQ (by rw[DN,HB.jr];exact hj),DQ (by rw[wg,yM];exact hj)]
theorem Ow(H:List HB):Vd.eE (HB.m H)=(DO H).map λh=>[h.q.r]:=by
 refine abv λj=>?_;rcases NO j H.length with hj|hj;{obtain⟨i,x,hx,e,ho⟩:=Iu hj;rw[An,ho];have:=Vd.rM (HB.m H) (i:=i) (by rw[HB.jr];exact Pl.aE hx);rw[HB.jr,e]at this;rw[this];have h2:(HB.m H)[i]?=some [x.q.r]:=(by unfold HB.m;rw[An,hx];rfl);rw[me h2];rfl};·rw[DQ (by rw[Vd.nJ,HB.jr];exact hj),DQ (by rw[wg,yM];exact hj)]
theorem TJ(L:List HB):(L.map λh=>[h.q.r]).flatten=L.map λh=>h.q.r:=by induction L with|nil=>rfl|cons a t ih=>simp[ih]
structure RZ(r:Ring):Prop where
 len:r.length<=1048575
 cd:Vd.yT r
 cn:(Vd.aC r).length≠0
theorem DR{r:Ring}{l:Bool}(h:RZ r):(Vd.aI r l).length<=1048576:=by
 rw[Vd.Gh h.cn];have:(Vd.aC r).length<=r.length:=Vd.r5 r r.length;have:=h.len;omega
theorem A0 (v : Value) (l : Poly) (w : World) (hv : oR w v l) (hl : l.length ≤ 1048576) (hz : ∀ r ∈ l, RZ r) :
    Calls Tryz.prog 131 #[v] w fun e w' => ∃ (fv : Value) (Q : List RG), e = .returned fv ∧ QF w.heap.size w' fv Q ∧ Q.map RG.r = Vd.cH l ∧ Up w w' := by
  obtain ⟨ao, cap, rfl, hm⟩ := hv
  have HM := ag hm
  have HZ := ag hz
  clear hm hz
  go_enter Tryz.func131, Tryz.ntmps131
  go_wp2
  go_loopw [3, 4, 11] (fun fv hv i wr => ∃ (k : Nat) (u x : Value) (Q : List RG) (H : List HB), i = .int .i64 k ∧ u = fv ∧ x = hv ∧ k ≤ l.length ∧ Hid (Up w wr) ∧ Hid (QF w.heap.size wr u Q) ∧ Hid (QH w.heap.size wr u x H) ∧ Hid (Q.map RG.r = ((l.take k).take 1).map (Vd.aI · true)) ∧ Hid ((H.map fun h => h.q.r) = ((l.take k).drop 1).map (Vd.aI · false))) (fun _ _ i _ => l.length - (intOf i).toNat)
  case atStart => exact ⟨0, _, _, [], [], rfl, rfl, rfl, Nat.zero_le _, Up.refl _, QF.nil _ _, QH.nil _ _, rfl, rfl⟩
  case round =>
    obtain ⟨k, u, x, Q, H, rfl, rfl, rfl, hk, HU, HQ, HH, HE1, rX⟩ := hrel
    by_cases hlt : k < l.length
    · obtain ⟨r, hr⟩ := Pl.ai hlt
      obtain ⟨b, y, rfl, cy, hy⟩ := HM.out k r hr
      have e0 := HU.out.cell cy
      have Hy := ag (hy.up HU.out)
      have Y6 := ag (HZ.out r (Pl.ah hr))
      have HTk := ag (Pl.take_one hr)
      have i1 : (0 : Int) ≤ (k : Int) := by omega
      have i2 : (k : Int) < (l.length : Int) := by omega
      have hsz : Hid (w.heap.size ≤ wr.heap.size) := HU.out.size
      have hQl : Hid (Q.length ≤ 1073741824) := by
        have := congrArg List.length HE1.out
        simp only [List.length_map, List.length_take] at this
        show _ ≤ _; omega
      have hHl : Hid (H.length ≤ 1073741824) := by
        have := congrArg List.length rX.out
        simp only [List.length_map, List.length_take, List.length_drop] at this
        show _ ≤ _; omega
      clear hr cy hy
      by_cases fj : k = 0
      · subst fj
        have ae0 : Hid (∀ q : RG, q.r = Vd.aI r true → (Q ++ [q]).map RG.r = ((l.take (0 + 1)).take 1).map (Vd.aI · true)) := fun q hq => by
          rw [List.map_append, HE1.out, HTk.out]; simp [hq]
        have ae1 : Hid ((H.map fun h => h.q.r) = ((l.take (0 + 1)).drop 1).map (Vd.aI · false)) := by
          rw [rX.out, HTk.out]; simp [Hid]
        go_wp2_with fail
        refine (yK _ r true _ Hy.out Y6.out.len Y6.out.cd Y6.out.cn).mono ?_
        rintro e w2 ⟨g, rfl, hg, hP, gJ⟩
        have c8 := ag gJ
        have Hq : Hid (RG.ok w.heap.size w2 ⟨g, Vd.aI r true⟩) := ⟨Nat.le_trans hsz.out hg, hP⟩
        generalize hF : Vd.aI r true = F at *
        clear gJ hP e0 hF
        have wY : Hid (Up wr (w2.alloc (.cells #[.slice (some ⟨g, 0, none⟩) F.length F.length] 30))) := c8.out.alloc _
        have Hqa : Hid (RG.ok w.heap.size (w2.alloc (.cells #[.slice (some ⟨g, 0, none⟩) F.length F.length] 30)) ⟨g, F⟩) := Hq.out.up ((Up.refl _).alloc _)
        have LP := ag (HQ.out.up wY.out)
        have HHa := ag (HH.out.up wY.out)
        have ae2 : Hid (w.heap.size ≤ w2.heap.size) := Nat.le_trans hsz.out c8.out.size
        have ry : Hid ((w2.alloc (.cells #[.slice (some ⟨g, 0, none⟩) F.length F.length] 30)).heap[w2.heap.size]? = some (.cells [Value.slice (some ⟨g, 0, none⟩) F.length F.length].toArray 30 (0, 0))) := aD.new w2 [.slice (some ⟨g, 0, none⟩) F.length F.length] 30
        have I4 : Hid (w.heap.size ≤ (w2.alloc (.cells #[.slice (some ⟨g, 0, none⟩) F.length F.length] 30)).heap.size) := by
          have := ae2.out; simp [Hid]; omega
        obtain ⟨xa, xc, rfl⟩ := bE HH.out.own
        obtain ⟨ua, uc, rfl⟩ := bE HQ.out.own
        go_wp2_with (at_builtin; refine bh pL rfl (.tmp 18) (.tmp 21) rfl w.heap.size _ _ _ (by rfl) LP.out.own w2.heap.size [.slice (some ⟨g, 0, none⟩) F.length F.length] (by rfl) rfl ry.out (by intro z hz; simp at hz; subst hz; rfl) hQl.out I4.out ?_; intro g5 qD w5 cF gK jH kE; have TK := ag (LP.out.push Hqa.out gK cF); have HH5 := ag (HHa.out.byF (n := Q.length + 1) (cap := qD) LP.out gK jH); have mW : Hid (Up w w5) := Fr.up (S := fun _ => False) ((Fr.fD (HU.out.trans wY.out)).grown gK fun z hz => .inr (cw HQ.out.own hz).1) (fun _ _ h => h); clear cF gK jH kE)
        go_roundw
        case rel => exact ⟨0 + 1, _, _, _, H, by go_num, rfl, rfl, by omega, mW, TK, HH5, ae0.out _ rfl, ae1⟩
        case measure => simp [intOf]; omega
      · have amr : ((k : Int) == 0) = false := beq_eq_false_iff_ne.2 (by omega)
        have ae0 : Hid (Q.map RG.r = ((l.take (k + 1)).take 1).map (Vd.aI · true)) := by
          rw [HE1.out, HTk.out]; show _ = _; rw [List.take_append_of_le_length (by rw [List.length_take]; omega)]
        have ae1 : Hid (∀ q : HB, q.q.r = Vd.aI r false → ((H ++ [q]).map fun h => h.q.r) = ((l.take (k + 1)).drop 1).map (Vd.aI · false)) := fun q hq => by
          rw [List.map_append, rX.out, HTk.out, List.drop_append_of_le_length (by rw [List.length_take]; omega), List.map_append]; simp [hq]
        clear fj
        go_wp2_with fail
        refine (yK _ r false _ Hy.out Y6.out.len Y6.out.cd Y6.out.cn).mono ?_
        rintro e w2 ⟨g, rfl, hg, hP, gJ⟩
        have c8 := ag gJ
        have Hq : Hid (RG.ok w.heap.size w2 ⟨g, Vd.aI r false⟩) := ⟨Nat.le_trans hsz.out hg, hP⟩
        have hfl := ag (DR (l := false) Y6.out)
        generalize hF : Vd.aI r false = F at *
        clear gJ hP e0 hF
        have wY : Hid (Up wr ((w2.alloc (.cells #[.slice (some ⟨g, 0, none⟩) F.length F.length] 30)).alloc (.cells #[.slice (some ⟨w2.heap.size, 0, none⟩) 1 1] 33))) := (c8.out.alloc _).alloc _
        have HXo : Hid (HB.ok w.heap.size ((w2.alloc (.cells #[.slice (some ⟨g, 0, none⟩) F.length F.length] 30)).alloc (.cells #[.slice (some ⟨w2.heap.size, 0, none⟩) 1 1] 33)) ⟨w2.heap.size, ⟨g, F⟩⟩) :=
          ⟨Nat.le_trans hsz.out c8.out.size, (aD.new w2 _ _).up ((Up.refl _).alloc _), Hq.out.up (((Up.refl _).alloc _).alloc _)⟩
        have LP := ag (HQ.out.up wY.out)
        have HHa := ag (HH.out.up wY.out)
        have hne : Hid (u.ownBlock ≠ some w2.heap.size) := fun e => by have := (cw HQ.out.own e).2; have := c8.out.size; omega
        have ae2 : Hid (w.heap.size ≤ w2.heap.size) := Nat.le_trans hsz.out c8.out.size
        have ry : Hid (((w2.alloc (.cells #[.slice (some ⟨g, 0, none⟩) F.length F.length] 30)).alloc (.cells #[.slice (some ⟨w2.heap.size, 0, none⟩) 1 1] 33)).heap[w2.heap.size + 1]? = some (.cells [Value.slice (some ⟨w2.heap.size, 0, none⟩) 1 1].toArray 33 (0, 0))) := by
          have := aD.new (w2.alloc (.cells #[.slice (some ⟨g, 0, none⟩) F.length F.length] 30)) [.slice (some ⟨w2.heap.size, 0, none⟩) 1 1] 33
          unfold aD at this
          rw [show (w2.alloc (.cells #[.slice (some ⟨g, 0, none⟩) F.length F.length] 30)).heap.size = w2.heap.size + 1 by simp] at this
          exact this
        have I4 : Hid (w.heap.size ≤ ((w2.alloc (.cells #[.slice (some ⟨g, 0, none⟩) F.length F.length] 30)).alloc (.cells #[.slice (some ⟨w2.heap.size, 0, none⟩) 1 1] 33)).heap.size) := by
          have := ae2.out; simp [Hid]; omega
        obtain ⟨xa, xc, rfl⟩ := bE HH.out.own
        obtain ⟨ua, uc, rfl⟩ := bE HQ.out.own
        go_wp2_with (at_builtin; refine bh Dk rfl (.tmp 23) (.tmp 27) rfl w.heap.size _ _ _ (by rfl) HHa.out.own (w2.heap.size + 1) [.slice (some ⟨w2.heap.size, 0, none⟩) 1 1] (by rfl) rfl ry.out (by intro z hz; simp at hz; subst hz; rfl) hHl.out I4.out ?_; intro g5 qD w5 cF gK jH kE; have HH5 := ag (HHa.out.push HXo.out hne.out gK cF); have TK := ag (LP.out.byH HHa.out gK); have mW : Hid (Up w w5) := Fr.up (S := fun _ => False) ((Fr.fD (HU.out.trans wY.out)).grown gK fun z hz => .inr (cw HH.out.own hz).1) (fun _ _ h => h); clear cF gK jH kE)
        go_roundw
        case rel => exact ⟨k + 1, _, _, Q, _, by go_num, rfl, rfl, by omega, mW, TK, HH5, ae0, ae1.out _ rfl⟩
        case measure => simp [intOf]; omega
    · have i2 : ¬ (k : Int) < (l.length : Int) := by omega
      have hkl : k = l.length := by omega
      have HF1 : Hid (Q.map RG.r = (l.take 1).map (Vd.aI · true)) := by have := HE1.out; rw [hkl, List.take_length] at this; exact this
      have Ql : Hid ((H.map fun h => h.q.r) = (l.drop 1).map (Vd.aI · false)) := by have := rX.out; rw [hkl, List.take_length] at this; exact this
      have hHl : H.length ≤ 1048576 := by
        have := congrArg List.length Ql.out
        simp only [List.length_map, List.length_drop] at this
        omega
      have hQl : Q.length ≤ 1 := by
        have := congrArg List.length HF1.out
        simp only [List.length_map, List.length_take] at this
        omega
      have HRl : Hid (∀ h ∈ H, h.q.r.length ≤ 1048576) := fun h hh => by
        have : h.q.r ∈ (l.drop 1).map (Vd.aI · false) := by rw [← Ql.out]; exact List.mem_map.2 ⟨h, hh, rfl⟩
        obtain ⟨r, hr, e⟩ := List.mem_map.1 this
        rw [← e]
        exact DR (HZ.out r (List.mem_of_mem_drop hr))
      have HPF : Hid (∀ Q' : List RG, Q'.map RG.r = Q.map RG.r ++ ((DO H).map fun h => h.q.r) → Q'.map RG.r = Vd.cH l) := fun Q' hQ' => by
        rw [hQ', HF1.out]
        cases l with
        | nil =>
          have hn : H = [] := by have := congrArg List.length Ql.out; simp at this; exact this
          subst hn
          rfl
        | cons r0 t =>
          have e : Vd.jJ t = HB.m H := by
            unfold Vd.jJ HB.m
            have := Ql.out
            simp only [List.drop_succ_cons, List.drop_zero] at this
            have h2 := congrArg (List.map fun r : Ring => [r]) this
            simp only [List.map_map] at h2
            exact h2.symm
          show [Vd.aI r0 true] ++ _ = Vd.aI r0 true :: (Vd.eE (Vd.jJ t)).flatten
          rw [e, Ow, TJ]; rfl
      have HIO := ag (AL _ (HB.m H) (H.map HB.v) wr HH.out.rd.1 HH.out.rd.2 (by rw [List.length_map, HB.jr]) (by rw [HB.jr]; exact hHl) (fun p hp => by unfold HB.m at hp; obtain ⟨h, _, rfl⟩ := List.mem_map.1 hp; simp) (fun p hp r hr => by unfold HB.m at hp; obtain ⟨h, hh, rfl⟩ := List.mem_map.1 hp; rw [List.mem_singleton.1 hr]; exact HRl.out h hh))
      rw [TI, HB.jr] at HIO
      clear hkl HE1 rX
      obtain ⟨xa, xc, rfl⟩ := bE HH.out.own
      obtain ⟨ua, uc, rfl⟩ := bE HQ.out.own
      go_wp2_with fail
      refine HIO.out.mono ?_
      rintro e w2 ⟨G, rfl, hG, Yg, gJ⟩
      have c8 := ag (HU.out.trans gJ)
      have HQ2 := ag (HQ.out.up gJ)
      have Av : Hid (∀ h ∈ DO H, h.ok w.heap.size w2 ∧ (Value.slice ua Q.length uc).ownBlock ≠ some h.p) := fun h hh => ⟨(HH.out.ok h (LO hh)).up gJ, HH.out.ne h (LO hh)⟩
      have hOl : (DO H).length = H.length := yM H
      have Ih := ag Yg
      have HGn : Hid ((Value.slice ua Q.length uc).ownBlock ≠ some G) := fun e => by have := (cw HQ.out.own e).2; omega
      generalize DO H = O at *
      clear hG Yg gJ HIO HH HF1 Ql HQ HU HRl
      go_wp2
      go_loopw [3, 33] (fun fv i wq => ∃ (t : Nat) (u : Value) (Q' : List RG), i = .int .i64 t ∧ u = fv ∧ t ≤ H.length ∧ Hid (Up w wq) ∧ Hid (QF w.heap.size wq u Q') ∧ Hid (aD wq G 33 (O.map HB.v)) ∧ Hid (u.ownBlock ≠ some G) ∧ Hid (∀ h ∈ O, h.ok w.heap.size wq ∧ u.ownBlock ≠ some h.p) ∧ Hid (Q'.map RG.r = Q.map RG.r ++ ((O.take t).map fun h => h.q.r))) (fun _ i _ => H.length - (intOf i).toNat)
      case atStart => exact ⟨0, _, Q, rfl, rfl, Nat.zero_le _, c8, HQ2, Ih, HGn, Av, by simp [Hid]⟩
      case round =>
        clear c8 HQ2 Ih HGn Av
        obtain ⟨t, u, Q', rfl, rfl, ht, HU, HQ, Ih, HGn, HK, HE⟩ := hrel
        by_cases Ly : t < H.length
        · obtain ⟨h, hh⟩ := Pl.ai (show t < O.length by omega)
          have e0 := Ih.out.cell (i := t) (v := h.v) (by rw [List.getElem?_map, hh]; rfl)
          have Hk := ag (HK.out h (Pl.ah hh))
          have HEn : Hid ((Q' ++ [h.q]).map RG.r = Q.map RG.r ++ ((O.take (t + 1)).map fun h => h.q.r)) := by rw [Pl.take_one hh, List.map_append, HE.out, List.map_append, List.append_assoc]; exact rfl
          have amR : Hid (Q'.length ≤ 1073741824) := by
            have := congrArg List.length HE.out
            simp only [List.length_map, List.length_append, List.length_take] at this
            show _ ≤ _; omega
          have I4 : Hid (w.heap.size ≤ wr.heap.size) := HU.out.size
          have ry : Hid (wr.heap[h.p]? = some (.cells [h.q.v].toArray 30 (0, 0))) := Hk.out.1.2.1
          have j1 : (0 : Int) ≤ (t : Int) := by omega
          have j2 : (t : Int) < (H.length : Int) := by omega
          rw [HB.v] at e0
          obtain ⟨ua', uc', rfl⟩ := bE HQ.out.own
          clear hh
          go_wp2_with (at_builtin; refine bh pL rfl (.tmp 37) (.tmp 38) rfl w.heap.size _ _ _ (by rfl) HQ.out.own h.p [h.q.v] (by rfl) rfl ry.out (by intro z hz; simp at hz; subst hz; rfl) amR.out I4.out ?_; intro g5 qD w5 cF gK jH kE; have TK := ag (HQ.out.push Hk.out.1.2.2 gK cF); have mW : Hid (Up w w5) := Fr.up (S := fun _ => False) ((Fr.fD HU.out).grown gK fun z hz => .inr (cw HQ.out.own hz).1) (fun _ _ h => h); have HR5 := ag (Ih.out.grown gK HGn.out); have HG5 : Hid ((Value.slice (some ⟨g5, 0, none⟩) (Q'.length + 1) qD).ownBlock ≠ some G) := (fun e => by have hlt := Ih.out.lt; have e' : g5 = G := Option.some.inj e; rcases jH with e2 | e2; exact HGn.out (e' ▸ e2); omega); have HK5 : Hid (∀ h ∈ O, h.ok w.heap.size w5 ∧ (Value.slice (some ⟨g5, 0, none⟩) (Q'.length + 1) qD).ownBlock ≠ some h.p) := (fun x hx => ⟨(HK.out x hx).1.byF HQ.out (HK.out x hx).2 gK, fun e => by have hlt : x.p < wr.heap.size := (HK.out x hx).1.2.1.lt; have e' : g5 = x.p := Option.some.inj e; rcases jH with e2 | e2; exact (HK.out x hx).2 (e' ▸ e2); omega⟩); clear cF gK jH kE)
          go_roundw
          case rel => exact ⟨t + 1, _, _, by go_num, rfl, by omega, mW, TK, HR5, HG5, HK5, HEn⟩
          case measure => simp [intOf]; omega
        · have j2 : ¬ (t : Int) < (H.length : Int) := by omega
          have HR := ag (HPF.out Q' (by rw [HE.out, List.take_of_length_le (by omega)]))
          go_wp2
          go_ret
          exact ⟨_, rfl, Q', HQ.out, HR.out, HU.out⟩
structure PG where
 v:Value
 q:List RG
def PG.l(x:PG):Poly:=x.q.map RG.r
structure QP(base:Nat)(w:World)(v:Value)(X:List PG):Prop where
 own:w.ownsRow base 33 1 v X.length (X.map PG.v)
 ok:∀x∈X,QF base w x.v x.q
theorem QF.base{base base':Nat}{w:World}{v:Value}{Q:List RG}(h:QF base w v Q)(hb:base'<=base):QF base' w v Q:=⟨tT h.own hb,λq hq=>⟨aa0 hb (h.ok q hq).1,(h.ok q hq).2⟩⟩
theorem QF.byP{base base' n:Nat}{w w':World}{v u:Value}{Q:List RG}{xs:List Value}(h:QF base w v Q)(k:w.ownsRow base' 33 1 u n xs)(hg:w.grownBy w' u.ownBlock):QF base w' v Q:=⟨rq h.own k (by decide) hg,λx hx=>(h.ok x hx).grown k (by decide) hg⟩
theorem QP.nil(base:Nat)(w:World):QP base w (.slice none 0 0) []:=⟨World.ownsRow_nil _ _ _ _,λq hq=>by simp at hq⟩
theorem QP.up{base:Nat}{w w':World}{v:Value}{X:List PG}(h:QP base w v X)(k:Up w w'):QP base w' v X:=⟨dJ h.own k,λq hq=>(h.ok q hq).up k⟩
theorem QP.push{base:Nat}{w w':World}{v:Value}{X:List PG}{x:PG}{g cap:Nat}(h:QP base w v X)(hx:QF base w x.v x.q)(hg:w.grownBy w' v.ownBlock)(hown:w'.ownsRow base 33 1 (.slice (some ⟨g,0,none⟩) (X.length+1) cap) (X.length+1) (X.map PG.v++[x.v])):QP base w' (.slice (some ⟨g,0,none⟩) (X.length+1) cap) (X++[x]):=by
 refine⟨by rw[C',oS];exact hown,λy hy=>?_⟩;rcases gd.1 hy with hy|hy;{exact(h.ok y hy).byP h.own hg};·rw[Is.1 hy];exact hx.byP h.own hg
theorem QF.rc{base:Nat}{w:World}{v:Value}{Q:List RG}(h:QF base w v Q):Wt w v (Q.map RG.r):=by
 obtain⟨ao,cap,e⟩:=bE h.own;refine⟨ao,cap,by rw[e,wg],?_,λi r hr=>?_⟩;{rw[wg];rcases h.own.2 with⟨e2,h0⟩|⟨g,cap',cur,e2,hb,hh,hc⟩;{rw[h0];exact oE _};·rw[e]at e2;cases e2;exact hc.1};·rw[An,To]at hr;obtain⟨q,hq,rfl⟩:=hr;obtain⟨g,cap',e',hc⟩:=cE h.own (by have:=Pl.aE hq;omega);rw[e]at e';cases e';exact⟨g,q.v,rfl,hc i _ (by rw[An,hq];rfl),(h.ok q (Pl.ah hq)).rd⟩
namespace Vd
theorem Qx{m:aF}{x:Poly}(h:x∈eE m):x∈m:=by
 obtain⟨j,hj⟩:=aee h;have hl:=Pl.aE hj;rw[nJ]at hl;obtain⟨i,hi,e⟩:=tF (m:=m) hl;have:=rM m hi;rw[e,hj]at this;cases this;obtain⟨l,hl⟩:=Pl.ai hi;unfold b9;rw[mT,hl];exact Pl.ah hl
theorem Iv{l:Poly}{x:Ring}(h:x∈cH l):∃r∈l,∃b,x=aI r b:=by cases l with|nil=>simp[cH]at h|cons r0 t=>rw[cH]at h;rcases v7.1 h with rfl|h;{exact⟨r0,by simp,true,rfl⟩};·obtain⟨p,hp,hx⟩:=By.1 h;obtain⟨r,hr,rfl⟩:=As.1 (Qx hp);exact⟨r,by simp[hr],false,Is.1 hx⟩
theorem Iw{m:aF}(h:∀x∈m,x.length=1):m.flatten.length=m.length:=by induction m with|nil=>rfl|cons a t ih=>rw[aeh,oS,h a (by simp),ih λx hx=>h x (by simp[hx]),L7];omega
theorem Ix(l:Poly):(cH l).length=l.length:=by cases l with|nil=>rfl|cons r0 t=>rw[cH,L7,L7,Iw,nJ];{unfold jJ;rw[wg]};·intro x hx;obtain⟨r,_,rfl⟩:=As.1 (Qx hx);rfl
end Vd
def PG.m(X:List PG):aF:=X.map PG.l
theorem PG.jr(X:List PG):(PG.m X).length=X.length:=by simp[PG.m]
theorem QP.rd{base:Nat}{w:World}{v:Value}{X:List PG}(h:QP base w v X):oF w v (PG.m X)/\Vls w v (X.map PG.v):=by
 obtain⟨ao,cap,e⟩:=bE h.own;have key:∀i x,X[i]?=some x->∃g,ao=some ⟨g,0,none⟩/\w.cell? ⟨g,i,none⟩=some x.v:=λi x hx=>(by obtain⟨g,cap',e',hc⟩:=cE h.own (by have:=Pl.aE hx;omega);rw[e]at e';cases e';exact⟨g,rfl,hc i _ (by rw[An,hx];rfl)⟩);constructor;{refine⟨ao,cap,by rw[e,PG.jr],λi l hl=>?_⟩;unfold PG.m at hl;rw[An,To]at hl;obtain⟨x,hx,rfl⟩:=hl;obtain⟨g,eg,c⟩:=key i x hx;exact⟨g,x.v,eg,c,(h.ok x (Pl.ah hx)).rc.rd⟩};·refine⟨ao,cap,by rw[e,wg],λi u hu=>?_⟩;rw[An,To]at hu;obtain⟨x,hx,rfl⟩:=hu;obtain⟨g,eg,c⟩:=key i x hx;exact⟨g,eg,c⟩
def DT(X:List PG):List PG:=Vd.GI (λi=>Vd.jk (PG.m X) i X.length) (λi=>X.getD i ⟨.slice none 0 0,[]⟩) (List.replicate X.length ⟨.slice none 0 0,[]⟩) X.length
theorem yN(X:List PG):(DT X).length=X.length:=by
 unfold DT;rw[Vd.qL];simp
theorem Iy{X:List PG}{j:Nat}(hj:j<X.length):∃(i:Nat)(x:PG),X[i]?=some x/\Vd.jk (PG.m X) i X.length=j/\(DT X)[j]?=some x:=by
 obtain⟨i,hi,e⟩:=Vd.tF (m:=PG.m X) hj;obtain⟨x,hx⟩:=Pl.ai hi;refine⟨i,x,hx,e,?_⟩;rw[<-e];unfold DT;rw[Vd.Bk (f:=λi=>Vd.jk (PG.m X) i X.length) (N:=X.length) (λi h=>by simpa using Vd.lF h) (λi k h1 h2=>Vd.uL h1 h2) X.length (IN _) i hi,mT,hx];rfl
theorem Yh{X:List PG}{x:PG}(h:x∈DT X):x∈X:=by
 obtain⟨j,hj⟩:=aee h;have:=Pl.aE hj;rw[yN]at this;obtain⟨i,y,hy,-,e⟩:=Iy this;rw[hj]at e;cases e;exact Pl.ah hy
theorem TL(X:List PG):zY (PG.m X) (X.map PG.v) (PG.m X).length=(DT X).map PG.v:=by
 refine abv λj=>?_;rcases NO j X.length with hj|hj;{obtain⟨i,x,hx,e,ho⟩:=Iy hj;rw[An,ho];have:=Qw (m:=PG.m X) (us:=X.map PG.v) (i:=i) (by rw[PG.jr];exact Pl.aE hx);rw[PG.jr,e]at this;rw[PG.jr,this,zX (u:=x.v) (by rw[An,hx];rfl)];rfl};·rw[DQ (by rw[DN,PG.jr];exact hj),DQ (by rw[wg,yN];exact hj)]
theorem Ox(X:List PG):Vd.eE (PG.m X)=(DT X).map PG.l:=by
 refine abv λj=>?_;rcases NO j X.length with hj|hj;{obtain⟨i,x,hx,e,ho⟩:=Iy hj;rw[An,ho];have:=Vd.rM (PG.m X) (i:=i) (by rw[PG.jr];exact Pl.aE hx);rw[PG.jr,e]at this;rw[this];have h2:(PG.m X)[i]?=some x.l:=(by unfold PG.m;rw[An,hx];rfl);rw[me h2];rfl};·rw[DQ (by rw[Vd.nJ,PG.jr];exact hj),DQ (by rw[wg,yN];exact hj)]
structure FZ(m:aF):Prop where
 len:m.length<=1048576
 poly:∀l∈m,l.length<=1048576
 ring:∀l∈m,∀r∈l,RZ r
structure NS(base:Nat)(w:World)(G:Nat)(X:List PG):Prop where
 low:base<=G
 row:aD w G 33 (X.map PG.v)
 ok:∀x∈X,QF base w x.v x.q
theorem Yi(v:Value)(m:aF)(w:World)(hv:oF w v m)(hz:FZ m):Calls Tryz.prog 93 #[v] w λe w'=>∃(G:Nat)(X:List PG),e=.returned (.slice (some ⟨G,0,none⟩) X.length X.length)/\NS w.heap.size w' G X/\PG.m X=Vd.form m/\Up w w':=by
 obtain⟨ao,cap,rfl,hm⟩:=hv;have HM:=ag hm;have HZ:=ag hz;have hl:=hz.len;have HDf:Hid (Vd.form m=Vd.eE (m.map Vd.cH)):=rfl;clear hm hz;go_enter Tryz.func93,Tryz.ntmps93;go_wp2;go_loopw[3,8](λfv i wr=>∃(k:Nat)(u:Value)(X:List PG),i=.int .i64 k/\u=fv/\k<=m.length/\Hid (Up w wr)/\Hid (QP w.heap.size wr u X)/\Hid (PG.m X=(m.take k).map Vd.cH))(λ_ i _=>m.length-(intOf i).toNat);(case atStart=>exact⟨0,_,[],rfl,rfl,oE _,Up.refl _,QP.nil _ _,rfl⟩);case round=>obtain⟨k,u,X,rfl,rfl,hk,HU,HQ,HE⟩:=hrel;have hXl:X.length=k:=(by have:=US List.length HE.out;rw[PG.jr,wg,No]at this;omega);by_cases hlt:k<m.length;{obtain⟨l,hr⟩:=Pl.ai hlt;obtain⟨b,y,rfl,cy,hy⟩:=HM.out k l hr;have e0:=HU.out.cell cy;have HKp:=ag (A0 y l wr (hy.up HU.out) (HZ.out.poly l (Pl.ah hr)) (HZ.out.ring l (Pl.ah hr)));have HEn:Hid (∀x:PG,x.l=Vd.cH l->PG.m (X++[x])=(m.take (k+1)).map Vd.cH):=λx hx=>(by unfold PG.m at*;rw[C',HE.out,Pl.take_one hr,C'];simp[hx]);have i1:(0:Int)<=(k:Int):=(by omega);have i2:(k:Int)<(m.length:Int):=(by omega);have hsz:Hid (w.heap.size<=wr.heap.size):=HU.out.size;have hXb:Hid (X.length<=1073741824):=(by show _<=_;omega);clear hr cy hy hXl;go_wp2_with fail;refine HKp.out.mono ?_;rintro e w2⟨fv,Q,rfl,hQF,hQe,gJ⟩;have c8:=ag gJ;have HQF:=ag (hQF.base hsz.out);have HQe:=ag hQe;obtain⟨fa,fc,rfl⟩:=bE hQF.own;clear gJ hQF hQe e0 HKp;have wY:Hid (Up wr (w2.alloc (.cells #[.slice fa Q.length fc] 33))):=c8.out.alloc _;have HFa:Hid (QF w.heap.size (w2.alloc (.cells #[.slice fa Q.length fc] 33)) (.slice fa Q.length fc) Q):=HQF.out.up ((Up.refl _).alloc _);have LP:=ag (HQ.out.up wY.out);have ry:Hid ((w2.alloc (.cells #[.slice fa Q.length fc] 33)).heap[w2.heap.size]?=some (.cells [Value.slice fa Q.length fc].toArray 33 (0,0))):=aD.new w2 [.slice fa Q.length fc] 33;have I4:Hid (w.heap.size<=(w2.alloc (.cells #[.slice fa Q.length fc] 33)).heap.size):=(by have:=aa0 hsz.out c8.out.size;simp[Hid];omega);obtain⟨ua,uc,rfl⟩:=bE HQ.out.own;go_wp2_with(at_builtin;refine bh Dk rfl (.tmp 12) (.tmp 15) rfl w.heap.size _ _ _ (by rfl) LP.out.own w2.heap.size [.slice fa Q.length fc] (by rfl) rfl ry.out (by intro z hz;simp at hz;subst hz;rfl) hXb.out I4.out ?_;intro g5 qD w5 cF gK jH kE;have TK:=ag (LP.out.push (x:=⟨.slice fa Q.length fc,Q⟩) HFa.out gK cF);have mW:Hid (Up w w5):=Fr.up (S:=λ_=>False) ((Fr.fD (HU.out.trans wY.out)).grown gK λz hz=>.inr (cw HQ.out.own hz).1) (λ_ _ h=>h);clear cF gK jH kE);go_roundw;(case rel=>exact⟨k+1,_,_,by go_num,rfl,by omega,mW,TK,HEn.out _ HQe.out⟩);case measure=>simp[intOf];omega};·have i2:¬(k:Int)<(m.length:Int):=(by omega);have HEf:Hid (PG.m X=m.map Vd.cH):=(by have:=HE.out;rw[show k=m.length by omega,AS]at this;exact this);have HIO:=ag (AL _ (PG.m X) (X.map PG.v) wr HQ.out.rd.1 HQ.out.rd.2 (by rw[wg,PG.jr]) (by rw[PG.jr];omega) (λp hp=>by rw[HEf.out]at hp;obtain⟨l,hl,rfl⟩:=As.1 hp;rw[Vd.Ix];exact HZ.out.poly l hl) (λp hp r hr=>by rw[HEf.out]at hp;obtain⟨l,hl,rfl⟩:=As.1 hp;obtain⟨r0,hr0,b,rfl⟩:=Vd.Iv hr;exact DR (HZ.out.ring l hl r0 hr0)));rw[TL,PG.jr]at HIO;have HRf:Hid (PG.m (DT X)=Vd.form m):=(by rw[HDf.out,<-HEf.out,Ox];exact rfl);have hOl:(DT X).length=X.length:=yN X;have HOk:Hid (∀x∈DT X,QF w.heap.size wr x.v x.q):=λx hx=>HQ.out.ok x (Yh hx);have hsz:Hid (w.heap.size<=wr.heap.size):=HU.out.size;obtain⟨ua,uc,rfl⟩:=bE HQ.out.own;generalize DT X=O at*;clear hXl;go_wp2_with fail;refine HIO.out.mono ?_;rintro e w2⟨G,rfl,hG,Yg,gJ⟩;have HN:Hid (NS w.heap.size w2 G O):=⟨aa0 hsz.out hG,Yg,λx hx=>(HOk.out x hx).up gJ⟩;have c8:=ag (HU.out.trans gJ);rw[<-hOl];clear hG Yg gJ HIO;go_wp2;go_ret;exact⟨G,O,by rw[hOl];rfl,HN.out,HRf.out,c8.out⟩
theorem qm(v:Value)(m:aF)(w:World)(g:Nat)(u:Value)(hs:xg w v m g u)(hz:Sz m)(hv:Vd.least m≠0):Calls Tryz.prog 57 #[v] w λe w'=>e=.returned (.tuple #[.pointer none,.int .i64 7])/\Up w w':=by
 have HK:=ag (DA (gx hv) hs hz);obtain⟨rfl,-,-⟩:=hs;clear hz hv;go_enter Tryz.func57,Tryz.ntmps57;go_wp2_with fail;refine HK.out.mono ?_;rintro e w2⟨rfl,hu⟩;replace hu:=ag hu;go_wp2;go_ret2;exact⟨rfl,hu.out⟩
theorem Iz(v:Value)(m:aF)(w:World)(g:Nat)(u:Value)(hs:xg w v m g u)(hz:Sz m)(hf:FZ m)(hv:Vd.least m=0):Calls Tryz.prog 57 #[v] w λe w'=>∃(b G:Nat)(X:List PG),e=.returned (.tuple #[.pointer (some ⟨b,0,none⟩),.int .i64 0])/\w.heap.size<=b/\aD w' b 78 [.slice (some ⟨G,0,none⟩) X.length X.length]/\NS w.heap.size w' G X/\PG.m X=Vd.form m/\Up w w':=by
 have HK:=ag (DA (dj hv) hs hz);have HS:=ag hs;have HF:=ag hf;obtain⟨rfl,-,-⟩:=hs;obtain⟨ua,uc,rfl,-⟩:=HS.out.rd;clear hz hv hf;go_enter Tryz.func57,Tryz.ntmps57;go_wp2_with fail;refine HK.out.mono ?_;rintro e w2⟨rfl,hu⟩;have HU:=ag hu;have c0:=((HS.out.up hu).cell).cell (i:=0) rfl;have HFm:=ag (Yi _ m w2 (HS.out.rd.up hu) HF.out);clear hu HK;go_wp2_with fail;refine HFm.out.mono ?_;rintro e w3⟨G,X,rfl,hN,hE,iU⟩;have dQ:=ag (HU.out.trans iU);have hb:Hid (w.heap.size<=w2.heap.size):=HU.out.size;have HN:Hid (NS w.heap.size (w3.alloc (.cells #[.slice (some ⟨G,0,none⟩) X.length X.length] 78)) G X):=⟨aa0 hb.out hN.low,hN.row.up ((Up.refl _).alloc _),λx hx=>((hN.ok x hx).base hb.out).up ((Up.refl _).alloc _)⟩;have HE:=ag hE;have HR:=ag (aD.new w3 [.slice (some ⟨G,0,none⟩) X.length X.length] 78);have hs3:Hid (w.heap.size<=w3.heap.size):=dQ.out.size;clear hN hE iU HFm c0;go_wp2;go_ret2;exact⟨w3.heap.size,G,X,rfl,hs3.out,HR.out,HN.out,HE.out,dQ.out.alloc _⟩
end Go.Proofs.YtcclepohmhdpbaaGreatDoor
