import Derived.Test.YtcclepohmhdpbabGreatDoorClI
namespace Go.Proofs.YtcclepohmhdpbabGreatDoor
set_option linter.all false
open Go.RowKit Go.Deep
set_option maxHeartbeats 8000000 in
theorem enters_any (v u : Value) (a c : Poly) (w : World) (hv : Rd2 w v a) (hu : Rd2 w u c) (hl : a.length ≤ 1048576) (hl2 : ∀ r ∈ a, r.length ≤ 1048576) (hm : c.length ≤ 1048576) (hm2 : ∀ r ∈ c, r.length ≤ 1048576) (hmf : c.flatten.length ≤ 1048575) (hc : Vd.CdL a) (hd : Vd.CdL c) :
  Calls Tryz.prog 67 #[v, u] w fun e w' => e = .returned (.bool (Vd.enters a c)) ∧ Up w w' := by
 have HV2 := hide hu
 obtain ⟨ao, cap, rfl, hM⟩ := hv
 obtain ⟨ao2, cap2, rfl, -⟩ := hu
 have HM := hide hM
 have HC := hide hc
 have HL := hide hl2
 have HD := hide hd
 have HL2 := hide hm2
 have HMF := hide hmf
 have HT : Hid (Vd.enters a c = a.any fun r => (Vd.segs r).any fun s => (Vd.mids s c).any fun m => !(Vd.free c m)) := rfl
 generalize hh : (fun s => (Vd.mids s c).any fun m => !(Vd.free c m)) = h at *
 have HH : Hid (∀ s, h s = (Vd.mids s c).any fun m => !(Vd.free c m)) := by subst hh; exact fun _ => rfl
 clear hh
 generalize hf : (fun r => (Vd.segs r).any h) = f at *
 have HF : Hid (∀ r, f r = (Vd.segs r).any h) := by subst hf; exact fun _ => rfl
 clear hM hc hd hl2 hm2 hf hmf
 go_enter Tryz.func67, Tryz.ntmps67
 go_wp2
 go_loopw [13] (fun i wr => ∃ k : Nat, i = .int .i64 k ∧ k ≤ a.length ∧ Hid (Up w wr) ∧ Hid ((a.take k).any f = false)) (fun i _ => a.length - (intOf i).toNat)
 case atStart => exact ⟨0, rfl, Nat.zero_le _, Up.refl _, rfl⟩
 case round =>
  obtain ⟨k, rfl, hk, HU, HA⟩ := hrel
  by_cases hlt : k < a.length
  ·obtain ⟨r, hr⟩ := Pl.some_of_lt hlt
   obtain ⟨b, z, rfl, cu, hz⟩ := HM.out k r hr
   have Hz := hide (hz.up HU.out)
   have cu2 := HU.out.cell cu
   have Hr := hide hr
   have HrL := hide (HL.out r (Pl.mem_of_some hr))
   have HC1 : Hid (∀ i s, (Vd.segs r)[i]? = some s → Vd.CdS s) := fun i s hs => Vd.segs_cd (HC.out r (Pl.mem_of_some Hr.out)) (Pl.mem_of_some hs)
   have HX := hide (Pl.any_take_succ f hr)
   have hsl : (Vd.segs r).length ≤ 1048576 := by rw [Vd.segs_len]; have := HrL.out; omega
   clear hr cu hz
   go_wp2_with fail
   refine (segments_any _ r _ Hz.out HrL.out).mono ?_
   rintro e w1 ⟨sv, rfl, hz1, ho⟩
   obtain ⟨sa, sc, es⟩ := own_len ho
   subst es
   have HR1 := hide (own_rdG (f := segC) (fun _ => rfl) ho)
   have HU1 := hide (HU.out.trans hz1)
   have HFr := hide (HF.out r)
   generalize Vd.segs r = L at *
   clear ho hz1 cu2
   go_wp2_with fail
   go_loopw [20] (fun i wr => ∃ q : Nat, i = .int .i64 q ∧ q ≤ L.length ∧ Hid (Up w1 wr) ∧ Hid ((L.take q).any h = false)) (fun i _ => L.length - (intOf i).toNat)
   case atStart => exact ⟨0, rfl, Nat.zero_le _, Up.refl _, rfl⟩
   case round =>
    clear HU
    obtain ⟨q, rfl, hq, HU, HB⟩ := hrel
    by_cases hlq : q < L.length
    ·obtain ⟨⟨⟨ax, ay⟩, ⟨bx, bY⟩⟩, hs⟩ := Pl.some_of_lt hlq
     obtain ⟨g, cap', ev, c0, c1, c2, c3⟩ := (HR1.out.up HU.out).seg hs
     cases ev
     have HCk := hide (HC1.out _ _ hs)
     have Hk := hide hs
     have HY := hide (Pl.any_take_succ h hs)
     simp only at c0 c1 c2 c3
     clear hs
     go_wp2_with fail
     refine (middles_any ((ax, ay), (bx, bY)) _ c _ HCk.out ((HV2.out.up HU1.out).up (HU.out.alloc _)) hm HL2.out (by have := HMF.out; omega) HD.out).mono ?_
     rintro e w2 ⟨mv, rfl, hz2, ho⟩
     obtain ⟨ma, mc, es⟩ := own_len ho
     subst es
     have HR2 := hide (own_rdG (f := spotC) (fun _ => rfl) ho)
     have HU2 : Hid (Up w1 w2) := (HU.out.alloc _).trans hz2
     have HFk := hide (HH.out ((ax, ay), (bx, bY)))
     have HSp : Hid (∀ i m, (Vd.mids ((ax, ay), (bx, bY)) c)[i]? = some m → Vd.Sp m) := fun i m hm => Vd.mids_sp HCk.out HD.out m (Pl.mem_of_some hm)
     have hml : (Vd.mids ((ax, ay), (bx, bY)) c).length ≤ 1048576 := by
      have := Vd.mids_len ((ax, ay), (bx, bY)) c; have := HMF.out; omega
     generalize Vd.mids ((ax, ay), (bx, bY)) c = M at *
     clear ho hz2 c0 c1 c2 c3
     go_wp2_with fail
     go_loopw [28] (fun i wr => ∃ q : Nat, i = .int .i64 q ∧ q ≤ M.length ∧ Hid (Up w2 wr) ∧ Hid ((M.take q).any (fun m => !(Vd.free c m)) = false)) (fun i _ => M.length - (intOf i).toNat)
     case atStart => exact ⟨0, rfl, Nat.zero_le _, Up.refl _, rfl⟩
     case round =>
      obtain ⟨n, rfl, hn, HUn, HBn⟩ := hrel
      by_cases hln : n < M.length
      ·obtain ⟨⟨⟨x, y⟩, t⟩, hs2⟩ := Pl.some_of_lt hln
       obtain ⟨g', cap'', ev, c0, c1, c2⟩ := (HR2.out.up HUn.out).spot hs2
       cases ev
       have HCn := hide (HSp.out _ _ hs2)
       have HZ := hide (Pl.any_take_succ (fun m => !(Vd.free c m)) hs2)
       simp only at c0 c1 c2
       have fin : Hid (Vd.free c ((x, y), t) = false → Vd.enters a c = true) := by
        intro hx
        rw [HT.out]
        exact Pl.any_true_of f Hr.out (by rw [HFr.out]; exact Pl.any_true_of h Hk.out (by rw [HFk.out]; exact Pl.any_true_of _ hs2 (by rw [hx]; rfl)))
       clear hs2
       cases hx : Vd.free c ((x, y), t)
       ·have Hx := hide hx
        have HR := hide (fin.out hx)
        clear hx
        go_wp2_with (go_at_call 100; refine (free_any _ c ((x, y), t) _ ((HV2.out.up (HU1.out.trans (HU2.out.trans HUn.out))).up ((Up.refl _).alloc _)) hm HL2.out HD.out HCn.out).mono ?_; rintro e w3 ⟨rfl, hz3⟩; rw [Hx.out]; replace hz3 := hide hz3)
        go_ret
        exact ⟨ret_b HR.out.symm, ((HU1.out.trans HU2.out).trans (HUn.out.alloc _)).trans hz3.out⟩
       ·have Hx := hide hx
        clear hx
        go_wp2_with (go_at_call 100; refine (free_any _ c ((x, y), t) _ ((HV2.out.up (HU1.out.trans (HU2.out.trans HUn.out))).up ((Up.refl _).alloc _)) hm HL2.out HD.out HCn.out).mono ?_; rintro e w3 ⟨rfl, hz3⟩; rw [Hx.out]; replace hz3 := hide hz3)
        go_roundw
        case rel => exact ⟨n + 1, by go_num, by omega, (HUn.out.alloc _).trans hz3.out, by rw [HZ.out, HBn.out, Hx.out]; exact rfl⟩
        case measure => simp [intOf]; omega
      ·have hn2 : n = M.length := by omega
       subst hn2
       rw [List.take_length] at HBn
       go_wp2
       go_roundw
       case rel => exact ⟨q + 1, by go_num, by omega, HU2.out.trans HUn.out, by rw [HY.out, HB.out, HFk.out, HBn.out]; exact rfl⟩
       case measure => simp [intOf]; omega
    ·have hq2 : q = L.length := by omega
     subst hq2
     rw [List.take_length] at HB
     go_wp2
     go_roundw
     case rel => exact ⟨k + 1, by go_num, by omega, HU1.out.trans HU.out, by rw [HX.out, HA.out, HFr.out, HB.out]; exact rfl⟩
     case measure => simp [intOf]; omega
  ·have hk2 : k = a.length := by omega
   subst hk2
   rw [List.take_length] at HA
   have HR : Hid (Vd.enters a c = false) := by rw [HT.out]; exact HA.out
   go_wp2
   go_ret
   exact ⟨ret_b HR.out.symm, HU.out⟩
structure Sz (m : Mult) : Prop where
 len : m.length ≤ 1048576
 poly : ∀ l ∈ m, l.length ≤ 1048576
 ring : ∀ l ∈ m, ∀ r ∈ l, r.length ≤ 1048575
 flat : ∀ l ∈ m, l.flatten.length ≤ 1048575
 cd : ∀ l ∈ m, Vd.CdL l
def ovG (m : Mult) (j i : Nat) : Bool := Vd.boundsX (Vd.pAt m i) (Vd.pAt m j) || Vd.enters (Vd.pAt m i) (Vd.pAt m j) || Vd.enters (Vd.pAt m j) (Vd.pAt m i)
def ovF (m : Mult) (j : Nat) : Bool := Vd.anyI j (ovG m j)
theorem overlap_F (m : Mult) : Vd.overlap m = Vd.anyI m.length (ovF m) := rfl
theorem pAt_some {m : Mult} {i : Nat} {l : Poly} (h : m[i]? = some l) : Vd.pAt m i = l := by unfold Vd.pAt; rw [List.getD_eq_getElem?_getD, h]; rfl
set_option maxHeartbeats 8000000 in
theorem overlap_any (v : Value) (m : Mult) (w : World) (hv : Rd3 w v m) (hz : Sz m) :
  Calls Tryz.prog 47 #[v] w fun e w' => e = .returned (.bool (Vd.overlap m)) ∧ Up w w' := by
 obtain ⟨ao, cap, rfl, hM⟩ := hv
 have HM := hide hM
 have HZ := hide hz
 have HS := hide (overlap_F m)
 have hl := hz.len
 clear hM hz
 go_enter Tryz.func47, Tryz.ntmps47
 go_wp2
 go_loopw [8] (fun i wr => ∃ k : Nat, i = .int .i64 k ∧ k ≤ m.length ∧ Hid (Up w wr) ∧ Hid (Vd.anyI k (ovF m) = false)) (fun i _ => m.length - (intOf i).toNat)
 case atStart => exact ⟨0, rfl, Nat.zero_le _, Up.refl _, rfl⟩
 case round =>
  obtain ⟨k, rfl, hk, HU, HA⟩ := hrel
  by_cases hlt : k < m.length
  ·obtain ⟨r, hr⟩ := Pl.some_of_lt hlt
   obtain ⟨b, z, rfl, cu, hzr⟩ := HM.out k r hr
   obtain ⟨za, zc, rfl, -⟩ := id hzr
   have Hz := hide hzr
   have cu2 := HU.out.cell cu
   have Hr := hide hr
   have Hrm := hide (Pl.mem_of_some hr)
   clear hr cu hzr
   go_wp2
   clear cu2
   go_loopw [5] (fun i wr => ∃ q : Nat, i = .int .i64 q ∧ q ≤ k ∧ Hid (Up w wr) ∧ Hid (Vd.anyI q (ovG m k) = false)) (fun i _ => k - (intOf i).toNat)
   case atStart => exact ⟨0, rfl, Nat.zero_le _, HU, rfl⟩
   case round =>
    clear HU
    obtain ⟨q, rfl, hq, HU, HB⟩ := hrel
    by_cases hlq : q < k
    ·obtain ⟨o, ho⟩ := Pl.some_of_lt (show q < m.length by omega)
     obtain ⟨b', z', e', cu, hzo⟩ := HM.out q o ho
     cases e'
     have Hz2 := hide (hzo.up HU.out)
     have HzU := hide (Hz.out.up HU.out)
     have cu2 := HU.out.cell cu
     have Hom := hide (Pl.mem_of_some ho)
     have HG : Hid (ovG m k q = (Vd.boundsX o r || Vd.enters o r || Vd.enters r o)) := by unfold ovG; rw [pAt_some ho, pAt_some Hr.out]; exact rfl
     have i1 : (q : Int) < (m.length : Int) := by omega
     have fin : Hid (ovG m k q = true → Vd.overlap m = true) := by
      intro h
      rw [HS.out]
      exact Vd.anyI_true (i := k) hlt (Vd.anyI_true (f := ovG m k) (i := q) hlq h)
     have R1 := hide (fun l (h : l ∈ m) r (hr : r ∈ l) => (show r.length ≤ 1048576 by have := HZ.out.ring l h r hr; omega))
     clear ho cu hzo
     go_wp2_with fail
     refine (bounds_any _ _ o r _ Hz2.out HzU.out (HZ.out.poly _ Hom.out) (R1.out _ Hom.out) (HZ.out.poly _ Hrm.out) (R1.out _ Hrm.out) (HZ.out.cd _ Hom.out) (HZ.out.cd _ Hrm.out)).mono ?_
     rintro e w2 ⟨rfl, hz2⟩
     have HU2 := hide (HU.out.trans hz2)
     have cu3 := hz2.cell cu2
     have Y2 := hide (Hz2.out.up hz2)
     have X2 := hide (HzU.out.up hz2)
     clear hz2 cu2
     cases hx : Vd.boundsX o r
     ·rw [hx] at HG
      clear hx
      go_wp2_with fail
      refine (enters_any _ _ o r _ Y2.out X2.out (HZ.out.poly _ Hom.out) (R1.out _ Hom.out) (HZ.out.poly _ Hrm.out) (R1.out _ Hrm.out) (HZ.out.flat _ Hrm.out) (HZ.out.cd _ Hom.out) (HZ.out.cd _ Hrm.out)).mono ?_
      rintro e w3 ⟨rfl, hz3⟩
      have HU3 := hide (HU2.out.trans hz3)
      have cu4 := hz3.cell cu3
      have Y3 := hide (Y2.out.up hz3)
      have X3 := hide (X2.out.up hz3)
      clear hz3 cu3
      cases hx : Vd.enters o r
      ·rw [hx] at HG
       clear hx
       go_wp2_with fail
       refine (enters_any _ _ r o _ X3.out Y3.out (HZ.out.poly _ Hrm.out) (R1.out _ Hrm.out) (HZ.out.poly _ Hom.out) (R1.out _ Hom.out) (HZ.out.flat _ Hom.out) (HZ.out.cd _ Hrm.out) (HZ.out.cd _ Hom.out)).mono ?_
       rintro e w4 ⟨rfl, hz4⟩
       have HU4 := hide (HU3.out.trans hz4)
       clear hz4 cu4
       cases hx : Vd.enters r o
       ·rw [hx] at HG
        have HGf : Hid (ovG m k q = false) := HG.out
        clear hx
        go_wp2
        go_roundw
        case rel => exact ⟨q + 1, by go_num, by omega, HU4, anyI_step HB.out HGf.out⟩
        case measure => simp [intOf]; omega
       ·rw [hx] at HG
        have HR := hide (fin.out HG.out)
        clear hx
        go_wp2
        go_ret
        exact ⟨ret_b HR.out.symm, HU4.out⟩
      ·rw [hx] at HG
       have HR := hide (fin.out (by rw [HG.out]; rfl))
       clear hx
       go_wp2
       go_ret
       exact ⟨ret_b HR.out.symm, HU3.out⟩
     ·rw [hx] at HG
      have HR := hide (fin.out (by rw [HG.out]; rfl))
      clear hx
      go_wp2
      go_ret
      exact ⟨ret_b HR.out.symm, HU2.out⟩
    ·have hq2 : q = k := by omega
     subst hq2
     go_wp2
     go_roundw
     case rel => exact ⟨q + 1, by go_num, by omega, HU, anyI_step HA.out HB.out⟩
     case measure => simp [intOf]; omega
  ·have hk2 : k = m.length := by omega
   subst hk2
   have HR : Hid (Vd.overlap m = false) := by rw [HS.out]; exact HA.out
   go_wp2
   go_ret
   exact ⟨ret_b HR.out.symm, HU.out⟩
end Go.Proofs.YtcclepohmhdpbabGreatDoor
