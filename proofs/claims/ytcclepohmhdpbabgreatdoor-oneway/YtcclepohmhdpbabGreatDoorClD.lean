import Derived.Test.YtcclepohmhdpbabGreatDoorClC
namespace Go.Proofs.YtcclepohmhdpbabGreatDoor
set_option linter.all false
open Go.RowKit Go.Deep
theorem rd2_one {w : World} {g : Nat} {t : TypeId} {v : Value} {o : Ring} (h : VRow w g t [v]) (hv : Rd1 w v o) : Rd2 w (.slice (some ⟨g, 0, none⟩) 1 1) [o] := by
 refine ⟨_, _, rfl, fun i r hr => ?_⟩
 cases i with
 | zero => simp at hr; subst hr; exact ⟨g, v, rfl, h.cell (i := 0) rfl, hv⟩
 | succ i => simp at hr
set_option maxHeartbeats 8000000 in
theorem lies_any (v u : Value) (r o : Ring) (K : Int) (w : World) (hv : Rd1 w v r) (hu : Rd1 w u o) (hr : r.length ≤ 1048576) (hr2 : o.length ≤ 1048575) (hc : Vd.CdR r) (hc2 : Vd.CdR o) :
  Calls Tryz.prog 95 #[v, u, .int .i64 K] w fun e w' => e = .returned (.bool (Vd.lies r o K)) ∧ Up w w' := by
 have HV := hide hv
 have HV2 := hide hu
 have HT : Hid (Vd.lies r o K = !((Vd.segs r).any fun s => (Vd.mids s [o]).any fun m => decide (Vd.place o m ≠ K))) := rfl
 have hsl : (Vd.segs r).length ≤ 1048576 := by rw [Vd.segs_len]; omega
 have HC1 : Hid (∀ i s, (Vd.segs r)[i]? = some s → Vd.CdS s) := fun i s hs => Vd.segs_cd hc (Pl.mem_of_some hs)
 have HC2 := hide hc2
 have HCL : Hid (Vd.CdL [o]) := fun x hx => by rw [List.mem_singleton.1 hx]; exact hc2
 obtain ⟨ao, cap, rfl, -⟩ := HV.out
 obtain ⟨ao2, cap2, rfl, -⟩ := HV2.out
 clear hv hu hc hc2
 go_enter Tryz.func95, Tryz.ntmps95
 go_wp2_with fail
 refine (segments_any _ r _ HV.out hr).mono ?_
 rintro e w1 ⟨sv, rfl, u1, ho⟩
 obtain ⟨sa, sc, es⟩ := own_len ho
 subst es
 have HR1 := hide (own_rdG (f := segC) (fun _ => rfl) ho)
 have HU1 := hide u1
 generalize Vd.segs r = L at *
 generalize hf : (fun s => (Vd.mids s [o]).any fun m => decide (Vd.place o m ≠ K)) = f at *
 have HF : Hid (∀ s, f s = (Vd.mids s [o]).any fun m => decide (Vd.place o m ≠ K)) := by subst hf; exact fun _ => rfl
 clear ho u1 hf
 go_wp2_with fail
 go_loopw [14] (fun i wr => ∃ k : Nat, i = .int .i64 k ∧ k ≤ L.length ∧ Hid (Up w1 wr) ∧ Hid ((L.take k).any f = false)) (fun i _ => L.length - (intOf i).toNat)
 case atStart => exact ⟨0, rfl, Nat.zero_le _, Up.refl _, rfl⟩
 case round =>
  obtain ⟨k, rfl, hk, HU, HA⟩ := hrel
  by_cases hlt : k < L.length
  ·obtain ⟨⟨⟨ax, ay⟩, ⟨bx, bY⟩⟩, hs⟩ := Pl.some_of_lt hlt
   obtain ⟨g, cap', ev, c0, c1, c2, c3⟩ := (HR1.out.up HU.out).seg hs
   cases ev
   have HCk := hide (HC1.out _ _ hs)
   have Hk := hide hs
   have HX := hide (Pl.any_take_succ f hs)
   simp only at c0 c1 c2 c3
   clear hs
   go_wp2_with fail
   have HUa : Hid (Up w1 ((wr.alloc (.cells #[.int .i64 ax, .int .i64 ay, .int .i64 bx, .int .i64 bY] 98)).alloc (.cells #[.slice ao2 o.length cap2] 46))) := (HU.out.alloc _).alloc _
   have RO : Hid (Rd2 ((wr.alloc (.cells #[.int .i64 ax, .int .i64 ay, .int .i64 bx, .int .i64 bY] 98)).alloc (.cells #[.slice ao2 o.length cap2] 46)) (.slice (some ⟨wr.heap.size + 1, 0, none⟩) 1 1) [o]) := by
    have h1 := new_row (w := wr.alloc (.cells #[.int .i64 ax, .int .i64 ay, .int .i64 bx, .int .i64 bY] 98)) (o := .cells #[.slice ao2 o.length cap2] 46) (vs := [.slice ao2 o.length cap2]) rfl
    rw [show (wr.alloc (.cells #[.int .i64 ax, .int .i64 ay, .int .i64 bx, .int .i64 bY] 98)).heap.size = wr.heap.size + 1 by simp] at h1
    exact rd2_one h1 ((HV2.out.up HU1.out).up HUa.out)
   refine (middles_any ((ax, ay), (bx, bY)) _ [o] _ HCk.out RO.out (by simp) (by intro x hx; rw [List.mem_singleton.1 hx]; omega) (by simp; omega) HCL.out).mono ?_
   rintro e w2 ⟨mv, rfl, u2, ho⟩
   obtain ⟨ma, mc, es⟩ := own_len ho
   subst es
   have HR2 := hide (own_rdG (f := spotC) (fun _ => rfl) ho)
   have HU2 := hide (HUa.out.trans u2)
   have HFk := hide (HF.out ((ax, ay), (bx, bY)))
   have HSp : Hid (∀ i m, (Vd.mids ((ax, ay), (bx, bY)) [o])[i]? = some m → Vd.Sp m) := fun i m hm => Vd.mids_sp HCk.out HCL.out m (Pl.mem_of_some hm)
   have hml : (Vd.mids ((ax, ay), (bx, bY)) [o]).length ≤ 1048576 := by
    have := Vd.mids_len ((ax, ay), (bx, bY)) [o]; simp at this; omega
   generalize Vd.mids ((ax, ay), (bx, bY)) [o] = M at *
   clear ho u2 c0 c1 c2 c3 HUa
   go_wp2_with fail
   go_loopw [23] (fun i wq => ∃ q : Nat, i = .int .i64 q ∧ q ≤ M.length ∧ Hid (Up w2 wq) ∧ Hid ((M.take q).any (fun m => decide (Vd.place o m ≠ K)) = false)) (fun i _ => M.length - (intOf i).toNat)
   case atStart => exact ⟨0, rfl, Nat.zero_le _, Up.refl _, rfl⟩
   case round =>
    obtain ⟨q, rfl, hq, HUq, HB⟩ := hrel
    by_cases hlq : q < M.length
    ·obtain ⟨⟨⟨x, y⟩, t⟩, hs2⟩ := Pl.some_of_lt hlq
     obtain ⟨g', cap'', ev, c0, c1, c2⟩ := (HR2.out.up HUq.out).spot hs2
     cases ev
     have HCq := hide (HSp.out _ _ hs2)
     have HY := hide (Pl.any_take_succ (fun m => decide (Vd.place o m ≠ K)) hs2)
     simp only at c0 c1 c2
     have fin : Hid (Vd.place o ((x, y), t) ≠ K → Vd.lies r o K = false) := by
      intro h
      rw [HT.out, Pl.any_true_of f Hk.out (by rw [HFk.out]; exact Pl.any_true_of _ hs2 (decide_eq_true h))]; rfl
     clear hs2
     go_wp2_with fail
     refine (place_any _ o ((x, y), t) _ (((HV2.out.up HU1.out).up (HU2.out.trans HUq.out)).up ((Up.refl _).alloc _)) (by omega) HC2.out HCq.out).mono ?_
     rintro e w3 ⟨rfl, u3⟩
     have HU3 : Hid (Up w2 w3) := (HUq.out.alloc _).trans u3
     clear u3 c0 c1 c2
     by_cases hP : Vd.place o ((x, y), t) = K
     ·have HYf : Hid ((M.take (q + 1)).any (fun m => decide (Vd.place o m ≠ K)) = false) := by rw [HY.out, HB.out]; simp [hP, Hid]
      rw [hP]
      clear hP
      go_wp2
      go_roundw
      case rel => exact ⟨q + 1, by go_num, by omega, HU3, HYf⟩
      case measure => simp [intOf]; omega
     ·have HGf := hide (fin.out hP)
      have hP' := beq_eq_false_iff_ne.2 hP
      go_wp2
      go_ret
      exact ⟨ret_b HGf.out.symm, (HU1.out.trans HU2.out).trans HU3.out⟩
    ·have hq2 : q = M.length := by omega
     subst hq2
     rw [List.take_length] at HB
     go_wp2
     go_roundw
     case rel => exact ⟨k + 1, by go_num, by omega, HU2.out.trans HUq.out, by rw [HX.out, HA.out, HFk.out, HB.out]; exact rfl⟩
     case measure => simp [intOf]; omega
  ·have hk2 : k = L.length := by omega
   subst hk2
   rw [List.take_length] at HA
   have HRt : Hid (Vd.lies r o K = true) := by rw [HT.out, HA.out]; exact rfl
   go_wp2
   go_ret
   exact ⟨ret_b HRt.out.symm, HU1.out.trans HU.out⟩
def nsG (l : Poly) (i j : Nat) : Bool := decide (i ≠ j) && !(Vd.lies (Vd.rAt l i) (Vd.rAt l j) (Vd.nestW j))
def nsF (l : Poly) (i : Nat) : Bool := decide (1 ≤ i) && Vd.anyI l.length (nsG l i)
theorem nested_F (l : Poly) : Vd.nested l = !(Vd.anyI l.length (nsF l)) := rfl
theorem nsG_same (l : Poly) (i : Nat) : nsG l i i = false := by unfold nsG; simp
theorem nsG_at {l : Poly} {i j : Nat} (h : i ≠ j) {r o : Ring} (hr : l[i]? = some r) (ho : l[j]? = some o) : nsG l i j = !(Vd.lies r o (Vd.nestW j)) := by unfold nsG; rw [decide_eq_true h, rAt_some hr, rAt_some ho]; rfl
theorem nestW_cases (j : Nat) : (j = 0 ∧ Vd.nestW j = 2) ∨ (j ≠ 0 ∧ Vd.nestW j = 0) := by unfold Vd.nestW; by_cases h : j = 0 <;> simp [h]
set_option maxHeartbeats 8000000 in
theorem nested_any (v : Value) (l : Poly) (w : World) (hv : Rd2 w v l) (hl : l.length ≤ 1048576) (hl2 : ∀ r ∈ l, r.length ≤ 1048575) (hc : Vd.CdL l) :
  Calls Tryz.prog 64 #[v] w fun e w' => e = .returned (.bool (Vd.nested l)) ∧ Up w w' := by
 obtain ⟨ao, cap, rfl, hm⟩ := hv
 have HM := hide hm
 have HC := hide hc
 have HL := hide hl2
 have HS := hide (nested_F l)
 clear hm hc hl2
 go_enter Tryz.func64, Tryz.ntmps64
 go_wp2
 go_loopw [3] (fun i wr => ∃ k : Nat, i = .int .i64 ((k : Int) + 1) ∧ k ≤ l.length ∧ Hid (Up w wr) ∧ Hid (Vd.anyI (k + 1) (nsF l) = false)) (fun i _ => l.length + 1 - (intOf i).toNat)
 case atStart => exact ⟨0, rfl, Nat.zero_le _, Up.refl _, rfl⟩
 case round =>
  obtain ⟨k, rfl, hk, HU, HA⟩ := hrel
  by_cases hlt : k + 1 < l.length
  ·obtain ⟨r, hr⟩ := Pl.some_of_lt hlt
   obtain ⟨b, u, rfl, cu, hu⟩ := HM.out (k + 1) r hr
   have Hu := hide hu
   have Hr := hide hr
   have HrL := hide (HL.out r (Pl.mem_of_some hr))
   have HrC := hide (HC.out r (Pl.mem_of_some hr))
   have Hcu := hide cu
   have i2 : (k : Int) + 1 < (l.length : Int) := by omega
   have i3 : (0 : Int) ≤ (k : Int) + 1 := by omega
   clear hr cu hu
   go_wp2
   go_loopw [15] (fun i wr => ∃ q : Nat, i = .int .i64 q ∧ q ≤ l.length ∧ Hid (Up w wr) ∧ Hid (Vd.anyI q (nsG l (k + 1)) = false)) (fun i _ => l.length - (intOf i).toNat)
   case atStart => exact ⟨0, rfl, Nat.zero_le _, HU, rfl⟩
   case round =>
    clear HU
    obtain ⟨q, rfl, hq, HU, HB⟩ := hrel
    by_cases hlq : q < l.length
    ·obtain ⟨r2, hr2⟩ := Pl.some_of_lt hlq
     obtain ⟨b', y2, e', cu, hy2⟩ := HM.out q r2 hr2
     cases e'
     have Hu2 := hide (hy2.up HU.out)
     have HuU := hide (Hu.out.up HU.out)
     have cu2 := HU.out.cell cu
     have cu3 := HU.out.cell Hcu.out
     have Hr2L := hide (HL.out r2 (Pl.mem_of_some hr2))
     have Hr2C := hide (HC.out r2 (Pl.mem_of_some hr2))
     have i1 : (q : Int) < (l.length : Int) := by omega
     have hnw := nestW_cases q
     by_cases hqk : k + 1 = q
     ·subst hqk
      have HGf : Hid (nsG l (k + 1) (k + 1) = false) := nsG_same _ _
      have j2 : ((k : Int) + 1 == 0) = false := beq_eq_false_iff_ne.2 (by omega)
      clear hr2 cu hy2 hnw i1
      go_wp2
      go_roundw
      case rel => exact ⟨k + 1 + 1, by go_num, by omega, HU, anyI_step HB.out HGf.out⟩
      case measure => simp [intOf]; omega
     ·have HG := hide (nsG_at hqk Hr.out hr2)
      have j1 : ((k : Int) + 1 != (q : Int)) = true := bne_iff_ne.2 (by omega)
      clear hqk hr2 cu hy2
      obtain ⟨bq, hb⟩ : ∃ bq, ((q : Int) == 0) = bq := ⟨_, rfl⟩
      go_upto_if 21 with fail
      have Hb := hide hb
      clear hb
      rcases hnw with ⟨hq0, hw⟩ | ⟨hq0, hw⟩
      ·obtain rfl : bq = true := by rw [← Hb.out]; exact beq_iff_eq.2 (by omega)
       rw [hw] at HG
       clear hq0 hw
       cases hx : Vd.lies r r2 2
       ·have HGt : Hid (Vd.nested l = false) := by
         rw [HS.out, Vd.anyI_true (i := k + 1) hlt (show nsF l (k + 1) = true by unfold nsF; rw [decide_eq_true (by omega), Bool.true_and]; exact Vd.anyI_true (i := q) hlq (by rw [HG.out, hx]; rfl))]; exact rfl
        have Hx := hide hx
        clear hx
        go_wp2_with (go_at_call 95; refine (lies_any _ _ r r2 2 _ HuU.out Hu2.out (by have := HrL.out; omega) Hr2L.out HrC.out Hr2C.out).mono ?_; rintro e w2 ⟨rfl, hz2⟩; rw [Hx.out]; replace hz2 := hide hz2)
        go_ret
        exact ⟨ret_b HGt.out.symm, HU.out.trans hz2.out⟩
       ·have HGf : Hid (nsG l (k + 1) q = false) := by rw [HG.out, hx]; exact rfl
        have Hx := hide hx
        clear hx
        go_wp2_with (go_at_call 95; refine (lies_any _ _ r r2 2 _ HuU.out Hu2.out (by have := HrL.out; omega) Hr2L.out HrC.out Hr2C.out).mono ?_; rintro e w2 ⟨rfl, hz2⟩; rw [Hx.out]; replace hz2 := hide hz2)
        go_roundw
        case rel => exact ⟨q + 1, by go_num, by omega, HU.out.trans hz2.out, anyI_step HB.out HGf.out⟩
        case measure => simp [intOf]; omega
      ·obtain rfl : bq = false := by rw [← Hb.out]; exact beq_eq_false_iff_ne.2 (by omega)
       rw [hw] at HG
       clear hq0 hw
       cases hx : Vd.lies r r2 0
       ·have HGt : Hid (Vd.nested l = false) := by
         rw [HS.out, Vd.anyI_true (i := k + 1) hlt (show nsF l (k + 1) = true by unfold nsF; rw [decide_eq_true (by omega), Bool.true_and]; exact Vd.anyI_true (i := q) hlq (by rw [HG.out, hx]; rfl))]; exact rfl
        have Hx := hide hx
        clear hx
        go_wp2_with (go_at_call 95; refine (lies_any _ _ r r2 0 _ HuU.out Hu2.out (by have := HrL.out; omega) Hr2L.out HrC.out Hr2C.out).mono ?_; rintro e w2 ⟨rfl, hz2⟩; rw [Hx.out]; replace hz2 := hide hz2)
        go_ret
        exact ⟨ret_b HGt.out.symm, HU.out.trans hz2.out⟩
       ·have HGf : Hid (nsG l (k + 1) q = false) := by rw [HG.out, hx]; exact rfl
        have Hx := hide hx
        clear hx
        go_wp2_with (go_at_call 95; refine (lies_any _ _ r r2 0 _ HuU.out Hu2.out (by have := HrL.out; omega) Hr2L.out HrC.out Hr2C.out).mono ?_; rintro e w2 ⟨rfl, hz2⟩; rw [Hx.out]; replace hz2 := hide hz2)
        go_roundw
        case rel => exact ⟨q + 1, by go_num, by omega, HU.out.trans hz2.out, anyI_step HB.out HGf.out⟩
        case measure => simp [intOf]; omega
    ·have hq2 : q = l.length := by omega
     subst hq2
     have HFf : Hid (nsF l (k + 1) = false) := by unfold nsF; rw [HB.out]; simp [Hid]
     go_wp2
     go_roundw
     case rel => exact ⟨k + 1, by go_num, by omega, HU, anyI_step HA.out HFf.out⟩
     case measure => simp [intOf]; omega
  ·have HRt : Hid (Vd.nested l = true) := by
    rw [HS.out]
    have h2 : Vd.anyI l.length (nsF l) = false := by
     by_cases e : k + 1 = l.length
     ·rw [← e]; exact HA.out
     ·by_cases h0 : l.length = 0
      ·rw [h0]; rfl
      ·have e2 : k = l.length := by omega
       have := HA.out
       rw [Vd.anyI_succ, Bool.or_eq_false_iff, e2] at this
       exact this.1
    rw [h2]; exact rfl
   go_wp2
   go_ret
   exact ⟨ret_b HRt.out.symm, HU.out⟩
end Go.Proofs.YtcclepohmhdpbabGreatDoor
