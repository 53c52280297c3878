import Derived.Test.YtcclepohmhdpbaaGreatDoorClB
import Derived.Test.YtcclepohmhdpbaaGreatDoorVdN
/- THE WALKS: package clauses: Rings. -/
namespace Go.Proofs.YtcclepohmhdpbaaGreatDoor
set_option linter.all false
open Go.RowKit Go.Deep

theorem cross_two {s t : Vd.Seg} (h : Vd.meetS s t = 2) : Vd.crossS s t = true := by unfold Vd.crossS; rw [h]; rfl
theorem cross_three {s t : Vd.Seg} (h : Vd.meetS s t = 3) : Vd.crossS s t = true := by unfold Vd.crossS; rw [h]; rfl
theorem cross_no {s t : Vd.Seg} (h2 : Vd.meetS s t ≠ 2) (h3 : Vd.meetS s t ≠ 3) : Vd.crossS s t = false := by unfold Vd.crossS; simp [h2, h3]

set_option maxHeartbeats 8000000 in
theorem cross_any (v u : Value) (r o : Ring) (w : World) (hv : Rd1 w v r) (hu : Rd1 w u o) (hr : r.length ≤ 1048576) (hr2 : o.length ≤ 1048576) (hc : Vd.CdR r) (hc2 : Vd.CdR o) :
    Calls Tryz.prog 156 #[v, u] w fun e w' => e = .returned (.bool (Vd.cross r o)) ∧ Up w w' := by
  have HV := hide hv
  have HV2 := hide hu
  have HT : Hid (Vd.cross r o = (Vd.segs r).any fun s => (Vd.segs o).any fun t => Vd.crossS s t) := rfl
  have hsl : (Vd.segs r).length ≤ 1048576 := by rw [Vd.segs_len]; omega
  have hsl2 : (Vd.segs o).length ≤ 1048576 := by rw [Vd.segs_len]; omega
  have HC1 : Hid (∀ i s, (Vd.segs r)[i]? = some s → Vd.CdS s) := fun i s hs => Vd.segs_cd hc (Pl.mem_of_some hs)
  have HC2 : Hid (∀ i s, (Vd.segs o)[i]? = some s → Vd.CdS s) := fun i s hs => Vd.segs_cd hc2 (Pl.mem_of_some hs)
  obtain ⟨ao, cap, rfl, -⟩ := HV.out
  obtain ⟨ao2, cap2, rfl, -⟩ := HV2.out
  clear hv hu hc hc2
  go_enter Tryz.func156, Tryz.ntmps156
  go_wp2_with fail
  refine (segments_any _ o _ HV2.out hr2).mono ?_
  rintro e w1 ⟨sv, rfl, u1, ho⟩
  obtain ⟨sa, sc, es⟩ := own_len ho
  subst es
  have HR2 := hide (own_rdG (f := segC) (fun _ => rfl) ho)
  have HU1 := hide u1
  clear ho u1
  go_wp2_with fail
  refine (segments_any _ r _ (HV.out.up HU1.out) hr).mono ?_
  rintro e w2 ⟨sv, rfl, u2, ho⟩
  obtain ⟨sa2, sc2, es⟩ := own_len ho
  subst es
  have HR1 := hide (own_rdG (f := segC) (fun _ => rfl) ho)
  have HR2 := hide (HR2.out.up u2)
  have HU2 := hide (HU1.out.trans u2)
  generalize Vd.segs r = L at *
  generalize Vd.segs o = M at *
  generalize hf : (fun s => M.any fun t => Vd.crossS s t) = f at *
  have HF : Hid (∀ s, f s = M.any fun t => Vd.crossS s t) := by subst hf; exact fun _ => rfl
  clear ho u2 hf HU1
  go_wp2_with fail
  go_loopw [16] (fun i wr => ∃ k : Nat, i = .int .i64 k ∧ k ≤ L.length ∧ Hid (Up w2 wr) ∧ Hid ((L.take k).any f = false)) (fun i _ => L.length - (intOf i).toNat)
  case atStart => exact ⟨0, rfl, Nat.zero_le _, Up.refl _, rfl⟩
  case round =>
    obtain ⟨k, rfl, hk, HU, HA⟩ := hrel
    by_cases hlt : k < L.length
    · obtain ⟨⟨⟨ax, ay⟩, ⟨bx, bY⟩⟩, hs⟩ := Pl.some_of_lt hlt
      obtain ⟨g, cap', ev, c0, c1, c2, c3⟩ := (HR1.out.up HU.out).seg hs
      cases ev
      have HCk := hide (HC1.out _ _ hs)
      have Hk := hide hs
      have HX := hide (Pl.any_take_succ f hs)
      simp only at c0 c1 c2 c3
      clear hs
      go_wp2_with fail
      have RT := hide (new_row (w := wr) (o := .cells #[.int .i64 ax, .int .i64 ay, .int .i64 bx, .int .i64 bY] 191) (vs := [.int .i64 ax, .int .i64 ay, .int .i64 bx, .int .i64 bY]) rfl)
      have HUa : Hid (Up w2 (wr.alloc (.cells #[.int .i64 ax, .int .i64 ay, .int .i64 bx, .int .i64 bY] 191))) := HU.out.alloc _
      generalize hB : wr.heap.size = B at *
      clear hB c0 c1 c2 c3
      go_loopw [22] (fun i wq => ∃ q : Nat, i = .int .i64 q ∧ q ≤ M.length ∧ Hid (Up w2 wq) ∧ Hid (VRow wq B 191 [.int .i64 ax, .int .i64 ay, .int .i64 bx, .int .i64 bY]) ∧ Hid ((M.take q).any (fun t => Vd.crossS ((ax, ay), (bx, bY)) t) = false)) (fun i _ => M.length - (intOf i).toNat)
      case atStart => exact ⟨0, rfl, Nat.zero_le _, HUa, RT, rfl⟩
      case round =>
        clear HUa RT
        obtain ⟨q, rfl, hq, HUq, RT, HB⟩ := hrel
        by_cases hlq : q < M.length
        · obtain ⟨⟨⟨cx, cy⟩, ⟨dx, dy⟩⟩, hs2⟩ := Pl.some_of_lt hlq
          obtain ⟨g', cap'', ev, c0, c1, c2, c3⟩ := (HR2.out.up HUq.out).seg hs2
          cases ev
          have HCq := hide (HC2.out _ _ hs2)
          have HY := hide (Pl.any_take_succ (fun t => Vd.crossS ((ax, ay), (bx, bY)) t) hs2)
          simp only at c0 c1 c2 c3
          have t0 := fun o => (RT.out.alloc o).cell (i := 0) rfl
          have t1 := fun o => (RT.out.alloc o).cell (i := 1) rfl
          have t2 := fun o => (RT.out.alloc o).cell (i := 2) rfl
          have t3 := fun o => (RT.out.alloc o).cell (i := 3) rfl
          have fin : Hid (Vd.crossS ((ax, ay), (bx, bY)) ((cx, cy), (dx, dy)) = true → Vd.cross r o = true) := by
            intro h
            rw [HT.out]
            exact Pl.any_true_of f Hk.out (by rw [HF.out]; exact Pl.any_true_of _ hs2 h)
          clear hs2
          go_wp2_with fail
          refine (meet_any ((ax, ay), (bx, bY)) ((cx, cy), (dx, dy)) HCk.out HCq.out _).mono ?_
          rintro e w3 ⟨rfl, u3⟩
          have HU3 : Hid (Up w2 w3) := (HUq.out.alloc _).trans u3
          have RT3 := hide ((RT.out.alloc _).up u3)
          clear u3 c0 c1 c2 c3 t0 t1 t2 t3
          by_cases h2 : Vd.meetS ((ax, ay), (bx, bY)) ((cx, cy), (dx, dy)) = 2
          · have HGt := hide (fin.out (cross_two h2))
            rw [h2]
            go_wp2
            go_ret
            exact ⟨ret_b HGt.out.symm, HU2.out.trans HU3.out⟩
          · by_cases h3 : Vd.meetS ((ax, ay), (bx, bY)) ((cx, cy), (dx, dy)) = 3
            · have HGt := hide (fin.out (cross_three h3))
              rw [h3]
              go_wp2
              go_ret
              exact ⟨ret_b HGt.out.symm, HU2.out.trans HU3.out⟩
            · have HGf := hide (cross_no h2 h3)
              generalize Vd.meetS ((ax, ay), (bx, bY)) ((cx, cy), (dx, dy)) = Mt at *
              have h2' := beq_eq_false_iff_ne.2 h2
              have h3' := beq_eq_false_iff_ne.2 h3
              go_wp2
              go_roundw
              case rel => exact ⟨q + 1, by go_num, by omega, HU3, RT3, by rw [HY.out, HB.out, HGf.out]; exact rfl⟩
              case measure => simp [intOf]; omega
        · have hq2 : q = M.length := by omega
          subst hq2
          rw [List.take_length] at HB
          go_wp2
          go_roundw
          case rel => exact ⟨k + 1, by go_num, by omega, HUq, by rw [HX.out, HA.out, HF.out, HB.out]; exact rfl⟩
          case measure => simp [intOf]; omega
    · have hk2 : k = L.length := by omega
      subst hk2
      rw [List.take_length] at HA
      have HRf : Hid (Vd.cross r o = false) := by rw [HT.out]; exact HA.out
      go_wp2
      go_ret
      exact ⟨ret_b HRf.out.symm, HU2.out.trans HU.out⟩

/-- the rounds of touchAtMost. -/
def tcG (l : Poly) (j i : Nat) : Bool := Vd.cross (Vd.rAt l i) (Vd.rAt l j)
def tcF (l : Poly) (j : Nat) : Bool := Vd.anyI j (tcG l j)
theorem touch_F (l : Poly) : Vd.touch l = !(Vd.anyI l.length (tcF l)) := rfl
theorem rAt_some {l : Poly} {i : Nat} {r : Ring} (h : l[i]? = some r) : Vd.rAt l i = r := by unfold Vd.rAt; rw [List.getD_eq_getElem?_getD, h]; rfl
set_option maxHeartbeats 4000000 in
theorem touch_any (v : Value) (l : Poly) (w : World) (hv : Rd2 w v l) (hl : l.length ≤ 1048576) (hl2 : ∀ r ∈ l, r.length ≤ 1048576) (hc : Vd.CdL l) :
    Calls Tryz.prog 122 #[v] w fun e w' => e = .returned (.bool (Vd.touch l)) ∧ Up w w' := by
  obtain ⟨ao, cap, rfl, hm⟩ := hv
  have HM := hide hm
  have HC := hide hc
  have HL := hide hl2
  have HS := hide (touch_F l)
  clear hm hc hl2
  go_enter Tryz.func122, Tryz.ntmps122
  go_wp2
  go_loopw [8] (fun i wr => ∃ k : Nat, i = .int .i64 k ∧ k ≤ l.length ∧ Hid (Up w wr) ∧ Hid (Vd.anyI k (tcF l) = false)) (fun i _ => l.length - (intOf i).toNat)
  case atStart => exact ⟨0, rfl, Nat.zero_le _, Up.refl _, rfl⟩
  case round =>
    obtain ⟨k, rfl, hk, HU, HA⟩ := hrel
    by_cases hlt : k < l.length
    · obtain ⟨r, hr⟩ := Pl.some_of_lt hlt
      obtain ⟨b, u, rfl, cu, hu⟩ := HM.out k r hr
      obtain ⟨ao2, cap2, rfl, -⟩ := id hu
      have Hu := hide hu
      have cu2 := HU.out.cell cu
      have Hr := hide hr
      have HrL := hide (HL.out r (Pl.mem_of_some hr))
      have HrC := hide (HC.out r (Pl.mem_of_some hr))
      clear hr cu hu
      go_wp2
      clear cu2
      go_loopw [5] (fun i wr => ∃ q : Nat, i = .int .i64 q ∧ q ≤ k ∧ Hid (Up w wr) ∧ Hid (Vd.anyI q (tcG l k) = false)) (fun i _ => k - (intOf i).toNat)
      case atStart => exact ⟨0, rfl, Nat.zero_le _, HU, rfl⟩
      case round =>
        clear HU
        obtain ⟨q, rfl, hq, HU, HB⟩ := hrel
        by_cases hlq : q < k
        · obtain ⟨r2, hr2⟩ := Pl.some_of_lt (show q < l.length by omega)
          obtain ⟨b', u2, e', cu, hu2⟩ := HM.out q r2 hr2
          cases e'
          have Hu2 := hide (hu2.up HU.out)
          have HuU := hide (Hu.out.up HU.out)
          have cu2 := HU.out.cell cu
          have Hr2L := hide (HL.out r2 (Pl.mem_of_some hr2))
          have Hr2C := hide (HC.out r2 (Pl.mem_of_some hr2))
          have HG : Hid (tcG l k q = Vd.cross r2 r) := by unfold tcG; rw [rAt_some hr2, rAt_some Hr.out]; exact rfl
          have i1 : (q : Int) < (l.length : Int) := by omega
          clear hr2 cu hu2
          cases hx : Vd.cross r2 r
          · have HGf := hide (HG.out.trans hx)
            have Hx := hide hx
            clear hx
            go_wp2_with (go_at_call 156; refine (cross_any _ _ r2 r _ Hu2.out HuU.out Hr2L.out HrL.out Hr2C.out HrC.out).mono ?_; rintro e w2 ⟨rfl, u2⟩; rw [Hx.out]; replace u2 := hide u2)
            go_roundw
            case rel => exact ⟨q + 1, by go_num, by omega, HU.out.trans u2.out, anyI_step HB.out HGf.out⟩
            case measure => simp [intOf]; omega
          · have HGt : Hid (Vd.touch l = false) := by
              rw [HS.out, Vd.anyI_true (i := k) hlt (show tcF l k = true from Vd.anyI_true (i := q) hlq (HG.out.trans hx))]; exact rfl
            have Hx := hide hx
            clear hx
            go_wp2_with (go_at_call 156; refine (cross_any _ _ r2 r _ Hu2.out HuU.out Hr2L.out HrL.out Hr2C.out HrC.out).mono ?_; rintro e w2 ⟨rfl, u2⟩; rw [Hx.out]; replace u2 := hide u2)
            go_ret
            exact ⟨ret_b HGt.out.symm, HU.out.trans u2.out⟩
        · have hq2 : q = k := by omega
          subst hq2
          go_wp2
          go_roundw
          case rel => exact ⟨q + 1, by go_num, by omega, HU, anyI_step HA.out HB.out⟩
          case measure => simp [intOf]; omega
    · have hk2 : k = l.length := by omega
      subst hk2
      have HRt : Hid (Vd.touch l = true) := by rw [HS.out, HA.out]; exact rfl
      go_wp2
      go_ret
      exact ⟨ret_b HRt.out.symm, HU.out⟩
end Go.Proofs.YtcclepohmhdpbaaGreatDoor

/- THE WALKS: package clauses: Nested. -/
namespace Go.Proofs.YtcclepohmhdpbaaGreatDoor
set_option linter.all false
open Go.RowKit Go.Deep

theorem rd2_one {w : World} {g : Nat} {t : TypeId} {v : Value} {o : Ring} (h : VRow w g t [v]) (hv : Rd1 w v o) : Rd2 w (.slice (some ⟨g, 0, none⟩) 1 1) [o] := by
  refine ⟨_, _, rfl, fun i r hr => ?_⟩
  cases i with
  | zero => simp at hr; subst hr; exact ⟨g, v, rfl, h.cell (i := 0) rfl, hv⟩
  | succ i => simp at hr
set_option maxHeartbeats 8000000 in
theorem lies_any (v u : Value) (r o : Ring) (K : Int) (w : World) (hv : Rd1 w v r) (hu : Rd1 w u o) (hr : r.length ≤ 1048576) (hr2 : o.length ≤ 1048575) (hc : Vd.CdR r) (hc2 : Vd.CdR o) :
    Calls Tryz.prog 157 #[v, u, .int .i64 K] w fun e w' => e = .returned (.bool (Vd.lies r o K)) ∧ Up w w' := by
  have HV := hide hv
  have HV2 := hide hu
  have HT : Hid (Vd.lies r o K = !((Vd.segs r).any fun s => (Vd.mids s [o]).any fun m => decide (Vd.place o m ≠ K))) := rfl
  have hsl : (Vd.segs r).length ≤ 1048576 := by rw [Vd.segs_len]; omega
  have HC1 : Hid (∀ i s, (Vd.segs r)[i]? = some s → Vd.CdS s) := fun i s hs => Vd.segs_cd hc (Pl.mem_of_some hs)
  have HC2 := hide hc2
  have HCL : Hid (Vd.CdL [o]) := fun x hx => by rw [List.mem_singleton.1 hx]; exact hc2
  obtain ⟨ao, cap, rfl, -⟩ := HV.out
  obtain ⟨ao2, cap2, rfl, -⟩ := HV2.out
  clear hv hu hc hc2
  go_enter Tryz.func157, Tryz.ntmps157
  go_wp2_with fail
  refine (segments_any _ r _ HV.out hr).mono ?_
  rintro e w1 ⟨sv, rfl, u1, ho⟩
  obtain ⟨sa, sc, es⟩ := own_len ho
  subst es
  have HR1 := hide (own_rdG (f := segC) (fun _ => rfl) ho)
  have HU1 := hide u1
  generalize Vd.segs r = L at *
  generalize hf : (fun s => (Vd.mids s [o]).any fun m => decide (Vd.place o m ≠ K)) = f at *
  have HF : Hid (∀ s, f s = (Vd.mids s [o]).any fun m => decide (Vd.place o m ≠ K)) := by subst hf; exact fun _ => rfl
  clear ho u1 hf
  go_wp2_with fail
  go_loopw [14] (fun i wr => ∃ k : Nat, i = .int .i64 k ∧ k ≤ L.length ∧ Hid (Up w1 wr) ∧ Hid ((L.take k).any f = false)) (fun i _ => L.length - (intOf i).toNat)
  case atStart => exact ⟨0, rfl, Nat.zero_le _, Up.refl _, rfl⟩
  case round =>
    obtain ⟨k, rfl, hk, HU, HA⟩ := hrel
    by_cases hlt : k < L.length
    · obtain ⟨⟨⟨ax, ay⟩, ⟨bx, bY⟩⟩, hs⟩ := Pl.some_of_lt hlt
      obtain ⟨g, cap', ev, c0, c1, c2, c3⟩ := (HR1.out.up HU.out).seg hs
      cases ev
      have HCk := hide (HC1.out _ _ hs)
      have Hk := hide hs
      have HX := hide (Pl.any_take_succ f hs)
      simp only at c0 c1 c2 c3
      clear hs
      go_wp2_with fail
      have HUa : Hid (Up w1 ((wr.alloc (.cells #[.int .i64 ax, .int .i64 ay, .int .i64 bx, .int .i64 bY] 191)).alloc (.cells #[.slice ao2 o.length cap2] 30))) := (HU.out.alloc _).alloc _
      have RO : Hid (Rd2 ((wr.alloc (.cells #[.int .i64 ax, .int .i64 ay, .int .i64 bx, .int .i64 bY] 191)).alloc (.cells #[.slice ao2 o.length cap2] 30)) (.slice (some ⟨wr.heap.size + 1, 0, none⟩) 1 1) [o]) := by
        have h1 := new_row (w := wr.alloc (.cells #[.int .i64 ax, .int .i64 ay, .int .i64 bx, .int .i64 bY] 191)) (o := .cells #[.slice ao2 o.length cap2] 30) (vs := [.slice ao2 o.length cap2]) rfl
        rw [show (wr.alloc (.cells #[.int .i64 ax, .int .i64 ay, .int .i64 bx, .int .i64 bY] 191)).heap.size = wr.heap.size + 1 by simp] at h1
        exact rd2_one h1 ((HV2.out.up HU1.out).up HUa.out)
      refine (middles_any ((ax, ay), (bx, bY)) _ [o] _ HCk.out RO.out (by simp) (by intro x hx; rw [List.mem_singleton.1 hx]; omega) (by simp; omega) HCL.out).mono ?_
      rintro e w2 ⟨mv, rfl, u2, ho⟩
      obtain ⟨ma, mc, es⟩ := own_len ho
      subst es
      have HR2 := hide (own_rdG (f := spotC) (fun _ => rfl) ho)
      have HU2 := hide (HUa.out.trans u2)
      have HFk := hide (HF.out ((ax, ay), (bx, bY)))
      have HSp : Hid (∀ i m, (Vd.mids ((ax, ay), (bx, bY)) [o])[i]? = some m → Vd.Sp m) := fun i m hm => Vd.mids_sp HCk.out HCL.out m (Pl.mem_of_some hm)
      have hml : (Vd.mids ((ax, ay), (bx, bY)) [o]).length ≤ 1048576 := by
        have := Vd.mids_len ((ax, ay), (bx, bY)) [o]; simp at this; omega
      generalize Vd.mids ((ax, ay), (bx, bY)) [o] = M at *
      clear ho u2 c0 c1 c2 c3 HUa
      go_wp2_with fail
      go_loopw [23] (fun i wq => ∃ q : Nat, i = .int .i64 q ∧ q ≤ M.length ∧ Hid (Up w2 wq) ∧ Hid ((M.take q).any (fun m => decide (Vd.place o m ≠ K)) = false)) (fun i _ => M.length - (intOf i).toNat)
      case atStart => exact ⟨0, rfl, Nat.zero_le _, Up.refl _, rfl⟩
      case round =>
        obtain ⟨q, rfl, hq, HUq, HB⟩ := hrel
        by_cases hlq : q < M.length
        · obtain ⟨⟨⟨x, y⟩, t⟩, hs2⟩ := Pl.some_of_lt hlq
          obtain ⟨g', cap'', ev, c0, c1, c2⟩ := (HR2.out.up HUq.out).spot hs2
          cases ev
          have HCq := hide (HSp.out _ _ hs2)
          have HY := hide (Pl.any_take_succ (fun m => decide (Vd.place o m ≠ K)) hs2)
          simp only at c0 c1 c2
          have fin : Hid (Vd.place o ((x, y), t) ≠ K → Vd.lies r o K = false) := by
            intro h
            rw [HT.out, Pl.any_true_of f Hk.out (by rw [HFk.out]; exact Pl.any_true_of _ hs2 (decide_eq_true h))]; rfl
          clear hs2
          go_wp2_with fail
          refine (place_any _ o ((x, y), t) _ (((HV2.out.up HU1.out).up (HU2.out.trans HUq.out)).up ((Up.refl _).alloc _)) (by omega) HC2.out HCq.out).mono ?_
          rintro e w3 ⟨rfl, u3⟩
          have HU3 : Hid (Up w2 w3) := (HUq.out.alloc _).trans u3
          clear u3 c0 c1 c2
          by_cases hP : Vd.place o ((x, y), t) = K
          · have HYf : Hid ((M.take (q + 1)).any (fun m => decide (Vd.place o m ≠ K)) = false) := by rw [HY.out, HB.out]; simp [hP, Hid]
            rw [hP]
            clear hP
            go_wp2
            go_roundw
            case rel => exact ⟨q + 1, by go_num, by omega, HU3, HYf⟩
            case measure => simp [intOf]; omega
          · have HGf := hide (fin.out hP)
            have hP' := beq_eq_false_iff_ne.2 hP
            go_wp2
            go_ret
            exact ⟨ret_b HGf.out.symm, (HU1.out.trans HU2.out).trans HU3.out⟩
        · have hq2 : q = M.length := by omega
          subst hq2
          rw [List.take_length] at HB
          go_wp2
          go_roundw
          case rel => exact ⟨k + 1, by go_num, by omega, HU2.out.trans HUq.out, by rw [HX.out, HA.out, HFk.out, HB.out]; exact rfl⟩
          case measure => simp [intOf]; omega
    · have hk2 : k = L.length := by omega
      subst hk2
      rw [List.take_length] at HA
      have HRt : Hid (Vd.lies r o K = true) := by rw [HT.out, HA.out]; exact rfl
      go_wp2
      go_ret
      exact ⟨ret_b HRt.out.symm, HU1.out.trans HU.out⟩

/-- the rounds of areNested. -/
def nsG (l : Poly) (i j : Nat) : Bool := decide (i ≠ j) && !(Vd.lies (Vd.rAt l i) (Vd.rAt l j) (Vd.nestW j))
def nsF (l : Poly) (i : Nat) : Bool := decide (1 ≤ i) && Vd.anyI l.length (nsG l i)
theorem nested_F (l : Poly) : Vd.nested l = !(Vd.anyI l.length (nsF l)) := rfl
theorem nsG_same (l : Poly) (i : Nat) : nsG l i i = false := by unfold nsG; simp
theorem nsG_at {l : Poly} {i j : Nat} (h : i ≠ j) {r o : Ring} (hr : l[i]? = some r) (ho : l[j]? = some o) : nsG l i j = !(Vd.lies r o (Vd.nestW j)) := by unfold nsG; rw [decide_eq_true h, rAt_some hr, rAt_some ho]; rfl
theorem nestW_cases (j : Nat) : (j = 0 ∧ Vd.nestW j = 2) ∨ (j ≠ 0 ∧ Vd.nestW j = 0) := by unfold Vd.nestW; by_cases h : j = 0 <;> simp [h]
set_option maxHeartbeats 8000000 in
theorem nested_any (v : Value) (l : Poly) (w : World) (hv : Rd2 w v l) (hl : l.length ≤ 1048576) (hl2 : ∀ r ∈ l, r.length ≤ 1048575) (hc : Vd.CdL l) :
    Calls Tryz.prog 123 #[v] w fun e w' => e = .returned (.bool (Vd.nested l)) ∧ Up w w' := by
  obtain ⟨ao, cap, rfl, hm⟩ := hv
  have HM := hide hm
  have HC := hide hc
  have HL := hide hl2
  have HS := hide (nested_F l)
  clear hm hc hl2
  go_enter Tryz.func123, Tryz.ntmps123
  go_wp2
  go_loopw [3] (fun i wr => ∃ k : Nat, i = .int .i64 ((k : Int) + 1) ∧ k ≤ l.length ∧ Hid (Up w wr) ∧ Hid (Vd.anyI (k + 1) (nsF l) = false)) (fun i _ => l.length + 1 - (intOf i).toNat)
  case atStart => exact ⟨0, rfl, Nat.zero_le _, Up.refl _, rfl⟩
  case round =>
    obtain ⟨k, rfl, hk, HU, HA⟩ := hrel
    by_cases hlt : k + 1 < l.length
    · obtain ⟨r, hr⟩ := Pl.some_of_lt hlt
      obtain ⟨b, u, rfl, cu, hu⟩ := HM.out (k + 1) r hr
      have Hu := hide hu
      have Hr := hide hr
      have HrL := hide (HL.out r (Pl.mem_of_some hr))
      have HrC := hide (HC.out r (Pl.mem_of_some hr))
      have Hcu := hide cu
      have i2 : (k : Int) + 1 < (l.length : Int) := by omega
      have i3 : (0 : Int) ≤ (k : Int) + 1 := by omega
      clear hr cu hu
      go_wp2
      go_loopw [15] (fun i wr => ∃ q : Nat, i = .int .i64 q ∧ q ≤ l.length ∧ Hid (Up w wr) ∧ Hid (Vd.anyI q (nsG l (k + 1)) = false)) (fun i _ => l.length - (intOf i).toNat)
      case atStart => exact ⟨0, rfl, Nat.zero_le _, HU, rfl⟩
      case round =>
        clear HU
        obtain ⟨q, rfl, hq, HU, HB⟩ := hrel
        by_cases hlq : q < l.length
        · obtain ⟨r2, hr2⟩ := Pl.some_of_lt hlq
          obtain ⟨b', y2, e', cu, hy2⟩ := HM.out q r2 hr2
          cases e'
          have Hu2 := hide (hy2.up HU.out)
          have HuU := hide (Hu.out.up HU.out)
          have cu2 := HU.out.cell cu
          have cu3 := HU.out.cell Hcu.out
          have Hr2L := hide (HL.out r2 (Pl.mem_of_some hr2))
          have Hr2C := hide (HC.out r2 (Pl.mem_of_some hr2))
          have i1 : (q : Int) < (l.length : Int) := by omega
          have hnw := nestW_cases q
          by_cases hqk : k + 1 = q
          · subst hqk
            have HGf : Hid (nsG l (k + 1) (k + 1) = false) := nsG_same _ _
            have j2 : ((k : Int) + 1 == 0) = false := beq_eq_false_iff_ne.2 (by omega)
            clear hr2 cu hy2 hnw i1
            go_wp2
            go_roundw
            case rel => exact ⟨k + 1 + 1, by go_num, by omega, HU, anyI_step HB.out HGf.out⟩
            case measure => simp [intOf]; omega
          · have HG := hide (nsG_at hqk Hr.out hr2)
            have j1 : ((k : Int) + 1 != (q : Int)) = true := bne_iff_ne.2 (by omega)
            clear hqk hr2 cu hy2
            obtain ⟨bq, hb⟩ : ∃ bq, ((q : Int) == 0) = bq := ⟨_, rfl⟩
            go_upto_if 21 with fail
            have Hb := hide hb
            clear hb
            rcases hnw with ⟨hq0, hw⟩ | ⟨hq0, hw⟩
            · obtain rfl : bq = true := by rw [← Hb.out]; exact beq_iff_eq.2 (by omega)
              rw [hw] at HG
              clear hq0 hw
              cases hx : Vd.lies r r2 2
              · have HGt : Hid (Vd.nested l = false) := by
                  rw [HS.out, Vd.anyI_true (i := k + 1) hlt (show nsF l (k + 1) = true by unfold nsF; rw [decide_eq_true (by omega), Bool.true_and]; exact Vd.anyI_true (i := q) hlq (by rw [HG.out, hx]; rfl))]; exact rfl
                have Hx := hide hx
                clear hx
                go_wp2_with (go_at_call 157; refine (lies_any _ _ r r2 2 _ HuU.out Hu2.out (by have := HrL.out; omega) Hr2L.out HrC.out Hr2C.out).mono ?_; rintro e w2 ⟨rfl, hz2⟩; rw [Hx.out]; replace hz2 := hide hz2)
                go_ret
                exact ⟨ret_b HGt.out.symm, HU.out.trans hz2.out⟩
              · have HGf : Hid (nsG l (k + 1) q = false) := by rw [HG.out, hx]; exact rfl
                have Hx := hide hx
                clear hx
                go_wp2_with (go_at_call 157; refine (lies_any _ _ r r2 2 _ HuU.out Hu2.out (by have := HrL.out; omega) Hr2L.out HrC.out Hr2C.out).mono ?_; rintro e w2 ⟨rfl, hz2⟩; rw [Hx.out]; replace hz2 := hide hz2)
                go_roundw
                case rel => exact ⟨q + 1, by go_num, by omega, HU.out.trans hz2.out, anyI_step HB.out HGf.out⟩
                case measure => simp [intOf]; omega
            · obtain rfl : bq = false := by rw [← Hb.out]; exact beq_eq_false_iff_ne.2 (by omega)
              rw [hw] at HG
              clear hq0 hw
              cases hx : Vd.lies r r2 0
              · have HGt : Hid (Vd.nested l = false) := by
                  rw [HS.out, Vd.anyI_true (i := k + 1) hlt (show nsF l (k + 1) = true by unfold nsF; rw [decide_eq_true (by omega), Bool.true_and]; exact Vd.anyI_true (i := q) hlq (by rw [HG.out, hx]; rfl))]; exact rfl
                have Hx := hide hx
                clear hx
                go_wp2_with (go_at_call 157; refine (lies_any _ _ r r2 0 _ HuU.out Hu2.out (by have := HrL.out; omega) Hr2L.out HrC.out Hr2C.out).mono ?_; rintro e w2 ⟨rfl, hz2⟩; rw [Hx.out]; replace hz2 := hide hz2)
                go_ret
                exact ⟨ret_b HGt.out.symm, HU.out.trans hz2.out⟩
              · have HGf : Hid (nsG l (k + 1) q = false) := by rw [HG.out, hx]; exact rfl
                have Hx := hide hx
                clear hx
                go_wp2_with (go_at_call 157; refine (lies_any _ _ r r2 0 _ HuU.out Hu2.out (by have := HrL.out; omega) Hr2L.out HrC.out Hr2C.out).mono ?_; rintro e w2 ⟨rfl, hz2⟩; rw [Hx.out]; replace hz2 := hide hz2)
                go_roundw
                case rel => exact ⟨q + 1, by go_num, by omega, HU.out.trans hz2.out, anyI_step HB.out HGf.out⟩
                case measure => simp [intOf]; omega
        · have hq2 : q = l.length := by omega
          subst hq2
          have HFf : Hid (nsF l (k + 1) = false) := by unfold nsF; rw [HB.out]; simp [Hid]
          go_wp2
          go_roundw
          case rel => exact ⟨k + 1, by go_num, by omega, HU, anyI_step HA.out HFf.out⟩
          case measure => simp [intOf]; omega
    · have HRt : Hid (Vd.nested l = true) := by
        rw [HS.out]
        have h2 : Vd.anyI l.length (nsF l) = false := by
          by_cases e : k + 1 = l.length
          · rw [← e]; exact HA.out
          · by_cases h0 : l.length = 0
            · rw [h0]; rfl
            · have e2 : k = l.length := by omega
              have := HA.out
              rw [Vd.anyI_succ, Bool.or_eq_false_iff, e2] at this
              exact this.1
        rw [h2]; exact rfl
      go_wp2
      go_ret
      exact ⟨ret_b HRt.out.symm, HU.out⟩
end Go.Proofs.YtcclepohmhdpbaaGreatDoor

/- THE WALKS: package clauses: touch points. -/
namespace Go.Proofs.YtcclepohmhdpbaaGreatDoor
set_option linter.all false
open Go.RowKit Go.Deep

theorem own_rd1 {w : World} {base : Nat} {e : TypeId} {v : Value} {l : Ring} (h : w.ownsRow base e 2 v l.length (flat l)) : Rd1 w v l := by
  obtain ⟨ao, cap, ev⟩ := own_len h
  refine ⟨ao, cap, ev, fun i p hp => ?_⟩
  obtain ⟨g, cap', e', hc⟩ := own_cell h (by have := Pl.lt_of_some hp; omega)
  rw [ev] at e'
  cases e'
  have := flat_at _ _ _ hp
  exact ⟨g, rfl, hc _ _ this.1, hc _ _ this.2⟩
theorem mem_take_succ {a : List Pnt} {k : Nat} {q p : Pnt} (h : a[k]? = some q) (h1 : p ∉ a.take k) (h2 : p ≠ q) : p ∉ a.take (k + 1) := by
  rw [Pl.take_one h, List.mem_append, List.mem_singleton]
  rintro (h | h)
  · exact h1 h
  · exact h2 h

set_option maxHeartbeats 4000000 in
theorem isAmong_any (v : Value) (a : Ring) (p : Pnt) (w : World) (hv : Rd1 w v a) (ha : a.length ≤ 1048576) :
    Calls Tryz.prog 198 #[v, ptV p] w fun e w' => e = .returned (.bool (decide (p ∈ a))) ∧ Up w w' := by
  obtain ⟨ao, cap, rfl, hm⟩ := hv
  obtain ⟨px, py⟩ := p
  have HM := hide hm
  clear hm
  simp only [ptV]
  have R0 := hide (new_row (w := w) (o := .cells #[.int .i64 px, .int .i64 py] 32) (vs := [.int .i64 px, .int .i64 py]) rfl)
  have HU0 : Hid (Up w (w.alloc (.cells #[.int .i64 px, .int .i64 py] 32))) := (Up.refl _).alloc _
  go_enter Tryz.func198, Tryz.ntmps198
  go_wp2
  go_loopw [9] (fun i wr => ∃ k : Nat, i = .int .i64 k ∧ k ≤ a.length ∧ Hid (Up w wr) ∧ Hid (VRow wr w.heap.size 32 [.int .i64 px, .int .i64 py]) ∧ Hid ((px, py) ∉ a.take k)) (fun i _ => a.length - (intOf i).toNat)
  case atStart => exact ⟨0, rfl, Nat.zero_le _, HU0, R0, by simp [Hid]⟩
  case round =>
    clear HU0 R0
    obtain ⟨k, rfl, hk, HU, R0, HN⟩ := hrel
    by_cases hlt : k < a.length
    · obtain ⟨⟨qx, qy⟩, hq⟩ := Pl.some_of_lt hlt
      obtain ⟨b, rfl, c0, c1⟩ := HM.out k _ hq
      have d0 := HU.out.cell c0
      have d1 := HU.out.cell c1
      have p0 := fun o => (R0.out.alloc o).cell (i := 0) rfl
      have p1 := fun o => (R0.out.alloc o).cell (i := 1) rfl
      have Hq := hide hq
      dsimp only at d0 d1
      clear hq c0 c1
      by_cases h1 : px = qx
      · by_cases h2 : py = qy
        · subst h1 h2
          have HT : Hid (decide ((px, py) ∈ a) = true) := decide_eq_true (Pl.mem_of_some Hq.out)
          go_wp2
          go_ret
          exact ⟨ret_b HT.out.symm, HU.out.alloc _⟩
        · have HN2 := hide (mem_take_succ Hq.out HN.out (fun e => h2 (by cases e; rfl)))
          subst h1
          have h2' := beq_eq_false_iff_ne.2 h2
          go_wp2
          go_roundw
          case rel => exact ⟨k + 1, by go_num, by omega, HU.out.alloc _, R0.out.alloc _, HN2⟩
          case measure => simp [intOf]; omega
      · have HN2 := hide (mem_take_succ Hq.out HN.out (fun e => h1 (by cases e; rfl)))
        have h1' := beq_eq_false_iff_ne.2 h1
        go_wp2
        go_roundw
        case rel => exact ⟨k + 1, by go_num, by omega, HU.out.alloc _, R0.out.alloc _, HN2⟩
        case measure => simp [intOf]; omega
    · have hk2 : k = a.length := by omega
      subst hk2
      rw [List.take_length] at HN
      have HT : Hid (decide ((px, py) ∈ a) = false) := decide_eq_false HN.out
      go_wp2
      go_ret
      exact ⟨ret_b HT.out.symm, HU.out⟩

/-- the rings so far. -/
def rgN (l : Poly) (p : Pnt) (n : Nat) : List Nat := (List.range n).filter fun i => decide (Vd.place (Vd.rAt l i) (Vd.at1 p) = 1)
theorem rgN_all (l : Poly) (p : Pnt) : rgN l p l.length = Vd.ringsAt l p := rfl
theorem rgN_yes {l : Poly} {p : Pnt} {k : Nat} {r : Ring} (h : l[k]? = some r) (hp : Vd.place r (Vd.at1 p) = 1) : rgN l p (k + 1) = rgN l p k ++ [k] := by
  unfold rgN; rw [List.range_succ, List.filter_append, List.filter_cons, rAt_some h, hp]; rfl
theorem rgN_no {l : Poly} {p : Pnt} {k : Nat} {r : Ring} (h : l[k]? = some r) (hp : Vd.place r (Vd.at1 p) ≠ 1) : rgN l p (k + 1) = rgN l p k := by
  unfold rgN; rw [List.range_succ, List.filter_append, List.filter_cons, rAt_some h, if_neg (by simpa using hp)]; simp
theorem rgN_len (l : Poly) (p : Pnt) (n : Nat) : (rgN l p n).length ≤ n := by unfold rgN; have := List.length_filter_le (fun i => decide (Vd.place (Vd.rAt l i) (Vd.at1 p) = 1)) (List.range n); simpa using this

set_option maxHeartbeats 4000000 in
theorem ringsAt_any (v : Value) (l : Poly) (p : Pnt) (w : World) (hv : Rd2 w v l) (hl : l.length ≤ 1048576) (hl2 : ∀ r ∈ l, r.length ≤ 1048576) (hc : Vd.CdL l) (hp : Vd.Cd p) :
    Calls Tryz.prog 160 #[v, ptV p] w fun e w' => ∃ u, e = .returned u ∧ Up w w' ∧ w'.ownsRow w.heap.size 3 1 u (Vd.ringsAt l p).length (flatG intC (Vd.ringsAt l p)) := by
  obtain ⟨ao, cap, rfl, hm⟩ := hv
  have HM := hide hm
  have HC := hide hc
  have HL := hide hl2
  have HP := hide hp
  have HR := hide (rgN_all l p)
  have HLn := hide (rgN_len l p)
  have HY := hide (fun k r => rgN_yes (l := l) (p := p) (k := k) (r := r))
  have HNo := hide (fun k r => rgN_no (l := l) (p := p) (k := k) (r := r))
  obtain ⟨px, py⟩ := p
  clear hm hc hl2 hp
  simp only [ptV]
  have R0 := hide (new_row (w := w) (o := .cells #[.int .i64 px, .int .i64 py] 32) (vs := [.int .i64 px, .int .i64 py]) rfl)
  have HU0 : Hid (Up w (w.alloc (.cells #[.int .i64 px, .int .i64 py] 32))) := (Up.refl _).alloc _
  go_enter Tryz.func160, Tryz.ntmps160
  go_wp2
  go_loopw [5, 10] (fun av i wr => ∃ (k : Nat) (u : Value), i = .int .i64 k ∧ u = av ∧ k ≤ l.length ∧ Hid (Up w wr) ∧ Hid (VRow wr w.heap.size 32 [.int .i64 px, .int .i64 py]) ∧ Hid (wr.ownsRow w.heap.size 3 1 u (rgN l (px, py) k).length (flatG intC (rgN l (px, py) k)))) (fun _ i _ => l.length - (intOf i).toNat)
  case atStart => exact ⟨0, _, rfl, rfl, Nat.zero_le _, HU0, R0, World.ownsRow_nil _ _ _ _⟩
  case round =>
    clear HU0 R0
    obtain ⟨k, u, rfl, rfl, hk, HU, R0, HO⟩ := hrel
    by_cases hlt : k < l.length
    · obtain ⟨r, hr⟩ := Pl.some_of_lt hlt
      obtain ⟨b, y, rfl, cu, hy⟩ := HM.out k r hr
      have Hy := hide (hy.up HU.out)
      have cu2 := HU.out.cell cu
      have Hr := hide hr
      have HrL := hide (HL.out r (Pl.mem_of_some hr))
      have HrC := hide (HC.out r (Pl.mem_of_some hr))
      have p0 := R0.out.cell (i := 0) rfl
      have p1 := R0.out.cell (i := 1) rfl
      clear hr cu hy
      go_wp2_with fail
      refine (at_any (px, py) _).mono ?_
      rintro e w2 ⟨rfl, hz2⟩
      replace hz2 := hide hz2
      go_wp2_with fail
      refine (place_any _ r (Vd.at1 (px, py)) _ (Hy.out.up hz2.out) HrL.out HrC.out (Vd.at1_sp HP.out)).mono ?_
      rintro e w3 ⟨rfl, hz3⟩
      have HZ := hide (hz2.out.trans hz3)
      have HU3 := hide (HU.out.trans HZ.out)
      have R3 := hide (R0.out.up HZ.out)
      have HO3 := hide (own_up HO.out HZ.out)
      clear hz2 hz3 cu2 p0 p1
      by_cases hx : Vd.place r (Vd.at1 (px, py)) = 1
      · have HE := hide (HY.out k r Hr.out hx)
        rw [hx]
        clear hx
        have HOA := hide (HO3.out.alloc (.cells #[.int .i64 (k : Int)] 3))
        have hb : Hid ((rgN l (px, py) k).length ≤ 1073741824) := by have := HLn.out k; show _ ≤ _; omega
        have hsz := hide HU3.out.size
        go_wp2_with (at_builtin; refine wpList_app el_ints rfl (.tmp 20) (.tmp 22) rfl w.heap.size _ _ _ (by rfl) HOA.out w3.heap.size [.int .i64 (k : Int)] (by rfl) rfl (heap_alloc_new w3 _) (by intro x hx; simp at hx; subst hx; rfl) hb.out (by simp; have := hsz.out; omega) ?_; intro g cap w5 hown5 hg5 hat5 hlt5; replace hown5 := hide hown5; replace hg5 := hide hg5; clear hat5 hlt5)
        go_roundw
        case rel =>
          refine ⟨k + 1, _, by go_num, rfl, by omega, ?_, ?_, ?_⟩
          · exact Fr.up (S := fun _ => False) (((Fr.of_up HU3.out).alloc _).grown hg5.out fun x hx => .inr (own_lt HOA.out hx).1) (fun _ _ h => h)
          · exact (R3.out.alloc _).grown hg5.out (own_row_ne HOA.out (R3.out.alloc _) (by decide))
          · rw [HE.out, flatG_append, List.length_append]; exact hown5.out
        case measure => simp [intOf]; omega
      · have HE := hide (HNo.out k r Hr.out hx)
        have hx' := beq_eq_false_iff_ne.2 hx
        clear hx
        generalize Vd.place r (Vd.at1 (px, py)) = P at *
        go_wp2
        go_roundw
        case rel => exact ⟨k + 1, _, by go_num, rfl, by omega, HU3, R3, by rw [HE.out]; exact HO3⟩
        case measure => simp [intOf]; omega
    · have hk2 : k = l.length := by omega
      subst hk2
      go_wp2
      go_ret
      exact ⟨_, rfl, HU.out, by rw [← HR.out]; exact HO.out⟩
end Go.Proofs.YtcclepohmhdpbaaGreatDoor

/- THE WALKS: package clauses: touchPoints. -/
namespace Go.Proofs.YtcclepohmhdpbaaGreatDoor
set_option linter.all false
open Go.RowKit Go.Deep

/-- the touch points so far. -/
def tpN (l : Poly) (ps : List Pnt) : List Pnt := ps.foldl (Vd.touchF l) []
theorem tpN_snoc (l : Poly) (ps : List Pnt) (p : Pnt) : tpN l (ps ++ [p]) = Vd.touchF l (tpN l ps) p := by unfold tpN; rw [List.foldl_append]; rfl
theorem touchF_len (l : Poly) (a : List Pnt) (p : Pnt) : (Vd.touchF l a p).length ≤ a.length + 1 := by unfold Vd.touchF; split <;> simp
theorem tpN_len (l : Poly) : ∀ (ps : List Pnt) (a : List Pnt), (ps.foldl (Vd.touchF l) a).length ≤ a.length + ps.length := by
  intro ps
  induction ps with
  | nil => intro a; simp
  | cons p t ih => intro a; rw [List.foldl_cons]; have := ih (Vd.touchF l a p); have := touchF_len l a p; simp; omega
theorem touchF_yes {l : Poly} {a : List Pnt} {p : Pnt} (h1 : decide (p ∈ a) = false) (h2 : 1 < (Vd.ringsAt l p).length) : Vd.touchF l a p = a ++ [p] := if_pos ⟨of_decide_eq_false h1, h2⟩
theorem touchF_in {l : Poly} {a : List Pnt} {p : Pnt} (h1 : decide (p ∈ a) = true) : Vd.touchF l a p = a := if_neg fun h => h.1 (of_decide_eq_true h1)
theorem touchF_few {l : Poly} {a : List Pnt} {p : Pnt} (h2 : ¬ 1 < (Vd.ringsAt l p).length) : Vd.touchF l a p = a := if_neg fun h => h2 h.2
theorem ringsAt_len (l : Poly) (p : Pnt) : (Vd.ringsAt l p).length ≤ l.length := rgN_len l p l.length

set_option maxHeartbeats 8000000 in
theorem touchPoints_any (v : Value) (l : Poly) (w : World) (hv : Rd2 w v l) (hl : l.length ≤ 1048576) (hl2 : ∀ r ∈ l, r.length ≤ 1048576) (hf : l.flatten.length ≤ 1048576) (hc : Vd.CdL l) :
    Calls Tryz.prog 158 #[v] w fun e w' => ∃ u, e = .returned u ∧ Up w w' ∧ w'.ownsRow w.heap.size 32 2 u (Vd.touchPts l).length (flat (Vd.touchPts l)) := by
  have HV := hide hv
  obtain ⟨ao, cap, rfl, hm⟩ := hv
  have HM := hide hm
  have HC := hide hc
  have HL := hide hl2
  have HF := hide hf
  clear hm hc hl2 hf
  go_enter Tryz.func158, Tryz.ntmps158
  go_wp2
  go_loopw [3, 10] (fun av i wr => ∃ (k : Nat) (u : Value), i = .int .i64 k ∧ u = av ∧ k ≤ l.length ∧ Hid (Up w wr) ∧ Hid (wr.ownsRow w.heap.size 32 2 u (tpN l (l.take k).flatten).length (flat (tpN l (l.take k).flatten)))) (fun _ i _ => l.length - (intOf i).toNat)
  case atStart => exact ⟨0, _, rfl, rfl, Nat.zero_le _, Up.refl _, World.ownsRow_nil _ _ _ _⟩
  case round =>
    obtain ⟨k, u, rfl, rfl, hk, HU, HO⟩ := hrel
    by_cases hlt : k < l.length
    · obtain ⟨r, hr⟩ := Pl.some_of_lt hlt
      obtain ⟨b, y, rfl, cu, hy⟩ := HM.out k r hr
      obtain ⟨ao2, cap2, rfl, hp⟩ := hy
      have HP := hide hp
      have cu2 := HU.out.cell cu
      have hrl := HL.out r (Pl.mem_of_some hr)
      have HrC := hide (HC.out r (Pl.mem_of_some hr))
      have HFl := hide (flat_take hr)
      have HFb : Hid ((l.take k).flatten.length + r.length ≤ 1048576) := by
        have h1 : (l.take (k + 1)).flatten.length ≤ l.flatten.length := by
          conv => rhs; rw [← List.take_append_drop (k + 1) l, List.flatten_append, List.length_append]
          omega
        rw [flat_take hr, List.length_append] at h1
        have := HF.out
        show _ ≤ _
        omega
      clear hr cu hp
      go_wp2
      clear cu2
      go_loopw [3, 16] (fun av i wr => ∃ (q : Nat) (u : Value), i = .int .i64 q ∧ u = av ∧ q ≤ r.length ∧ Hid (Up w wr) ∧ Hid (wr.ownsRow w.heap.size 32 2 u (tpN l ((l.take k).flatten ++ r.take q)).length (flat (tpN l ((l.take k).flatten ++ r.take q))))) (fun _ i _ => r.length - (intOf i).toNat)
      case atStart => exact ⟨0, _, rfl, rfl, Nat.zero_le _, HU, by rw [List.take_zero, List.append_nil]; exact HO⟩
      case round =>
        clear HU HO
        obtain ⟨q, u, rfl, rfl, hq, HU, HO⟩ := hrel
        by_cases hlq : q < r.length
        · obtain ⟨⟨px, py⟩, hxy⟩ := Pl.some_of_lt hlq
          obtain ⟨b2, rfl, cx, cy⟩ := HP.out q (px, py) hxy
          have cx' := HU.out.cell cx
          have cy' := HU.out.cell cy
          dsimp only at cx' cy'
          have HCp := hide (HrC.out _ (Pl.mem_of_some hxy))
          have HX : Hid (tpN l ((l.take k).flatten ++ r.take (q + 1)) = Vd.touchF l (tpN l ((l.take k).flatten ++ r.take q)) (px, py)) := by
            rw [Pl.take_one hxy, ← List.append_assoc, tpN_snoc]; exact rfl
          have hal : (tpN l ((l.take k).flatten ++ r.take q)).length ≤ 1048576 := by
            have h1 := tpN_len l ((l.take k).flatten ++ r.take q) []
            have h2 := HFb.out
            simp only [List.length_append, List.length_take, List.length_nil] at h1
            unfold tpN
            omega
          generalize hT : tpN l ((l.take k).flatten ++ r.take q) = T at *
          have HO' := hide (own_rd1 HO.out)
          obtain ⟨ta, tc, rfl⟩ := own_len HO.out
          clear hxy cx cy hT
          go_wp2_with fail
          have RP := hide (new_row (w := wr) (o := .cells #[.int .i64 px, .int .i64 py] 32) (vs := [.int .i64 px, .int .i64 py]) rfl)
          refine (isAmong_any _ T (px, py) _ (HO'.out.up ((Up.refl _).alloc _)) hal).mono ?_
          rintro e w2 ⟨rfl, hz2⟩
          have RP2 := hide (RP.out.up hz2)
          have HU2 : Hid (Up w w2) := (HU.out.alloc _).trans hz2
          have HO2 := hide (own_up HO.out (((Up.refl wr).alloc _).trans hz2))
          have p0 := RP2.out.cell (i := 0) rfl
          have p1 := RP2.out.cell (i := 1) rfl
          clear hz2 cx' cy' RP
          cases hin : decide ((px, py) ∈ T)
          · have Hin := hide hin
            clear hin
            go_wp2_with fail
            refine (ringsAt_any _ l (px, py) _ (HV.out.up HU2.out) hl HL.out HC.out HCp.out).mono ?_
            rintro e w3 ⟨rv, rfl, hz3, hro⟩
            obtain ⟨ra, rc, rfl⟩ := own_len hro
            have RP3 := hide (RP2.out.up hz3)
            have HU3 := hide (HU2.out.trans hz3)
            have HO3 := hide (own_up HO2.out hz3)
            have hrn := ringsAt_len l (px, py)
            have g0 := RP3.out.cell (i := 0) rfl
            have g1 := RP3.out.cell (i := 1) rfl
            clear hz3 hro p0 p1
            by_cases hn : 1 < (Vd.ringsAt l (px, py)).length
            · have HE := hide (HX.out.trans (touchF_yes Hin.out hn))
              generalize (Vd.ringsAt l (px, py)).length = n at *
              have HOA := hide (HO3.out.alloc (.cells #[.int .i64 px, .int .i64 py] 32))
              have hb : Hid (T.length ≤ 1073741824) := by show _ ≤ _; omega
              have hsz := hide HU3.out.size
              go_wp2_with (at_builtin; refine wpList_app el_pts rfl (.tmp 31) (.tmp 33) rfl w.heap.size _ _ _ (by rfl) HOA.out w3.heap.size [.int .i64 px, .int .i64 py] (by rfl) rfl (heap_alloc_new w3 _) (by intro x hx; simp at hx; rcases hx with rfl | rfl <;> rfl) hb.out (by simp; have := hsz.out; omega) ?_; intro g cap w5 hown5 hg5 hat5 hlt5; replace hown5 := hide hown5; replace hg5 := hide hg5; clear hat5 hlt5)
              go_roundw
              case rel =>
                refine ⟨q + 1, _, by go_num, rfl, by omega, ?_, ?_⟩
                · exact Fr.up (S := fun _ => False) (((Fr.of_up HU3.out).alloc _).grown hg5.out fun x hx => .inr (own_lt HOA.out hx).1) (fun _ _ h => h)
                · rw [HE.out, flat_append, List.length_append]; exact hown5.out
              case measure => simp [intOf]; omega
            · have HE := hide (HX.out.trans (touchF_few hn))
              generalize (Vd.ringsAt l (px, py)).length = n at *
              go_wp2
              go_roundw
              case rel => exact ⟨q + 1, _, by go_num, rfl, by omega, HU3, by rw [HE.out]; exact HO3⟩
              case measure => simp [intOf]; omega
          · have HE := hide (HX.out.trans (touchF_in hin))
            clear hin
            go_wp2
            go_roundw
            case rel => exact ⟨q + 1, _, by go_num, rfl, by omega, HU2, by rw [HE.out]; exact HO2⟩
            case measure => simp [intOf]; omega
        · have hq2 : q = r.length := by omega
          subst hq2
          rw [List.take_length, ← HFl.out] at HO
          go_wp2
          go_roundw
          case rel => exact ⟨k + 1, _, by go_num, rfl, by omega, HU, HO⟩
          case measure => simp [intOf]; omega
    · have hk2 : k = l.length := by omega
      subst hk2
      rw [List.take_length] at HO
      go_wp2
      go_ret
      exact ⟨_, rfl, HU.out, HO.out⟩
end Go.Proofs.YtcclepohmhdpbaaGreatDoor

/- THE WALKS: package clauses: join. -/
namespace Go.Proofs.YtcclepohmhdpbaaGreatDoor
set_option linter.all false
open Go.RowKit Go.Deep

theorem fI_at {g : List Nat} {i n : Nat} (h : g[i]? = some n) : (flatG intC g)[i]? = some (.int .i64 n) := by
  have := flatG_at (f := intC) (n := 1) (fun _ => rfl) g i n 0 _ h rfl
  simpa using this
theorem fI_len (g : List Nat) : (flatG intC g).length = g.length := by
  induction g with
  | nil => rfl
  | cons a t ih => show ([_] ++ flatG intC t).length = _; simp [ih]
theorem fI_set (g : List Nat) : ∀ (i n : Nat), flatG intC (g.set i n) = (flatG intC g).set i (.int .i64 n) := by
  induction g with
  | nil => intro i n; rfl
  | cons a t ih =>
    intro i n
    cases i with
    | zero => rfl
    | succ i => show flatG intC (a :: t.set i n) = _; show _ :: flatG intC (t.set i n) = _; rw [ih]; rfl
theorem nAt_some {g : List Nat} {i n : Nat} (h : g[i]? = some n) : Vd.nAt g i = n := by unfold Vd.nAt; rw [List.getD_eq_getElem?_getD, h]; rfl
/-- what the inner loop has made so far. -/
def tgN (g : List Nat) (o f q : Nat) : List Nat := (g.take q).map (Vd.turnG o f) ++ g.drop q
theorem tgN_len (g : List Nat) (o f q : Nat) (h : q ≤ g.length) : (tgN g o f q).length = g.length := by unfold tgN; simp; omega
theorem tgN_at {g : List Nat} {o f q n : Nat} (h : g[q]? = some n) : (tgN g o f q)[q]? = some n := by
  unfold tgN
  have := Pl.lt_of_some h
  rw [List.getElem?_append_right (by simp; omega)]
  simp only [List.length_map, List.length_take, Nat.min_eq_left (Nat.le_of_lt this), Nat.sub_self]
  rw [List.getElem?_drop, Nat.add_zero]; exact h
theorem tgN_yes {g : List Nat} {o f q : Nat} (h : g[q]? = some o) : tgN g o f (q + 1) = (tgN g o f q).set q f := by
  unfold tgN
  have hq := Pl.lt_of_some h
  rw [Pl.take_one h, drop_at h, List.set_append_right (h := by simp; omega)]
  simp only [List.length_map, List.length_take, Nat.min_eq_left (Nat.le_of_lt hq), Nat.sub_self, List.map_append, List.map_cons, List.map_nil, List.set_cons_zero]
  rw [show Vd.turnG o f o = f from if_pos rfl]; simp
theorem tgN_no {g : List Nat} {o f q n : Nat} (h : g[q]? = some n) (hn : n ≠ o) : tgN g o f (q + 1) = tgN g o f q := by
  unfold tgN
  rw [Pl.take_one h]
  conv => rhs; rw [drop_at h]
  rw [List.map_append, List.map_cons, List.map_nil, show Vd.turnG o f n = n from if_neg hn]; simp
theorem tgN_all (g : List Nat) (o f : Nat) : tgN g o f g.length = g.map (Vd.turnG o f) := by unfold tgN; simp
theorem joinL_same {g : List Nat} {a j : Nat} {t : List Nat} (h : Vd.nAt g j = Vd.nAt g a) : Vd.joinL g a (j :: t) = none := by unfold Vd.joinL; rw [if_pos h]
theorem joinL_go {g : List Nat} {a j : Nat} {t : List Nat} (h : Vd.nAt g j ≠ Vd.nAt g a) : Vd.joinL g a (j :: t) = Vd.joinL (g.map (Vd.turnG (Vd.nAt g j) (Vd.nAt g a))) a t := by conv => lhs; unfold Vd.joinL; rw [if_neg h]

/-- what join holds: the struct, its groups, those that are joined. -/
structure JN (w wr : World) (lb gb gc base jb jc : Nat) (n : Nat) (js g : List Nat) : Prop where
  fr : Fr (· = gb) w wr
  row : VRow wr lb 184 [.slice (some ⟨gb, 0, none⟩) n gc]
  own : wr.ownsRow base 3 1 (.slice (some ⟨gb, 0, none⟩) n gc) n (flatG intC g)
  len : g.length = n
  jx : ∀ (i j : Nat), js[i]? = some j → wr.cell? ⟨jb, i, none⟩ = some (.int .i64 j)
  ne : lb ≠ gb
  nj : jb ≠ gb
theorem JN.cell {w wr : World} {lb gb gc base jb jc n : Nat} {js g : List Nat} (h : JN w wr lb gb gc base jb jc n js g) {i m : Nat} (hi : g[i]? = some m) : wr.cell? ⟨gb, i, none⟩ = some (.int .i64 m) := by
  have h2 := h.own
  rw [← h.len] at h2
  obtain ⟨g', cap', e', hc⟩ := own_cell h2 (by have := Pl.lt_of_some hi; omega)
  cases e'
  exact hc i _ (fI_at hi)
theorem JN.drew {w wr : World} {lb gb gc base jb jc n : Nat} {js g : List Nat} (h : JN w wr lb gb gc base jb jc n js g) (k : Nat) : JN w (wr.drewN k) lb gb gc base jb jc n js g :=
  ⟨h.fr.drewN k, h.row, own_up h.own ((Up.refl _).drewN k), h.len, h.jx, h.ne, h.nj⟩
theorem JN.set {w wr : World} {lb gb gc base jb jc n : Nat} {js g : List Nat} (h : JN w wr lb gb gc base jb jc n js g) {i : Nat} (hi : i < n) (m : Nat) : JN w (wr.setCell ⟨gb, i, none⟩ (.int .i64 m)) lb gb gc base jb jc n js (g.set i m) := by
  refine ⟨h.fr.setCell rfl _, h.row.setOther h.ne _, ?_, by simp [h.len], fun x y hx => ?_, h.ne, h.nj⟩
  · rw [fI_set]; exact own_stored h.own rfl hi _
  · have := h.jx x y hx
    rw [World.cell?_of_block (Below.heap_setCell _ _ _ _ (by show jb ≠ gb; exact h.nj))]
    exact this

set_option maxHeartbeats 8000000 in
theorem join_any (lb gb gc base jb jc n : Nat) (a : Nat) (t g : List Nat) (w : World) (h0 : JN w w lb gb gc base jb jc n (a :: t) g) (hn : n ≤ 1048576) (ht : t.length < 1048576) (hj : ∀ j ∈ a :: t, j < n) :
    Calls Tryz.prog 159 #[.pointer (some ⟨lb, 0, none⟩), .slice (some ⟨jb, 0, none⟩) (t.length + 1) jc] w fun e w' => e = .returned (.bool (Vd.join g (a :: t)).isSome) ∧ Fr (· = gb) w w' ∧ ∀ g', Vd.join g (a :: t) = some g' → JN w w' lb gb gc base jb jc n (a :: t) g' := by
  have H0 := hide h0
  have HJ := hide hj
  have HE : Hid (Vd.join g (a :: t) = Vd.joinL g a t) := rfl
  clear h0 hj
  go_enter Tryz.func159, Tryz.ntmps159
  go_wp2
  go_loopw [5] (fun i wr => ∃ (k : Nat) (c : List Nat), i = .int .i64 ((k : Int) + 1) ∧ k ≤ t.length ∧ Hid (JN w wr lb gb gc base jb jc n (a :: t) c) ∧ Hid (Vd.join g (a :: t) = Vd.joinL c a (t.drop k))) (fun i _ => t.length + 1 - (intOf i).toNat)
  case atStart => exact ⟨0, g, rfl, Nat.zero_le _, H0, HE⟩
  case round =>
    obtain ⟨k, c, rfl, hk, HN, HX⟩ := hrel
    by_cases hlt : k < t.length
    · obtain ⟨j, hj⟩ := Pl.some_of_lt hlt
      have hjn := HJ.out j (by simp [Pl.mem_of_some hj])
      have han := HJ.out a (by simp)
      have hcl := HN.out.len
      obtain ⟨mj, hmj⟩ := Pl.some_of_lt (show j < c.length by omega)
      obtain ⟨ma, hma⟩ := Pl.some_of_lt (show a < c.length by omega)
      have c0 := HN.out.row.cell (i := 0) rfl
      have c1 := HN.out.jx (k + 1) j (by simpa using hj)
      have c2 := HN.out.jx 0 a rfl
      have c3 := HN.out.cell hmj
      have c4 := HN.out.cell hma
      have HD := hide (drop_at hj)
      have Hj := hide (nAt_some hmj)
      have Ha := hide (nAt_some hma)
      have i1 : (0 : Int) ≤ (k : Int) + 1 := by omega
      have i2 : (k : Int) + 1 < (t.length : Int) + 1 := by omega
      have i3 : (0 : Int) ≤ (j : Int) := by omega
      have i4 : (j : Int) < (n : Int) := by omega
      have i5 : (0 : Int) ≤ (a : Int) := by omega
      have i6 : (a : Int) < (n : Int) := by omega
      have i7 : (0 : Int) < (t.length : Int) + 1 := by omega
      have Hcl := hide hcl
      clear hj hmj hma hcl
      go_wp2
      go_quiet (fail)
      go_wp2
      go_quiet (fail)
      have HNd := hide (fun m => HN.out.drew m)
      by_cases hm : mj = ma
      · have HR : Hid (Vd.join g (a :: t) = none) := by rw [HX.out, HD.out]; exact joinL_same (by rw [Hj.out, Ha.out, hm])
        subst hm
        go_wp2
        go_ret
        exact ⟨ret_b (by rw [HR.out]; rfl), (HNd.out _).fr, fun g' h => by rw [HR.out] at h; cases h⟩
      · have HR : Hid (Vd.join g (a :: t) = Vd.joinL (c.map (Vd.turnG mj ma)) a (t.drop (k + 1))) := by
          rw [HX.out, HD.out, joinL_go (by rw [Hj.out, Ha.out]; exact hm), Hj.out, Ha.out]; exact rfl
        have hm' : ((mj : Int) == (ma : Int)) = false := beq_eq_false_iff_ne.2 (by omega)
        go_wp2
        clear c0 c1 c2 c3 c4 i3 i4 i5 i6 i7 hm'
        go_loopw [43] (fun i wr => ∃ q : Nat, i = .int .i64 q ∧ q ≤ n ∧ Hid (JN w wr lb gb gc base jb jc n (a :: t) (tgN c mj ma q))) (fun i _ => n - (intOf i).toNat)
        case atStart => exact ⟨0, rfl, Nat.zero_le _, by have := HNd.out; unfold tgN; rw [List.take_zero, List.drop_zero]; exact this _⟩
        case round =>
          obtain ⟨q, rfl, hq, HQ⟩ := hrel
          by_cases hlq : q < n
          · obtain ⟨x, hx⟩ := Pl.some_of_lt (show q < c.length by rw [Hcl.out]; exact hlq)
            have d0 := HQ.out.row.cell (i := 0) rfl
            have d1 := HQ.out.cell (tgN_at hx)
            have df := own_frozen HQ.out.own rfl
            have i8 : (q : Int) < (n : Int) := by omega
            by_cases hxm : x = mj
            · subst hxm
              have HY := hide (tgN_yes (f := ma) hx)
              clear hx
              go_wp2
              go_roundw
              case rel => exact ⟨q + 1, by go_num, by omega, by rw [HY.out]; exact HQ.out.set hlq ma⟩
              case measure => simp [intOf]; omega
            · have HY := hide (tgN_no (f := ma) hx hxm)
              have hxm' : ((x : Int) == (mj : Int)) = false := beq_eq_false_iff_ne.2 (by omega)
              clear hx
              go_wp2
              go_roundw
              case rel => exact ⟨q + 1, by go_num, by omega, by rw [HY.out]; exact HQ⟩
              case measure => simp [intOf]; omega
          · have hq2 : q = c.length := by have := Hcl.out; omega
            subst hq2
            rw [tgN_all] at HQ
            go_wp2
            go_roundw
            case rel => exact ⟨k + 1, _, by go_num, by omega, HQ, HR⟩
            case measure => simp [intOf]; omega
    · have hk2 : k = t.length := by omega
      subst hk2
      rw [List.drop_length] at HX
      have HR : Hid (Vd.join g (a :: t) = some c) := HX.out
      go_wp2
      go_ret
      exact ⟨ret_b (by rw [HR.out]; rfl), HN.out.fr, fun g' h => by rw [HR.out] at h; cases h; exact HN.out⟩
end Go.Proofs.YtcclepohmhdpbaaGreatDoor

/- THE WALKS: package clauses: hasWayRound. -/
namespace Go.Proofs.YtcclepohmhdpbaaGreatDoor
set_option linter.all false
open Go.RowKit Go.Deep

theorem touch_more {l : Poly} {p : Pnt} (h : p ∈ Vd.touchPts l) : 1 < (Vd.ringsAt l p).length := by
  have := ((Vd.touch_fold l l.flatten [] List.nodup_nil (by simp)).2 p).1 h
  simpa using this.elim (fun x => by cases x) (fun x => x.2)
theorem touch_in {l : Poly} {p : Pnt} (h : p ∈ Vd.touchPts l) : p ∈ l.flatten := by
  have := ((Vd.touch_fold l l.flatten [] List.nodup_nil (by simp)).2 p).1 h
  exact this.elim (fun x => by cases x) (fun x => x.1)
theorem touch_len (l : Poly) : (Vd.touchPts l).length ≤ l.flatten.length := by
  have := tpN_len l l.flatten []
  rw [List.length_nil, Nat.zero_add] at this
  exact this
theorem fI_range (k : Nat) : flatG intC (List.range (k + 1)) = flatG intC (List.range k) ++ [.int .i64 (k : Int)] := by rw [List.range_succ, flatG_append]; rfl
theorem wayL_none {l : Poly} {p : Pnt} {t : List Pnt} {g : List Nat} (h : Vd.join g (Vd.ringsAt l p) = none) : Vd.wayL l (p :: t) g = true := by unfold Vd.wayL; rw [h]
theorem wayL_some {l : Poly} {p : Pnt} {t : List Pnt} {g g' : List Nat} (h : Vd.join g (Vd.ringsAt l p) = some g') : Vd.wayL l (p :: t) g = Vd.wayL l t g' := by conv => lhs; unfold Vd.wayL; rw [h]
theorem ringsAt_lt {l : Poly} {p : Pnt} {j : Nat} (h : j ∈ Vd.ringsAt l p) : j < l.length := (((Vd.at_ringsAt l).mem j p).1 h).1

/-- what hasWayRound holds. -/
structure WY (w wr : World) (gv : Value) (g : List Nat) : Prop where
  up : Up w wr
  row : VRow wr w.heap.size 184 [gv]
  own : wr.ownsRow w.heap.size 3 1 gv g.length (flatG intC g)
theorem WY.keep {w wr w2 : World} {gv : Value} {g : List Nat} (h : WY w wr gv g) (k : Up wr w2) : WY w w2 gv g := ⟨h.up.trans k, h.row.up k, own_up h.own k⟩

set_option maxHeartbeats 8000000 in
theorem way_any (v : Value) (l : Poly) (w : World) (hv : Rd2 w v l) (hl : l.length ≤ 1048576) (hl2 : ∀ r ∈ l, r.length ≤ 1048576) (hf : l.flatten.length ≤ 1048576) (hc : Vd.CdL l) :
    Calls Tryz.prog 124 #[v] w fun e w' => e = .returned (.bool (Vd.way l)) ∧ Up w w' := by
  have HV := hide hv
  have HC := hide hc
  have HL := hide hl2
  have HF := hide hf
  have HW : Hid (Vd.way l = Vd.wayL l (Vd.touchPts l) (List.range l.length)) := rfl
  obtain ⟨ao, cap, rfl, -⟩ := hv
  clear hc hl2 hf
  have H0 : Hid (WY w (w.alloc (.cells #[.slice none 0 0] 184)) (.slice none 0 0) (List.range 0)) :=
    ⟨(Up.refl _).alloc _, new_row (vs := [_]) rfl, World.ownsRow_nil _ _ _ _⟩
  go_enter Tryz.func124, Tryz.ntmps124
  go_wp2
  go_loopw [9] (fun i wr => ∃ (k : Nat) (gv : Value), i = .int .i64 k ∧ k ≤ l.length ∧ Hid (WY w wr gv (List.range k))) (fun i _ => l.length - (intOf i).toNat)
  case atStart => exact ⟨0, _, rfl, Nat.zero_le _, H0⟩
  case round =>
    clear H0
    obtain ⟨k, gv, rfl, hk, HN⟩ := hrel
    by_cases hlt : k < l.length
    · have c0 := HN.out.row.cell (i := 0) rfl
      have HOA : Hid ((wr.alloc (.cells #[.int .i64 (k : Int)] 3)).ownsRow w.heap.size 3 1 gv k (flatG intC (List.range k))) := by
        have := HN.out.own.alloc (.cells #[.int .i64 (k : Int)] 3)
        rw [List.length_range] at this
        exact this
      have hb : Hid (k ≤ 1073741824) := by show _ ≤ _; omega
      have hsz := hide HN.out.up.size
      have RA := hide (HN.out.row.alloc (.cells #[.int .i64 (k : Int)] 3))
      go_wp2_with (at_builtin; refine wpList_app el_ints rfl (.tmp 13) (.tmp 15) rfl w.heap.size _ _ _ (by rfl) HOA.out wr.heap.size [.int .i64 (k : Int)] (by rfl) rfl (heap_alloc_new wr _) (by intro x hx; simp at hx; subst hx; rfl) hb.out (by simp; have := hsz.out; omega) ?_; intro g cap w5 hown5 hg5 hat5 hlt5; have R5 := hide (RA.out.grown hg5 (own_row_ne HOA.out RA.out (by decide))); have d0 := R5.out.cell (i := 0) rfl; have df := R5.out.frozen 0; replace hown5 := hide hown5; replace hg5 := hide hg5; clear hat5 hlt5)
      go_roundw
      case rel =>
        refine ⟨k + 1, .slice (some ⟨g, 0, none⟩) (k + 1) cap, by go_num, by omega, ?_, ?_, ?_⟩
        · exact (Fr.up (S := fun _ => False) (((Fr.of_up HN.out.up).alloc _).grown hg5.out fun x hx => .inr (own_lt HOA.out hx).1) (fun _ _ h => h)).setCell (Nat.le_refl _) _
        · exact R5.out.set 0 _
        · rw [List.length_range, fI_range]
          exact own_set hown5.out (own_row_ne hown5.out R5.out (by decide)) _
      case measure => simp [intOf]; omega
    · have hk2 : k = l.length := by omega
      subst hk2
      go_wp2_with fail
      refine (touchPoints_any _ l _ (HV.out.up HN.out.up) hl HL.out HF.out HC.out).mono ?_
      rintro e w2 ⟨tv, rfl, hz2, hto⟩
      obtain ⟨ta, tc, rfl⟩ := own_len hto
      have HN2 := hide (HN.out.keep hz2)
      have HTo := hide hto
      have HTb := hide HN.out.up.size
      have htl : (Vd.touchPts l).length ≤ 1048576 := Nat.le_trans (touch_len l) HF.out
      have HM : Hid (∀ i p, (Vd.touchPts l)[i]? = some p → 1 < (Vd.ringsAt l p).length ∧ Vd.Cd p) := fun i p hp => ⟨touch_more (Pl.mem_of_some hp), by
        obtain ⟨r, h1, h2⟩ := List.mem_flatten.1 (touch_in (Pl.mem_of_some hp)); exact HC.out r h1 p h2⟩
      generalize Vd.touchPts l = T at *
      clear hz2 hto HN
      go_wp2_with fail
      go_loopw [22] (fun i wq => ∃ (k : Nat) (g : List Nat), i = .int .i64 k ∧ k ≤ T.length ∧ Hid (WY w wq gv g) ∧ Hid (g.length = l.length) ∧ Hid (wq.ownsRow wr.heap.size 32 2 (.slice ta T.length tc) T.length (flat T)) ∧ Hid (Vd.way l = Vd.wayL l (T.drop k) g)) (fun i _ => T.length - (intOf i).toNat)
      case atStart => exact ⟨0, _, rfl, Nat.zero_le _, HN2, List.length_range, HTo, HW⟩
      case round =>
        clear HN2 HTo
        obtain ⟨k, g, rfl, hk, HN, HG, HTo, HX⟩ := hrel
        by_cases hlt : k < T.length
        · obtain ⟨⟨px, py⟩, hp⟩ := Pl.some_of_lt hlt
          obtain ⟨hrn, hcp⟩ := HM.out k _ hp
          obtain ⟨ta', tc', ev, htr⟩ := own_rd1 HTo.out
          cases ev
          obtain ⟨b, rfl, c0, c1⟩ := htr k _ hp
          dsimp only at c0 c1
          have HCp := hide hcp
          have HD := hide (drop_at hp)
          have Hrn := hide hrn
          clear hp hcp hrn htr
          go_wp2_with fail
          refine (ringsAt_any _ l (px, py) _ ((HV.out.up HN.out.up).up ((Up.refl _).alloc _)) hl HL.out HC.out HCp.out).mono ?_
          rintro e w3 ⟨jv, rfl, hz3, hjo⟩
          obtain ⟨a, t, hJ⟩ : ∃ a t, Vd.ringsAt l (px, py) = a :: t := by
            cases hr : Vd.ringsAt l (px, py) with
            | nil => have := Hrn.out; rw [hr] at this; simp at this
            | cons a t => exact ⟨a, t, rfl⟩
          have HJL := hide (fun j (h : j ∈ Vd.ringsAt l (px, py)) => ringsAt_lt h)
          have hjl := ringsAt_len l (px, py)
          have HWn := hide (fun t' g' => wayL_none (l := l) (p := (px, py)) (t := t') (g := g'))
          have HWs := hide (fun t' g' g'' => wayL_some (l := l) (p := (px, py)) (t := t') (g := g') (g' := g''))
          rw [hJ] at hjo HJL hjl HWn HWs
          obtain ⟨jb, jc, ej, hjc⟩ := own_cell hjo (by simp)
          subst ej
          have hn0 : 0 < g.length := by
            rw [HG.out]
            have := HJL.out a (by simp)
            omega
          obtain ⟨gb, gc, eg, -⟩ := own_cell HN.out.own hn0
          subst eg
          have hgn := HG.out
          rw [hgn] at HN
          have hgb : w.heap.size ≤ gb ∧ gb < wr.heap.size := own_lt HN.out.own rfl
          have hjb : wr.heap.size + 1 ≤ jb ∧ jb < w3.heap.size := by have := own_lt hjo (g := jb) rfl; simpa using this
          have HN3 := hide (HN.out.keep (((Up.refl _).alloc _).trans hz3))
          have hne : w.heap.size ≠ gb := fun e => own_row_ne HN.out.own HN.out.row (by decide) (by rw [e]; rfl)
          have HJ : Hid (JN w3 w3 w.heap.size gb gc w.heap.size jb jc l.length (a :: t) g) := by
            refine ⟨Fr.refl _ _, HN3.out.row, ?_, HG.out, fun i j hj => hjc i _ (fI_at hj), hne, by omega⟩
            have := HN3.out.own
            rw [hgn] at this
            exact this
          have HTo3 := hide (own_up HTo.out (((Up.refl _).alloc _).trans hz3))
          have Hgb := hide hgb
          clear hjo hz3 hjc hgn hn0 hne hgb hjb c0 c1 HN HTo
          simp only [List.length_cons] at hjl
          go_wp2_with fail
          refine (join_any w.heap.size gb gc w.heap.size jb jc l.length a t g _ HJ.out hl (by omega) HJL.out).mono ?_
          rintro e w4 ⟨rfl, hfr, hjn⟩
          have HU4 : Hid (Up w w4) := Fr.up (S := fun b => b = gb) ((Fr.of_up HN3.out.up).trans hfr) (fun x hx e => by have := Hgb.out; omega)
          have HTo4 := hide (own_fr HTo3.out hfr fun x hx e => by
            have h1 := own_type HTo3.out hx
            have h2 := own_type HN3.out.own (g := gb) rfl
            obtain ⟨q1, h1⟩ := h1
            obtain ⟨q2, h2⟩ := h2
            rw [e, h2] at h1
            simp at h1)
          cases hj : Vd.join g (a :: t) with
          | none =>
            have HR : Hid (Vd.way l = true) := by rw [HX.out, HD.out]; exact HWn.out _ _ hj
            clear hjn hfr
            go_wp2
            go_ret
            exact ⟨ret_b HR.out.symm, HU4.out⟩
          | some g' =>
            have HR : Hid (Vd.way l = Vd.wayL l (T.drop (k + 1)) g') := by rw [HX.out, HD.out]; exact HWs.out _ _ _ hj
            have HJ4 := hide (hjn g' hj)
            clear hjn hfr
            go_wp2
            go_roundw
            case rel =>
              refine ⟨k + 1, g', by go_num, by omega, ?_, HJ4.out.len, HTo4, HR⟩
              rw [HG.out]
              exact ⟨HU4.out, HJ4.out.row, by have := HJ4.out.own; rw [HJ4.out.len]; exact this⟩
            case measure => simp [intOf]; omega
        · have hk2 : k = T.length := by omega
          subst hk2
          rw [List.drop_length] at HX
          have HR : Hid (Vd.way l = false) := HX.out
          go_wp2
          go_ret
          exact ⟨ret_b HR.out.symm, HN.out.up⟩
end Go.Proofs.YtcclepohmhdpbaaGreatDoor

/- THE WALKS: package clauses: isFree, boundsCross, enters. -/
namespace Go.Proofs.YtcclepohmhdpbaaGreatDoor
set_option linter.all false
open Go.RowKit Go.Deep

theorem freeL_on {r : Ring} {t : List Ring} {b f : Bool} {p : Vd.Spot} (h : Vd.place r p = 1) : Vd.freeL (r :: t) b f p = false := by unfold Vd.freeL; rw [if_pos h]
theorem freeL_go {r : Ring} {t : List Ring} {b f : Bool} {p : Vd.Spot} (h : Vd.place r p ≠ 1) : Vd.freeL (r :: t) b f p = Vd.freeL t false (f || (b && decide (Vd.place r p = 0)) || (!b && decide (Vd.place r p = 2))) p := by conv => lhs; unfold Vd.freeL; rw [if_neg h]
theorem place_range (r : Ring) (p : Vd.Spot) : ∀ (l : List Vd.Seg) (i : Bool), Vd.placeL l i p = 0 ∨ Vd.placeL l i p = 1 ∨ Vd.placeL l i p = 2 := by
  intro l
  induction l with
  | nil => intro i; cases i <;> simp [Vd.placeL]
  | cons s l ih =>
    intro i
    unfold Vd.placeL
    split
    · simp
    · exact ih _

set_option maxHeartbeats 8000000 in
theorem free_any (v : Value) (l : Poly) (p : Vd.Spot) (w : World) (hv : Rd2 w v l) (hl : l.length ≤ 1048576) (hl2 : ∀ r ∈ l, r.length ≤ 1048576) (hc : Vd.CdL l) (hp : Vd.Sp p) :
    Calls Tryz.prog 163 #[v, spotV p] w fun e w' => e = .returned (.bool (Vd.free l p)) ∧ Up w w' := by
  obtain ⟨ao, cap, rfl, hm⟩ := hv
  have HM := hide hm
  have HC := hide hc
  have HL := hide hl2
  have HP := hide hp
  obtain ⟨⟨x, y⟩, t⟩ := p
  clear hm hc hl2 hp
  simp only [spotV]
  have R0 := hide (new_row (w := w) (o := .cells #[.int .i64 x, .int .i64 y, .int .i64 t] 127) (vs := [.int .i64 x, .int .i64 y, .int .i64 t]) rfl)
  have HU0 : Hid (Up w (w.alloc (.cells #[.int .i64 x, .int .i64 y, .int .i64 t] 127))) := (Up.refl _).alloc _
  go_enter Tryz.func163, Tryz.ntmps163
  go_wp2
  go_loopw [5, 11] (fun fv i wr => ∃ (k : Nat) (f : Bool), i = .int .i64 k ∧ fv = .bool f ∧ k ≤ l.length ∧ Hid (Up w wr) ∧ Hid (VRow wr w.heap.size 127 [.int .i64 x, .int .i64 y, .int .i64 t]) ∧ Hid (Vd.free l ((x, y), t) = Vd.freeL (l.drop k) (decide (k = 0)) f ((x, y), t))) (fun _ i _ => l.length - (intOf i).toNat)
  case atStart => exact ⟨0, false, rfl, rfl, Nat.zero_le _, HU0, R0, rfl⟩
  case round =>
    clear HU0 R0
    obtain ⟨k, f, rfl, rfl, hk, HU, R0, HE⟩ := hrel
    by_cases hlt : k < l.length
    · obtain ⟨r, hr⟩ := Pl.some_of_lt hlt
      obtain ⟨b, z, rfl, cu, hz⟩ := HM.out k r hr
      have Hz := hide (hz.up HU.out)
      have cu2 := HU.out.cell cu
      have HrL := hide (HL.out r (Pl.mem_of_some hr))
      have HrC := hide (HC.out r (Pl.mem_of_some hr))
      have p0 := R0.out.cell (i := 0) rfl
      have p1 := R0.out.cell (i := 1) rfl
      have p2 := R0.out.cell (i := 2) rfl
      rw [drop_at hr] at HE
      clear hr cu hz
      go_wp2_with fail
      refine (place_any _ r ((x, y), t) _ Hz.out HrL.out HrC.out HP.out).mono ?_
      rintro e w2 ⟨rfl, hz2⟩
      have HU2 := hide (HU.out.trans hz2)
      have R2 := hide (R0.out.up hz2)
      clear hz2 cu2 p0 p1 p2
      by_cases h1 : Vd.place r ((x, y), t) = 1
      · have HR := hide (HE.out.trans (freeL_on h1))
        rw [h1]
        go_wp2
        go_ret
        exact ⟨ret_b HR.out.symm, HU2.out⟩
      · have HR := hide (HE.out.trans (freeL_go h1))
        generalize Vd.place r ((x, y), t) = P at *
        have h1' := beq_eq_false_iff_ne.2 h1
        by_cases hk0 : k = 0
        · have HK := hide hk0
          rw [decide_eq_true hk0] at HR
          have j1 : ((k : Int) == 0) = true := beq_iff_eq.2 (by omega)
          clear hk0
          by_cases h0 : P = 0
          · have HR2 : Hid (Vd.free l ((x, y), t) = Vd.freeL (l.drop (k + 1)) (decide (k + 1 = 0)) true ((x, y), t)) := by
              rw [HR.out, h0]; simp [Hid]
            subst h0
            go_wp2
            go_roundw
            case rel => exact ⟨k + 1, true, by rw [HK.out]; rfl, rfl, by omega, HU2, R2, HR2⟩
            case measure => simp [intOf]; omega
          · have HR2 : Hid (Vd.free l ((x, y), t) = Vd.freeL (l.drop (k + 1)) (decide (k + 1 = 0)) f ((x, y), t)) := by
              rw [HR.out]; simp [Hid, h0]
            have h0' := beq_eq_false_iff_ne.2 h0
            go_wp2
            go_roundw
            case rel => exact ⟨k + 1, f, by rw [HK.out]; rfl, rfl, by omega, HU2, R2, HR2⟩
            case measure => simp [intOf]; omega
        · rw [decide_eq_false hk0] at HR
          have j1 : ((k : Int) == 0) = false := beq_eq_false_iff_ne.2 (by omega)
          have j2 : (0 : Int) < (k : Int) := by omega
          clear hk0
          by_cases h2 : P = 2
          · have HR2 : Hid (Vd.free l ((x, y), t) = Vd.freeL (l.drop (k + 1)) (decide (k + 1 = 0)) true ((x, y), t)) := by
              rw [HR.out, h2]; simp [Hid]
            subst h2
            go_wp2
            go_roundw
            case rel => exact ⟨k + 1, true, by go_num, rfl, by omega, HU2, R2, HR2⟩
            case measure => simp [intOf]; omega
          · have HR2 : Hid (Vd.free l ((x, y), t) = Vd.freeL (l.drop (k + 1)) (decide (k + 1 = 0)) f ((x, y), t)) := by
              rw [HR.out]; simp [Hid, h2]
            have h2' := beq_eq_false_iff_ne.2 h2
            go_wp2
            go_roundw
            case rel => exact ⟨k + 1, f, by go_num, rfl, by omega, HU2, R2, HR2⟩
            case measure => simp [intOf]; omega
    · have hk2 : k = l.length := by omega
      subst hk2
      rw [List.drop_length] at HE
      go_wp2
      go_ret
      exact ⟨ret_b HE.out.symm, HU.out⟩

set_option maxHeartbeats 4000000 in
theorem bounds_any (v u : Value) (a c : Poly) (w : World) (hv : Rd2 w v a) (hu : Rd2 w u c) (hl : a.length ≤ 1048576) (hl2 : ∀ r ∈ a, r.length ≤ 1048576) (hm : c.length ≤ 1048576) (hm2 : ∀ r ∈ c, r.length ≤ 1048576) (hc : Vd.CdL a) (hd : Vd.CdL c) :
    Calls Tryz.prog 125 #[v, u] w fun e w' => e = .returned (.bool (Vd.boundsX a c)) ∧ Up w w' := by
  obtain ⟨ao, cap, rfl, hM⟩ := hv
  obtain ⟨ao2, cap2, rfl, hM2⟩ := hu
  have HM := hide hM
  have HM2 := hide hM2
  have HC := hide hc
  have HL := hide hl2
  have HD := hide hd
  have HL2 := hide hm2
  have HT : Hid (Vd.boundsX a c = a.any fun r => c.any fun o => Vd.cross r o) := rfl
  generalize hf : (fun r => c.any fun o => Vd.cross r o) = f at *
  have HF : Hid (∀ s, f s = c.any fun o => Vd.cross s o) := by subst hf; exact fun _ => rfl
  clear hM hM2 hc hd hl2 hm2 hf
  go_enter Tryz.func125, Tryz.ntmps125
  go_wp2
  go_loopw [11] (fun i wr => ∃ k : Nat, i = .int .i64 k ∧ k ≤ a.length ∧ Hid (Up w wr) ∧ Hid ((a.take k).any f = false)) (fun i _ => a.length - (intOf i).toNat)
  case atStart => exact ⟨0, rfl, Nat.zero_le _, Up.refl _, rfl⟩
  case round =>
    obtain ⟨k, rfl, hk, HU, HA⟩ := hrel
    by_cases hlt : k < a.length
    · obtain ⟨r, hr⟩ := Pl.some_of_lt hlt
      obtain ⟨b, z, rfl, cu, hz⟩ := HM.out k r hr
      obtain ⟨za, zc, rfl, -⟩ := id hz
      have Hz := hide hz
      have cu2 := HU.out.cell cu
      have Hr := hide hr
      have HrL := hide (HL.out r (Pl.mem_of_some hr))
      have HrC := hide (HC.out r (Pl.mem_of_some hr))
      have HX := hide (Pl.any_take_succ f hr)
      clear hr cu hz
      go_wp2
      clear cu2
      go_loopw [17] (fun i wr => ∃ q : Nat, i = .int .i64 q ∧ q ≤ c.length ∧ Hid (Up w wr) ∧ Hid ((c.take q).any (fun o => Vd.cross r o) = false)) (fun i _ => c.length - (intOf i).toNat)
      case atStart => exact ⟨0, rfl, Nat.zero_le _, HU, rfl⟩
      case round =>
        clear HU
        obtain ⟨q, rfl, hq, HU, HB⟩ := hrel
        by_cases hlq : q < c.length
        · obtain ⟨o, ho⟩ := Pl.some_of_lt hlq
          obtain ⟨b', z', rfl, cu, hz⟩ := HM2.out q o ho
          have Hz2 := hide (hz.up HU.out)
          have HzU := hide (Hz.out.up HU.out)
          have cu2 := HU.out.cell cu
          have HoL := hide (HL2.out o (Pl.mem_of_some ho))
          have HoC := hide (HD.out o (Pl.mem_of_some ho))
          have HY := hide (Pl.any_take_succ (fun o => Vd.cross r o) ho)
          have Ho := hide ho
          clear ho cu hz
          cases hx : Vd.cross r o
          · have Hx := hide hx
            clear hx
            go_wp2_with (go_at_call 156; refine (cross_any _ _ r o _ HzU.out Hz2.out HrL.out HoL.out HrC.out HoC.out).mono ?_; rintro e w2 ⟨rfl, hz2⟩; rw [Hx.out]; replace hz2 := hide hz2)
            go_roundw
            case rel => exact ⟨q + 1, by go_num, by omega, HU.out.trans hz2.out, by rw [HY.out, HB.out, Hx.out]; exact rfl⟩
            case measure => simp [intOf]; omega
          · have Hx := hide hx
            have HR : Hid (Vd.boundsX a c = true) := by rw [HT.out]; exact Pl.any_true_of f Hr.out (by rw [HF.out]; exact Pl.any_true_of _ Ho.out hx)
            clear hx
            go_wp2_with (go_at_call 156; refine (cross_any _ _ r o _ HzU.out Hz2.out HrL.out HoL.out HrC.out HoC.out).mono ?_; rintro e w2 ⟨rfl, hz2⟩; rw [Hx.out]; replace hz2 := hide hz2)
            go_ret
            exact ⟨ret_b HR.out.symm, HU.out.trans hz2.out⟩
        · have hq2 : q = c.length := by omega
          subst hq2
          rw [List.take_length] at HB
          go_wp2
          go_roundw
          case rel => exact ⟨k + 1, by go_num, by omega, HU, by rw [HX.out, HA.out, HF.out, HB.out]; exact rfl⟩
          case measure => simp [intOf]; omega
    · have hk2 : k = a.length := by omega
      subst hk2
      rw [List.take_length] at HA
      have HR : Hid (Vd.boundsX a c = false) := by rw [HT.out]; exact HA.out
      go_wp2
      go_ret
      exact ⟨ret_b HR.out.symm, HU.out⟩
end Go.Proofs.YtcclepohmhdpbaaGreatDoor
