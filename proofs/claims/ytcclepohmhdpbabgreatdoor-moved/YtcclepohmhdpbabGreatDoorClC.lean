import Derived.Test.YtcclepohmhdpbabGreatDoorClB
namespace Go.Proofs.YtcclepohmhdpbabGreatDoor
set_option linter.all false
open Go.RowKit Go.Deep
theorem cross_two {s t : Vd.Seg} (h : Vd.meetS s t = 2) : Vd.crossS s t = true := by unfold Vd.crossS; rw [h]; rfl
theorem cross_three {s t : Vd.Seg} (h : Vd.meetS s t = 3) : Vd.crossS s t = true := by unfold Vd.crossS; rw [h]; rfl
theorem cross_no {s t : Vd.Seg} (h2 : Vd.meetS s t ≠ 2) (h3 : Vd.meetS s t ≠ 3) : Vd.crossS s t = false := by unfold Vd.crossS; simp [h2, h3]
set_option maxHeartbeats 8000000 in
theorem cross_any (v u : Value) (r o : Ring) (w : World) (hv : Rd1 w v r) (hu : Rd1 w u o) (hr : r.length ≤ 1048576) (hr2 : o.length ≤ 1048576) (hc : Vd.CdR r) (hc2 : Vd.CdR o) :
    Calls Tryz.prog 94 #[v, u] w fun e w' => e = .returned (.bool (Vd.cross r o)) ∧ Up w w' := by
  have HV := hide hv
  have HV2 := hide hu
  have HT : Hid (Vd.cross r o = (Vd.segs r).any fun s => (Vd.segs o).any fun t => Vd.crossS s t) := rfl
  have hsl : (Vd.segs r).length ≤ 1048576 := by rw [Vd.segs_len]; omega
  have hsl2 : (Vd.segs o).length ≤ 1048576 := by rw [Vd.segs_len]; omega
  have HC1 : Hid (∀ i s, (Vd.segs r)[i]? = some s → Vd.CdS s) := fun i s hs => Vd.segs_cd hc (Pl.mem_of_some hs)
  have HC2 : Hid (∀ i s, (Vd.segs o)[i]? = some s → Vd.CdS s) := fun i s hs => Vd.segs_cd hc2 (Pl.mem_of_some hs)
  obtain ⟨ao, cap, rfl, -⟩ := HV.out
  obtain ⟨ao2, cap2, rfl, -⟩ := HV2.out
  clear hv hu hc hc2
  go_enter Tryz.func94, Tryz.ntmps94
  go_wp2_with fail
  refine (segments_any _ o _ HV2.out hr2).mono ?_
  rintro e w1 ⟨sv, rfl, u1, ho⟩
  obtain ⟨sa, sc, es⟩ := own_len ho
  subst es
  have HR2 := hide (own_rdG (f := segC) (fun _ => rfl) ho)
  have HU1 := hide u1
  clear ho u1
  go_wp2_with fail
  refine (segments_any _ r _ (HV.out.up HU1.out) hr).mono ?_
  rintro e w2 ⟨sv, rfl, u2, ho⟩
  obtain ⟨sa2, sc2, es⟩ := own_len ho
  subst es
  have HR1 := hide (own_rdG (f := segC) (fun _ => rfl) ho)
  have HR2 := hide (HR2.out.up u2)
  have HU2 := hide (HU1.out.trans u2)
  generalize Vd.segs r = L at *
  generalize Vd.segs o = M at *
  generalize hf : (fun s => M.any fun t => Vd.crossS s t) = f at *
  have HF : Hid (∀ s, f s = M.any fun t => Vd.crossS s t) := by subst hf; exact fun _ => rfl
  clear ho u2 hf HU1
  go_wp2_with fail
  go_loopw [16] (fun i wr => ∃ k : Nat, i = .int .i64 k ∧ k ≤ L.length ∧ Hid (Up w2 wr) ∧ Hid ((L.take k).any f = false)) (fun i _ => L.length - (intOf i).toNat)
  case atStart => exact ⟨0, rfl, Nat.zero_le _, Up.refl _, rfl⟩
  case round =>
    obtain ⟨k, rfl, hk, HU, HA⟩ := hrel
    by_cases hlt : k < L.length
    · obtain ⟨⟨⟨ax, ay⟩, ⟨bx, bY⟩⟩, hs⟩ := Pl.some_of_lt hlt
      obtain ⟨g, cap', ev, c0, c1, c2, c3⟩ := (HR1.out.up HU.out).seg hs
      cases ev
      have HCk := hide (HC1.out _ _ hs)
      have Hk := hide hs
      have HX := hide (Pl.any_take_succ f hs)
      simp only at c0 c1 c2 c3
      clear hs
      go_wp2_with fail
      have RT := hide (new_row (w := wr) (o := .cells #[.int .i64 ax, .int .i64 ay, .int .i64 bx, .int .i64 bY] 98) (vs := [.int .i64 ax, .int .i64 ay, .int .i64 bx, .int .i64 bY]) rfl)
      have HUa : Hid (Up w2 (wr.alloc (.cells #[.int .i64 ax, .int .i64 ay, .int .i64 bx, .int .i64 bY] 98))) := HU.out.alloc _
      generalize hB : wr.heap.size = B at *
      clear hB c0 c1 c2 c3
      go_loopw [22] (fun i wq => ∃ q : Nat, i = .int .i64 q ∧ q ≤ M.length ∧ Hid (Up w2 wq) ∧ Hid (VRow wq B 98 [.int .i64 ax, .int .i64 ay, .int .i64 bx, .int .i64 bY]) ∧ Hid ((M.take q).any (fun t => Vd.crossS ((ax, ay), (bx, bY)) t) = false)) (fun i _ => M.length - (intOf i).toNat)
      case atStart => exact ⟨0, rfl, Nat.zero_le _, HUa, RT, rfl⟩
      case round =>
        clear HUa RT
        obtain ⟨q, rfl, hq, HUq, RT, HB⟩ := hrel
        by_cases hlq : q < M.length
        · obtain ⟨⟨⟨cx, cy⟩, ⟨dx, dy⟩⟩, hs2⟩ := Pl.some_of_lt hlq
          obtain ⟨g', cap'', ev, c0, c1, c2, c3⟩ := (HR2.out.up HUq.out).seg hs2
          cases ev
          have HCq := hide (HC2.out _ _ hs2)
          have HY := hide (Pl.any_take_succ (fun t => Vd.crossS ((ax, ay), (bx, bY)) t) hs2)
          simp only at c0 c1 c2 c3
          have t0 := fun o => (RT.out.alloc o).cell (i := 0) rfl
          have t1 := fun o => (RT.out.alloc o).cell (i := 1) rfl
          have t2 := fun o => (RT.out.alloc o).cell (i := 2) rfl
          have t3 := fun o => (RT.out.alloc o).cell (i := 3) rfl
          have fin : Hid (Vd.crossS ((ax, ay), (bx, bY)) ((cx, cy), (dx, dy)) = true → Vd.cross r o = true) := by
            intro h
            rw [HT.out]
            exact Pl.any_true_of f Hk.out (by rw [HF.out]; exact Pl.any_true_of _ hs2 h)
          clear hs2
          go_wp2_with fail
          refine (meet_any ((ax, ay), (bx, bY)) ((cx, cy), (dx, dy)) HCk.out HCq.out _).mono ?_
          rintro e w3 ⟨rfl, u3⟩
          have HU3 : Hid (Up w2 w3) := (HUq.out.alloc _).trans u3
          have RT3 := hide ((RT.out.alloc _).up u3)
          clear u3 c0 c1 c2 c3 t0 t1 t2 t3
          by_cases h2 : Vd.meetS ((ax, ay), (bx, bY)) ((cx, cy), (dx, dy)) = 2
          · have HGt := hide (fin.out (cross_two h2))
            rw [h2]
            go_wp2
            go_ret
            exact ⟨ret_b HGt.out.symm, HU2.out.trans HU3.out⟩
          · by_cases h3 : Vd.meetS ((ax, ay), (bx, bY)) ((cx, cy), (dx, dy)) = 3
            · have HGt := hide (fin.out (cross_three h3))
              rw [h3]
              go_wp2
              go_ret
              exact ⟨ret_b HGt.out.symm, HU2.out.trans HU3.out⟩
            · have HGf := hide (cross_no h2 h3)
              generalize Vd.meetS ((ax, ay), (bx, bY)) ((cx, cy), (dx, dy)) = Mt at *
              have h2' := beq_eq_false_iff_ne.2 h2
              have h3' := beq_eq_false_iff_ne.2 h3
              go_wp2
              go_roundw
              case rel => exact ⟨q + 1, by go_num, by omega, HU3, RT3, by rw [HY.out, HB.out, HGf.out]; exact rfl⟩
              case measure => simp [intOf]; omega
        · have hq2 : q = M.length := by omega
          subst hq2
          rw [List.take_length] at HB
          go_wp2
          go_roundw
          case rel => exact ⟨k + 1, by go_num, by omega, HUq, by rw [HX.out, HA.out, HF.out, HB.out]; exact rfl⟩
          case measure => simp [intOf]; omega
    · have hk2 : k = L.length := by omega
      subst hk2
      rw [List.take_length] at HA
      have HRf : Hid (Vd.cross r o = false) := by rw [HT.out]; exact HA.out
      go_wp2
      go_ret
      exact ⟨ret_b HRf.out.symm, HU2.out.trans HU.out⟩
def tcG (l : Poly) (j i : Nat) : Bool := Vd.cross (Vd.rAt l i) (Vd.rAt l j)
def tcF (l : Poly) (j : Nat) : Bool := Vd.anyI j (tcG l j)
theorem touch_F (l : Poly) : Vd.touch l = !(Vd.anyI l.length (tcF l)) := rfl
theorem rAt_some {l : Poly} {i : Nat} {r : Ring} (h : l[i]? = some r) : Vd.rAt l i = r := by unfold Vd.rAt; rw [List.getD_eq_getElem?_getD, h]; rfl
set_option maxHeartbeats 4000000 in
theorem touch_any (v : Value) (l : Poly) (w : World) (hv : Rd2 w v l) (hl : l.length ≤ 1048576) (hl2 : ∀ r ∈ l, r.length ≤ 1048576) (hc : Vd.CdL l) :
    Calls Tryz.prog 63 #[v] w fun e w' => e = .returned (.bool (Vd.touch l)) ∧ Up w w' := by
  obtain ⟨ao, cap, rfl, hm⟩ := hv
  have HM := hide hm
  have HC := hide hc
  have HL := hide hl2
  have HS := hide (touch_F l)
  clear hm hc hl2
  go_enter Tryz.func63, Tryz.ntmps63
  go_wp2
  go_loopw [8] (fun i wr => ∃ k : Nat, i = .int .i64 k ∧ k ≤ l.length ∧ Hid (Up w wr) ∧ Hid (Vd.anyI k (tcF l) = false)) (fun i _ => l.length - (intOf i).toNat)
  case atStart => exact ⟨0, rfl, Nat.zero_le _, Up.refl _, rfl⟩
  case round =>
    obtain ⟨k, rfl, hk, HU, HA⟩ := hrel
    by_cases hlt : k < l.length
    · obtain ⟨r, hr⟩ := Pl.some_of_lt hlt
      obtain ⟨b, u, rfl, cu, hu⟩ := HM.out k r hr
      obtain ⟨ao2, cap2, rfl, -⟩ := id hu
      have Hu := hide hu
      have cu2 := HU.out.cell cu
      have Hr := hide hr
      have HrL := hide (HL.out r (Pl.mem_of_some hr))
      have HrC := hide (HC.out r (Pl.mem_of_some hr))
      clear hr cu hu
      go_wp2
      clear cu2
      go_loopw [5] (fun i wr => ∃ q : Nat, i = .int .i64 q ∧ q ≤ k ∧ Hid (Up w wr) ∧ Hid (Vd.anyI q (tcG l k) = false)) (fun i _ => k - (intOf i).toNat)
      case atStart => exact ⟨0, rfl, Nat.zero_le _, HU, rfl⟩
      case round =>
        clear HU
        obtain ⟨q, rfl, hq, HU, HB⟩ := hrel
        by_cases hlq : q < k
        · obtain ⟨r2, hr2⟩ := Pl.some_of_lt (show q < l.length by omega)
          obtain ⟨b', u2, e', cu, hu2⟩ := HM.out q r2 hr2
          cases e'
          have Hu2 := hide (hu2.up HU.out)
          have HuU := hide (Hu.out.up HU.out)
          have cu2 := HU.out.cell cu
          have Hr2L := hide (HL.out r2 (Pl.mem_of_some hr2))
          have Hr2C := hide (HC.out r2 (Pl.mem_of_some hr2))
          have HG : Hid (tcG l k q = Vd.cross r2 r) := by unfold tcG; rw [rAt_some hr2, rAt_some Hr.out]; exact rfl
          have i1 : (q : Int) < (l.length : Int) := by omega
          clear hr2 cu hu2
          cases hx : Vd.cross r2 r
          · have HGf := hide (HG.out.trans hx)
            have Hx := hide hx
            clear hx
            go_wp2_with (go_at_call 94; refine (cross_any _ _ r2 r _ Hu2.out HuU.out Hr2L.out HrL.out Hr2C.out HrC.out).mono ?_; rintro e w2 ⟨rfl, u2⟩; rw [Hx.out]; replace u2 := hide u2)
            go_roundw
            case rel => exact ⟨q + 1, by go_num, by omega, HU.out.trans u2.out, anyI_step HB.out HGf.out⟩
            case measure => simp [intOf]; omega
          · have HGt : Hid (Vd.touch l = false) := by
              rw [HS.out, Vd.anyI_true (i := k) hlt (show tcF l k = true from Vd.anyI_true (i := q) hlq (HG.out.trans hx))]; exact rfl
            have Hx := hide hx
            clear hx
            go_wp2_with (go_at_call 94; refine (cross_any _ _ r2 r _ Hu2.out HuU.out Hr2L.out HrL.out Hr2C.out HrC.out).mono ?_; rintro e w2 ⟨rfl, u2⟩; rw [Hx.out]; replace u2 := hide u2)
            go_ret
            exact ⟨ret_b HGt.out.symm, HU.out.trans u2.out⟩
        · have hq2 : q = k := by omega
          subst hq2
          go_wp2
          go_roundw
          case rel => exact ⟨q + 1, by go_num, by omega, HU, anyI_step HA.out HB.out⟩
          case measure => simp [intOf]; omega
    · have hk2 : k = l.length := by omega
      subst hk2
      have HRt : Hid (Vd.touch l = true) := by rw [HS.out, HA.out]; exact rfl
      go_wp2
      go_ret
      exact ⟨ret_b HRt.out.symm, HU.out⟩
end Go.Proofs.YtcclepohmhdpbabGreatDoor
