import Derived.Test.YtcclepohmhdpbabGreatDoorClI
import Derived.Test.YtcclepohmhdpbabGreatDoorClB
import Derived.Test.YtcclepohmhdpbabGreatDoorCnP
import Derived.Test.YtcclepohmhdpbabGreatDoorNoted
import Derived.Test.YtcclepohmhdpbabGreatDoorInv
import Derived.Test.YtcclepohmhdpbabGreatDoorRcx
/- THE WALKS: package clauses: enters, overlap. -/
namespace Go.Proofs.YtcclepohmhdpbabGreatDoor
set_option linter.all false
open Go.RowKit Go.Deep

set_option maxHeartbeats 8000000 in
theorem enters_any (v u : Value) (a c : Poly) (w : World) (hv : Rd2 w v a) (hu : Rd2 w u c) (hl : a.length ≤ 1048576) (hl2 : ∀ r ∈ a, r.length ≤ 1048576) (hm : c.length ≤ 1048576) (hm2 : ∀ r ∈ c, r.length ≤ 1048576) (hmf : c.flatten.length ≤ 1048575) (hc : Vd.CdL a) (hd : Vd.CdL c) :
    Calls Tryz.prog 67 #[v, u] w fun e w' => e = .returned (.bool (Vd.enters a c)) ∧ Up w w' := by
  have HV2 := hide hu
  obtain ⟨ao, cap, rfl, hM⟩ := hv
  obtain ⟨ao2, cap2, rfl, -⟩ := hu
  have HM := hide hM
  have HC := hide hc
  have HL := hide hl2
  have HD := hide hd
  have HL2 := hide hm2
  have HMF := hide hmf
  have HT : Hid (Vd.enters a c = a.any fun r => (Vd.segs r).any fun s => (Vd.mids s c).any fun m => !(Vd.free c m)) := rfl
  generalize hh : (fun s => (Vd.mids s c).any fun m => !(Vd.free c m)) = h at *
  have HH : Hid (∀ s, h s = (Vd.mids s c).any fun m => !(Vd.free c m)) := by subst hh; exact fun _ => rfl
  clear hh
  generalize hf : (fun r => (Vd.segs r).any h) = f at *
  have HF : Hid (∀ r, f r = (Vd.segs r).any h) := by subst hf; exact fun _ => rfl
  clear hM hc hd hl2 hm2 hf hmf
  go_enter Tryz.func67, Tryz.ntmps67
  go_wp2
  go_loopw [13] (fun i wr => ∃ k : Nat, i = .int .i64 k ∧ k ≤ a.length ∧ Hid (Up w wr) ∧ Hid ((a.take k).any f = false)) (fun i _ => a.length - (intOf i).toNat)
  case atStart => exact ⟨0, rfl, Nat.zero_le _, Up.refl _, rfl⟩
  case round =>
    obtain ⟨k, rfl, hk, HU, HA⟩ := hrel
    by_cases hlt : k < a.length
    · obtain ⟨r, hr⟩ := Pl.some_of_lt hlt
      obtain ⟨b, z, rfl, cu, hz⟩ := HM.out k r hr
      have Hz := hide (hz.up HU.out)
      have cu2 := HU.out.cell cu
      have Hr := hide hr
      have HrL := hide (HL.out r (Pl.mem_of_some hr))
      have HC1 : Hid (∀ i s, (Vd.segs r)[i]? = some s → Vd.CdS s) := fun i s hs => Vd.segs_cd (HC.out r (Pl.mem_of_some Hr.out)) (Pl.mem_of_some hs)
      have HX := hide (Pl.any_take_succ f hr)
      have hsl : (Vd.segs r).length ≤ 1048576 := by rw [Vd.segs_len]; have := HrL.out; omega
      clear hr cu hz
      go_wp2_with fail
      refine (segments_any _ r _ Hz.out HrL.out).mono ?_
      rintro e w1 ⟨sv, rfl, hz1, ho⟩
      obtain ⟨sa, sc, es⟩ := own_len ho
      subst es
      have HR1 := hide (own_rdG (f := segC) (fun _ => rfl) ho)
      have HU1 := hide (HU.out.trans hz1)
      have HFr := hide (HF.out r)
      generalize Vd.segs r = L at *
      clear ho hz1 cu2
      go_wp2_with fail
      go_loopw [20] (fun i wr => ∃ q : Nat, i = .int .i64 q ∧ q ≤ L.length ∧ Hid (Up w1 wr) ∧ Hid ((L.take q).any h = false)) (fun i _ => L.length - (intOf i).toNat)
      case atStart => exact ⟨0, rfl, Nat.zero_le _, Up.refl _, rfl⟩
      case round =>
        clear HU
        obtain ⟨q, rfl, hq, HU, HB⟩ := hrel
        by_cases hlq : q < L.length
        · obtain ⟨⟨⟨ax, ay⟩, ⟨bx, bY⟩⟩, hs⟩ := Pl.some_of_lt hlq
          obtain ⟨g, cap', ev, c0, c1, c2, c3⟩ := (HR1.out.up HU.out).seg hs
          cases ev
          have HCk := hide (HC1.out _ _ hs)
          have Hk := hide hs
          have HY := hide (Pl.any_take_succ h hs)
          simp only at c0 c1 c2 c3
          clear hs
          go_wp2_with fail
          refine (middles_any ((ax, ay), (bx, bY)) _ c _ HCk.out ((HV2.out.up HU1.out).up (HU.out.alloc _)) hm HL2.out (by have := HMF.out; omega) HD.out).mono ?_
          rintro e w2 ⟨mv, rfl, hz2, ho⟩
          obtain ⟨ma, mc, es⟩ := own_len ho
          subst es
          have HR2 := hide (own_rdG (f := spotC) (fun _ => rfl) ho)
          have HU2 : Hid (Up w1 w2) := (HU.out.alloc _).trans hz2
          have HFk := hide (HH.out ((ax, ay), (bx, bY)))
          have HSp : Hid (∀ i m, (Vd.mids ((ax, ay), (bx, bY)) c)[i]? = some m → Vd.Sp m) := fun i m hm => Vd.mids_sp HCk.out HD.out m (Pl.mem_of_some hm)
          have hml : (Vd.mids ((ax, ay), (bx, bY)) c).length ≤ 1048576 := by
            have := Vd.mids_len ((ax, ay), (bx, bY)) c; have := HMF.out; omega
          generalize Vd.mids ((ax, ay), (bx, bY)) c = M at *
          clear ho hz2 c0 c1 c2 c3
          go_wp2_with fail
          go_loopw [28] (fun i wr => ∃ q : Nat, i = .int .i64 q ∧ q ≤ M.length ∧ Hid (Up w2 wr) ∧ Hid ((M.take q).any (fun m => !(Vd.free c m)) = false)) (fun i _ => M.length - (intOf i).toNat)
          case atStart => exact ⟨0, rfl, Nat.zero_le _, Up.refl _, rfl⟩
          case round =>
            obtain ⟨n, rfl, hn, HUn, HBn⟩ := hrel
            by_cases hln : n < M.length
            · obtain ⟨⟨⟨x, y⟩, t⟩, hs2⟩ := Pl.some_of_lt hln
              obtain ⟨g', cap'', ev, c0, c1, c2⟩ := (HR2.out.up HUn.out).spot hs2
              cases ev
              have HCn := hide (HSp.out _ _ hs2)
              have HZ := hide (Pl.any_take_succ (fun m => !(Vd.free c m)) hs2)
              simp only at c0 c1 c2
              have fin : Hid (Vd.free c ((x, y), t) = false → Vd.enters a c = true) := by
                intro hx
                rw [HT.out]
                exact Pl.any_true_of f Hr.out (by rw [HFr.out]; exact Pl.any_true_of h Hk.out (by rw [HFk.out]; exact Pl.any_true_of _ hs2 (by rw [hx]; rfl)))
              clear hs2
              cases hx : Vd.free c ((x, y), t)
              · have Hx := hide hx
                have HR := hide (fin.out hx)
                clear hx
                go_wp2_with (go_at_call 100; refine (free_any _ c ((x, y), t) _ ((HV2.out.up (HU1.out.trans (HU2.out.trans HUn.out))).up ((Up.refl _).alloc _)) hm HL2.out HD.out HCn.out).mono ?_; rintro e w3 ⟨rfl, hz3⟩; rw [Hx.out]; replace hz3 := hide hz3)
                go_ret
                exact ⟨ret_b HR.out.symm, ((HU1.out.trans HU2.out).trans (HUn.out.alloc _)).trans hz3.out⟩
              · have Hx := hide hx
                clear hx
                go_wp2_with (go_at_call 100; refine (free_any _ c ((x, y), t) _ ((HV2.out.up (HU1.out.trans (HU2.out.trans HUn.out))).up ((Up.refl _).alloc _)) hm HL2.out HD.out HCn.out).mono ?_; rintro e w3 ⟨rfl, hz3⟩; rw [Hx.out]; replace hz3 := hide hz3)
                go_roundw
                case rel => exact ⟨n + 1, by go_num, by omega, (HUn.out.alloc _).trans hz3.out, by rw [HZ.out, HBn.out, Hx.out]; exact rfl⟩
                case measure => simp [intOf]; omega
            · have hn2 : n = M.length := by omega
              subst hn2
              rw [List.take_length] at HBn
              go_wp2
              go_roundw
              case rel => exact ⟨q + 1, by go_num, by omega, HU2.out.trans HUn.out, by rw [HY.out, HB.out, HFk.out, HBn.out]; exact rfl⟩
              case measure => simp [intOf]; omega
        · have hq2 : q = L.length := by omega
          subst hq2
          rw [List.take_length] at HB
          go_wp2
          go_roundw
          case rel => exact ⟨k + 1, by go_num, by omega, HU1.out.trans HU.out, by rw [HX.out, HA.out, HFr.out, HB.out]; exact rfl⟩
          case measure => simp [intOf]; omega
    · have hk2 : k = a.length := by omega
      subst hk2
      rw [List.take_length] at HA
      have HR : Hid (Vd.enters a c = false) := by rw [HT.out]; exact HA.out
      go_wp2
      go_ret
      exact ⟨ret_b HR.out.symm, HU.out⟩

/-- the sizes of a set that can be asked. -/
structure Sz (m : Mult) : Prop where
  len : m.length ≤ 1048576
  poly : ∀ l ∈ m, l.length ≤ 1048576
  ring : ∀ l ∈ m, ∀ r ∈ l, r.length ≤ 1048575
  flat : ∀ l ∈ m, l.flatten.length ≤ 1048575
  cd : ∀ l ∈ m, Vd.CdL l
def ovG (m : Mult) (j i : Nat) : Bool := Vd.boundsX (Vd.pAt m i) (Vd.pAt m j) || Vd.enters (Vd.pAt m i) (Vd.pAt m j) || Vd.enters (Vd.pAt m j) (Vd.pAt m i)
def ovF (m : Mult) (j : Nat) : Bool := Vd.anyI j (ovG m j)
theorem overlap_F (m : Mult) : Vd.overlap m = Vd.anyI m.length (ovF m) := rfl
theorem pAt_some {m : Mult} {i : Nat} {l : Poly} (h : m[i]? = some l) : Vd.pAt m i = l := by unfold Vd.pAt; rw [List.getD_eq_getElem?_getD, h]; rfl
set_option maxHeartbeats 8000000 in
theorem overlap_any (v : Value) (m : Mult) (w : World) (hv : Rd3 w v m) (hz : Sz m) :
    Calls Tryz.prog 47 #[v] w fun e w' => e = .returned (.bool (Vd.overlap m)) ∧ Up w w' := by
  obtain ⟨ao, cap, rfl, hM⟩ := hv
  have HM := hide hM
  have HZ := hide hz
  have HS := hide (overlap_F m)
  have hl := hz.len
  clear hM hz
  go_enter Tryz.func47, Tryz.ntmps47
  go_wp2
  go_loopw [8] (fun i wr => ∃ k : Nat, i = .int .i64 k ∧ k ≤ m.length ∧ Hid (Up w wr) ∧ Hid (Vd.anyI k (ovF m) = false)) (fun i _ => m.length - (intOf i).toNat)
  case atStart => exact ⟨0, rfl, Nat.zero_le _, Up.refl _, rfl⟩
  case round =>
    obtain ⟨k, rfl, hk, HU, HA⟩ := hrel
    by_cases hlt : k < m.length
    · obtain ⟨r, hr⟩ := Pl.some_of_lt hlt
      obtain ⟨b, z, rfl, cu, hzr⟩ := HM.out k r hr
      obtain ⟨za, zc, rfl, -⟩ := id hzr
      have Hz := hide hzr
      have cu2 := HU.out.cell cu
      have Hr := hide hr
      have Hrm := hide (Pl.mem_of_some hr)
      clear hr cu hzr
      go_wp2
      clear cu2
      go_loopw [5] (fun i wr => ∃ q : Nat, i = .int .i64 q ∧ q ≤ k ∧ Hid (Up w wr) ∧ Hid (Vd.anyI q (ovG m k) = false)) (fun i _ => k - (intOf i).toNat)
      case atStart => exact ⟨0, rfl, Nat.zero_le _, HU, rfl⟩
      case round =>
        clear HU
        obtain ⟨q, rfl, hq, HU, HB⟩ := hrel
        by_cases hlq : q < k
        · obtain ⟨o, ho⟩ := Pl.some_of_lt (show q < m.length by omega)
          obtain ⟨b', z', e', cu, hzo⟩ := HM.out q o ho
          cases e'
          have Hz2 := hide (hzo.up HU.out)
          have HzU := hide (Hz.out.up HU.out)
          have cu2 := HU.out.cell cu
          have Hom := hide (Pl.mem_of_some ho)
          have HG : Hid (ovG m k q = (Vd.boundsX o r || Vd.enters o r || Vd.enters r o)) := by unfold ovG; rw [pAt_some ho, pAt_some Hr.out]; exact rfl
          have i1 : (q : Int) < (m.length : Int) := by omega
          have fin : Hid (ovG m k q = true → Vd.overlap m = true) := by
            intro h
            rw [HS.out]
            exact Vd.anyI_true (i := k) hlt (Vd.anyI_true (f := ovG m k) (i := q) hlq h)
          have R1 := hide (fun l (h : l ∈ m) r (hr : r ∈ l) => (show r.length ≤ 1048576 by have := HZ.out.ring l h r hr; omega))
          clear ho cu hzo
          go_wp2_with fail
          refine (bounds_any _ _ o r _ Hz2.out HzU.out (HZ.out.poly _ Hom.out) (R1.out _ Hom.out) (HZ.out.poly _ Hrm.out) (R1.out _ Hrm.out) (HZ.out.cd _ Hom.out) (HZ.out.cd _ Hrm.out)).mono ?_
          rintro e w2 ⟨rfl, hz2⟩
          have HU2 := hide (HU.out.trans hz2)
          have cu3 := hz2.cell cu2
          have Y2 := hide (Hz2.out.up hz2)
          have X2 := hide (HzU.out.up hz2)
          clear hz2 cu2
          cases hx : Vd.boundsX o r
          · rw [hx] at HG
            clear hx
            go_wp2_with fail
            refine (enters_any _ _ o r _ Y2.out X2.out (HZ.out.poly _ Hom.out) (R1.out _ Hom.out) (HZ.out.poly _ Hrm.out) (R1.out _ Hrm.out) (HZ.out.flat _ Hrm.out) (HZ.out.cd _ Hom.out) (HZ.out.cd _ Hrm.out)).mono ?_
            rintro e w3 ⟨rfl, hz3⟩
            have HU3 := hide (HU2.out.trans hz3)
            have cu4 := hz3.cell cu3
            have Y3 := hide (Y2.out.up hz3)
            have X3 := hide (X2.out.up hz3)
            clear hz3 cu3
            cases hx : Vd.enters o r
            · rw [hx] at HG
              clear hx
              go_wp2_with fail
              refine (enters_any _ _ r o _ X3.out Y3.out (HZ.out.poly _ Hrm.out) (R1.out _ Hrm.out) (HZ.out.poly _ Hom.out) (R1.out _ Hom.out) (HZ.out.flat _ Hom.out) (HZ.out.cd _ Hrm.out) (HZ.out.cd _ Hom.out)).mono ?_
              rintro e w4 ⟨rfl, hz4⟩
              have HU4 := hide (HU3.out.trans hz4)
              clear hz4 cu4
              cases hx : Vd.enters r o
              · rw [hx] at HG
                have HGf : Hid (ovG m k q = false) := HG.out
                clear hx
                go_wp2
                go_roundw
                case rel => exact ⟨q + 1, by go_num, by omega, HU4, anyI_step HB.out HGf.out⟩
                case measure => simp [intOf]; omega
              · rw [hx] at HG
                have HR := hide (fin.out HG.out)
                clear hx
                go_wp2
                go_ret
                exact ⟨ret_b HR.out.symm, HU4.out⟩
            · rw [hx] at HG
              have HR := hide (fin.out (by rw [HG.out]; rfl))
              clear hx
              go_wp2
              go_ret
              exact ⟨ret_b HR.out.symm, HU3.out⟩
          · rw [hx] at HG
            have HR := hide (fin.out (by rw [HG.out]; rfl))
            clear hx
            go_wp2
            go_ret
            exact ⟨ret_b HR.out.symm, HU2.out⟩
        · have hq2 : q = k := by omega
          subst hq2
          go_wp2
          go_roundw
          case rel => exact ⟨q + 1, by go_num, by omega, HU, anyI_step HA.out HB.out⟩
          case measure => simp [intOf]; omega
    · have hk2 : k = m.length := by omega
      subst hk2
      have HR : Hid (Vd.overlap m = false) := by rw [HS.out]; exact HA.out
      go_wp2
      go_ret
      exact ⟨ret_b HR.out.symm, HU.out⟩
end Go.Proofs.YtcclepohmhdpbabGreatDoor

/- THE WALKS: package canon: compareRings, comparePolygons, countAhead. -/
namespace Go.Proofs.YtcclepohmhdpbabGreatDoor
set_option linter.all false
open Go.RowKit Go.Deep

theorem cmpR_cons (p q : Pnt) (t u : Ring) : Vd.cmpR (p :: t) (q :: u) = if Vd.bef q p then 1 else if Vd.bef p q then -1 else Vd.cmpR t u := by rw [Vd.cmpR]
theorem dropc {α : Type} {l : List α} {k : Nat} {x : α} (h : l[k]? = some x) : l.drop k = x :: l.drop (k + 1) := by
  have hk := Pl.lt_of_some h
  rw [List.drop_eq_getElem_cons hk]
  rw [List.getElem?_eq_getElem hk] at h
  rw [Option.some.inj h]
theorem cmpR_left (p : Pnt) (t : Ring) : Vd.cmpR (p :: t) [] = 1 := by rw [Vd.cmpR]
theorem cmpR_end (u : Ring) : Vd.cmpR [] u = if 0 < u.length then -1 else 0 := by cases u <;> simp [Vd.cmpR]
set_option maxRecDepth 8000 in
set_option maxHeartbeats 4000000 in
theorem compareRings_any (v u : Value) (a b : Ring) (w : World) (hv : Rd1 w v a) (hu : Rd1 w u b) (ha : a.length ≤ 1048576) (hb : b.length ≤ 1048576) :
    Calls Tryz.prog 129 #[v, u] w fun e w' => e = .returned (.int .i64 (Vd.cmpR a b)) ∧ Up w w' := by
  obtain ⟨ao, cap, rfl, hm⟩ := hv
  obtain ⟨ao2, cap2, rfl, hm2⟩ := hu
  have HM := hide hm
  have HM2 := hide hm2
  have HX := hide cmpR_cons
  clear hm hm2
  go_enter Tryz.func129, Tryz.ntmps129
  go_wp2
  go_loopw [9] (fun i wr => ∃ k : Nat, i = .int .i64 k ∧ k ≤ a.length ∧ k ≤ b.length ∧ Hid (Up w wr) ∧ Hid (Vd.cmpR a b = Vd.cmpR (a.drop k) (b.drop k))) (fun i _ => a.length - (intOf i).toNat)
  case atStart => exact ⟨0, rfl, Nat.zero_le _, Nat.zero_le _, Up.refl _, rfl⟩
  case round =>
    obtain ⟨k, rfl, hk, hk2, HU, HE⟩ := hrel
    by_cases hlt : k < a.length
    · obtain ⟨⟨px, py⟩, hp⟩ := Pl.some_of_lt hlt
      obtain ⟨g, rfl, c0, c1⟩ := HM.out k _ hp
      rw [dropc hp] at HE
      have e0 := HU.out.cell c0
      have e1 := HU.out.cell c1
      have HUT : Hid (Up wr (wr.alloc (.cells #[.int .i64 px, .int .i64 py] 48))) := (Up.refl _).alloc _
      have RN := hide (new_row (w := wr) (o := .cells #[.int .i64 px, .int .i64 py] 48) (vs := [.int .i64 px, .int .i64 py]) rfl)
      have q0 := RN.out.gr (i := 0) rfl
      have q1 := RN.out.gr (i := 1) rfl
      have i1 : (0 : Int) ≤ (k : Int) := by omega
      have i2 : (k : Int) < (a.length : Int) := by omega
      try dsimp only at e0 e1 q0 q1
      clear hp c0 c1
      by_cases hkb : k = b.length
      · have hkb' : ((k : Int) == (b.length : Int)) = true := beq_iff_eq.2 (by omega)
        have HR : Hid (Vd.cmpR a b = 1) := by rw [HE.out, hkb, List.drop_length, cmpR_left]; exact rfl
        clear hkb
        go_upto_region 4 with fail
        refine wp_region_up (by kernel_rfl) (by kernel_rfl) ?_
        repeat (first | go_big_quiet_step (fail))
        refine wpQuiet_nil ?_
        rintro w3 ⟨⟨_, u3⟩, rfl⟩
        have HU3 := hide (HU.out.trans (HUT.out.trans u3))
        clear u3 e0 e1 q0 q1
        go_wp2
        go_ret
        exact ⟨ret_i HR.out.symm, HU3.out⟩
      · have hkb' : ((k : Int) == (b.length : Int)) = false := beq_eq_false_iff_ne.2 (by omega)
        obtain ⟨⟨qx, qy⟩, hq⟩ := Pl.some_of_lt (show k < b.length by omega)
        obtain ⟨g2, rfl, d0, d1⟩ := HM2.out k _ hq
        rw [dropc hq, HX.out] at HE
        have D0 := hide (HUT.out.cell (HU.out.cell d0))
        have D1 := hide (HUT.out.cell (HU.out.cell d1))
        have g0 := cell_gr D0.out
        have g1 := cell_gr D1.out
        have i3 : (k : Int) < (b.length : Int) := by omega
        have HK : Hid (∀ g : Gr (wr.alloc (.cells #[.int .i64 px, .int .i64 py] 48)), Calls Tryz.prog 128 #[.agg #[.int .i64 qx, .int .i64 qy], .agg #[.int .i64 px, .int .i64 py]] g.v fun e w' => e = .returned (.bool (decide (Vd.bef (qx, qy) (px, py)))) ∧ Up g.v w') := fun g => before_any (qx, qy) (px, py) g.v
        try dsimp only at g0 g1
        clear hq d0 d1 hkb
        generalize hW : wr.alloc (.cells #[.int .i64 px, .int .i64 py] 48) = W at *
        by_cases hb1 : Vd.bef (qx, qy) (px, py)
        · rw [decide_eq_true hb1] at HK
          have HR : Hid (Vd.cmpR a b = 1) := by rw [HE.out, if_pos hb1]; exact rfl
          clear hb1
          go_upto_region 4 with fail
          refine wp_region_up (by kernel_rfl) (by kernel_rfl) ?_
          repeat (first | go_big_quiet_step ((go_at_call 128; exact Calls.up_of (HK.out _))))
          refine wpQuiet_nil ?_
          rintro w3 ⟨⟨_, u3⟩, rfl⟩
          have HU3 := hide (HU.out.trans (HUT.out.trans u3))
          clear u3 e0 e1 q0 q1 g0 g1 HK hW
          go_wp2
          go_ret
          exact ⟨ret_i HR.out.symm, HU3.out⟩
        · rw [decide_eq_false hb1] at HK
          rw [if_neg hb1] at HE
          clear hb1
          go_upto_region 4 with fail
          refine wp_region_up (by kernel_rfl) (by kernel_rfl) ?_
          repeat (first | go_big_quiet_step ((go_at_call 128; exact Calls.up_of (HK.out _))))
          refine wpQuiet_nil ?_
          rintro w3 ⟨⟨_, u3⟩, rfl⟩
          have HU3 := hide (HU.out.trans (HUT.out.trans u3))
          have g0' := cell_gr (u3.cell D0.out)
          have g1' := cell_gr (u3.cell D1.out)
          have q0' := (RN.out.up u3).gr (i := 0) rfl
          have q1' := (RN.out.up u3).gr (i := 1) rfl
          try dsimp only at g0' g1' q0' q1'
          clear u3 e0 e1 q0 q1 g0 g1 HK
          have HK : Hid (∀ g : Gr w3, Calls Tryz.prog 128 #[.agg #[.int .i64 px, .int .i64 py], .agg #[.int .i64 qx, .int .i64 qy]] g.v fun e w' => e = .returned (.bool (decide (Vd.bef (px, py) (qx, qy)))) ∧ Up g.v w') := fun g => before_any (px, py) (qx, qy) g.v
          by_cases hb2 : Vd.bef (px, py) (qx, qy)
          · rw [decide_eq_true hb2] at HK
            have HR : Hid (Vd.cmpR a b = -1) := by rw [HE.out, if_pos hb2]; exact rfl
            clear hb2 hW
            go_upto_region 6 with fail
            refine wp_region_up (by kernel_rfl) (by kernel_rfl) ?_
            repeat (first | go_big_quiet_step ((go_at_call 128; exact Calls.up_of (HK.out _))))
            refine wpQuiet_nil ?_
            rintro w4 ⟨⟨_, u4⟩, rfl⟩
            have HU4 := hide (HU3.out.trans u4)
            clear u4 q0' q1' g0' g1' HK
            go_wp2
            go_ret
            exact ⟨ret_i HR.out.symm, HU4.out⟩
          · rw [decide_eq_false hb2] at HK
            rw [if_neg hb2] at HE
            clear hb2 hW
            go_upto_region 6 with fail
            refine wp_region_up (by kernel_rfl) (by kernel_rfl) ?_
            repeat (first | go_big_quiet_step ((go_at_call 128; exact Calls.up_of (HK.out _))))
            refine wpQuiet_nil ?_
            rintro w4 ⟨⟨_, u4⟩, rfl⟩
            have HU4 := hide (HU3.out.trans u4)
            clear u4 q0' q1' g0' g1' HK
            go_wp2
            go_roundw
            case rel => exact ⟨k + 1, by go_num, by omega, by omega, HU4, HE⟩
            case measure => simp [intOf]; omega
    · have e1 : a.drop k = [] := List.drop_eq_nil_of_le (by omega)
      have hka : k = a.length := by omega
      have i2 : ¬ (k : Int) < (a.length : Int) := by omega
      rw [e1, cmpR_end, List.length_drop] at HE
      clear e1
      by_cases hl : a.length < b.length
      · have HR : Hid (Vd.cmpR a b = -1) := by rw [HE.out, if_pos (by omega)]; exact rfl
        have i3 : (a.length : Int) < (b.length : Int) := by omega
        clear hka
        go_wp2
        go_ret
        exact ⟨ret_i HR.out.symm, HU.out⟩
      · have HR : Hid (Vd.cmpR a b = 0) := by rw [HE.out, if_neg (by omega)]; exact rfl
        have i3 : ¬ (a.length : Int) < (b.length : Int) := by omega
        clear hka
        go_wp2
        go_ret
        exact ⟨ret_i HR.out.symm, HU.out⟩

theorem cmpP_cons (p q : Ring) (t u : Poly) : Vd.cmpP (p :: t) (q :: u) = if Vd.cmpR p q ≠ 0 then Vd.cmpR p q else Vd.cmpP t u := by rw [Vd.cmpP]
theorem cmpP_left (p : Ring) (t : Poly) : Vd.cmpP (p :: t) [] = 1 := by rw [Vd.cmpP]
theorem cmpP_end (u : Poly) : Vd.cmpP [] u = if 0 < u.length then -1 else 0 := by cases u <;> simp [Vd.cmpP]
set_option maxRecDepth 8000 in
set_option maxHeartbeats 4000000 in
theorem comparePolygons_any (v u : Value) (a b : Poly) (w : World) (hv : Rd2 w v a) (hu : Rd2 w u b) (ha : a.length ≤ 1048576) (hb : b.length ≤ 1048576) (hra : ∀ r ∈ a, r.length ≤ 1048576) (hrb : ∀ r ∈ b, r.length ≤ 1048576) :
    Calls Tryz.prog 91 #[v, u] w fun e w' => e = .returned (.int .i64 (Vd.cmpP a b)) ∧ Up w w' := by
  obtain ⟨ao, cap, rfl, hm⟩ := hv
  obtain ⟨ao2, cap2, rfl, hm2⟩ := hu
  have HM := hide hm
  have HM2 := hide hm2
  have HA := hide hra
  have HB := hide hrb
  have HX := hide cmpP_cons
  clear hm hm2 hra hrb
  go_enter Tryz.func91, Tryz.ntmps91
  go_wp2
  go_loopw [10] (fun i wr => ∃ k : Nat, i = .int .i64 k ∧ k ≤ a.length ∧ k ≤ b.length ∧ Hid (Up w wr) ∧ Hid (Vd.cmpP a b = Vd.cmpP (a.drop k) (b.drop k))) (fun i _ => a.length - (intOf i).toNat)
  case atStart => exact ⟨0, rfl, Nat.zero_le _, Nat.zero_le _, Up.refl _, rfl⟩
  case round =>
    obtain ⟨k, rfl, hk, hk2, HU, HE⟩ := hrel
    by_cases hlt : k < a.length
    · obtain ⟨p, hp⟩ := Pl.some_of_lt hlt
      obtain ⟨g, y, rfl, c0, hy⟩ := HM.out k _ hp
      rw [dropc hp] at HE
      have e0 := HU.out.cell c0
      have Hy := hide (hy.up HU.out)
      have Hpl := hide (HA.out p (Pl.mem_of_some hp))
      have i1 : (0 : Int) ≤ (k : Int) := by omega
      have i2 : (k : Int) < (a.length : Int) := by omega
      clear hp c0 hy
      by_cases hkb : k = b.length
      · have hkb' : ((k : Int) == (b.length : Int)) = true := beq_iff_eq.2 (by omega)
        have HR : Hid (Vd.cmpP a b = 1) := by rw [HE.out, hkb, List.drop_length, cmpP_left]; exact rfl
        clear hkb
        go_wp2
        go_ret
        exact ⟨ret_i HR.out.symm, HU.out⟩
      · have hkb' : ((k : Int) == (b.length : Int)) = false := beq_eq_false_iff_ne.2 (by omega)
        obtain ⟨q, hq⟩ := Pl.some_of_lt (show k < b.length by omega)
        obtain ⟨g2, z, rfl, d0, hz⟩ := HM2.out k _ hq
        rw [dropc hq, HX.out] at HE
        have e1 := HU.out.cell d0
        have Hz := hide (hz.up HU.out)
        have Hql := hide (HB.out q (Pl.mem_of_some hq))
        have i3 : (k : Int) < (b.length : Int) := by omega
        clear hq d0 hz hkb
        go_wp2_with fail
        refine (compareRings_any _ _ p q _ Hy.out Hz.out Hpl.out Hql.out).mono ?_
        rintro e w2 ⟨rfl, hu2⟩
        have HU2 := hide (HU.out.trans hu2)
        generalize Vd.cmpR p q = X at *
        clear hu2 e0 e1
        by_cases hX : X = 0
        · rw [if_neg (by simpa using hX)] at HE
          subst hX
          go_wp2
          go_roundw
          case rel => exact ⟨k + 1, by go_num, by omega, by omega, HU2, HE⟩
          case measure => simp [intOf]; omega
        · rw [if_pos hX] at HE
          have hX1 := bne_iff_ne.2 hX
          have hX2 := beq_eq_false_iff_ne.2 hX
          go_wp2
          go_ret
          exact ⟨ret_i HE.out.symm, HU2.out⟩
    · have e1 : a.drop k = [] := List.drop_eq_nil_of_le (by omega)
      have hka : k = a.length := by omega
      have i2 : ¬ (k : Int) < (a.length : Int) := by omega
      rw [e1, cmpP_end, List.length_drop] at HE
      clear e1
      by_cases hl : a.length < b.length
      · have HR : Hid (Vd.cmpP a b = -1) := by rw [HE.out, if_pos (by omega)]; exact rfl
        have i3 : (a.length : Int) < (b.length : Int) := by omega
        clear hka
        go_wp2
        go_ret
        exact ⟨ret_i HR.out.symm, HU.out⟩
      · have HR : Hid (Vd.cmpP a b = 0) := by rw [HE.out, if_neg (by omega)]; exact rfl
        have i3 : ¬ (a.length : Int) < (b.length : Int) := by omega
        clear hka
        go_wp2
        go_ret
        exact ⟨ret_i HR.out.symm, HU.out⟩

theorem cntA_succ (m : Mult) (a n : Nat) : Vd.cntA m a (n + 1) = Vd.cntA m a n + (if Vd.isA m a n = true then 1 else 0) := by
  unfold Vd.cntA; rw [List.range_succ, List.countP_append, List.countP_singleton]
theorem cntA_le (m : Mult) (a : Nat) : ∀ n, Vd.cntA m a n ≤ n := fun n => by unfold Vd.cntA; have := List.countP_le_length (p := Vd.isA m a) (l := List.range n); simpa using this
theorem isA_at {m : Mult} {a i : Nat} {p q : Poly} (hp : m[i]? = some p) (hq : m[a]? = some q) : Vd.isA m a i = (decide (Vd.cmpP p q < 0) || (decide (Vd.cmpP p q = 0) && decide (i < a))) := by unfold Vd.isA; rw [pAt_some hp, pAt_some hq]
set_option maxRecDepth 8000 in
set_option maxHeartbeats 4000000 in
theorem countAhead_any (v : Value) (m : Mult) (a : Nat) (w : World) (hv : Rd3 w v m) (ha : a < m.length) (hm : m.length ≤ 1048576) (hl : ∀ l ∈ m, l.length ≤ 1048576) (hr : ∀ l ∈ m, ∀ r ∈ l, r.length ≤ 1048576) :
    Calls Tryz.prog 61 #[v, .int .i64 a] w fun e w' => e = .returned (.int .i64 (Vd.cntA m a m.length)) ∧ Up w w' := by
  obtain ⟨ao, cap, rfl, hM⟩ := hv
  have HM := hide hM
  have HL := hide hl
  have HR := hide hr
  have HS := hide (fun n => cntA_succ m a n)
  have HLe := hide (fun n => cntA_le m a n)
  obtain ⟨q, hq⟩ := Pl.some_of_lt ha
  obtain ⟨g, z, rfl, d0, hz⟩ := hM a q hq
  have Hq := hide hq
  have D0 := hide d0
  have Hz := hide hz
  have i3 : (0 : Int) ≤ (a : Int) := by omega
  have i4 : (a : Int) < (m.length : Int) := by omega
  clear hM hl hr hq d0 hz
  go_enter Tryz.func61, Tryz.ntmps61
  go_wp2
  go_loopw [5, 11] (fun cv i wr => ∃ k c : Nat, i = .int .i64 k ∧ cv = .int .i64 c ∧ k ≤ m.length ∧ c ≤ k ∧ Hid (Up w wr) ∧ Hid (c = Vd.cntA m a k)) (fun _ i _ => m.length - (intOf i).toNat)
  case atStart => exact ⟨0, 0, rfl, rfl, Nat.zero_le _, Nat.zero_le _, Up.refl _, rfl⟩
  case round =>
    obtain ⟨k, c, rfl, rfl, hk, hck, HU, HE⟩ := hrel
    by_cases hlt : k < m.length
    · obtain ⟨p, hp⟩ := Pl.some_of_lt hlt
      obtain ⟨g', y, e', c0, hy⟩ := HM.out k _ hp
      cases e'
      have e0 := HU.out.cell c0
      have e1 := HU.out.cell D0.out
      have Hy := hide (hy.up HU.out)
      have Hz2 := hide (Hz.out.up HU.out)
      have HI := hide (isA_at hp Hq.out)
      have Hpm := hide (Pl.mem_of_some hp)
      have Hqm := hide (Pl.mem_of_some Hq.out)
      have i1 : (0 : Int) ≤ (k : Int) := by omega
      have i2 : (k : Int) < (m.length : Int) := by omega
      clear hp c0 hy
      go_wp2_with fail
      refine (comparePolygons_any _ _ p q _ Hy.out Hz2.out (HL.out p Hpm.out) (HL.out q Hqm.out) (HR.out p Hpm.out) (HR.out q Hqm.out)).mono ?_
      rintro e w2 ⟨rfl, hu2⟩
      have HU2 := hide (HU.out.trans hu2)
      generalize Vd.cmpP p q = X at *
      clear hu2 e0 e1
      have HSk := hide (HS.out k)
      rw [HI.out, ← HE.out] at HSk
      by_cases hX : X < 0
      · have HE2 : Hid (c + 1 = Vd.cntA m a (k + 1)) := by rw [HSk.out]; simp [hX, Hid]
        go_wp2
        go_roundw
        case rel => exact ⟨k + 1, c + 1, by go_num, by go_num, by omega, by omega, HU2, HE2⟩
        case measure => simp [intOf]; omega
      · by_cases hX0 : X = 0
        · by_cases hka : k < a
          · have HE2 : Hid (c + 1 = Vd.cntA m a (k + 1)) := by rw [HSk.out]; simp [hX0, hka, Hid]
            have i5 : (k : Int) < (a : Int) := by omega
            subst hX0
            go_wp2
            go_roundw
            case rel => exact ⟨k + 1, c + 1, by go_num, by go_num, by omega, by omega, HU2, HE2⟩
            case measure => simp [intOf]; omega
          · have HE2 : Hid (c = Vd.cntA m a (k + 1)) := by rw [HSk.out]; simp [hX0, hka, Hid]
            have i5 : ¬ (k : Int) < (a : Int) := by omega
            subst hX0
            go_wp2
            go_roundw
            case rel => exact ⟨k + 1, c, by go_num, rfl, by omega, by omega, HU2, HE2⟩
            case measure => simp [intOf]; omega
        · have HE2 : Hid (c = Vd.cntA m a (k + 1)) := by rw [HSk.out]; simp [hX, hX0, Hid]
          have hX2 := beq_eq_false_iff_ne.2 hX0
          go_wp2
          go_roundw
          case rel => exact ⟨k + 1, c, by go_num, rfl, by omega, by omega, HU2, HE2⟩
          case measure => simp [intOf]; omega
    · have hk2 : k = m.length := by omega
      have HRr : Hid (c = Vd.cntA m a m.length) := by rw [HE.out, hk2]; exact rfl
      have i2 : ¬ (k : Int) < (m.length : Int) := by omega
      clear hk2
      go_wp2
      go_ret
      exact ⟨ret_i (by rw [HRr.out]), HU.out⟩
end Go.Proofs.YtcclepohmhdpbabGreatDoor

/- THE WALKS: package canon: inOrder. -/
namespace Go.Proofs.YtcclepohmhdpbabGreatDoor
set_option linter.all false
open Go.RowKit Go.Deep

/-- A list's values. -/
def Vls (w : World) (v : Value) (us : List Value) : Prop := ∃ ao cap, v = .slice ao us.length cap ∧ ∀ i u, us[i]? = some u → ∃ b, ao = some ⟨b, 0, none⟩ ∧ w.cell? ⟨b, i, none⟩ = some u
theorem Vls.up {w w' : World} {v : Value} {us : List Value} (h : Vls w v us) (k : Up w w') : Vls w' v us := by
  obtain ⟨ao, cap, e, h⟩ := h
  exact ⟨ao, cap, e, fun i u hu => by obtain ⟨b, eb, c⟩ := h i u hu; exact ⟨b, eb, k.cell c⟩⟩
def usAt (us : List Value) (i : Nat) : Value := us.getD i (.slice none 0 0)
theorem usAt_some {us : List Value} {i : Nat} {u : Value} (h : us[i]? = some u) : usAt us i = u := by unfold usAt; rw [List.getD_eq_getElem?_getD, h]; rfl
/-- The values in the order of their polygons. -/
def layV (m : Mult) (us : List Value) (n : Nat) : List Value := Vd.layN (fun i => Vd.cntA m i m.length) (usAt us) (znil m.length) n
theorem layV_len (m : Mult) (us : List Value) (n : Nat) : (layV m us n).length = m.length := by unfold layV; rw [Vd.layN_len]; simp [znil]
theorem layV_succ (m : Mult) (us : List Value) (n : Nat) : layV m us (n + 1) = (layV m us n).set (Vd.cntA m n m.length) (usAt us n) := by unfold layV; rw [Vd.layN_succ]
theorem layV_at {m : Mult} {us : List Value} {i : Nat} (hi : i < m.length) : (layV m us m.length)[Vd.cntA m i m.length]? = some (usAt us i) :=
  Vd.layN_at (f := fun i => Vd.cntA m i m.length) (N := m.length) (fun i h => by simpa [znil] using Vd.cnt_small h) (fun i k h1 h2 => Vd.cnt_inj h1 h2) m.length (Nat.le_refl _) i hi
set_option maxRecDepth 8000 in
set_option maxHeartbeats 4000000 in
theorem inOrder_any (v : Value) (m : Mult) (us : List Value) (w : World) (hv : Rd3 w v m) (hu : Vls w v us) (hlen : us.length = m.length) (hm : m.length ≤ 1048576) (hl : ∀ l ∈ m, l.length ≤ 1048576) (hr : ∀ l ∈ m, ∀ r ∈ l, r.length ≤ 1048576) :
    Calls Tryz.prog 45 #[v] w fun e w' => ∃ G : Nat, e = .returned (.slice (some ⟨G, 0, none⟩) m.length m.length) ∧ w.heap.size ≤ G ∧ VRow w' G 45 (layV m us m.length) ∧ Up w w' := by
  have HL := hide hl
  have HR := hide hr
  obtain ⟨ao, cap, rfl, hU⟩ := hu
  have HUs := hide hU
  have HLn := hide hlen
  rw [hlen] at hv ⊢
  have HV := hide hv
  have HSl : Hid (∀ (i : Nat) (u : Value), us[i]? = some u → ∃ a n c, u = .slice a n c) := fun i u hu => by
    obtain ⟨b, e, c⟩ := HUs.out i u hu
    obtain ⟨ao2, cap2, e2, h2⟩ := HV.out
    cases e2
    obtain ⟨l, hl⟩ := Pl.some_of_lt (show i < m.length by rw [← HLn.out]; exact Pl.lt_of_some hu)
    obtain ⟨b', u', e', c', hu'⟩ := h2 i l hl
    rw [e] at e'
    cases e'
    rw [c] at c'
    cases c'
    obtain ⟨a, cp, rfl, -⟩ := hu'
    exact ⟨_, _, _, rfl⟩
  have hmk := make_polys m.length (by omega)
  clear hv hl hr hU hlen
  go_enter Tryz.func45, Tryz.ntmps45
  go_wp2
  have HUp : Hid (Up w (w.alloc (.cells (znil m.length).toArray 45))) := (Up.refl _).alloc _
  have RB : Hid (VRow (w.alloc (.cells (znil m.length).toArray 45)) w.heap.size 45 (layV m us 0)) := VRow.new w _ _
  obtain ⟨G, hG⟩ : ∃ G, w.heap.size = G := ⟨_, rfl⟩
  rw [hG] at RB ⊢
  have HG := hide hG
  generalize w.alloc (.cells (znil m.length).toArray 45) = W0 at *
  clear hmk hG
  go_loopw [11] (fun i wq => ∃ t : Nat, i = .int .i64 t ∧ t ≤ m.length ∧ Hid (Up w wq) ∧ Hid (VRow wq G 45 (layV m us t))) (fun i _ => m.length - (intOf i).toNat)
  case atStart => exact ⟨0, rfl, Nat.zero_le _, HUp, RB⟩
  case round =>
    clear HUp RB
    obtain ⟨k, rfl, hk, HU, RB⟩ := hrel
    by_cases hlt : k < m.length
    · obtain ⟨u, hu⟩ := Pl.some_of_lt (show k < us.length by rw [HLn.out]; exact hlt)
      obtain ⟨b, rfl, c0⟩ := HUs.out k u hu
      obtain ⟨ua, un, uc, rfl⟩ := HSl.out k u hu
      have HX := hide (layV_succ m us k)
      rw [usAt_some hu] at HX
      have e0 := HU.out.cell c0
      have hcl := Vd.cnt_small (m := m) hlt
      have HKc := hide (countAhead_any _ m k wr (HV.out.up HU.out) hlt hm HL.out HR.out)
      generalize Vd.cntA m k m.length = C at *
      have i1 : (0 : Int) ≤ (k : Int) := by omega
      have i2 : (k : Int) < (m.length : Int) := by omega
      have i3 : (0 : Int) ≤ (C : Int) := by omega
      have i4 : (C : Int) < (m.length : Int) := by omega
      clear hu c0
      go_wp2_with fail
      refine HKc.out.mono ?_
      rintro e w2 ⟨rfl, hu2⟩
      have HU2 := hide (HU.out.trans hu2)
      have RB2 := hide (RB.out.up hu2)
      obtain ⟨z, hz⟩ := Pl.some_of_lt (show C < (layV m us k).length by rw [layV_len]; exact hcl)
      have z0 := RB2.out.cell hz
      have zf := fun i => RB2.out.frozen i
      have hlow : Hid (w.heap.size ≤ G) := Nat.le_of_eq HG.out
      try dsimp only at z0 zf
      clear hu2 e0 HKc hz RB
      go_wp2
      go_roundw
      case rel => exact ⟨k + 1, by go_num, by omega, HU2.out.setCell hlow.out _, by rw [HX.out]; exact RB2.out.set C _⟩
      case measure => simp [intOf]; omega
    · have hk2 : k = m.length := by omega
      have HRr : Hid (VRow wr G 45 (layV m us m.length)) := by have := RB.out; rw [hk2] at this; exact this
      have i2 : ¬ (k : Int) < (m.length : Int) := by omega
      clear hk2
      go_wp2
      go_ret
      exact ⟨G, rfl, Nat.le_of_eq HG.out, HRr.out, HU.out⟩
end Go.Proofs.YtcclepohmhdpbabGreatDoor

/- LISTS THAT ARE KEPT. -/
namespace Go.Proofs.YtcclepohmhdpbabGreatDoor
set_option linter.all false
open Go.RowKit Go.Deep

theorem el_pt : Elem Tryz.prog 46 48 (.agg #[.int .i64 0, .int .i64 0]) 2 16 := ⟨und_pts, info_pt, rfl, by omega, by omega⟩

/-! ### Lists that are kept -/
theorem bl1 {x : L1} {b : Nat} (h : b ∈ x.bl) : x.v.ownBlock = some b := by simpa [L1.bl] using h
theorem L1.ok.row_ne {w : World} {x : L1} (h : x.ok w) {b : Nat} {t : TypeId} {vs : List Value} (hb : VRow w b t vs) (h3 : t ≠ 48) : b ∉ x.bl := fun e => own_row_ne h hb (Ne.symm h3) (bl1 e)
theorem L2.ok.row_ne {w : World} {x : L2} (h : x.ok w) {b : Nat} {t : TypeId} {vs : List Value} (hb : VRow w b t vs) (h2 : t ≠ 46) (h3 : t ≠ 48) : b ∉ x.bl := fun e => by
  simp only [L2.bl, List.mem_append, List.mem_flatMap] at e
  rcases e with e | ⟨y, hy, e⟩
  · exact own_row_ne h.row hb (Ne.symm h2) (by simpa using e)
  · exact (h.sub y hy).row_ne hb h3 e
theorem L3.ok.row_ne {w : World} {x : L3} (h : x.ok w) {b : Nat} {t : TypeId} {vs : List Value} (hb : VRow w b t vs) (h1 : t ≠ 45) (h2 : t ≠ 46) (h3 : t ≠ 48) : b ∉ x.bl := fun e => by
  simp only [L3.bl, List.mem_append, List.mem_flatMap] at e
  rcases e with e | ⟨y, hy, e⟩
  · exact own_row_ne h.row hb (Ne.symm h1) (by simpa using e)
  · exact (h.sub y hy).row_ne hb h2 h3 e
theorem L1.ok.fr {S : Nat → Prop} {w w' : World} {x : L1} (h : x.ok w) (k : Fr S w w') (hs : ∀ b ∈ x.bl, ¬ S b) : x.ok w' := h.of fun b hb => k.block b (h.lt b hb) (hs b hb)
theorem L2.ok.fr {S : Nat → Prop} {w w' : World} {x : L2} (h : x.ok w) (k : Fr S w w') (hs : ∀ b ∈ x.bl, ¬ S b) : x.ok w' := h.of fun b hb => k.block b (h.lt b hb) (hs b hb)
theorem L3.ok.fr {S : Nat → Prop} {w w' : World} {x : L3} (h : x.ok w) (k : Fr S w w') (hs : ∀ b ∈ x.bl, ¬ S b) : x.ok w' := h.of fun b hb => k.block b (h.lt b hb) (hs b hb)
theorem L1.ok.up {w w' : World} {x : L1} (h : x.ok w) (k : Up w w') : x.ok w' := h.of fun b hb => k.block b (h.lt b hb)
theorem L2.ok.up {w w' : World} {x : L2} (h : x.ok w) (k : Up w w') : x.ok w' := h.of fun b hb => k.block b (h.lt b hb)
theorem L3.ok.up {w w' : World} {x : L3} (h : x.ok w) (k : Up w w') : x.ok w' := h.of fun b hb => k.block b (h.lt b hb)
theorem own_ne {w : World} {base base' : Nat} {e e' : TypeId} {size size' : Nat} {v v' : Value} {n n' : Nat} {xs xs' : List Value} (h : w.ownsRow base e size v n xs) (h' : w.ownsRow base' e' size' v' n' xs') (he : e ≠ e') {b : Nat} (hb : v.ownBlock = some b) : ¬ v'.ownBlock = some b := fun hb' => by
  rcases own_apart h h' he with k | k
  · rw [hb] at k; cases k
  · exact k (hb.trans hb'.symm)
theorem L1.ok.grown {w w' : World} {y : L1} {base n : Nat} {v : Value} {xs : List Value} (h : y.ok w) {e : TypeId} (ho : w.ownsRow base e 1 v n xs) (he : 48 ≠ e) (hg : w.grownBy w' v.ownBlock) : y.ok w' :=
  h.fr (Fr.of_grown hg) fun b hb => own_ne h ho he (bl1 hb)
theorem L2.ok.grown {w w' : World} {y : L2} {base n : Nat} {v : Value} {xs : List Value} (h : y.ok w) {e : TypeId} (ho : w.ownsRow base e 1 v n xs) (he : 48 ≠ e) (he2 : 46 ≠ e) (hg : w.grownBy w' v.ownBlock) : y.ok w' :=
  h.fr (Fr.of_grown hg) fun b hb e => by
    simp only [L2.bl, List.mem_append, List.mem_flatMap] at hb
    rcases hb with hb | ⟨z, hz, hb⟩
    · exact own_ne h.row ho he2 (by simpa using hb) e
    · exact own_ne (h.sub z hz) ho he (bl1 hb) e

def nil3 : L3 := ⟨.slice none 0 0, []⟩
theorem nil3_ok (w : World) : nil3.ok w := ⟨World.ownsRow_nil _ _ _ _, by simp [nil3]⟩

end Go.Proofs.YtcclepohmhdpbabGreatDoor

/- THE WALKS: package canon: polygonForm. -/
namespace Go.Proofs.YtcclepohmhdpbabGreatDoor
set_option linter.all false
open Go.RowKit Go.Deep

/-- A ring that was laid: its block, its points. -/
structure RG where
  g : Nat
  r : Ring
def RG.v (q : RG) : Value := .slice (some ⟨q.g, 0, none⟩) q.r.length q.r.length
def RG.ok (base : Nat) (w : World) (q : RG) : Prop := base ≤ q.g ∧ PRow w q.g q.r
theorem RG.ok.up {base : Nat} {w w' : World} {q : RG} (h : q.ok base w) (k : Up w w') : q.ok base w' := ⟨h.1, VRow.up h.2 k⟩
theorem RG.ok.grown {base base' n : Nat} {w w' : World} {q : RG} {v : Value} {xs : List Value} {e : TypeId} (h : q.ok base w) (ho : w.ownsRow base' e 1 v n xs) (he : e ≠ 48) (hg : w.grownBy w' v.ownBlock) : q.ok base w' := ⟨h.1, VRow.grown h.2 hg (own_row_ne ho h.2 he)⟩
/-- The rings of a polygon that is being laid. -/
structure QF (base : Nat) (w : World) (v : Value) (Q : List RG) : Prop where
  own : w.ownsRow base 46 1 v Q.length (Q.map RG.v)
  ok : ∀ q ∈ Q, q.ok base w
theorem QF.up {base : Nat} {w w' : World} {v : Value} {Q : List RG} (h : QF base w v Q) (k : Up w w') : QF base w' v Q := ⟨own_up h.own k, fun q hq => (h.ok q hq).up k⟩
/-- A hole by itself: the list that holds it, its block, its points. -/
structure HB where
  p : Nat
  q : RG
def HB.v (h : HB) : Value := .slice (some ⟨h.p, 0, none⟩) 1 1
def HB.ok (base : Nat) (w : World) (h : HB) : Prop := base ≤ h.p ∧ VRow w h.p 46 [h.q.v] ∧ h.q.ok base w
theorem HB.ok.up {base : Nat} {w w' : World} {q : HB} (h : q.ok base w) (k : Up w w') : q.ok base w' := ⟨h.1, h.2.1.up k, h.2.2.up k⟩
structure QH (base : Nat) (w : World) (fv v : Value) (H : List HB) : Prop where
  own : w.ownsRow base 45 1 v H.length (H.map HB.v)
  ok : ∀ h ∈ H, h.ok base w
  ne : ∀ h ∈ H, fv.ownBlock ≠ some h.p
theorem QH.up {base : Nat} {w w' : World} {fv v : Value} {H : List HB} (h : QH base w fv v H) (k : Up w w') : QH base w' fv v H := ⟨own_up h.own k, fun q hq => (h.ok q hq).up k, h.ne⟩
theorem own_grown {base base' n n' s s' : Nat} {w w' : World} {v v' : Value} {xs xs' : List Value} {e e' : TypeId} (h : w.ownsRow base e s v n xs) (ho : w.ownsRow base' e' s' v' n' xs') (he : e ≠ e') (hg : w.grownBy w' v'.ownBlock) : w'.ownsRow base e s v n xs :=
  own_of_block h fun g hb => hg.block g (own_lt h hb).2 (fun e2 => own_ne h ho he hb e2.symm)
/-- One ring more in the polygon. -/
theorem QF.push {base : Nat} {w w' : World} {v : Value} {Q : List RG} {q : RG} {g cap : Nat} (h : QF base w v Q) (hq : q.ok base w) (hg : w.grownBy w' v.ownBlock) (hown : w'.ownsRow base 46 1 (.slice (some ⟨g, 0, none⟩) (Q.length + 1) cap) (Q.length + 1) (Q.map RG.v ++ [q.v])) : QF base w' (.slice (some ⟨g, 0, none⟩) (Q.length + 1) cap) (Q ++ [q]) := by
  refine ⟨by rw [List.map_append, List.length_append]; exact hown, fun x hx => ?_⟩
  rcases List.mem_append.1 hx with hx | hx
  · exact (h.ok x hx).grown h.own (by decide) hg
  · rw [List.mem_singleton.1 hx]; exact hq.grown h.own (by decide) hg
theorem QF.byH {base : Nat} {w w' : World} {fv v : Value} {Q : List RG} {H : List HB} (h : QF base w fv Q) (k : QH base w fv v H) (hg : w.grownBy w' v.ownBlock) : QF base w' fv Q :=
  ⟨own_grown h.own k.own (by decide) hg, fun x hx => (h.ok x hx).grown k.own (by decide) hg⟩
theorem HB.ok.byF {base : Nat} {w w' : World} {fv : Value} {Q : List RG} {h : HB} (k : h.ok base w) (hf : QF base w fv Q) (hne : fv.ownBlock ≠ some h.p) (hg : w.grownBy w' fv.ownBlock) : h.ok base w' := ⟨k.1, k.2.1.grown hg hne, k.2.2.grown hf.own (by decide) hg⟩
theorem QH.byF {base : Nat} {w w' : World} {fv v : Value} {Q : List RG} {H : List HB} {g cap n : Nat} (k : QH base w fv v H) (h : QF base w fv Q) (hg : w.grownBy w' fv.ownBlock) (hat : fv.ownBlock = some g ∨ g = w.heap.size) : QH base w' (.slice (some ⟨g, 0, none⟩) n cap) v H := by
  refine ⟨own_grown k.own h.own (by decide) hg, fun x hx => (k.ok x hx).byF h (k.ne x hx) hg, fun x hx e => ?_⟩
  have hlt : x.p < w.heap.size := VRow.lt (k.ok x hx).2.1
  have e' : g = x.p := Option.some.inj e
  rcases hat with e2 | e2
  · exact k.ne x hx (e' ▸ e2)
  · omega
theorem QH.push {base : Nat} {w w' : World} {fv v : Value} {H : List HB} {x : HB} {g cap : Nat} (h : QH base w fv v H) (hx : x.ok base w) (hne : fv.ownBlock ≠ some x.p) (hg : w.grownBy w' v.ownBlock) (hown : w'.ownsRow base 45 1 (.slice (some ⟨g, 0, none⟩) (H.length + 1) cap) (H.length + 1) (H.map HB.v ++ [x.v])) : QH base w' fv (.slice (some ⟨g, 0, none⟩) (H.length + 1) cap) (H ++ [x]) := by
  refine ⟨by rw [List.map_append, List.length_append]; exact hown, fun y hy => ?_, fun y hy => ?_⟩
  · have one : ∀ y : HB, y.ok base w → y.ok base w' := fun y k => ⟨k.1, k.2.1.grown hg (own_row_ne h.own k.2.1 (by decide)), k.2.2.grown h.own (by decide) hg⟩
    rcases List.mem_append.1 hy with hy | hy
    · exact one y (h.ok y hy)
    · rw [List.mem_singleton.1 hy]; exact one x hx
  · rcases List.mem_append.1 hy with hy | hy
    · exact h.ne y hy
    · rw [List.mem_singleton.1 hy]; exact hne
theorem QF.nil (base : Nat) (w : World) : QF base w (.slice none 0 0) [] := ⟨World.ownsRow_nil _ _ _ _, fun q hq => by simp at hq⟩
theorem QH.nil (base : Nat) (w : World) : QH base w (.slice none 0 0) (.slice none 0 0) [] := ⟨World.ownsRow_nil _ _ _ _, fun q hq => by simp at hq, fun q hq => by simp at hq⟩
/-- The holes as they are read. -/
def HB.m (H : List HB) : Mult := H.map fun h => [h.q.r]
theorem RG.ok.rd {base : Nat} {w : World} {q : RG} (h : q.ok base w) : Rd1 w q.v q.r :=
  ⟨some ⟨q.g, 0, none⟩, _, rfl, fun i p hp => ⟨q.g, rfl, (PRow.cells h.2 hp).1, (PRow.cells h.2 hp).2⟩⟩
theorem QH.rd {base : Nat} {w : World} {fv v : Value} {H : List HB} (h : QH base w fv v H) : Rd3 w v (HB.m H) ∧ Vls w v (H.map HB.v) := by
  obtain ⟨ao, cap, e⟩ := own_len h.own
  have key : ∀ i x, H[i]? = some x → ∃ g, ao = some ⟨g, 0, none⟩ ∧ w.cell? ⟨g, i, none⟩ = some x.v := fun i x hx => by
    obtain ⟨g, cap', e', hc⟩ := own_cell h.own (by have := Pl.lt_of_some hx; omega)
    rw [e] at e'
    cases e'
    exact ⟨g, rfl, hc i _ (by rw [List.getElem?_map, hx]; rfl)⟩
  constructor
  · refine ⟨ao, cap, by rw [e]; simp [HB.m], fun i l hl => ?_⟩
    unfold HB.m at hl
    rw [List.getElem?_map, Option.map_eq_some_iff] at hl
    obtain ⟨x, hx, rfl⟩ := hl
    obtain ⟨g, eg, c⟩ := key i x hx
    refine ⟨g, x.v, eg, c, some ⟨x.p, 0, none⟩, 1, rfl, fun j r hr => ?_⟩
    cases j with
    | zero =>
      simp at hr; subst hr
      exact ⟨x.p, x.q.v, rfl, (h.ok x (Pl.mem_of_some hx)).2.1.cell (i := 0) rfl, (h.ok x (Pl.mem_of_some hx)).2.2.rd⟩
    | succ j => simp at hr
  · refine ⟨ao, cap, by rw [e]; simp, fun i u hu => ?_⟩
    rw [List.getElem?_map, Option.map_eq_some_iff] at hu
    obtain ⟨x, hx, rfl⟩ := hu
    obtain ⟨g, eg, c⟩ := key i x hx
    exact ⟨g, eg, c⟩
/-- The holes in their order. -/
def ordH (H : List HB) : List HB := Vd.layN (fun i => Vd.cntA (HB.m H) i H.length) (fun i => H.getD i ⟨0, ⟨0, []⟩⟩) (List.replicate H.length ⟨0, ⟨0, []⟩⟩) H.length
theorem ordH_len (H : List HB) : (ordH H).length = H.length := by unfold ordH; rw [Vd.layN_len]; simp
theorem HB.m_len (H : List HB) : (HB.m H).length = H.length := by simp [HB.m]
theorem ordH_at {H : List HB} {j : Nat} (hj : j < H.length) : ∃ (i : Nat) (x : HB), H[i]? = some x ∧ Vd.cntA (HB.m H) i H.length = j ∧ (ordH H)[j]? = some x := by
  obtain ⟨i, hi, e⟩ := Vd.cnt_surj (m := HB.m H) hj
  obtain ⟨x, hx⟩ := Pl.some_of_lt hi
  refine ⟨i, x, hx, e, ?_⟩
  rw [← e]
  unfold ordH
  rw [Vd.layN_at (f := fun i => Vd.cntA (HB.m H) i H.length) (N := H.length) (fun i h => by simpa using Vd.cnt_small h) (fun i k h1 h2 => Vd.cnt_inj h1 h2) H.length (Nat.le_refl _) i hi, List.getD_eq_getElem?_getD, hx]; rfl
theorem ordH_mem {H : List HB} {x : HB} (h : x ∈ ordH H) : x ∈ H := by
  obtain ⟨j, hj⟩ := List.getElem?_of_mem h
  have := Pl.lt_of_some hj
  rw [ordH_len] at this
  obtain ⟨i, y, hy, -, e⟩ := ordH_at this
  rw [hj] at e
  cases e
  exact Pl.mem_of_some hy
theorem ordH_vals (H : List HB) : layV (HB.m H) (H.map HB.v) (HB.m H).length = (ordH H).map HB.v := by
  refine List.ext_getElem? fun j => ?_
  rcases Nat.lt_or_ge j H.length with hj | hj
  · obtain ⟨i, x, hx, e, ho⟩ := ordH_at hj
    rw [List.getElem?_map, ho]
    have := layV_at (m := HB.m H) (us := H.map HB.v) (i := i) (by rw [HB.m_len]; exact Pl.lt_of_some hx)
    rw [HB.m_len, e] at this
    rw [HB.m_len, this, usAt_some (u := x.v) (by rw [List.getElem?_map, hx]; rfl)]; rfl
  · rw [List.getElem?_eq_none (by rw [layV_len, HB.m_len]; exact hj), List.getElem?_eq_none (by rw [List.length_map, ordH_len]; exact hj)]
theorem ordH_rings (H : List HB) : Vd.inOrder (HB.m H) = (ordH H).map fun h => [h.q.r] := by
  refine List.ext_getElem? fun j => ?_
  rcases Nat.lt_or_ge j H.length with hj | hj
  · obtain ⟨i, x, hx, e, ho⟩ := ordH_at hj
    rw [List.getElem?_map, ho]
    have := Vd.inOrder_at (HB.m H) (i := i) (by rw [HB.m_len]; exact Pl.lt_of_some hx)
    rw [HB.m_len, e] at this
    rw [this]
    have h2 : (HB.m H)[i]? = some [x.q.r] := by unfold HB.m; rw [List.getElem?_map, hx]; rfl
    rw [pAt_some h2]; rfl
  · rw [List.getElem?_eq_none (by rw [Vd.inOrder_len, HB.m_len]; exact hj), List.getElem?_eq_none (by rw [List.length_map, ordH_len]; exact hj)]
theorem flat_one1 (L : List HB) : (L.map fun h => [h.q.r]).flatten = L.map fun h => h.q.r := by
  induction L with
  | nil => rfl
  | cons a t ih => simp [ih]

/-- What is asked of a ring that has a form. -/
structure RZ (r : Ring) : Prop where
  len : r.length ≤ 1048575
  cd : Vd.CdR r
  cn : (Vd.corners r).length ≠ 0
theorem form_len {r : Ring} {l : Bool} (h : RZ r) : (Vd.ringForm r l).length ≤ 1048576 := by
  rw [Vd.rForm_len h.cn]
  have : (Vd.corners r).length ≤ r.length := Vd.cornersI_len r r.length
  have := h.len
  omega
set_option maxRecDepth 8000 in
set_option maxHeartbeats 8000000 in
theorem polygonForm_any (v : Value) (l : Poly) (w : World) (hv : Rd2 w v l) (hl : l.length ≤ 1048576) (hz : ∀ r ∈ l, RZ r) :
    Calls Tryz.prog 44 #[v] w fun e w' => ∃ (fv : Value) (Q : List RG), e = .returned fv ∧ QF w.heap.size w' fv Q ∧ Q.map RG.r = Vd.polyForm l ∧ Up w w' := by
  obtain ⟨ao, cap, rfl, hm⟩ := hv
  have HM := hide hm
  have HZ := hide hz
  clear hm hz
  go_enter Tryz.func44, Tryz.ntmps44
  go_wp2
  go_loopw [3, 4, 11] (fun fv hv i wr => ∃ (k : Nat) (u x : Value) (Q : List RG) (H : List HB), i = .int .i64 k ∧ u = fv ∧ x = hv ∧ k ≤ l.length ∧ Hid (Up w wr) ∧ Hid (QF w.heap.size wr u Q) ∧ Hid (QH w.heap.size wr u x H) ∧ Hid (Q.map RG.r = ((l.take k).take 1).map (Vd.ringForm · true)) ∧ Hid ((H.map fun h => h.q.r) = ((l.take k).drop 1).map (Vd.ringForm · false))) (fun _ _ i _ => l.length - (intOf i).toNat)
  case atStart => exact ⟨0, _, _, [], [], rfl, rfl, rfl, Nat.zero_le _, Up.refl _, QF.nil _ _, QH.nil _ _, rfl, rfl⟩
  case round =>
    obtain ⟨k, u, x, Q, H, rfl, rfl, rfl, hk, HU, HQ, HH, HE1, HE2⟩ := hrel
    by_cases hlt : k < l.length
    · obtain ⟨r, hr⟩ := Pl.some_of_lt hlt
      obtain ⟨b, y, rfl, cy, hy⟩ := HM.out k r hr
      have e0 := HU.out.cell cy
      have Hy := hide (hy.up HU.out)
      have HZr := hide (HZ.out r (Pl.mem_of_some hr))
      have HTk := hide (Pl.take_one hr)
      have i1 : (0 : Int) ≤ (k : Int) := by omega
      have i2 : (k : Int) < (l.length : Int) := by omega
      have hsz : Hid (w.heap.size ≤ wr.heap.size) := HU.out.size
      have hQl : Hid (Q.length ≤ 1073741824) := by
        have := congrArg List.length HE1.out
        simp only [List.length_map, List.length_take] at this
        show _ ≤ _; omega
      have hHl : Hid (H.length ≤ 1073741824) := by
        have := congrArg List.length HE2.out
        simp only [List.length_map, List.length_take, List.length_drop] at this
        show _ ≤ _; omega
      clear hr cy hy
      by_cases hk0 : k = 0
      · subst hk0
        have HE1n : Hid (∀ q : RG, q.r = Vd.ringForm r true → (Q ++ [q]).map RG.r = ((l.take (0 + 1)).take 1).map (Vd.ringForm · true)) := fun q hq => by
          rw [List.map_append, HE1.out, HTk.out]; simp [hq]
        have HE2n : Hid ((H.map fun h => h.q.r) = ((l.take (0 + 1)).drop 1).map (Vd.ringForm · false)) := by
          rw [HE2.out, HTk.out]; simp [Hid]
        go_wp2_with fail
        refine (ringForm_any _ r true _ Hy.out HZr.out.len HZr.out.cd HZr.out.cn).mono ?_
        rintro e w2 ⟨g, rfl, hg, hP, hu2⟩
        have HU2 := hide hu2
        have Hq : Hid (RG.ok w.heap.size w2 ⟨g, Vd.ringForm r true⟩) := ⟨Nat.le_trans hsz.out hg, hP⟩
        generalize hF : Vd.ringForm r true = F at *
        clear hu2 hP e0 hF
        have HUa : Hid (Up wr (w2.alloc (.cells #[.slice (some ⟨g, 0, none⟩) F.length F.length] 46))) := HU2.out.alloc _
        have Hqa : Hid (RG.ok w.heap.size (w2.alloc (.cells #[.slice (some ⟨g, 0, none⟩) F.length F.length] 46)) ⟨g, F⟩) := Hq.out.up ((Up.refl _).alloc _)
        have HQa := hide (HQ.out.up HUa.out)
        have HHa := hide (HH.out.up HUa.out)
        have hsz2 : Hid (w.heap.size ≤ w2.heap.size) := Nat.le_trans hsz.out HU2.out.size
        have hHeap : Hid ((w2.alloc (.cells #[.slice (some ⟨g, 0, none⟩) F.length F.length] 46)).heap[w2.heap.size]? = some (.cells [Value.slice (some ⟨g, 0, none⟩) F.length F.length].toArray 46 (0, 0))) := VRow.new w2 [.slice (some ⟨g, 0, none⟩) F.length F.length] 46
        have hBs : Hid (w.heap.size ≤ (w2.alloc (.cells #[.slice (some ⟨g, 0, none⟩) F.length F.length] 46)).heap.size) := by
          have := hsz2.out; simp [Hid]; omega
        obtain ⟨xa, xc, rfl⟩ := own_len HH.out.own
        obtain ⟨ua, uc, rfl⟩ := own_len HQ.out.own
        go_wp2_with (at_builtin; refine wpList_app el_rings rfl (.tmp 18) (.tmp 21) rfl w.heap.size _ _ _ (by rfl) HQa.out.own w2.heap.size [.slice (some ⟨g, 0, none⟩) F.length F.length] (by rfl) rfl hHeap.out (by intro z hz; simp at hz; subst hz; rfl) hQl.out hBs.out ?_; intro g5 cap5 w5 hown5 hg5 hat5 hlt5; have HQ5 := hide (HQa.out.push Hqa.out hg5 hown5); have HH5 := hide (HHa.out.byF (n := Q.length + 1) (cap := cap5) HQa.out hg5 hat5); have HU5 : Hid (Up w w5) := Fr.up (S := fun _ => False) ((Fr.of_up (HU.out.trans HUa.out)).grown hg5 fun z hz => .inr (own_lt HQ.out.own hz).1) (fun _ _ h => h); clear hown5 hg5 hat5 hlt5)
        go_roundw
        case rel => exact ⟨0 + 1, _, _, _, H, by go_num, rfl, rfl, by omega, HU5, HQ5, HH5, HE1n.out _ rfl, HE2n⟩
        case measure => simp [intOf]; omega
      · have hk0' : ((k : Int) == 0) = false := beq_eq_false_iff_ne.2 (by omega)
        have HE1n : Hid (Q.map RG.r = ((l.take (k + 1)).take 1).map (Vd.ringForm · true)) := by
          rw [HE1.out, HTk.out]; show _ = _; rw [List.take_append_of_le_length (by rw [List.length_take]; omega)]
        have HE2n : Hid (∀ q : HB, q.q.r = Vd.ringForm r false → ((H ++ [q]).map fun h => h.q.r) = ((l.take (k + 1)).drop 1).map (Vd.ringForm · false)) := fun q hq => by
          rw [List.map_append, HE2.out, HTk.out, List.drop_append_of_le_length (by rw [List.length_take]; omega), List.map_append]; simp [hq]
        clear hk0
        go_wp2_with fail
        refine (ringForm_any _ r false _ Hy.out HZr.out.len HZr.out.cd HZr.out.cn).mono ?_
        rintro e w2 ⟨g, rfl, hg, hP, hu2⟩
        have HU2 := hide hu2
        have Hq : Hid (RG.ok w.heap.size w2 ⟨g, Vd.ringForm r false⟩) := ⟨Nat.le_trans hsz.out hg, hP⟩
        have hfl := hide (form_len (l := false) HZr.out)
        generalize hF : Vd.ringForm r false = F at *
        clear hu2 hP e0 hF
        have HUa : Hid (Up wr ((w2.alloc (.cells #[.slice (some ⟨g, 0, none⟩) F.length F.length] 46)).alloc (.cells #[.slice (some ⟨w2.heap.size, 0, none⟩) 1 1] 45))) := (HU2.out.alloc _).alloc _
        have HXo : Hid (HB.ok w.heap.size ((w2.alloc (.cells #[.slice (some ⟨g, 0, none⟩) F.length F.length] 46)).alloc (.cells #[.slice (some ⟨w2.heap.size, 0, none⟩) 1 1] 45)) ⟨w2.heap.size, ⟨g, F⟩⟩) :=
          ⟨Nat.le_trans hsz.out HU2.out.size, (VRow.new w2 _ _).up ((Up.refl _).alloc _), Hq.out.up (((Up.refl _).alloc _).alloc _)⟩
        have HQa := hide (HQ.out.up HUa.out)
        have HHa := hide (HH.out.up HUa.out)
        have hne : Hid (u.ownBlock ≠ some w2.heap.size) := fun e => by have := (own_lt HQ.out.own e).2; have := HU2.out.size; omega
        have hsz2 : Hid (w.heap.size ≤ w2.heap.size) := Nat.le_trans hsz.out HU2.out.size
        have hHeap : Hid (((w2.alloc (.cells #[.slice (some ⟨g, 0, none⟩) F.length F.length] 46)).alloc (.cells #[.slice (some ⟨w2.heap.size, 0, none⟩) 1 1] 45)).heap[w2.heap.size + 1]? = some (.cells [Value.slice (some ⟨w2.heap.size, 0, none⟩) 1 1].toArray 45 (0, 0))) := by
          have := VRow.new (w2.alloc (.cells #[.slice (some ⟨g, 0, none⟩) F.length F.length] 46)) [.slice (some ⟨w2.heap.size, 0, none⟩) 1 1] 45
          unfold VRow at this
          rw [show (w2.alloc (.cells #[.slice (some ⟨g, 0, none⟩) F.length F.length] 46)).heap.size = w2.heap.size + 1 by simp] at this
          exact this
        have hBs : Hid (w.heap.size ≤ ((w2.alloc (.cells #[.slice (some ⟨g, 0, none⟩) F.length F.length] 46)).alloc (.cells #[.slice (some ⟨w2.heap.size, 0, none⟩) 1 1] 45)).heap.size) := by
          have := hsz2.out; simp [Hid]; omega
        obtain ⟨xa, xc, rfl⟩ := own_len HH.out.own
        obtain ⟨ua, uc, rfl⟩ := own_len HQ.out.own
        go_wp2_with (at_builtin; refine wpList_app el_polys rfl (.tmp 23) (.tmp 27) rfl w.heap.size _ _ _ (by rfl) HHa.out.own (w2.heap.size + 1) [.slice (some ⟨w2.heap.size, 0, none⟩) 1 1] (by rfl) rfl hHeap.out (by intro z hz; simp at hz; subst hz; rfl) hHl.out hBs.out ?_; intro g5 cap5 w5 hown5 hg5 hat5 hlt5; have HH5 := hide (HHa.out.push HXo.out hne.out hg5 hown5); have HQ5 := hide (HQa.out.byH HHa.out hg5); have HU5 : Hid (Up w w5) := Fr.up (S := fun _ => False) ((Fr.of_up (HU.out.trans HUa.out)).grown hg5 fun z hz => .inr (own_lt HH.out.own hz).1) (fun _ _ h => h); clear hown5 hg5 hat5 hlt5)
        go_roundw
        case rel => exact ⟨k + 1, _, _, Q, _, by go_num, rfl, rfl, by omega, HU5, HQ5, HH5, HE1n, HE2n.out _ rfl⟩
        case measure => simp [intOf]; omega
    · have i2 : ¬ (k : Int) < (l.length : Int) := by omega
      have hkl : k = l.length := by omega
      have HF1 : Hid (Q.map RG.r = (l.take 1).map (Vd.ringForm · true)) := by have := HE1.out; rw [hkl, List.take_length] at this; exact this
      have HF2 : Hid ((H.map fun h => h.q.r) = (l.drop 1).map (Vd.ringForm · false)) := by have := HE2.out; rw [hkl, List.take_length] at this; exact this
      have hHl : H.length ≤ 1048576 := by
        have := congrArg List.length HF2.out
        simp only [List.length_map, List.length_drop] at this
        omega
      have hQl : Q.length ≤ 1 := by
        have := congrArg List.length HF1.out
        simp only [List.length_map, List.length_take] at this
        omega
      have HRl : Hid (∀ h ∈ H, h.q.r.length ≤ 1048576) := fun h hh => by
        have : h.q.r ∈ (l.drop 1).map (Vd.ringForm · false) := by rw [← HF2.out]; exact List.mem_map.2 ⟨h, hh, rfl⟩
        obtain ⟨r, hr, e⟩ := List.mem_map.1 this
        rw [← e]
        exact form_len (HZ.out r (List.mem_of_mem_drop hr))
      have HPF : Hid (∀ Q' : List RG, Q'.map RG.r = Q.map RG.r ++ ((ordH H).map fun h => h.q.r) → Q'.map RG.r = Vd.polyForm l) := fun Q' hQ' => by
        rw [hQ', HF1.out]
        cases l with
        | nil =>
          have hn : H = [] := by have := congrArg List.length HF2.out; simp at this; exact this
          subst hn
          rfl
        | cons r0 t =>
          have e : Vd.holesF t = HB.m H := by
            unfold Vd.holesF HB.m
            have := HF2.out
            simp only [List.drop_succ_cons, List.drop_zero] at this
            have h2 := congrArg (List.map fun r : Ring => [r]) this
            simp only [List.map_map] at h2
            exact h2.symm
          show [Vd.ringForm r0 true] ++ _ = Vd.ringForm r0 true :: (Vd.inOrder (Vd.holesF t)).flatten
          rw [e, ordH_rings, flat_one1]; rfl
      have HIO := hide (inOrder_any _ (HB.m H) (H.map HB.v) wr HH.out.rd.1 HH.out.rd.2 (by rw [List.length_map, HB.m_len]) (by rw [HB.m_len]; exact hHl) (fun p hp => by unfold HB.m at hp; obtain ⟨h, _, rfl⟩ := List.mem_map.1 hp; simp) (fun p hp r hr => by unfold HB.m at hp; obtain ⟨h, hh, rfl⟩ := List.mem_map.1 hp; rw [List.mem_singleton.1 hr]; exact HRl.out h hh))
      rw [ordH_vals, HB.m_len] at HIO
      clear hkl HE1 HE2
      obtain ⟨xa, xc, rfl⟩ := own_len HH.out.own
      obtain ⟨ua, uc, rfl⟩ := own_len HQ.out.own
      go_wp2_with fail
      refine HIO.out.mono ?_
      rintro e w2 ⟨G, rfl, hG, hRow, hu2⟩
      have HU2 := hide (HU.out.trans hu2)
      have HQ2 := hide (HQ.out.up hu2)
      have HK2 : Hid (∀ h ∈ ordH H, h.ok w.heap.size w2 ∧ (Value.slice ua Q.length uc).ownBlock ≠ some h.p) := fun h hh => ⟨(HH.out.ok h (ordH_mem hh)).up hu2, HH.out.ne h (ordH_mem hh)⟩
      have hOl : (ordH H).length = H.length := ordH_len H
      have HRow := hide hRow
      have HGn : Hid ((Value.slice ua Q.length uc).ownBlock ≠ some G) := fun e => by have := (own_lt HQ.out.own e).2; omega
      generalize ordH H = O at *
      clear hG hRow hu2 HIO HH HF1 HF2 HQ HU HRl
      go_wp2
      go_loopw [3, 33] (fun fv i wq => ∃ (t : Nat) (u : Value) (Q' : List RG), i = .int .i64 t ∧ u = fv ∧ t ≤ H.length ∧ Hid (Up w wq) ∧ Hid (QF w.heap.size wq u Q') ∧ Hid (VRow wq G 45 (O.map HB.v)) ∧ Hid (u.ownBlock ≠ some G) ∧ Hid (∀ h ∈ O, h.ok w.heap.size wq ∧ u.ownBlock ≠ some h.p) ∧ Hid (Q'.map RG.r = Q.map RG.r ++ ((O.take t).map fun h => h.q.r))) (fun _ i _ => H.length - (intOf i).toNat)
      case atStart => exact ⟨0, _, Q, rfl, rfl, Nat.zero_le _, HU2, HQ2, HRow, HGn, HK2, by simp [Hid]⟩
      case round =>
        clear HU2 HQ2 HRow HGn HK2
        obtain ⟨t, u, Q', rfl, rfl, ht, HU, HQ, HRow, HGn, HK, HE⟩ := hrel
        by_cases hlt2 : t < H.length
        · obtain ⟨h, hh⟩ := Pl.some_of_lt (show t < O.length by omega)
          have e0 := HRow.out.cell (i := t) (v := h.v) (by rw [List.getElem?_map, hh]; rfl)
          have Hk := hide (HK.out h (Pl.mem_of_some hh))
          have HEn : Hid ((Q' ++ [h.q]).map RG.r = Q.map RG.r ++ ((O.take (t + 1)).map fun h => h.q.r)) := by rw [Pl.take_one hh, List.map_append, HE.out, List.map_append, List.append_assoc]; exact rfl
          have hQl2 : Hid (Q'.length ≤ 1073741824) := by
            have := congrArg List.length HE.out
            simp only [List.length_map, List.length_append, List.length_take] at this
            show _ ≤ _; omega
          have hBs : Hid (w.heap.size ≤ wr.heap.size) := HU.out.size
          have hHeap : Hid (wr.heap[h.p]? = some (.cells [h.q.v].toArray 46 (0, 0))) := Hk.out.1.2.1
          have j1 : (0 : Int) ≤ (t : Int) := by omega
          have j2 : (t : Int) < (H.length : Int) := by omega
          rw [HB.v] at e0
          obtain ⟨ua', uc', rfl⟩ := own_len HQ.out.own
          clear hh
          go_wp2_with (at_builtin; refine wpList_app el_rings rfl (.tmp 37) (.tmp 38) rfl w.heap.size _ _ _ (by rfl) HQ.out.own h.p [h.q.v] (by rfl) rfl hHeap.out (by intro z hz; simp at hz; subst hz; rfl) hQl2.out hBs.out ?_; intro g5 cap5 w5 hown5 hg5 hat5 hlt5; have HQ5 := hide (HQ.out.push Hk.out.1.2.2 hg5 hown5); have HU5 : Hid (Up w w5) := Fr.up (S := fun _ => False) ((Fr.of_up HU.out).grown hg5 fun z hz => .inr (own_lt HQ.out.own hz).1) (fun _ _ h => h); have HR5 := hide (HRow.out.grown hg5 HGn.out); have HG5 : Hid ((Value.slice (some ⟨g5, 0, none⟩) (Q'.length + 1) cap5).ownBlock ≠ some G) := (fun e => by have hlt := HRow.out.lt; have e' : g5 = G := Option.some.inj e; rcases hat5 with e2 | e2; exact HGn.out (e' ▸ e2); omega); have HK5 : Hid (∀ h ∈ O, h.ok w.heap.size w5 ∧ (Value.slice (some ⟨g5, 0, none⟩) (Q'.length + 1) cap5).ownBlock ≠ some h.p) := (fun x hx => ⟨(HK.out x hx).1.byF HQ.out (HK.out x hx).2 hg5, fun e => by have hlt : x.p < wr.heap.size := (HK.out x hx).1.2.1.lt; have e' : g5 = x.p := Option.some.inj e; rcases hat5 with e2 | e2; exact (HK.out x hx).2 (e' ▸ e2); omega⟩); clear hown5 hg5 hat5 hlt5)
          go_roundw
          case rel => exact ⟨t + 1, _, _, by go_num, rfl, by omega, HU5, HQ5, HR5, HG5, HK5, HEn⟩
          case measure => simp [intOf]; omega
        · have j2 : ¬ (t : Int) < (H.length : Int) := by omega
          have HR := hide (HPF.out Q' (by rw [HE.out, List.take_of_length_le (by omega)]))
          go_wp2
          go_ret
          exact ⟨_, rfl, Q', HQ.out, HR.out, HU.out⟩
end Go.Proofs.YtcclepohmhdpbabGreatDoor

/- THE WALKS: package canon: Form. -/
namespace Go.Proofs.YtcclepohmhdpbabGreatDoor
set_option linter.all false
open Go.RowKit Go.Deep

/-- A polygon that was laid: its list, its rings. -/
structure PG where
  v : Value
  q : List RG
def PG.l (x : PG) : Poly := x.q.map RG.r
/-- Polygons that are being laid, in a list. -/
structure QP (base : Nat) (w : World) (v : Value) (X : List PG) : Prop where
  own : w.ownsRow base 45 1 v X.length (X.map PG.v)
  ok : ∀ x ∈ X, QF base w x.v x.q
theorem QF.base {base base' : Nat} {w : World} {v : Value} {Q : List RG} (h : QF base w v Q) (hb : base' ≤ base) : QF base' w v Q := ⟨own_base h.own hb, fun q hq => ⟨Nat.le_trans hb (h.ok q hq).1, (h.ok q hq).2⟩⟩
theorem QF.byP {base base' n : Nat} {w w' : World} {v u : Value} {Q : List RG} {xs : List Value} (h : QF base w v Q) (k : w.ownsRow base' 45 1 u n xs) (hg : w.grownBy w' u.ownBlock) : QF base w' v Q :=
  ⟨own_grown h.own k (by decide) hg, fun x hx => (h.ok x hx).grown k (by decide) hg⟩
theorem QP.nil (base : Nat) (w : World) : QP base w (.slice none 0 0) [] := ⟨World.ownsRow_nil _ _ _ _, fun q hq => by simp at hq⟩
theorem QP.up {base : Nat} {w w' : World} {v : Value} {X : List PG} (h : QP base w v X) (k : Up w w') : QP base w' v X := ⟨own_up h.own k, fun q hq => (h.ok q hq).up k⟩
theorem QP.push {base : Nat} {w w' : World} {v : Value} {X : List PG} {x : PG} {g cap : Nat} (h : QP base w v X) (hx : QF base w x.v x.q) (hg : w.grownBy w' v.ownBlock) (hown : w'.ownsRow base 45 1 (.slice (some ⟨g, 0, none⟩) (X.length + 1) cap) (X.length + 1) (X.map PG.v ++ [x.v])) : QP base w' (.slice (some ⟨g, 0, none⟩) (X.length + 1) cap) (X ++ [x]) := by
  refine ⟨by rw [List.map_append, List.length_append]; exact hown, fun y hy => ?_⟩
  rcases List.mem_append.1 hy with hy | hy
  · exact (h.ok y hy).byP h.own hg
  · rw [List.mem_singleton.1 hy]; exact hx.byP h.own hg
theorem QF.rc {base : Nat} {w : World} {v : Value} {Q : List RG} (h : QF base w v Q) : Rc2 w v (Q.map RG.r) := by
  obtain ⟨ao, cap, e⟩ := own_len h.own
  refine ⟨ao, cap, by rw [e, List.length_map], ?_, fun i r hr => ?_⟩
  · rw [List.length_map]
    rcases h.own.2 with ⟨e2, h0⟩ | ⟨g, cap', cur, e2, hb, hh, hc⟩
    · rw [h0]; exact Nat.zero_le _
    · rw [e] at e2; cases e2; exact hc.1
  · rw [List.getElem?_map, Option.map_eq_some_iff] at hr
    obtain ⟨q, hq, rfl⟩ := hr
    obtain ⟨g, cap', e', hc⟩ := own_cell h.own (by have := Pl.lt_of_some hq; omega)
    rw [e] at e'
    cases e'
    exact ⟨g, q.v, rfl, hc i _ (by rw [List.getElem?_map, hq]; rfl), (h.ok q (Pl.mem_of_some hq)).rd⟩

namespace Vd
theorem ord_mem {m : Mult} {x : Poly} (h : x ∈ inOrder m) : x ∈ m := by
  obtain ⟨j, hj⟩ := List.getElem?_of_mem h
  have hl := Pl.lt_of_some hj
  rw [inOrder_len] at hl
  obtain ⟨i, hi, e⟩ := cnt_surj (m := m) hl
  have := inOrder_at m hi
  rw [e, hj] at this
  cases this
  obtain ⟨l, hl⟩ := Pl.some_of_lt hi
  unfold pAt; rw [List.getD_eq_getElem?_getD, hl]; exact Pl.mem_of_some hl
theorem polyForm_mem {l : Poly} {x : Ring} (h : x ∈ polyForm l) : ∃ r ∈ l, ∃ b, x = ringForm r b := by
  cases l with
  | nil => simp [polyForm] at h
  | cons r0 t =>
    rw [polyForm] at h
    rcases List.mem_cons.1 h with rfl | h
    · exact ⟨r0, by simp, true, rfl⟩
    · obtain ⟨p, hp, hx⟩ := List.mem_flatten.1 h
      obtain ⟨r, hr, rfl⟩ := List.mem_map.1 (ord_mem hp)
      exact ⟨r, by simp [hr], false, List.mem_singleton.1 hx⟩
theorem flatten_ones {m : Mult} (h : ∀ x ∈ m, x.length = 1) : m.flatten.length = m.length := by
  induction m with
  | nil => rfl
  | cons a t ih => rw [List.flatten_cons, List.length_append, h a (by simp), ih fun x hx => h x (by simp [hx]), List.length_cons]; omega
theorem polyForm_len (l : Poly) : (polyForm l).length = l.length := by
  cases l with
  | nil => rfl
  | cons r0 t =>
    rw [polyForm, List.length_cons, List.length_cons, flatten_ones, inOrder_len]
    · unfold holesF; rw [List.length_map]
    · intro x hx
      obtain ⟨r, _, rfl⟩ := List.mem_map.1 (ord_mem hx)
      rfl
end Vd
def PG.m (X : List PG) : Mult := X.map PG.l
theorem PG.m_len (X : List PG) : (PG.m X).length = X.length := by simp [PG.m]
theorem QP.rd {base : Nat} {w : World} {v : Value} {X : List PG} (h : QP base w v X) : Rd3 w v (PG.m X) ∧ Vls w v (X.map PG.v) := by
  obtain ⟨ao, cap, e⟩ := own_len h.own
  have key : ∀ i x, X[i]? = some x → ∃ g, ao = some ⟨g, 0, none⟩ ∧ w.cell? ⟨g, i, none⟩ = some x.v := fun i x hx => by
    obtain ⟨g, cap', e', hc⟩ := own_cell h.own (by have := Pl.lt_of_some hx; omega)
    rw [e] at e'
    cases e'
    exact ⟨g, rfl, hc i _ (by rw [List.getElem?_map, hx]; rfl)⟩
  constructor
  · refine ⟨ao, cap, by rw [e, PG.m_len], fun i l hl => ?_⟩
    unfold PG.m at hl
    rw [List.getElem?_map, Option.map_eq_some_iff] at hl
    obtain ⟨x, hx, rfl⟩ := hl
    obtain ⟨g, eg, c⟩ := key i x hx
    exact ⟨g, x.v, eg, c, (h.ok x (Pl.mem_of_some hx)).rc.rd⟩
  · refine ⟨ao, cap, by rw [e, List.length_map], fun i u hu => ?_⟩
    rw [List.getElem?_map, Option.map_eq_some_iff] at hu
    obtain ⟨x, hx, rfl⟩ := hu
    obtain ⟨g, eg, c⟩ := key i x hx
    exact ⟨g, eg, c⟩
/-- The polygons in their order. -/
def ordP (X : List PG) : List PG := Vd.layN (fun i => Vd.cntA (PG.m X) i X.length) (fun i => X.getD i ⟨.slice none 0 0, []⟩) (List.replicate X.length ⟨.slice none 0 0, []⟩) X.length
theorem ordP_len (X : List PG) : (ordP X).length = X.length := by unfold ordP; rw [Vd.layN_len]; simp
theorem ordP_at {X : List PG} {j : Nat} (hj : j < X.length) : ∃ (i : Nat) (x : PG), X[i]? = some x ∧ Vd.cntA (PG.m X) i X.length = j ∧ (ordP X)[j]? = some x := by
  obtain ⟨i, hi, e⟩ := Vd.cnt_surj (m := PG.m X) hj
  obtain ⟨x, hx⟩ := Pl.some_of_lt hi
  refine ⟨i, x, hx, e, ?_⟩
  rw [← e]
  unfold ordP
  rw [Vd.layN_at (f := fun i => Vd.cntA (PG.m X) i X.length) (N := X.length) (fun i h => by simpa using Vd.cnt_small h) (fun i k h1 h2 => Vd.cnt_inj h1 h2) X.length (Nat.le_refl _) i hi, List.getD_eq_getElem?_getD, hx]; rfl
theorem ordP_mem {X : List PG} {x : PG} (h : x ∈ ordP X) : x ∈ X := by
  obtain ⟨j, hj⟩ := List.getElem?_of_mem h
  have := Pl.lt_of_some hj
  rw [ordP_len] at this
  obtain ⟨i, y, hy, -, e⟩ := ordP_at this
  rw [hj] at e
  cases e
  exact Pl.mem_of_some hy
theorem ordP_vals (X : List PG) : layV (PG.m X) (X.map PG.v) (PG.m X).length = (ordP X).map PG.v := by
  refine List.ext_getElem? fun j => ?_
  rcases Nat.lt_or_ge j X.length with hj | hj
  · obtain ⟨i, x, hx, e, ho⟩ := ordP_at hj
    rw [List.getElem?_map, ho]
    have := layV_at (m := PG.m X) (us := X.map PG.v) (i := i) (by rw [PG.m_len]; exact Pl.lt_of_some hx)
    rw [PG.m_len, e] at this
    rw [PG.m_len, this, usAt_some (u := x.v) (by rw [List.getElem?_map, hx]; rfl)]; rfl
  · rw [List.getElem?_eq_none (by rw [layV_len, PG.m_len]; exact hj), List.getElem?_eq_none (by rw [List.length_map, ordP_len]; exact hj)]
theorem ordP_polys (X : List PG) : Vd.inOrder (PG.m X) = (ordP X).map PG.l := by
  refine List.ext_getElem? fun j => ?_
  rcases Nat.lt_or_ge j X.length with hj | hj
  · obtain ⟨i, x, hx, e, ho⟩ := ordP_at hj
    rw [List.getElem?_map, ho]
    have := Vd.inOrder_at (PG.m X) (i := i) (by rw [PG.m_len]; exact Pl.lt_of_some hx)
    rw [PG.m_len, e] at this
    rw [this]
    have h2 : (PG.m X)[i]? = some x.l := by unfold PG.m; rw [List.getElem?_map, hx]; rfl
    rw [pAt_some h2]; rfl
  · rw [List.getElem?_eq_none (by rw [Vd.inOrder_len, PG.m_len]; exact hj), List.getElem?_eq_none (by rw [List.length_map, ordP_len]; exact hj)]

/-- What is asked of a set that has a form. -/
structure FZ (m : Mult) : Prop where
  len : m.length ≤ 1048576
  poly : ∀ l ∈ m, l.length ≤ 1048576
  ring : ∀ l ∈ m, ∀ r ∈ l, RZ r
/-- A set that was laid. -/
structure NS (base : Nat) (w : World) (G : Nat) (X : List PG) : Prop where
  low : base ≤ G
  row : VRow w G 45 (X.map PG.v)
  ok : ∀ x ∈ X, QF base w x.v x.q
set_option maxRecDepth 8000 in
set_option maxHeartbeats 8000000 in
theorem form_any (v : Value) (m : Mult) (w : World) (hv : Rd3 w v m) (hz : FZ m) :
    Calls Tryz.prog 32 #[v] w fun e w' => ∃ (G : Nat) (X : List PG), e = .returned (.slice (some ⟨G, 0, none⟩) X.length X.length) ∧ NS w.heap.size w' G X ∧ PG.m X = Vd.form m ∧ Up w w' := by
  obtain ⟨ao, cap, rfl, hm⟩ := hv
  have HM := hide hm
  have HZ := hide hz
  have hl := hz.len
  have HDf : Hid (Vd.form m = Vd.inOrder (m.map Vd.polyForm)) := rfl
  clear hm hz
  go_enter Tryz.func32, Tryz.ntmps32
  go_wp2
  go_loopw [3, 8] (fun fv i wr => ∃ (k : Nat) (u : Value) (X : List PG), i = .int .i64 k ∧ u = fv ∧ k ≤ m.length ∧ Hid (Up w wr) ∧ Hid (QP w.heap.size wr u X) ∧ Hid (PG.m X = (m.take k).map Vd.polyForm)) (fun _ i _ => m.length - (intOf i).toNat)
  case atStart => exact ⟨0, _, [], rfl, rfl, Nat.zero_le _, Up.refl _, QP.nil _ _, rfl⟩
  case round =>
    obtain ⟨k, u, X, rfl, rfl, hk, HU, HQ, HE⟩ := hrel
    have hXl : X.length = k := by
      have := congrArg List.length HE.out
      rw [PG.m_len, List.length_map, List.length_take] at this
      omega
    by_cases hlt : k < m.length
    · obtain ⟨l, hr⟩ := Pl.some_of_lt hlt
      obtain ⟨b, y, rfl, cy, hy⟩ := HM.out k l hr
      have e0 := HU.out.cell cy
      have HKp := hide (polygonForm_any y l wr (hy.up HU.out) (HZ.out.poly l (Pl.mem_of_some hr)) (HZ.out.ring l (Pl.mem_of_some hr)))
      have HEn : Hid (∀ x : PG, x.l = Vd.polyForm l → PG.m (X ++ [x]) = (m.take (k + 1)).map Vd.polyForm) := fun x hx => by
        unfold PG.m at *
        rw [List.map_append, HE.out, Pl.take_one hr, List.map_append]; simp [hx]
      have i1 : (0 : Int) ≤ (k : Int) := by omega
      have i2 : (k : Int) < (m.length : Int) := by omega
      have hsz : Hid (w.heap.size ≤ wr.heap.size) := HU.out.size
      have hXb : Hid (X.length ≤ 1073741824) := by show _ ≤ _; omega
      clear hr cy hy hXl
      go_wp2_with fail
      refine HKp.out.mono ?_
      rintro e w2 ⟨fv, Q, rfl, hQF, hQe, hu2⟩
      have HU2 := hide hu2
      have HQF := hide (hQF.base hsz.out)
      have HQe := hide hQe
      obtain ⟨fa, fc, rfl⟩ := own_len hQF.own
      clear hu2 hQF hQe e0 HKp
      have HUa : Hid (Up wr (w2.alloc (.cells #[.slice fa Q.length fc] 45))) := HU2.out.alloc _
      have HFa : Hid (QF w.heap.size (w2.alloc (.cells #[.slice fa Q.length fc] 45)) (.slice fa Q.length fc) Q) := HQF.out.up ((Up.refl _).alloc _)
      have HQa := hide (HQ.out.up HUa.out)
      have hHeap : Hid ((w2.alloc (.cells #[.slice fa Q.length fc] 45)).heap[w2.heap.size]? = some (.cells [Value.slice fa Q.length fc].toArray 45 (0, 0))) := VRow.new w2 [.slice fa Q.length fc] 45
      have hBs : Hid (w.heap.size ≤ (w2.alloc (.cells #[.slice fa Q.length fc] 45)).heap.size) := by
        have := Nat.le_trans hsz.out HU2.out.size; simp [Hid]; omega
      obtain ⟨ua, uc, rfl⟩ := own_len HQ.out.own
      go_wp2_with (at_builtin; refine wpList_app el_polys rfl (.tmp 12) (.tmp 15) rfl w.heap.size _ _ _ (by rfl) HQa.out.own w2.heap.size [.slice fa Q.length fc] (by rfl) rfl hHeap.out (by intro z hz; simp at hz; subst hz; rfl) hXb.out hBs.out ?_; intro g5 cap5 w5 hown5 hg5 hat5 hlt5; have HQ5 := hide (HQa.out.push (x := ⟨.slice fa Q.length fc, Q⟩) HFa.out hg5 hown5); have HU5 : Hid (Up w w5) := Fr.up (S := fun _ => False) ((Fr.of_up (HU.out.trans HUa.out)).grown hg5 fun z hz => .inr (own_lt HQ.out.own hz).1) (fun _ _ h => h); clear hown5 hg5 hat5 hlt5)
      go_roundw
      case rel => exact ⟨k + 1, _, _, by go_num, rfl, by omega, HU5, HQ5, HEn.out _ HQe.out⟩
      case measure => simp [intOf]; omega
    · have i2 : ¬ (k : Int) < (m.length : Int) := by omega
      have HEf : Hid (PG.m X = m.map Vd.polyForm) := by have := HE.out; rw [show k = m.length by omega, List.take_length] at this; exact this
      have HIO := hide (inOrder_any _ (PG.m X) (X.map PG.v) wr HQ.out.rd.1 HQ.out.rd.2 (by rw [List.length_map, PG.m_len]) (by rw [PG.m_len]; omega) (fun p hp => by
        rw [HEf.out] at hp
        obtain ⟨l, hl, rfl⟩ := List.mem_map.1 hp
        rw [Vd.polyForm_len]; exact HZ.out.poly l hl) (fun p hp r hr => by
        rw [HEf.out] at hp
        obtain ⟨l, hl, rfl⟩ := List.mem_map.1 hp
        obtain ⟨r0, hr0, b, rfl⟩ := Vd.polyForm_mem hr
        exact form_len (HZ.out.ring l hl r0 hr0)))
      rw [ordP_vals, PG.m_len] at HIO
      have HRf : Hid (PG.m (ordP X) = Vd.form m) := by rw [HDf.out, ← HEf.out, ordP_polys]; exact rfl
      have hOl : (ordP X).length = X.length := ordP_len X
      have HOk : Hid (∀ x ∈ ordP X, QF w.heap.size wr x.v x.q) := fun x hx => HQ.out.ok x (ordP_mem hx)
      have hsz : Hid (w.heap.size ≤ wr.heap.size) := HU.out.size
      obtain ⟨ua, uc, rfl⟩ := own_len HQ.out.own
      generalize ordP X = O at *
      clear hXl
      go_wp2_with fail
      refine HIO.out.mono ?_
      rintro e w2 ⟨G, rfl, hG, hRow, hu2⟩
      have HN : Hid (NS w.heap.size w2 G O) := ⟨Nat.le_trans hsz.out hG, hRow, fun x hx => (HOk.out x hx).up hu2⟩
      have HU2 := hide (HU.out.trans hu2)
      rw [← hOl]
      clear hG hRow hu2 HIO
      go_wp2
      go_ret
      exact ⟨G, O, by rw [hOl]; rfl, HN.out, HRf.out, HU2.out⟩
end Go.Proofs.YtcclepohmhdpbabGreatDoor
