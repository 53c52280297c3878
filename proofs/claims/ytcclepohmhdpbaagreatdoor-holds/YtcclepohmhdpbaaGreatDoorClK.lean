import Derived.Test.YtcclepohmhdpbaaGreatDoorClI
/- THE WALKS: package clauses: enters, overlap. -/
namespace Go.Proofs.YtcclepohmhdpbaaGreatDoor
set_option linter.all false
open Go.RowKit Go.Deep

set_option maxHeartbeats 8000000 in
theorem enters_any (v u : Value) (a c : Poly) (w : World) (hv : Rd2 w v a) (hu : Rd2 w u c) (hl : a.length ≤ 1048576) (hl2 : ∀ r ∈ a, r.length ≤ 1048576) (hm : c.length ≤ 1048576) (hm2 : ∀ r ∈ c, r.length ≤ 1048576) (hmf : c.flatten.length ≤ 1048575) (hc : Vd.CdL a) (hd : Vd.CdL c) :
    Calls Tryz.prog 126 #[v, u] w fun e w' => e = .returned (.bool (Vd.enters a c)) ∧ Up w w' := by
  have HV2 := hide hu
  obtain ⟨ao, cap, rfl, hM⟩ := hv
  obtain ⟨ao2, cap2, rfl, -⟩ := hu
  have HM := hide hM
  have HC := hide hc
  have HL := hide hl2
  have HD := hide hd
  have HL2 := hide hm2
  have HMF := hide hmf
  have HT : Hid (Vd.enters a c = a.any fun r => (Vd.segs r).any fun s => (Vd.mids s c).any fun m => !(Vd.free c m)) := rfl
  generalize hh : (fun s => (Vd.mids s c).any fun m => !(Vd.free c m)) = h at *
  have HH : Hid (∀ s, h s = (Vd.mids s c).any fun m => !(Vd.free c m)) := by subst hh; exact fun _ => rfl
  clear hh
  generalize hf : (fun r => (Vd.segs r).any h) = f at *
  have HF : Hid (∀ r, f r = (Vd.segs r).any h) := by subst hf; exact fun _ => rfl
  clear hM hc hd hl2 hm2 hf hmf
  go_enter Tryz.func126, Tryz.ntmps126
  go_wp2
  go_loopw [13] (fun i wr => ∃ k : Nat, i = .int .i64 k ∧ k ≤ a.length ∧ Hid (Up w wr) ∧ Hid ((a.take k).any f = false)) (fun i _ => a.length - (intOf i).toNat)
  case atStart => exact ⟨0, rfl, Nat.zero_le _, Up.refl _, rfl⟩
  case round =>
    obtain ⟨k, rfl, hk, HU, HA⟩ := hrel
    by_cases hlt : k < a.length
    · obtain ⟨r, hr⟩ := Pl.some_of_lt hlt
      obtain ⟨b, z, rfl, cu, hz⟩ := HM.out k r hr
      have Hz := hide (hz.up HU.out)
      have cu2 := HU.out.cell cu
      have Hr := hide hr
      have HrL := hide (HL.out r (Pl.mem_of_some hr))
      have HC1 : Hid (∀ i s, (Vd.segs r)[i]? = some s → Vd.CdS s) := fun i s hs => Vd.segs_cd (HC.out r (Pl.mem_of_some Hr.out)) (Pl.mem_of_some hs)
      have HX := hide (Pl.any_take_succ f hr)
      have hsl : (Vd.segs r).length ≤ 1048576 := by rw [Vd.segs_len]; have := HrL.out; omega
      clear hr cu hz
      go_wp2_with fail
      refine (segments_any _ r _ Hz.out HrL.out).mono ?_
      rintro e w1 ⟨sv, rfl, hz1, ho⟩
      obtain ⟨sa, sc, es⟩ := own_len ho
      subst es
      have HR1 := hide (own_rdG (f := segC) (fun _ => rfl) ho)
      have HU1 := hide (HU.out.trans hz1)
      have HFr := hide (HF.out r)
      generalize Vd.segs r = L at *
      clear ho hz1 cu2
      go_wp2_with fail
      go_loopw [20] (fun i wr => ∃ q : Nat, i = .int .i64 q ∧ q ≤ L.length ∧ Hid (Up w1 wr) ∧ Hid ((L.take q).any h = false)) (fun i _ => L.length - (intOf i).toNat)
      case atStart => exact ⟨0, rfl, Nat.zero_le _, Up.refl _, rfl⟩
      case round =>
        clear HU
        obtain ⟨q, rfl, hq, HU, HB⟩ := hrel
        by_cases hlq : q < L.length
        · obtain ⟨⟨⟨ax, ay⟩, ⟨bx, bY⟩⟩, hs⟩ := Pl.some_of_lt hlq
          obtain ⟨g, cap', ev, c0, c1, c2, c3⟩ := (HR1.out.up HU.out).seg hs
          cases ev
          have HCk := hide (HC1.out _ _ hs)
          have Hk := hide hs
          have HY := hide (Pl.any_take_succ h hs)
          simp only at c0 c1 c2 c3
          clear hs
          go_wp2_with fail
          refine (middles_any ((ax, ay), (bx, bY)) _ c _ HCk.out ((HV2.out.up HU1.out).up (HU.out.alloc _)) hm HL2.out (by have := HMF.out; omega) HD.out).mono ?_
          rintro e w2 ⟨mv, rfl, hz2, ho⟩
          obtain ⟨ma, mc, es⟩ := own_len ho
          subst es
          have HR2 := hide (own_rdG (f := spotC) (fun _ => rfl) ho)
          have HU2 : Hid (Up w1 w2) := (HU.out.alloc _).trans hz2
          have HFk := hide (HH.out ((ax, ay), (bx, bY)))
          have HSp : Hid (∀ i m, (Vd.mids ((ax, ay), (bx, bY)) c)[i]? = some m → Vd.Sp m) := fun i m hm => Vd.mids_sp HCk.out HD.out m (Pl.mem_of_some hm)
          have hml : (Vd.mids ((ax, ay), (bx, bY)) c).length ≤ 1048576 := by
            have := Vd.mids_len ((ax, ay), (bx, bY)) c; have := HMF.out; omega
          generalize Vd.mids ((ax, ay), (bx, bY)) c = M at *
          clear ho hz2 c0 c1 c2 c3
          go_wp2_with fail
          go_loopw [28] (fun i wr => ∃ q : Nat, i = .int .i64 q ∧ q ≤ M.length ∧ Hid (Up w2 wr) ∧ Hid ((M.take q).any (fun m => !(Vd.free c m)) = false)) (fun i _ => M.length - (intOf i).toNat)
          case atStart => exact ⟨0, rfl, Nat.zero_le _, Up.refl _, rfl⟩
          case round =>
            obtain ⟨n, rfl, hn, HUn, HBn⟩ := hrel
            by_cases hln : n < M.length
            · obtain ⟨⟨⟨x, y⟩, t⟩, hs2⟩ := Pl.some_of_lt hln
              obtain ⟨g', cap'', ev, c0, c1, c2⟩ := (HR2.out.up HUn.out).spot hs2
              cases ev
              have HCn := hide (HSp.out _ _ hs2)
              have HZ := hide (Pl.any_take_succ (fun m => !(Vd.free c m)) hs2)
              simp only at c0 c1 c2
              have fin : Hid (Vd.free c ((x, y), t) = false → Vd.enters a c = true) := by
                intro hx
                rw [HT.out]
                exact Pl.any_true_of f Hr.out (by rw [HFr.out]; exact Pl.any_true_of h Hk.out (by rw [HFk.out]; exact Pl.any_true_of _ hs2 (by rw [hx]; rfl)))
              clear hs2
              cases hx : Vd.free c ((x, y), t)
              · have Hx := hide hx
                have HR := hide (fin.out hx)
                clear hx
                go_wp2_with (go_at_call 163; refine (free_any _ c ((x, y), t) _ ((HV2.out.up (HU1.out.trans (HU2.out.trans HUn.out))).up ((Up.refl _).alloc _)) hm HL2.out HD.out HCn.out).mono ?_; rintro e w3 ⟨rfl, hz3⟩; rw [Hx.out]; replace hz3 := hide hz3)
                go_ret
                exact ⟨ret_b HR.out.symm, ((HU1.out.trans HU2.out).trans (HUn.out.alloc _)).trans hz3.out⟩
              · have Hx := hide hx
                clear hx
                go_wp2_with (go_at_call 163; refine (free_any _ c ((x, y), t) _ ((HV2.out.up (HU1.out.trans (HU2.out.trans HUn.out))).up ((Up.refl _).alloc _)) hm HL2.out HD.out HCn.out).mono ?_; rintro e w3 ⟨rfl, hz3⟩; rw [Hx.out]; replace hz3 := hide hz3)
                go_roundw
                case rel => exact ⟨n + 1, by go_num, by omega, (HUn.out.alloc _).trans hz3.out, by rw [HZ.out, HBn.out, Hx.out]; exact rfl⟩
                case measure => simp [intOf]; omega
            · have hn2 : n = M.length := by omega
              subst hn2
              rw [List.take_length] at HBn
              go_wp2
              go_roundw
              case rel => exact ⟨q + 1, by go_num, by omega, HU2.out.trans HUn.out, by rw [HY.out, HB.out, HFk.out, HBn.out]; exact rfl⟩
              case measure => simp [intOf]; omega
        · have hq2 : q = L.length := by omega
          subst hq2
          rw [List.take_length] at HB
          go_wp2
          go_roundw
          case rel => exact ⟨k + 1, by go_num, by omega, HU1.out.trans HU.out, by rw [HX.out, HA.out, HFr.out, HB.out]; exact rfl⟩
          case measure => simp [intOf]; omega
    · have hk2 : k = a.length := by omega
      subst hk2
      rw [List.take_length] at HA
      have HR : Hid (Vd.enters a c = false) := by rw [HT.out]; exact HA.out
      go_wp2
      go_ret
      exact ⟨ret_b HR.out.symm, HU.out⟩

/-- the sizes of a set that can be asked. -/
structure Sz (m : Mult) : Prop where
  len : m.length ≤ 1048576
  poly : ∀ l ∈ m, l.length ≤ 1048576
  ring : ∀ l ∈ m, ∀ r ∈ l, r.length ≤ 1048575
  flat : ∀ l ∈ m, l.flatten.length ≤ 1048575
  cd : ∀ l ∈ m, Vd.CdL l
def ovG (m : Mult) (j i : Nat) : Bool := Vd.boundsX (Vd.pAt m i) (Vd.pAt m j) || Vd.enters (Vd.pAt m i) (Vd.pAt m j) || Vd.enters (Vd.pAt m j) (Vd.pAt m i)
def ovF (m : Mult) (j : Nat) : Bool := Vd.anyI j (ovG m j)
theorem overlap_F (m : Mult) : Vd.overlap m = Vd.anyI m.length (ovF m) := rfl
theorem pAt_some {m : Mult} {i : Nat} {l : Poly} (h : m[i]? = some l) : Vd.pAt m i = l := by unfold Vd.pAt; rw [List.getD_eq_getElem?_getD, h]; rfl
set_option maxHeartbeats 8000000 in
theorem overlap_any (v : Value) (m : Mult) (w : World) (hv : Rd3 w v m) (hz : Sz m) :
    Calls Tryz.prog 90 #[v] w fun e w' => e = .returned (.bool (Vd.overlap m)) ∧ Up w w' := by
  obtain ⟨ao, cap, rfl, hM⟩ := hv
  have HM := hide hM
  have HZ := hide hz
  have HS := hide (overlap_F m)
  have hl := hz.len
  clear hM hz
  go_enter Tryz.func90, Tryz.ntmps90
  go_wp2
  go_loopw [8] (fun i wr => ∃ k : Nat, i = .int .i64 k ∧ k ≤ m.length ∧ Hid (Up w wr) ∧ Hid (Vd.anyI k (ovF m) = false)) (fun i _ => m.length - (intOf i).toNat)
  case atStart => exact ⟨0, rfl, Nat.zero_le _, Up.refl _, rfl⟩
  case round =>
    obtain ⟨k, rfl, hk, HU, HA⟩ := hrel
    by_cases hlt : k < m.length
    · obtain ⟨r, hr⟩ := Pl.some_of_lt hlt
      obtain ⟨b, z, rfl, cu, hzr⟩ := HM.out k r hr
      obtain ⟨za, zc, rfl, -⟩ := id hzr
      have Hz := hide hzr
      have cu2 := HU.out.cell cu
      have Hr := hide hr
      have Hrm := hide (Pl.mem_of_some hr)
      clear hr cu hzr
      go_wp2
      clear cu2
      go_loopw [5] (fun i wr => ∃ q : Nat, i = .int .i64 q ∧ q ≤ k ∧ Hid (Up w wr) ∧ Hid (Vd.anyI q (ovG m k) = false)) (fun i _ => k - (intOf i).toNat)
      case atStart => exact ⟨0, rfl, Nat.zero_le _, HU, rfl⟩
      case round =>
        clear HU
        obtain ⟨q, rfl, hq, HU, HB⟩ := hrel
        by_cases hlq : q < k
        · obtain ⟨o, ho⟩ := Pl.some_of_lt (show q < m.length by omega)
          obtain ⟨b', z', e', cu, hzo⟩ := HM.out q o ho
          cases e'
          have Hz2 := hide (hzo.up HU.out)
          have HzU := hide (Hz.out.up HU.out)
          have cu2 := HU.out.cell cu
          have Hom := hide (Pl.mem_of_some ho)
          have HG : Hid (ovG m k q = (Vd.boundsX o r || Vd.enters o r || Vd.enters r o)) := by unfold ovG; rw [pAt_some ho, pAt_some Hr.out]; exact rfl
          have i1 : (q : Int) < (m.length : Int) := by omega
          have fin : Hid (ovG m k q = true → Vd.overlap m = true) := by
            intro h
            rw [HS.out]
            exact Vd.anyI_true (i := k) hlt (Vd.anyI_true (f := ovG m k) (i := q) hlq h)
          have R1 := hide (fun l (h : l ∈ m) r (hr : r ∈ l) => (show r.length ≤ 1048576 by have := HZ.out.ring l h r hr; omega))
          clear ho cu hzo
          go_wp2_with fail
          refine (bounds_any _ _ o r _ Hz2.out HzU.out (HZ.out.poly _ Hom.out) (R1.out _ Hom.out) (HZ.out.poly _ Hrm.out) (R1.out _ Hrm.out) (HZ.out.cd _ Hom.out) (HZ.out.cd _ Hrm.out)).mono ?_
          rintro e w2 ⟨rfl, hz2⟩
          have HU2 := hide (HU.out.trans hz2)
          have cu3 := hz2.cell cu2
          have Y2 := hide (Hz2.out.up hz2)
          have X2 := hide (HzU.out.up hz2)
          clear hz2 cu2
          cases hx : Vd.boundsX o r
          · rw [hx] at HG
            clear hx
            go_wp2_with fail
            refine (enters_any _ _ o r _ Y2.out X2.out (HZ.out.poly _ Hom.out) (R1.out _ Hom.out) (HZ.out.poly _ Hrm.out) (R1.out _ Hrm.out) (HZ.out.flat _ Hrm.out) (HZ.out.cd _ Hom.out) (HZ.out.cd _ Hrm.out)).mono ?_
            rintro e w3 ⟨rfl, hz3⟩
            have HU3 := hide (HU2.out.trans hz3)
            have cu4 := hz3.cell cu3
            have Y3 := hide (Y2.out.up hz3)
            have X3 := hide (X2.out.up hz3)
            clear hz3 cu3
            cases hx : Vd.enters o r
            · rw [hx] at HG
              clear hx
              go_wp2_with fail
              refine (enters_any _ _ r o _ X3.out Y3.out (HZ.out.poly _ Hrm.out) (R1.out _ Hrm.out) (HZ.out.poly _ Hom.out) (R1.out _ Hom.out) (HZ.out.flat _ Hom.out) (HZ.out.cd _ Hrm.out) (HZ.out.cd _ Hom.out)).mono ?_
              rintro e w4 ⟨rfl, hz4⟩
              have HU4 := hide (HU3.out.trans hz4)
              clear hz4 cu4
              cases hx : Vd.enters r o
              · rw [hx] at HG
                have HGf : Hid (ovG m k q = false) := HG.out
                clear hx
                go_wp2
                go_roundw
                case rel => exact ⟨q + 1, by go_num, by omega, HU4, anyI_step HB.out HGf.out⟩
                case measure => simp [intOf]; omega
              · rw [hx] at HG
                have HR := hide (fin.out HG.out)
                clear hx
                go_wp2
                go_ret
                exact ⟨ret_b HR.out.symm, HU4.out⟩
            · rw [hx] at HG
              have HR := hide (fin.out (by rw [HG.out]; rfl))
              clear hx
              go_wp2
              go_ret
              exact ⟨ret_b HR.out.symm, HU3.out⟩
          · rw [hx] at HG
            have HR := hide (fin.out (by rw [HG.out]; rfl))
            clear hx
            go_wp2
            go_ret
            exact ⟨ret_b HR.out.symm, HU2.out⟩
        · have hq2 : q = k := by omega
          subst hq2
          go_wp2
          go_roundw
          case rel => exact ⟨q + 1, by go_num, by omega, HU, anyI_step HA.out HB.out⟩
          case measure => simp [intOf]; omega
    · have hk2 : k = m.length := by omega
      subst hk2
      have HR : Hid (Vd.overlap m = false) := by rw [HS.out]; exact HA.out
      go_wp2
      go_ret
      exact ⟨ret_b HR.out.symm, HU.out⟩
end Go.Proofs.YtcclepohmhdpbaaGreatDoor

/- THE WALKS: package clauses: Least; Validate. -/
namespace Go.Proofs.YtcclepohmhdpbaaGreatDoor
set_option linter.all false
open Go.RowKit Go.Deep

/-- The sizes of a polygon that can be asked. -/
structure SzL (l : Poly) : Prop where
  len : l.length ≤ 1048576
  ring : ∀ r ∈ l, r.length ≤ 1048575
  flat : l.flatten.length ≤ 1048575
  cd : Vd.CdL l
theorem Sz.at {m : Mult} (h : Sz m) {l : Poly} (hl : l ∈ m) : SzL l := ⟨h.poly l hl, h.ring l hl, h.flat l hl, h.cd l hl⟩
theorem SzL.ring' {l : Poly} (h : SzL l) : ∀ r ∈ l, r.length ≤ 1048576 := fun r hr => by have := h.ring r hr; omega
theorem holdsC1 (l : Poly) : Vd.holdsC 1 l = Vd.simple l := rfl
theorem holdsC2 (l : Poly) : Vd.holdsC 2 l = Vd.touch l := rfl
theorem holdsC3 (l : Poly) : Vd.holdsC 3 l = Vd.nested l := rfl
theorem holdsC4 (l : Poly) : Vd.holdsC 4 l = !(Vd.way l) := rfl
set_option maxHeartbeats 2000000 in
theorem holds_any (c : Nat) (hc : 1 ≤ c) (hc4 : c ≤ 4) (v : Value) (l : Poly) (w : World) (hv : Rd2 w v l) (hz : SzL l) :
    Calls Tryz.prog 89 #[.int .i64 c, v] w fun e w' => e = .returned (.bool (Vd.holdsC c l)) ∧ Up w w' := by
  have HV := hide hv
  have HZ := hide hz
  clear hv hz
  rcases (show c = 1 ∨ c = 2 ∨ c = 3 ∨ c = 4 from by omega) with rfl | rfl | rfl | rfl
  · rw [holdsC1]
    go_enter Tryz.func89, Tryz.ntmps89
    go_wp2_with (go_at_call 121; refine (areSimple_any _ l _ HV.out HZ.out.len HZ.out.ring' HZ.out.cd).mono ?_; rintro e w2 ⟨rfl, hz2⟩; replace hz2 := hide hz2)
    go_ret
    exact ⟨rfl, hz2.out⟩
  · rw [holdsC2]
    go_enter Tryz.func89, Tryz.ntmps89
    go_wp2_with (go_at_call 122; refine (touch_any _ l _ HV.out HZ.out.len HZ.out.ring' HZ.out.cd).mono ?_; rintro e w2 ⟨rfl, hz2⟩; replace hz2 := hide hz2)
    go_ret
    exact ⟨rfl, hz2.out⟩
  · rw [holdsC3]
    go_enter Tryz.func89, Tryz.ntmps89
    go_wp2_with (go_at_call 123; refine (nested_any _ l _ HV.out HZ.out.len HZ.out.ring HZ.out.cd).mono ?_; rintro e w2 ⟨rfl, hz2⟩; replace hz2 := hide hz2)
    go_ret
    exact ⟨rfl, hz2.out⟩
  · rw [holdsC4]
    go_enter Tryz.func89, Tryz.ntmps89
    go_wp2_with (go_at_call 124; refine (way_any _ l _ HV.out HZ.out.len HZ.out.ring' (by have := HZ.out.flat; omega) HZ.out.cd).mono ?_; rintro e w2 ⟨rfl, hz2⟩; replace hz2 := hide hz2)
    go_ret
    exact ⟨rfl, hz2.out⟩

theorem least_at {m : Mult} {k : Nat} (hk : k < 4) (h : ∀ j, 1 ≤ j → j ≤ k → Vd.badC j m = false) (hb : Vd.badC (k + 1) m = true) : Vd.least m = (k : Int) + 1 := by
  unfold Vd.least
  rcases (show k = 0 ∨ k = 1 ∨ k = 2 ∨ k = 3 from by omega) with rfl | rfl | rfl | rfl
  · simp [hb]
  · simp [h 1 (by omega) (by omega), hb]
  · simp [h 1 (by omega) (by omega), h 2 (by omega) (by omega), hb]
  · simp [h 1 (by omega) (by omega), h 2 (by omega) (by omega), h 3 (by omega) (by omega), hb]
theorem least_last {m : Mult} (h : ∀ j, 1 ≤ j → j ≤ 4 → Vd.badC j m = false) : Vd.least m = if Vd.overlap m = true then 5 else 0 := by
  unfold Vd.least
  simp [h 1 (by omega) (by omega), h 2 (by omega) (by omega), h 3 (by omega) (by omega), h 4 (by omega) (by omega)]

set_option maxHeartbeats 4000000 in
theorem least_any (v : Value) (m : Mult) (w : World) (hv : Rd3 w v m) (hz : Sz m) :
    Calls Tryz.prog 55 #[v] w fun e w' => e = .returned (.int .i64 (Vd.least m)) ∧ Up w w' := by
  have HV := hide hv
  obtain ⟨ao, cap, rfl, hM⟩ := hv
  have HM := hide hM
  have HZ := hide hz
  have hl := hz.len
  have HLa := hide (fun k => least_at (m := m) (k := k))
  have HLl := hide (least_last (m := m))
  clear hM hz
  go_enter Tryz.func55, Tryz.ntmps55
  go_wp2
  go_loopw [3] (fun i wr => ∃ k : Nat, i = .int .i64 ((k : Int) + 1) ∧ k ≤ 4 ∧ Hid (Up w wr) ∧ Hid (∀ j, 1 ≤ j → j ≤ k → Vd.badC j m = false)) (fun i _ => 5 - (intOf i).toNat)
  case atStart => exact ⟨0, rfl, Nat.zero_le _, Up.refl _, fun j h1 h2 => by omega⟩
  case round =>
    obtain ⟨k, rfl, hk, HU, HA⟩ := hrel
    by_cases hlt : k < 4
    · have i1 : (k : Int) + 1 ≤ 4 := by omega
      have HBd : Hid (Vd.badC (k + 1) m = m.any fun l => !(Vd.holdsC (k + 1) l)) := rfl
      go_wp2
      go_loopw [12] (fun i wr => ∃ q : Nat, i = .int .i64 q ∧ q ≤ m.length ∧ Hid (Up w wr) ∧ Hid ((m.take q).any (fun l => !(Vd.holdsC (k + 1) l)) = false)) (fun i _ => m.length - (intOf i).toNat)
      case atStart => exact ⟨0, rfl, Nat.zero_le _, HU, rfl⟩
      case round =>
        clear HU
        obtain ⟨q, rfl, hq, HU, HB⟩ := hrel
        by_cases hlq : q < m.length
        · obtain ⟨l, hl2⟩ := Pl.some_of_lt hlq
          obtain ⟨b, z, rfl, cu, hzo⟩ := HM.out q l hl2
          have Hz2 := hide (hzo.up HU.out)
          have cu2 := HU.out.cell cu
          have Hlz := hide (HZ.out.at (Pl.mem_of_some hl2))
          have HY := hide (Pl.any_take_succ (fun l => !(Vd.holdsC (k + 1) l)) hl2)
          have Hl := hide hl2
          clear hl2 cu hzo
          cases hx : Vd.holdsC (k + 1) l
          · have Hx := hide hx
            have HR := hide (HLa.out k hlt HA.out (by rw [HBd.out]; exact Pl.any_true_of _ Hl.out (by rw [hx]; rfl)))
            clear hx
            go_wp2_with (go_at_call 89; refine (holds_any (k + 1) (by omega) (by omega) _ l _ Hz2.out Hlz.out).mono ?_; rintro e w2 ⟨rfl, hz2⟩; rw [Hx.out]; replace hz2 := hide hz2)
            go_ret
            exact ⟨ret_i HR.out.symm, HU.out.trans hz2.out⟩
          · have Hx := hide hx
            clear hx
            go_wp2_with (go_at_call 89; refine (holds_any (k + 1) (by omega) (by omega) _ l _ Hz2.out Hlz.out).mono ?_; rintro e w2 ⟨rfl, hz2⟩; rw [Hx.out]; replace hz2 := hide hz2)
            go_roundw
            case rel => exact ⟨q + 1, by go_num, by omega, HU.out.trans hz2.out, by rw [HY.out, HB.out, Hx.out]; exact rfl⟩
            case measure => simp [intOf]; omega
        · have hq2 : q = m.length := by omega
          subst hq2
          rw [List.take_length] at HB
          have HA2 : Hid (∀ j, 1 ≤ j → j ≤ k + 1 → Vd.badC j m = false) := by
            intro j h1 h2
            by_cases e : j = k + 1
            · rw [e, HBd.out]; exact HB.out
            · exact HA.out j h1 (by omega)
          go_wp2
          go_roundw
          case rel => exact ⟨k + 1, by go_num, by omega, HU, HA2⟩
          case measure => simp [intOf]; omega
    · have hk2 : k = 4 := by omega
      have HR := hide (HLl.out (by rw [← hk2]; exact HA.out))
      have i1 : ¬ ((k : Int) + 1 ≤ 4) := by omega
      clear hk2
      go_wp2_with fail
      refine (overlap_any _ m _ (HV.out.up HU.out) HZ.out).mono ?_
      rintro e w2 ⟨rfl, hz2⟩
      replace hz2 := hide hz2
      cases hx : Vd.overlap m
      all_goals
        rw [hx] at HR
        go_wp2
        go_ret
        exact ⟨ret_i HR.out.symm, HU.out.trans hz2.out⟩

/-! ### the calls -/
theorem le_sum {x : Nat} : ∀ {l : List Nat}, x ∈ l → x ≤ l.sum := by
  intro l
  induction l with
  | nil => intro h; cases h
  | cons a t ih =>
    intro h
    rw [List.sum_cons]
    rcases List.mem_cons.1 h with rfl | h
    · omega
    · have := ih h; omega
theorem sz_of {m : Mult} (h : Pl.wrong m = 0) : Sz m := by
  have hmany : Pl.many m = false := by
    unfold Pl.wrong at h
    split at h
    · omega
    · rename_i k; simpa using k
  unfold Pl.many at hmany
  simp only [Bool.or_eq_false_iff, decide_eq_false_iff_not] at hmany
  obtain ⟨⟨h1, h2⟩, h3⟩ := hmany
  have nr : ∀ l ∈ m, l.length ≤ Pl.nR m := fun l hl => by
    unfold Pl.nR
    exact le_sum (List.mem_map_of_mem hl)
  have np : ∀ l ∈ m, Pl.nPl l ≤ Pl.nP m := fun l hl => by
    unfold Pl.nP
    exact le_sum (List.mem_map_of_mem hl)
  have nl : ∀ l : Poly, ∀ r ∈ l, r.length ≤ Pl.nPl l := fun l r hr => by
    unfold Pl.nPl
    exact le_sum (List.mem_map_of_mem hr)
  have nf : ∀ l : Poly, l.flatten.length = Pl.nPl l := fun l => by
    unfold Pl.nPl; rw [List.length_flatten]
  refine ⟨by omega, fun l hl => by have := nr l hl; omega, fun l hl r hr => ?_, fun l hl => ?_, Vd.cd_of h⟩
  · have := nl l r hr; have := np l hl; omega
  · rw [nf]; have := np l hl; omega
end Go.Proofs.YtcclepohmhdpbaaGreatDoor
