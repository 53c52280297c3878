import Derived.Test.YtcclepohmhdpbabGreatDoorClA
namespace Go.Proofs.YtcclepohmhdpbabGreatDoor
set_option linter.all false
open Go.RowKit Go.Deep
def slG (l : List Vd.Seg) (j i : Nat) : Bool := decide (Vd.meetS (Vd.sAt l i) (Vd.sAt l j) ≠ Vd.wantI l.length i j)
def slF (l : List Vd.Seg) (j : Nat) : Bool := Vd.anyI j (slG l j)
theorem self_F (r : Ring) : Vd.selfR r = Vd.anyI (Vd.segs r).length (slF (Vd.segs r)) := rfl
theorem sAt_some {l : List Vd.Seg} {i : Nat} {s : Vd.Seg} (h : l[i]? = some s) : Vd.sAt l i = s := by unfold Vd.sAt; rw [List.getD_eq_getElem?_getD, h]; rfl
theorem want_cases (n i j : Nat) : (i + 1 = j ∧ Vd.wantI n i j = 1) ∨ (i + 1 ≠ j ∧ i = 0 ∧ j + 1 = n ∧ Vd.wantI n i j = 1) ∨ (i + 1 ≠ j ∧ i = 0 ∧ j + 1 ≠ n ∧ Vd.wantI n i j = 0) ∨ (i + 1 ≠ j ∧ i ≠ 0 ∧ Vd.wantI n i j = 0) := by
  unfold Vd.wantI
  by_cases h1 : i + 1 = j
  · left; exact ⟨h1, if_pos (.inl h1)⟩
  · right
    by_cases h2 : i = 0
    · by_cases h3 : j + 1 = n
      · left; exact ⟨h1, h2, h3, if_pos (.inr ⟨h2, h3⟩)⟩
      · right; left; exact ⟨h1, h2, h3, if_neg (by omega)⟩
    · right; right; exact ⟨h1, h2, if_neg (by omega)⟩
set_option maxHeartbeats 8000000 in
theorem meetsItself_any (v : Value) (r : Ring) (w : World) (hv : Rd1 w v r) (hr : r.length ≤ 1048576) (hc : Vd.CdR r) :
    Calls Tryz.prog 93 #[v] w fun e w' => e = .returned (.bool (Vd.selfR r)) ∧ Up w w' := by
  have HV := hide hv
  have HC := hide hc
  have HT := hide (self_F r)
  have hsl : (Vd.segs r).length ≤ 1048576 := by rw [Vd.segs_len]; omega
  obtain ⟨ao, cap, rfl, -⟩ := HV.out
  clear hv hc
  go_enter Tryz.func93, Tryz.ntmps93
  go_wp2_with fail
  refine (segments_any _ r _ HV.out hr).mono ?_
  rintro e w1 ⟨sv, rfl, u1, ho⟩
  obtain ⟨sa, sc, es⟩ := own_len ho
  subst es
  have HR := hide (own_rdG (f := segC) (fun _ => rfl) ho)
  have HU1 := hide u1
  have HCS : Hid (∀ i s, (Vd.segs r)[i]? = some s → Vd.CdS s) := fun i s hs => Vd.segs_cd HC.out (Pl.mem_of_some hs)
  generalize Vd.segs r = L at *
  clear ho u1
  go_wp2_with fail
  go_loopw [12] (fun i wr => ∃ k : Nat, i = .int .i64 k ∧ k ≤ L.length ∧ Hid (Up w1 wr) ∧ Hid (Vd.anyI k (slF L) = false)) (fun i _ => L.length - (intOf i).toNat)
  case atStart => exact ⟨0, rfl, Nat.zero_le _, Up.refl _, rfl⟩
  case round =>
    obtain ⟨k, rfl, hk, HU, HA⟩ := hrel
    by_cases hlt : k < L.length
    · obtain ⟨⟨⟨ax, ay⟩, ⟨bx, bY⟩⟩, hs⟩ := Pl.some_of_lt hlt
      obtain ⟨g, cap', ev, c0, c1, c2, c3⟩ := (HR.out.up HU.out).seg hs
      cases ev
      have HCk := hide (HCS.out _ _ hs)
      have Hk := hide hs
      simp only at c0 c1 c2 c3
      clear hs
      go_wp2_with fail
      have RT := hide (new_row (w := wr) (o := .cells #[.int .i64 ax, .int .i64 ay, .int .i64 bx, .int .i64 bY] 98) (vs := [.int .i64 ax, .int .i64 ay, .int .i64 bx, .int .i64 bY]) rfl)
      have HUa : Hid (Up w1 (wr.alloc (.cells #[.int .i64 ax, .int .i64 ay, .int .i64 bx, .int .i64 bY] 98))) := HU.out.alloc _
      generalize hB : wr.heap.size = B at *
      clear hB c0 c1 c2 c3
      go_loopw [6] (fun i wq => ∃ q : Nat, i = .int .i64 q ∧ q ≤ k ∧ Hid (Up w1 wq) ∧ Hid (VRow wq B 98 [.int .i64 ax, .int .i64 ay, .int .i64 bx, .int .i64 bY]) ∧ Hid (Vd.anyI q (slG L k) = false)) (fun i _ => k - (intOf i).toNat)
      case atStart => exact ⟨0, rfl, Nat.zero_le _, HUa, RT, rfl⟩
      case round =>
        clear HUa RT
        obtain ⟨q, rfl, hq, HUq, RT, HB⟩ := hrel
        by_cases hlq : q < k
        · obtain ⟨⟨⟨cx, cy⟩, ⟨dx, dy⟩⟩, hs2⟩ := Pl.some_of_lt (show q < L.length by omega)
          obtain ⟨g', cap'', ev, c0, c1, c2, c3⟩ := (HR.out.up HUq.out).seg hs2
          cases ev
          have HCq := hide (HCS.out _ _ hs2)
          have HG : Hid (slG L k q = decide (Vd.meetS ((cx, cy), (dx, dy)) ((ax, ay), (bx, bY)) ≠ Vd.wantI L.length q k)) := by
            unfold slG; rw [sAt_some hs2, sAt_some Hk.out]; exact rfl
          simp only at c0 c1 c2 c3
          have s0 := cell_gr c0
          have s1 := cell_gr c1
          have s2 := cell_gr c2
          have s3 := cell_gr c3
          have t0 := RT.out.gr (i := 0) rfl
          have t1 := RT.out.gr (i := 1) rfl
          have t2 := RT.out.gr (i := 2) rfl
          have t3 := RT.out.gr (i := 3) rfl
          have i1 : (0 : Int) ≤ (q : Int) := by omega
          have i2 : (q : Int) < (L.length : Int) := by omega
          have wc := want_cases L.length q k
          clear hs2 c0 c1 c2 c3
          have fin : Hid (slG L k q = true → Vd.selfR r = true) := by
            intro h
            rw [HT.out]
            exact Vd.anyI_true hlt (Vd.anyI_true (f := slG L k) hlq h)
          rcases wc with ⟨h1, hw⟩ | ⟨h1, h2, h3, hw⟩ | ⟨h1, h2, h3, hw⟩ | ⟨h1, h2, hw⟩
          all_goals
            rw [hw] at HG
            clear hw
            first
            | (have j1 : ((q : Int) + 1 == (k : Int)) = true := beq_iff_eq.2 (by omega))
            | (have j1 : ((q : Int) + 1 == (k : Int)) = false := beq_eq_false_iff_ne.2 (by omega)
               first
               | (have j2 : ((q : Int) == 0) = false := beq_eq_false_iff_ne.2 (by omega))
               | (have j2 : ((q : Int) == 0) = true := beq_iff_eq.2 (by omega)
                  first
                  | (have j3 : ((k : Int) == (L.length : Int) - 1) = true := beq_iff_eq.2 (by omega))
                  | (have j3 : ((k : Int) == (L.length : Int) - 1) = false := beq_eq_false_iff_ne.2 (by omega))))
            try clear h3
            try clear h2
            try clear h1
            go_wp2_with fail
            refine wp_region_up (by kernel_rfl) (by kernel_rfl) ?_
            repeat (first | go_big_quiet_step ((go_at_call 130; exact Calls.up_of (meet_any ((cx, cy), (dx, dy)) ((ax, ay), (bx, bY)) HCq.out HCk.out _))))
            refine wpQuiet_nil ?_
            rintro _ ⟨⟨w3, u3⟩, rfl⟩
            have HU3 := hide (HUq.out.trans u3)
            have RT3 := hide (RT.out.up u3)
            clear u3 s0 s1 s2 s3 t0 t1 t2 t3
            generalize Vd.meetS ((cx, cy), dx, dy) ((ax, ay), bx, bY) = M at *
            first
            | (by_cases hM : M = 1
               · have HGf : Hid (slG L k q = false) := by rw [HG.out]; simp [hM, Hid]
                 subst hM
                 go_wp2
                 go_roundw
                 case rel => exact ⟨q + 1, by go_num, by omega, HU3, RT3, anyI_step HB.out HGf.out⟩
                 case measure => simp [intOf]; omega
               · have HGt := hide (fin.out (by rw [HG.out]; simpa using hM))
                 have hM' := beq_eq_false_iff_ne.2 hM
                 go_wp2
                 go_ret
                 exact ⟨ret_b HGt.out.symm, HU1.out.trans HU3.out⟩)
            | (by_cases hM : M = 0
               · have HGf : Hid (slG L k q = false) := by rw [HG.out]; simp [hM, Hid]
                 subst hM
                 go_wp2
                 go_roundw
                 case rel => exact ⟨q + 1, by go_num, by omega, HU3, RT3, anyI_step HB.out HGf.out⟩
                 case measure => simp [intOf]; omega
               · have HGt := hide (fin.out (by rw [HG.out]; simpa using hM))
                 have hM' := beq_eq_false_iff_ne.2 hM
                 go_wp2
                 go_ret
                 exact ⟨ret_b HGt.out.symm, HU1.out.trans HU3.out⟩)
        · have hq2 : q = k := by omega
          subst hq2
          go_wp2
          go_roundw
          case rel => exact ⟨q + 1, by go_num, by omega, HUq, anyI_step HA.out HB.out⟩
          case measure => simp [intOf]; omega
    · have hk2 : k = L.length := by omega
      subst hk2
      have HRf : Hid (Vd.selfR r = false) := by rw [HT.out]; exact HA.out
      go_wp2
      go_ret
      exact ⟨ret_b HRf.out.symm, HU1.out.trans HU.out⟩
set_option maxHeartbeats 4000000 in
theorem areSimple_any (v : Value) (l : Poly) (w : World) (hv : Rd2 w v l) (hl : l.length ≤ 1048576) (hl2 : ∀ r ∈ l, r.length ≤ 1048576) (hc : Vd.CdL l) :
    Calls Tryz.prog 62 #[v] w fun e w' => e = .returned (.bool (Vd.simple l)) ∧ Up w w' := by
  obtain ⟨ao, cap, rfl, hm⟩ := hv
  have HM := hide hm
  have HC := hide hc
  have HL := hide hl2
  have HS : Hid (Vd.simple l = !(l.any fun r => Vd.twice r || Vd.selfR r)) := rfl
  generalize hf : (fun r => Vd.twice r || Vd.selfR r) = f at *
  have HF : Hid (∀ r, f r = (Vd.twice r || Vd.selfR r)) := by subst hf; exact fun _ => rfl
  clear hm hc hl2 hf
  go_enter Tryz.func62, Tryz.ntmps62
  go_wp2
  go_loopw [7] (fun i wr => ∃ k : Nat, i = .int .i64 k ∧ k ≤ l.length ∧ Hid (Up w wr) ∧ Hid ((l.take k).any f = false)) (fun i _ => l.length - (intOf i).toNat)
  case atStart => exact ⟨0, rfl, Nat.zero_le _, Up.refl _, rfl⟩
  case round =>
    obtain ⟨k, rfl, hk, HU, HA⟩ := hrel
    by_cases hlt : k < l.length
    · obtain ⟨r, hr⟩ := Pl.some_of_lt hlt
      obtain ⟨b, u, rfl, cu, hu⟩ := HM.out k r hr
      have HUr := hide (hu.up HU.out)
      have cu2 := HU.out.cell cu
      have Hr := hide hr
      have HrL := hide (HL.out r (Pl.mem_of_some hr))
      have HrC := hide (HC.out r (Pl.mem_of_some hr))
      have HX := hide (Pl.any_take_succ f hr)
      clear hr cu hu
      cases ht : Vd.twice r
      · cases hs : Vd.selfR r
        · have HT := hide ht
          have HSf := hide hs
          have HFf : Hid (f r = false) := by rw [HF.out, ht, hs]; exact rfl
          clear ht hs
          go_wp2_with (first | (go_at_call 92; refine (hasTwice_any _ r _ HUr.out HrL.out).mono ?_; rintro e w2 ⟨rfl, u2⟩; rw [HT.out]; replace u2 := hide u2) | (go_at_call 93; refine (meetsItself_any _ r _ (HUr.out.up u2.out) HrL.out HrC.out).mono ?_; rintro e w3 ⟨rfl, u3⟩; rw [HSf.out]; replace u3 := hide u3))
          go_roundw
          case rel => exact ⟨k + 1, by go_num, by omega, (HU.out.trans u2.out).trans u3.out, by rw [HX.out, HA.out, HFf.out]; exact rfl⟩
          case measure => simp [intOf]; omega
        · have HT := hide ht
          have HSf := hide hs
          have HFt : Hid (Vd.simple l = false) := by rw [HS.out, Pl.any_true_of f Hr.out (by rw [HF.out, ht, hs]; rfl)]; exact rfl
          clear ht hs
          go_wp2_with (first | (go_at_call 92; refine (hasTwice_any _ r _ HUr.out HrL.out).mono ?_; rintro e w2 ⟨rfl, u2⟩; rw [HT.out]; replace u2 := hide u2) | (go_at_call 93; refine (meetsItself_any _ r _ (HUr.out.up u2.out) HrL.out HrC.out).mono ?_; rintro e w3 ⟨rfl, u3⟩; rw [HSf.out]; replace u3 := hide u3))
          go_ret
          exact ⟨ret_b HFt.out.symm, (HU.out.trans u2.out).trans u3.out⟩
      · have HT := hide ht
        have HFt : Hid (Vd.simple l = false) := by rw [HS.out, Pl.any_true_of f Hr.out (by rw [HF.out, ht]; rfl)]; exact rfl
        clear ht
        go_wp2_with (first | (go_at_call 92; refine (hasTwice_any _ r _ HUr.out HrL.out).mono ?_; rintro e w2 ⟨rfl, u2⟩; rw [HT.out]; replace u2 := hide u2))
        go_ret
        exact ⟨ret_b HFt.out.symm, HU.out.trans u2.out⟩
    · have hk2 : k = l.length := by omega
      subst hk2
      rw [List.take_length] at HA
      have HRt : Hid (Vd.simple l = true) := by rw [HS.out, HA.out]; exact rfl
      go_wp2
      go_ret
      exact ⟨ret_b HRt.out.symm, HU.out⟩
end Go.Proofs.YtcclepohmhdpbabGreatDoor
