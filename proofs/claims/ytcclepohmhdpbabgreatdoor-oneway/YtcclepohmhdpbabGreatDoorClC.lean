import Derived.Test.YtcclepohmhdpbabGreatDoorPnI
namespace Go.Proofs.YtcclepohmhdpbabGreatDoor
set_option linter.all false
open Go.RowKit Go.Deep
theorem anyI_step {n : Nat} {f : Nat → Bool} (h : Vd.anyI n f = false) (hf : f n = false) : Vd.anyI (n + 1) f = false := by rw [Vd.anyI_succ, h, hf]; rfl
theorem anyI_none {n : Nat} {f : Nat → Bool} (h : ∀ i, i < n → f i = false) : Vd.anyI n f = false := by
 induction n with
 | zero => rfl
 | succ n ih => rw [Vd.anyI_succ, ih fun i hi => h i (by omega), h n (by omega)]; rfl
def twG (r : Ring) (i j : Nat) : Bool := decide (i < j) && decide (r[i]? = r[j]?)
def twF (r : Ring) (i : Nat) : Bool := decide (1 ≤ i) && Vd.anyI r.length (twG r i)
theorem twice_F (r : Ring) : Vd.twice r = Vd.anyI r.length (twF r) := rfl
theorem twG_at {r : Ring} {i j : Nat} (h : i < j) {a b c d : Int} (hi : r[i]? = some (a, b)) (hj : r[j]? = some (c, d)) : twG r i j = (decide (a = c) && decide (b = d)) := by
 unfold twG
 rw [decide_eq_true h, hi, hj, Bool.true_and]
 by_cases h1 : a = c <;> by_cases h2 : b = d <;> simp [h1, h2]
theorem twG_le {r : Ring} {i j : Nat} (h : j ≤ i) : twG r i j = false := by unfold twG; rw [decide_eq_false (by omega)]; rfl
set_option maxHeartbeats 4000000 in
theorem hasTwice_any (v : Value) (r : Ring) (w : World) (hv : Rd1 w v r) (hr : r.length ≤ 1048576) :
  Calls Tryz.prog 92 #[v] w fun e w' => e = .returned (.bool (Vd.twice r)) ∧ Up w w' := by
 obtain ⟨ao, cap, rfl, hm⟩ := hv
 have HM := hide hm
 have HT := hide (twice_F r)
 clear hm
 go_enter Tryz.func92, Tryz.ntmps92
 go_wp2
 go_loopw [3] (fun i wr => ∃ k : Nat, i = .int .i64 (k + 1 : Nat) ∧ k ≤ r.length ∧ Hid (Up w wr) ∧ Hid (Vd.anyI (k + 1) (twF r) = false)) (fun i _ => r.length + 1 - (intOf i).toNat)
 case atStart => exact ⟨0, rfl, Nat.zero_le _, Up.refl _, rfl⟩
 case round =>
  obtain ⟨k, rfl, hk, HU, HA⟩ := hrel
  by_cases hlt : k + 1 < r.length
  ·obtain ⟨⟨ax, ay⟩, hp⟩ := Pl.some_of_lt hlt
   obtain ⟨b, rfl, c0, c1⟩ := HM.out (k + 1) _ hp
   have HP := hide hp
   have C0 := hide c0
   have C1 := hide c1
   clear c0 c1 hp
   go_wp2
   go_loopw [4] (fun j wr => ∃ q : Nat, j = .int .i64 (k + 1 + 1 + q : Nat) ∧ Hid (Up w wr) ∧ Hid (Vd.anyI (k + 1 + 1 + q) (twG r (k + 1)) = false) ∧ k + 1 + 1 + q ≤ r.length) (fun j _ => r.length - (intOf j).toNat)
   case atStart => exact ⟨0, by go_num, HU, anyI_none fun i hi => twG_le (by omega), by omega⟩
   case round =>
    clear HU
    obtain ⟨q, rfl, HU, HB, hq⟩ := hrel
    by_cases hlq : k + 1 + 1 + q < r.length
    ·obtain ⟨⟨bx, bY⟩, hp2⟩ := Pl.some_of_lt hlq
     obtain ⟨b', e', d0, d1⟩ := HM.out (k + 1 + 1 + q) _ hp2
     cases e'
     have f0 := HU.out.cell C0.out
     have f1 := HU.out.cell C1.out
     have g0 := HU.out.cell d0
     have g1 := HU.out.cell d1
     have HG := hide (twG_at (show k + 1 < k + 1 + 1 + q by omega) HP.out hp2)
     dsimp only at f0 f1 g0 g1
     have i1 : (0 : Int) ≤ (k : Int) + 1 := by omega
     have i2 : (k : Int) + 1 < (r.length : Int) := by omega
     have i3 : (0 : Int) ≤ (k : Int) + 1 + 1 + (q : Int) := by omega
     have i4 : (k : Int) + 1 + 1 + (q : Int) < (r.length : Int) := by omega
     clear d0 d1 hp2
     by_cases h1 : ax = bx
     ·by_cases h2 : ay = bY
      ·subst h1 h2
       have HGt : Hid (Vd.twice r = true) := by
        rw [HT.out]
        refine Vd.anyI_true (i := k + 1) hlt ?_
        unfold twF
        rw [decide_eq_true (by omega), Bool.true_and]
        exact Vd.anyI_true hlq (by rw [HG.out]; simp)
       go_wp2
       go_quiet (fail)
       go_wp2
       go_ret
       exact ⟨ret_b HGt.out.symm, HU.out.drewN _⟩
      ·have HGf : Hid (twG r (k + 1) (k + 1 + 1 + q) = false) := by rw [HG.out]; simp [h2, Hid]
       subst h1
       have h2' := beq_eq_false_iff_ne.2 h2
       go_wp2
       go_quiet (fail)
       go_wp2
       go_roundw
       case rel => exact ⟨q + 1, by go_num, HU.out.drewN _, anyI_step HB.out HGf.out, by omega⟩
       case measure => simp [intOf]; omega
     ·have HGf : Hid (twG r (k + 1) (k + 1 + 1 + q) = false) := by rw [HG.out]; simp [h1, Hid]
      have h1' := beq_eq_false_iff_ne.2 h1
      go_wp2
      go_quiet (fail)
      go_wp2
      go_roundw
      case rel => exact ⟨q + 1, by go_num, HU.out.drewN _, anyI_step HB.out HGf.out, by omega⟩
      case measure => simp [intOf]; omega
    ·have hq2 : k + 1 + 1 + q = r.length := by omega
     have HFf : Hid (twF r (k + 1) = false) := by
      unfold twF
      have := HB.out
      rw [hq2] at this
      rw [this]; simp [Hid]
     go_wp2
     go_roundw
     case rel => exact ⟨k + 1, by go_num, by omega, HU, anyI_step HA.out HFf.out⟩
     case measure => simp [intOf]; omega
  ·have HR : Hid (Vd.twice r = false) := by
    rw [HT.out]
    by_cases h0 : r.length = 0
    ·rw [h0]; exact rfl
    ·have := HA.out
     by_cases e : k + 1 = r.length
     ·rw [← e]; exact this
     ·have e2 : k = r.length := by omega
      subst e2
      rw [Vd.anyI_succ, Bool.or_eq_false_iff] at this
      exact this.1
   go_wp2
   go_ret
   exact ⟨ret_b HR.out.symm, HU.out⟩
def slG (l : List Vd.Seg) (j i : Nat) : Bool := decide (Vd.meetS (Vd.sAt l i) (Vd.sAt l j) ≠ Vd.wantI l.length i j)
def slF (l : List Vd.Seg) (j : Nat) : Bool := Vd.anyI j (slG l j)
theorem self_F (r : Ring) : Vd.selfR r = Vd.anyI (Vd.segs r).length (slF (Vd.segs r)) := rfl
theorem sAt_some {l : List Vd.Seg} {i : Nat} {s : Vd.Seg} (h : l[i]? = some s) : Vd.sAt l i = s := by unfold Vd.sAt; rw [List.getD_eq_getElem?_getD, h]; rfl
theorem want_cases (n i j : Nat) : (i + 1 = j ∧ Vd.wantI n i j = 1) ∨ (i + 1 ≠ j ∧ i = 0 ∧ j + 1 = n ∧ Vd.wantI n i j = 1) ∨ (i + 1 ≠ j ∧ i = 0 ∧ j + 1 ≠ n ∧ Vd.wantI n i j = 0) ∨ (i + 1 ≠ j ∧ i ≠ 0 ∧ Vd.wantI n i j = 0) := by
 unfold Vd.wantI
 by_cases h1 : i + 1 = j
 ·left; exact ⟨h1, if_pos (.inl h1)⟩
 ·right
  by_cases h2 : i = 0
  ·by_cases h3 : j + 1 = n
   ·left; exact ⟨h1, h2, h3, if_pos (.inr ⟨h2, h3⟩)⟩
   ·right; left; exact ⟨h1, h2, h3, if_neg (by omega)⟩
  ·right; right; exact ⟨h1, h2, if_neg (by omega)⟩
set_option maxHeartbeats 8000000 in
theorem meetsItself_any (v : Value) (r : Ring) (w : World) (hv : Rd1 w v r) (hr : r.length ≤ 1048576) (hc : Vd.CdR r) :
    Calls Tryz.prog 93 #[v] w fun e w' => e = .returned (.bool (Vd.selfR r)) ∧ Up w w' := by
  have HV := hide hv
  have HC := hide hc
  have HT := hide (self_F r)
  have hsl : (Vd.segs r).length ≤ 1048576 := by rw [Vd.segs_len]; omega
  obtain ⟨ao, cap, rfl, -⟩ := HV.out
  clear hv hc
  go_enter Tryz.func93, Tryz.ntmps93
  go_wp2_with fail
  refine (segments_any _ r _ HV.out hr).mono ?_
  rintro e w1 ⟨sv, rfl, u1, ho⟩
  obtain ⟨sa, sc, es⟩ := own_len ho
  subst es
  have HR := hide (own_rdG (f := segC) (fun _ => rfl) ho)
  have HU1 := hide u1
  have HCS : Hid (∀ i s, (Vd.segs r)[i]? = some s → Vd.CdS s) := fun i s hs => Vd.segs_cd HC.out (Pl.mem_of_some hs)
  generalize Vd.segs r = L at *
  clear ho u1
  go_wp2_with fail
  go_loopw [12] (fun i wr => ∃ k : Nat, i = .int .i64 k ∧ k ≤ L.length ∧ Hid (Up w1 wr) ∧ Hid (Vd.anyI k (slF L) = false)) (fun i _ => L.length - (intOf i).toNat)
  case atStart => exact ⟨0, rfl, Nat.zero_le _, Up.refl _, rfl⟩
  case round =>
    obtain ⟨k, rfl, hk, HU, HA⟩ := hrel
    by_cases hlt : k < L.length
    · obtain ⟨⟨⟨ax, ay⟩, ⟨bx, bY⟩⟩, hs⟩ := Pl.some_of_lt hlt
      obtain ⟨g, cap', ev, c0, c1, c2, c3⟩ := (HR.out.up HU.out).seg hs
      cases ev
      have HCk := hide (HCS.out _ _ hs)
      have Hk := hide hs
      simp only at c0 c1 c2 c3
      clear hs
      go_wp2_with fail
      have RT := hide (new_row (w := wr) (o := .cells #[.int .i64 ax, .int .i64 ay, .int .i64 bx, .int .i64 bY] 98) (vs := [.int .i64 ax, .int .i64 ay, .int .i64 bx, .int .i64 bY]) rfl)
      have HUa : Hid (Up w1 (wr.alloc (.cells #[.int .i64 ax, .int .i64 ay, .int .i64 bx, .int .i64 bY] 98))) := HU.out.alloc _
      generalize hB : wr.heap.size = B at *
      clear hB c0 c1 c2 c3
      go_loopw [6] (fun i wq => ∃ q : Nat, i = .int .i64 q ∧ q ≤ k ∧ Hid (Up w1 wq) ∧ Hid (VRow wq B 98 [.int .i64 ax, .int .i64 ay, .int .i64 bx, .int .i64 bY]) ∧ Hid (Vd.anyI q (slG L k) = false)) (fun i _ => k - (intOf i).toNat)
      case atStart => exact ⟨0, rfl, Nat.zero_le _, HUa, RT, rfl⟩
      case round =>
        clear HUa RT
        obtain ⟨q, rfl, hq, HUq, RT, HB⟩ := hrel
        by_cases hlq : q < k
        · obtain ⟨⟨⟨cx, cy⟩, ⟨dx, dy⟩⟩, hs2⟩ := Pl.some_of_lt (show q < L.length by omega)
          obtain ⟨g', cap'', ev, c0, c1, c2, c3⟩ := (HR.out.up HUq.out).seg hs2
          cases ev
          have HCq := hide (HCS.out _ _ hs2)
          have HG : Hid (slG L k q = decide (Vd.meetS ((cx, cy), (dx, dy)) ((ax, ay), (bx, bY)) ≠ Vd.wantI L.length q k)) := by
            unfold slG; rw [sAt_some hs2, sAt_some Hk.out]; exact rfl
          simp only at c0 c1 c2 c3
          have s0 := cell_gr c0
          have s1 := cell_gr c1
          have s2 := cell_gr c2
          have s3 := cell_gr c3
          have t0 := RT.out.gr (i := 0) rfl
          have t1 := RT.out.gr (i := 1) rfl
          have t2 := RT.out.gr (i := 2) rfl
          have t3 := RT.out.gr (i := 3) rfl
          have i1 : (0 : Int) ≤ (q : Int) := by omega
          have i2 : (q : Int) < (L.length : Int) := by omega
          have wc := want_cases L.length q k
          clear hs2 c0 c1 c2 c3
          have fin : Hid (slG L k q = true → Vd.selfR r = true) := by
            intro h
            rw [HT.out]
            exact Vd.anyI_true hlt (Vd.anyI_true (f := slG L k) hlq h)
          rcases wc with ⟨h1, hw⟩ | ⟨h1, h2, h3, hw⟩ | ⟨h1, h2, h3, hw⟩ | ⟨h1, h2, hw⟩
          all_goals
            rw [hw] at HG
            clear hw
            first
            | (have j1 : ((q : Int) + 1 == (k : Int)) = true := beq_iff_eq.2 (by omega))
            | (have j1 : ((q : Int) + 1 == (k : Int)) = false := beq_eq_false_iff_ne.2 (by omega)
               first
               | (have j2 : ((q : Int) == 0) = false := beq_eq_false_iff_ne.2 (by omega))
               | (have j2 : ((q : Int) == 0) = true := beq_iff_eq.2 (by omega)
                  first
                  | (have j3 : ((k : Int) == (L.length : Int) - 1) = true := beq_iff_eq.2 (by omega))
                  | (have j3 : ((k : Int) == (L.length : Int) - 1) = false := beq_eq_false_iff_ne.2 (by omega))))
            try clear h3
            try clear h2
            try clear h1
            go_wp2_with fail
            refine wp_region_up (by kernel_rfl) (by kernel_rfl) ?_
            repeat (first | go_big_quiet_step ((go_at_call 130; exact Calls.up_of (meet_any ((cx, cy), (dx, dy)) ((ax, ay), (bx, bY)) HCq.out HCk.out _))))
            refine wpQuiet_nil ?_
            rintro _ ⟨⟨w3, u3⟩, rfl⟩
            have HU3 := hide (HUq.out.trans u3)
            have RT3 := hide (RT.out.up u3)
            clear u3 s0 s1 s2 s3 t0 t1 t2 t3
            generalize Vd.meetS ((cx, cy), dx, dy) ((ax, ay), bx, bY) = M at *
            first
            | (by_cases hM : M = 1
               · have HGf : Hid (slG L k q = false) := by rw [HG.out]; simp [hM, Hid]
                 subst hM
                 go_wp2
                 go_roundw
                 case rel => exact ⟨q + 1, by go_num, by omega, HU3, RT3, anyI_step HB.out HGf.out⟩
                 case measure => simp [intOf]; omega
               · have HGt := hide (fin.out (by rw [HG.out]; simpa using hM))
                 have hM' := beq_eq_false_iff_ne.2 hM
                 go_wp2
                 go_ret
                 exact ⟨ret_b HGt.out.symm, HU1.out.trans HU3.out⟩)
            | (by_cases hM : M = 0
               · have HGf : Hid (slG L k q = false) := by rw [HG.out]; simp [hM, Hid]
                 subst hM
                 go_wp2
                 go_roundw
                 case rel => exact ⟨q + 1, by go_num, by omega, HU3, RT3, anyI_step HB.out HGf.out⟩
                 case measure => simp [intOf]; omega
               · have HGt := hide (fin.out (by rw [HG.out]; simpa using hM))
                 have hM' := beq_eq_false_iff_ne.2 hM
                 go_wp2
                 go_ret
                 exact ⟨ret_b HGt.out.symm, HU1.out.trans HU3.out⟩)
        · have hq2 : q = k := by omega
          subst hq2
          go_wp2
          go_roundw
          case rel => exact ⟨q + 1, by go_num, by omega, HUq, anyI_step HA.out HB.out⟩
          case measure => simp [intOf]; omega
    · have hk2 : k = L.length := by omega
      subst hk2
      have HRf : Hid (Vd.selfR r = false) := by rw [HT.out]; exact HA.out
      go_wp2
      go_ret
      exact ⟨ret_b HRf.out.symm, HU1.out.trans HU.out⟩
set_option maxHeartbeats 4000000 in
theorem areSimple_any (v : Value) (l : Poly) (w : World) (hv : Rd2 w v l) (hl : l.length ≤ 1048576) (hl2 : ∀ r ∈ l, r.length ≤ 1048576) (hc : Vd.CdL l) :
  Calls Tryz.prog 62 #[v] w fun e w' => e = .returned (.bool (Vd.simple l)) ∧ Up w w' := by
 obtain ⟨ao, cap, rfl, hm⟩ := hv
 have HM := hide hm
 have HC := hide hc
 have HL := hide hl2
 have HS : Hid (Vd.simple l = !(l.any fun r => Vd.twice r || Vd.selfR r)) := rfl
 generalize hf : (fun r => Vd.twice r || Vd.selfR r) = f at *
 have HF : Hid (∀ r, f r = (Vd.twice r || Vd.selfR r)) := by subst hf; exact fun _ => rfl
 clear hm hc hl2 hf
 go_enter Tryz.func62, Tryz.ntmps62
 go_wp2
 go_loopw [7] (fun i wr => ∃ k : Nat, i = .int .i64 k ∧ k ≤ l.length ∧ Hid (Up w wr) ∧ Hid ((l.take k).any f = false)) (fun i _ => l.length - (intOf i).toNat)
 case atStart => exact ⟨0, rfl, Nat.zero_le _, Up.refl _, rfl⟩
 case round =>
  obtain ⟨k, rfl, hk, HU, HA⟩ := hrel
  by_cases hlt : k < l.length
  ·obtain ⟨r, hr⟩ := Pl.some_of_lt hlt
   obtain ⟨b, u, rfl, cu, hu⟩ := HM.out k r hr
   have HUr := hide (hu.up HU.out)
   have cu2 := HU.out.cell cu
   have Hr := hide hr
   have HrL := hide (HL.out r (Pl.mem_of_some hr))
   have HrC := hide (HC.out r (Pl.mem_of_some hr))
   have HX := hide (Pl.any_take_succ f hr)
   clear hr cu hu
   cases ht : Vd.twice r
   ·cases hs : Vd.selfR r
    ·have HT := hide ht
     have HSf := hide hs
     have HFf : Hid (f r = false) := by rw [HF.out, ht, hs]; exact rfl
     clear ht hs
     go_wp2_with (first | (go_at_call 92; refine (hasTwice_any _ r _ HUr.out HrL.out).mono ?_; rintro e w2 ⟨rfl, u2⟩; rw [HT.out]; replace u2 := hide u2) | (go_at_call 93; refine (meetsItself_any _ r _ (HUr.out.up u2.out) HrL.out HrC.out).mono ?_; rintro e w3 ⟨rfl, u3⟩; rw [HSf.out]; replace u3 := hide u3))
     go_roundw
     case rel => exact ⟨k + 1, by go_num, by omega, (HU.out.trans u2.out).trans u3.out, by rw [HX.out, HA.out, HFf.out]; exact rfl⟩
     case measure => simp [intOf]; omega
    ·have HT := hide ht
     have HSf := hide hs
     have HFt : Hid (Vd.simple l = false) := by rw [HS.out, Pl.any_true_of f Hr.out (by rw [HF.out, ht, hs]; rfl)]; exact rfl
     clear ht hs
     go_wp2_with (first | (go_at_call 92; refine (hasTwice_any _ r _ HUr.out HrL.out).mono ?_; rintro e w2 ⟨rfl, u2⟩; rw [HT.out]; replace u2 := hide u2) | (go_at_call 93; refine (meetsItself_any _ r _ (HUr.out.up u2.out) HrL.out HrC.out).mono ?_; rintro e w3 ⟨rfl, u3⟩; rw [HSf.out]; replace u3 := hide u3))
     go_ret
     exact ⟨ret_b HFt.out.symm, (HU.out.trans u2.out).trans u3.out⟩
   ·have HT := hide ht
    have HFt : Hid (Vd.simple l = false) := by rw [HS.out, Pl.any_true_of f Hr.out (by rw [HF.out, ht]; rfl)]; exact rfl
    clear ht
    go_wp2_with (first | (go_at_call 92; refine (hasTwice_any _ r _ HUr.out HrL.out).mono ?_; rintro e w2 ⟨rfl, u2⟩; rw [HT.out]; replace u2 := hide u2))
    go_ret
    exact ⟨ret_b HFt.out.symm, HU.out.trans u2.out⟩
  ·have hk2 : k = l.length := by omega
   subst hk2
   rw [List.take_length] at HA
   have HRt : Hid (Vd.simple l = true) := by rw [HS.out, HA.out]; exact rfl
   go_wp2
   go_ret
   exact ⟨ret_b HRt.out.symm, HU.out⟩
theorem cross_two {s t : Vd.Seg} (h : Vd.meetS s t = 2) : Vd.crossS s t = true := by unfold Vd.crossS; rw [h]; rfl
theorem cross_three {s t : Vd.Seg} (h : Vd.meetS s t = 3) : Vd.crossS s t = true := by unfold Vd.crossS; rw [h]; rfl
theorem cross_no {s t : Vd.Seg} (h2 : Vd.meetS s t ≠ 2) (h3 : Vd.meetS s t ≠ 3) : Vd.crossS s t = false := by unfold Vd.crossS; simp [h2, h3]
set_option maxHeartbeats 8000000 in
theorem cross_any (v u : Value) (r o : Ring) (w : World) (hv : Rd1 w v r) (hu : Rd1 w u o) (hr : r.length ≤ 1048576) (hr2 : o.length ≤ 1048576) (hc : Vd.CdR r) (hc2 : Vd.CdR o) :
  Calls Tryz.prog 94 #[v, u] w fun e w' => e = .returned (.bool (Vd.cross r o)) ∧ Up w w' := by
 have HV := hide hv
 have HV2 := hide hu
 have HT : Hid (Vd.cross r o = (Vd.segs r).any fun s => (Vd.segs o).any fun t => Vd.crossS s t) := rfl
 have hsl : (Vd.segs r).length ≤ 1048576 := by rw [Vd.segs_len]; omega
 have hsl2 : (Vd.segs o).length ≤ 1048576 := by rw [Vd.segs_len]; omega
 have HC1 : Hid (∀ i s, (Vd.segs r)[i]? = some s → Vd.CdS s) := fun i s hs => Vd.segs_cd hc (Pl.mem_of_some hs)
 have HC2 : Hid (∀ i s, (Vd.segs o)[i]? = some s → Vd.CdS s) := fun i s hs => Vd.segs_cd hc2 (Pl.mem_of_some hs)
 obtain ⟨ao, cap, rfl, -⟩ := HV.out
 obtain ⟨ao2, cap2, rfl, -⟩ := HV2.out
 clear hv hu hc hc2
 go_enter Tryz.func94, Tryz.ntmps94
 go_wp2_with fail
 refine (segments_any _ o _ HV2.out hr2).mono ?_
 rintro e w1 ⟨sv, rfl, u1, ho⟩
 obtain ⟨sa, sc, es⟩ := own_len ho
 subst es
 have HR2 := hide (own_rdG (f := segC) (fun _ => rfl) ho)
 have HU1 := hide u1
 clear ho u1
 go_wp2_with fail
 refine (segments_any _ r _ (HV.out.up HU1.out) hr).mono ?_
 rintro e w2 ⟨sv, rfl, u2, ho⟩
 obtain ⟨sa2, sc2, es⟩ := own_len ho
 subst es
 have HR1 := hide (own_rdG (f := segC) (fun _ => rfl) ho)
 have HR2 := hide (HR2.out.up u2)
 have HU2 := hide (HU1.out.trans u2)
 generalize Vd.segs r = L at *
 generalize Vd.segs o = M at *
 generalize hf : (fun s => M.any fun t => Vd.crossS s t) = f at *
 have HF : Hid (∀ s, f s = M.any fun t => Vd.crossS s t) := by subst hf; exact fun _ => rfl
 clear ho u2 hf HU1
 go_wp2_with fail
 go_loopw [16] (fun i wr => ∃ k : Nat, i = .int .i64 k ∧ k ≤ L.length ∧ Hid (Up w2 wr) ∧ Hid ((L.take k).any f = false)) (fun i _ => L.length - (intOf i).toNat)
 case atStart => exact ⟨0, rfl, Nat.zero_le _, Up.refl _, rfl⟩
 case round =>
  obtain ⟨k, rfl, hk, HU, HA⟩ := hrel
  by_cases hlt : k < L.length
  ·obtain ⟨⟨⟨ax, ay⟩, ⟨bx, bY⟩⟩, hs⟩ := Pl.some_of_lt hlt
   obtain ⟨g, cap', ev, c0, c1, c2, c3⟩ := (HR1.out.up HU.out).seg hs
   cases ev
   have HCk := hide (HC1.out _ _ hs)
   have Hk := hide hs
   have HX := hide (Pl.any_take_succ f hs)
   simp only at c0 c1 c2 c3
   clear hs
   go_wp2_with fail
   have RT := hide (new_row (w := wr) (o := .cells #[.int .i64 ax, .int .i64 ay, .int .i64 bx, .int .i64 bY] 98) (vs := [.int .i64 ax, .int .i64 ay, .int .i64 bx, .int .i64 bY]) rfl)
   have HUa : Hid (Up w2 (wr.alloc (.cells #[.int .i64 ax, .int .i64 ay, .int .i64 bx, .int .i64 bY] 98))) := HU.out.alloc _
   generalize hB : wr.heap.size = B at *
   clear hB c0 c1 c2 c3
   go_loopw [22] (fun i wq => ∃ q : Nat, i = .int .i64 q ∧ q ≤ M.length ∧ Hid (Up w2 wq) ∧ Hid (VRow wq B 98 [.int .i64 ax, .int .i64 ay, .int .i64 bx, .int .i64 bY]) ∧ Hid ((M.take q).any (fun t => Vd.crossS ((ax, ay), (bx, bY)) t) = false)) (fun i _ => M.length - (intOf i).toNat)
   case atStart => exact ⟨0, rfl, Nat.zero_le _, HUa, RT, rfl⟩
   case round =>
    clear HUa RT
    obtain ⟨q, rfl, hq, HUq, RT, HB⟩ := hrel
    by_cases hlq : q < M.length
    ·obtain ⟨⟨⟨cx, cy⟩, ⟨dx, dy⟩⟩, hs2⟩ := Pl.some_of_lt hlq
     obtain ⟨g', cap'', ev, c0, c1, c2, c3⟩ := (HR2.out.up HUq.out).seg hs2
     cases ev
     have HCq := hide (HC2.out _ _ hs2)
     have HY := hide (Pl.any_take_succ (fun t => Vd.crossS ((ax, ay), (bx, bY)) t) hs2)
     simp only at c0 c1 c2 c3
     have t0 := fun o => (RT.out.alloc o).cell (i := 0) rfl
     have t1 := fun o => (RT.out.alloc o).cell (i := 1) rfl
     have t2 := fun o => (RT.out.alloc o).cell (i := 2) rfl
     have t3 := fun o => (RT.out.alloc o).cell (i := 3) rfl
     have fin : Hid (Vd.crossS ((ax, ay), (bx, bY)) ((cx, cy), (dx, dy)) = true → Vd.cross r o = true) := by
      intro h
      rw [HT.out]
      exact Pl.any_true_of f Hk.out (by rw [HF.out]; exact Pl.any_true_of _ hs2 h)
     clear hs2
     go_wp2_with fail
     refine (meet_any ((ax, ay), (bx, bY)) ((cx, cy), (dx, dy)) HCk.out HCq.out _).mono ?_
     rintro e w3 ⟨rfl, u3⟩
     have HU3 : Hid (Up w2 w3) := (HUq.out.alloc _).trans u3
     have RT3 := hide ((RT.out.alloc _).up u3)
     clear u3 c0 c1 c2 c3 t0 t1 t2 t3
     by_cases h2 : Vd.meetS ((ax, ay), (bx, bY)) ((cx, cy), (dx, dy)) = 2
     ·have HGt := hide (fin.out (cross_two h2))
      rw [h2]
      go_wp2
      go_ret
      exact ⟨ret_b HGt.out.symm, HU2.out.trans HU3.out⟩
     ·by_cases h3 : Vd.meetS ((ax, ay), (bx, bY)) ((cx, cy), (dx, dy)) = 3
      ·have HGt := hide (fin.out (cross_three h3))
       rw [h3]
       go_wp2
       go_ret
       exact ⟨ret_b HGt.out.symm, HU2.out.trans HU3.out⟩
      ·have HGf := hide (cross_no h2 h3)
       generalize Vd.meetS ((ax, ay), (bx, bY)) ((cx, cy), (dx, dy)) = Mt at *
       have h2' := beq_eq_false_iff_ne.2 h2
       have h3' := beq_eq_false_iff_ne.2 h3
       go_wp2
       go_roundw
       case rel => exact ⟨q + 1, by go_num, by omega, HU3, RT3, by rw [HY.out, HB.out, HGf.out]; exact rfl⟩
       case measure => simp [intOf]; omega
    ·have hq2 : q = M.length := by omega
     subst hq2
     rw [List.take_length] at HB
     go_wp2
     go_roundw
     case rel => exact ⟨k + 1, by go_num, by omega, HUq, by rw [HX.out, HA.out, HF.out, HB.out]; exact rfl⟩
     case measure => simp [intOf]; omega
  ·have hk2 : k = L.length := by omega
   subst hk2
   rw [List.take_length] at HA
   have HRf : Hid (Vd.cross r o = false) := by rw [HT.out]; exact HA.out
   go_wp2
   go_ret
   exact ⟨ret_b HRf.out.symm, HU2.out.trans HU.out⟩
def tcG (l : Poly) (j i : Nat) : Bool := Vd.cross (Vd.rAt l i) (Vd.rAt l j)
def tcF (l : Poly) (j : Nat) : Bool := Vd.anyI j (tcG l j)
theorem touch_F (l : Poly) : Vd.touch l = !(Vd.anyI l.length (tcF l)) := rfl
theorem rAt_some {l : Poly} {i : Nat} {r : Ring} (h : l[i]? = some r) : Vd.rAt l i = r := by unfold Vd.rAt; rw [List.getD_eq_getElem?_getD, h]; rfl
set_option maxHeartbeats 4000000 in
theorem touch_any (v : Value) (l : Poly) (w : World) (hv : Rd2 w v l) (hl : l.length ≤ 1048576) (hl2 : ∀ r ∈ l, r.length ≤ 1048576) (hc : Vd.CdL l) :
  Calls Tryz.prog 63 #[v] w fun e w' => e = .returned (.bool (Vd.touch l)) ∧ Up w w' := by
 obtain ⟨ao, cap, rfl, hm⟩ := hv
 have HM := hide hm
 have HC := hide hc
 have HL := hide hl2
 have HS := hide (touch_F l)
 clear hm hc hl2
 go_enter Tryz.func63, Tryz.ntmps63
 go_wp2
 go_loopw [8] (fun i wr => ∃ k : Nat, i = .int .i64 k ∧ k ≤ l.length ∧ Hid (Up w wr) ∧ Hid (Vd.anyI k (tcF l) = false)) (fun i _ => l.length - (intOf i).toNat)
 case atStart => exact ⟨0, rfl, Nat.zero_le _, Up.refl _, rfl⟩
 case round =>
  obtain ⟨k, rfl, hk, HU, HA⟩ := hrel
  by_cases hlt : k < l.length
  ·obtain ⟨r, hr⟩ := Pl.some_of_lt hlt
   obtain ⟨b, u, rfl, cu, hu⟩ := HM.out k r hr
   obtain ⟨ao2, cap2, rfl, -⟩ := id hu
   have Hu := hide hu
   have cu2 := HU.out.cell cu
   have Hr := hide hr
   have HrL := hide (HL.out r (Pl.mem_of_some hr))
   have HrC := hide (HC.out r (Pl.mem_of_some hr))
   clear hr cu hu
   go_wp2
   clear cu2
   go_loopw [5] (fun i wr => ∃ q : Nat, i = .int .i64 q ∧ q ≤ k ∧ Hid (Up w wr) ∧ Hid (Vd.anyI q (tcG l k) = false)) (fun i _ => k - (intOf i).toNat)
   case atStart => exact ⟨0, rfl, Nat.zero_le _, HU, rfl⟩
   case round =>
    clear HU
    obtain ⟨q, rfl, hq, HU, HB⟩ := hrel
    by_cases hlq : q < k
    ·obtain ⟨r2, hr2⟩ := Pl.some_of_lt (show q < l.length by omega)
     obtain ⟨b', u2, e', cu, hu2⟩ := HM.out q r2 hr2
     cases e'
     have Hu2 := hide (hu2.up HU.out)
     have HuU := hide (Hu.out.up HU.out)
     have cu2 := HU.out.cell cu
     have Hr2L := hide (HL.out r2 (Pl.mem_of_some hr2))
     have Hr2C := hide (HC.out r2 (Pl.mem_of_some hr2))
     have HG : Hid (tcG l k q = Vd.cross r2 r) := by unfold tcG; rw [rAt_some hr2, rAt_some Hr.out]; exact rfl
     have i1 : (q : Int) < (l.length : Int) := by omega
     clear hr2 cu hu2
     cases hx : Vd.cross r2 r
     ·have HGf := hide (HG.out.trans hx)
      have Hx := hide hx
      clear hx
      go_wp2_with (go_at_call 94; refine (cross_any _ _ r2 r _ Hu2.out HuU.out Hr2L.out HrL.out Hr2C.out HrC.out).mono ?_; rintro e w2 ⟨rfl, u2⟩; rw [Hx.out]; replace u2 := hide u2)
      go_roundw
      case rel => exact ⟨q + 1, by go_num, by omega, HU.out.trans u2.out, anyI_step HB.out HGf.out⟩
      case measure => simp [intOf]; omega
     ·have HGt : Hid (Vd.touch l = false) := by
       rw [HS.out, Vd.anyI_true (i := k) hlt (show tcF l k = true from Vd.anyI_true (i := q) hlq (HG.out.trans hx))]; exact rfl
      have Hx := hide hx
      clear hx
      go_wp2_with (go_at_call 94; refine (cross_any _ _ r2 r _ Hu2.out HuU.out Hr2L.out HrL.out Hr2C.out HrC.out).mono ?_; rintro e w2 ⟨rfl, u2⟩; rw [Hx.out]; replace u2 := hide u2)
      go_ret
      exact ⟨ret_b HGt.out.symm, HU.out.trans u2.out⟩
    ·have hq2 : q = k := by omega
     subst hq2
     go_wp2
     go_roundw
     case rel => exact ⟨q + 1, by go_num, by omega, HU, anyI_step HA.out HB.out⟩
     case measure => simp [intOf]; omega
  ·have hk2 : k = l.length := by omega
   subst hk2
   have HRt : Hid (Vd.touch l = true) := by rw [HS.out, HA.out]; exact rfl
   go_wp2
   go_ret
   exact ⟨ret_b HRt.out.symm, HU.out⟩
end Go.Proofs.YtcclepohmhdpbabGreatDoor
