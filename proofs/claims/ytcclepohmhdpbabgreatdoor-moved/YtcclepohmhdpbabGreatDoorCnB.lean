import Derived.Test.YtcclepohmhdpbabGreatDoorCnA
namespace Go.Proofs.YtcclepohmhdpbabGreatDoor
set_option linter.all false
open Go.RowKit Go.Deep
namespace Vd
theorem leastN_succ (v : Ring) (n : Nat) : leastN v (n + 1) = leastS v (leastN v n) n := by
  unfold leastN; rw [List.range_succ, List.foldl_append]; rfl
theorem leastN_le (v : Ring) : ∀ n, leastN v n ≤ n - 1
  | 0 => Nat.le_refl _
  | n + 1 => by
    rw [leastN_succ]; unfold leastS
    have := leastN_le v n
    split <;> omega
end Vd
set_option maxRecDepth 8000 in
set_option maxHeartbeats 4000000 in
theorem least2_any (v : Value) (r : Ring) (w : World) (hv : Rd1 w v r) (hr : r.length ≤ 1048576) :
    Calls Tryz.prog 89 #[v] w fun e w' => e = .returned (.int .i64 (Vd.leastI r)) ∧ Up w w' := by
  obtain ⟨ao, cap, rfl, hm⟩ := hv
  have HM := hide hm
  have HS := hide (fun n => Vd.leastN_succ r n)
  have HL := hide (fun n => Vd.leastN_le r n)
  have HD : Hid (Vd.leastI r = Vd.leastN r r.length) := rfl
  clear hm
  go_enter Tryz.func89, Tryz.ntmps89
  go_wp2
  go_loopw [3, 8] (fun fv i wr => ∃ (k f : Nat), i = .int .i64 k ∧ fv = .int .i64 f ∧ k ≤ r.length ∧ Hid (Up w wr) ∧ Hid (f = Vd.leastN r k)) (fun _ i _ => r.length - (intOf i).toNat)
  case atStart => exact ⟨0, 0, rfl, rfl, Nat.zero_le _, Up.refl _, rfl⟩
  case round =>
    obtain ⟨k, f, rfl, rfl, hk, HU, HF⟩ := hrel
    by_cases hlt : k < r.length
    · obtain ⟨⟨px, py⟩, hp⟩ := Pl.some_of_lt hlt
      have hfl : f < r.length := by have := HL.out k; rw [← HF.out] at this; omega
      obtain ⟨⟨qx, qy⟩, hq⟩ := Pl.some_of_lt hfl
      obtain ⟨b, rfl, c0, c1⟩ := HM.out k _ hp
      obtain ⟨b', e', d0, d1⟩ := HM.out f _ hq
      cases e'
      have e0 := HU.out.cell c0
      have e1 := HU.out.cell c1
      have HUT : Hid (Up wr (wr.alloc (.cells #[.int .i64 px, .int .i64 py] 48))) := (Up.refl _).alloc _
      have RN := hide (new_row (w := wr) (o := .cells #[.int .i64 px, .int .i64 py] 48) (vs := [.int .i64 px, .int .i64 py]) rfl)
      have g0 := cell_gr (HUT.out.cell (HU.out.cell d0))
      have g1 := cell_gr (HUT.out.cell (HU.out.cell d1))
      have q0 := RN.out.gr (i := 0) rfl
      have q1 := RN.out.gr (i := 1) rfl
      have HK : Hid (∀ g : Gr (wr.alloc (.cells #[.int .i64 px, .int .i64 py] 48)), Calls Tryz.prog 128 #[.agg #[.int .i64 px, .int .i64 py], .agg #[.int .i64 qx, .int .i64 qy]] g.v fun e w' => e = .returned (.bool (decide (Vd.bef (px, py) (qx, qy)))) ∧ Up g.v w') := fun g => before_any (px, py) (qx, qy) g.v
      have HSk : Hid (Vd.leastN r (k + 1) = if Vd.bef (px, py) (qx, qy) then k else f) := by
        rw [HS.out, ← HF.out]; unfold Vd.leastS; rw [ptAt_some hp, ptAt_some hq]; exact rfl
      have i1 : (0 : Int) ≤ (k : Int) := by omega
      have i2 : (k : Int) < (r.length : Int) := by omega
      have i3 : (0 : Int) ≤ (f : Int) := by omega
      have i4 : (f : Int) < (r.length : Int) := by omega
      try dsimp only at e0 e1 g0 g1 q0 q1
      by_cases hb : Vd.bef (px, py) (qx, qy)
      all_goals
        first | rw [decide_eq_true hb] at HK | rw [decide_eq_false hb] at HK
        first | rw [if_pos hb] at HSk | rw [if_neg hb] at HSk
        clear hp hq c0 c1 d0 d1 hb
        go_upto_region 5 with fail
        refine wp_region_up (by kernel_rfl) (by kernel_rfl) ?_
        repeat (first | go_big_quiet_step ((go_at_call 128; exact Calls.up_of (HK.out _))))
        refine wpQuiet_nil ?_
        rintro w3 ⟨⟨_, u3⟩, rfl⟩
        have HU3 := hide (HU.out.trans (HUT.out.trans u3))
        clear u3 e0 e1 g0 g1 q0 q1 HK
        go_wp2
        go_roundw
        case rel => exact ⟨k + 1, _, by go_num, rfl, by omega, HU3, HSk.out.symm⟩
        case measure => simp [intOf]; omega
    · have hk2 : k = r.length := by omega
      have HR : Hid (f = Vd.leastI r) := by rw [HD.out, HF.out, hk2]; exact rfl
      have i9 : ¬ (k : Int) < (r.length : Int) := by omega
      clear hk2
      go_wp2
      go_ret
      exact ⟨ret_i (by rw [HR.out]), HU.out⟩
set_option maxRecDepth 8000 in
set_option maxHeartbeats 4000000 in
theorem turnsLeft_any (v : Value) (r : Ring) (k : Nat) (w : World) (hv : Rd1 w v r) (hr : r.length ≤ 1048576) (hc : Vd.CdR r) (hk : k < r.length) :
    Calls Tryz.prog 90 #[v, .int .i64 k] w fun e w' => e = .returned (.bool (Vd.lefts r k)) ∧ Up w w' := by
  obtain ⟨ao, cap, rfl, hm⟩ := hv
  have hpl : (k + r.length - 1) % r.length < r.length := Nat.mod_lt _ (by omega)
  have hnl : (k + 1) % r.length < r.length := Nat.mod_lt _ (by omega)
  obtain ⟨⟨px, py⟩, hp⟩ := Pl.some_of_lt hpl
  obtain ⟨⟨qx, qy⟩, hq⟩ := Pl.some_of_lt hk
  obtain ⟨⟨nx, ny⟩, hn⟩ := Pl.some_of_lt hnl
  obtain ⟨b, rfl, c0, c1⟩ := hm _ _ hp
  obtain ⟨b', e', d0, d1⟩ := hm _ _ hq
  cases e'
  obtain ⟨b', e', n0, n1⟩ := hm _ _ hn
  cases e'
  have HR : Hid (Vd.lefts r k = decide (0 < Vd.side ((px, py), (qx, qy)) (Vd.at1 (nx, ny)))) := by unfold Vd.lefts; rw [ptAt_some hp, ptAt_some hq, ptAt_some hn]; exact rfl
  have Cp := hide (hc _ (Pl.mem_of_some hp))
  have Cq := hide (hc _ (Pl.mem_of_some hq))
  have Cn := hide (hc _ (Pl.mem_of_some hn))
  have j1 : IntKind.i64.wrap ((k : Int) + (r.length : Int)) = (k : Int) + (r.length : Int) := wrap_id (by omega) (by omega)
  have j2 : IntKind.i64.wrap ((k : Int) + (r.length : Int) - 1) = (k : Int) + (r.length : Int) - 1 := wrap_id (by omega) (by omega)
  have j3 : IntKind.i64.wrap ((k : Int) + 1) = (k : Int) + 1 := wrap_id (by omega) (by omega)
  have jn : ¬ r = [] := fun e => by subst e; simp at hk
  obtain ⟨P, hP⟩ : ∃ P, (k + r.length - 1) % r.length = P := ⟨_, rfl⟩
  obtain ⟨N, hN⟩ : ∃ N, (k + 1) % r.length = N := ⟨_, rfl⟩
  have j4 : ((k : Int) + (r.length : Int) - 1).tmod (r.length : Int) = (P : Int) := by
    rw [← hP, show (k : Int) + (r.length : Int) - 1 = ((k + r.length - 1 : Nat) : Int) by omega]; exact rfl
  have j5 : ((k : Int) + 1).tmod (r.length : Int) = (N : Int) := by rw [← hN]; exact rfl
  rw [hP] at c0 c1 hpl
  rw [hN] at n0 n1 hnl
  have k1 : (P : Int) < (r.length : Int) := by omega
  have k2 : (N : Int) < (r.length : Int) := by omega
  have k3 : (k : Int) < (r.length : Int) := by omega
  have k4 : (0 : Int) ≤ (P : Int) := by omega
  have k5 : (0 : Int) ≤ (N : Int) := by omega
  have k6 : (0 : Int) ≤ (k : Int) := by omega
  have c0a := fun o => ((Up.refl w).alloc o).cell c0
  have c1a := fun o => ((Up.refl w).alloc o).cell c1
  have d0a := fun o => ((Up.refl w).alloc o).cell d0
  have d1a := fun o => ((Up.refl w).alloc o).cell d1
  try dsimp only at c0 c1 d0 d1 n0 n1 c0a c1a d0a d1a
  have N0 := hide n0
  have N1 := hide n1
  clear hm hc hp hq hn hP hN n0 n1
  go_enter Tryz.func90, Tryz.ntmps90
  go_upto_region 2 with fail
  go_cut [6] (fun sl wc => ∃ S : Nat, sl = .pointer (some ⟨S, 0, none⟩) ∧ Hid (Up w wc) ∧ Hid (VRow wc S 98 [.int .i64 px, .int .i64 py, .int .i64 qx, .int .i64 qy]))
  case first =>
    go_region
    all_goals
      go_wp2
      go_meet
      case rel => exact ⟨w.heap.size, rfl, (by first | exact ((Up.refl w).alloc _).drew | exact (Up.refl w).alloc _ | exact ((Up.refl w).drew.alloc _)), (by first | exact VRow.drewN (VRow.new w _ _) 1 | exact VRow.new w _ _)⟩
  case rest =>
    obtain ⟨S, rfl, HUc, RS⟩ := hcut
    clear c0 c1 d0 d1 c0a c1a d0a d1a
    have s0 := RS.out.gr (i := 0) rfl
    have s1 := RS.out.gr (i := 1) rfl
    have s2 := RS.out.gr (i := 2) rfl
    have s3 := RS.out.gr (i := 3) rfl
    have q0 := cell_gr (HUc.out.cell N0.out)
    have q1 := cell_gr (HUc.out.cell N1.out)
    have HA : Hid (∀ g : Gr wc, Calls Tryz.prog 127 #[.agg #[.int .i64 nx, .int .i64 ny]] g.v fun e w' => e = .returned (.agg #[.int .i64 nx, .int .i64 ny, .int .i64 1]) ∧ Up g.v w') := fun g => at_any (nx, ny) g.v
    have HB : Hid (∀ g : Gr wc, Calls Tryz.prog 126 #[.agg #[.int .i64 px, .int .i64 py, .int .i64 qx, .int .i64 qy], .agg #[.int .i64 nx, .int .i64 ny, .int .i64 1]] g.v fun e w' => e = .returned (.int .i64 (Vd.side ((px, py), (qx, qy)) (Vd.at1 (nx, ny)))) ∧ Up g.v w') := fun g => side_any ((px, py), (qx, qy)) (Vd.at1 (nx, ny)) ⟨Cp.out, Cq.out⟩ (Vd.at1_sp Cn.out) g.v
    generalize Vd.side ((px, py), (qx, qy)) (Vd.at1 (nx, ny)) = X at *
    go_wp2_with fail
    refine wp_region_up (by kernel_rfl) (by kernel_rfl) ?_
    repeat (first | go_big_quiet_step (first | (go_at_call 127; exact Calls.up_of (HA.out _)) | (go_at_call 126; exact Calls.up_of (HB.out _))))
    refine wpQuiet_nil ?_
    rintro w3 ⟨⟨_, u3⟩, rfl⟩
    have HU3 := hide (HUc.out.trans u3)
    clear u3 q0 q1 s0 s1 s2 s3 HA HB RS HUc
    go_wp2
    go_ret
    exact ⟨ret_b (by rw [HR.out]), HU3.out⟩
end Go.Proofs.YtcclepohmhdpbabGreatDoor
