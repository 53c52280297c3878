/- THE WALKS: package apart: partsTo. -/
import Derived.Test.YtcclepohmhdpbabGreatDoorApA
namespace Go.Proofs.YtcclepohmhdpbabGreatDoor
set_option linter.all false
open Go.RowKit Go.Deep

theorem hsz_alloc (w : World) (o : Obj) : (w.alloc o).heap.size = w.heap.size + 1 := by simp
/-- What a middle is. -/
def Mp (p : Vd.Spot) : Prop := (-65536 ≤ p.1.1 ∧ p.1.1 ≤ 65536) ∧ (-65536 ≤ p.1.2 ∧ p.1.2 ≤ 65536) ∧ 1 ≤ p.2 ∧ p.2 ≤ 2
theorem gap_bdd {p : Vd.Spot} {s : Vd.Seg} (hp : Mp p) (hs : Vd.CdS s) : Bdd 131072 (Vd.gapW p s) := by
  obtain ⟨⟨x1, x2⟩, ⟨y1, y2⟩, t1, t2⟩ := hp
  unfold Vd.CdS Vd.Cd at hs
  have m1 := mul_bd (a := s.1.1) (b := p.2) (A := 32768) (B := 2) (by omega) (by omega) (by omega) (by omega)
  have m2 := mul_bd (a := s.1.2) (b := p.2) (A := 32768) (B := 2) (by omega) (by omega) (by omega) (by omega)
  unfold Bdd Vd.gapW
  simp only
  omega
theorem turn_bd {A B : Int} {u v : Pnt} (hu : Bdd A u) (hv : Bdd B v) : -(2 * (A * B)) ≤ Vd.turnW u v ∧ Vd.turnW u v ≤ 2 * (A * B) := by
  unfold Bdd at hu hv
  have m1 := mul_bd (a := u.1) (b := v.2) (A := A) (B := B) (by omega) (by omega) (by omega) (by omega)
  have m2 := mul_bd (a := u.2) (b := v.1) (A := A) (B := B) (by omega) (by omega) (by omega) (by omega)
  unfold Vd.turnW
  omega
theorem amt_bd {n A : Int} (h : -A ≤ n ∧ n ≤ A) : 0 ≤ Vd.amt n ∧ Vd.amt n ≤ A := by unfold Vd.amt; split <;> omega
theorem tdiv_bd {a b A : Int} (h : 0 ≤ a ∧ a ≤ A) (hb : 0 ≤ b) : 0 ≤ a.tdiv b ∧ a.tdiv b ≤ A := by
  rw [Int.tdiv_eq_ediv_of_nonneg h.1]
  exact ⟨Int.ediv_nonneg h.1 hb, Int.le_trans (Int.ediv_le_self _ h.1) h.2⟩
theorem partsTo_bd {p : Vd.Spot} {u : Pnt} {s : Vd.Seg} (hp : Mp p) (hu : Bdd 65536 u) (hs : Vd.CdS s) : 1 ≤ Vd.partsTo p u s ∧ Vd.partsTo p u s ≤ 17179869185 := by
  have h1 := turn_bd hu (along_bdd hs)
  have h2 := mul_bd (a := p.2) (b := Vd.turnW u (Vd.along s)) (A := 2) (B := 8589934592) (by have := hp.2.2; omega) (by have := hp.2.2; omega) (by omega) (by omega)
  have h3 := amt_bd (n := p.2 * Vd.turnW u (Vd.along s)) (A := 17179869184) (by omega)
  have h4 := amt_bd (turn_bd (gap_bdd hp hs) (along_bdd hs))
  have h5 := tdiv_bd h3 h4.1
  unfold Vd.partsTo
  split <;> omega

set_option maxRecDepth 8000 in
set_option maxHeartbeats 4000000 in
theorem partsTo_any (p : Vd.Spot) (u : Pnt) (s : Vd.Seg) (hp : Mp p) (hu : Bdd 65536 u) (hs : Vd.CdS s) (w : World) :
    Calls Tryz.prog 135 #[spotV p, ptV u, segV s] w fun e w' => e = .returned (.int .i64 (Vd.partsTo p u s)) ∧ Up w w' := by
  have HD : Hid (Vd.partsTo p u s = if Vd.amt (Vd.turnW (Vd.gapW p s) (Vd.along s)) = 0 then 1 else (Vd.amt (p.2 * Vd.turnW u (Vd.along s))).tdiv (Vd.amt (Vd.turnW (Vd.gapW p s) (Vd.along s))) + 1) := rfl
  have HG := hide (gap_bdd hp hs)
  have HS := hide hs
  have HU := hide hu
  have HL := hide (along_bdd hs)
  have h1 := turn_bd hu (along_bdd hs)
  have h2 := mul_bd (a := p.2) (b := Vd.turnW u (Vd.along s)) (A := 2) (B := 8589934592) (by have := hp.2.2; omega) (by have := hp.2.2; omega) (by omega) (by omega)
  have h3 := amt_bd (n := p.2 * Vd.turnW u (Vd.along s)) (A := 17179869184) (by omega)
  have h6 := turn_bd (gap_bdd hp hs) (along_bdd hs)
  have h4 := amt_bd h6
  have h5 := tdiv_bd h3 h4.1
  have HA : Hid (∀ w, Calls Tryz.prog 107 #[segV s] w fun e w' => e = .returned (ptV (Vd.along s)) ∧ Up w w') := fun w => along_any s hs w
  have HT1 : Hid (∀ w, Calls Tryz.prog 133 #[ptV (Vd.gapW p s), ptV (Vd.along s)] w fun e w' => e = .returned (.int .i64 (Vd.turnW (Vd.gapW p s) (Vd.along s))) ∧ Up w w') := fun w => turn_any _ _ (gap_bdd hp hs) (along_bdd hs) (by omega) (by omega) (by omega) w
  have HT2 : Hid (∀ w, Calls Tryz.prog 133 #[ptV u, ptV (Vd.along s)] w fun e w' => e = .returned (.int .i64 (Vd.turnW u (Vd.along s))) ∧ Up w w') := fun w => turn_any _ _ hu (along_bdd hs) (by omega) (by omega) (by omega) w
  have HM1 : Hid (∀ w, Calls Tryz.prog 149 #[.int .i64 (Vd.turnW (Vd.gapW p s) (Vd.along s))] w fun e w' => e = .returned (.int .i64 (Vd.amt (Vd.turnW (Vd.gapW p s) (Vd.along s)))) ∧ Up w w') := fun w => amount_any _ (by omega) (by omega) w
  have HM2 : Hid (∀ w, Calls Tryz.prog 149 #[.int .i64 (p.2 * Vd.turnW u (Vd.along s))] w fun e w' => e = .returned (.int .i64 (Vd.amt (p.2 * Vd.turnW u (Vd.along s)))) ∧ Up w w') := fun w => amount_any _ (by omega) (by omega) w
  generalize Vd.along s = L at *
  obtain ⟨lx, ly⟩ := L
  generalize hT : Vd.turnW (Vd.gapW p s) (lx, ly) = T at *
  generalize hQ : Vd.turnW u (lx, ly) = Q at *
  generalize hO : Vd.amt T = O at *
  generalize hV : Vd.amt (p.2 * Q) = V at *
  clear hT hQ hO hV h6 h1
  obtain ⟨⟨x1, x2⟩, ⟨y1, y2⟩, t1, t2⟩ := hp
  obtain ⟨⟨x, y⟩, t⟩ := p
  obtain ⟨ux, uy⟩ := u
  obtain ⟨⟨ax, ay⟩, ⟨bx, bY⟩⟩ := s
  simp only [Vd.CdS, Vd.Cd] at hs
  simp only at x1 x2 y1 y2 t1 t2 h2
  have m1 := mul_bd (a := ax) (b := t) (A := 32768) (B := 2) (by omega) (by omega) (by omega) (by omega)
  have m2 := mul_bd (a := ay) (b := t) (A := 32768) (B := 2) (by omega) (by omega) (by omega) (by omega)
  generalize hP : Vd.partsTo ((x, y), t) (ux, uy) ((ax, ay), bx, bY) = P at *
  clear hP hu
  simp only [ptV, segV, spotV, Vd.gapW] at *
  have k1 : wrap64 (ax * t) = ax * t := w64 (by omega) (by omega)
  have k2 : wrap64 (ay * t) = ay * t := w64 (by omega) (by omega)
  have k3 : wrap64 (t * Q) = t * Q := w64 (by omega) (by omega)
  have k4 : wrap64 (V.tdiv O) = V.tdiv O := w64 (by omega) (by omega)
  have HW0 : Hid (Up w ((((w.alloc (.cells #[.int .i64 x, .int .i64 y, .int .i64 t] 65)).alloc (.cells #[.int .i64 ux, .int .i64 uy] 133)).alloc (.cells #[.int .i64 ax, .int .i64 ay, .int .i64 bx, .int .i64 bY] 98)).alloc (.cells #[.int .i64 (ax * t - x), .int .i64 (ay * t - y)] 133))) := (((Up.refl _).alloc _).alloc _ |>.alloc _).alloc _
  have RP : VRow _ _ _ _ := (((new_row (w := w) (o := .cells #[.int .i64 x, .int .i64 y, .int .i64 t] 65) (vs := [_, _, _]) rfl).alloc (.cells #[.int .i64 ux, .int .i64 uy] 133)).alloc (.cells #[.int .i64 ax, .int .i64 ay, .int .i64 bx, .int .i64 bY] 98)).alloc (.cells #[.int .i64 (ax * t - x), .int .i64 (ay * t - y)] 133)
  have RU := ((new_row (w := w.alloc (.cells #[.int .i64 x, .int .i64 y, .int .i64 t] 65)) (o := .cells #[.int .i64 ux, .int .i64 uy] 133) (vs := [_, _]) rfl).alloc (.cells #[.int .i64 ax, .int .i64 ay, .int .i64 bx, .int .i64 bY] 98)).alloc (.cells #[.int .i64 (ax * t - x), .int .i64 (ay * t - y)] 133)
  have RS := (new_row (w := (w.alloc (.cells #[.int .i64 x, .int .i64 y, .int .i64 t] 65)).alloc (.cells #[.int .i64 ux, .int .i64 uy] 133)) (o := .cells #[.int .i64 ax, .int .i64 ay, .int .i64 bx, .int .i64 bY] 98) (vs := [_, _, _, _]) rfl).alloc (.cells #[.int .i64 (ax * t - x), .int .i64 (ay * t - y)] 133)
  have RG := new_row (w := ((w.alloc (.cells #[.int .i64 x, .int .i64 y, .int .i64 t] 65)).alloc (.cells #[.int .i64 ux, .int .i64 uy] 133)).alloc (.cells #[.int .i64 ax, .int .i64 ay, .int .i64 bx, .int .i64 bY] 98)) (o := .cells #[.int .i64 (ax * t - x), .int .i64 (ay * t - y)] 133) (vs := [_, _]) rfl
  simp only [hsz_alloc, Nat.add_assoc, Nat.reduceAdd] at RU RS RG
  replace RP := hide RP
  replace RU := hide RU
  replace RS := hide RS
  replace RG := hide RG
  go_enter Tryz.func135, Tryz.ntmps135
  go_wp2_with fail
  have s0 := RS.out.gr (i := 0) rfl
  have s1 := RS.out.gr (i := 1) rfl
  have s2 := RS.out.gr (i := 2) rfl
  have s3 := RS.out.gr (i := 3) rfl
  have g0 := RG.out.gr (i := 0) rfl
  have g1 := RG.out.gr (i := 1) rfl
  refine wp_region_up (by kernel_rfl) (by kernel_rfl) ?_
  repeat (first | go_big_quiet_step (first | (go_at_call 107; exact Calls.up_of (HA.out _)) | (go_at_call 133; exact Calls.up_of (HT1.out _)) | (go_at_call 149; exact Calls.up_of (HM1.out _))))
  refine wpQuiet_nil ?_
  rintro w3 ⟨⟨_, u3⟩, rfl⟩
  have HU3 := hide (HW0.out.trans u3)
  replace RP := hide (RP.out.up u3)
  replace RU := hide (RU.out.up u3)
  replace RS := hide (RS.out.up u3)
  clear u3 s0 s1 s2 s3 g0 g1 HT1 HM1 RG HW0
  by_cases hO : O = 0
  · have HR : Hid (P = 1) := by rw [HD.out, if_pos hO]; exact rfl
    clear h2 h3 h4 h5 k3 k4 m1 m2 k1 k2 HA HM2 HT2
    have hO' : (O == 0) = true := by rw [hO]; rfl
    clear hO HD
    go_wp2
    go_ret
    exact ⟨by rw [HR.out]; rfl, HU3.out⟩
  · have HR : Hid (P = V.tdiv O + 1) := by rw [HD.out, if_neg hO]; exact rfl
    have hO' : (O == 0) = false := beq_eq_false_iff_ne.2 hO
    go_wp2_with fail
    have p2 := RP.out.gr (i := 2) rfl
    have s0 := RS.out.gr (i := 0) rfl
    have s1 := RS.out.gr (i := 1) rfl
    have s2 := RS.out.gr (i := 2) rfl
    have s3 := RS.out.gr (i := 3) rfl
    have g0 := RU.out.gr (i := 0) rfl
    have g1 := RU.out.gr (i := 1) rfl
    refine wp_region_up (by kernel_rfl) (by kernel_rfl) ?_
    repeat (first | go_big_quiet_step (first | (go_at_call 107; exact Calls.up_of (HA.out _)) | (go_at_call 133; exact Calls.up_of (HT2.out _)) | (go_at_call 149; exact Calls.up_of (HM2.out _))))
    refine wpQuiet_nil ?_
    rintro w4 ⟨⟨_, u4⟩, rfl⟩
    have HU4 := hide (HU3.out.trans u4)
    clear u4 s0 s1 s2 s3 g0 g1 p2
    go_wp2
    go_ret
    exact ⟨by rw [HR.out]; rfl, HU4.out⟩
end Go.Proofs.YtcclepohmhdpbabGreatDoor
