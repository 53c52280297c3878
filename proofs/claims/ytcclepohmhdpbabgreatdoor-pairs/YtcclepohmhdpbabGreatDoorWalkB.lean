import Derived.Test.YtcclepohmhdpbabGreatDoorPnB
import Derived.Deep.DeepCutAuto
import Derived.Test.YtcclepohmhdpbabGreatDoorPnG
import Derived.Deep.AppendLies
import Derived.Deep.RegionLaw
import Derived.Deep.RegionHeld3
import Derived.Test.YtcclepohmhdpbabGreatDoorProg
import Derived.WalkLawsBesides
/- THE WALKS: package plane: meetOnLine. -/
namespace Go.Proofs.YtcclepohmhdpbabGreatDoor
set_option linter.all false
open Go.RowKit Go.Deep

/-- meetOnLine, by what it keeps. -/
def onF (f l : Pnt) : Int := if Vd.bef f l then 3 else if f = l then 1 else 0
theorem onLine_F (s t : Vd.Seg) : Vd.onLine s t = onF (if Vd.bef s.1 t.1 then t.1 else s.1) (if Vd.bef t.2 s.2 then t.2 else s.2) := rfl
theorem new_row {w : World} {o : Obj} {vs : List Value} {t : TypeId} (h : o = .cells vs.toArray t (0, 0)) : VRow (w.alloc o) w.heap.size t vs := by subst h; exact VRow.new w vs t
theorem row_set2 {w : World} {b : Nat} {t : TypeId} {x y : Value} (h : VRow w b t [x, y]) (u v : Value) : VRow ((w.setCell ⟨b, 0, none⟩ u).setCell ⟨b, 1, none⟩ v) b t [u, v] := (h.set 0 u).set 1 v
set_option maxHeartbeats 4000000 in
theorem online_any (s t : Vd.Seg) (w : World) : Calls Tryz.prog 148 #[segV s, segV t] w fun e w' => e = .returned (.int .i64 (Vd.onLine s t)) ∧ Up w w' := by
  have HE := hide (onLine_F s t)
  obtain ⟨⟨ax, ay⟩, ⟨bx, bY⟩⟩ := s
  obtain ⟨⟨cx, cy⟩, ⟨dx, dy⟩⟩ := t
  simp only [segV]
  go_enter Tryz.func148, Tryz.ntmps148
  have R0 := hide (((new_row (w := w) (o := .cells #[.int .i64 ax, .int .i64 ay, .int .i64 bx, .int .i64 bY] 98) (vs := [.int .i64 ax, .int .i64 ay, .int .i64 bx, .int .i64 bY]) rfl).alloc (.cells #[.int .i64 cx, .int .i64 cy, .int .i64 dx, .int .i64 dy] 98)).alloc (.cells #[.int .i64 ax, .int .i64 ay] 48))
  have R1 := hide ((new_row (w := w.alloc (.cells #[.int .i64 ax, .int .i64 ay, .int .i64 bx, .int .i64 bY] 98)) (o := .cells #[.int .i64 cx, .int .i64 cy, .int .i64 dx, .int .i64 dy] 98) (vs := [.int .i64 cx, .int .i64 cy, .int .i64 dx, .int .i64 dy]) rfl).alloc (.cells #[.int .i64 ax, .int .i64 ay] 48))
  have R2 := hide (new_row (w := (w.alloc (.cells #[.int .i64 ax, .int .i64 ay, .int .i64 bx, .int .i64 bY] 98)).alloc (.cells #[.int .i64 cx, .int .i64 cy, .int .i64 dx, .int .i64 dy] 98)) (o := .cells #[.int .i64 ax, .int .i64 ay] 48) (vs := [.int .i64 ax, .int .i64 ay]) rfl)
  rw [show (w.alloc (.cells #[.int .i64 ax, .int .i64 ay, .int .i64 bx, .int .i64 bY] 98)).heap.size = w.heap.size + 1 by simp] at R1
  rw [show ((w.alloc (.cells #[.int .i64 ax, .int .i64 ay, .int .i64 bx, .int .i64 bY] 98)).alloc (.cells #[.int .i64 cx, .int .i64 cy, .int .i64 dx, .int .i64 dy] 98)).heap.size = w.heap.size + 2 by simp] at R2
  go_upto_if 12 with (go_at_call 128; refine (before_any (ax, ay) (cx, cy) _).mono ?_; rintro e w1 ⟨rfl, u1⟩; replace u1 := hide u1)
  have S0 := hide (R0.out.of_block (u1.out.block _ R0.out.lt))
  have S1 := hide (R1.out.of_block (u1.out.block _ R1.out.lt))
  have S2 := hide (R2.out.of_block (u1.out.block _ R2.out.lt))
  have HU1 : Hid (Up w w1) := (((((Up.refl _).alloc _).alloc _).alloc _).trans u1.out)
  clear R0 R1 R2 u1
  have a0 := S1.out.cell (i := 0) rfl
  have a1 := S1.out.cell (i := 1) rfl
  have b0 := S2.out.cell (i := 0) rfl
  have b1 := S2.out.cell (i := 1) rfl
  have bf := fun i => S2.out.frozen i
  go_cut [] (fun wc => ∃ fx fy : Int, Hid ((fx, fy) = if Vd.bef (ax, ay) (cx, cy) then (cx, cy) else (ax, ay)) ∧ Hid (Up w wc) ∧ Hid (VRow wc w.heap.size 98 [.int .i64 ax, .int .i64 ay, .int .i64 bx, .int .i64 bY]) ∧ Hid (VRow wc (w.heap.size + 1) 98 [.int .i64 cx, .int .i64 cy, .int .i64 dx, .int .i64 dy]) ∧ Hid (VRow wc (w.heap.size + 2) 48 [.int .i64 fx, .int .i64 fy]))
  case first =>
    by_cases h : Vd.bef (ax, ay) (cx, cy)
    · have D := hide h
      have d : decide (Vd.bef (ax, ay) (cx, cy)) = true := decide_eq_true h
      clear h
      go_wp2
      go_meet
      case rel => exact ⟨cx, cy, (if_pos D.out).symm, Up.setCell (Up.setCell HU1.out (by show w.heap.size ≤ w.heap.size + 2; omega) _) (by show w.heap.size ≤ w.heap.size + 2; omega) _, (S0.out.setOther (by show w.heap.size ≠ w.heap.size + 2; omega) _).setOther (by show w.heap.size ≠ w.heap.size + 2; omega) _, (S1.out.setOther (by show w.heap.size + 1 ≠ w.heap.size + 2; omega) _).setOther (by show w.heap.size + 1 ≠ w.heap.size + 2; omega) _, row_set2 S2.out _ _⟩
    · have D := hide h
      have d : decide (Vd.bef (ax, ay) (cx, cy)) = false := decide_eq_false h
      clear h
      go_wp2
      go_meet
      case rel => exact ⟨ax, ay, (if_neg D.out).symm, HU1.out, S0.out, S1.out, S2.out⟩
  case rest =>
    clear a0 a1 b0 b1 bf S0 S1 S2 HU1
    obtain ⟨fx, fy, HF, HU, S0, S1, S2⟩ := hcut
    have c2 := S0.out.cell (i := 2) rfl
    have c3 := S0.out.cell (i := 3) rfl
    have e2a := fun o => (S1.out.alloc o).cell (i := 2) rfl
    have e3a := fun o => (S1.out.alloc o).cell (i := 3) rfl
    have T1 := hide (S1.out.alloc (.cells #[.int .i64 bx, .int .i64 bY] 48))
    have T2 := hide (S2.out.alloc (.cells #[.int .i64 bx, .int .i64 bY] 48))
    have T3 := hide (new_row (w := wc) (o := .cells #[.int .i64 bx, .int .i64 bY] 48) (vs := [.int .i64 bx, .int .i64 bY]) rfl)
    have hne : w.heap.size + 2 ≠ wc.heap.size := by have := S2.out.lt; omega
    have HNE := hide hne
    clear hne
    go_upto_if 20 with (go_at_call 128; refine (before_any (dx, dy) (bx, bY) _).mono ?_; rintro e w1 ⟨rfl, u1⟩; replace u1 := hide u1)
    have g2 := (T1.out.of_block (u1.out.block _ T1.out.lt)).cell (i := 2) rfl
    have g3 := (T1.out.of_block (u1.out.block _ T1.out.lt)).cell (i := 3) rfl
    have V1 := hide (T2.out.of_block (u1.out.block _ T2.out.lt))
    have V2 := hide (T3.out.of_block (u1.out.block _ T3.out.lt))
    have k0 := V2.out.cell (i := 0) rfl
    have k1 := V2.out.cell (i := 1) rfl
    have kf := fun i => V2.out.frozen i
    have HU1 : Hid (Up w w1) := (HU.out.alloc _).trans u1.out
    have HS := hide HU.out.size
    clear T1 T2 T3 u1 e2a e3a c2 c3
    go_cut [] (fun wd => ∃ lx ly : Int, Hid ((lx, ly) = if Vd.bef (dx, dy) (bx, bY) then (dx, dy) else (bx, bY)) ∧ Hid (Up w wd) ∧ Hid (VRow wd (w.heap.size + 2) 48 [.int .i64 fx, .int .i64 fy]) ∧ Hid (VRow wd wc.heap.size 48 [.int .i64 lx, .int .i64 ly]))
    case first =>
      by_cases h : Vd.bef (dx, dy) (bx, bY)
      · have D := hide h
        have d : decide (Vd.bef (dx, dy) (bx, bY)) = true := decide_eq_true h
        clear h
        go_wp2
        go_meet
        case rel => exact ⟨dx, dy, (if_pos D.out).symm, Up.setCell (Up.setCell HU1.out HS.out _) HS.out _, (V1.out.setOther HNE.out _).setOther HNE.out _, row_set2 V2.out _ _⟩
      · have D := hide h
        have d : decide (Vd.bef (dx, dy) (bx, bY)) = false := decide_eq_false h
        clear h
        go_wp2
        go_meet
        case rel => exact ⟨bx, bY, (if_neg D.out).symm, HU1.out, V1.out, V2.out⟩
    case rest =>
      clear g2 g3 V1 V2 k0 k1 kf HU1
      obtain ⟨lx, ly, HL, HU2, V1, V2⟩ := hcut
      have p0 := V1.out.cell (i := 0) rfl
      have p1 := V1.out.cell (i := 1) rfl
      have q0 := V2.out.cell (i := 0) rfl
      have q1 := V2.out.cell (i := 1) rfl
      have HR : Hid (Vd.onLine ((ax, ay), bx, bY) ((cx, cy), dx, dy) = onF (fx, fy) (lx, ly)) := by
        rw [HE.out, HF.out, HL.out]; exact rfl
      by_cases h : Vd.bef (fx, fy) (lx, ly)
      · have D := hide h
        clear h
        go_wp2_with (go_at_call 128; refine (before_any (fx, fy) (lx, ly) _).mono ?_; rintro e w1 ⟨rfl, u1⟩; replace u1 := hide u1; rw [decide_eq_true D.out])
        go_ret
        exact ⟨ret_i (by rw [HR.out]; unfold onF; rw [if_pos D.out]), HU2.out.trans u1.out⟩
      · have D := hide h
        clear h
        by_cases h : (fx, fy) = (lx, ly)
        · cases h
          go_wp2_with (go_at_call 128; refine (before_any (fx, fy) (fx, fy) _).mono ?_; rintro e w1 ⟨rfl, u1⟩; replace u1 := hide u1; have r0 := u1.out.cell p0; have r1 := u1.out.cell p1; have r2 := u1.out.cell q0; have r3 := u1.out.cell q1; rw [decide_eq_false D.out])
          go_ret
          exact ⟨ret_i (by rw [HR.out]; unfold onF; rw [if_neg D.out, if_pos rfl]), HU2.out.trans u1.out⟩
        · have D2 := hide h
          rcases (show fx ≠ lx ∨ (fx = lx ∧ fy ≠ ly) from by by_cases c : fx = lx; exact .inr ⟨c, fun e => h (by rw [c, e])⟩; exact .inl c) with hd | ⟨rfl, hd⟩
          all_goals
            have hd' := beq_eq_false_iff_ne.2 hd
            clear h
            go_wp2_with (go_at_call 128; refine (before_any (fx, fy) (_, ly) _).mono ?_; rintro e w1 ⟨rfl, u1⟩; replace u1 := hide u1; have r0 := u1.out.cell p0; have r1 := u1.out.cell p1; have r2 := u1.out.cell q0; have r3 := u1.out.cell q1; rw [decide_eq_false D.out])
            go_ret
            exact ⟨ret_i (by rw [HR.out]; unfold onF; rw [if_neg D.out, if_neg D2.out]), HU2.out.trans u1.out⟩
end Go.Proofs.YtcclepohmhdpbabGreatDoor

/- THE WALKS: package plane: Meet. -/
namespace Go.Proofs.YtcclepohmhdpbabGreatDoor
set_option linter.all false
open Go.RowKit Go.Deep

theorem VRow.up {w w' : World} {b : Nat} {t : TypeId} {vs : List Value} (h : VRow w b t vs) (k : Up w w') : VRow w' b t vs := h.of_block (k.block _ h.lt)
theorem side_at (s : Vd.Seg) (p : Pnt) : Vd.side s (Vd.at1 p) = Vd.sg (Vd.cr s.1 s.2 p 1) := rfl
theorem sg_bd (n : Int) : -1 ≤ Vd.sg n ∧ Vd.sg n ≤ 1 := by rcases Vd.sg_cases n with ⟨_, e⟩ | ⟨_, e⟩ | ⟨_, e⟩ <;> rw [e] <;> omega
/-- Meet, by the four sides. -/
def meetK (x : Int) (a b c d : Int) : Int := if a = 0 ∧ b = 0 ∧ c = 0 ∧ d = 0 then x else if a * b > 0 ∨ c * d > 0 then 0 else if a * b * c * d = 0 then 1 else 2
theorem meet_K (s t : Vd.Seg) : Vd.meetS s t = meetK (Vd.onLine (Vd.fwd s.1 s.2) (Vd.fwd t.1 t.2)) (Vd.side s (Vd.at1 t.1)) (Vd.side s (Vd.at1 t.2)) (Vd.side t (Vd.at1 s.1)) (Vd.side t (Vd.at1 s.2)) := rfl

set_option maxHeartbeats 4000000 in
theorem meet_any (s t : Vd.Seg) (hs : Vd.CdS s) (ht : Vd.CdS t) (w : World) : Calls Tryz.prog 130 #[segV s, segV t] w fun e w' => e = .returned (.int .i64 (Vd.meetS s t)) ∧ Up w w' := by
  have HE := hide (meet_K s t)
  have HS := hide hs
  have HT := hide ht
  obtain ⟨⟨ax, ay⟩, ⟨bx, bY⟩⟩ := s
  obtain ⟨⟨cx, cy⟩, ⟨dx, dy⟩⟩ := t
  clear hs ht
  simp only [segV]
  have R0 := hide ((new_row (w := w) (o := .cells #[.int .i64 ax, .int .i64 ay, .int .i64 bx, .int .i64 bY] 98) (vs := [.int .i64 ax, .int .i64 ay, .int .i64 bx, .int .i64 bY]) rfl).alloc (.cells #[.int .i64 cx, .int .i64 cy, .int .i64 dx, .int .i64 dy] 98))
  have R1 := hide ((new_row (w := w.alloc (.cells #[.int .i64 ax, .int .i64 ay, .int .i64 bx, .int .i64 bY] 98)) (o := .cells #[.int .i64 cx, .int .i64 cy, .int .i64 dx, .int .i64 dy] 98) (vs := [.int .i64 cx, .int .i64 cy, .int .i64 dx, .int .i64 dy]) rfl))
  rw [show (w.alloc (.cells #[.int .i64 ax, .int .i64 ay, .int .i64 bx, .int .i64 bY] 98)).heap.size = w.heap.size + 1 by simp] at R1
  have HU : Hid (Up w ((w.alloc (.cells #[.int .i64 ax, .int .i64 ay, .int .i64 bx, .int .i64 bY] 98)).alloc (.cells #[.int .i64 cx, .int .i64 cy, .int .i64 dx, .int .i64 dy] 98))) := ((Up.refl _).alloc _).alloc _
  go_enter Tryz.func130, Tryz.ntmps130
  go_wp2_with fail
  generalize (w.alloc (.cells #[.int .i64 ax, .int .i64 ay, .int .i64 bx, .int .i64 bY] 98)).alloc (.cells #[.int .i64 cx, .int .i64 cy, .int .i64 dx, .int .i64 dy] 98) = W at *
  have s0 := R0.out.gr (i := 0) rfl
  have s1 := R0.out.gr (i := 1) rfl
  have s2 := R0.out.gr (i := 2) rfl
  have s3 := R0.out.gr (i := 3) rfl
  have t0 := R1.out.gr (i := 0) rfl
  have t1 := R1.out.gr (i := 1) rfl
  have t2 := R1.out.gr (i := 2) rfl
  have t3 := R1.out.gr (i := 3) rfl
  refine wp_region_up (by kernel_rfl) (by kernel_rfl) ?_
  repeat (first | go_big_quiet_step ((first | (go_at_call 127; exact Calls.up_of (at_any (cx, cy) _)) | (go_at_call 126; exact Calls.up_of (side_any ((ax, ay), (bx, bY)) (Vd.at1 (cx, cy)) HS.out (Vd.at1_sp HT.out.1) _)))))
  refine wpQuiet_nil ?_
  rintro _ ⟨⟨w1, u⟩, rfl⟩
  replace R0 := hide (R0.out.up u)
  replace R1 := hide (R1.out.up u)
  replace HU := hide (HU.out.trans u)
  clear s0 s1 s2 s3 t0 t1 t2 t3 u
  go_wp2_with fail
  have s0 := R0.out.gr (i := 0) rfl
  have s1 := R0.out.gr (i := 1) rfl
  have s2 := R0.out.gr (i := 2) rfl
  have s3 := R0.out.gr (i := 3) rfl
  have t0 := R1.out.gr (i := 0) rfl
  have t1 := R1.out.gr (i := 1) rfl
  have t2 := R1.out.gr (i := 2) rfl
  have t3 := R1.out.gr (i := 3) rfl
  refine wp_region_up (by kernel_rfl) (by kernel_rfl) ?_
  repeat (first | go_big_quiet_step ((first | (go_at_call 127; exact Calls.up_of (at_any (dx, dy) _)) | (go_at_call 126; exact Calls.up_of (side_any ((ax, ay), (bx, bY)) (Vd.at1 (dx, dy)) HS.out (Vd.at1_sp HT.out.2) _)))))
  refine wpQuiet_nil ?_
  rintro _ ⟨⟨w2, u⟩, rfl⟩
  replace R0 := hide (R0.out.up u)
  replace R1 := hide (R1.out.up u)
  replace HU := hide (HU.out.trans u)
  clear s0 s1 s2 s3 t0 t1 t2 t3 u
  go_wp2_with fail
  have s0 := R0.out.gr (i := 0) rfl
  have s1 := R0.out.gr (i := 1) rfl
  have s2 := R0.out.gr (i := 2) rfl
  have s3 := R0.out.gr (i := 3) rfl
  have t0 := R1.out.gr (i := 0) rfl
  have t1 := R1.out.gr (i := 1) rfl
  have t2 := R1.out.gr (i := 2) rfl
  have t3 := R1.out.gr (i := 3) rfl
  refine wp_region_up (by kernel_rfl) (by kernel_rfl) ?_
  repeat (first | go_big_quiet_step ((first | (go_at_call 127; exact Calls.up_of (at_any (ax, ay) _)) | (go_at_call 126; exact Calls.up_of (side_any ((cx, cy), (dx, dy)) (Vd.at1 (ax, ay)) HT.out (Vd.at1_sp HS.out.1) _)))))
  refine wpQuiet_nil ?_
  rintro _ ⟨⟨w3, u⟩, rfl⟩
  replace R0 := hide (R0.out.up u)
  replace R1 := hide (R1.out.up u)
  replace HU := hide (HU.out.trans u)
  clear s0 s1 s2 s3 t0 t1 t2 t3 u
  go_wp2_with fail
  have s0 := R0.out.gr (i := 0) rfl
  have s1 := R0.out.gr (i := 1) rfl
  have s2 := R0.out.gr (i := 2) rfl
  have s3 := R0.out.gr (i := 3) rfl
  have t0 := R1.out.gr (i := 0) rfl
  have t1 := R1.out.gr (i := 1) rfl
  have t2 := R1.out.gr (i := 2) rfl
  have t3 := R1.out.gr (i := 3) rfl
  refine wp_region_up (by kernel_rfl) (by kernel_rfl) ?_
  repeat (first | go_big_quiet_step ((first | (go_at_call 127; exact Calls.up_of (at_any (bx, bY) _)) | (go_at_call 126; exact Calls.up_of (side_any ((cx, cy), (dx, dy)) (Vd.at1 (bx, bY)) HT.out (Vd.at1_sp HS.out.2) _)))))
  refine wpQuiet_nil ?_
  rintro _ ⟨⟨w4, u⟩, rfl⟩
  replace R0 := hide (R0.out.up u)
  replace R1 := hide (R1.out.up u)
  replace HU := hide (HU.out.trans u)
  clear s0 s1 s2 s3 t0 t1 t2 t3 u
  have B1 := sg_bd (Vd.cr (ax, ay) (bx, bY) (cx, cy) 1)
  have B2 := sg_bd (Vd.cr (ax, ay) (bx, bY) (dx, dy) 1)
  have B3 := sg_bd (Vd.cr (cx, cy) (dx, dy) (ax, ay) 1)
  have B4 := sg_bd (Vd.cr (cx, cy) (dx, dy) (bx, bY) 1)
  simp only [side_at] at HE ⊢
  generalize Vd.sg (Vd.cr (ax, ay) (bx, bY) (cx, cy) 1) = a at *
  generalize Vd.sg (Vd.cr (ax, ay) (bx, bY) (dx, dy) 1) = b at *
  generalize Vd.sg (Vd.cr (cx, cy) (dx, dy) (ax, ay) 1) = c at *
  generalize Vd.sg (Vd.cr (cx, cy) (dx, dy) (bx, bY) 1) = d at *
  have k1 : wrap64 (a * b) = a * b := w64 (by have := (mul_bd (a := a) (b := b) (A := 1) (B := 1) (by omega) (by omega) (by omega) (by omega)); omega) (by have := (mul_bd (a := a) (b := b) (A := 1) (B := 1) (by omega) (by omega) (by omega) (by omega)); omega)
  have k2 : wrap64 (c * d) = c * d := w64 (by have := (mul_bd (a := c) (b := d) (A := 1) (B := 1) (by omega) (by omega) (by omega) (by omega)); omega) (by have := (mul_bd (a := c) (b := d) (A := 1) (B := 1) (by omega) (by omega) (by omega) (by omega)); omega)
  have m1 := mul_bd (a := a) (b := b) (A := 1) (B := 1) (by omega) (by omega) (by omega) (by omega)
  have m2 := mul_bd (a := a * b) (b := c) (A := 1) (B := 1) (by omega) (by omega) (by omega) (by omega)
  have m3 := mul_bd (a := a * b * c) (b := d) (A := 1) (B := 1) (by omega) (by omega) (by omega) (by omega)
  have k3 : wrap64 (a * b * c) = a * b * c := w64 (by omega) (by omega)
  have k4 : wrap64 (a * b * c * d) = a * b * c * d := w64 (by omega) (by omega)
  by_cases hz : a = 0 ∧ b = 0 ∧ c = 0 ∧ d = 0
  · obtain ⟨rfl, rfl, rfl, rfl⟩ := hz
    clear B1 B2 B3 B4 k1 k2 k3 k4 m1 m2 m3
    have HR : Hid (Vd.meetS ((ax, ay), bx, bY) ((cx, cy), dx, dy) = Vd.onLine (Vd.fwd (ax, ay) (bx, bY)) (Vd.fwd (cx, cy) (dx, dy))) := HE.out
    go_wp2_with fail
    have s0 := R0.out.gr (i := 0) rfl
    have s1 := R0.out.gr (i := 1) rfl
    have s2 := R0.out.gr (i := 2) rfl
    have s3 := R0.out.gr (i := 3) rfl
    have t0 := R1.out.gr (i := 0) rfl
    have t1 := R1.out.gr (i := 1) rfl
    have t2 := R1.out.gr (i := 2) rfl
    have t3 := R1.out.gr (i := 3) rfl
    refine wp_region_up (by kernel_rfl) (by kernel_rfl) ?_
    repeat (first | go_big_quiet_step ((first | (go_at_call_of 101 (Value.agg #[.int .i64 ax, .int .i64 ay, .int .i64 bx, .int .i64 bY]); exact Calls.up_of (forward_any ((ax, ay), (bx, bY)) _)) | (go_at_call 101; exact Calls.up_of (forward_any ((cx, cy), (dx, dy)) _)) | (go_at_call 148; exact Calls.up_of (online_any (Vd.fwd (ax, ay) (bx, bY)) (Vd.fwd (cx, cy) (dx, dy)) _)))))
    refine wpQuiet_nil ?_
    rintro _ ⟨⟨w5, u⟩, rfl⟩
    go_wp2
    go_ret
    exact ⟨ret_i HR.out.symm, HU.out.trans u⟩
  · have HZ := hide hz
    have hcs : (a == 0) = false ∨ (a = 0 ∧ (b == 0) = false) ∨ (a = 0 ∧ b = 0 ∧ (c == 0) = false) ∨ (a = 0 ∧ b = 0 ∧ c = 0 ∧ (d == 0) = false) := by
      simp only [beq_eq_false_iff_ne]; omega
    by_cases p1 : 0 < a * b
    · have HR : Hid (Vd.meetS ((ax, ay), bx, bY) ((cx, cy), dx, dy) = 0) := by rw [HE.out]; unfold meetK; rw [if_neg HZ.out, if_pos (.inl p1)]; exact rfl
      clear hz B1 B2 B3 B4 m1 m2 m3
      rcases hcs with h | ⟨rfl, h⟩ | ⟨rfl, rfl, h⟩ | ⟨rfl, rfl, rfl, h⟩
      all_goals
        first
        | (exfalso; simp at p1; done)
        | (go_wp2; go_ret; exact ⟨ret_i HR.out.symm, HU.out⟩)
    · by_cases p2 : 0 < c * d
      · have HR : Hid (Vd.meetS ((ax, ay), bx, bY) ((cx, cy), dx, dy) = 0) := by rw [HE.out]; unfold meetK; rw [if_neg HZ.out, if_pos (.inr p2)]; exact rfl
        clear hz B1 B2 B3 B4 m1 m2 m3
        rcases hcs with h | ⟨rfl, h⟩ | ⟨rfl, rfl, h⟩ | ⟨rfl, rfl, rfl, h⟩
        all_goals
          first
          | (exfalso; simp at p2; done)
          | (go_wp2; go_ret; exact ⟨ret_i HR.out.symm, HU.out⟩)
      · by_cases p3 : a * b * c * d = 0
        · have HR : Hid (Vd.meetS ((ax, ay), bx, bY) ((cx, cy), dx, dy) = 1) := by rw [HE.out]; unfold meetK; rw [if_neg HZ.out, if_neg (by omega), if_pos p3]; exact rfl
          clear hz B1 B2 B3 B4 m1 m2 m3
          rcases hcs with h | ⟨rfl, h⟩ | ⟨rfl, rfl, h⟩ | ⟨rfl, rfl, rfl, h⟩
          all_goals
            go_wp2
            go_ret
            exact ⟨ret_i HR.out.symm, HU.out⟩
        · have HR : Hid (Vd.meetS ((ax, ay), bx, bY) ((cx, cy), dx, dy) = 2) := by rw [HE.out]; unfold meetK; rw [if_neg HZ.out, if_neg (by omega), if_neg p3]; exact rfl
          have p3' := beq_eq_false_iff_ne.2 p3
          clear hz B1 B2 B3 B4 m1 m2 m3
          rcases hcs with h | ⟨rfl, h⟩ | ⟨rfl, rfl, h⟩ | ⟨rfl, rfl, rfl, h⟩
          all_goals
            first
            | (exfalso; simp at p3; done)
            | (go_wp2; go_ret; exact ⟨ret_i HR.out.symm, HU.out⟩)
end Go.Proofs.YtcclepohmhdpbabGreatDoor

/- WHAT MAY HAVE TURNED, BY BLOCKS; readings with their blocks named. -/
namespace Go.Proofs.YtcclepohmhdpbabGreatDoor
set_option linter.all false
open Go.RowKit Go.Deep

/-- Nothing has turned but in blocks of S (and new ones). -/
structure Fr (S : Nat → Prop) (w w' : World) : Prop where
  os : w'.os = w.os
  tape : w'.tape = w.tape
  output : w'.output = w.output
  size : w.heap.size ≤ w'.heap.size
  block : ∀ b, b < w.heap.size → ¬ S b → w'.heap[b]? = w.heap[b]?

theorem Fr.refl (S : Nat → Prop) (w : World) : Fr S w w := ⟨rfl, rfl, rfl, Nat.le_refl _, fun _ _ _ => rfl⟩
theorem Fr.trans {S : Nat → Prop} {a b c : World} (h : Fr S a b) (k : Fr S b c) : Fr S a c :=
  ⟨k.os.trans h.os, k.tape.trans h.tape, k.output.trans h.output, Nat.le_trans h.size k.size, fun i hi hs => (k.block i (Nat.lt_of_lt_of_le hi h.size) hs).trans (h.block i hi hs)⟩
theorem Fr.mono {S T : Nat → Prop} {a b : World} (h : Fr S a b) (k : ∀ x, x < a.heap.size → S x → T x) : Fr T a b :=
  ⟨h.os, h.tape, h.output, h.size, fun i hi hs => h.block i hi (fun e => hs (k i hi e))⟩
theorem Fr.of_up {S : Nat → Prop} {a b : World} (h : Up a b) : Fr S a b := ⟨h.os, h.tape, h.output, h.size, fun i hi _ => h.block i hi⟩
theorem Fr.up {S : Nat → Prop} {a b : World} (h : Fr S a b) (k : ∀ x, x < a.heap.size → ¬ S x) : Up a b := ⟨h.os, h.tape, h.output, h.size, fun i hi => h.block i hi (k i hi)⟩
theorem Fr.alloc {S : Nat → Prop} {a b : World} (h : Fr S a b) (o : Obj) : Fr S a (b.alloc o) := h.trans (Fr.of_up ((Up.refl _).alloc o))
theorem Fr.drewN {S : Nat → Prop} {a b : World} (h : Fr S a b) (n : Nat) : Fr S a (b.drewN n) := h.trans (Fr.of_up ((Up.refl _).drewN n))
theorem Fr.drew {S : Nat → Prop} {a b : World} (h : Fr S a b) : Fr S a b.drew := h.trans (Fr.of_up (Up.refl _).drew)
theorem Fr.setCell {S : Nat → Prop} {a b : World} (h : Fr S a b) {p : Addr} (hp : S p.block) (u : Value) : Fr S a (b.setCell p u) :=
  h.trans ⟨rfl, rfl, rfl, by simp [World.setCell], fun k _ hs => Below.heap_setCell _ _ _ _ (fun e => hs (e ▸ hp))⟩
theorem Fr.setNew {S : Nat → Prop} {a b : World} (h : Fr S a b) {p : Addr} (hp : a.heap.size ≤ p.block) (u : Value) : Fr S a (b.setCell p u) :=
  ⟨h.os, h.tape, h.output, by simpa [World.setCell] using h.size, fun k hk hs => (Below.heap_setCell _ _ _ _ (by omega)).trans (h.block k hk hs)⟩
theorem Fr.grown {S : Nat → Prop} {a b c : World} (h : Fr S a b) {row : Option Nat} (hg : b.grownBy c row) (hr : ∀ k, row = some k → S k ∨ a.heap.size ≤ k) : Fr S a c :=
  ⟨hg.os.trans h.os, hg.tape.trans h.tape, hg.output.trans h.output, Nat.le_trans h.size hg.size, fun i hi hs => (hg.block i (Nat.lt_of_lt_of_le hi h.size) (fun e => by
    rcases hr i e.symm with h1 | h1
    · exact hs h1
    · omega)).trans (h.block i hi hs)⟩
theorem Fr.row {S : Nat → Prop} {a c : World} (h : Fr S a c) {b : Nat} {t : TypeId} {vs : List Value} (hv : VRow a b t vs) (hs : ¬ S b) : VRow c b t vs := hv.of_block (h.block b hv.lt hs)
theorem Fr.cell {S : Nat → Prop} {a c : World} (h : Fr S a c) {p : Addr} {v : Value} (hv : a.cell? p = some v) (hs : ¬ S p.block) : c.cell? p = some v :=
  (World.cell?_of_block (h.block _ (lt_of_cell hv) hs)).trans hv
theorem Fr.ok1 {S : Nat → Prop} {a c : World} (h : Fr S a c) {d : D1} (hv : OK1 a d) (hs : ¬ S d.b) : OK1 c d := h.row hv hs
theorem Fr.ok2 {S : Nat → Prop} {a c : World} (h : Fr S a c) {d : D2} (hv : OK2 a d) (hs : ∀ b ∈ d.bl, ¬ S b) : OK2 c d := hv.of fun b hb => h.block b (hv.lt b hb) (hs b hb)
theorem Fr.ok3 {S : Nat → Prop} {a c : World} (h : Fr S a c) {d : D3} (hv : OK3 a d) (hs : ∀ b ∈ d.bl, ¬ S b) : OK3 c d := hv.of fun b hb => h.block b (hv.lt b hb) (hs b hb)

/-! ### Readings with their blocks -/
def RF1 (F : Nat → Prop) (w : World) (v : Value) (r : Ring) : Prop :=
  ∃ ao cap, v = .slice ao r.length cap ∧ ∀ i p, r[i]? = some p → ∃ b, F b ∧ ao = some ⟨b, 0, none⟩ ∧ w.cell? ⟨b, i * 2, none⟩ = some (.int .i64 p.1) ∧ w.cell? ⟨b, i * 2 + 1, none⟩ = some (.int .i64 p.2)
def RF2 (F : Nat → Prop) (w : World) (v : Value) (l : Poly) : Prop :=
  ∃ ao cap, v = .slice ao l.length cap ∧ ∀ i r, l[i]? = some r → ∃ b u, F b ∧ ao = some ⟨b, 0, none⟩ ∧ w.cell? ⟨b, i, none⟩ = some u ∧ RF1 F w u r
def RF3 (F : Nat → Prop) (w : World) (v : Value) (m : Mult) : Prop :=
  ∃ ao cap, v = .slice ao m.length cap ∧ ∀ i l, m[i]? = some l → ∃ b u, F b ∧ ao = some ⟨b, 0, none⟩ ∧ w.cell? ⟨b, i, none⟩ = some u ∧ RF2 F w u l

theorem RF1.rd {F : Nat → Prop} {w : World} {v : Value} {r : Ring} (h : RF1 F w v r) : Rd1 w v r := by
  obtain ⟨ao, cap, e, h⟩ := h
  exact ⟨ao, cap, e, fun i p hp => by obtain ⟨b, _, e1, e2, e3⟩ := h i p hp; exact ⟨b, e1, e2, e3⟩⟩
theorem RF2.rd {F : Nat → Prop} {w : World} {v : Value} {l : Poly} (h : RF2 F w v l) : Rd2 w v l := by
  obtain ⟨ao, cap, e, h⟩ := h
  exact ⟨ao, cap, e, fun i p hp => by obtain ⟨b, u, _, e1, e2, e3⟩ := h i p hp; exact ⟨b, u, e1, e2, e3.rd⟩⟩
theorem RF3.rd {F : Nat → Prop} {w : World} {v : Value} {m : Mult} (h : RF3 F w v m) : Rd3 w v m := by
  obtain ⟨ao, cap, e, h⟩ := h
  exact ⟨ao, cap, e, fun i p hp => by obtain ⟨b, u, _, e1, e2, e3⟩ := h i p hp; exact ⟨b, u, e1, e2, e3.rd⟩⟩

theorem RF1.keep {F F' : Nat → Prop} {S : Nat → Prop} {w w' : World} {v : Value} {r : Ring} (h : RF1 F w v r) (k : Fr S w w') (hF : ∀ b, b < w.heap.size → F b → F' b ∧ ¬ S b) : RF1 F' w' v r := by
  obtain ⟨ao, cap, e, h⟩ := h
  refine ⟨ao, cap, e, fun i p hp => ?_⟩
  obtain ⟨b, f, e1, e2, e3⟩ := h i p hp
  obtain ⟨g1, g2⟩ := hF b (lt_of_cell e2) f
  exact ⟨b, g1, e1, k.cell e2 g2, k.cell e3 g2⟩
theorem RF2.keep {F F' : Nat → Prop} {S : Nat → Prop} {w w' : World} {v : Value} {l : Poly} (h : RF2 F w v l) (k : Fr S w w') (hF : ∀ b, b < w.heap.size → F b → F' b ∧ ¬ S b) : RF2 F' w' v l := by
  obtain ⟨ao, cap, e, h⟩ := h
  refine ⟨ao, cap, e, fun i p hp => ?_⟩
  obtain ⟨b, u, f, e1, e2, e3⟩ := h i p hp
  obtain ⟨g1, g2⟩ := hF b (lt_of_cell e2) f
  exact ⟨b, u, g1, e1, k.cell e2 g2, e3.keep k hF⟩
theorem RF3.keep {F F' : Nat → Prop} {S : Nat → Prop} {w w' : World} {v : Value} {m : Mult} (h : RF3 F w v m) (k : Fr S w w') (hF : ∀ b, b < w.heap.size → F b → F' b ∧ ¬ S b) : RF3 F' w' v m := by
  obtain ⟨ao, cap, e, h⟩ := h
  refine ⟨ao, cap, e, fun i p hp => ?_⟩
  obtain ⟨b, u, f, e1, e2, e3⟩ := h i p hp
  obtain ⟨g1, g2⟩ := hF b (lt_of_cell e2) f
  exact ⟨b, u, g1, e1, k.cell e2 g2, e3.keep k hF⟩

end Go.Proofs.YtcclepohmhdpbabGreatDoor

/- append OF ONE ELEMENT, which lies in a block of its own, to a list that the call owns. -/
namespace Go.Proofs.YtcclepohmhdpbabGreatDoor
set_option linter.all false
open Go.RowKit Go.Deep

/-- What is known of an element's type. -/
structure Elem (P : Program) (t e : TypeId) (z : Value) (size bytes : Nat) : Prop where
  und : P.underlying t = some (.slice e)
  info : (P.info? e).map (fun i => (i.zero, i.size, i.bytes)) = some (some z, size, bytes)
  zs : z.cells.size = size
  pos : 0 < size
  small : bytes ≤ 4096

theorem step_app {P : Program} {t e : TypeId} {z : Value} {size bytes : Nat} (E0 : Elem P t e z size bytes) {ops : Array Oper} {o : Oper} {a : Act} {w : World} {K : Act → World → Prop} {Q : Exit → Act → World → Prop} {E : Prop} (hgd : o.guard = none) (s x : Operand)
    (ho : o.op = .call { callee := .builtin .append, args := #[s, x], argTypes := #[t, t] }) (base : Nat) (v : Value) (n : Nat) (xs : List Value) (hs : a.eval s = v) (hown : w.ownsRow base e size v n xs)
    (g0 : Nat) (news : List Value) (hx : a.eval x = .slice (some ⟨g0, 0, none⟩) 1 1) (hl : news.length = size) (hg0 : w.heap[g0]? = some (.cells news.toArray e (0, 0))) (h1 : ∀ u ∈ news, u.oneCell' = true)
    (hn : n ≤ 1073741824) (hbase : base ≤ w.heap.size)
    (h : ∀ g cap w', w'.ownsRow base e size (.slice (some ⟨g, 0, none⟩) (n + 1) cap) (n + 1) (xs ++ news) → w.grownBy w' v.ownBlock → (v.ownBlock = some g ∨ g = w.heap.size) → g < w'.heap.size → K (a.put o.dst (.slice (some ⟨g, 0, none⟩) (n + 1) cap)) w') :
    if Region.wanted o (yielded ops a.tmps) = true then Oper.wp P o a w K Q else E := by
  obtain ⟨i, hi, hzz⟩ := Option.map_eq_some_iff.1 E0.info
  simp only [Prod.mk.injEq] at hzz
  obtain ⟨z1, z2, z3⟩ := hzz
  refine step_append_lies w hgd s x t ho base e i z size bytes E0.und hi z1 z2 z3 E0.zs E0.pos v n xs hs hown ⟨g0, 0, none⟩ 1 1 news hx (by omega) ?_ h1 (by omega) (by unfold maxLen; omega) ?_ hbase w.heap.size rfl h
  · have := World.news_of_block hg0
    simpa using this
  · have := E0.small
    have h2 : (n + 1) * bytes ≤ (n + 1) * 4096 := Nat.mul_le_mul_left _ this
    omega

theorem wpList_app {P : Program} {t e : TypeId} {z : Value} {size bytes : Nat} (E0 : Elem P t e z size bytes) {ops : Array Oper} {rest : List Oper} {o : Oper} {a : Act} {w : World} {Q : Exit → Act → World → Prop} (hgd : o.guard = none) (s x : Operand)
    (ho : o.op = .call { callee := .builtin .append, args := #[s, x], argTypes := #[t, t] }) (base : Nat) (v : Value) (n : Nat) (xs : List Value) (hs : a.eval s = v) (hown : w.ownsRow base e size v n xs)
    (g0 : Nat) (news : List Value) (hx : a.eval x = .slice (some ⟨g0, 0, none⟩) 1 1) (hl : news.length = size) (hg0 : w.heap[g0]? = some (.cells news.toArray e (0, 0))) (h1 : ∀ u ∈ news, u.oneCell' = true)
    (hn : n ≤ 1073741824) (hbase : base ≤ w.heap.size)
    (h : ∀ g cap w', w'.ownsRow base e size (.slice (some ⟨g, 0, none⟩) (n + 1) cap) (n + 1) (xs ++ news) → w.grownBy w' v.ownBlock → (v.ownBlock = some g ∨ g = w.heap.size) → g < w'.heap.size → wpList P ops Q rest (a.put o.dst (.slice (some ⟨g, 0, none⟩) (n + 1) cap)) w') :
    wpList P ops Q (o :: rest) a w := by
  obtain ⟨i, hi, hzz⟩ := Option.map_eq_some_iff.1 E0.info
  simp only [Prod.mk.injEq] at hzz
  obtain ⟨z1, z2, z3⟩ := hzz
  refine wpList_append_lies w hgd s x t ho base e i z size bytes E0.und hi z1 z2 z3 E0.zs E0.pos v n xs hs hown ⟨g0, 0, none⟩ 1 1 news hx (by omega) ?_ h1 (by omega) (by unfold maxLen; omega) ?_ hbase w.heap.size rfl h
  · have := World.news_of_block hg0
    simpa using this
  · have := E0.small
    have h2 : (n + 1) * bytes ≤ (n + 1) * 4096 := Nat.mul_le_mul_left _ this
    omega

/-- The block of an owned list is of its element's type. -/
theorem own_type {w : World} {base : Nat} {e : TypeId} {size : Nat} {v : Value} {n : Nat} {xs : List Value} (h : w.ownsRow base e size v n xs) {g : Nat} (hg : v.ownBlock = some g) : ∃ cur, w.heap[g]? = some (.cells cur e (0, 0)) := by
  rcases h.2 with ⟨rfl, _⟩ | ⟨g', cap, cur, rfl, _, hh, _⟩
  · cases hg
  · cases hg; exact ⟨cur, hh⟩

/-- Two owned lists of unlike elements lie apart. -/
theorem own_apart {w : World} {base base' : Nat} {e e' : TypeId} {size size' : Nat} {v v' : Value} {n n' : Nat} {xs xs' : List Value} (h : w.ownsRow base e size v n xs) (h' : w.ownsRow base' e' size' v' n' xs') (he : e ≠ e') : v.ownBlock = none ∨ v.ownBlock ≠ v'.ownBlock := by
  cases hv : v.ownBlock with
  | none => exact .inl rfl
  | some g =>
    refine .inr fun e2 => ?_
    obtain ⟨c, hc⟩ := own_type h hv
    obtain ⟨c', hc'⟩ := own_type h' e2.symm
    rw [hc] at hc'
    simp at hc'
    exact he hc'.2

theorem own_row_ne {w : World} {base : Nat} {e : TypeId} {size : Nat} {v : Value} {n : Nat} {xs : List Value} (h : w.ownsRow base e size v n xs) {b : Nat} {t : TypeId} {vs : List Value} (hb : VRow w b t vs) (he : e ≠ t) : v.ownBlock ≠ some b := by
  intro e2
  obtain ⟨c, hc⟩ := own_type h e2
  unfold VRow at hb
  rw [hb] at hc
  simp at hc
  exact he hc.2.symm

theorem own_of_block {w w' : World} {base : Nat} {e : TypeId} {size : Nat} {v : Value} {n : Nat} {xs : List Value} (h : w.ownsRow base e size v n xs) (k : ∀ g, v.ownBlock = some g → w'.heap[g]? = w.heap[g]?) : w'.ownsRow base e size v n xs := by
  refine ⟨h.1, ?_⟩
  rcases h.2 with h2 | ⟨g, cap, cur, rfl, hb, hh, r⟩
  · exact .inl h2
  · exact .inr ⟨g, cap, cur, rfl, hb, (k g rfl).trans hh, r⟩
theorem own_lt {w : World} {base : Nat} {e : TypeId} {size : Nat} {v : Value} {n : Nat} {xs : List Value} (h : w.ownsRow base e size v n xs) {g : Nat} (hg : v.ownBlock = some g) : base ≤ g ∧ g < w.heap.size := h.lt g hg
theorem own_set {w : World} {base : Nat} {e : TypeId} {size : Nat} {v : Value} {n : Nat} {xs : List Value} (h : w.ownsRow base e size v n xs) {a : Addr} (ha : v.ownBlock ≠ some a.block) (u : Value) : (w.setCell a u).ownsRow base e size v n xs :=
  own_of_block h fun g hg => Below.heap_setCell _ _ _ _ (fun e => ha (e ▸ hg))
theorem own_up {w w' : World} {base : Nat} {e : TypeId} {size : Nat} {v : Value} {n : Nat} {xs : List Value} (h : w.ownsRow base e size v n xs) (k : Up w w') : w'.ownsRow base e size v n xs :=
  own_of_block h fun g hg => k.block g (own_lt h hg).2
theorem own_fr {S : Nat → Prop} {w w' : World} {base : Nat} {e : TypeId} {size : Nat} {v : Value} {n : Nat} {xs : List Value} (h : w.ownsRow base e size v n xs) (k : Fr S w w') (hs : ∀ g, v.ownBlock = some g → ¬ S g) : w'.ownsRow base e size v n xs :=
  own_of_block h fun g hg => k.block g (own_lt h hg).2 (hs g hg)
theorem own_base {w : World} {base base' : Nat} {e : TypeId} {size : Nat} {v : Value} {n : Nat} {xs : List Value} (h : w.ownsRow base e size v n xs) (hb : base' ≤ base) : w.ownsRow base' e size v n xs := by
  refine ⟨h.1, ?_⟩
  rcases h.2 with h2 | ⟨g, cap, cur, rfl, hb2, r⟩
  · exact .inl h2
  · exact .inr ⟨g, cap, cur, rfl, by omega, r⟩

theorem VRow.grown {w w' : World} {row : Option Nat} {b : Nat} {t : TypeId} {vs : List Value} (h : VRow w b t vs) (hg : w.grownBy w' row) (hne : row ≠ some b) : VRow w' b t vs :=
  h.of_block (hg.block b h.lt (fun e => hne e.symm))

end Go.Proofs.YtcclepohmhdpbabGreatDoor

/- THE WALKS: package lists, read alone. -/
namespace Go.Proofs.YtcclepohmhdpbabGreatDoor
set_option linter.all false
open Go.RowKit Go.Deep

set_option maxHeartbeats 400000 in
theorem isFar_any (x : Int) (w : World) :
    Calls Tryz.prog 74 #[.int .i64 x] w fun e w' => e = .returned (.bool (Pl.farC x)) ∧ w' = w := by
  have : Pl.farC x = (decide (32768 < x) || decide (x < -32768)) := rfl
  by_cases h1 : 32768 < x
  · go_enter Tryz.func74, Tryz.ntmps74
    go_wp2
    go_ret
    exact ⟨by simp [Pl.farC, h1], rfl⟩
  · by_cases h2 : x < -32768
    all_goals
      go_enter Tryz.func74, Tryz.ntmps74
      go_wp2
      go_ret
      exact ⟨by simp [Pl.farC, h1, h2], rfl⟩

theorem ret_bool {a b : Bool} (h : a = b) : Ending.returned (.bool a) = .returned (.bool b) := by rw [h]

set_option maxHeartbeats 1000000 in
theorem tooMany_any (v : Value) (m : Mult) (w : World) (hv : Rd3 w v m) (hb : Pl.Bd m) :
    Calls Tryz.prog 53 #[v] w fun e w' => e = .returned (.bool (Pl.many m)) ∧ w' = w := by
  obtain ⟨ao, cap, rfl, hm⟩ := hv
  have hlen := hb.len
  by_cases h8 : 8 < m.length
  · go_enter Tryz.func53, Tryz.ntmps53
    go_wp2
    go_ret
    exact ⟨ret_bool (by simp [Pl.many, h8]), rfl⟩
  · go_enter Tryz.func53, Tryz.ntmps53
    go_wp2
    go_loop [3, 4, 14] (fun rc pc i => ∃ k : Nat, k ≤ m.length ∧ i = .int .i64 k ∧ rc = .int .i64 (Pl.nR (m.take k) : Nat) ∧ pc = .int .i64 (Pl.nP (m.take k) : Nat) ∧ Pl.nR (m.take k) ≤ 12 ∧ Pl.nP (m.take k) ≤ 100) (fun _ _ i => m.length - (intOf i).toNat)
    case atStart => exact ⟨0, Nat.zero_le _, rfl, rfl, rfl, by simp [Pl.nR], by simp [Pl.nP]⟩
    case round =>
      obtain ⟨k, hk, rfl, rfl, rfl, h12, h100⟩ := hrel
      by_cases hlt : k < m.length
      · obtain ⟨l, hl⟩ := Pl.some_of_lt hlt
        obtain ⟨b, u, rfl, hc, ao2, cap2, rfl, hr⟩ := hm k l hl
        have hll := hb.poly l (Pl.mem_of_some hl)
        have hrr := hb.ring l (Pl.mem_of_some hl)
        have eR : Hid (Pl.nR (m.take (k + 1)) = Pl.nR (m.take k) + l.length) := Pl.nR_take hl
        have eP : Hid (Pl.nP (m.take (k + 1)) = Pl.nP (m.take k) + Pl.nPl l) := Pl.nP_take hl
        have gR := Pl.nR_le m (k + 1)
        have gP := Pl.nP_le m (k + 1)
        have HL : Hid (m[k]? = some l) := hl
        have hm' := hide hm
        clear hl hm
        generalize hrc : Pl.nR (m.take k) = rc at *
        generalize hpc : Pl.nP (m.take k) = pc at *
        have Hrc : Hid (Pl.nR (m.take k) = rc) := hrc
        have Hpc : Hid (Pl.nP (m.take k) = pc) := hpc
        clear hrc hpc
        by_cases g12 : 12 < rc + l.length
        · go_wp2
          go_ret
          exact ⟨ret_bool (by have := eR.out; simp [Pl.many]; omega), rfl⟩
        · go_wp2
          go_loop [4, 26] (fun p j => ∃ q : Nat, q ≤ l.length ∧ j = .int .i64 q ∧ p = .int .i64 (pc + Pl.nPl (l.take q) : Nat) ∧ pc + Pl.nPl (l.take q) ≤ 100) (fun _ j => l.length - (intOf j).toNat)
          case atStart => exact ⟨0, Nat.zero_le _, rfl, by simp [Pl.nPl], by simpa [Pl.nPl] using h100⟩
          case round =>
            obtain ⟨q, hq, rfl, rfl, hq100⟩ := hrel
            by_cases hlq : q < l.length
            · obtain ⟨r, hr1⟩ := Pl.some_of_lt hlq
              obtain ⟨b2, u2, rfl, hc2, ao3, cap3, rfl, hp⟩ := hr q r hr1
              have hrl := hrr r (Pl.mem_of_some hr1)
              have eQ : Hid (Pl.nPl (l.take (q + 1)) = Pl.nPl (l.take q) + r.length) := Pl.nPl_take hr1
              have gQ := Pl.nPl_le l (q + 1)
              have hr' := hide hr
              have hrr' := hide hrr
              clear hr hr1 hp hrr
              generalize hx : Pl.nPl (l.take q) = x at *
              have Hx : Hid (Pl.nPl (l.take q) = x) := hx
              clear hx
              by_cases g100 : 100 < pc + x + r.length
              · go_wp2
                go_ret
                exact ⟨ret_bool (by have := eQ.out; have := eP.out; simp [Pl.many]; omega), rfl⟩
              · go_wp2
                go_round
                case rel => exact ⟨q + 1, by omega, by go_num, by rw [eQ.out]; go_num, by rw [eQ.out]; omega⟩
                case measure => simp [intOf]; omega
            · have : q = l.length := by omega
              subst this
              go_wp2
              go_round
              case rel => exact ⟨k + 1, by omega, by go_num, by rw [eR.out]; go_num, by rw [eP.out]; simp, by rw [eR.out]; omega, by rw [eP.out]; simpa using hq100⟩
              case measure => simp [intOf]; omega
      · have : k = m.length := by omega
        subst this
        go_wp2
        go_ret
        exact ⟨ret_bool (by simp [Pl.many] at *; omega), rfl⟩

set_option maxHeartbeats 1000000 in
theorem misformed_any (v : Value) (l : Poly) (w : World) (hv : Rd2 w v l) (hb : l.length ≤ 1048576) (hb2 : ∀ r ∈ l, r.length ≤ 1048576) :
    Calls Tryz.prog 54 #[v] w fun e w' => e = .returned (.bool (Pl.badL l)) ∧ ∃ n, w' = w.drewN n := by
  obtain ⟨ao, cap, rfl, hm⟩ := hv
  by_cases h0 : l.length = 0
  · go_enter Tryz.func54, Tryz.ntmps54
    go_wp2
    go_ret
    exact ⟨ret_bool (by simp [Pl.badL, List.length_eq_zero_iff.1 h0]), 0, rfl⟩
  · have h0' : ((l.length : Int) == 0) = false := beq_eq_false_iff_ne.2 (by omega)
    go_enter Tryz.func54, Tryz.ntmps54
    go_wp2
    go_loopw [10] (fun i wr => ∃ k : Nat, k ≤ l.length ∧ i = .int .i64 k ∧ (l.take k).any Pl.badR = false ∧ ∃ n, wr = w.drewN n) (fun i _ => l.length - (intOf i).toNat)
    case atStart => exact ⟨0, Nat.zero_le _, rfl, rfl, 0, rfl⟩
    case round =>
      obtain ⟨k, hk, rfl, hbad, n, rfl⟩ := hrel
      by_cases hlt : k < l.length
      · obtain ⟨r, hr⟩ := Pl.some_of_lt hlt
        obtain ⟨b, u, rfl, hc, ao2, cap2, rfl, hp⟩ := hm k r hr
        have hrl := hb2 r (Pl.mem_of_some hr)
        have e1 := hide (Pl.any_take_succ Pl.badR hr)
        have HR := hide hr
        have hm' := hide hm
        have hbad' := hide hbad
        have hb2' := hide hb2
        clear hr hm hbad hb2
        by_cases h4 : r.length < 4
        · have hd : decide ((r.length : Int) < 4) = true := by simp; omega
          have hb4 : Hid (Pl.badR r = true) := by simp [Hid, Pl.badR, h4]
          go_wp2
          go_quiet (fail)
          go_wp2
          go_ret
          exact ⟨ret_bool (by simp [Pl.badL, Pl.badRs, Pl.any_true_of Pl.badR HR.out hb4.out]), _, World.drewN_drewN _ _ _⟩
        · have hd : decide ((r.length : Int) < 4) = false := by simp; omega
          obtain ⟨p0, hp0⟩ := Pl.some_of_lt (l := r) (k := 0) (by omega)
          obtain ⟨p1, hp1⟩ := Pl.some_of_lt (l := r) (k := r.length - 1) (by omega)
          have HB := hide (Pl.badR_long h4 hp0 hp1)
          obtain ⟨b2, rfl, c00, c01⟩ := hp 0 p0 hp0
          obtain ⟨b2', e2, c10, c11⟩ := hp (r.length - 1) p1 hp1
          cases e2
          clear hp hp0 hp1
          obtain ⟨x0, y0⟩ := p0
          obtain ⟨x1, y1⟩ := p1
          dsimp only at c00 c01 c10 c11
          have q0 : 0 < r.length := by omega
          have q1 : (1 : Int) ≤ (r.length : Int) := by omega
          rcases (show (x0 = x1 ∧ y0 = y1) ∨ (x0 ≠ x1) ∨ (x0 = x1 ∧ y0 ≠ y1) from by omega) with ⟨rfl, rfl⟩ | hx | ⟨rfl, hy⟩
          · go_wp2
            refine wp_region_quiet_lit (by kernel_rfl) (by kernel_rfl) ?_
            repeat (first | go_big_quiet_step (fail) | quiet_step (fail))
            refine wpQuiet_nil ?_
            intro _ hw'
            obtain ⟨nq, hw''⟩ := hw'
            subst hw''
            go_wp2
            go_roundw
            case rel => exact ⟨k + 1, by omega, by go_num, by rw [e1.out, hbad'.out, HB.out]; simp, n + nq, by simp⟩
            case measure => simp [intOf]; omega
          all_goals
            go_wp2
            refine wp_region_quiet_lit (by kernel_rfl) (by kernel_rfl) ?_
            repeat (first | go_big_quiet_step (fail) | quiet_step (fail))
            refine wpQuiet_nil ?_
            intro _ hw'
            obtain ⟨nq, hw''⟩ := hw'
            subst hw''
            go_wp2
            go_ret
            exact ⟨ret_bool (by simp [Pl.badL, Pl.badRs, Pl.any_true_of Pl.badR HR.out (by rw [HB.out]; simp [*])]), _, World.drewN_drewN _ _ _⟩
      · have : k = l.length := by omega
        subst this
        go_wp2
        go_ret
        have hne : l ≠ [] := fun e => h0 (by simp [e])
        rw [List.take_length] at hbad
        exact ⟨ret_bool (by simp [Pl.badL, Pl.badRs, hbad, hne]), _, rfl⟩

end Go.Proofs.YtcclepohmhdpbabGreatDoor

/- THE WALKS: lists.outOfRange, Fault. -/
namespace Go.Proofs.YtcclepohmhdpbabGreatDoor
set_option linter.all false
open Go.RowKit Go.Deep

theorem far_or (x y : Int) : Pl.wideP (x, y) = (Pl.farC x || Pl.farC y) := rfl

set_option maxHeartbeats 1000000 in
theorem outOfRange_any (v : Value) (l : Poly) (w : World) (hv : Rd2 w v l) (hb : l.length ≤ 1048576) (hb2 : ∀ r ∈ l, r.length ≤ 1048576) :
    Calls Tryz.prog 55 #[v] w fun e w' => e = .returned (.bool (Pl.wideL l)) ∧ Up w w' := by
  obtain ⟨ao, cap, rfl, hm⟩ := hv
  go_enter Tryz.func55, Tryz.ntmps55
  go_wp2
  go_loopw [9] (fun i wr => ∃ k : Nat, k ≤ l.length ∧ i = .int .i64 k ∧ (l.take k).any Pl.wideR = false ∧ Up w wr) (fun i _ => l.length - (intOf i).toNat)
  case atStart => exact ⟨0, Nat.zero_le _, rfl, rfl, Up.refl _⟩
  case round =>
    obtain ⟨k, hk, rfl, hbad, hup⟩ := hrel
    by_cases hlt : k < l.length
    · obtain ⟨r, hr⟩ := Pl.some_of_lt hlt
      obtain ⟨b, u, rfl, hc, ao2, cap2, rfl, hp⟩ := hm k r hr
      have hrl := hb2 r (Pl.mem_of_some hr)
      have hc' := hup.cell hc
      have e1 := hide (Pl.any_take_succ Pl.wideR hr)
      have HR := hide hr
      have hm' := hide hm
      have hbad' := hide hbad
      have hb2' := hide hb2
      have hup' := hide hup
      have hp' := hide hp
      clear hr hm hbad hb2 hup hc hp
      go_wp2
      go_loopw [15] (fun j wq => ∃ q : Nat, q ≤ r.length ∧ j = .int .i64 q ∧ (r.take q).any Pl.wideP = false ∧ Up w wq) (fun j _ => r.length - (intOf j).toNat)
      case atStart => exact ⟨0, Nat.zero_le _, rfl, rfl, hup'.out⟩
      case round =>
        obtain ⟨q, hq, rfl, hbq, huq⟩ := hrel
        by_cases hlq : q < r.length
        · obtain ⟨⟨x, y⟩, hxy⟩ := Pl.some_of_lt hlq
          obtain ⟨b2, rfl, cx, cy⟩ := hp'.out q (x, y) hxy
          have cx' := huq.cell cx
          have cy' := huq.cell cy
          dsimp only at cx' cy'
          have e2 := hide (Pl.any_take_succ Pl.wideP hxy)
          have HXY := hide hxy
          have hbq' := hide hbq
          have huq' := hide huq
          clear hxy hbq huq cx cy hp'
          cases hfx : Pl.farC x
          · cases hfy : Pl.farC y
            · have hw2 : Hid (Pl.wideP (x, y) = false) := by simp [Hid, far_or, hfx, hfy]
              go_wp2_with (go_at_call 74; refine (isFar_any _ _).mono ?_; rintro e w' ⟨rfl, rfl⟩)
              go_roundw
              case rel => exact ⟨q + 1, by omega, by go_num, by rw [e2.out, hbq'.out, hw2.out]; rfl, huq'.out.alloc _⟩
              case measure => simp [intOf]; omega
            · have hw2 : Hid (Pl.wideP (x, y) = true) := by simp [Hid, far_or, hfx, hfy]
              go_wp2_with (go_at_call 74; refine (isFar_any _ _).mono ?_; rintro e w' ⟨rfl, rfl⟩)
              go_ret
              exact ⟨ret_bool (Pl.any_true_of Pl.wideR HR.out (Pl.any_true_of Pl.wideP HXY.out hw2.out)).symm, (huq'.out.alloc _)⟩
          · have hw2 : Hid (Pl.wideP (x, y) = true) := by simp [Hid, far_or, hfx]
            go_wp2_with (go_at_call 74; refine (isFar_any _ _).mono ?_; rintro e w' ⟨rfl, rfl⟩)
            go_ret
            exact ⟨ret_bool (Pl.any_true_of Pl.wideR HR.out (Pl.any_true_of Pl.wideP HXY.out hw2.out)).symm, (huq'.out.alloc _)⟩
        · have : q = r.length := by omega
          subst this
          rw [List.take_length] at hbq
          have hbq' := hide hbq
          clear hbq
          go_wp2
          go_roundw
          case rel => exact ⟨k + 1, by omega, by go_num, by rw [e1.out, hbad'.out, show Pl.wideR r = false from hbq'.out]; rfl, huq⟩
          case measure => simp [intOf]; omega
    · have : k = l.length := by omega
      subst this
      go_wp2
      go_ret
      rw [List.take_length] at hbad
      exact ⟨ret_bool hbad.symm, hup⟩

set_option maxHeartbeats 1000000 in
theorem fault_any (v : Value) (m : Mult) (w : World) (hv : Rd3 w v m) (hb : Pl.Bd m) :
    Calls Tryz.prog 40 #[v] w fun e w' => e = .returned (.int .i64 (Pl.wrong m)) ∧ Up w w' := by
  have hv' := hide hv
  have hb' := hide hb
  obtain ⟨ao, cap, rfl, hm⟩ := hv
  have hlen := hb.len
  clear hb
  cases hmany : Pl.many m
  · go_enter Tryz.func40, Tryz.ntmps40
    go_wp2_with (go_at_call 53; refine (tooMany_any _ m _ ?_ ?_).mono ?_; exact hv'.out; exact hb'.out; rintro e w' ⟨rfl, rfl⟩)
    go_loopw [11] (fun i wr => ∃ k : Nat, k ≤ m.length ∧ i = .int .i64 k ∧ (m.take k).any Pl.badL = false ∧ Up w' wr) (fun i _ => m.length - (intOf i).toNat)
    case atStart => exact ⟨0, Nat.zero_le _, rfl, rfl, Up.refl _⟩
    case round =>
      obtain ⟨k, hk, rfl, hbad, hup⟩ := hrel
      by_cases hlt : k < m.length
      · obtain ⟨l, hl⟩ := Pl.some_of_lt hlt
        obtain ⟨b, u, rfl, hc, hu⟩ := hm k l hl
        have hc' := hup.cell hc
        have hu' := hide (hu.up hup)
        have e1 := hide (Pl.any_take_succ Pl.badL hl)
        have HR := hide hl
        have hbad' := hide hbad
        have hup' := hide hup
        have hm' := hide hm
        clear hl hbad hup hc hu hm
        have B1 := hide (hb'.out.poly l (Pl.mem_of_some HR.out))
        have B2 := hide (hb'.out.ring l (Pl.mem_of_some HR.out))
        cases hbl : Pl.badL l
        · have hbl' := hide hbl
          go_wp2_with (go_at_call 54; refine (misformed_any _ l _ ?_ ?_ ?_).mono ?_; exact hu'.out; exact B1.out; exact B2.out; rintro e w' ⟨rfl, nq, rfl⟩; rw [hbl'.out])
          go_roundw
          case rel => exact ⟨k + 1, by omega, by go_num, by rw [e1.out, hbad'.out, hbl'.out]; rfl, hup'.out.drewN _⟩
          case measure => simp [intOf]; omega
        · have hbl' := hide hbl
          go_wp2_with (go_at_call 54; refine (misformed_any _ l _ ?_ ?_ ?_).mono ?_; exact hu'.out; exact B1.out; exact B2.out; rintro e w' ⟨rfl, nq, rfl⟩; rw [hbl'.out])
          go_ret
          exact ⟨by rw [Pl.wrong, hmany, Pl.any_true_of Pl.badL HR.out hbl'.out]; rfl, hup'.out.drewN _⟩
      · have : k = m.length := by omega
        subst this
        rw [List.take_length] at hbad
        have hbad' := hide hbad
        have hup' := hide hup
        clear hbad hup
        go_wp2
        go_loopw [20] (fun i wr => ∃ k : Nat, k ≤ m.length ∧ i = .int .i64 k ∧ (m.take k).any Pl.wideL = false ∧ Up w' wr) (fun i _ => m.length - (intOf i).toNat)
        case atStart => exact ⟨0, Nat.zero_le _, rfl, rfl, hup'.out⟩
        case round =>
          obtain ⟨k, hk, rfl, hbad, hup⟩ := hrel
          by_cases hlt : k < m.length
          · obtain ⟨l, hl⟩ := Pl.some_of_lt hlt
            obtain ⟨b, u, rfl, hc, hu⟩ := hm k l hl
            have hc' := hup.cell hc
            have hu' := hide (hu.up hup)
            have e1 := hide (Pl.any_take_succ Pl.wideL hl)
            have HR := hide hl
            have hbd := hide hbad
            have hup2 := hide hup
            have hm' := hide hm
            clear hl hbad hup hc hu hm
            have B1 := hide (hb'.out.poly l (Pl.mem_of_some HR.out))
            have B2 := hide (hb'.out.ring l (Pl.mem_of_some HR.out))
            cases hbl : Pl.wideL l
            · have hbl' := hide hbl
              go_wp2_with (go_at_call 55; refine (outOfRange_any _ l _ ?_ ?_ ?_).mono ?_; exact hu'.out; exact B1.out; exact B2.out; rintro e w2 ⟨rfl, hw2⟩; rw [hbl'.out]; replace hw2 := hide hw2)
              go_roundw
              case rel => exact ⟨k + 1, by omega, by go_num, by rw [e1.out, hbd.out, hbl'.out]; rfl, hup2.out.trans hw2.out⟩
              case measure => simp [intOf]; omega
            · have hbl' := hide hbl
              go_wp2_with (go_at_call 55; refine (outOfRange_any _ l _ ?_ ?_ ?_).mono ?_; exact hu'.out; exact B1.out; exact B2.out; rintro e w2 ⟨rfl, hw2⟩; rw [hbl'.out]; replace hw2 := hide hw2)
              go_ret
              exact ⟨by rw [Pl.wrong, hmany, hbad'.out, Pl.any_true_of Pl.wideL HR.out hbl'.out]; rfl, hup2.out.trans hw2.out⟩
          · have : k = m.length := by omega
            subst this
            rw [List.take_length] at hbad
            have hbd := hide hbad
            have hup2 := hide hup
            clear hbad hup
            go_wp2
            go_ret
            exact ⟨by rw [Pl.wrong, hmany, hbad'.out, hbd.out]; rfl, hup2.out⟩
  · go_enter Tryz.func40, Tryz.ntmps40
    go_wp2_with (go_at_call 53; refine (tooMany_any _ m _ ?_ ?_).mono ?_; exact hv'.out; exact hb'.out; rintro e w' ⟨rfl, rfl⟩)
    go_ret
    exact ⟨by rw [Pl.wrong, hmany]; rfl, Up.refl _⟩

end Go.Proofs.YtcclepohmhdpbabGreatDoor
