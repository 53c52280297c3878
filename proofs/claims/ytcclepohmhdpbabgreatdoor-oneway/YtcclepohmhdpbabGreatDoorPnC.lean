import Derived.Test.YtcclepohmhdpbabGreatDoorPnB
import Derived.Deep.DeepCutAuto
namespace Go.Proofs.YtcclepohmhdpbabGreatDoor
set_option linter.all false
open Go.RowKit Go.Deep
def onF (f l : Pnt) : Int := if Vd.bef f l then 3 else if f = l then 1 else 0
theorem onLine_F (s t : Vd.Seg) : Vd.onLine s t = onF (if Vd.bef s.1 t.1 then t.1 else s.1) (if Vd.bef t.2 s.2 then t.2 else s.2) := rfl
theorem new_row {w : World} {o : Obj} {vs : List Value} {t : TypeId} (h : o = .cells vs.toArray t (0, 0)) : VRow (w.alloc o) w.heap.size t vs := by subst h; exact VRow.new w vs t
theorem row_set2 {w : World} {b : Nat} {t : TypeId} {x y : Value} (h : VRow w b t [x, y]) (u v : Value) : VRow ((w.setCell ⟨b, 0, none⟩ u).setCell ⟨b, 1, none⟩ v) b t [u, v] := (h.set 0 u).set 1 v
set_option maxHeartbeats 4000000 in
theorem online_any (s t : Vd.Seg) (w : World) : Calls Tryz.prog 148 #[segV s, segV t] w fun e w' => e = .returned (.int .i64 (Vd.onLine s t)) ∧ Up w w' := by
 have HE := hide (onLine_F s t)
 obtain ⟨⟨ax, ay⟩, ⟨bx, bY⟩⟩ := s
 obtain ⟨⟨cx, cy⟩, ⟨dx, dy⟩⟩ := t
 simp only [segV]
 go_enter Tryz.func148, Tryz.ntmps148
 have R0 := hide (((new_row (w := w) (o := .cells #[.int .i64 ax, .int .i64 ay, .int .i64 bx, .int .i64 bY] 98) (vs := [.int .i64 ax, .int .i64 ay, .int .i64 bx, .int .i64 bY]) rfl).alloc (.cells #[.int .i64 cx, .int .i64 cy, .int .i64 dx, .int .i64 dy] 98)).alloc (.cells #[.int .i64 ax, .int .i64 ay] 48))
 have R1 := hide ((new_row (w := w.alloc (.cells #[.int .i64 ax, .int .i64 ay, .int .i64 bx, .int .i64 bY] 98)) (o := .cells #[.int .i64 cx, .int .i64 cy, .int .i64 dx, .int .i64 dy] 98) (vs := [.int .i64 cx, .int .i64 cy, .int .i64 dx, .int .i64 dy]) rfl).alloc (.cells #[.int .i64 ax, .int .i64 ay] 48))
 have R2 := hide (new_row (w := (w.alloc (.cells #[.int .i64 ax, .int .i64 ay, .int .i64 bx, .int .i64 bY] 98)).alloc (.cells #[.int .i64 cx, .int .i64 cy, .int .i64 dx, .int .i64 dy] 98)) (o := .cells #[.int .i64 ax, .int .i64 ay] 48) (vs := [.int .i64 ax, .int .i64 ay]) rfl)
 rw [show (w.alloc (.cells #[.int .i64 ax, .int .i64 ay, .int .i64 bx, .int .i64 bY] 98)).heap.size = w.heap.size + 1 by simp] at R1
 rw [show ((w.alloc (.cells #[.int .i64 ax, .int .i64 ay, .int .i64 bx, .int .i64 bY] 98)).alloc (.cells #[.int .i64 cx, .int .i64 cy, .int .i64 dx, .int .i64 dy] 98)).heap.size = w.heap.size + 2 by simp] at R2
 go_upto_if 12 with (go_at_call 128; refine (before_any (ax, ay) (cx, cy) _).mono ?_; rintro e w1 ⟨rfl, u1⟩; replace u1 := hide u1)
 have S0 := hide (R0.out.of_block (u1.out.block _ R0.out.lt))
 have S1 := hide (R1.out.of_block (u1.out.block _ R1.out.lt))
 have S2 := hide (R2.out.of_block (u1.out.block _ R2.out.lt))
 have HU1 : Hid (Up w w1) := (((((Up.refl _).alloc _).alloc _).alloc _).trans u1.out)
 clear R0 R1 R2 u1
 have a0 := S1.out.cell (i := 0) rfl
 have a1 := S1.out.cell (i := 1) rfl
 have b0 := S2.out.cell (i := 0) rfl
 have b1 := S2.out.cell (i := 1) rfl
 have bf := fun i => S2.out.frozen i
 go_cut [] (fun wc => ∃ fx fy : Int, Hid ((fx, fy) = if Vd.bef (ax, ay) (cx, cy) then (cx, cy) else (ax, ay)) ∧ Hid (Up w wc) ∧ Hid (VRow wc w.heap.size 98 [.int .i64 ax, .int .i64 ay, .int .i64 bx, .int .i64 bY]) ∧ Hid (VRow wc (w.heap.size + 1) 98 [.int .i64 cx, .int .i64 cy, .int .i64 dx, .int .i64 dy]) ∧ Hid (VRow wc (w.heap.size + 2) 48 [.int .i64 fx, .int .i64 fy]))
 case first =>
  by_cases h : Vd.bef (ax, ay) (cx, cy)
  ·have D := hide h
   have d : decide (Vd.bef (ax, ay) (cx, cy)) = true := decide_eq_true h
   clear h
   go_wp2
   go_meet
   case rel => exact ⟨cx, cy, (if_pos D.out).symm, Up.setCell (Up.setCell HU1.out (by show w.heap.size ≤ w.heap.size + 2; omega) _) (by show w.heap.size ≤ w.heap.size + 2; omega) _, (S0.out.setOther (by show w.heap.size ≠ w.heap.size + 2; omega) _).setOther (by show w.heap.size ≠ w.heap.size + 2; omega) _, (S1.out.setOther (by show w.heap.size + 1 ≠ w.heap.size + 2; omega) _).setOther (by show w.heap.size + 1 ≠ w.heap.size + 2; omega) _, row_set2 S2.out _ _⟩
  ·have D := hide h
   have d : decide (Vd.bef (ax, ay) (cx, cy)) = false := decide_eq_false h
   clear h
   go_wp2
   go_meet
   case rel => exact ⟨ax, ay, (if_neg D.out).symm, HU1.out, S0.out, S1.out, S2.out⟩
 case rest =>
  clear a0 a1 b0 b1 bf S0 S1 S2 HU1
  obtain ⟨fx, fy, HF, HU, S0, S1, S2⟩ := hcut
  have c2 := S0.out.cell (i := 2) rfl
  have c3 := S0.out.cell (i := 3) rfl
  have e2a := fun o => (S1.out.alloc o).cell (i := 2) rfl
  have e3a := fun o => (S1.out.alloc o).cell (i := 3) rfl
  have T1 := hide (S1.out.alloc (.cells #[.int .i64 bx, .int .i64 bY] 48))
  have T2 := hide (S2.out.alloc (.cells #[.int .i64 bx, .int .i64 bY] 48))
  have T3 := hide (new_row (w := wc) (o := .cells #[.int .i64 bx, .int .i64 bY] 48) (vs := [.int .i64 bx, .int .i64 bY]) rfl)
  have hne : w.heap.size + 2 ≠ wc.heap.size := by have := S2.out.lt; omega
  have HNE := hide hne
  clear hne
  go_upto_if 20 with (go_at_call 128; refine (before_any (dx, dy) (bx, bY) _).mono ?_; rintro e w1 ⟨rfl, u1⟩; replace u1 := hide u1)
  have g2 := (T1.out.of_block (u1.out.block _ T1.out.lt)).cell (i := 2) rfl
  have g3 := (T1.out.of_block (u1.out.block _ T1.out.lt)).cell (i := 3) rfl
  have V1 := hide (T2.out.of_block (u1.out.block _ T2.out.lt))
  have V2 := hide (T3.out.of_block (u1.out.block _ T3.out.lt))
  have k0 := V2.out.cell (i := 0) rfl
  have k1 := V2.out.cell (i := 1) rfl
  have kf := fun i => V2.out.frozen i
  have HU1 : Hid (Up w w1) := (HU.out.alloc _).trans u1.out
  have HS := hide HU.out.size
  clear T1 T2 T3 u1 e2a e3a c2 c3
  go_cut [] (fun wd => ∃ lx ly : Int, Hid ((lx, ly) = if Vd.bef (dx, dy) (bx, bY) then (dx, dy) else (bx, bY)) ∧ Hid (Up w wd) ∧ Hid (VRow wd (w.heap.size + 2) 48 [.int .i64 fx, .int .i64 fy]) ∧ Hid (VRow wd wc.heap.size 48 [.int .i64 lx, .int .i64 ly]))
  case first =>
   by_cases h : Vd.bef (dx, dy) (bx, bY)
   ·have D := hide h
    have d : decide (Vd.bef (dx, dy) (bx, bY)) = true := decide_eq_true h
    clear h
    go_wp2
    go_meet
    case rel => exact ⟨dx, dy, (if_pos D.out).symm, Up.setCell (Up.setCell HU1.out HS.out _) HS.out _, (V1.out.setOther HNE.out _).setOther HNE.out _, row_set2 V2.out _ _⟩
   ·have D := hide h
    have d : decide (Vd.bef (dx, dy) (bx, bY)) = false := decide_eq_false h
    clear h
    go_wp2
    go_meet
    case rel => exact ⟨bx, bY, (if_neg D.out).symm, HU1.out, V1.out, V2.out⟩
  case rest =>
   clear g2 g3 V1 V2 k0 k1 kf HU1
   obtain ⟨lx, ly, HL, HU2, V1, V2⟩ := hcut
   have p0 := V1.out.cell (i := 0) rfl
   have p1 := V1.out.cell (i := 1) rfl
   have q0 := V2.out.cell (i := 0) rfl
   have q1 := V2.out.cell (i := 1) rfl
   have HR : Hid (Vd.onLine ((ax, ay), bx, bY) ((cx, cy), dx, dy) = onF (fx, fy) (lx, ly)) := by
    rw [HE.out, HF.out, HL.out]; exact rfl
   by_cases h : Vd.bef (fx, fy) (lx, ly)
   ·have D := hide h
    clear h
    go_wp2_with (go_at_call 128; refine (before_any (fx, fy) (lx, ly) _).mono ?_; rintro e w1 ⟨rfl, u1⟩; replace u1 := hide u1; rw [decide_eq_true D.out])
    go_ret
    exact ⟨ret_i (by rw [HR.out]; unfold onF; rw [if_pos D.out]), HU2.out.trans u1.out⟩
   ·have D := hide h
    clear h
    by_cases h : (fx, fy) = (lx, ly)
    ·cases h
     go_wp2_with (go_at_call 128; refine (before_any (fx, fy) (fx, fy) _).mono ?_; rintro e w1 ⟨rfl, u1⟩; replace u1 := hide u1; have r0 := u1.out.cell p0; have r1 := u1.out.cell p1; have r2 := u1.out.cell q0; have r3 := u1.out.cell q1; rw [decide_eq_false D.out])
     go_ret
     exact ⟨ret_i (by rw [HR.out]; unfold onF; rw [if_neg D.out, if_pos rfl]), HU2.out.trans u1.out⟩
    ·have D2 := hide h
     rcases (show fx ≠ lx ∨ (fx = lx ∧ fy ≠ ly) from by by_cases c : fx = lx; exact .inr ⟨c, fun e => h (by rw [c, e])⟩; exact .inl c) with hd | ⟨rfl, hd⟩
     all_goals
      have hd' := beq_eq_false_iff_ne.2 hd
      clear h
      go_wp2_with (go_at_call 128; refine (before_any (fx, fy) (_, ly) _).mono ?_; rintro e w1 ⟨rfl, u1⟩; replace u1 := hide u1; have r0 := u1.out.cell p0; have r1 := u1.out.cell p1; have r2 := u1.out.cell q0; have r3 := u1.out.cell q1; rw [decide_eq_false D.out])
      go_ret
      exact ⟨ret_i (by rw [HR.out]; unfold onF; rw [if_neg D.out, if_neg D2.out]), HU2.out.trans u1.out⟩
end Go.Proofs.YtcclepohmhdpbabGreatDoor
