import Derived.Test.YtcclepohmhdpbaaGreatDoorWalkC
import Derived.Deep.QuietTactic
import Derived.BigQuiet
import Derived.Test.YtcclepohmhdpbaaGreatDoorPnA
import Derived.Deep.DeepCutAuto
import Derived.Test.YtcclepohmhdpbaaGreatDoorWalkP
/- REGIONS THAT DRAW THEIR ORDER, whose operations read and whose callees make memory and leave what was there: one walk serves every order. -/
namespace Go.Proofs.YtcclepohmhdpbaaGreatDoor
set_option linter.all false
open Go.RowKit Go.Deep

/-- A world that has grown out of w. -/
structure Gr (w : World) where
  v : World
  up : Up w v
instance (w : World) : Nonempty (Gr w) := ⟨⟨w, Up.refl w⟩⟩
theorem wp_region_up {P : Program} {id : Nat} {Q : Exit → Act → World → Prop} {a : Act} {w : World} {l : List Oper} (hm : P.follows .mixedOrders = true) (hB : Region.lexB .any l.toArray = true)
    (h : wpQuiet P l.toArray (fun w' => ∃ g : Gr w, w' = g.v) (fun a' => ∀ w', (∃ g : Gr w, w' = g.v) → Q .normal a' w') l a) : (Code.region id l.toArray true).wp P Q a w :=
  wp_region_quiet (C := fun w' => ∃ g : Gr w, w' = g.v) hm hB ⟨⟨_, (Up.refl w).drew⟩, rfl⟩ (by simpa using h)
theorem Calls.up_of {P : Program} {f : FuncId} {args : Array Value} {w : World} {g : Gr w} {v : Value}
    (h : Calls P f args g.v fun e w' => e = .returned v ∧ Up g.v w') : Calls P f args g.v fun e w'' => e = .returned v ∧ ∃ m : Gr w, w'' = m.v :=
  h.mono fun _ _ ⟨he, hu⟩ => ⟨he, ⟨_, g.up.trans hu⟩, rfl⟩
theorem VRow.gr {w : World} {b : Nat} {t : TypeId} {vs : List Value} (h : VRow w b t vs) {i : Nat} {v : Value} (hi : vs[i]? = some v) (g : Gr w) : g.v.cell? ⟨b, i, none⟩ = some v := g.up.cell (h.cell hi)
theorem cell_gr {w : World} {p : Addr} {v : Value} (h : w.cell? p = some v) (g : Gr w) : g.v.cell? p = some v := g.up.cell h
/-- all old cells, all old marks read as before. -/
theorem bcell {W w1 : World} (hb : Up W w1) : (∀ b o, b < W.heap.size → w1.cell? ⟨b, o, none⟩ = W.cell? ⟨b, o, none⟩) ∧ (∀ b o, b < W.heap.size → w1.frozen? ⟨b, o, none⟩ = W.frozen? ⟨b, o, none⟩) :=
  ⟨fun b o h => Below.cell hb (p := ⟨b, o, none⟩) h, fun b o h => Below.frozen hb (p := ⟨b, o, none⟩) h⟩
end Go.Proofs.YtcclepohmhdpbaaGreatDoor

/- THE WALKS: package plane: has, forward, meet. -/
namespace Go.Proofs.YtcclepohmhdpbaaGreatDoor
set_option linter.all false
open Go.RowKit Go.Deep

set_option maxHeartbeats 1000000 in
theorem between_any (e m o : Int) (w : World) : Calls Tryz.prog 238 #[.int .i64 e, .int .i64 m, .int .i64 o] w fun x w' => x = .returned (.bool (decide (Vd.btw e m o))) ∧ w' = w := by
  unfold Vd.btw
  by_cases h1 : e ≤ m <;> by_cases h2 : m ≤ o <;> by_cases h3 : o ≤ m <;> by_cases h4 : m ≤ e
  all_goals
    go_enter Tryz.func238, Tryz.ntmps238
    go_wp2
    go_ret
    exact ⟨ret_b (by first | exact (decide_eq_true (by omega)).symm | exact (decide_eq_false (by omega)).symm | (simp <;> omega)), rfl⟩

theorem hasB_of (s : Vd.Seg) (p : Vd.Spot) : Vd.hasB s p = (decide (Vd.side s p = 0) && (decide (Vd.btw (s.1.1 * p.2) p.1.1 (s.2.1 * p.2)) && decide (Vd.btw (s.1.2 * p.2) p.1.2 (s.2.2 * p.2)))) := by
  unfold Vd.hasB Vd.has Vd.side
  by_cases h : Vd.cr s.1 s.2 p.1 p.2 = 0
  · have : Vd.sg (Vd.cr s.1 s.2 p.1 p.2) = 0 := (Vd.sg_zero _).2 h
    simp [h, this]
    exact fun _ _ => rfl
  · have : ¬ Vd.sg (Vd.cr s.1 s.2 p.1 p.2) = 0 := fun e => h ((Vd.sg_zero _).1 e)
    simp [h, this]

set_option maxHeartbeats 2000000 in
theorem has_any (s : Vd.Seg) (p : Vd.Spot) (hs : Vd.CdS s) (hp : Vd.Sp p) (w : World) : Calls Tryz.prog 209 #[segV s, spotV p] w fun e w' => e = .returned (.bool (Vd.hasB s p)) ∧ Up w w' := by
  have HB := hide (hasB_of s p)
  have HS := hide hs
  have HP := hide hp
  obtain ⟨⟨ax, ay⟩, ⟨bx, bY⟩⟩ := s
  obtain ⟨⟨x, y⟩, t⟩ := p
  simp only [Vd.CdS, Vd.Cd, Vd.Sp] at hs hp
  obtain ⟨⟨a1, a2, a3, a4⟩, b1, b2, b3, b4⟩ := hs
  obtain ⟨x1, x2, y1, y2, t1, t2⟩ := hp
  have m1 := mul_bd (a := ax) (b := t) (A := 32768) (B := 1048576) (by omega) (by omega) (by omega) (by omega)
  have m2 := mul_bd (a := ay) (b := t) (A := 32768) (B := 1048576) (by omega) (by omega) (by omega) (by omega)
  have m3 := mul_bd (a := bx) (b := t) (A := 32768) (B := 1048576) (by omega) (by omega) (by omega) (by omega)
  have m4 := mul_bd (a := bY) (b := t) (A := 32768) (B := 1048576) (by omega) (by omega) (by omega) (by omega)
  simp only [segV, spotV]
  have wtac : True := trivial
  by_cases h0 : Vd.side ((ax, ay), (bx, bY)) ((x, y), t) = 0
  · cases H1 : decide (Vd.btw (ax * t) x (bx * t))
    all_goals
      have H2 := hide H1
      go_enter Tryz.func209, Tryz.ntmps209
      go_wp2_with (first | (go_at_call 233; refine (side_any ((ax, ay), (bx, bY)) ((x, y), t) HS.out HP.out _).mono ?_; rintro e w1 ⟨rfl, u1⟩; obtain ⟨hc, hf⟩ := bcell u1; replace u1 := hide u1) | (go_at_call 238; refine (between_any _ _ _ _).mono ?_; rintro e w2 ⟨rfl, rfl⟩))
      go_ret
      exact ⟨ret_b (by rw [HB.out]; simp only [H2.out, h0]; simp), (((Up.refl _).alloc _).alloc _).trans u1.out⟩
  · have h0' : (Vd.side ((ax, ay), (bx, bY)) ((x, y), t) == 0) = false := beq_eq_false_iff_ne.2 h0
    go_enter Tryz.func209, Tryz.ntmps209
    go_wp2_with (first | (go_at_call 233; refine (side_any ((ax, ay), (bx, bY)) ((x, y), t) HS.out HP.out _).mono ?_; rintro e w1 ⟨rfl, u1⟩; obtain ⟨hc, hf⟩ := bcell u1; replace u1 := hide u1))
    go_ret
    exact ⟨ret_b (by rw [HB.out]; simp [h0]), (((Up.refl _).alloc _).alloc _).trans u1.out⟩

theorem seg_eta (s : Vd.Seg) : segV s = .agg #[.int .i64 s.1.1, .int .i64 s.1.2, .int .i64 s.2.1, .int .i64 s.2.2] := rfl
set_option maxHeartbeats 2000000 in
theorem forward_any (s : Vd.Seg) (w : World) : Calls Tryz.prog 200 #[segV s] w fun e w' => e = .returned (segV (Vd.fwd s.1 s.2)) ∧ Up w w' := by
  obtain ⟨⟨ax, ay⟩, ⟨bx, bY⟩⟩ := s
  simp only [Vd.fwd]
  by_cases h : Vd.bef (bx, bY) (ax, ay)
  · rw [if_pos h]
    have H := hide (decide_eq_true h)
    simp only [segV]
    go_enter Tryz.func200, Tryz.ntmps200
    go_wp2_with (go_at_call 236; refine (before_any (bx, bY) (ax, ay) _).mono ?_; rintro e w1 ⟨rfl, u1⟩; rw [H.out]; obtain ⟨hc, hf⟩ := bcell u1; have hz := u1.size; simp at hz; replace u1 := hide u1)
    refine bodyPost_ret (v := .agg #[.int .i64 bx, .int .i64 bY, .int .i64 ax, .int .i64 ay]) (by simp [results, Tryz.results200, go_sem, hc, hf, hz]) rfl ⟨rfl, ?_⟩
    repeat (refine Up.setCell ?_ (by simp) _)
    exact (((Up.refl _).alloc _).alloc _).trans u1.out
  · rw [if_neg h]
    have H := hide (decide_eq_false h)
    simp only [segV]
    go_enter Tryz.func200, Tryz.ntmps200
    go_wp2_with (go_at_call 236; refine (before_any (bx, bY) (ax, ay) _).mono ?_; rintro e w1 ⟨rfl, u1⟩; rw [H.out]; obtain ⟨hc, hf⟩ := bcell u1; have hz := u1.size; simp at hz; replace u1 := hide u1)
    refine bodyPost_ret (v := .agg #[.int .i64 ax, .int .i64 ay, .int .i64 bx, .int .i64 bY]) (by simp [results, Tryz.results200, go_sem, hc, hf, hz]) rfl ⟨rfl, ?_⟩
    repeat (refine Up.setCell ?_ (by simp) _)
    exact (((Up.refl _).alloc _).alloc _).trans u1.out

end Go.Proofs.YtcclepohmhdpbaaGreatDoor

/- THE WALKS: package plane: meetOnLine. -/
namespace Go.Proofs.YtcclepohmhdpbaaGreatDoor
set_option linter.all false
open Go.RowKit Go.Deep

/-- meetOnLine, by what it keeps. -/
def onF (f l : Pnt) : Int := if Vd.bef f l then 3 else if f = l then 1 else 0
theorem onLine_F (s t : Vd.Seg) : Vd.onLine s t = onF (if Vd.bef s.1 t.1 then t.1 else s.1) (if Vd.bef t.2 s.2 then t.2 else s.2) := rfl
theorem new_row {w : World} {o : Obj} {vs : List Value} {t : TypeId} (h : o = .cells vs.toArray t (0, 0)) : VRow (w.alloc o) w.heap.size t vs := by subst h; exact VRow.new w vs t
theorem row_set2 {w : World} {b : Nat} {t : TypeId} {x y : Value} (h : VRow w b t [x, y]) (u v : Value) : VRow ((w.setCell ⟨b, 0, none⟩ u).setCell ⟨b, 1, none⟩ v) b t [u, v] := (h.set 0 u).set 1 v
set_option maxHeartbeats 4000000 in
theorem online_any (s t : Vd.Seg) (w : World) : Calls Tryz.prog 234 #[segV s, segV t] w fun e w' => e = .returned (.int .i64 (Vd.onLine s t)) ∧ Up w w' := by
  have HE := hide (onLine_F s t)
  obtain ⟨⟨ax, ay⟩, ⟨bx, bY⟩⟩ := s
  obtain ⟨⟨cx, cy⟩, ⟨dx, dy⟩⟩ := t
  simp only [segV]
  go_enter Tryz.func234, Tryz.ntmps234
  have R0 := hide (((new_row (w := w) (o := .cells #[.int .i64 ax, .int .i64 ay, .int .i64 bx, .int .i64 bY] 191) (vs := [.int .i64 ax, .int .i64 ay, .int .i64 bx, .int .i64 bY]) rfl).alloc (.cells #[.int .i64 cx, .int .i64 cy, .int .i64 dx, .int .i64 dy] 191)).alloc (.cells #[.int .i64 ax, .int .i64 ay] 32))
  have R1 := hide ((new_row (w := w.alloc (.cells #[.int .i64 ax, .int .i64 ay, .int .i64 bx, .int .i64 bY] 191)) (o := .cells #[.int .i64 cx, .int .i64 cy, .int .i64 dx, .int .i64 dy] 191) (vs := [.int .i64 cx, .int .i64 cy, .int .i64 dx, .int .i64 dy]) rfl).alloc (.cells #[.int .i64 ax, .int .i64 ay] 32))
  have R2 := hide (new_row (w := (w.alloc (.cells #[.int .i64 ax, .int .i64 ay, .int .i64 bx, .int .i64 bY] 191)).alloc (.cells #[.int .i64 cx, .int .i64 cy, .int .i64 dx, .int .i64 dy] 191)) (o := .cells #[.int .i64 ax, .int .i64 ay] 32) (vs := [.int .i64 ax, .int .i64 ay]) rfl)
  rw [show (w.alloc (.cells #[.int .i64 ax, .int .i64 ay, .int .i64 bx, .int .i64 bY] 191)).heap.size = w.heap.size + 1 by simp] at R1
  rw [show ((w.alloc (.cells #[.int .i64 ax, .int .i64 ay, .int .i64 bx, .int .i64 bY] 191)).alloc (.cells #[.int .i64 cx, .int .i64 cy, .int .i64 dx, .int .i64 dy] 191)).heap.size = w.heap.size + 2 by simp] at R2
  go_upto_if 12 with (go_at_call 236; refine (before_any (ax, ay) (cx, cy) _).mono ?_; rintro e w1 ⟨rfl, u1⟩; replace u1 := hide u1)
  have S0 := hide (R0.out.of_block (u1.out.block _ R0.out.lt))
  have S1 := hide (R1.out.of_block (u1.out.block _ R1.out.lt))
  have S2 := hide (R2.out.of_block (u1.out.block _ R2.out.lt))
  have HU1 : Hid (Up w w1) := (((((Up.refl _).alloc _).alloc _).alloc _).trans u1.out)
  clear R0 R1 R2 u1
  have a0 := S1.out.cell (i := 0) rfl
  have a1 := S1.out.cell (i := 1) rfl
  have b0 := S2.out.cell (i := 0) rfl
  have b1 := S2.out.cell (i := 1) rfl
  have bf := fun i => S2.out.frozen i
  go_cut [] (fun wc => ∃ fx fy : Int, Hid ((fx, fy) = if Vd.bef (ax, ay) (cx, cy) then (cx, cy) else (ax, ay)) ∧ Hid (Up w wc) ∧ Hid (VRow wc w.heap.size 191 [.int .i64 ax, .int .i64 ay, .int .i64 bx, .int .i64 bY]) ∧ Hid (VRow wc (w.heap.size + 1) 191 [.int .i64 cx, .int .i64 cy, .int .i64 dx, .int .i64 dy]) ∧ Hid (VRow wc (w.heap.size + 2) 32 [.int .i64 fx, .int .i64 fy]))
  case first =>
    by_cases h : Vd.bef (ax, ay) (cx, cy)
    · have D := hide h
      have d : decide (Vd.bef (ax, ay) (cx, cy)) = true := decide_eq_true h
      clear h
      go_wp2
      go_meet
      case rel => exact ⟨cx, cy, (if_pos D.out).symm, Up.setCell (Up.setCell HU1.out (by show w.heap.size ≤ w.heap.size + 2; omega) _) (by show w.heap.size ≤ w.heap.size + 2; omega) _, (S0.out.setOther (by show w.heap.size ≠ w.heap.size + 2; omega) _).setOther (by show w.heap.size ≠ w.heap.size + 2; omega) _, (S1.out.setOther (by show w.heap.size + 1 ≠ w.heap.size + 2; omega) _).setOther (by show w.heap.size + 1 ≠ w.heap.size + 2; omega) _, row_set2 S2.out _ _⟩
    · have D := hide h
      have d : decide (Vd.bef (ax, ay) (cx, cy)) = false := decide_eq_false h
      clear h
      go_wp2
      go_meet
      case rel => exact ⟨ax, ay, (if_neg D.out).symm, HU1.out, S0.out, S1.out, S2.out⟩
  case rest =>
    clear a0 a1 b0 b1 bf S0 S1 S2 HU1
    obtain ⟨fx, fy, HF, HU, S0, S1, S2⟩ := hcut
    have c2 := S0.out.cell (i := 2) rfl
    have c3 := S0.out.cell (i := 3) rfl
    have e2a := fun o => (S1.out.alloc o).cell (i := 2) rfl
    have e3a := fun o => (S1.out.alloc o).cell (i := 3) rfl
    have T1 := hide (S1.out.alloc (.cells #[.int .i64 bx, .int .i64 bY] 32))
    have T2 := hide (S2.out.alloc (.cells #[.int .i64 bx, .int .i64 bY] 32))
    have T3 := hide (new_row (w := wc) (o := .cells #[.int .i64 bx, .int .i64 bY] 32) (vs := [.int .i64 bx, .int .i64 bY]) rfl)
    have hne : w.heap.size + 2 ≠ wc.heap.size := by have := S2.out.lt; omega
    have HNE := hide hne
    clear hne
    go_upto_if 20 with (go_at_call 236; refine (before_any (dx, dy) (bx, bY) _).mono ?_; rintro e w1 ⟨rfl, u1⟩; replace u1 := hide u1)
    have g2 := (T1.out.of_block (u1.out.block _ T1.out.lt)).cell (i := 2) rfl
    have g3 := (T1.out.of_block (u1.out.block _ T1.out.lt)).cell (i := 3) rfl
    have V1 := hide (T2.out.of_block (u1.out.block _ T2.out.lt))
    have V2 := hide (T3.out.of_block (u1.out.block _ T3.out.lt))
    have k0 := V2.out.cell (i := 0) rfl
    have k1 := V2.out.cell (i := 1) rfl
    have kf := fun i => V2.out.frozen i
    have HU1 : Hid (Up w w1) := (HU.out.alloc _).trans u1.out
    have HS := hide HU.out.size
    clear T1 T2 T3 u1 e2a e3a c2 c3
    go_cut [] (fun wd => ∃ lx ly : Int, Hid ((lx, ly) = if Vd.bef (dx, dy) (bx, bY) then (dx, dy) else (bx, bY)) ∧ Hid (Up w wd) ∧ Hid (VRow wd (w.heap.size + 2) 32 [.int .i64 fx, .int .i64 fy]) ∧ Hid (VRow wd wc.heap.size 32 [.int .i64 lx, .int .i64 ly]))
    case first =>
      by_cases h : Vd.bef (dx, dy) (bx, bY)
      · have D := hide h
        have d : decide (Vd.bef (dx, dy) (bx, bY)) = true := decide_eq_true h
        clear h
        go_wp2
        go_meet
        case rel => exact ⟨dx, dy, (if_pos D.out).symm, Up.setCell (Up.setCell HU1.out HS.out _) HS.out _, (V1.out.setOther HNE.out _).setOther HNE.out _, row_set2 V2.out _ _⟩
      · have D := hide h
        have d : decide (Vd.bef (dx, dy) (bx, bY)) = false := decide_eq_false h
        clear h
        go_wp2
        go_meet
        case rel => exact ⟨bx, bY, (if_neg D.out).symm, HU1.out, V1.out, V2.out⟩
    case rest =>
      clear g2 g3 V1 V2 k0 k1 kf HU1
      obtain ⟨lx, ly, HL, HU2, V1, V2⟩ := hcut
      have p0 := V1.out.cell (i := 0) rfl
      have p1 := V1.out.cell (i := 1) rfl
      have q0 := V2.out.cell (i := 0) rfl
      have q1 := V2.out.cell (i := 1) rfl
      have HR : Hid (Vd.onLine ((ax, ay), bx, bY) ((cx, cy), dx, dy) = onF (fx, fy) (lx, ly)) := by
        rw [HE.out, HF.out, HL.out]; exact rfl
      by_cases h : Vd.bef (fx, fy) (lx, ly)
      · have D := hide h
        clear h
        go_wp2_with (go_at_call 236; refine (before_any (fx, fy) (lx, ly) _).mono ?_; rintro e w1 ⟨rfl, u1⟩; replace u1 := hide u1; rw [decide_eq_true D.out])
        go_ret
        exact ⟨ret_i (by rw [HR.out]; unfold onF; rw [if_pos D.out]), HU2.out.trans u1.out⟩
      · have D := hide h
        clear h
        by_cases h : (fx, fy) = (lx, ly)
        · cases h
          go_wp2_with (go_at_call 236; refine (before_any (fx, fy) (fx, fy) _).mono ?_; rintro e w1 ⟨rfl, u1⟩; replace u1 := hide u1; have r0 := u1.out.cell p0; have r1 := u1.out.cell p1; have r2 := u1.out.cell q0; have r3 := u1.out.cell q1; rw [decide_eq_false D.out])
          go_ret
          exact ⟨ret_i (by rw [HR.out]; unfold onF; rw [if_neg D.out, if_pos rfl]), HU2.out.trans u1.out⟩
        · have D2 := hide h
          rcases (show fx ≠ lx ∨ (fx = lx ∧ fy ≠ ly) from by by_cases c : fx = lx; exact .inr ⟨c, fun e => h (by rw [c, e])⟩; exact .inl c) with hd | ⟨rfl, hd⟩
          all_goals
            have hd' := beq_eq_false_iff_ne.2 hd
            clear h
            go_wp2_with (go_at_call 236; refine (before_any (fx, fy) (_, ly) _).mono ?_; rintro e w1 ⟨rfl, u1⟩; replace u1 := hide u1; have r0 := u1.out.cell p0; have r1 := u1.out.cell p1; have r2 := u1.out.cell q0; have r3 := u1.out.cell q1; rw [decide_eq_false D.out])
            go_ret
            exact ⟨ret_i (by rw [HR.out]; unfold onF; rw [if_neg D.out, if_neg D2.out]), HU2.out.trans u1.out⟩
end Go.Proofs.YtcclepohmhdpbaaGreatDoor

/- THE WALKS: package plane: Meet. -/
namespace Go.Proofs.YtcclepohmhdpbaaGreatDoor
set_option linter.all false
open Go.RowKit Go.Deep

theorem VRow.up {w w' : World} {b : Nat} {t : TypeId} {vs : List Value} (h : VRow w b t vs) (k : Up w w') : VRow w' b t vs := h.of_block (k.block _ h.lt)
theorem side_at (s : Vd.Seg) (p : Pnt) : Vd.side s (Vd.at1 p) = Vd.sg (Vd.cr s.1 s.2 p 1) := rfl
theorem sg_bd (n : Int) : -1 ≤ Vd.sg n ∧ Vd.sg n ≤ 1 := by rcases Vd.sg_cases n with ⟨_, e⟩ | ⟨_, e⟩ | ⟨_, e⟩ <;> rw [e] <;> omega
/-- Meet, by the four sides. -/
def meetK (x : Int) (a b c d : Int) : Int := if a = 0 ∧ b = 0 ∧ c = 0 ∧ d = 0 then x else if a * b > 0 ∨ c * d > 0 then 0 else if a * b * c * d = 0 then 1 else 2
theorem meet_K (s t : Vd.Seg) : Vd.meetS s t = meetK (Vd.onLine (Vd.fwd s.1 s.2) (Vd.fwd t.1 t.2)) (Vd.side s (Vd.at1 t.1)) (Vd.side s (Vd.at1 t.2)) (Vd.side t (Vd.at1 s.1)) (Vd.side t (Vd.at1 s.2)) := rfl

set_option maxHeartbeats 4000000 in
theorem meet_any (s t : Vd.Seg) (hs : Vd.CdS s) (ht : Vd.CdS t) (w : World) : Calls Tryz.prog 196 #[segV s, segV t] w fun e w' => e = .returned (.int .i64 (Vd.meetS s t)) ∧ Up w w' := by
  have HE := hide (meet_K s t)
  have HS := hide hs
  have HT := hide ht
  obtain ⟨⟨ax, ay⟩, ⟨bx, bY⟩⟩ := s
  obtain ⟨⟨cx, cy⟩, ⟨dx, dy⟩⟩ := t
  clear hs ht
  simp only [segV]
  have R0 := hide ((new_row (w := w) (o := .cells #[.int .i64 ax, .int .i64 ay, .int .i64 bx, .int .i64 bY] 191) (vs := [.int .i64 ax, .int .i64 ay, .int .i64 bx, .int .i64 bY]) rfl).alloc (.cells #[.int .i64 cx, .int .i64 cy, .int .i64 dx, .int .i64 dy] 191))
  have R1 := hide ((new_row (w := w.alloc (.cells #[.int .i64 ax, .int .i64 ay, .int .i64 bx, .int .i64 bY] 191)) (o := .cells #[.int .i64 cx, .int .i64 cy, .int .i64 dx, .int .i64 dy] 191) (vs := [.int .i64 cx, .int .i64 cy, .int .i64 dx, .int .i64 dy]) rfl))
  rw [show (w.alloc (.cells #[.int .i64 ax, .int .i64 ay, .int .i64 bx, .int .i64 bY] 191)).heap.size = w.heap.size + 1 by simp] at R1
  have HU : Hid (Up w ((w.alloc (.cells #[.int .i64 ax, .int .i64 ay, .int .i64 bx, .int .i64 bY] 191)).alloc (.cells #[.int .i64 cx, .int .i64 cy, .int .i64 dx, .int .i64 dy] 191))) := ((Up.refl _).alloc _).alloc _
  go_enter Tryz.func196, Tryz.ntmps196
  go_wp2_with fail
  generalize (w.alloc (.cells #[.int .i64 ax, .int .i64 ay, .int .i64 bx, .int .i64 bY] 191)).alloc (.cells #[.int .i64 cx, .int .i64 cy, .int .i64 dx, .int .i64 dy] 191) = W at *
  have s0 := R0.out.gr (i := 0) rfl
  have s1 := R0.out.gr (i := 1) rfl
  have s2 := R0.out.gr (i := 2) rfl
  have s3 := R0.out.gr (i := 3) rfl
  have t0 := R1.out.gr (i := 0) rfl
  have t1 := R1.out.gr (i := 1) rfl
  have t2 := R1.out.gr (i := 2) rfl
  have t3 := R1.out.gr (i := 3) rfl
  refine wp_region_up (by kernel_rfl) (by kernel_rfl) ?_
  repeat (first | go_big_quiet_step ((first | (go_at_call 199; exact Calls.up_of (at_any (cx, cy) _)) | (go_at_call 233; exact Calls.up_of (side_any ((ax, ay), (bx, bY)) (Vd.at1 (cx, cy)) HS.out (Vd.at1_sp HT.out.1) _)))))
  refine wpQuiet_nil ?_
  rintro _ ⟨⟨w1, u⟩, rfl⟩
  replace R0 := hide (R0.out.up u)
  replace R1 := hide (R1.out.up u)
  replace HU := hide (HU.out.trans u)
  clear s0 s1 s2 s3 t0 t1 t2 t3 u
  go_wp2_with fail
  have s0 := R0.out.gr (i := 0) rfl
  have s1 := R0.out.gr (i := 1) rfl
  have s2 := R0.out.gr (i := 2) rfl
  have s3 := R0.out.gr (i := 3) rfl
  have t0 := R1.out.gr (i := 0) rfl
  have t1 := R1.out.gr (i := 1) rfl
  have t2 := R1.out.gr (i := 2) rfl
  have t3 := R1.out.gr (i := 3) rfl
  refine wp_region_up (by kernel_rfl) (by kernel_rfl) ?_
  repeat (first | go_big_quiet_step ((first | (go_at_call 199; exact Calls.up_of (at_any (dx, dy) _)) | (go_at_call 233; exact Calls.up_of (side_any ((ax, ay), (bx, bY)) (Vd.at1 (dx, dy)) HS.out (Vd.at1_sp HT.out.2) _)))))
  refine wpQuiet_nil ?_
  rintro _ ⟨⟨w2, u⟩, rfl⟩
  replace R0 := hide (R0.out.up u)
  replace R1 := hide (R1.out.up u)
  replace HU := hide (HU.out.trans u)
  clear s0 s1 s2 s3 t0 t1 t2 t3 u
  go_wp2_with fail
  have s0 := R0.out.gr (i := 0) rfl
  have s1 := R0.out.gr (i := 1) rfl
  have s2 := R0.out.gr (i := 2) rfl
  have s3 := R0.out.gr (i := 3) rfl
  have t0 := R1.out.gr (i := 0) rfl
  have t1 := R1.out.gr (i := 1) rfl
  have t2 := R1.out.gr (i := 2) rfl
  have t3 := R1.out.gr (i := 3) rfl
  refine wp_region_up (by kernel_rfl) (by kernel_rfl) ?_
  repeat (first | go_big_quiet_step ((first | (go_at_call 199; exact Calls.up_of (at_any (ax, ay) _)) | (go_at_call 233; exact Calls.up_of (side_any ((cx, cy), (dx, dy)) (Vd.at1 (ax, ay)) HT.out (Vd.at1_sp HS.out.1) _)))))
  refine wpQuiet_nil ?_
  rintro _ ⟨⟨w3, u⟩, rfl⟩
  replace R0 := hide (R0.out.up u)
  replace R1 := hide (R1.out.up u)
  replace HU := hide (HU.out.trans u)
  clear s0 s1 s2 s3 t0 t1 t2 t3 u
  go_wp2_with fail
  have s0 := R0.out.gr (i := 0) rfl
  have s1 := R0.out.gr (i := 1) rfl
  have s2 := R0.out.gr (i := 2) rfl
  have s3 := R0.out.gr (i := 3) rfl
  have t0 := R1.out.gr (i := 0) rfl
  have t1 := R1.out.gr (i := 1) rfl
  have t2 := R1.out.gr (i := 2) rfl
  have t3 := R1.out.gr (i := 3) rfl
  refine wp_region_up (by kernel_rfl) (by kernel_rfl) ?_
  repeat (first | go_big_quiet_step ((first | (go_at_call 199; exact Calls.up_of (at_any (bx, bY) _)) | (go_at_call 233; exact Calls.up_of (side_any ((cx, cy), (dx, dy)) (Vd.at1 (bx, bY)) HT.out (Vd.at1_sp HS.out.2) _)))))
  refine wpQuiet_nil ?_
  rintro _ ⟨⟨w4, u⟩, rfl⟩
  replace R0 := hide (R0.out.up u)
  replace R1 := hide (R1.out.up u)
  replace HU := hide (HU.out.trans u)
  clear s0 s1 s2 s3 t0 t1 t2 t3 u
  have B1 := sg_bd (Vd.cr (ax, ay) (bx, bY) (cx, cy) 1)
  have B2 := sg_bd (Vd.cr (ax, ay) (bx, bY) (dx, dy) 1)
  have B3 := sg_bd (Vd.cr (cx, cy) (dx, dy) (ax, ay) 1)
  have B4 := sg_bd (Vd.cr (cx, cy) (dx, dy) (bx, bY) 1)
  simp only [side_at] at HE ⊢
  generalize Vd.sg (Vd.cr (ax, ay) (bx, bY) (cx, cy) 1) = a at *
  generalize Vd.sg (Vd.cr (ax, ay) (bx, bY) (dx, dy) 1) = b at *
  generalize Vd.sg (Vd.cr (cx, cy) (dx, dy) (ax, ay) 1) = c at *
  generalize Vd.sg (Vd.cr (cx, cy) (dx, dy) (bx, bY) 1) = d at *
  have k1 : wrap64 (a * b) = a * b := w64 (by have := (mul_bd (a := a) (b := b) (A := 1) (B := 1) (by omega) (by omega) (by omega) (by omega)); omega) (by have := (mul_bd (a := a) (b := b) (A := 1) (B := 1) (by omega) (by omega) (by omega) (by omega)); omega)
  have k2 : wrap64 (c * d) = c * d := w64 (by have := (mul_bd (a := c) (b := d) (A := 1) (B := 1) (by omega) (by omega) (by omega) (by omega)); omega) (by have := (mul_bd (a := c) (b := d) (A := 1) (B := 1) (by omega) (by omega) (by omega) (by omega)); omega)
  have m1 := mul_bd (a := a) (b := b) (A := 1) (B := 1) (by omega) (by omega) (by omega) (by omega)
  have m2 := mul_bd (a := a * b) (b := c) (A := 1) (B := 1) (by omega) (by omega) (by omega) (by omega)
  have m3 := mul_bd (a := a * b * c) (b := d) (A := 1) (B := 1) (by omega) (by omega) (by omega) (by omega)
  have k3 : wrap64 (a * b * c) = a * b * c := w64 (by omega) (by omega)
  have k4 : wrap64 (a * b * c * d) = a * b * c * d := w64 (by omega) (by omega)
  by_cases hz : a = 0 ∧ b = 0 ∧ c = 0 ∧ d = 0
  · obtain ⟨rfl, rfl, rfl, rfl⟩ := hz
    clear B1 B2 B3 B4 k1 k2 k3 k4 m1 m2 m3
    have HR : Hid (Vd.meetS ((ax, ay), bx, bY) ((cx, cy), dx, dy) = Vd.onLine (Vd.fwd (ax, ay) (bx, bY)) (Vd.fwd (cx, cy) (dx, dy))) := HE.out
    go_wp2_with fail
    have s0 := R0.out.gr (i := 0) rfl
    have s1 := R0.out.gr (i := 1) rfl
    have s2 := R0.out.gr (i := 2) rfl
    have s3 := R0.out.gr (i := 3) rfl
    have t0 := R1.out.gr (i := 0) rfl
    have t1 := R1.out.gr (i := 1) rfl
    have t2 := R1.out.gr (i := 2) rfl
    have t3 := R1.out.gr (i := 3) rfl
    refine wp_region_up (by kernel_rfl) (by kernel_rfl) ?_
    repeat (first | go_big_quiet_step ((first | (go_at_call_of 200 (Value.agg #[.int .i64 ax, .int .i64 ay, .int .i64 bx, .int .i64 bY]); exact Calls.up_of (forward_any ((ax, ay), (bx, bY)) _)) | (go_at_call 200; exact Calls.up_of (forward_any ((cx, cy), (dx, dy)) _)) | (go_at_call 234; exact Calls.up_of (online_any (Vd.fwd (ax, ay) (bx, bY)) (Vd.fwd (cx, cy) (dx, dy)) _)))))
    refine wpQuiet_nil ?_
    rintro _ ⟨⟨w5, u⟩, rfl⟩
    go_wp2
    go_ret
    exact ⟨ret_i HR.out.symm, HU.out.trans u⟩
  · have HZ := hide hz
    have hcs : (a == 0) = false ∨ (a = 0 ∧ (b == 0) = false) ∨ (a = 0 ∧ b = 0 ∧ (c == 0) = false) ∨ (a = 0 ∧ b = 0 ∧ c = 0 ∧ (d == 0) = false) := by
      simp only [beq_eq_false_iff_ne]; omega
    by_cases p1 : 0 < a * b
    · have HR : Hid (Vd.meetS ((ax, ay), bx, bY) ((cx, cy), dx, dy) = 0) := by rw [HE.out]; unfold meetK; rw [if_neg HZ.out, if_pos (.inl p1)]; exact rfl
      clear hz B1 B2 B3 B4 m1 m2 m3
      rcases hcs with h | ⟨rfl, h⟩ | ⟨rfl, rfl, h⟩ | ⟨rfl, rfl, rfl, h⟩
      all_goals
        first
        | (exfalso; simp at p1; done)
        | (go_wp2; go_ret; exact ⟨ret_i HR.out.symm, HU.out⟩)
    · by_cases p2 : 0 < c * d
      · have HR : Hid (Vd.meetS ((ax, ay), bx, bY) ((cx, cy), dx, dy) = 0) := by rw [HE.out]; unfold meetK; rw [if_neg HZ.out, if_pos (.inr p2)]; exact rfl
        clear hz B1 B2 B3 B4 m1 m2 m3
        rcases hcs with h | ⟨rfl, h⟩ | ⟨rfl, rfl, h⟩ | ⟨rfl, rfl, rfl, h⟩
        all_goals
          first
          | (exfalso; simp at p2; done)
          | (go_wp2; go_ret; exact ⟨ret_i HR.out.symm, HU.out⟩)
      · by_cases p3 : a * b * c * d = 0
        · have HR : Hid (Vd.meetS ((ax, ay), bx, bY) ((cx, cy), dx, dy) = 1) := by rw [HE.out]; unfold meetK; rw [if_neg HZ.out, if_neg (by omega), if_pos p3]; exact rfl
          clear hz B1 B2 B3 B4 m1 m2 m3
          rcases hcs with h | ⟨rfl, h⟩ | ⟨rfl, rfl, h⟩ | ⟨rfl, rfl, rfl, h⟩
          all_goals
            go_wp2
            go_ret
            exact ⟨ret_i HR.out.symm, HU.out⟩
        · have HR : Hid (Vd.meetS ((ax, ay), bx, bY) ((cx, cy), dx, dy) = 2) := by rw [HE.out]; unfold meetK; rw [if_neg HZ.out, if_neg (by omega), if_neg p3]; exact rfl
          have p3' := beq_eq_false_iff_ne.2 p3
          clear hz B1 B2 B3 B4 m1 m2 m3
          rcases hcs with h | ⟨rfl, h⟩ | ⟨rfl, rfl, h⟩ | ⟨rfl, rfl, rfl, h⟩
          all_goals
            first
            | (exfalso; simp at p3; done)
            | (go_wp2; go_ret; exact ⟨ret_i HR.out.symm, HU.out⟩)
end Go.Proofs.YtcclepohmhdpbaaGreatDoor

/- THE WALKS: package plane: Segments, meetsRay. -/
namespace Go.Proofs.YtcclepohmhdpbaaGreatDoor
set_option linter.all false
open Go.RowKit Go.Deep

theorem wrap_id {x : Int} (h1 : -9223372036854775808 ≤ x) (h2 : x ≤ 9223372036854775807) : IntKind.i64.wrap x = x := by
  simp [IntKind.wrap, IntKind.bits, IntKind.signed]; omega
/-! ### lists of what is some cells wide -/
def flatG {α : Type} (f : α → List Value) (l : List α) : List Value := l.flatMap f
theorem flatG_append {α : Type} (f : α → List Value) (a b : List α) : flatG f (a ++ b) = flatG f a ++ flatG f b := by simp [flatG]
theorem flatG_at {α : Type} {f : α → List Value} {n : Nat} (hf : ∀ x, (f x).length = n) : ∀ (l : List α) (i : Nat) (x : α) (j : Nat) (u : Value), l[i]? = some x → (f x)[j]? = some u → (flatG f l)[i * n + j]? = some u := by
  intro l
  induction l with
  | nil => intro i x j u h; simp at h
  | cons a t ih =>
    intro i x j u h hu
    have hj : j < n := by rw [← hf x]; exact Pl.lt_of_some hu
    show (f a ++ flatG f t)[i * n + j]? = some u
    cases i with
    | zero => simp at h; subst h; rw [List.getElem?_append_left (by rw [hf]; omega)]; simpa using hu
    | succ i =>
      rw [List.getElem?_append_right (by rw [hf, Nat.succ_mul]; omega), hf, show (i + 1) * n + j - n = i * n + j by rw [Nat.succ_mul]; omega]
      exact ih i x j u (by simpa using h) hu
/-- A list reads as these. -/
def RdG {α : Type} (n : Nat) (f : α → List Value) (w : World) (v : Value) (l : List α) : Prop :=
  ∃ ao cap, v = .slice ao l.length cap ∧ ∀ i x, l[i]? = some x → ∃ b, ao = some ⟨b, 0, none⟩ ∧ ∀ j u, (f x)[j]? = some u → w.cell? ⟨b, i * n + j, none⟩ = some u
theorem RdG.up {α : Type} {n : Nat} {f : α → List Value} {w w' : World} {v : Value} {l : List α} (h : RdG n f w v l) (k : Up w w') : RdG n f w' v l := by
  obtain ⟨ao, cap, e, h⟩ := h
  exact ⟨ao, cap, e, fun i x hx => by obtain ⟨b, e1, e2⟩ := h i x hx; exact ⟨b, e1, fun j u hu => k.cell (e2 j u hu)⟩⟩
theorem own_rdG {α : Type} {n : Nat} {f : α → List Value} (hf : ∀ x, (f x).length = n) {w : World} {base : Nat} {e : TypeId} {v : Value} {l : List α} (h : w.ownsRow base e n v l.length (flatG f l)) : RdG n f w v l := by
  obtain ⟨ao, cap, ev⟩ := own_len h
  refine ⟨ao, cap, ev, fun i x hx => ?_⟩
  obtain ⟨g, cap', e', hc⟩ := own_cell h (by have := Pl.lt_of_some hx; omega)
  rw [ev] at e'
  cases e'
  exact ⟨g, rfl, fun j u hu => hc _ _ (flatG_at hf l i x j u hx hu)⟩
def segC (s : Vd.Seg) : List Value := [.int .i64 s.1.1, .int .i64 s.1.2, .int .i64 s.2.1, .int .i64 s.2.2]
def spotC (p : Vd.Spot) : List Value := [.int .i64 p.1.1, .int .i64 p.1.2, .int .i64 p.2]
def ptC (p : Pnt) : List Value := [.int .i64 p.1, .int .i64 p.2]
def intC (n : Nat) : List Value := [.int .i64 n]
abbrev RdSeg := RdG 4 segC
abbrev RdSpot := RdG 3 spotC
abbrev RdInt := RdG 1 intC
theorem RdG.seg {w : World} {v : Value} {l : List Vd.Seg} (h : RdSeg w v l) {i : Nat} {s : Vd.Seg} (hs : l[i]? = some s) : ∃ b cap, v = .slice (some ⟨b, 0, none⟩) l.length cap ∧ w.cell? ⟨b, i * 4, none⟩ = some (.int .i64 s.1.1) ∧ w.cell? ⟨b, i * 4 + 1, none⟩ = some (.int .i64 s.1.2) ∧ w.cell? ⟨b, i * 4 + 2, none⟩ = some (.int .i64 s.2.1) ∧ w.cell? ⟨b, i * 4 + 3, none⟩ = some (.int .i64 s.2.2) := by
  obtain ⟨ao, cap, e, h⟩ := h
  obtain ⟨b, rfl, hc⟩ := h i s hs
  exact ⟨b, cap, e, hc 0 _ rfl, hc 1 _ rfl, hc 2 _ rfl, hc 3 _ rfl⟩
theorem RdG.spot {w : World} {v : Value} {l : List Vd.Spot} (h : RdSpot w v l) {i : Nat} {s : Vd.Spot} (hs : l[i]? = some s) : ∃ b cap, v = .slice (some ⟨b, 0, none⟩) l.length cap ∧ w.cell? ⟨b, i * 3, none⟩ = some (.int .i64 s.1.1) ∧ w.cell? ⟨b, i * 3 + 1, none⟩ = some (.int .i64 s.1.2) ∧ w.cell? ⟨b, i * 3 + 2, none⟩ = some (.int .i64 s.2) := by
  obtain ⟨ao, cap, e, h⟩ := h
  obtain ⟨b, rfl, hc⟩ := h i s hs
  exact ⟨b, cap, e, hc 0 _ rfl, hc 1 _ rfl, hc 2 _ rfl⟩
theorem RdG.int {w : World} {v : Value} {l : List Nat} (h : RdInt w v l) {i : Nat} {s : Nat} (hs : l[i]? = some s) : ∃ b cap, v = .slice (some ⟨b, 0, none⟩) l.length cap ∧ w.cell? ⟨b, i, none⟩ = some (.int .i64 s) := by
  obtain ⟨ao, cap, e, h⟩ := h
  obtain ⟨b, rfl, hc⟩ := h i s hs
  exact ⟨b, cap, e, by have := hc 0 _ rfl; simpa using this⟩
theorem und_segs : Tryz.prog.underlying 188 = some (.slice 191) := by kernel_rfl
theorem info_seg : (Tryz.prog.info? 191).map (fun i => (i.zero, i.size, i.bytes)) = some (some (.agg #[.int .i64 0, .int .i64 0, .int .i64 0, .int .i64 0]), 4, 32) := by kernel_rfl
theorem el_segs : Elem Tryz.prog 188 191 (.agg #[.int .i64 0, .int .i64 0, .int .i64 0, .int .i64 0]) 4 32 := ⟨und_segs, info_seg, rfl, by omega, by omega⟩
theorem segs_take {r : Ring} {k : Nat} {p q : Pnt} (hp : r[k]? = some p) (hq : r[k + 1]? = some q) : (Vd.segs r).take (k + 1) = (Vd.segs r).take k ++ [(p, q)] := Pl.take_one (Vd.segs_at hp hq)

set_option maxHeartbeats 4000000 in
theorem segments_any (v : Value) (r : Ring) (w : World) (hv : Rd1 w v r) (hr : r.length ≤ 1048576) :
    Calls Tryz.prog 161 #[v] w fun e w' => ∃ u, e = .returned u ∧ Up w w' ∧ w'.ownsRow w.heap.size 191 4 u (Vd.segs r).length (flatG segC (Vd.segs r)) := by
  obtain ⟨ao, cap, rfl, hm⟩ := hv
  have HM := hide hm
  clear hm
  go_enter Tryz.func161, Tryz.ntmps161
  go_wp2
  go_loopw [3, 4] (fun sv i wr => ∃ (k : Nat) (u : Value), i = .int .i64 (k + 1 : Nat) ∧ u = sv ∧ k ≤ (Vd.segs r).length ∧ Hid (Up w wr) ∧ Hid (wr.ownsRow w.heap.size 191 4 u k (flatG segC ((Vd.segs r).take k)))) (fun _ i _ => r.length - (intOf i).toNat)
  case atStart => exact ⟨0, _, rfl, rfl, Nat.zero_le _, Up.refl _, World.ownsRow_nil _ _ _ _⟩
  case round =>
    obtain ⟨k, u, rfl, rfl, hk, HU, HO⟩ := hrel
    by_cases hlt : k + 1 < r.length
    · obtain ⟨⟨px, py⟩, hp⟩ := Pl.some_of_lt (show k < r.length by omega)
      obtain ⟨⟨qx, qy⟩, hq⟩ := Pl.some_of_lt hlt
      have HT := hide (segs_take hp hq)
      obtain ⟨b, rfl, c0, c1⟩ := HM.out k _ hp
      obtain ⟨b', e', d0, d1⟩ := HM.out (k + 1) _ hq
      cases e'
      have f0 := HU.out.cell c0
      have f1 := HU.out.cell c1
      have g0 := HU.out.cell d0
      have g1 := HU.out.cell d1
      have f0a := fun o => ((Up.refl wr).alloc o).cell f0
      have f1a := fun o => ((Up.refl wr).alloc o).cell f1
      have g0a := fun o => ((Up.refl wr).alloc o).cell g0
      have g1a := fun o => ((Up.refl wr).alloc o).cell g1
      have HOA := hide (fun o => HO.out.alloc o)
      have hb : Hid (k ≤ 1073741824) := by show _ ≤ _; omega
      have hsz := hide HU.out.size
      have i1 : (0 : Int) ≤ (k : Int) := by omega
      have i2 : (k : Int) < (r.length : Int) := by omega
      have i3 : (k : Int) + 1 < (r.length : Int) := by omega
      have i4 : IntKind.i64.wrap (k : Int) = (k : Int) := wrap_id (by omega) (by omega)
      have i5 : (0 : Int) ≤ (k : Int) + 1 := by omega
      clear c0 c1 d0 d1 hp hq
      go_upto_region 5 with fail
      go_region_law ((refine step_app el_segs rfl (.tmp 11) (.tmp 22) rfl w.heap.size u _ _ (by rfl) (HOA.out _) wr.heap.size (segC ((px, py), (qx, qy))) (by rfl) rfl (heap_alloc_new wr _) (by intro x hx; simp [segC] at hx; rcases hx with rfl | rfl | rfl | rfl <;> rfl) hb.out (by simp; have := hsz.out; omega) ?_; intro g cap w1 hown1 hg1 hat1 hlt1))
      all_goals
        have HO2 := hide hown1
        have HU2 : Hid (Up w w1) := Fr.up (S := fun _ => False) (((Fr.of_up HU.out).alloc _).drew.grown hg1 fun x hx => .inr (own_lt HO.out hx).1) (fun _ _ h => h)
        clear hown1 hg1 hat1 hlt1 f0 f1 g0 g1 f0a f1a g0a g1a
        go_wp2
        go_roundw
        case rel => exact ⟨k + 1, _, by go_num, rfl, by rw [Vd.segs_len]; omega, HU2, by rw [HT.out, flatG_append]; exact HO2⟩
        case measure => simp [intOf]; omega
    · have hk2 : k = (Vd.segs r).length := by rw [Vd.segs_len] at *; omega
      subst hk2
      go_wp2
      go_ret
      exact ⟨_, rfl, HU.out, by have := HO.out; rwa [List.take_length] at this⟩
end Go.Proofs.YtcclepohmhdpbaaGreatDoor

/- THE WALKS: package plane: meetsRay, Place. -/
namespace Go.Proofs.YtcclepohmhdpbaaGreatDoor
set_option linter.all false
open Go.RowKit Go.Deep

theorem ray_of (s : Vd.Seg) (p : Vd.Spot) : Vd.ray s.1 s.2 p.1 p.2 = if decide (p.1.2 < s.1.2 * p.2) = decide (p.1.2 < s.2.2 * p.2) then false else if decide (p.1.2 < s.2.2 * p.2) = true then decide (0 < Vd.side s p) else decide (Vd.side s p < 0) := by
  unfold Vd.ray Vd.side
  simp only [decide_eq_true_eq]
set_option maxHeartbeats 2000000 in
theorem ray_any (s : Vd.Seg) (p : Vd.Spot) (hs : Vd.CdS s) (hp : Vd.Sp p) (w : World) : Calls Tryz.prog 235 #[segV s, spotV p] w fun e w' => e = .returned (.bool (Vd.ray s.1 s.2 p.1 p.2)) ∧ Up w w' := by
  have HB := hide (ray_of s p)
  have HS := hide hs
  have HP := hide hp
  obtain ⟨⟨ax, ay⟩, ⟨bx, bY⟩⟩ := s
  obtain ⟨⟨x, y⟩, t⟩ := p
  simp only [Vd.CdS, Vd.Cd, Vd.Sp] at hs hp
  obtain ⟨⟨a1, a2, a3, a4⟩, b1, b2, b3, b4⟩ := hs
  obtain ⟨x1, x2, y1, y2, t1, t2⟩ := hp
  have m2 := mul_bd (a := ay) (b := t) (A := 32768) (B := 1048576) (by omega) (by omega) (by omega) (by omega)
  have m4 := mul_bd (a := bY) (b := t) (A := 32768) (B := 1048576) (by omega) (by omega) (by omega) (by omega)
  simp only [segV, spotV]
  simp only at HB
  by_cases h1 : y < ay * t <;> by_cases h2 : y < bY * t
  all_goals
    have D1 : Hid (Vd.ray (ax, ay) (bx, bY) (x, y) t = if decide (y < ay * t) = decide (y < bY * t) then false else if decide (y < bY * t) = true then decide (0 < Vd.side ((ax, ay), bx, bY) ((x, y), t)) else decide (Vd.side ((ax, ay), bx, bY) ((x, y), t) < 0)) := HB.out
    simp only [h1, h2, decide_true, decide_false] at D1
    go_enter Tryz.func235, Tryz.ntmps235
    go_wp2_with (go_at_call 233; refine (side_any ((ax, ay), (bx, bY)) ((x, y), t) HS.out HP.out _).mono ?_; rintro e w1 ⟨rfl, u1⟩; replace u1 := hide u1)
    go_ret
    first
    | exact ⟨ret_b (by rw [D1.out]; simp), (((Up.refl _).alloc _).alloc _).trans u1.out⟩
    | exact ⟨ret_b (by rw [D1.out]; simp), ((Up.refl _).alloc _).alloc _⟩

/-! ### Place -/
theorem placeL_has {s : Vd.Seg} {l : List Vd.Seg} {i : Bool} {p : Vd.Spot} (h : Vd.hasB s p = true) : Vd.placeL (s :: l) i p = 1 := by unfold Vd.placeL; rw [if_pos h]
theorem placeL_not {s : Vd.Seg} {l : List Vd.Seg} {i : Bool} {p : Vd.Spot} (h : Vd.hasB s p = false) : Vd.placeL (s :: l) i p = Vd.placeL l (if Vd.ray s.1 s.2 p.1 p.2 = true then !i else i) p := by conv => lhs; unfold Vd.placeL; rw [if_neg (by rw [h]; simp)]
theorem drop_at {α : Type} {l : List α} {k : Nat} {x : α} (h : l[k]? = some x) : l.drop k = x :: l.drop (k + 1) := by
  obtain ⟨hk, e⟩ := List.getElem?_eq_some_iff.1 h
  rw [List.drop_eq_getElem_cons hk, e]

set_option maxHeartbeats 4000000 in
theorem place_any (v : Value) (r : Ring) (p : Vd.Spot) (w : World) (hv : Rd1 w v r) (hr : r.length ≤ 1048576) (hc : Vd.CdR r) (hp : Vd.Sp p) :
    Calls Tryz.prog 197 #[v, spotV p] w fun e w' => e = .returned (.int .i64 (Vd.place r p)) ∧ Up w w' := by
  have HV := hide hv
  have HC := hide hc
  have HP := hide hp
  obtain ⟨⟨x, y⟩, t⟩ := p
  clear hv hc hp
  simp only [spotV]
  have R0 := hide (new_row (w := w) (o := .cells #[.int .i64 x, .int .i64 y, .int .i64 t] 127) (vs := [.int .i64 x, .int .i64 y, .int .i64 t]) rfl)
  obtain ⟨ao, cap, rfl, -⟩ := HV.out
  go_enter Tryz.func197, Tryz.ntmps197
  go_wp2_with fail
  refine (segments_any _ r _ (HV.out.up ((Up.refl _).alloc _)) hr).mono ?_
  rintro e w1 ⟨sv, rfl, u1, ho⟩
  obtain ⟨sa, sc, es⟩ := own_len ho
  subst es
  have HR := hide (own_rdG (f := segC) (fun _ => rfl) ho)
  have HU : Hid (Up w w1) := ((Up.refl _).alloc _).trans u1
  replace R0 := hide (R0.out.up u1)
  have hl := Vd.segs_len r
  clear ho u1
  go_wp2_with fail
  go_loopw [5, 11] (fun inn i wr => ∃ (k : Nat) (b : Bool), i = .int .i64 k ∧ inn = .bool b ∧ k ≤ (Vd.segs r).length ∧ Hid (Up w1 wr) ∧ Hid (Vd.place r ((x, y), t) = Vd.placeL ((Vd.segs r).drop k) b ((x, y), t))) (fun _ i _ => (Vd.segs r).length - (intOf i).toNat)
  case atStart => exact ⟨0, false, rfl, rfl, Nat.zero_le _, Up.refl _, rfl⟩
  case round =>
    obtain ⟨k, b, rfl, rfl, hk, HU2, HE⟩ := hrel
    by_cases hlt : k < (Vd.segs r).length
    · obtain ⟨⟨⟨ax, ay⟩, ⟨bx, bY⟩⟩, hs⟩ := Pl.some_of_lt hlt
      obtain ⟨g, cap', ev, c0, c1, c2, c3⟩ := (HR.out.up HU2.out).seg hs
      cases ev
      have HCS := hide (Vd.segs_cd HC.out (Pl.mem_of_some hs))
      rw [drop_at hs] at HE
      have R1 := R0.out.up HU2.out
      have p0 := fun o => (R1.alloc o).cell (i := 0) rfl
      have p1 := fun o => (R1.alloc o).cell (i := 1) rfl
      have p2 := fun o => (R1.alloc o).cell (i := 2) rfl
      have R2 := hide (fun o => R1.alloc o)
      simp only at c0 c1 c2 c3
      clear hs R1
      cases hh : Vd.hasB ((ax, ay), (bx, bY)) ((x, y), t)
      · have HH := hide hh
        have HE2 := hide (HE.out.trans (placeL_not hh))
        clear hh
        go_wp2_with fail
        refine (has_any ((ax, ay), (bx, bY)) ((x, y), t) HCS.out HP.out _).mono ?_
        rintro e w2 ⟨rfl, u2⟩
        obtain ⟨f0, f1⟩ := bcell u2
        rw [HH.out]
        have U2 := hide u2
        have q0 := u2.cell (p0 _)
        have q1 := u2.cell (p1 _)
        have q2 := u2.cell (p2 _)
        clear u2 p0 p1 p2
        go_wp2_with fail
        refine (ray_any ((ax, ay), (bx, bY)) ((x, y), t) HCS.out HP.out _).mono ?_
        rintro e w3 ⟨rfl, u3⟩
        have U3 : Hid (Up w1 w3) := ((HU2.out.alloc _).trans U2.out).trans u3
        cases hq : Vd.ray (ax, ay) (bx, bY) (x, y) t
        all_goals
          rw [hq] at HE2
          clear u3 q0 q1 q2 f0 f1
          go_wp2
          go_roundw
          case rel => exact ⟨k + 1, _, by go_num, rfl, by omega, U3, HE2.out⟩
          case measure => simp [intOf]; omega
      · have HH := hide hh
        have HE2 := hide (HE.out.trans (placeL_has hh))
        clear hh
        go_wp2_with fail
        refine (has_any ((ax, ay), (bx, bY)) ((x, y), t) HCS.out HP.out _).mono ?_
        rintro e w2 ⟨rfl, u2⟩
        rw [HH.out]
        replace u2 := hide u2
        go_wp2
        go_ret
        exact ⟨ret_i HE2.out.symm, (HU.out.trans (HU2.out.alloc _)).trans u2.out⟩
    · have : k = (Vd.segs r).length := by omega
      subst this
      rw [List.drop_length] at HE
      cases b
      all_goals
        go_wp2
        go_ret
        exact ⟨ret_i HE.out.symm, HU.out.trans HU2.out⟩
end Go.Proofs.YtcclepohmhdpbaaGreatDoor

/- VALIDITY, PLAINLY: the parts of a segment (G4): the program's and the document's have the same middles. -/
namespace Go.Proofs.YtcclepohmhdpbaaGreatDoor
set_option linter.all false
namespace Vd
/-- the points that cut a segment: its ends, and what lies on it. -/
def Cut (a b : Pnt) (l : List Pnt) (x : Pnt) : Prop := x = a ∨ x = b ∨ (x ∈ l ∧ has a b x 1)
/-- two cuts that follow each other, by their places. -/
structure Cons (f : Pnt → Int) (C : Pnt → Prop) (x y : Pnt) : Prop where
  cx : C x
  cy : C y
  lt : f x < f y
  no : ∀ c, C c → ¬ (f x < f c ∧ f c < f y)

/-- The fold: the nearest behind. -/
def cutG (f : Pnt → Int) (ok : Pnt → Prop) [DecidablePred ok] (from_ to p : Pnt) : Pnt := if ok p ∧ f from_ < f p ∧ f p < f to then p else to
theorem fold_near (f : Pnt → Int) (ok : Pnt → Prop) [DecidablePred ok] (x : Pnt) : ∀ (l : List Pnt) (t : Pnt), f x < f t →
    (l.foldl (cutG f ok x) t = t ∨ (l.foldl (cutG f ok x) t ∈ l ∧ ok (l.foldl (cutG f ok x) t))) ∧ f x < f (l.foldl (cutG f ok x) t) ∧ f (l.foldl (cutG f ok x) t) ≤ f t ∧ ∀ c ∈ l, ok c → ¬ (f x < f c ∧ f c < f (l.foldl (cutG f ok x) t)) := by
  intro l
  induction l with
  | nil => intro t h; exact ⟨.inl rfl, h, Int.le_refl _, by simp⟩
  | cons p l ih =>
    intro t h
    rw [List.foldl_cons]
    by_cases k : ok p ∧ f x < f p ∧ f p < f t
    · rw [show cutG f ok x t p = p from if_pos k]
      obtain ⟨h1, h2, h3, h4⟩ := ih p k.2.1
      refine ⟨?_, h2, by omega, ?_⟩
      · rcases h1 with e | ⟨e1, e2⟩
        · rw [e]; exact .inr ⟨by simp, k.1⟩
        · exact .inr ⟨by simp [e1], e2⟩
      · intro c hc hok
        rcases List.mem_cons.1 hc with rfl | hc
        · omega
        · exact h4 c hc hok
    · rw [show cutG f ok x t p = t from if_neg k]
      obtain ⟨h1, h2, h3, h4⟩ := ih t h
      refine ⟨?_, h2, h3, ?_⟩
      · rcases h1 with e | ⟨e1, e2⟩
        · exact .inl e
        · exact .inr ⟨by simp [e1], e2⟩
      · intro c hc hok
        rcases List.mem_cons.1 hc with rfl | hc
        · intro ⟨q1, q2⟩; exact k ⟨hok, q1, by omega⟩
        · exact h4 c hc hok
/-- The list of middles, from x on to b. -/
def midG (f : Pnt → Int) (ok : Pnt → Prop) [DecidablePred ok] (l : List Pnt) (b : Pnt) : Nat → Pnt → List Spot
  | 0, _ => []
  | n + 1, x => if x = b then [] else midOf x (l.foldl (cutG f ok x) b) :: midG f ok l b n (l.foldl (cutG f ok x) b)
/-- enough rounds. -/
def fuel (f : Pnt → Int) (l : List Pnt) (b x : Pnt) : Nat := if x = b then 0 else 1 + l.countP fun p => decide (f x < f p)
theorem fuel_step {f : Pnt → Int} {ok : Pnt → Prop} [DecidablePred ok] {l : List Pnt} {b x : Pnt} (hx : x ≠ b) (h : f x < f b) : fuel f l b (l.foldl (cutG f ok x) b) < fuel f l b x := by
  obtain ⟨h1, h2, -, -⟩ := fold_near f ok x l b h
  unfold fuel
  rw [if_neg hx]
  split
  · omega
  · rename_i g
    rcases h1 with e | ⟨e1, e2⟩
    · exact absurd e g
    · generalize l.foldl (cutG f ok x) b = y at *
      obtain ⟨l1, l2, e⟩ := List.append_of_mem e1
      have mono : ∀ l : List Pnt, l.countP (fun p => decide (f y < f p)) ≤ l.countP (fun p => decide (f x < f p)) := by
        intro l
        apply List.countP_mono_left
        intro z _ hz
        have := of_decide_eq_true hz
        exact decide_eq_true (by omega)
      have m1 := mono l1
      have m2 := mono l2
      rw [e, List.countP_append, List.countP_append, List.countP_cons, List.countP_cons]
      simp [h2]
      omega
theorem mem_midG {f : Pnt → Int} {C ok : Pnt → Prop} [DecidablePred ok] {l : List Pnt} {a b : Pnt} (hC : ∀ x, C x ↔ x = a ∨ x = b ∨ (x ∈ l ∧ ok x)) (inj : ∀ x y, C x → C y → f x = f y → x = y) (top : ∀ x, C x → f x ≤ f b) :
    ∀ (n : Nat) (x : Pnt), C x → fuel f l b x ≤ n → f a ≤ f x → ∀ m, m ∈ midG f ok l b n x ↔ ∃ y z, Cons f C y z ∧ f x ≤ f y ∧ m = midOf y z := by
  intro n
  induction n with
  | zero =>
    intro x hx hn ha m
    have : x = b := by unfold fuel at hn; split at hn <;> first | assumption | omega
    subst this
    constructor
    · intro h; cases h
    · rintro ⟨y, z, hc, h1, -⟩
      have := top z hc.cy
      have := hc.lt
      omega
  | succ n ih =>
    intro x hx hn ha m
    unfold midG
    by_cases hb : x = b
    · rw [if_pos hb]
      constructor
      · intro h; cases h
      · rintro ⟨y, z, hc, h1, -⟩
        have := top z hc.cy
        have := hc.lt
        rw [hb] at h1
        omega
    · rw [if_neg hb]
      have hlt : f x < f b := by
        have := top x hx
        rcases Int.lt_or_eq_of_le this with h | h
        · exact h
        · exact absurd (inj x b hx ((hC b).2 (.inr (.inl rfl))) h) hb
      have hf := fuel_step (ok := ok) (l := l) hb hlt
      obtain ⟨h1, h2, h3, h4⟩ := fold_near f ok x l b hlt
      generalize hy : l.foldl (cutG f ok x) b = y at *
      have cy : C y := by
        rw [hC]
        rcases h1 with e | ⟨e1, e2⟩
        · exact .inr (.inl e)
        · exact .inr (.inr ⟨e1, e2⟩)
      have hno : ∀ c, C c → ¬ (f x < f c ∧ f c < f y) := by
        intro c hc
        rcases (hC c).1 hc with rfl | rfl | ⟨e1, e2⟩
        · omega
        · omega
        · exact h4 c e1 e2
      have key := ih y cy (by omega) (by omega) m
      rw [List.mem_cons, key]
      constructor
      · rintro (rfl | ⟨u, v, hc, k1, k2⟩)
        · exact ⟨x, y, ⟨hx, cy, h2, hno⟩, Int.le_refl _, rfl⟩
        · exact ⟨u, v, hc, by omega, k2⟩
      · rintro ⟨u, v, hc, k1, k2⟩
        by_cases hu : f y ≤ f u
        · exact .inr ⟨u, v, hc, hu, k2⟩
        · left
          have e1 : u = x := by
            refine inj u x hc.cx hx ?_
            have := hno u hc.cx
            omega
          subst e1
          have e2 : v = y := by
            refine inj v y hc.cy cy ?_
            have g1 := hno v hc.cy
            have g2 := hc.no y cy
            have g3 := hc.lt
            omega
          rw [k2, e2]

/-! ### the program's -/
theorem has_line {a b x : Pnt} (h : has a b x 1) : cr a b x 1 = 0 := h.1
theorem has_a (a b : Pnt) : has a b a 1 := ⟨cr_a a b, by unfold btw; omega, by unfold btw; omega⟩
theorem has_b (a b : Pnt) : has a b b 1 := ⟨cr_b a b, by unfold btw; omega, by unfold btw; omega⟩
theorem cut_has {a b : Pnt} {l : List Pnt} {x : Pnt} (h : Cut a b l x) : has a b x 1 := by
  rcases h with rfl | rfl | h
  · exact has_a _ _
  · exact has_b _ _
  · exact h.2
theorem pos_le {a b x : Pnt} (hab : a ≠ b) (h : has a b x 1) : 0 ≤ pos a b x ∧ pos a b x ≤ kk a b := by
  have := (has_on hab (by omega)).1 h
  exact ⟨this.2.1, by have := this.2.2; unfold pos; omega⟩
theorem pos_inj {a b x y : Pnt} (hab : a ≠ b) (hx : cr a b x 1 = 0) (hy : cr a b y 1 = 0) (e : pos a b x = pos a b y) : x = y := by
  have hk := kk_pos hab
  have e1 : (pos a b y - pos a b x) * (b.1 - a.1) = (y.1 - x.1) * kk a b := by unfold cr at hx hy; unfold pos dt kk; grind
  have e2 : (pos a b y - pos a b x) * (b.2 - a.2) = (y.2 - x.2) * kk a b := by unfold cr at hx hy; unfold pos dt kk; grind
  rw [e, Int.sub_self, Int.zero_mul] at e1 e2
  have z : ∀ t : Int, 0 = t * kk a b → t = 0 := by
    intro t h
    rcases Int.mul_eq_zero.1 h.symm with h | h
    · exact h
    · omega
  have := z _ e1
  have := z _ e2
  exact Prod.ext (by omega) (by omega)

/-- Whichever order it is asked in: the middles are those of cuts that follow each other. -/
theorem midG_pos {a b : Pnt} (hab : a ≠ b) (l : List Pnt) {n : Nat} (hn : l.length + 1 ≤ n) (m : Spot) :
    m ∈ midG (pos a b) (fun x => has a b x 1) l b n a ↔ ∃ y z, Cons (pos a b) (Cut a b l) y z ∧ m = midOf y z := by
  have hk := kk_pos hab
  have := mem_midG (f := pos a b) (C := Cut a b l) (ok := fun x => has a b x 1) (l := l) (a := a) (b := b) (fun x => Iff.rfl)
    (fun x y hx hy e => pos_inj hab (cut_has hx).1 (cut_has hy).1 e) (fun x hx => by rw [pos_b]; exact (pos_le hab (cut_has hx)).2) n a (.inl rfl)
    (by unfold fuel; split
        · omega
        · have := List.countP_le_length (p := fun p => decide (pos a b a < pos a b p)) (l := l); omega) (Int.le_refl _) m
  rw [this]
  constructor
  · rintro ⟨y, z, hc, -, e⟩; exact ⟨y, z, hc, e⟩
  · rintro ⟨y, z, hc, e⟩; exact ⟨y, z, hc, by rw [pos_a]; exact (pos_le hab (cut_has hc.cx)).1, e⟩
end Vd
end Go.Proofs.YtcclepohmhdpbaaGreatDoor

/- VALIDITY, PLAINLY: the program's middles and the document's (G4). -/
namespace Go.Proofs.YtcclepohmhdpbaaGreatDoor
set_option linter.all false
namespace Vd
theorem bef_pos' {a b x y : Pnt} (h : bef a b) (hx : cr a b x 1 = 0) (hy : cr a b y 1 = 0) : bef x y ↔ pos a b x < pos a b y := (bef_pos (bef_ne h) hx hy).1 h
theorem fold_cut_eq {a b x : Pnt} (h : bef a b) (hx : cr a b x 1 = 0) : ∀ (l : List Pnt) (t : Pnt), cr a b t 1 = 0 → l.foldl (cutF (a, b) x) t = l.foldl (cutG (pos a b) (fun p => has a b p 1) x) t ∧ cr a b (l.foldl (cutF (a, b) x) t) 1 = 0 := by
  intro l
  induction l with
  | nil => intro t ht; exact ⟨rfl, ht⟩
  | cons p l ih =>
    intro t ht
    rw [List.foldl_cons, List.foldl_cons]
    by_cases hp : has a b p 1
    · have e1 := bef_pos' h hx hp.1
      have e2 := bef_pos' h hp.1 ht
      have e : cutF (a, b) x t p = cutG (pos a b) (fun p => has a b p 1) x t p := by
        unfold cutF cutG
        by_cases c : bef x p ∧ bef p t
        · rw [if_pos ⟨c.1, c.2, hp⟩, if_pos ⟨hp, e1.1 c.1, e2.1 c.2⟩]
        · rw [if_neg (fun q => c ⟨q.1, q.2.1⟩), if_neg (fun q => c ⟨e1.2 q.2.1, e2.2 q.2.2⟩)]
      have ht' : cr a b (cutF (a, b) x t p) 1 = 0 := by unfold cutF; split; exact hp.1; exact ht
      rw [← e]
      exact ih _ ht'
    · rw [show cutF (a, b) x t p = t from if_neg (fun q => hp q.2.2), show cutG (pos a b) (fun p => has a b p 1) x t p = t from if_neg (fun q => hp q.1)]
      exact ih t ht
theorem midsF_eq {a b : Pnt} (h : bef a b) (rings : Poly) : ∀ (n : Nat) (x : Pnt), cr a b x 1 = 0 → midsF n (a, b) x rings = midG (pos a b) (fun p => has a b p 1) rings.flatten b n x := by
  intro n
  induction n with
  | zero => intro x _; rfl
  | succ n ih =>
    intro x hx
    obtain ⟨e, k⟩ := fold_cut_eq h hx rings.flatten b (cr_b a b)
    unfold midsF midG nextCut
    simp only
    rw [← e, ih _ k]
theorem has_swap {a b p : Pnt} {w : Int} : has a b p w ↔ has b a p w := by
  unfold has
  rw [cr_swap a b p w]
  unfold btw
  omega
theorem cut_swap {a b : Pnt} {l : List Pnt} {x : Pnt} : Cut a b l x ↔ Cut b a l x := by
  unfold Cut
  rw [has_swap (a := a)]
  constructor
  · rintro (h | h | h)
    · exact .inr (.inl h)
    · exact .inl h
    · exact .inr (.inr h)
  · rintro (h | h | h)
    · exact .inr (.inl h)
    · exact .inl h
    · exact .inr (.inr h)
theorem pos_swap (a b x : Pnt) : pos b a x = kk a b - pos a b x := by unfold pos dt kk; grind
theorem cons_swap {a b : Pnt} {l : List Pnt} {x y : Pnt} (h : Cons (pos a b) (Cut a b l) x y) : Cons (pos b a) (Cut b a l) y x := by
  refine ⟨cut_swap.1 h.cy, cut_swap.1 h.cx, ?_, ?_⟩
  · rw [pos_swap, pos_swap a b]; have := h.lt; omega
  · intro c hc
    have := h.no c (cut_swap.2 hc)
    rw [pos_swap, pos_swap a b c, pos_swap a b x]
    omega
theorem mid_swap (x y : Pnt) : midOf x y = midOf y x := by unfold midOf; rw [Int.add_comm, Int.add_comm x.2]
/-- G4: what the program's middles are. -/
theorem mem_mids {a b : Pnt} (hab : a ≠ b) (rings : Poly) (m : Spot) : m ∈ mids (a, b) rings ↔ ∃ y z, Cons (pos a b) (Cut a b rings.flatten) y z ∧ m = midOf y z := by
  unfold mids fwd
  simp only
  by_cases h : bef b a
  · rw [if_pos h]
    simp only
    rw [midsF_eq h rings _ _ (cr_a b a), midG_pos (Ne.symm hab) _ (Nat.le_refl _)]
    constructor
    · rintro ⟨y, z, hc, e⟩; exact ⟨z, y, cons_swap hc, by rw [e, mid_swap]⟩
    · rintro ⟨y, z, hc, e⟩; exact ⟨z, y, cons_swap hc, by rw [e, mid_swap]⟩
  · have h' : bef a b := by
      rcases bef_tri a b with k | k | k
      · exact k
      · exact absurd k hab
      · exact absurd k h
    rw [if_neg h]
    simp only
    rw [midsF_eq h' rings _ _ (cr_a a b), midG_pos hab _ (Nat.le_refl _)]
/-- a segment of no length has no parts. -/
theorem mids_nil (a : Pnt) (rings : Poly) : mids (a, a) rings = [] := by
  unfold mids fwd
  simp only
  rw [if_neg (fun h => bef_irr h h)]
  exact midsF_end rfl _

/-! ### the document's: from a to b, by the dot product -/
def dotD (a b x y : Pnt) : Int := (y.1 - x.1) * (b.1 - a.1) + (y.2 - x.2) * (b.2 - a.2)
theorem dotD_pos (a b x y : Pnt) : dotD a b x y = pos a b y - pos a b x := by unfold dotD pos dt; grind
instance (a b p : Pnt) (w : Int) : Decidable (on a b p w) := by unfold on; infer_instance
def cutD (a b x t p : Pnt) : Pnt := if on a b p 1 ∧ dotD a b x p > 0 ∧ dotD a b p t > 0 then p else t
def nextD (a b x : Pnt) (rings : Poly) : Pnt := rings.flatten.foldl (cutD a b x) b
def midsD (a b : Pnt) (rings : Poly) : Nat → Pnt → List Spot
  | 0, _ => []
  | n + 1, x => if x = b then [] else midOf x (nextD a b x rings) :: midsD a b rings n (nextD a b x rings)
theorem cutD_eq {a b : Pnt} (hab : a ≠ b) (x t p : Pnt) : cutD a b x t p = cutG (pos a b) (fun p => has a b p 1) x t p := by
  unfold cutD cutG
  have e := has_on (p := p) (w := 1) hab (by omega)
  rw [dotD_pos, dotD_pos]
  by_cases c : has a b p 1 ∧ pos a b x < pos a b p ∧ pos a b p < pos a b t
  · rw [if_pos c, if_pos ⟨e.1 c.1, by omega, by omega⟩]
  · rw [if_neg c, if_neg (fun q => c ⟨e.2 q.1, by omega, by omega⟩)]
theorem nextD_eq {a b : Pnt} (hab : a ≠ b) (x : Pnt) (rings : Poly) : nextD a b x rings = rings.flatten.foldl (cutG (pos a b) (fun p => has a b p 1) x) b := by
  unfold nextD
  congr 1
  funext t p
  exact cutD_eq hab x t p
theorem midsD_eq {a b : Pnt} (hab : a ≠ b) (rings : Poly) : ∀ (n : Nat) (x : Pnt), midsD a b rings n x = midG (pos a b) (fun p => has a b p 1) rings.flatten b n x := by
  intro n
  induction n with
  | zero => intro x; rfl
  | succ n ih =>
    intro x
    unfold midsD midG
    rw [nextD_eq hab, ih]
/-- The document's list, for good. -/
def midD (a b : Pnt) (rings : Poly) : List Spot := midsD a b rings (rings.flatten.length + 1) a
theorem mem_midD {a b : Pnt} (hab : a ≠ b) (rings : Poly) (m : Spot) : m ∈ midD a b rings ↔ ∃ y z, Cons (pos a b) (Cut a b rings.flatten) y z ∧ m = midOf y z := by
  unfold midD
  rw [midsD_eq hab, midG_pos hab _ (Nat.le_refl _)]
theorem mids_midD {a b : Pnt} (hab : a ≠ b) (rings : Poly) (m : Spot) : m ∈ mids (a, b) rings ↔ m ∈ midD a b rings := by rw [mem_mids hab, mem_midD hab]
end Vd
end Go.Proofs.YtcclepohmhdpbaaGreatDoor

/- VALIDITY, PLAINLY: a way round, just if something is left (G5): the program's side. -/
namespace Go.Proofs.YtcclepohmhdpbaaGreatDoor
set_option linter.all false
namespace Vd

theorem nAt_map {g : List Nat} {f : Nat → Nat} {i : Nat} (h : i < g.length) : nAt (g.map f) i = f (nAt g i) := by
  unfold nAt; simp [List.getD_eq_getElem?_getD, List.getElem?_eq_getElem h]

/-- labels that were turned: which were the same. -/
theorem turn_eq {o f x y : Nat} (h : turnG o f x = turnG o f y) : x = y ∨ ((x = o ∨ x = f) ∧ (y = o ∨ y = f)) := by
  unfold turnG at h; split at h <;> split at h <;> omega

theorem joinL_ok : ∀ (js : List Nat) (g : List Nat) (a : Nat) (g' : List Nat), a < g.length → (∀ j ∈ js, j < g.length) → joinL g a js = some g' →
    g'.length = g.length ∧ (∀ x y, x < g.length → y < g.length → nAt g x = nAt g y → nAt g' x = nAt g' y) ∧ (∀ j ∈ js, nAt g' j = nAt g' a) ∧ (∀ j ∈ js, nAt g j ≠ nAt g a) ∧ js.Pairwise (fun i j => nAt g i ≠ nAt g j) := by
  intro js
  induction js with
  | nil =>
    intro g a g' _ _ h
    simp only [joinL, Option.some.injEq] at h
    subst h
    exact ⟨rfl, fun _ _ _ _ e => e, by simp, by simp, List.Pairwise.nil⟩
  | cons j t ih =>
    intro g a g' ha hj h
    unfold joinL at h
    split at h
    · cases h
    · rename_i hne
      have hjl := hj j (by simp)
      have key := ih _ a g' (by simpa using ha) (by intro x hx; simpa using hj x (by simp [hx])) h
      obtain ⟨k1, k2, k3, k4, k5⟩ := key
      simp only [List.length_map] at k1 k2
      have m : ∀ x, x < g.length → nAt (g.map (turnG (nAt g j) (nAt g a))) x = turnG (nAt g j) (nAt g a) (nAt g x) := fun x hx => nAt_map hx
      have ma : turnG (nAt g j) (nAt g a) (nAt g a) = nAt g a := by unfold turnG; rw [if_neg (Ne.symm hne)]
      have mj : turnG (nAt g j) (nAt g a) (nAt g j) = nAt g a := by unfold turnG; rw [if_pos rfl]
      have kt : ∀ i ∈ t, nAt g i ≠ nAt g a ∧ nAt g i ≠ nAt g j := by
        intro i hi
        have hil := hj i (by simp [hi])
        have := k4 i hi
        rw [m i hil, m a ha, ma] at this
        constructor
        · intro e; rw [e, ma] at this; exact this rfl
        · intro e; rw [e, mj] at this; exact this rfl
      refine ⟨k1, ?_, ?_, ?_, ?_⟩
      · intro x y hx hy e
        refine k2 x y hx hy ?_
        rw [m x hx, m y hy, e]
      · intro i hi
        rcases List.mem_cons.1 hi with rfl | hi
        · refine k2 _ _ hjl ha ?_
          rw [m _ hjl, m a ha, mj, ma]
        · exact k3 i hi
      · intro i hi
        rcases List.mem_cons.1 hi with rfl | hi
        · exact hne
        · exact (kt i hi).1
      · refine List.Pairwise.cons (fun i hi => Ne.symm (kt i hi).2) ?_
        refine List.Pairwise.imp_of_mem ?_ k5
        intro x y hx hy e e2
        rw [m x (hj x (by simp [hx])), m y (hj y (by simp [hy])), e2] at e
        exact e rfl

theorem joinL_back : ∀ (js : List Nat) (g : List Nat) (a : Nat) (g' : List Nat), a < g.length → (∀ j ∈ js, j < g.length) → joinL g a js = some g' →
    ∀ x y, x < g.length → y < g.length → nAt g' x = nAt g' y → nAt g x = nAt g y ∨ ∃ u ∈ a :: js, ∃ v ∈ a :: js, nAt g u = nAt g x ∧ nAt g v = nAt g y := by
  intro js
  induction js with
  | nil =>
    intro g a g' _ _ h x y _ _ e
    simp only [joinL, Option.some.injEq] at h
    subst h
    exact .inl e
  | cons j t ih =>
    intro g a g' ha hj h x y hx hy e
    unfold joinL at h
    split at h
    · cases h
    · rename_i hne
      have hjl := hj j (by simp)
      have m : ∀ x, x < g.length → nAt (g.map (turnG (nAt g j) (nAt g a))) x = turnG (nAt g j) (nAt g a) (nAt g x) := fun x hx => nAt_map hx
      have key := ih _ a g' (by simpa using ha) (by intro x hx; simpa using hj x (by simp [hx])) h x y (by simpa using hx) (by simpa using hy) e
      have up : ∀ u ∈ a :: t, ∀ z, z < g.length → nAt (g.map (turnG (nAt g j) (nAt g a))) u = nAt (g.map (turnG (nAt g j) (nAt g a))) z → ∃ u' ∈ a :: j :: t, nAt g u' = nAt g z := by
        intro u hu z hz e
        have hul : u < g.length := by
          rcases List.mem_cons.1 hu with rfl | hu
          · exact ha
          · exact hj u (by simp [hu])
        rw [m u hul, m z hz] at e
        rcases turn_eq e with e | ⟨_, e | e⟩
        · refine ⟨u, ?_, e⟩
          rcases List.mem_cons.1 hu with rfl | hu
          · simp
          · simp [hu]
        · exact ⟨j, by simp, e.symm⟩
        · exact ⟨a, by simp, e.symm⟩
      rcases key with k | ⟨u, hu, v, hv, k1, k2⟩
      · rw [m x hx, m y hy] at k
        rcases turn_eq k with k | ⟨k1, k2⟩
        · exact .inl k
        · right
          have one : ∀ z, (nAt g z = nAt g j ∨ nAt g z = nAt g a) → ∃ u ∈ a :: j :: t, nAt g u = nAt g z := by
            rintro z (e | e)
            · exact ⟨j, by simp, e.symm⟩
            · exact ⟨a, by simp, e.symm⟩
          obtain ⟨u, hu, e1⟩ := one x k1
          obtain ⟨v, hv, e2⟩ := one y k2
          exact ⟨u, hu, v, hv, e1, e2⟩
      · right
        obtain ⟨u', hu', e1⟩ := up u hu x hx k1
        obtain ⟨v', hv', e2⟩ := up v hv y hy k2
        exact ⟨u', hu', v', hv', e1, e2⟩

theorem joinL_none : ∀ (js : List Nat) (g : List Nat) (a : Nat), a < g.length → (∀ j ∈ js, j < g.length) → (a :: js).Nodup → joinL g a js = none →
    ∃ u ∈ a :: js, ∃ v ∈ a :: js, u ≠ v ∧ nAt g u = nAt g v := by
  intro js
  induction js with
  | nil => intro g a _ _ _ h; cases h
  | cons j t ih =>
    intro g a ha hj hnd h
    have hjl := hj j (by simp)
    have haj : a ≠ j := fun e => (List.nodup_cons.1 hnd).1 (by simp [e])
    have hjt : j ∉ t := (List.nodup_cons.1 (List.nodup_cons.1 hnd).2).1
    unfold joinL at h
    split at h
    · rename_i e
      exact ⟨j, by simp, a, by simp, Ne.symm haj, e⟩
    · rename_i hne
      have m : ∀ x, x < g.length → nAt (g.map (turnG (nAt g j) (nAt g a))) x = turnG (nAt g j) (nAt g a) (nAt g x) := fun x hx => nAt_map hx
      have hnd' : (a :: t).Nodup := by
        rw [List.nodup_cons] at hnd ⊢
        exact ⟨fun e => hnd.1 (by simp [e]), (List.nodup_cons.1 hnd.2).2⟩
      obtain ⟨u, hu, v, hv, huv, e⟩ := ih _ a (by simpa using ha) (by intro x hx; simpa using hj x (by simp [hx])) hnd' h
      have lt : ∀ x ∈ a :: t, x < g.length := by
        intro x hx
        rcases List.mem_cons.1 hx with rfl | hx
        · exact ha
        · exact hj x (by simp [hx])
      have inn : ∀ x ∈ a :: t, x ∈ a :: j :: t := by
        intro x hx
        rcases List.mem_cons.1 hx with rfl | hx
        · simp
        · simp [hx]
      have far : ∀ x ∈ a :: t, nAt g x = nAt g j → ∃ u ∈ a :: j :: t, ∃ v ∈ a :: j :: t, u ≠ v ∧ nAt g u = nAt g v := by
        intro x hx e
        refine ⟨x, inn x hx, j, by simp, ?_, e⟩
        rintro rfl
        rcases List.mem_cons.1 hx with e | e
        · exact haj e.symm
        · exact hjt e
      rw [m u (lt u hu), m v (lt v hv)] at e
      rcases turn_eq e with e | ⟨e1 | e1, e2 | e2⟩
      · exact ⟨u, inn u hu, v, inn v hv, huv, e⟩
      · exact far u hu e1
      · exact far u hu e1
      · exact far v hv e2
      · exact ⟨u, inn u hu, v, inn v hv, huv, by rw [e1, e2]⟩

/-! ### Cores -/
abbrev Inc := Nat → Pnt → Prop
/-- Each point of F has another ring, and each ring but x and y another point. -/
structure Near (F : Inc) (x y : Nat) : Prop where
  pt : ∀ r p, F r p → ∃ r', r' ≠ r ∧ F r' p
  ring : ∀ r p, F r p → r ≠ x → r ≠ y → ∃ p', p' ≠ p ∧ F r p'
structure Core (F : Inc) : Prop where
  pt : ∀ r p, F r p → ∃ r', r' ≠ r ∧ F r' p
  ring : ∀ r p, F r p → ∃ p', p' ≠ p ∧ F r p'

structure At (n : Nat) (E : Inc) (at_ : Pnt → List Nat) : Prop where
  mem : ∀ r p, r ∈ at_ p ↔ r < n ∧ E r p
  nd : ∀ p, (at_ p).Nodup

theorem pw_all {f : Nat → Nat} {l : List Nat} (h : l.Pairwise (fun i j => f i ≠ f j)) : ∀ x y, x ∈ l → y ∈ l → x ≠ y → f x ≠ f y := by
  induction h with
  | nil => intro x y hx; cases hx
  | cons h1 _ ih =>
    intro x y hx hy hxy
    rcases List.mem_cons.1 hx with e1 | e1 <;> rcases List.mem_cons.1 hy with e2 | e2
    · exact absurd (e1.trans e2.symm) hxy
    · rw [e1]; exact h1 y e2
    · rw [e2]; exact Ne.symm (h1 x e1)
    · exact ih x y e1 e2 hxy

theorem join_cases {n : Nat} {E : Inc} {at_ : Pnt → List Nat} (hA : At n E at_) (p : Pnt) (g : List Nat) (hg : g.length = n) :
    (∀ g', join g (at_ p) = some g' → g'.length = n ∧ (∀ x y, x < n → y < n → nAt g x = nAt g y → nAt g' x = nAt g' y) ∧ (∀ a b, a ∈ at_ p → b ∈ at_ p → nAt g' a = nAt g' b) ∧
      (∀ a b, a ∈ at_ p → b ∈ at_ p → a ≠ b → nAt g a ≠ nAt g b) ∧ (∀ x y, x < n → y < n → nAt g' x = nAt g' y → nAt g x = nAt g y ∨ ∃ u ∈ at_ p, ∃ v ∈ at_ p, nAt g u = nAt g x ∧ nAt g v = nAt g y)) ∧
    (join g (at_ p) = none → ∃ u ∈ at_ p, ∃ v ∈ at_ p, u ≠ v ∧ nAt g u = nAt g v) := by
  have hnd := hA.nd p
  have hlt : ∀ j ∈ at_ p, j < g.length := fun j hj => by rw [hg]; exact ((hA.mem j p).1 hj).1
  cases hp : at_ p with
  | nil =>
    refine ⟨fun g' h => ?_, fun h => by cases h⟩
    simp only [join, Option.some.injEq] at h
    subst h
    exact ⟨hg, fun _ _ _ _ e => e, by simp, by simp, fun _ _ _ _ e => .inl e⟩
  | cons a t =>
    rw [hp] at hnd hlt
    have ha := hlt a (by simp)
    have ht : ∀ j ∈ t, j < g.length := fun j hj => hlt j (by simp [hj])
    refine ⟨fun g' h => ?_, fun h => joinL_none t g a ha ht hnd h⟩
    obtain ⟨k1, k2, k3, k4, k5⟩ := joinL_ok t g a g' ha ht h
    have k6 := joinL_back t g a g' ha ht h
    rw [hg] at k1 k2 k6
    refine ⟨k1, k2, ?_, ?_, k6⟩
    · have one : ∀ x ∈ a :: t, nAt g' x = nAt g' a := by
        intro x hx
        rcases List.mem_cons.1 hx with rfl | hx
        · rfl
        · exact k3 x hx
      intro x y hx hy
      rw [one x hx, one y hy]
    · intro x y hx hy hxy
      rcases List.mem_cons.1 hx with h1 | h1 <;> rcases List.mem_cons.1 hy with h2 | h2
      · exact absurd (h1.trans h2.symm) hxy
      · rw [h1]; exact Ne.symm (k4 y h2)
      · rw [h2]; exact k4 x h1
      · exact pw_all k5 x y h1 h2 hxy

/-- What is known once the points of Q are joined. -/
structure Jd (n : Nat) (E : Inc) (Q : Pnt → Prop) (g : List Nat) : Prop where
  len : g.length = n
  one : ∀ p, Q p → ∀ a b, a < n → b < n → E a p → E b p → nAt g a = nAt g b
  no : ∀ F : Inc, (∀ r p, F r p → r < n ∧ E r p ∧ Q p) → ∀ x, Near F x x → ∀ r p, ¬ F r p
  good : ∀ a b, a < n → b < n → a ≠ b → nAt g a = nAt g b → ∃ F : Inc, (∀ r p, F r p → r < n ∧ E r p ∧ Q p) ∧ Near F a b ∧ (∃ p, F a p) ∧ (∃ p, F b p)

theorem Jd.step {n : Nat} {E : Inc} {at_ : Pnt → List Nat} (hA : At n E at_) {Q : Pnt → Prop} {g g' : List Nat} (h : Jd n E Q g) {p : Pnt} (hp : ¬ Q p) (hj : join g (at_ p) = some g') :
    Jd n E (fun q => Q q ∨ q = p) g' := by
  obtain ⟨k1, k2, k3, k4, k5⟩ := (join_cases hA p g h.len).1 g' hj
  refine ⟨k1, ?_, ?_, ?_⟩
  · rintro q (hq | rfl) a b ha hb ea eb
    · exact k2 a b ha hb (h.one q hq a b ha hb ea eb)
    · exact k3 a b ((hA.mem a q).2 ⟨ha, ea⟩) ((hA.mem b q).2 ⟨hb, eb⟩)
  · intro F hF x hN r0 p0 h0
    by_cases hu : ∃ r, F r p
    · obtain ⟨a, ha⟩ := hu
      obtain ⟨b, hba, hb⟩ := hN.pt a p ha
      have ea := hF a p ha
      have eb := hF b p hb
      have hne := k4 a b ((hA.mem a p).2 ⟨ea.1, ea.2.1⟩) ((hA.mem b p).2 ⟨eb.1, eb.2.1⟩) (Ne.symm hba)
      have key : ∀ c, F c p → nAt g c ≠ nAt g x → False := by
        intro c hc hcx
        have ec := hF c p hc
        have hcx' : c ≠ x := fun e => hcx (by rw [e])
        obtain ⟨q, hq, hcq⟩ := hN.ring c p hc hcx' hcx'
        refine h.no (fun r q => F r q ∧ q ≠ p ∧ nAt g r = nAt g c) ?_ c ⟨?_, ?_⟩ c q ⟨hcq, hq, rfl⟩
        · rintro r q ⟨h1, h2, -⟩
          obtain ⟨g1, g2, g3⟩ := hF r q h1
          rcases g3 with g3 | g3
          · exact ⟨g1, g2, g3⟩
          · exact absurd g3 h2
        · rintro r q ⟨h1, h2, h3⟩
          obtain ⟨r', e, h4⟩ := hN.pt r q h1
          have a1 := hF r q h1
          have a2 := hF r' q h4
          have hQ : Q q := by rcases a1.2.2 with t | t; exact t; exact absurd t h2
          exact ⟨r', e, h4, h2, by rw [← h3]; exact h.one q hQ r' r a2.1 a1.1 a2.2.1 a1.2.1⟩
        · rintro r q ⟨h1, h2, h3⟩ hr _
          have hrx : r ≠ x := fun e => hcx (by rw [← e, h3])
          obtain ⟨q', e, h4⟩ := hN.ring r q h1 hrx hrx
          refine ⟨q', e, h4, ?_, h3⟩
          rintro rfl
          have a1 := hF r q' h4
          exact k4 r c ((hA.mem r q').2 ⟨a1.1, a1.2.1⟩) ((hA.mem c q').2 ⟨ec.1, ec.2.1⟩) hr h3
      by_cases hax : nAt g a = nAt g x
      · exact key b hb (fun e => hne (by rw [hax, e]))
      · exact key a ha hax
    · refine h.no F ?_ x hN r0 p0 h0
      intro r q hq
      obtain ⟨g1, g2, g3⟩ := hF r q hq
      rcases g3 with g3 | rfl
      · exact ⟨g1, g2, g3⟩
      · exact absurd ⟨r, hq⟩ hu
  · intro a b ha hb hab e
    have wide : ∀ F : Inc, (∀ r p, F r p → r < n ∧ E r p ∧ Q p) → ∀ r q, F r q → r < n ∧ E r q ∧ (Q q ∨ q = p) := fun F hF r q hq => ⟨(hF r q hq).1, (hF r q hq).2.1, .inl (hF r q hq).2.2⟩
    by_cases e0 : nAt g a = nAt g b
    · obtain ⟨F, h1, h2, h3, h4⟩ := h.good a b ha hb hab e0
      exact ⟨F, wide F h1, h2, h3, h4⟩
    · rcases k5 a b ha hb e with e1 | ⟨u, hu, v, hv, e1, e2⟩
      · exact absurd e1 e0
      have eu := (hA.mem u p).1 hu
      have ev := (hA.mem v p).1 hv
      have huv : u ≠ v := by rintro rfl; exact e0 (e1.symm.trans e2)
      -- what joins c to its ring z at p
      have arm : ∀ z c, z < n → c < n → nAt g z = nAt g c → ∃ F : Inc, (∀ r q, F r q → r < n ∧ E r q ∧ Q q) ∧ (∀ r q, F r q → ∃ r', r' ≠ r ∧ F r' q) ∧ (∀ r q, F r q → r ≠ z → r ≠ c → ∃ q', q' ≠ q ∧ F r q') ∧ (z ≠ c → (∃ q, F z q) ∧ (∃ q, F c q)) := by
        intro z c hz hc ezc
        by_cases zc : z = c
        · exact ⟨fun _ _ => False, by simp, by simp, by simp, fun t => absurd zc t⟩
        · obtain ⟨F, h1, h2, h3, h4⟩ := h.good z c hz hc zc ezc
          exact ⟨F, h1, h2.pt, h2.ring, fun _ => ⟨h3, h4⟩⟩
      obtain ⟨F, f1, f2, f3, f4⟩ := arm u a eu.1 ha e1
      obtain ⟨G, g1, g2, g3, g4⟩ := arm v b ev.1 hb e2
      refine ⟨fun r q => F r q ∨ G r q ∨ (q = p ∧ (r = u ∨ r = v)), ?_, ⟨?_, ?_⟩, ?_, ?_⟩
      · rintro r q (t | t | ⟨rfl, rfl | rfl⟩)
        · exact wide F f1 r q t
        · exact wide G g1 r q t
        · exact ⟨eu.1, eu.2, .inr rfl⟩
        · exact ⟨ev.1, ev.2, .inr rfl⟩
      · rintro r q (t | t | ⟨rfl, rfl | rfl⟩)
        · obtain ⟨r', e, t'⟩ := f2 r q t; exact ⟨r', e, .inl t'⟩
        · obtain ⟨r', e, t'⟩ := g2 r q t; exact ⟨r', e, .inr (.inl t')⟩
        · exact ⟨v, Ne.symm huv, .inr (.inr ⟨rfl, .inr rfl⟩)⟩
        · exact ⟨u, huv, .inr (.inr ⟨rfl, .inl rfl⟩)⟩
      · have atU : ∀ q, q ≠ p → ∃ q', q' ≠ q ∧ (F u q' ∨ G u q' ∨ (q' = p ∧ (u = u ∨ u = v))) := fun q hq => ⟨p, Ne.symm hq, .inr (.inr ⟨rfl, .inl rfl⟩)⟩
        have atV : ∀ q, q ≠ p → ∃ q', q' ≠ q ∧ (F v q' ∨ G v q' ∨ (q' = p ∧ (v = u ∨ v = v))) := fun q hq => ⟨p, Ne.symm hq, .inr (.inr ⟨rfl, .inr rfl⟩)⟩
        rintro r q (t | t | ⟨rfl, rfl | rfl⟩) hra hrb
        · have hq : q ≠ p := fun e => hp (e ▸ (f1 r q t).2.2)
          by_cases ru : r = u
          · subst ru; exact atU q hq
          · obtain ⟨q', e, t'⟩ := f3 r q t ru hra; exact ⟨q', e, .inl t'⟩
        · have hq : q ≠ p := fun e => hp (e ▸ (g1 r q t).2.2)
          by_cases rv : r = v
          · subst rv; exact atV q hq
          · obtain ⟨q', e, t'⟩ := g3 r q t rv hrb; exact ⟨q', e, .inr (.inl t')⟩
        · obtain ⟨q', t'⟩ := (f4 hra).1
          exact ⟨q', fun e => hp (e ▸ (f1 r q' t').2.2), .inl t'⟩
        · obtain ⟨q', t'⟩ := (g4 hrb).1
          exact ⟨q', fun e => hp (e ▸ (g1 r q' t').2.2), .inr (.inl t')⟩
      · by_cases ua : u = a
        · exact ⟨p, .inr (.inr ⟨rfl, .inl ua.symm⟩)⟩
        · obtain ⟨q, t⟩ := (f4 ua).2; exact ⟨q, .inl t⟩
      · by_cases vb : v = b
        · exact ⟨p, .inr (.inr ⟨rfl, .inr vb.symm⟩)⟩
        · obtain ⟨q, t⟩ := (g4 vb).2; exact ⟨q, .inr (.inl t)⟩

/-- Joined at a point that lies on two of one group: a core. -/
theorem Jd.core {n : Nat} {E : Inc} {at_ : Pnt → List Nat} (hA : At n E at_) {Q : Pnt → Prop} {g : List Nat} (h : Jd n E Q g) {p : Pnt} (hp : ¬ Q p) (hj : join g (at_ p) = none) :
    ∃ F : Inc, (∀ r q, F r q → r < n ∧ E r q ∧ (Q q ∨ q = p)) ∧ Core F ∧ ∃ r q, F r q := by
  obtain ⟨u, hu, v, hv, huv, e⟩ := (join_cases hA p g h.len).2 hj
  have eu := (hA.mem u p).1 hu
  have ev := (hA.mem v p).1 hv
  obtain ⟨F, h1, h2, ⟨qu, h3⟩, ⟨qv, h4⟩⟩ := h.good u v eu.1 ev.1 huv e
  have np : ∀ r q, F r q → q ≠ p := fun r q t e => hp (e ▸ (h1 r q t).2.2)
  refine ⟨fun r q => F r q ∨ (q = p ∧ (r = u ∨ r = v)), ?_, ⟨?_, ?_⟩, u, p, .inr ⟨rfl, .inl rfl⟩⟩
  · rintro r q (t | ⟨rfl, rfl | rfl⟩)
    · exact ⟨(h1 r q t).1, (h1 r q t).2.1, .inl (h1 r q t).2.2⟩
    · exact ⟨eu.1, eu.2, .inr rfl⟩
    · exact ⟨ev.1, ev.2, .inr rfl⟩
  · rintro r q (t | ⟨rfl, rfl | rfl⟩)
    · obtain ⟨r', e, t'⟩ := h2.pt r q t; exact ⟨r', e, .inl t'⟩
    · exact ⟨v, Ne.symm huv, .inr ⟨rfl, .inr rfl⟩⟩
    · exact ⟨u, huv, .inr ⟨rfl, .inl rfl⟩⟩
  · rintro r q (t | ⟨rfl, rfl | rfl⟩)
    · by_cases ru : r = u
      · exact ⟨p, Ne.symm (np r q t), .inr ⟨rfl, .inl ru⟩⟩
      · by_cases rv : r = v
        · exact ⟨p, Ne.symm (np r q t), .inr ⟨rfl, .inr rv⟩⟩
        · obtain ⟨q', e, t'⟩ := h2.ring r q t ru rv; exact ⟨q', e, .inl t'⟩
    · exact ⟨qu, np _ qu h3, .inl h3⟩
    · exact ⟨qv, np _ qv h4, .inl h4⟩
end Vd
end Go.Proofs.YtcclepohmhdpbaaGreatDoor
