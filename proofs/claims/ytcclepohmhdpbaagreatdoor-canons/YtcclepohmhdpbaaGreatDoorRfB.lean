import Derived.Test.YtcclepohmhdpbaaGreatDoorProg
import Derived.Test.YtcclepohmhdpbaaGreatDoorWalkC
import Derived.Test.YtcclepohmhdpbaaGreatDoorVdG
import Derived.WalkLawsBesides
import Derived.Deep.QuietTactic
import Derived.BigQuiet
import Derived.Deep.DeepCutAuto
import Derived.Test.YtcclepohmhdpbaaGreatDoorWalkP
import Derived.Test.YtcclepohmhdpbaaGreatDoorVsA
/- THE WALKS: package plane, points and segments. -/
namespace Go.Proofs.YtcclepohmhdpbaaGreatDoor
set_option linter.all false
open Go.RowKit Go.Deep

def ptV (p : Pnt) : Value := .agg #[.int .i64 p.1, .int .i64 p.2]
def segV (s : Vd.Seg) : Value := .agg #[.int .i64 s.1.1, .int .i64 s.1.2, .int .i64 s.2.1, .int .i64 s.2.2]
def spotV (p : Vd.Spot) : Value := .agg #[.int .i64 p.1.1, .int .i64 p.1.2, .int .i64 p.2]

theorem w64 {x : Int} (h1 : -9223372036854775808 ≤ x) (h2 : x ≤ 9223372036854775807) : wrap64 x = x := by unfold wrap64; omega
/-- a product of two that are bounded. -/
theorem mul_bd {a b A B : Int} (h1 : -A ≤ a) (h2 : a ≤ A) (h3 : -B ≤ b) (h4 : b ≤ B) : -(A * B) ≤ a * b ∧ a * b ≤ A * B := by
  have hA : 0 ≤ A := by omega
  have hB : 0 ≤ B := by omega
  have k1 : a * b ≤ A * B := by
    rcases Int.le_total 0 b with h | h
    · exact Int.le_trans (Int.mul_le_mul_of_nonneg_right h2 h) (Int.mul_le_mul_of_nonneg_left h4 hA)
    · have e : a * b = (-a) * (-b) := by grind
      rw [e]
      exact Int.le_trans (Int.mul_le_mul_of_nonneg_right (show -a ≤ A by omega) (by omega)) (Int.mul_le_mul_of_nonneg_left (show -b ≤ B by omega) hA)
  have k2 : -(A * B) ≤ a * b := by
    have : (-a) * b ≤ A * B := by
      rcases Int.le_total 0 b with h | h
      · exact Int.le_trans (Int.mul_le_mul_of_nonneg_right (show -a ≤ A by omega) h) (Int.mul_le_mul_of_nonneg_left h4 hA)
      · have e : (-a) * b = a * (-b) := by grind
        rw [e]
        exact Int.le_trans (Int.mul_le_mul_of_nonneg_right h2 (by omega)) (Int.mul_le_mul_of_nonneg_left (show -b ≤ B by omega) hA)
    have e : (-a) * b = -(a * b) := by grind
    omega
  exact ⟨k2, k1⟩

theorem res_cell {fn : Func} {p : Tmp} {ty : TypeId} (h : fn.results = #[.cell p ty]) (tmps : Array Value) (P : Program) (w : World) :
    (results fn tmps).run P w = ((asAddr (tmps.getD p undef)).run P w).andThen fun a w₁ => (loadVar ty a).run P w₁ := by
  simp only [results, h]
  simp [Sem.run_bind, Result.andThen]
theorem load_spot {W : World} {b : Nat} {v0 v1 v2 : Value} (h : VRow W b 127 [v0, v1, v2]) : (loadVar 127 ⟨b, 0, none⟩).run Tryz.prog W = .ok (.agg #[v0, v1, v2]) W := by
  have c0 := h.cell (i := 0) (v := v0) rfl
  have c1 := h.cell (i := 1) (v := v1) rfl
  have c2 := h.cell (i := 2) (v := v2) rfl
  simp [go_sem, c0, c1, c2]
theorem load_seg {W : World} {b : Nat} {v0 v1 v2 v3 : Value} (h : VRow W b 191 [v0, v1, v2, v3]) : (loadVar 191 ⟨b, 0, none⟩).run Tryz.prog W = .ok (.agg #[v0, v1, v2, v3]) W := by
  have c0 := h.cell (i := 0) (v := v0) rfl
  have c1 := h.cell (i := 1) (v := v1) rfl
  have c2 := h.cell (i := 2) (v := v2) rfl
  have c3 := h.cell (i := 3) (v := v3) rfl
  simp [go_sem, c0, c1, c2, c3]
theorem load_pnt {W : World} {b : Nat} {v0 v1 : Value} (h : VRow W b 32 [v0, v1]) : (loadVar 32 ⟨b, 0, none⟩).run Tryz.prog W = .ok (.agg #[v0, v1]) W := by
  have c0 := h.cell (i := 0) (v := v0) rfl
  have c1 := h.cell (i := 1) (v := v1) rfl
  simp [go_sem, c0, c1]
/-- A struct that is given back lies in a cell of the call's own. -/
theorem ret_cell {fn : Func} {p : Tmp} {ty : TypeId} (h : fn.results = #[.cell p ty]) {a : Act} {W : World} {Q : Ending → World → Prop} {b : Nat} {v : Value} (h4 : a.tmps.getD p undef = .pointer (some ⟨b, 0, none⟩)) (hd : a.defers = [])
    (hl : (loadVar ty ⟨b, 0, none⟩).run Tryz.prog W = .ok v W) (hQ : Q (.returned v) W) : bodyPost Tryz.prog fn Q .ret a W := by
  refine bodyPost_ret (v := v) ?_ hd hQ
  rw [res_cell h, h4]
  simp only [asAddr, Sem.run_pure, Result.andThen_ok]
  exact hl
theorem ret_i {a b : Int} (h : a = b) : Ending.returned (.int .i64 a) = .returned (.int .i64 b) := by rw [h]
theorem ret_b {a b : Bool} (h : a = b) : Ending.returned (.bool a) = .returned (.bool b) := by rw [h]

set_option maxHeartbeats 400000 in
theorem sign_any (n : Int) (w : World) : Calls Tryz.prog 253 #[.int .i64 n] w fun e w' => e = .returned (.int .i64 (Vd.sg n)) ∧ w' = w := by
  rcases Vd.sg_cases n with ⟨h, e⟩ | ⟨h, e⟩ | ⟨h, e⟩
  all_goals
    rw [e]
    clear e
    go_enter Tryz.func253, Tryz.ntmps253
    go_wp2
    go_ret
    exact ⟨rfl, rfl⟩

set_option maxHeartbeats 1000000 in
theorem before_any (p q : Pnt) (w : World) : Calls Tryz.prog 236 #[ptV p, ptV q] w fun e w' => e = .returned (.bool (decide (Vd.bef p q))) ∧ Up w w' := by
  obtain ⟨px, py⟩ := p
  obtain ⟨qx, qy⟩ := q
  simp only [ptV, Vd.bef]
  rcases Int.lt_trichotomy px qx with h | h | h
  · go_enter Tryz.func236, Tryz.ntmps236
    go_wp2
    go_ret
    exact ⟨ret_b (by simp [h]), ((Up.refl _).alloc _).alloc _⟩
  · subst h
    by_cases h2 : py < qy
    all_goals
      go_enter Tryz.func236, Tryz.ntmps236
      go_wp2
      go_ret
      exact ⟨ret_b (by simp; omega), ((Up.refl _).alloc _).alloc _⟩
  · have h1 : ¬ px < qx := by omega
    have h2 : (px == qx) = false := beq_eq_false_iff_ne.2 (by omega)
    have h3 : ¬ px = qx := by omega
    go_enter Tryz.func236, Tryz.ntmps236
    go_wp2
    go_ret
    exact ⟨ret_b (by simp; omega), ((Up.refl _).alloc _).alloc _⟩

set_option maxHeartbeats 1000000 in
theorem at_any (p : Pnt) (w : World) : Calls Tryz.prog 199 #[ptV p] w fun e w' => e = .returned (spotV (Vd.at1 p)) ∧ Up w w' := by
  obtain ⟨px, py⟩ := p
  simp only [ptV, spotV, Vd.at1]
  go_enter Tryz.func199, Tryz.ntmps199
  go_wp2
  exact bodyPost_ret (v := .agg #[.int .i64 px, .int .i64 py, .int .i64 1]) (by simp [results, Tryz.results199, go_sem]) rfl ⟨rfl, ((Up.refl _).alloc _).alloc _⟩

set_option maxHeartbeats 1000000 in
theorem middle_any (p q : Pnt) (hp : Vd.Cd p) (hq : Vd.Cd q) (w : World) : Calls Tryz.prog 202 #[ptV p, ptV q] w fun e w' => e = .returned (spotV (Vd.midOf p q)) ∧ Up w w' := by
  obtain ⟨px, py⟩ := p
  obtain ⟨qx, qy⟩ := q
  simp only [Vd.Cd] at hp hq
  simp only [ptV, spotV, Vd.midOf]
  go_enter Tryz.func202, Tryz.ntmps202
  go_wp2
  exact bodyPost_ret (v := .agg #[.int .i64 (px + qx), .int .i64 (py + qy), .int .i64 2]) (by simp [results, Tryz.results202, go_sem]) rfl ⟨rfl, (((Up.refl _).alloc _).alloc _).alloc _⟩

set_option maxHeartbeats 2000000 in
theorem side_any (s : Vd.Seg) (p : Vd.Spot) (hs : Vd.CdS s) (hp : Vd.Sp p) (w : World) : Calls Tryz.prog 233 #[segV s, spotV p] w fun e w' => e = .returned (.int .i64 (Vd.side s p)) ∧ Up w w' := by
  obtain ⟨⟨ax, ay⟩, ⟨bx, bY⟩⟩ := s
  obtain ⟨⟨x, y⟩, t⟩ := p
  simp only [Vd.CdS, Vd.Cd, Vd.Sp] at hs hp
  obtain ⟨⟨a1, a2, a3, a4⟩, b1, b2, b3, b4⟩ := hs
  obtain ⟨p1, p2, p3, p4, p5, p6⟩ := hp
  simp only [segV, spotV, Vd.side, Vd.cr]
  obtain ⟨m1, m2⟩ := mul_bd (a := ax) (b := t) (A := 32768) (B := 1048576) (by omega) a2 (by omega) p6
  obtain ⟨m3, m4⟩ := mul_bd (a := ay) (b := t) (A := 32768) (B := 1048576) (by omega) a4 (by omega) p6
  obtain ⟨n1, n2⟩ := mul_bd (a := bx - ax) (b := y - ay * t) (A := 65536) (B := 68719476736) (by omega) (by omega) (by omega) (by omega)
  obtain ⟨n3, n4⟩ := mul_bd (a := bY - ay) (b := x - ax * t) (A := 65536) (B := 68719476736) (by omega) (by omega) (by omega) (by omega)
  have w1 : wrap64 (ax * t) = ax * t := w64 (by omega) (by omega)
  have w2 : wrap64 (ay * t) = ay * t := w64 (by omega) (by omega)
  have w3 : wrap64 ((bx - ax) * (y - ay * t)) = (bx - ax) * (y - ay * t) := w64 (by omega) (by omega)
  have w4 : wrap64 ((bY - ay) * (x - ax * t)) = (bY - ay) * (x - ax * t) := w64 (by omega) (by omega)
  have w5 : wrap64 (x - ax * t) = x - ax * t := w64 (by omega) (by omega)
  have w6 : wrap64 (y - ay * t) = y - ay * t := w64 (by omega) (by omega)
  have w7 : wrap64 ((bx - ax) * (y - ay * t) - (bY - ay) * (x - ax * t)) = (bx - ax) * (y - ay * t) - (bY - ay) * (x - ax * t) := w64 (by omega) (by omega)
  go_enter Tryz.func233, Tryz.ntmps233
  go_wp2_with (go_at_call 253; refine (sign_any _ _).mono ?_; rintro e w1 ⟨rfl, rfl⟩)
  go_ret
  exact ⟨rfl, ((Up.refl _).alloc _).alloc _⟩
end Go.Proofs.YtcclepohmhdpbaaGreatDoor

/- REGIONS THAT DRAW THEIR ORDER, whose operations read and whose callees make memory and leave what was there: one walk serves every order. -/
namespace Go.Proofs.YtcclepohmhdpbaaGreatDoor
set_option linter.all false
open Go.RowKit Go.Deep

/-- A world that has grown out of w. -/
structure Gr (w : World) where
  v : World
  up : Up w v
instance (w : World) : Nonempty (Gr w) := ⟨⟨w, Up.refl w⟩⟩
theorem wp_region_up {P : Program} {id : Nat} {Q : Exit → Act → World → Prop} {a : Act} {w : World} {l : List Oper} (hm : P.follows .mixedOrders = true) (hB : Region.lexB .any l.toArray = true)
    (h : wpQuiet P l.toArray (fun w' => ∃ g : Gr w, w' = g.v) (fun a' => ∀ w', (∃ g : Gr w, w' = g.v) → Q .normal a' w') l a) : (Code.region id l.toArray true).wp P Q a w :=
  wp_region_quiet (C := fun w' => ∃ g : Gr w, w' = g.v) hm hB ⟨⟨_, (Up.refl w).drew⟩, rfl⟩ (by simpa using h)
theorem Calls.up_of {P : Program} {f : FuncId} {args : Array Value} {w : World} {g : Gr w} {v : Value}
    (h : Calls P f args g.v fun e w' => e = .returned v ∧ Up g.v w') : Calls P f args g.v fun e w'' => e = .returned v ∧ ∃ m : Gr w, w'' = m.v :=
  h.mono fun _ _ ⟨he, hu⟩ => ⟨he, ⟨_, g.up.trans hu⟩, rfl⟩
theorem VRow.gr {w : World} {b : Nat} {t : TypeId} {vs : List Value} (h : VRow w b t vs) {i : Nat} {v : Value} (hi : vs[i]? = some v) (g : Gr w) : g.v.cell? ⟨b, i, none⟩ = some v := g.up.cell (h.cell hi)
theorem cell_gr {w : World} {p : Addr} {v : Value} (h : w.cell? p = some v) (g : Gr w) : g.v.cell? p = some v := g.up.cell h
/-- all old cells, all old marks read as before. -/
theorem bcell {W w1 : World} (hb : Up W w1) : (∀ b o, b < W.heap.size → w1.cell? ⟨b, o, none⟩ = W.cell? ⟨b, o, none⟩) ∧ (∀ b o, b < W.heap.size → w1.frozen? ⟨b, o, none⟩ = W.frozen? ⟨b, o, none⟩) :=
  ⟨fun b o h => Below.cell hb (p := ⟨b, o, none⟩) h, fun b o h => Below.frozen hb (p := ⟨b, o, none⟩) h⟩
end Go.Proofs.YtcclepohmhdpbaaGreatDoor

/- THE WALKS: package plane: has, forward, meet. -/
namespace Go.Proofs.YtcclepohmhdpbaaGreatDoor
set_option linter.all false
open Go.RowKit Go.Deep

set_option maxHeartbeats 1000000 in
theorem between_any (e m o : Int) (w : World) : Calls Tryz.prog 238 #[.int .i64 e, .int .i64 m, .int .i64 o] w fun x w' => x = .returned (.bool (decide (Vd.btw e m o))) ∧ w' = w := by
  unfold Vd.btw
  by_cases h1 : e ≤ m <;> by_cases h2 : m ≤ o <;> by_cases h3 : o ≤ m <;> by_cases h4 : m ≤ e
  all_goals
    go_enter Tryz.func238, Tryz.ntmps238
    go_wp2
    go_ret
    exact ⟨ret_b (by first | exact (decide_eq_true (by omega)).symm | exact (decide_eq_false (by omega)).symm | (simp <;> omega)), rfl⟩

theorem hasB_of (s : Vd.Seg) (p : Vd.Spot) : Vd.hasB s p = (decide (Vd.side s p = 0) && (decide (Vd.btw (s.1.1 * p.2) p.1.1 (s.2.1 * p.2)) && decide (Vd.btw (s.1.2 * p.2) p.1.2 (s.2.2 * p.2)))) := by
  unfold Vd.hasB Vd.has Vd.side
  by_cases h : Vd.cr s.1 s.2 p.1 p.2 = 0
  · have : Vd.sg (Vd.cr s.1 s.2 p.1 p.2) = 0 := (Vd.sg_zero _).2 h
    simp [h, this]
    exact fun _ _ => rfl
  · have : ¬ Vd.sg (Vd.cr s.1 s.2 p.1 p.2) = 0 := fun e => h ((Vd.sg_zero _).1 e)
    simp [h, this]

set_option maxHeartbeats 2000000 in
theorem has_any (s : Vd.Seg) (p : Vd.Spot) (hs : Vd.CdS s) (hp : Vd.Sp p) (w : World) : Calls Tryz.prog 209 #[segV s, spotV p] w fun e w' => e = .returned (.bool (Vd.hasB s p)) ∧ Up w w' := by
  have HB := hide (hasB_of s p)
  have HS := hide hs
  have HP := hide hp
  obtain ⟨⟨ax, ay⟩, ⟨bx, bY⟩⟩ := s
  obtain ⟨⟨x, y⟩, t⟩ := p
  simp only [Vd.CdS, Vd.Cd, Vd.Sp] at hs hp
  obtain ⟨⟨a1, a2, a3, a4⟩, b1, b2, b3, b4⟩ := hs
  obtain ⟨x1, x2, y1, y2, t1, t2⟩ := hp
  have m1 := mul_bd (a := ax) (b := t) (A := 32768) (B := 1048576) (by omega) (by omega) (by omega) (by omega)
  have m2 := mul_bd (a := ay) (b := t) (A := 32768) (B := 1048576) (by omega) (by omega) (by omega) (by omega)
  have m3 := mul_bd (a := bx) (b := t) (A := 32768) (B := 1048576) (by omega) (by omega) (by omega) (by omega)
  have m4 := mul_bd (a := bY) (b := t) (A := 32768) (B := 1048576) (by omega) (by omega) (by omega) (by omega)
  simp only [segV, spotV]
  have wtac : True := trivial
  by_cases h0 : Vd.side ((ax, ay), (bx, bY)) ((x, y), t) = 0
  · cases H1 : decide (Vd.btw (ax * t) x (bx * t))
    all_goals
      have H2 := hide H1
      go_enter Tryz.func209, Tryz.ntmps209
      go_wp2_with (first | (go_at_call 233; refine (side_any ((ax, ay), (bx, bY)) ((x, y), t) HS.out HP.out _).mono ?_; rintro e w1 ⟨rfl, u1⟩; obtain ⟨hc, hf⟩ := bcell u1; replace u1 := hide u1) | (go_at_call 238; refine (between_any _ _ _ _).mono ?_; rintro e w2 ⟨rfl, rfl⟩))
      go_ret
      exact ⟨ret_b (by rw [HB.out]; simp only [H2.out, h0]; simp), (((Up.refl _).alloc _).alloc _).trans u1.out⟩
  · have h0' : (Vd.side ((ax, ay), (bx, bY)) ((x, y), t) == 0) = false := beq_eq_false_iff_ne.2 h0
    go_enter Tryz.func209, Tryz.ntmps209
    go_wp2_with (first | (go_at_call 233; refine (side_any ((ax, ay), (bx, bY)) ((x, y), t) HS.out HP.out _).mono ?_; rintro e w1 ⟨rfl, u1⟩; obtain ⟨hc, hf⟩ := bcell u1; replace u1 := hide u1))
    go_ret
    exact ⟨ret_b (by rw [HB.out]; simp [h0]), (((Up.refl _).alloc _).alloc _).trans u1.out⟩

theorem seg_eta (s : Vd.Seg) : segV s = .agg #[.int .i64 s.1.1, .int .i64 s.1.2, .int .i64 s.2.1, .int .i64 s.2.2] := rfl
set_option maxHeartbeats 2000000 in
theorem forward_any (s : Vd.Seg) (w : World) : Calls Tryz.prog 200 #[segV s] w fun e w' => e = .returned (segV (Vd.fwd s.1 s.2)) ∧ Up w w' := by
  obtain ⟨⟨ax, ay⟩, ⟨bx, bY⟩⟩ := s
  simp only [Vd.fwd]
  by_cases h : Vd.bef (bx, bY) (ax, ay)
  · rw [if_pos h]
    have H := hide (decide_eq_true h)
    simp only [segV]
    go_enter Tryz.func200, Tryz.ntmps200
    go_wp2_with (go_at_call 236; refine (before_any (bx, bY) (ax, ay) _).mono ?_; rintro e w1 ⟨rfl, u1⟩; rw [H.out]; obtain ⟨hc, hf⟩ := bcell u1; have hz := u1.size; simp at hz; replace u1 := hide u1)
    refine bodyPost_ret (v := .agg #[.int .i64 bx, .int .i64 bY, .int .i64 ax, .int .i64 ay]) (by simp [results, Tryz.results200, go_sem, hc, hf, hz]) rfl ⟨rfl, ?_⟩
    repeat (refine Up.setCell ?_ (by simp) _)
    exact (((Up.refl _).alloc _).alloc _).trans u1.out
  · rw [if_neg h]
    have H := hide (decide_eq_false h)
    simp only [segV]
    go_enter Tryz.func200, Tryz.ntmps200
    go_wp2_with (go_at_call 236; refine (before_any (bx, bY) (ax, ay) _).mono ?_; rintro e w1 ⟨rfl, u1⟩; rw [H.out]; obtain ⟨hc, hf⟩ := bcell u1; have hz := u1.size; simp at hz; replace u1 := hide u1)
    refine bodyPost_ret (v := .agg #[.int .i64 ax, .int .i64 ay, .int .i64 bx, .int .i64 bY]) (by simp [results, Tryz.results200, go_sem, hc, hf, hz]) rfl ⟨rfl, ?_⟩
    repeat (refine Up.setCell ?_ (by simp) _)
    exact (((Up.refl _).alloc _).alloc _).trans u1.out

end Go.Proofs.YtcclepohmhdpbaaGreatDoor

/- THE WALKS: package plane: meetOnLine. -/
namespace Go.Proofs.YtcclepohmhdpbaaGreatDoor
set_option linter.all false
open Go.RowKit Go.Deep

/-- meetOnLine, by what it keeps. -/
def onF (f l : Pnt) : Int := if Vd.bef f l then 3 else if f = l then 1 else 0
theorem onLine_F (s t : Vd.Seg) : Vd.onLine s t = onF (if Vd.bef s.1 t.1 then t.1 else s.1) (if Vd.bef t.2 s.2 then t.2 else s.2) := rfl
theorem new_row {w : World} {o : Obj} {vs : List Value} {t : TypeId} (h : o = .cells vs.toArray t (0, 0)) : VRow (w.alloc o) w.heap.size t vs := by subst h; exact VRow.new w vs t
theorem row_set2 {w : World} {b : Nat} {t : TypeId} {x y : Value} (h : VRow w b t [x, y]) (u v : Value) : VRow ((w.setCell ⟨b, 0, none⟩ u).setCell ⟨b, 1, none⟩ v) b t [u, v] := (h.set 0 u).set 1 v
set_option maxHeartbeats 4000000 in
theorem online_any (s t : Vd.Seg) (w : World) : Calls Tryz.prog 234 #[segV s, segV t] w fun e w' => e = .returned (.int .i64 (Vd.onLine s t)) ∧ Up w w' := by
  have HE := hide (onLine_F s t)
  obtain ⟨⟨ax, ay⟩, ⟨bx, bY⟩⟩ := s
  obtain ⟨⟨cx, cy⟩, ⟨dx, dy⟩⟩ := t
  simp only [segV]
  go_enter Tryz.func234, Tryz.ntmps234
  have R0 := hide (((new_row (w := w) (o := .cells #[.int .i64 ax, .int .i64 ay, .int .i64 bx, .int .i64 bY] 191) (vs := [.int .i64 ax, .int .i64 ay, .int .i64 bx, .int .i64 bY]) rfl).alloc (.cells #[.int .i64 cx, .int .i64 cy, .int .i64 dx, .int .i64 dy] 191)).alloc (.cells #[.int .i64 ax, .int .i64 ay] 32))
  have R1 := hide ((new_row (w := w.alloc (.cells #[.int .i64 ax, .int .i64 ay, .int .i64 bx, .int .i64 bY] 191)) (o := .cells #[.int .i64 cx, .int .i64 cy, .int .i64 dx, .int .i64 dy] 191) (vs := [.int .i64 cx, .int .i64 cy, .int .i64 dx, .int .i64 dy]) rfl).alloc (.cells #[.int .i64 ax, .int .i64 ay] 32))
  have R2 := hide (new_row (w := (w.alloc (.cells #[.int .i64 ax, .int .i64 ay, .int .i64 bx, .int .i64 bY] 191)).alloc (.cells #[.int .i64 cx, .int .i64 cy, .int .i64 dx, .int .i64 dy] 191)) (o := .cells #[.int .i64 ax, .int .i64 ay] 32) (vs := [.int .i64 ax, .int .i64 ay]) rfl)
  rw [show (w.alloc (.cells #[.int .i64 ax, .int .i64 ay, .int .i64 bx, .int .i64 bY] 191)).heap.size = w.heap.size + 1 by simp] at R1
  rw [show ((w.alloc (.cells #[.int .i64 ax, .int .i64 ay, .int .i64 bx, .int .i64 bY] 191)).alloc (.cells #[.int .i64 cx, .int .i64 cy, .int .i64 dx, .int .i64 dy] 191)).heap.size = w.heap.size + 2 by simp] at R2
  go_upto_if 12 with (go_at_call 236; refine (before_any (ax, ay) (cx, cy) _).mono ?_; rintro e w1 ⟨rfl, u1⟩; replace u1 := hide u1)
  have S0 := hide (R0.out.of_block (u1.out.block _ R0.out.lt))
  have S1 := hide (R1.out.of_block (u1.out.block _ R1.out.lt))
  have S2 := hide (R2.out.of_block (u1.out.block _ R2.out.lt))
  have HU1 : Hid (Up w w1) := (((((Up.refl _).alloc _).alloc _).alloc _).trans u1.out)
  clear R0 R1 R2 u1
  have a0 := S1.out.cell (i := 0) rfl
  have a1 := S1.out.cell (i := 1) rfl
  have b0 := S2.out.cell (i := 0) rfl
  have b1 := S2.out.cell (i := 1) rfl
  have bf := fun i => S2.out.frozen i
  go_cut [] (fun wc => ∃ fx fy : Int, Hid ((fx, fy) = if Vd.bef (ax, ay) (cx, cy) then (cx, cy) else (ax, ay)) ∧ Hid (Up w wc) ∧ Hid (VRow wc w.heap.size 191 [.int .i64 ax, .int .i64 ay, .int .i64 bx, .int .i64 bY]) ∧ Hid (VRow wc (w.heap.size + 1) 191 [.int .i64 cx, .int .i64 cy, .int .i64 dx, .int .i64 dy]) ∧ Hid (VRow wc (w.heap.size + 2) 32 [.int .i64 fx, .int .i64 fy]))
  case first =>
    by_cases h : Vd.bef (ax, ay) (cx, cy)
    · have D := hide h
      have d : decide (Vd.bef (ax, ay) (cx, cy)) = true := decide_eq_true h
      clear h
      go_wp2
      go_meet
      case rel => exact ⟨cx, cy, (if_pos D.out).symm, Up.setCell (Up.setCell HU1.out (by show w.heap.size ≤ w.heap.size + 2; omega) _) (by show w.heap.size ≤ w.heap.size + 2; omega) _, (S0.out.setOther (by show w.heap.size ≠ w.heap.size + 2; omega) _).setOther (by show w.heap.size ≠ w.heap.size + 2; omega) _, (S1.out.setOther (by show w.heap.size + 1 ≠ w.heap.size + 2; omega) _).setOther (by show w.heap.size + 1 ≠ w.heap.size + 2; omega) _, row_set2 S2.out _ _⟩
    · have D := hide h
      have d : decide (Vd.bef (ax, ay) (cx, cy)) = false := decide_eq_false h
      clear h
      go_wp2
      go_meet
      case rel => exact ⟨ax, ay, (if_neg D.out).symm, HU1.out, S0.out, S1.out, S2.out⟩
  case rest =>
    clear a0 a1 b0 b1 bf S0 S1 S2 HU1
    obtain ⟨fx, fy, HF, HU, S0, S1, S2⟩ := hcut
    have c2 := S0.out.cell (i := 2) rfl
    have c3 := S0.out.cell (i := 3) rfl
    have e2a := fun o => (S1.out.alloc o).cell (i := 2) rfl
    have e3a := fun o => (S1.out.alloc o).cell (i := 3) rfl
    have T1 := hide (S1.out.alloc (.cells #[.int .i64 bx, .int .i64 bY] 32))
    have T2 := hide (S2.out.alloc (.cells #[.int .i64 bx, .int .i64 bY] 32))
    have T3 := hide (new_row (w := wc) (o := .cells #[.int .i64 bx, .int .i64 bY] 32) (vs := [.int .i64 bx, .int .i64 bY]) rfl)
    have hne : w.heap.size + 2 ≠ wc.heap.size := by have := S2.out.lt; omega
    have HNE := hide hne
    clear hne
    go_upto_if 20 with (go_at_call 236; refine (before_any (dx, dy) (bx, bY) _).mono ?_; rintro e w1 ⟨rfl, u1⟩; replace u1 := hide u1)
    have g2 := (T1.out.of_block (u1.out.block _ T1.out.lt)).cell (i := 2) rfl
    have g3 := (T1.out.of_block (u1.out.block _ T1.out.lt)).cell (i := 3) rfl
    have V1 := hide (T2.out.of_block (u1.out.block _ T2.out.lt))
    have V2 := hide (T3.out.of_block (u1.out.block _ T3.out.lt))
    have k0 := V2.out.cell (i := 0) rfl
    have k1 := V2.out.cell (i := 1) rfl
    have kf := fun i => V2.out.frozen i
    have HU1 : Hid (Up w w1) := (HU.out.alloc _).trans u1.out
    have HS := hide HU.out.size
    clear T1 T2 T3 u1 e2a e3a c2 c3
    go_cut [] (fun wd => ∃ lx ly : Int, Hid ((lx, ly) = if Vd.bef (dx, dy) (bx, bY) then (dx, dy) else (bx, bY)) ∧ Hid (Up w wd) ∧ Hid (VRow wd (w.heap.size + 2) 32 [.int .i64 fx, .int .i64 fy]) ∧ Hid (VRow wd wc.heap.size 32 [.int .i64 lx, .int .i64 ly]))
    case first =>
      by_cases h : Vd.bef (dx, dy) (bx, bY)
      · have D := hide h
        have d : decide (Vd.bef (dx, dy) (bx, bY)) = true := decide_eq_true h
        clear h
        go_wp2
        go_meet
        case rel => exact ⟨dx, dy, (if_pos D.out).symm, Up.setCell (Up.setCell HU1.out HS.out _) HS.out _, (V1.out.setOther HNE.out _).setOther HNE.out _, row_set2 V2.out _ _⟩
      · have D := hide h
        have d : decide (Vd.bef (dx, dy) (bx, bY)) = false := decide_eq_false h
        clear h
        go_wp2
        go_meet
        case rel => exact ⟨bx, bY, (if_neg D.out).symm, HU1.out, V1.out, V2.out⟩
    case rest =>
      clear g2 g3 V1 V2 k0 k1 kf HU1
      obtain ⟨lx, ly, HL, HU2, V1, V2⟩ := hcut
      have p0 := V1.out.cell (i := 0) rfl
      have p1 := V1.out.cell (i := 1) rfl
      have q0 := V2.out.cell (i := 0) rfl
      have q1 := V2.out.cell (i := 1) rfl
      have HR : Hid (Vd.onLine ((ax, ay), bx, bY) ((cx, cy), dx, dy) = onF (fx, fy) (lx, ly)) := by
        rw [HE.out, HF.out, HL.out]; exact rfl
      by_cases h : Vd.bef (fx, fy) (lx, ly)
      · have D := hide h
        clear h
        go_wp2_with (go_at_call 236; refine (before_any (fx, fy) (lx, ly) _).mono ?_; rintro e w1 ⟨rfl, u1⟩; replace u1 := hide u1; rw [decide_eq_true D.out])
        go_ret
        exact ⟨ret_i (by rw [HR.out]; unfold onF; rw [if_pos D.out]), HU2.out.trans u1.out⟩
      · have D := hide h
        clear h
        by_cases h : (fx, fy) = (lx, ly)
        · cases h
          go_wp2_with (go_at_call 236; refine (before_any (fx, fy) (fx, fy) _).mono ?_; rintro e w1 ⟨rfl, u1⟩; replace u1 := hide u1; have r0 := u1.out.cell p0; have r1 := u1.out.cell p1; have r2 := u1.out.cell q0; have r3 := u1.out.cell q1; rw [decide_eq_false D.out])
          go_ret
          exact ⟨ret_i (by rw [HR.out]; unfold onF; rw [if_neg D.out, if_pos rfl]), HU2.out.trans u1.out⟩
        · have D2 := hide h
          rcases (show fx ≠ lx ∨ (fx = lx ∧ fy ≠ ly) from by by_cases c : fx = lx; exact .inr ⟨c, fun e => h (by rw [c, e])⟩; exact .inl c) with hd | ⟨rfl, hd⟩
          all_goals
            have hd' := beq_eq_false_iff_ne.2 hd
            clear h
            go_wp2_with (go_at_call 236; refine (before_any (fx, fy) (_, ly) _).mono ?_; rintro e w1 ⟨rfl, u1⟩; replace u1 := hide u1; have r0 := u1.out.cell p0; have r1 := u1.out.cell p1; have r2 := u1.out.cell q0; have r3 := u1.out.cell q1; rw [decide_eq_false D.out])
            go_ret
            exact ⟨ret_i (by rw [HR.out]; unfold onF; rw [if_neg D.out, if_neg D2.out]), HU2.out.trans u1.out⟩
end Go.Proofs.YtcclepohmhdpbaaGreatDoor

/- THE WALKS: package plane: Meet. -/
namespace Go.Proofs.YtcclepohmhdpbaaGreatDoor
set_option linter.all false
open Go.RowKit Go.Deep

theorem VRow.up {w w' : World} {b : Nat} {t : TypeId} {vs : List Value} (h : VRow w b t vs) (k : Up w w') : VRow w' b t vs := h.of_block (k.block _ h.lt)
theorem side_at (s : Vd.Seg) (p : Pnt) : Vd.side s (Vd.at1 p) = Vd.sg (Vd.cr s.1 s.2 p 1) := rfl
theorem sg_bd (n : Int) : -1 ≤ Vd.sg n ∧ Vd.sg n ≤ 1 := by rcases Vd.sg_cases n with ⟨_, e⟩ | ⟨_, e⟩ | ⟨_, e⟩ <;> rw [e] <;> omega
/-- Meet, by the four sides. -/
def meetK (x : Int) (a b c d : Int) : Int := if a = 0 ∧ b = 0 ∧ c = 0 ∧ d = 0 then x else if a * b > 0 ∨ c * d > 0 then 0 else if a * b * c * d = 0 then 1 else 2
theorem meet_K (s t : Vd.Seg) : Vd.meetS s t = meetK (Vd.onLine (Vd.fwd s.1 s.2) (Vd.fwd t.1 t.2)) (Vd.side s (Vd.at1 t.1)) (Vd.side s (Vd.at1 t.2)) (Vd.side t (Vd.at1 s.1)) (Vd.side t (Vd.at1 s.2)) := rfl

set_option maxHeartbeats 4000000 in
theorem meet_any (s t : Vd.Seg) (hs : Vd.CdS s) (ht : Vd.CdS t) (w : World) : Calls Tryz.prog 196 #[segV s, segV t] w fun e w' => e = .returned (.int .i64 (Vd.meetS s t)) ∧ Up w w' := by
  have HE := hide (meet_K s t)
  have HS := hide hs
  have HT := hide ht
  obtain ⟨⟨ax, ay⟩, ⟨bx, bY⟩⟩ := s
  obtain ⟨⟨cx, cy⟩, ⟨dx, dy⟩⟩ := t
  clear hs ht
  simp only [segV]
  have R0 := hide ((new_row (w := w) (o := .cells #[.int .i64 ax, .int .i64 ay, .int .i64 bx, .int .i64 bY] 191) (vs := [.int .i64 ax, .int .i64 ay, .int .i64 bx, .int .i64 bY]) rfl).alloc (.cells #[.int .i64 cx, .int .i64 cy, .int .i64 dx, .int .i64 dy] 191))
  have R1 := hide ((new_row (w := w.alloc (.cells #[.int .i64 ax, .int .i64 ay, .int .i64 bx, .int .i64 bY] 191)) (o := .cells #[.int .i64 cx, .int .i64 cy, .int .i64 dx, .int .i64 dy] 191) (vs := [.int .i64 cx, .int .i64 cy, .int .i64 dx, .int .i64 dy]) rfl))
  rw [show (w.alloc (.cells #[.int .i64 ax, .int .i64 ay, .int .i64 bx, .int .i64 bY] 191)).heap.size = w.heap.size + 1 by simp] at R1
  have HU : Hid (Up w ((w.alloc (.cells #[.int .i64 ax, .int .i64 ay, .int .i64 bx, .int .i64 bY] 191)).alloc (.cells #[.int .i64 cx, .int .i64 cy, .int .i64 dx, .int .i64 dy] 191))) := ((Up.refl _).alloc _).alloc _
  go_enter Tryz.func196, Tryz.ntmps196
  go_wp2_with fail
  generalize (w.alloc (.cells #[.int .i64 ax, .int .i64 ay, .int .i64 bx, .int .i64 bY] 191)).alloc (.cells #[.int .i64 cx, .int .i64 cy, .int .i64 dx, .int .i64 dy] 191) = W at *
  have s0 := R0.out.gr (i := 0) rfl
  have s1 := R0.out.gr (i := 1) rfl
  have s2 := R0.out.gr (i := 2) rfl
  have s3 := R0.out.gr (i := 3) rfl
  have t0 := R1.out.gr (i := 0) rfl
  have t1 := R1.out.gr (i := 1) rfl
  have t2 := R1.out.gr (i := 2) rfl
  have t3 := R1.out.gr (i := 3) rfl
  refine wp_region_up (by kernel_rfl) (by kernel_rfl) ?_
  repeat (first | go_big_quiet_step ((first | (go_at_call 199; exact Calls.up_of (at_any (cx, cy) _)) | (go_at_call 233; exact Calls.up_of (side_any ((ax, ay), (bx, bY)) (Vd.at1 (cx, cy)) HS.out (Vd.at1_sp HT.out.1) _)))))
  refine wpQuiet_nil ?_
  rintro _ ⟨⟨w1, u⟩, rfl⟩
  replace R0 := hide (R0.out.up u)
  replace R1 := hide (R1.out.up u)
  replace HU := hide (HU.out.trans u)
  clear s0 s1 s2 s3 t0 t1 t2 t3 u
  go_wp2_with fail
  have s0 := R0.out.gr (i := 0) rfl
  have s1 := R0.out.gr (i := 1) rfl
  have s2 := R0.out.gr (i := 2) rfl
  have s3 := R0.out.gr (i := 3) rfl
  have t0 := R1.out.gr (i := 0) rfl
  have t1 := R1.out.gr (i := 1) rfl
  have t2 := R1.out.gr (i := 2) rfl
  have t3 := R1.out.gr (i := 3) rfl
  refine wp_region_up (by kernel_rfl) (by kernel_rfl) ?_
  repeat (first | go_big_quiet_step ((first | (go_at_call 199; exact Calls.up_of (at_any (dx, dy) _)) | (go_at_call 233; exact Calls.up_of (side_any ((ax, ay), (bx, bY)) (Vd.at1 (dx, dy)) HS.out (Vd.at1_sp HT.out.2) _)))))
  refine wpQuiet_nil ?_
  rintro _ ⟨⟨w2, u⟩, rfl⟩
  replace R0 := hide (R0.out.up u)
  replace R1 := hide (R1.out.up u)
  replace HU := hide (HU.out.trans u)
  clear s0 s1 s2 s3 t0 t1 t2 t3 u
  go_wp2_with fail
  have s0 := R0.out.gr (i := 0) rfl
  have s1 := R0.out.gr (i := 1) rfl
  have s2 := R0.out.gr (i := 2) rfl
  have s3 := R0.out.gr (i := 3) rfl
  have t0 := R1.out.gr (i := 0) rfl
  have t1 := R1.out.gr (i := 1) rfl
  have t2 := R1.out.gr (i := 2) rfl
  have t3 := R1.out.gr (i := 3) rfl
  refine wp_region_up (by kernel_rfl) (by kernel_rfl) ?_
  repeat (first | go_big_quiet_step ((first | (go_at_call 199; exact Calls.up_of (at_any (ax, ay) _)) | (go_at_call 233; exact Calls.up_of (side_any ((cx, cy), (dx, dy)) (Vd.at1 (ax, ay)) HT.out (Vd.at1_sp HS.out.1) _)))))
  refine wpQuiet_nil ?_
  rintro _ ⟨⟨w3, u⟩, rfl⟩
  replace R0 := hide (R0.out.up u)
  replace R1 := hide (R1.out.up u)
  replace HU := hide (HU.out.trans u)
  clear s0 s1 s2 s3 t0 t1 t2 t3 u
  go_wp2_with fail
  have s0 := R0.out.gr (i := 0) rfl
  have s1 := R0.out.gr (i := 1) rfl
  have s2 := R0.out.gr (i := 2) rfl
  have s3 := R0.out.gr (i := 3) rfl
  have t0 := R1.out.gr (i := 0) rfl
  have t1 := R1.out.gr (i := 1) rfl
  have t2 := R1.out.gr (i := 2) rfl
  have t3 := R1.out.gr (i := 3) rfl
  refine wp_region_up (by kernel_rfl) (by kernel_rfl) ?_
  repeat (first | go_big_quiet_step ((first | (go_at_call 199; exact Calls.up_of (at_any (bx, bY) _)) | (go_at_call 233; exact Calls.up_of (side_any ((cx, cy), (dx, dy)) (Vd.at1 (bx, bY)) HT.out (Vd.at1_sp HS.out.2) _)))))
  refine wpQuiet_nil ?_
  rintro _ ⟨⟨w4, u⟩, rfl⟩
  replace R0 := hide (R0.out.up u)
  replace R1 := hide (R1.out.up u)
  replace HU := hide (HU.out.trans u)
  clear s0 s1 s2 s3 t0 t1 t2 t3 u
  have B1 := sg_bd (Vd.cr (ax, ay) (bx, bY) (cx, cy) 1)
  have B2 := sg_bd (Vd.cr (ax, ay) (bx, bY) (dx, dy) 1)
  have B3 := sg_bd (Vd.cr (cx, cy) (dx, dy) (ax, ay) 1)
  have B4 := sg_bd (Vd.cr (cx, cy) (dx, dy) (bx, bY) 1)
  simp only [side_at] at HE ⊢
  generalize Vd.sg (Vd.cr (ax, ay) (bx, bY) (cx, cy) 1) = a at *
  generalize Vd.sg (Vd.cr (ax, ay) (bx, bY) (dx, dy) 1) = b at *
  generalize Vd.sg (Vd.cr (cx, cy) (dx, dy) (ax, ay) 1) = c at *
  generalize Vd.sg (Vd.cr (cx, cy) (dx, dy) (bx, bY) 1) = d at *
  have k1 : wrap64 (a * b) = a * b := w64 (by have := (mul_bd (a := a) (b := b) (A := 1) (B := 1) (by omega) (by omega) (by omega) (by omega)); omega) (by have := (mul_bd (a := a) (b := b) (A := 1) (B := 1) (by omega) (by omega) (by omega) (by omega)); omega)
  have k2 : wrap64 (c * d) = c * d := w64 (by have := (mul_bd (a := c) (b := d) (A := 1) (B := 1) (by omega) (by omega) (by omega) (by omega)); omega) (by have := (mul_bd (a := c) (b := d) (A := 1) (B := 1) (by omega) (by omega) (by omega) (by omega)); omega)
  have m1 := mul_bd (a := a) (b := b) (A := 1) (B := 1) (by omega) (by omega) (by omega) (by omega)
  have m2 := mul_bd (a := a * b) (b := c) (A := 1) (B := 1) (by omega) (by omega) (by omega) (by omega)
  have m3 := mul_bd (a := a * b * c) (b := d) (A := 1) (B := 1) (by omega) (by omega) (by omega) (by omega)
  have k3 : wrap64 (a * b * c) = a * b * c := w64 (by omega) (by omega)
  have k4 : wrap64 (a * b * c * d) = a * b * c * d := w64 (by omega) (by omega)
  by_cases hz : a = 0 ∧ b = 0 ∧ c = 0 ∧ d = 0
  · obtain ⟨rfl, rfl, rfl, rfl⟩ := hz
    clear B1 B2 B3 B4 k1 k2 k3 k4 m1 m2 m3
    have HR : Hid (Vd.meetS ((ax, ay), bx, bY) ((cx, cy), dx, dy) = Vd.onLine (Vd.fwd (ax, ay) (bx, bY)) (Vd.fwd (cx, cy) (dx, dy))) := HE.out
    go_wp2_with fail
    have s0 := R0.out.gr (i := 0) rfl
    have s1 := R0.out.gr (i := 1) rfl
    have s2 := R0.out.gr (i := 2) rfl
    have s3 := R0.out.gr (i := 3) rfl
    have t0 := R1.out.gr (i := 0) rfl
    have t1 := R1.out.gr (i := 1) rfl
    have t2 := R1.out.gr (i := 2) rfl
    have t3 := R1.out.gr (i := 3) rfl
    refine wp_region_up (by kernel_rfl) (by kernel_rfl) ?_
    repeat (first | go_big_quiet_step ((first | (go_at_call_of 200 (Value.agg #[.int .i64 ax, .int .i64 ay, .int .i64 bx, .int .i64 bY]); exact Calls.up_of (forward_any ((ax, ay), (bx, bY)) _)) | (go_at_call 200; exact Calls.up_of (forward_any ((cx, cy), (dx, dy)) _)) | (go_at_call 234; exact Calls.up_of (online_any (Vd.fwd (ax, ay) (bx, bY)) (Vd.fwd (cx, cy) (dx, dy)) _)))))
    refine wpQuiet_nil ?_
    rintro _ ⟨⟨w5, u⟩, rfl⟩
    go_wp2
    go_ret
    exact ⟨ret_i HR.out.symm, HU.out.trans u⟩
  · have HZ := hide hz
    have hcs : (a == 0) = false ∨ (a = 0 ∧ (b == 0) = false) ∨ (a = 0 ∧ b = 0 ∧ (c == 0) = false) ∨ (a = 0 ∧ b = 0 ∧ c = 0 ∧ (d == 0) = false) := by
      simp only [beq_eq_false_iff_ne]; omega
    by_cases p1 : 0 < a * b
    · have HR : Hid (Vd.meetS ((ax, ay), bx, bY) ((cx, cy), dx, dy) = 0) := by rw [HE.out]; unfold meetK; rw [if_neg HZ.out, if_pos (.inl p1)]; exact rfl
      clear hz B1 B2 B3 B4 m1 m2 m3
      rcases hcs with h | ⟨rfl, h⟩ | ⟨rfl, rfl, h⟩ | ⟨rfl, rfl, rfl, h⟩
      all_goals
        first
        | (exfalso; simp at p1; done)
        | (go_wp2; go_ret; exact ⟨ret_i HR.out.symm, HU.out⟩)
    · by_cases p2 : 0 < c * d
      · have HR : Hid (Vd.meetS ((ax, ay), bx, bY) ((cx, cy), dx, dy) = 0) := by rw [HE.out]; unfold meetK; rw [if_neg HZ.out, if_pos (.inr p2)]; exact rfl
        clear hz B1 B2 B3 B4 m1 m2 m3
        rcases hcs with h | ⟨rfl, h⟩ | ⟨rfl, rfl, h⟩ | ⟨rfl, rfl, rfl, h⟩
        all_goals
          first
          | (exfalso; simp at p2; done)
          | (go_wp2; go_ret; exact ⟨ret_i HR.out.symm, HU.out⟩)
      · by_cases p3 : a * b * c * d = 0
        · have HR : Hid (Vd.meetS ((ax, ay), bx, bY) ((cx, cy), dx, dy) = 1) := by rw [HE.out]; unfold meetK; rw [if_neg HZ.out, if_neg (by omega), if_pos p3]; exact rfl
          clear hz B1 B2 B3 B4 m1 m2 m3
          rcases hcs with h | ⟨rfl, h⟩ | ⟨rfl, rfl, h⟩ | ⟨rfl, rfl, rfl, h⟩
          all_goals
            go_wp2
            go_ret
            exact ⟨ret_i HR.out.symm, HU.out⟩
        · have HR : Hid (Vd.meetS ((ax, ay), bx, bY) ((cx, cy), dx, dy) = 2) := by rw [HE.out]; unfold meetK; rw [if_neg HZ.out, if_neg (by omega), if_neg p3]; exact rfl
          have p3' := beq_eq_false_iff_ne.2 p3
          clear hz B1 B2 B3 B4 m1 m2 m3
          rcases hcs with h | ⟨rfl, h⟩ | ⟨rfl, rfl, h⟩ | ⟨rfl, rfl, rfl, h⟩
          all_goals
            first
            | (exfalso; simp at p3; done)
            | (go_wp2; go_ret; exact ⟨ret_i HR.out.symm, HU.out⟩)
end Go.Proofs.YtcclepohmhdpbaaGreatDoor

/- THE WALKS: package plane: Segments, meetsRay. -/
namespace Go.Proofs.YtcclepohmhdpbaaGreatDoor
set_option linter.all false
open Go.RowKit Go.Deep

theorem wrap_id {x : Int} (h1 : -9223372036854775808 ≤ x) (h2 : x ≤ 9223372036854775807) : IntKind.i64.wrap x = x := by
  simp [IntKind.wrap, IntKind.bits, IntKind.signed]; omega
/-! ### lists of what is some cells wide -/
def flatG {α : Type} (f : α → List Value) (l : List α) : List Value := l.flatMap f
theorem flatG_append {α : Type} (f : α → List Value) (a b : List α) : flatG f (a ++ b) = flatG f a ++ flatG f b := by simp [flatG]
theorem flatG_at {α : Type} {f : α → List Value} {n : Nat} (hf : ∀ x, (f x).length = n) : ∀ (l : List α) (i : Nat) (x : α) (j : Nat) (u : Value), l[i]? = some x → (f x)[j]? = some u → (flatG f l)[i * n + j]? = some u := by
  intro l
  induction l with
  | nil => intro i x j u h; simp at h
  | cons a t ih =>
    intro i x j u h hu
    have hj : j < n := by rw [← hf x]; exact Pl.lt_of_some hu
    show (f a ++ flatG f t)[i * n + j]? = some u
    cases i with
    | zero => simp at h; subst h; rw [List.getElem?_append_left (by rw [hf]; omega)]; simpa using hu
    | succ i =>
      rw [List.getElem?_append_right (by rw [hf, Nat.succ_mul]; omega), hf, show (i + 1) * n + j - n = i * n + j by rw [Nat.succ_mul]; omega]
      exact ih i x j u (by simpa using h) hu
/-- A list reads as these. -/
def RdG {α : Type} (n : Nat) (f : α → List Value) (w : World) (v : Value) (l : List α) : Prop :=
  ∃ ao cap, v = .slice ao l.length cap ∧ ∀ i x, l[i]? = some x → ∃ b, ao = some ⟨b, 0, none⟩ ∧ ∀ j u, (f x)[j]? = some u → w.cell? ⟨b, i * n + j, none⟩ = some u
theorem RdG.up {α : Type} {n : Nat} {f : α → List Value} {w w' : World} {v : Value} {l : List α} (h : RdG n f w v l) (k : Up w w') : RdG n f w' v l := by
  obtain ⟨ao, cap, e, h⟩ := h
  exact ⟨ao, cap, e, fun i x hx => by obtain ⟨b, e1, e2⟩ := h i x hx; exact ⟨b, e1, fun j u hu => k.cell (e2 j u hu)⟩⟩
theorem own_rdG {α : Type} {n : Nat} {f : α → List Value} (hf : ∀ x, (f x).length = n) {w : World} {base : Nat} {e : TypeId} {v : Value} {l : List α} (h : w.ownsRow base e n v l.length (flatG f l)) : RdG n f w v l := by
  obtain ⟨ao, cap, ev⟩ := own_len h
  refine ⟨ao, cap, ev, fun i x hx => ?_⟩
  obtain ⟨g, cap', e', hc⟩ := own_cell h (by have := Pl.lt_of_some hx; omega)
  rw [ev] at e'
  cases e'
  exact ⟨g, rfl, fun j u hu => hc _ _ (flatG_at hf l i x j u hx hu)⟩
def segC (s : Vd.Seg) : List Value := [.int .i64 s.1.1, .int .i64 s.1.2, .int .i64 s.2.1, .int .i64 s.2.2]
def spotC (p : Vd.Spot) : List Value := [.int .i64 p.1.1, .int .i64 p.1.2, .int .i64 p.2]
def ptC (p : Pnt) : List Value := [.int .i64 p.1, .int .i64 p.2]
def intC (n : Nat) : List Value := [.int .i64 n]
abbrev RdSeg := RdG 4 segC
abbrev RdSpot := RdG 3 spotC
abbrev RdInt := RdG 1 intC
theorem RdG.seg {w : World} {v : Value} {l : List Vd.Seg} (h : RdSeg w v l) {i : Nat} {s : Vd.Seg} (hs : l[i]? = some s) : ∃ b cap, v = .slice (some ⟨b, 0, none⟩) l.length cap ∧ w.cell? ⟨b, i * 4, none⟩ = some (.int .i64 s.1.1) ∧ w.cell? ⟨b, i * 4 + 1, none⟩ = some (.int .i64 s.1.2) ∧ w.cell? ⟨b, i * 4 + 2, none⟩ = some (.int .i64 s.2.1) ∧ w.cell? ⟨b, i * 4 + 3, none⟩ = some (.int .i64 s.2.2) := by
  obtain ⟨ao, cap, e, h⟩ := h
  obtain ⟨b, rfl, hc⟩ := h i s hs
  exact ⟨b, cap, e, hc 0 _ rfl, hc 1 _ rfl, hc 2 _ rfl, hc 3 _ rfl⟩
theorem RdG.spot {w : World} {v : Value} {l : List Vd.Spot} (h : RdSpot w v l) {i : Nat} {s : Vd.Spot} (hs : l[i]? = some s) : ∃ b cap, v = .slice (some ⟨b, 0, none⟩) l.length cap ∧ w.cell? ⟨b, i * 3, none⟩ = some (.int .i64 s.1.1) ∧ w.cell? ⟨b, i * 3 + 1, none⟩ = some (.int .i64 s.1.2) ∧ w.cell? ⟨b, i * 3 + 2, none⟩ = some (.int .i64 s.2) := by
  obtain ⟨ao, cap, e, h⟩ := h
  obtain ⟨b, rfl, hc⟩ := h i s hs
  exact ⟨b, cap, e, hc 0 _ rfl, hc 1 _ rfl, hc 2 _ rfl⟩
theorem RdG.int {w : World} {v : Value} {l : List Nat} (h : RdInt w v l) {i : Nat} {s : Nat} (hs : l[i]? = some s) : ∃ b cap, v = .slice (some ⟨b, 0, none⟩) l.length cap ∧ w.cell? ⟨b, i, none⟩ = some (.int .i64 s) := by
  obtain ⟨ao, cap, e, h⟩ := h
  obtain ⟨b, rfl, hc⟩ := h i s hs
  exact ⟨b, cap, e, by have := hc 0 _ rfl; simpa using this⟩
theorem und_segs : Tryz.prog.underlying 188 = some (.slice 191) := by kernel_rfl
theorem info_seg : (Tryz.prog.info? 191).map (fun i => (i.zero, i.size, i.bytes)) = some (some (.agg #[.int .i64 0, .int .i64 0, .int .i64 0, .int .i64 0]), 4, 32) := by kernel_rfl
theorem el_segs : Elem Tryz.prog 188 191 (.agg #[.int .i64 0, .int .i64 0, .int .i64 0, .int .i64 0]) 4 32 := ⟨und_segs, info_seg, rfl, by omega, by omega⟩
theorem segs_take {r : Ring} {k : Nat} {p q : Pnt} (hp : r[k]? = some p) (hq : r[k + 1]? = some q) : (Vd.segs r).take (k + 1) = (Vd.segs r).take k ++ [(p, q)] := Pl.take_one (Vd.segs_at hp hq)

set_option maxHeartbeats 4000000 in
theorem segments_any (v : Value) (r : Ring) (w : World) (hv : Rd1 w v r) (hr : r.length ≤ 1048576) :
    Calls Tryz.prog 161 #[v] w fun e w' => ∃ u, e = .returned u ∧ Up w w' ∧ w'.ownsRow w.heap.size 191 4 u (Vd.segs r).length (flatG segC (Vd.segs r)) := by
  obtain ⟨ao, cap, rfl, hm⟩ := hv
  have HM := hide hm
  clear hm
  go_enter Tryz.func161, Tryz.ntmps161
  go_wp2
  go_loopw [3, 4] (fun sv i wr => ∃ (k : Nat) (u : Value), i = .int .i64 (k + 1 : Nat) ∧ u = sv ∧ k ≤ (Vd.segs r).length ∧ Hid (Up w wr) ∧ Hid (wr.ownsRow w.heap.size 191 4 u k (flatG segC ((Vd.segs r).take k)))) (fun _ i _ => r.length - (intOf i).toNat)
  case atStart => exact ⟨0, _, rfl, rfl, Nat.zero_le _, Up.refl _, World.ownsRow_nil _ _ _ _⟩
  case round =>
    obtain ⟨k, u, rfl, rfl, hk, HU, HO⟩ := hrel
    by_cases hlt : k + 1 < r.length
    · obtain ⟨⟨px, py⟩, hp⟩ := Pl.some_of_lt (show k < r.length by omega)
      obtain ⟨⟨qx, qy⟩, hq⟩ := Pl.some_of_lt hlt
      have HT := hide (segs_take hp hq)
      obtain ⟨b, rfl, c0, c1⟩ := HM.out k _ hp
      obtain ⟨b', e', d0, d1⟩ := HM.out (k + 1) _ hq
      cases e'
      have f0 := HU.out.cell c0
      have f1 := HU.out.cell c1
      have g0 := HU.out.cell d0
      have g1 := HU.out.cell d1
      have f0a := fun o => ((Up.refl wr).alloc o).cell f0
      have f1a := fun o => ((Up.refl wr).alloc o).cell f1
      have g0a := fun o => ((Up.refl wr).alloc o).cell g0
      have g1a := fun o => ((Up.refl wr).alloc o).cell g1
      have HOA := hide (fun o => HO.out.alloc o)
      have hb : Hid (k ≤ 1073741824) := by show _ ≤ _; omega
      have hsz := hide HU.out.size
      have i1 : (0 : Int) ≤ (k : Int) := by omega
      have i2 : (k : Int) < (r.length : Int) := by omega
      have i3 : (k : Int) + 1 < (r.length : Int) := by omega
      have i4 : IntKind.i64.wrap (k : Int) = (k : Int) := wrap_id (by omega) (by omega)
      have i5 : (0 : Int) ≤ (k : Int) + 1 := by omega
      clear c0 c1 d0 d1 hp hq
      go_upto_region 5 with fail
      go_region_law ((refine step_app el_segs rfl (.tmp 11) (.tmp 22) rfl w.heap.size u _ _ (by rfl) (HOA.out _) wr.heap.size (segC ((px, py), (qx, qy))) (by rfl) rfl (heap_alloc_new wr _) (by intro x hx; simp [segC] at hx; rcases hx with rfl | rfl | rfl | rfl <;> rfl) hb.out (by simp; have := hsz.out; omega) ?_; intro g cap w1 hown1 hg1 hat1 hlt1))
      all_goals
        have HO2 := hide hown1
        have HU2 : Hid (Up w w1) := Fr.up (S := fun _ => False) (((Fr.of_up HU.out).alloc _).drew.grown hg1 fun x hx => .inr (own_lt HO.out hx).1) (fun _ _ h => h)
        clear hown1 hg1 hat1 hlt1 f0 f1 g0 g1 f0a f1a g0a g1a
        go_wp2
        go_roundw
        case rel => exact ⟨k + 1, _, by go_num, rfl, by rw [Vd.segs_len]; omega, HU2, by rw [HT.out, flatG_append]; exact HO2⟩
        case measure => simp [intOf]; omega
    · have hk2 : k = (Vd.segs r).length := by rw [Vd.segs_len] at *; omega
      subst hk2
      go_wp2
      go_ret
      exact ⟨_, rfl, HU.out, by have := HO.out; rwa [List.take_length] at this⟩
end Go.Proofs.YtcclepohmhdpbaaGreatDoor

/- THE WALKS: package plane: meetsRay, Place. -/
namespace Go.Proofs.YtcclepohmhdpbaaGreatDoor
set_option linter.all false
open Go.RowKit Go.Deep

theorem ray_of (s : Vd.Seg) (p : Vd.Spot) : Vd.ray s.1 s.2 p.1 p.2 = if decide (p.1.2 < s.1.2 * p.2) = decide (p.1.2 < s.2.2 * p.2) then false else if decide (p.1.2 < s.2.2 * p.2) = true then decide (0 < Vd.side s p) else decide (Vd.side s p < 0) := by
  unfold Vd.ray Vd.side
  simp only [decide_eq_true_eq]
set_option maxHeartbeats 2000000 in
theorem ray_any (s : Vd.Seg) (p : Vd.Spot) (hs : Vd.CdS s) (hp : Vd.Sp p) (w : World) : Calls Tryz.prog 235 #[segV s, spotV p] w fun e w' => e = .returned (.bool (Vd.ray s.1 s.2 p.1 p.2)) ∧ Up w w' := by
  have HB := hide (ray_of s p)
  have HS := hide hs
  have HP := hide hp
  obtain ⟨⟨ax, ay⟩, ⟨bx, bY⟩⟩ := s
  obtain ⟨⟨x, y⟩, t⟩ := p
  simp only [Vd.CdS, Vd.Cd, Vd.Sp] at hs hp
  obtain ⟨⟨a1, a2, a3, a4⟩, b1, b2, b3, b4⟩ := hs
  obtain ⟨x1, x2, y1, y2, t1, t2⟩ := hp
  have m2 := mul_bd (a := ay) (b := t) (A := 32768) (B := 1048576) (by omega) (by omega) (by omega) (by omega)
  have m4 := mul_bd (a := bY) (b := t) (A := 32768) (B := 1048576) (by omega) (by omega) (by omega) (by omega)
  simp only [segV, spotV]
  simp only at HB
  by_cases h1 : y < ay * t <;> by_cases h2 : y < bY * t
  all_goals
    have D1 : Hid (Vd.ray (ax, ay) (bx, bY) (x, y) t = if decide (y < ay * t) = decide (y < bY * t) then false else if decide (y < bY * t) = true then decide (0 < Vd.side ((ax, ay), bx, bY) ((x, y), t)) else decide (Vd.side ((ax, ay), bx, bY) ((x, y), t) < 0)) := HB.out
    simp only [h1, h2, decide_true, decide_false] at D1
    go_enter Tryz.func235, Tryz.ntmps235
    go_wp2_with (go_at_call 233; refine (side_any ((ax, ay), (bx, bY)) ((x, y), t) HS.out HP.out _).mono ?_; rintro e w1 ⟨rfl, u1⟩; replace u1 := hide u1)
    go_ret
    first
    | exact ⟨ret_b (by rw [D1.out]; simp), (((Up.refl _).alloc _).alloc _).trans u1.out⟩
    | exact ⟨ret_b (by rw [D1.out]; simp), ((Up.refl _).alloc _).alloc _⟩

/-! ### Place -/
theorem placeL_has {s : Vd.Seg} {l : List Vd.Seg} {i : Bool} {p : Vd.Spot} (h : Vd.hasB s p = true) : Vd.placeL (s :: l) i p = 1 := by unfold Vd.placeL; rw [if_pos h]
theorem placeL_not {s : Vd.Seg} {l : List Vd.Seg} {i : Bool} {p : Vd.Spot} (h : Vd.hasB s p = false) : Vd.placeL (s :: l) i p = Vd.placeL l (if Vd.ray s.1 s.2 p.1 p.2 = true then !i else i) p := by conv => lhs; unfold Vd.placeL; rw [if_neg (by rw [h]; simp)]
theorem drop_at {α : Type} {l : List α} {k : Nat} {x : α} (h : l[k]? = some x) : l.drop k = x :: l.drop (k + 1) := by
  obtain ⟨hk, e⟩ := List.getElem?_eq_some_iff.1 h
  rw [List.drop_eq_getElem_cons hk, e]

set_option maxHeartbeats 4000000 in
theorem place_any (v : Value) (r : Ring) (p : Vd.Spot) (w : World) (hv : Rd1 w v r) (hr : r.length ≤ 1048576) (hc : Vd.CdR r) (hp : Vd.Sp p) :
    Calls Tryz.prog 197 #[v, spotV p] w fun e w' => e = .returned (.int .i64 (Vd.place r p)) ∧ Up w w' := by
  have HV := hide hv
  have HC := hide hc
  have HP := hide hp
  obtain ⟨⟨x, y⟩, t⟩ := p
  clear hv hc hp
  simp only [spotV]
  have R0 := hide (new_row (w := w) (o := .cells #[.int .i64 x, .int .i64 y, .int .i64 t] 127) (vs := [.int .i64 x, .int .i64 y, .int .i64 t]) rfl)
  obtain ⟨ao, cap, rfl, -⟩ := HV.out
  go_enter Tryz.func197, Tryz.ntmps197
  go_wp2_with fail
  refine (segments_any _ r _ (HV.out.up ((Up.refl _).alloc _)) hr).mono ?_
  rintro e w1 ⟨sv, rfl, u1, ho⟩
  obtain ⟨sa, sc, es⟩ := own_len ho
  subst es
  have HR := hide (own_rdG (f := segC) (fun _ => rfl) ho)
  have HU : Hid (Up w w1) := ((Up.refl _).alloc _).trans u1
  replace R0 := hide (R0.out.up u1)
  have hl := Vd.segs_len r
  clear ho u1
  go_wp2_with fail
  go_loopw [5, 11] (fun inn i wr => ∃ (k : Nat) (b : Bool), i = .int .i64 k ∧ inn = .bool b ∧ k ≤ (Vd.segs r).length ∧ Hid (Up w1 wr) ∧ Hid (Vd.place r ((x, y), t) = Vd.placeL ((Vd.segs r).drop k) b ((x, y), t))) (fun _ i _ => (Vd.segs r).length - (intOf i).toNat)
  case atStart => exact ⟨0, false, rfl, rfl, Nat.zero_le _, Up.refl _, rfl⟩
  case round =>
    obtain ⟨k, b, rfl, rfl, hk, HU2, HE⟩ := hrel
    by_cases hlt : k < (Vd.segs r).length
    · obtain ⟨⟨⟨ax, ay⟩, ⟨bx, bY⟩⟩, hs⟩ := Pl.some_of_lt hlt
      obtain ⟨g, cap', ev, c0, c1, c2, c3⟩ := (HR.out.up HU2.out).seg hs
      cases ev
      have HCS := hide (Vd.segs_cd HC.out (Pl.mem_of_some hs))
      rw [drop_at hs] at HE
      have R1 := R0.out.up HU2.out
      have p0 := fun o => (R1.alloc o).cell (i := 0) rfl
      have p1 := fun o => (R1.alloc o).cell (i := 1) rfl
      have p2 := fun o => (R1.alloc o).cell (i := 2) rfl
      have R2 := hide (fun o => R1.alloc o)
      simp only at c0 c1 c2 c3
      clear hs R1
      cases hh : Vd.hasB ((ax, ay), (bx, bY)) ((x, y), t)
      · have HH := hide hh
        have HE2 := hide (HE.out.trans (placeL_not hh))
        clear hh
        go_wp2_with fail
        refine (has_any ((ax, ay), (bx, bY)) ((x, y), t) HCS.out HP.out _).mono ?_
        rintro e w2 ⟨rfl, u2⟩
        obtain ⟨f0, f1⟩ := bcell u2
        rw [HH.out]
        have U2 := hide u2
        have q0 := u2.cell (p0 _)
        have q1 := u2.cell (p1 _)
        have q2 := u2.cell (p2 _)
        clear u2 p0 p1 p2
        go_wp2_with fail
        refine (ray_any ((ax, ay), (bx, bY)) ((x, y), t) HCS.out HP.out _).mono ?_
        rintro e w3 ⟨rfl, u3⟩
        have U3 : Hid (Up w1 w3) := ((HU2.out.alloc _).trans U2.out).trans u3
        cases hq : Vd.ray (ax, ay) (bx, bY) (x, y) t
        all_goals
          rw [hq] at HE2
          clear u3 q0 q1 q2 f0 f1
          go_wp2
          go_roundw
          case rel => exact ⟨k + 1, _, by go_num, rfl, by omega, U3, HE2.out⟩
          case measure => simp [intOf]; omega
      · have HH := hide hh
        have HE2 := hide (HE.out.trans (placeL_has hh))
        clear hh
        go_wp2_with fail
        refine (has_any ((ax, ay), (bx, bY)) ((x, y), t) HCS.out HP.out _).mono ?_
        rintro e w2 ⟨rfl, u2⟩
        rw [HH.out]
        replace u2 := hide u2
        go_wp2
        go_ret
        exact ⟨ret_i HE2.out.symm, (HU.out.trans (HU2.out.alloc _)).trans u2.out⟩
    · have : k = (Vd.segs r).length := by omega
      subst this
      rw [List.drop_length] at HE
      cases b
      all_goals
        go_wp2
        go_ret
        exact ⟨ret_i HE.out.symm, HU.out.trans HU2.out⟩
end Go.Proofs.YtcclepohmhdpbaaGreatDoor

/- THE DOCUMENT's WALKS: ways, products, on. -/
namespace Go.Proofs.YtcclepohmhdpbaaGreatDoor
set_option linter.all false
open Go.RowKit Go.Deep

def Bdd (A : Int) (u : Pnt) : Prop := (-A ≤ u.1 ∧ u.1 ≤ A) ∧ -A ≤ u.2 ∧ u.2 ≤ A
def subP (a b : Pnt) : Pnt := (b.1 - a.1, b.2 - a.2)
def timesP (u v : Pnt) : Int := u.1 * v.2 - u.2 * v.1
def dotP (u v : Pnt) : Int := u.1 * v.1 + u.2 * v.2
theorem cd_bdd {p : Pnt} (h : Vd.Cd p) : Bdd 32768 p := by unfold Vd.Cd at h; unfold Bdd; omega
theorem sub_bdd {p q : Pnt} (h : Vd.Cd p) (k : Vd.Cd q) : Bdd 65536 (subP p q) := by unfold Vd.Cd at h k; unfold Bdd subP; simp only; omega
theorem bdd_mono {A B : Int} {u : Pnt} (h : Bdd A u) (k : A ≤ B) : Bdd B u := by unfold Bdd at *; omega

set_option maxHeartbeats 1000000 in
theorem way2_any (a b : Pnt) (ha : Bdd 4611686018427387903 a) (hb : Bdd 4611686018427387903 b) (w : World) :
    Calls Tryz.prog 133 #[ptV a, ptV b] w fun e w' => e = .returned (ptV (subP a b)) ∧ Up w w' := by
  obtain ⟨ax, ay⟩ := a
  obtain ⟨bx, bY⟩ := b
  simp only [Bdd] at ha hb
  simp only [ptV, subP]
  go_enter Tryz.func133, Tryz.ntmps133
  go_wp2
  refine bodyPost_ret (v := .agg #[.int .i64 (bx - ax), .int .i64 (bY - ay)]) (by simp [results, Tryz.results133, go_sem]) rfl ⟨rfl, ?_⟩
  repeat (refine Up.setCell ?_ (by simp) _)
  exact ((Up.refl _).alloc _).alloc _ |>.alloc _

set_option maxHeartbeats 1000000 in
theorem times_any (u v : Pnt) {A B : Int} (hu : Bdd A u) (hv : Bdd B v) (hA : 0 ≤ A) (hB : 0 ≤ B) (hAB : A * B ≤ 2305843009213693951) (w : World) :
    Calls Tryz.prog 134 #[ptV u, ptV v] w fun e w' => e = .returned (.int .i64 (timesP u v)) ∧ Up w w' := by
  obtain ⟨ux, uy⟩ := u
  obtain ⟨vx, vy⟩ := v
  simp only [Bdd] at hu hv
  have m1 := mul_bd (a := ux) (b := vy) (A := A) (B := B) (by omega) (by omega) (by omega) (by omega)
  have m2 := mul_bd (a := uy) (b := vx) (A := A) (B := B) (by omega) (by omega) (by omega) (by omega)
  simp only [ptV, timesP]
  generalize A * B = AB at *
  have k1 : wrap64 (ux * vy) = ux * vy := w64 (by omega) (by omega)
  have k2 : wrap64 (uy * vx) = uy * vx := w64 (by omega) (by omega)
  go_enter Tryz.func134, Tryz.ntmps134
  go_wp2
  go_ret
  exact ⟨rfl, ((Up.refl _).alloc _).alloc _⟩

set_option maxHeartbeats 1000000 in
theorem dot_any (u v : Pnt) {A B : Int} (hu : Bdd A u) (hv : Bdd B v) (hA : 0 ≤ A) (hB : 0 ≤ B) (hAB : A * B ≤ 2305843009213693951) (w : World) :
    Calls Tryz.prog 204 #[ptV u, ptV v] w fun e w' => e = .returned (.int .i64 (dotP u v)) ∧ Up w w' := by
  obtain ⟨ux, uy⟩ := u
  obtain ⟨vx, vy⟩ := v
  simp only [Bdd] at hu hv
  have m1 := mul_bd (a := ux) (b := vx) (A := A) (B := B) (by omega) (by omega) (by omega) (by omega)
  have m2 := mul_bd (a := uy) (b := vy) (A := A) (B := B) (by omega) (by omega) (by omega) (by omega)
  simp only [ptV, dotP]
  generalize A * B = AB at *
  have k1 : wrap64 (ux * vx) = ux * vx := w64 (by omega) (by omega)
  have k2 : wrap64 (uy * vy) = uy * vy := w64 (by omega) (by omega)
  go_enter Tryz.func204, Tryz.ntmps204
  go_wp2
  go_ret
  exact ⟨rfl, ((Up.refl _).alloc _).alloc _⟩

/-! ### on -/
def onB (a b : Pnt) (p : Vd.Spot) : Bool := decide (Vd.on a b p.1 p.2)
theorem on_of (a b : Pnt) (p : Vd.Spot) : onB a b p = (decide (timesP (subP a b) (p.1.1 - a.1 * p.2, p.1.2 - a.2 * p.2) = 0) && (decide (0 ≤ dotP (p.1.1 - a.1 * p.2, p.1.2 - a.2 * p.2) (subP a b)) && decide (dotP (p.1.1 - a.1 * p.2, p.1.2 - a.2 * p.2) (subP a b) ≤ dotP (subP a b) (subP a b) * p.2))) := by
  unfold onB
  apply Bool.eq_iff_iff.2
  simp only [Bool.and_eq_true, decide_eq_true_eq]
  exact Iff.rfl

set_option maxHeartbeats 4000000 in
theorem on_any (a b : Pnt) (p : Vd.Spot) (ha : Vd.Cd a) (hb : Vd.Cd b) (hp : Vd.Sp p) (w : World) :
    Calls Tryz.prog 203 #[ptV a, ptV b, ptV p.1, .int .i64 p.2] w fun e w' => e = .returned (.bool (onB a b p)) ∧ Up w w' := by
  have HB := hide (on_of a b p)
  have hu := hide (sub_bdd ha hb)
  have HA := hide (bdd_mono (cd_bdd ha) (B := 4611686018427387903) (by omega))
  have HB2 := hide (bdd_mono (cd_bdd hb) (B := 4611686018427387903) (by omega))
  have hvb : Hid (Bdd 34360786944 (p.1.1 - a.1 * p.2, p.1.2 - a.2 * p.2)) := by
    obtain ⟨h1, h2, h3, h4⟩ := ha
    obtain ⟨x1, x2, y1, y2, t1, t2⟩ := hp
    have m1 := mul_bd (a := a.1) (b := p.2) (A := 32768) (B := 1048576) (by omega) (by omega) (by omega) (by omega)
    have m2 := mul_bd (a := a.2) (b := p.2) (A := 32768) (B := 1048576) (by omega) (by omega) (by omega) (by omega)
    show (_ ∧ _) ∧ _ ∧ _
    simp only
    omega
  have hkb : Hid (0 ≤ dotP (subP a b) (subP a b) ∧ dotP (subP a b) (subP a b) ≤ 8589934592) := by
    have := sub_bdd ha hb
    unfold dotP
    unfold Bdd at this
    obtain ⟨⟨h1, h2⟩, h3, h4⟩ := this
    have m1 := mul_bd (a := (subP a b).1) (b := (subP a b).1) (A := 65536) (B := 65536) h1 h2 h1 h2
    have m2 := mul_bd (a := (subP a b).2) (b := (subP a b).2) (A := 65536) (B := 65536) h3 h4 h3 h4
    have q1 := Vd.sq_nn (subP a b).1
    have q2 := Vd.sq_nn (subP a b).2
    show _ ∧ _
    omega
  obtain ⟨ax, ay⟩ := a
  obtain ⟨bx, bY⟩ := b
  obtain ⟨⟨x, y⟩, t⟩ := p
  simp only [Vd.Cd, Vd.Sp] at ha hb hp
  obtain ⟨a1, a2, a3, a4⟩ := ha
  obtain ⟨x1, x2, y1, y2, t1, t2⟩ := hp
  have m1 := mul_bd (a := ax) (b := t) (A := 32768) (B := 1048576) (by omega) (by omega) (by omega) (by omega)
  have m2 := mul_bd (a := ay) (b := t) (A := 32768) (B := 1048576) (by omega) (by omega) (by omega) (by omega)
  clear hb
  simp only at HB hvb
  simp only [ptV]
  have RA := hide (((new_row (w := w) (o := .cells #[.int .i64 ax, .int .i64 ay] 32) (vs := [.int .i64 ax, .int .i64 ay]) rfl).alloc (.cells #[.int .i64 bx, .int .i64 bY] 32)).alloc (.cells #[.int .i64 x, .int .i64 y] 32))
  have RP : Hid (VRow (((w.alloc (.cells #[.int .i64 ax, .int .i64 ay] 32)).alloc (.cells #[.int .i64 bx, .int .i64 bY] 32)).alloc (.cells #[.int .i64 x, .int .i64 y] 32)) (w.heap.size + 2) 32 [.int .i64 x, .int .i64 y]) := by
    have := new_row (w := (w.alloc (.cells #[.int .i64 ax, .int .i64 ay] 32)).alloc (.cells #[.int .i64 bx, .int .i64 bY] 32)) (o := .cells #[.int .i64 x, .int .i64 y] 32) (vs := [.int .i64 x, .int .i64 y]) rfl
    show VRow _ _ _ _
    simpa using this
  go_enter Tryz.func203, Tryz.ntmps203
  go_wp2_with fail
  refine (way2_any (ax, ay) (bx, bY) HA.out HB2.out _).mono ?_
  rintro e w1 ⟨rfl, hz1⟩
  have HU1 : Hid (Up w w1) := (((Up.refl _).alloc _).alloc _ |>.alloc _).trans hz1
  replace RA := hide (RA.out.up hz1)
  replace RP := hide (RP.out.up hz1)
  generalize hU : subP (ax, ay) (bx, bY) = U at *
  clear hU hz1
  obtain ⟨ux, uy⟩ := U
  simp only [ptV]
  have q0 := fun o => (RA.out.alloc o).cell (i := 0) rfl
  have q1 := fun o => (RA.out.alloc o).cell (i := 1) rfl
  have q2 := fun o => (RP.out.alloc o).cell (i := 0) rfl
  have q3 := fun o => (RP.out.alloc o).cell (i := 1) rfl
  have RU := hide ((new_row (w := w1) (o := .cells #[.int .i64 ux, .int .i64 uy] 155) (vs := [.int .i64 ux, .int .i64 uy]) rfl).alloc (.cells #[.int .i64 (x - ax * t), .int .i64 (y - ay * t)] 155))
  have RV : Hid (VRow ((w1.alloc (.cells #[.int .i64 ux, .int .i64 uy] 155)).alloc (.cells #[.int .i64 (x - ax * t), .int .i64 (y - ay * t)] 155)) (w1.heap.size + 1) 155 [.int .i64 (x - ax * t), .int .i64 (y - ay * t)]) := by
    have := new_row (w := w1.alloc (.cells #[.int .i64 ux, .int .i64 uy] 155)) (o := .cells #[.int .i64 (x - ax * t), .int .i64 (y - ay * t)] 155) (vs := [.int .i64 (x - ax * t), .int .i64 (y - ay * t)]) rfl
    show VRow _ _ _ _
    simpa using this
  go_wp2_with fail
  refine (dot_any (x - ax * t, y - ay * t) (ux, uy) hvb.out hu.out (by omega) (by omega) (by omega) _).mono ?_
  rintro e w2 ⟨rfl, hz2⟩
  replace HU1 := hide (((HU1.out.alloc _).alloc _).trans hz2)
  replace RU := hide (RU.out.up hz2)
  replace RV := hide (RV.out.up hz2)
  clear hz2 q0 q1 q2 q3
  have u0 := RU.out.cell (i := 0) rfl
  have u1 := RU.out.cell (i := 1) rfl
  go_wp2_with fail
  refine (dot_any (ux, uy) (ux, uy) hu.out hu.out (by omega) (by omega) (by omega) _).mono ?_
  rintro e w3 ⟨rfl, hz3⟩
  replace HU1 := hide (HU1.out.trans hz3)
  replace RU := hide (RU.out.up hz3)
  replace RV := hide (RV.out.up hz3)
  clear hz3 u0 u1
  have u0 := RU.out.cell (i := 0) rfl
  have u1 := RU.out.cell (i := 1) rfl
  have v0 := RV.out.cell (i := 0) rfl
  have v1 := RV.out.cell (i := 1) rfl
  go_wp2_with fail
  refine (times_any (ux, uy) (x - ax * t, y - ay * t) hu.out hvb.out (by omega) (by omega) (by omega) _).mono ?_
  rintro e w4 ⟨rfl, hz4⟩
  replace HU1 := hide (HU1.out.trans hz4)
  clear hz4 u0 u1 v0 v1
  have hk := hkb.out
  generalize timesP (ux, uy) (x - ax * t, y - ay * t) = T at *
  generalize dotP (x - ax * t, y - ay * t) (ux, uy) = D at *
  generalize dotP (ux, uy) (ux, uy) = K at *
  have m3 := mul_bd (a := K) (b := t) (A := 8589934592) (B := 1048576) (by omega) (by omega) (by omega) (by omega)
  have k3 : wrap64 (K * t) = K * t := w64 (by omega) (by omega)
  by_cases h1 : T = 0
  · subst h1
    by_cases h2 : 0 ≤ D
    · by_cases h3 : D ≤ K * t
      all_goals
        have HR : Hid (onB (ax, ay) (bx, bY) ((x, y), t) = decide (D ≤ K * t)) := by rw [HB.out]; simp [h2, Hid]
        go_wp2
        go_ret
        exact ⟨ret_b (by rw [HR.out]; first | done | simp [h3]), HU1.out⟩
    · have HR : Hid (onB (ax, ay) (bx, bY) ((x, y), t) = false) := by rw [HB.out]; simp [h2, Hid]
      go_wp2
      go_ret
      exact ⟨ret_b HR.out.symm, HU1.out⟩
  · have h1' := beq_eq_false_iff_ne.2 h1
    have HR : Hid (onB (ax, ay) (bx, bY) ((x, y), t) = false) := by rw [HB.out]; simp [h1, Hid]
    go_wp2
    go_ret
    exact ⟨ret_b HR.out.symm, HU1.out⟩
end Go.Proofs.YtcclepohmhdpbaaGreatDoor

/- THE DOCUMENT's WALKS: inRing. -/
namespace Go.Proofs.YtcclepohmhdpbaaGreatDoor
set_option linter.all false
open Go.RowKit Go.Deep

theorem inRingL_on {s : Vd.Seg} {l : List Vd.Seg} {i : Bool} {p : Vd.Spot} (h : onB s.1 s.2 p = true) : Vd.inRingL (s :: l) i p = 0 := by unfold Vd.inRingL; rw [if_pos (of_decide_eq_true h)]
theorem inRingL_go {s : Vd.Seg} {l : List Vd.Seg} {i : Bool} {p : Vd.Spot} (h : onB s.1 s.2 p = false) : Vd.inRingL (s :: l) i p = Vd.inRingL l (if Vd.rayD s.1 s.2 p.1 p.2 = true then !i else i) p := by conv => lhs; unfold Vd.inRingL; rw [if_neg (of_decide_eq_false h)]
theorem on_is {a b : Pnt} {p : Vd.Spot} {c : Bool} (h : onB a b p = c) (ha : Vd.Cd a) (hb : Vd.Cd b) (hp : Vd.Sp p) (w : World) : Calls Tryz.prog 203 #[ptV a, ptV b, ptV p.1, .int .i64 p.2] w fun e w' => e = .returned (.bool c) ∧ Up w w' := by
  have := on_any a b p ha hb hp w; rwa [h] at this
theorem two_set {w : World} {g : Nat} {p : Addr} {v x y : Value} (h : w.cell? p = some v) (hg : p.block ≠ g) : ((w.setCell ⟨g, 0, none⟩ x).setCell ⟨g, 1, none⟩ y).cell? p = some v := by
  rw [World.cell?_of_block (Below.heap_setCell _ _ _ _ hg), World.cell?_of_block (Below.heap_setCell _ _ _ _ hg)]; exact h
theorem rayD_at {a b p : Pnt} {w : Int} {lo hi : Pnt} (hlo : lo = if a.2 > b.2 then b else a) (hhi : hi = if a.2 > b.2 then a else b) : Vd.rayD a b p w = (decide (lo.2 * w ≤ p.2 ∧ p.2 < hi.2 * w) && decide (Vd.cr lo hi p w > 0)) := by subst hlo hhi; rfl

set_option maxRecDepth 8000 in
set_option maxHeartbeats 8000000 in
theorem inRing_any (v : Value) (r : Ring) (p : Vd.Spot) (w : World) (hv : Rd1 w v r) (hr : r.length ≤ 1048576) (hc : Vd.CdR r) (hp : Vd.Sp p) :
    Calls Tryz.prog 164 #[v, ptV p.1, .int .i64 p.2] w fun e w' => e = .returned (.int .i64 (Vd.inRing r p)) ∧ Up w w' := by
  obtain ⟨ao, cap, rfl, hm⟩ := hv
  have HM := hide hm
  have HC := hide hc
  have HP := hide hp
  obtain ⟨⟨x, y⟩, t⟩ := p
  simp only [Vd.Sp] at hp
  obtain ⟨px1, px2, py1, py2, pt1, pt2⟩ := hp
  clear hm hc
  simp only [ptV]
  have R0 := hide (new_row (w := w) (o := .cells #[.int .i64 x, .int .i64 y] 32) (vs := [.int .i64 x, .int .i64 y]) rfl)
  have HU0 : Hid (Up w (w.alloc (.cells #[.int .i64 x, .int .i64 y] 32))) := (Up.refl _).alloc _
  go_enter Tryz.func164, Tryz.ntmps164
  go_wp2
  go_loopw [7, 8] (fun ov i wr => ∃ (k : Nat) (b : Bool), i = .int .i64 k ∧ ov = .bool b ∧ k ≤ r.length ∧ Hid (Up w wr) ∧ Hid (VRow wr w.heap.size 32 [.int .i64 x, .int .i64 y]) ∧ Hid (Vd.inRing r ((x, y), t) = Vd.inRingL ((Vd.segs r).drop k) b ((x, y), t))) (fun _ i _ => r.length - (intOf i).toNat)
  case atStart => exact ⟨0, false, rfl, rfl, Nat.zero_le _, HU0, R0, rfl⟩
  case round =>
    clear HU0 R0
    obtain ⟨k, b, rfl, rfl, hk, HU, R0, HE⟩ := hrel
    by_cases hlt : k + 1 < r.length
    · obtain ⟨⟨ax, ay⟩, ha⟩ := Pl.some_of_lt (show k < r.length by omega)
      obtain ⟨⟨bx, bY⟩, hb⟩ := Pl.some_of_lt hlt
      rw [drop_at (Vd.segs_at ha hb)] at HE
      obtain ⟨g, rfl, c0, c1⟩ := HM.out k _ ha
      obtain ⟨g', e', d0, d1⟩ := HM.out (k + 1) _ hb
      cases e'
      have HA := hide (HC.out _ (Pl.mem_of_some ha))
      have HB := hide (HC.out _ (Pl.mem_of_some hb))
      have Hc0 := hide (HU.out.cell c0)
      have Hc1 := hide (HU.out.cell c1)
      have Hd0 := hide (HU.out.cell d0)
      have Hd1 := hide (HU.out.cell d1)
      have s0 := cell_gr Hc0.out
      have s1 := cell_gr Hc1.out
      have s2 := cell_gr Hd0.out
      have s3 := cell_gr Hd1.out
      have q0 := R0.out.gr (i := 0) rfl
      have q1 := R0.out.gr (i := 1) rfl
      dsimp only at s0 s1 s2 s3
      have i1 : (0 : Int) ≤ (k : Int) := by omega
      have i2 : (k : Int) < (r.length : Int) := by omega
      have i3 : (k : Int) + 1 < (r.length : Int) := by omega
      have i4 : (0 : Int) ≤ (k : Int) + 1 := by omega
      clear c0 c1 d0 d1 ha hb
      cases ho : onB (ax, ay) (bx, bY) ((x, y), t)
      · have Ho := hide ho
        have HE2 := hide (HE.out.trans (inRingL_go ho))
        clear ho
        go_wp2_with fail
        refine wp_region_up (by kernel_rfl) (by kernel_rfl) ?_
        repeat (first | go_big_quiet_step ((go_at_call 203; exact Calls.up_of (on_is Ho.out HA.out HB.out HP.out _))))
        refine wpQuiet_nil ?_
        rintro w2 ⟨⟨_, hz2⟩, rfl⟩
        clear s0 s1 s2 s3 q0 q1
        have HU2 := hide (HU.out.trans hz2)
        have R2 := hide (R0.out.up hz2)
        have c0 := hz2.cell Hc0.out
        have c1 := hz2.cell Hc1.out
        have d0 := fun o => ((Up.refl w2).alloc o).cell (hz2.cell Hd0.out)
        have d1 := fun o => ((Up.refl w2).alloc o).cell (hz2.cell Hd1.out)
        try dsimp only at c0 c1 d0 d1
        clear hz2
        go_upto_if 47 with fail
        have hne := ne_size (Up.refl w2) c0
        have hne2 : g ≠ w2.heap.size + 1 := by have := lt_of_cell c0; simp only at this; omega
        have HU3 := hide ((HU2.out.alloc (.cells #[.int .i64 ax, .int .i64 ay] 32)).alloc (.cells #[.int .i64 bx, .int .i64 bY] 32))
        have R3 := hide ((R2.out.alloc (.cells #[.int .i64 ax, .int .i64 ay] 32)).alloc (.cells #[.int .i64 bx, .int .i64 bY] 32))
        have RA := hide ((new_row (w := w2) (o := .cells #[.int .i64 ax, .int .i64 ay] 32) (vs := [.int .i64 ax, .int .i64 ay]) rfl).alloc (.cells #[.int .i64 bx, .int .i64 bY] 32))
        have RB : Hid (VRow ((w2.alloc (.cells #[.int .i64 ax, .int .i64 ay] 32)).alloc (.cells #[.int .i64 bx, .int .i64 bY] 32)) (w2.heap.size + 1) 32 [.int .i64 bx, .int .i64 bY]) := by
          have := new_row (w := w2.alloc (.cells #[.int .i64 ax, .int .i64 ay] 32)) (o := .cells #[.int .i64 bx, .int .i64 bY] 32) (vs := [.int .i64 bx, .int .i64 bY]) rfl
          show VRow _ _ _ _
          simpa using this
        have e0 := (((Up.refl w2).alloc (.cells #[.int .i64 ax, .int .i64 ay] 32)).alloc (.cells #[.int .i64 bx, .int .i64 bY] 32)).cell c0
        have e1 := (((Up.refl w2).alloc (.cells #[.int .i64 ax, .int .i64 ay] 32)).alloc (.cells #[.int .i64 bx, .int .i64 bY] 32)).cell c1
        have e2 := ((Up.refl _).alloc (.cells #[.int .i64 bx, .int .i64 bY] 32)).cell (d0 (.cells #[.int .i64 ax, .int .i64 ay] 32))
        have e3 := ((Up.refl _).alloc (.cells #[.int .i64 bx, .int .i64 bY] 32)).cell (d1 (.cells #[.int .i64 ax, .int .i64 ay] 32))
        generalize hW : (w2.alloc (.cells #[.int .i64 ax, .int .i64 ay] 32)).alloc (.cells #[.int .i64 bx, .int .i64 bY] 32) = W at *
        have hsz := hide HU2.out.size
        have hRl := hide R2.out.lt
        generalize hA : w2.heap.size = A at *
        clear hA hW c0 c1 d0 d1 HU2 R2
        go_cut [] (fun wc => ∃ lo hi : Pnt, Hid (lo = if (ax, ay).2 > (bx, bY).2 then (bx, bY) else (ax, ay)) ∧ Hid (hi = if (ax, ay).2 > (bx, bY).2 then (ax, ay) else (bx, bY)) ∧ Hid (Up w wc) ∧ Hid (VRow wc w.heap.size 32 [.int .i64 x, .int .i64 y]) ∧ Hid (VRow wc A 32 [.int .i64 lo.1, .int .i64 lo.2]) ∧ Hid (VRow wc (A + 1) 32 [.int .i64 hi.1, .int .i64 hi.2]))
        case first =>
          by_cases hsw : bY < ay
          · have Hsw := hide hsw
            have a0 := RA.out.cell (i := 0) rfl
            have a1 := RA.out.cell (i := 1) rfl
            have af := fun i => RA.out.frozen i
            have b0 := RB.out.cell (i := 0) rfl
            have b1 := RB.out.cell (i := 1) rfl
            have f0 := fun v1 v2 => two_set (g := A) (x := v1) (y := v2) e0 hne
            have f1 := fun v1 v2 => two_set (g := A) (x := v1) (y := v2) e1 hne
            have g0 := fun v1 v2 => two_set (g := A) (x := v1) (y := v2) b0 (by show A + 1 ≠ A; omega)
            have g1 := fun v1 v2 => two_set (g := A) (x := v1) (y := v2) b1 (by show A + 1 ≠ A; omega)
            have gf := fun v1 v2 i => ((RB.out.setOther (a := ⟨A, 0, none⟩) (by show A + 1 ≠ A; omega) v1).setOther (a := ⟨A, 1, none⟩) (by show A + 1 ≠ A; omega) v2).frozen i
            go_wp2
            go_meet
            case rel =>
              refine ⟨(bx, bY), (ax, ay), (if_pos Hsw.out).symm, (if_pos Hsw.out).symm, ?_, ?_, ?_, ?_⟩
              · exact (((HU3.out.setCell hsz.out _).setCell hsz.out _).setCell (Nat.le_succ_of_le hsz.out) _).setCell (Nat.le_succ_of_le hsz.out) _
              · exact (((R3.out.setOther (Nat.ne_of_lt hRl.out) _).setOther (Nat.ne_of_lt hRl.out) _).setOther (Nat.ne_of_lt (Nat.lt_succ_of_lt hRl.out)) _).setOther (Nat.ne_of_lt (Nat.lt_succ_of_lt hRl.out)) _
              · exact ((row_set2 RA.out _ _).setOther (by show A ≠ A + 1; omega) _).setOther (by show A ≠ A + 1; omega) _
              · exact row_set2 ((RB.out.setOther (by show A + 1 ≠ A; omega) _).setOther (by show A + 1 ≠ A; omega) _) _ _
          · have Hsw := hide hsw
            go_wp2
            go_meet
            case rel => exact ⟨(ax, ay), (bx, bY), (if_neg (Int.not_lt.2 Hsw.out)).symm, (if_neg (Int.not_lt.2 Hsw.out)).symm, HU3.out, R3.out, RA.out, RB.out⟩
        case rest =>
          clear RA RB R3 HU3 e0 e1 e2 e3 hne hne2
          obtain ⟨⟨lx, ly⟩, ⟨hx, hy⟩, HL, HH, HU3, R3, RA, RB⟩ := hcut
          have hcl : Vd.Cd (lx, ly) := by rw [HL.out]; split; exact HB.out; exact HA.out
          have hch : Vd.Cd (hx, hy) := by rw [HH.out]; split; exact HA.out; exact HB.out
          have HRay := hide (rayD_at (p := (x, y)) (w := t) HL.out HH.out)
          have HCL := hide hcl
          have HCH := hide hch
          have HCR : Hid (Vd.cr (lx, ly) (hx, hy) (x, y) t = timesP (subP (lx, ly) (hx, hy)) (x - lx * t, y - ly * t)) := rfl
          simp only [Vd.Cd] at hcl hch
          obtain ⟨l1, l2, l3, l4⟩ := hcl
          obtain ⟨-, -, h3, h4⟩ := hch
          have m1 := mul_bd (a := lx) (b := t) (A := 32768) (B := 1048576) (by omega) (by omega) (by omega) (by omega)
          have m2 := mul_bd (a := ly) (b := t) (A := 32768) (B := 1048576) (by omega) (by omega) (by omega) (by omega)
          have m3 := mul_bd (a := hy) (b := t) (A := 32768) (B := 1048576) (by omega) (by omega) (by omega) (by omega)
          have hvb : Hid (Bdd 34360786944 (x - lx * t, y - ly * t)) := by show (_ ∧ _) ∧ _ ∧ _; simp only; omega
          have a0 := RA.out.cell (i := 0) rfl
          have a1 := RA.out.cell (i := 1) rfl
          have b0 := RB.out.cell (i := 0) rfl
          have b1 := RB.out.cell (i := 1) rfl
          have q0 := R3.out.cell (i := 0) rfl
          have q1 := R3.out.cell (i := 1) rfl
          simp only at HRay HCR
          clear HL HH
          by_cases t1 : ly * t ≤ y
          · by_cases t2 : y < hy * t
            · have HR2 : Hid (Vd.rayD (ax, ay) (bx, bY) (x, y) t = decide (timesP (subP (lx, ly) (hx, hy)) (x - lx * t, y - ly * t) > 0)) := by rw [HRay.out, HCR.out]; simp [t1, t2, Hid]
              have hsu := hide (sub_bdd HCL.out HCH.out)
              go_wp2_with fail
              refine (way2_any (lx, ly) (hx, hy) (bdd_mono (cd_bdd HCL.out) (by omega)) (bdd_mono (cd_bdd HCH.out) (by omega)) _).mono ?_
              rintro e w3 ⟨rfl, hz3⟩
              replace HU3 := hide (HU3.out.trans hz3)
              replace R3 := hide (R3.out.up hz3)
              replace RA := hide (RA.out.up hz3)
              generalize hU : subP (lx, ly) (hx, hy) = U at *
              clear hU hz3 a0 a1 b0 b1 q0 q1 RB
              obtain ⟨ux, uy⟩ := U
              simp only [ptV]
              have q0 := fun o => (RA.out.alloc o).cell (i := 0) rfl
              have q1 := fun o => (RA.out.alloc o).cell (i := 1) rfl
              have q2 := fun o => (R3.out.alloc o).cell (i := 0) rfl
              have q3 := fun o => (R3.out.alloc o).cell (i := 1) rfl
              have RU := hide ((new_row (w := w3) (o := .cells #[.int .i64 ux, .int .i64 uy] 155) (vs := [.int .i64 ux, .int .i64 uy]) rfl).alloc (.cells #[.int .i64 (x - lx * t), .int .i64 (y - ly * t)] 155))
              have R4 := hide ((R3.out.alloc (.cells #[.int .i64 ux, .int .i64 uy] 155)).alloc (.cells #[.int .i64 (x - lx * t), .int .i64 (y - ly * t)] 155))
              have u0 := RU.out.cell (i := 0) rfl
              have u1 := RU.out.cell (i := 1) rfl
              go_wp2_with fail
              refine (times_any (ux, uy) (x - lx * t, y - ly * t) hsu.out hvb.out (by omega) (by omega) (by omega) _).mono ?_
              rintro e w4 ⟨rfl, hz4⟩
              replace HU3 := hide (((HU3.out.alloc _).alloc _).trans hz4)
              replace R4 := hide (R4.out.up hz4)
              clear hz4 u0 u1 q0 q1 q2 q3 RA RU
              generalize timesP (ux, uy) (x - lx * t, y - ly * t) = T at *
              by_cases h5 : T > 0
              all_goals
                replace HE2 := hide (HE2.out.trans (by rw [HR2.out]))
                simp only [h5, decide_true, decide_false, if_true, if_false, Bool.false_eq_true] at HE2
                go_wp2
                go_roundw
                case rel => exact ⟨k + 1, _, by go_num, rfl, by omega, HU3, R4, HE2⟩
                case measure => simp [intOf]; omega
            · have HR2 : Hid (Vd.rayD (ax, ay) (bx, bY) (x, y) t = false) := by rw [HRay.out]; simp [t2, Hid]
              rw [HR2.out] at HE2
              go_wp2
              go_roundw
              case rel => exact ⟨k + 1, _, by go_num, rfl, by omega, HU3, R3, HE2⟩
              case measure => simp [intOf]; omega
          · have HR2 : Hid (Vd.rayD (ax, ay) (bx, bY) (x, y) t = false) := by rw [HRay.out]; simp [t1, Hid]
            rw [HR2.out] at HE2
            go_wp2
            go_roundw
            case rel => exact ⟨k + 1, _, by go_num, rfl, by omega, HU3, R3, HE2⟩
            case measure => simp [intOf]; omega
      · have Ho := hide ho
        have HE2 := hide (HE.out.trans (inRingL_on ho))
        clear ho
        go_wp2_with fail
        refine wp_region_up (by kernel_rfl) (by kernel_rfl) ?_
        repeat (first | go_big_quiet_step ((go_at_call 203; exact Calls.up_of (on_is Ho.out HA.out HB.out HP.out _))))
        refine wpQuiet_nil ?_
        rintro w2 ⟨⟨_, hz2⟩, rfl⟩
        have HU2 := hide (HU.out.trans hz2)
        clear s0 s1 s2 s3 q0 q1 hz2
        go_wp2
        go_ret
        exact ⟨ret_i HE2.out.symm, HU2.out⟩
    · have hk2 : (Vd.segs r).length ≤ k := by rw [Vd.segs_len]; omega
      rw [List.drop_eq_nil_of_le hk2] at HE
      cases b
      all_goals
        go_wp2
        go_ret
        exact ⟨ret_i HE.out.symm, HU.out⟩
end Go.Proofs.YtcclepohmhdpbaaGreatDoor
