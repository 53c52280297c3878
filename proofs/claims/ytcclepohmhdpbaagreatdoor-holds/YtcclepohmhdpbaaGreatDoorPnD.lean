import Derived.Test.YtcclepohmhdpbaaGreatDoorProg
import Derived.Test.YtcclepohmhdpbaaGreatDoorOps
import Derived.Test.YtcclepohmhdpbaaGreatDoorPlD
import Derived.WalkLawsBesides
import Derived.Deep.QuietTactic
import Derived.BigQuiet
import Derived.Deep.DeepCutAuto
/- THE WALKS: package plane, points and segments. -/
namespace Go.Proofs.YtcclepohmhdpbaaGreatDoor
set_option linter.all false
open Go.RowKit Go.Deep

def ptV (p : Pnt) : Value := .agg #[.int .i64 p.1, .int .i64 p.2]
def segV (s : Vd.Seg) : Value := .agg #[.int .i64 s.1.1, .int .i64 s.1.2, .int .i64 s.2.1, .int .i64 s.2.2]
def spotV (p : Vd.Spot) : Value := .agg #[.int .i64 p.1.1, .int .i64 p.1.2, .int .i64 p.2]

theorem w64 {x : Int} (h1 : -9223372036854775808 ≤ x) (h2 : x ≤ 9223372036854775807) : wrap64 x = x := by unfold wrap64; omega
/-- a product of two that are bounded. -/
theorem mul_bd {a b A B : Int} (h1 : -A ≤ a) (h2 : a ≤ A) (h3 : -B ≤ b) (h4 : b ≤ B) : -(A * B) ≤ a * b ∧ a * b ≤ A * B := by
  have hA : 0 ≤ A := by omega
  have hB : 0 ≤ B := by omega
  have k1 : a * b ≤ A * B := by
    rcases Int.le_total 0 b with h | h
    · exact Int.le_trans (Int.mul_le_mul_of_nonneg_right h2 h) (Int.mul_le_mul_of_nonneg_left h4 hA)
    · have e : a * b = (-a) * (-b) := by grind
      rw [e]
      exact Int.le_trans (Int.mul_le_mul_of_nonneg_right (show -a ≤ A by omega) (by omega)) (Int.mul_le_mul_of_nonneg_left (show -b ≤ B by omega) hA)
  have k2 : -(A * B) ≤ a * b := by
    have : (-a) * b ≤ A * B := by
      rcases Int.le_total 0 b with h | h
      · exact Int.le_trans (Int.mul_le_mul_of_nonneg_right (show -a ≤ A by omega) h) (Int.mul_le_mul_of_nonneg_left h4 hA)
      · have e : (-a) * b = a * (-b) := by grind
        rw [e]
        exact Int.le_trans (Int.mul_le_mul_of_nonneg_right h2 (by omega)) (Int.mul_le_mul_of_nonneg_left (show -b ≤ B by omega) hA)
    have e : (-a) * b = -(a * b) := by grind
    omega
  exact ⟨k2, k1⟩

theorem res_cell {fn : Func} {p : Tmp} {ty : TypeId} (h : fn.results = #[.cell p ty]) (tmps : Array Value) (P : Program) (w : World) :
    (results fn tmps).run P w = ((asAddr (tmps.getD p undef)).run P w).andThen fun a w₁ => (loadVar ty a).run P w₁ := by
  simp only [results, h]
  simp [Sem.run_bind, Result.andThen]
theorem load_spot {W : World} {b : Nat} {v0 v1 v2 : Value} (h : VRow W b 127 [v0, v1, v2]) : (loadVar 127 ⟨b, 0, none⟩).run Tryz.prog W = .ok (.agg #[v0, v1, v2]) W := by
  have c0 := h.cell (i := 0) (v := v0) rfl
  have c1 := h.cell (i := 1) (v := v1) rfl
  have c2 := h.cell (i := 2) (v := v2) rfl
  simp [go_sem, c0, c1, c2]
theorem load_seg {W : World} {b : Nat} {v0 v1 v2 v3 : Value} (h : VRow W b 191 [v0, v1, v2, v3]) : (loadVar 191 ⟨b, 0, none⟩).run Tryz.prog W = .ok (.agg #[v0, v1, v2, v3]) W := by
  have c0 := h.cell (i := 0) (v := v0) rfl
  have c1 := h.cell (i := 1) (v := v1) rfl
  have c2 := h.cell (i := 2) (v := v2) rfl
  have c3 := h.cell (i := 3) (v := v3) rfl
  simp [go_sem, c0, c1, c2, c3]
theorem load_pnt {W : World} {b : Nat} {v0 v1 : Value} (h : VRow W b 32 [v0, v1]) : (loadVar 32 ⟨b, 0, none⟩).run Tryz.prog W = .ok (.agg #[v0, v1]) W := by
  have c0 := h.cell (i := 0) (v := v0) rfl
  have c1 := h.cell (i := 1) (v := v1) rfl
  simp [go_sem, c0, c1]
/-- A struct that is given back lies in a cell of the call's own. -/
theorem ret_cell {fn : Func} {p : Tmp} {ty : TypeId} (h : fn.results = #[.cell p ty]) {a : Act} {W : World} {Q : Ending → World → Prop} {b : Nat} {v : Value} (h4 : a.tmps.getD p undef = .pointer (some ⟨b, 0, none⟩)) (hd : a.defers = [])
    (hl : (loadVar ty ⟨b, 0, none⟩).run Tryz.prog W = .ok v W) (hQ : Q (.returned v) W) : bodyPost Tryz.prog fn Q .ret a W := by
  refine bodyPost_ret (v := v) ?_ hd hQ
  rw [res_cell h, h4]
  simp only [asAddr, Sem.run_pure, Result.andThen_ok]
  exact hl
theorem ret_i {a b : Int} (h : a = b) : Ending.returned (.int .i64 a) = .returned (.int .i64 b) := by rw [h]
theorem ret_b {a b : Bool} (h : a = b) : Ending.returned (.bool a) = .returned (.bool b) := by rw [h]

set_option maxHeartbeats 400000 in
theorem sign_any (n : Int) (w : World) : Calls Tryz.prog 253 #[.int .i64 n] w fun e w' => e = .returned (.int .i64 (Vd.sg n)) ∧ w' = w := by
  rcases Vd.sg_cases n with ⟨h, e⟩ | ⟨h, e⟩ | ⟨h, e⟩
  all_goals
    rw [e]
    clear e
    go_enter Tryz.func253, Tryz.ntmps253
    go_wp2
    go_ret
    exact ⟨rfl, rfl⟩

set_option maxHeartbeats 1000000 in
theorem before_any (p q : Pnt) (w : World) : Calls Tryz.prog 236 #[ptV p, ptV q] w fun e w' => e = .returned (.bool (decide (Vd.bef p q))) ∧ Up w w' := by
  obtain ⟨px, py⟩ := p
  obtain ⟨qx, qy⟩ := q
  simp only [ptV, Vd.bef]
  rcases Int.lt_trichotomy px qx with h | h | h
  · go_enter Tryz.func236, Tryz.ntmps236
    go_wp2
    go_ret
    exact ⟨ret_b (by simp [h]), ((Up.refl _).alloc _).alloc _⟩
  · subst h
    by_cases h2 : py < qy
    all_goals
      go_enter Tryz.func236, Tryz.ntmps236
      go_wp2
      go_ret
      exact ⟨ret_b (by simp; omega), ((Up.refl _).alloc _).alloc _⟩
  · have h1 : ¬ px < qx := by omega
    have h2 : (px == qx) = false := beq_eq_false_iff_ne.2 (by omega)
    have h3 : ¬ px = qx := by omega
    go_enter Tryz.func236, Tryz.ntmps236
    go_wp2
    go_ret
    exact ⟨ret_b (by simp; omega), ((Up.refl _).alloc _).alloc _⟩

set_option maxHeartbeats 1000000 in
theorem at_any (p : Pnt) (w : World) : Calls Tryz.prog 199 #[ptV p] w fun e w' => e = .returned (spotV (Vd.at1 p)) ∧ Up w w' := by
  obtain ⟨px, py⟩ := p
  simp only [ptV, spotV, Vd.at1]
  go_enter Tryz.func199, Tryz.ntmps199
  go_wp2
  exact bodyPost_ret (v := .agg #[.int .i64 px, .int .i64 py, .int .i64 1]) (by simp [results, Tryz.results199, go_sem]) rfl ⟨rfl, ((Up.refl _).alloc _).alloc _⟩

set_option maxHeartbeats 1000000 in
theorem middle_any (p q : Pnt) (hp : Vd.Cd p) (hq : Vd.Cd q) (w : World) : Calls Tryz.prog 202 #[ptV p, ptV q] w fun e w' => e = .returned (spotV (Vd.midOf p q)) ∧ Up w w' := by
  obtain ⟨px, py⟩ := p
  obtain ⟨qx, qy⟩ := q
  simp only [Vd.Cd] at hp hq
  simp only [ptV, spotV, Vd.midOf]
  go_enter Tryz.func202, Tryz.ntmps202
  go_wp2
  exact bodyPost_ret (v := .agg #[.int .i64 (px + qx), .int .i64 (py + qy), .int .i64 2]) (by simp [results, Tryz.results202, go_sem]) rfl ⟨rfl, (((Up.refl _).alloc _).alloc _).alloc _⟩

set_option maxHeartbeats 2000000 in
theorem side_any (s : Vd.Seg) (p : Vd.Spot) (hs : Vd.CdS s) (hp : Vd.Sp p) (w : World) : Calls Tryz.prog 233 #[segV s, spotV p] w fun e w' => e = .returned (.int .i64 (Vd.side s p)) ∧ Up w w' := by
  obtain ⟨⟨ax, ay⟩, ⟨bx, bY⟩⟩ := s
  obtain ⟨⟨x, y⟩, t⟩ := p
  simp only [Vd.CdS, Vd.Cd, Vd.Sp] at hs hp
  obtain ⟨⟨a1, a2, a3, a4⟩, b1, b2, b3, b4⟩ := hs
  obtain ⟨p1, p2, p3, p4, p5, p6⟩ := hp
  simp only [segV, spotV, Vd.side, Vd.cr]
  obtain ⟨m1, m2⟩ := mul_bd (a := ax) (b := t) (A := 32768) (B := 1048576) (by omega) a2 (by omega) p6
  obtain ⟨m3, m4⟩ := mul_bd (a := ay) (b := t) (A := 32768) (B := 1048576) (by omega) a4 (by omega) p6
  obtain ⟨n1, n2⟩ := mul_bd (a := bx - ax) (b := y - ay * t) (A := 65536) (B := 68719476736) (by omega) (by omega) (by omega) (by omega)
  obtain ⟨n3, n4⟩ := mul_bd (a := bY - ay) (b := x - ax * t) (A := 65536) (B := 68719476736) (by omega) (by omega) (by omega) (by omega)
  have w1 : wrap64 (ax * t) = ax * t := w64 (by omega) (by omega)
  have w2 : wrap64 (ay * t) = ay * t := w64 (by omega) (by omega)
  have w3 : wrap64 ((bx - ax) * (y - ay * t)) = (bx - ax) * (y - ay * t) := w64 (by omega) (by omega)
  have w4 : wrap64 ((bY - ay) * (x - ax * t)) = (bY - ay) * (x - ax * t) := w64 (by omega) (by omega)
  have w5 : wrap64 (x - ax * t) = x - ax * t := w64 (by omega) (by omega)
  have w6 : wrap64 (y - ay * t) = y - ay * t := w64 (by omega) (by omega)
  have w7 : wrap64 ((bx - ax) * (y - ay * t) - (bY - ay) * (x - ax * t)) = (bx - ax) * (y - ay * t) - (bY - ay) * (x - ax * t) := w64 (by omega) (by omega)
  go_enter Tryz.func233, Tryz.ntmps233
  go_wp2_with (go_at_call 253; refine (sign_any _ _).mono ?_; rintro e w1 ⟨rfl, rfl⟩)
  go_ret
  exact ⟨rfl, ((Up.refl _).alloc _).alloc _⟩
end Go.Proofs.YtcclepohmhdpbaaGreatDoor

/- REGIONS THAT DRAW THEIR ORDER, whose operations read and whose callees make memory and leave what was there: one walk serves every order. -/
namespace Go.Proofs.YtcclepohmhdpbaaGreatDoor
set_option linter.all false
open Go.RowKit Go.Deep

/-- A world that has grown out of w. -/
structure Gr (w : World) where
  v : World
  up : Up w v
instance (w : World) : Nonempty (Gr w) := ⟨⟨w, Up.refl w⟩⟩
theorem wp_region_up {P : Program} {id : Nat} {Q : Exit → Act → World → Prop} {a : Act} {w : World} {l : List Oper} (hm : P.follows .mixedOrders = true) (hB : Region.lexB .any l.toArray = true)
    (h : wpQuiet P l.toArray (fun w' => ∃ g : Gr w, w' = g.v) (fun a' => ∀ w', (∃ g : Gr w, w' = g.v) → Q .normal a' w') l a) : (Code.region id l.toArray true).wp P Q a w :=
  wp_region_quiet (C := fun w' => ∃ g : Gr w, w' = g.v) hm hB ⟨⟨_, (Up.refl w).drew⟩, rfl⟩ (by simpa using h)
theorem Calls.up_of {P : Program} {f : FuncId} {args : Array Value} {w : World} {g : Gr w} {v : Value}
    (h : Calls P f args g.v fun e w' => e = .returned v ∧ Up g.v w') : Calls P f args g.v fun e w'' => e = .returned v ∧ ∃ m : Gr w, w'' = m.v :=
  h.mono fun _ _ ⟨he, hu⟩ => ⟨he, ⟨_, g.up.trans hu⟩, rfl⟩
theorem VRow.gr {w : World} {b : Nat} {t : TypeId} {vs : List Value} (h : VRow w b t vs) {i : Nat} {v : Value} (hi : vs[i]? = some v) (g : Gr w) : g.v.cell? ⟨b, i, none⟩ = some v := g.up.cell (h.cell hi)
theorem cell_gr {w : World} {p : Addr} {v : Value} (h : w.cell? p = some v) (g : Gr w) : g.v.cell? p = some v := g.up.cell h
/-- all old cells, all old marks read as before. -/
theorem bcell {W w1 : World} (hb : Up W w1) : (∀ b o, b < W.heap.size → w1.cell? ⟨b, o, none⟩ = W.cell? ⟨b, o, none⟩) ∧ (∀ b o, b < W.heap.size → w1.frozen? ⟨b, o, none⟩ = W.frozen? ⟨b, o, none⟩) :=
  ⟨fun b o h => Below.cell hb (p := ⟨b, o, none⟩) h, fun b o h => Below.frozen hb (p := ⟨b, o, none⟩) h⟩
end Go.Proofs.YtcclepohmhdpbaaGreatDoor

/- THE WALKS: package plane: has, forward, meet. -/
namespace Go.Proofs.YtcclepohmhdpbaaGreatDoor
set_option linter.all false
open Go.RowKit Go.Deep

set_option maxHeartbeats 1000000 in
theorem between_any (e m o : Int) (w : World) : Calls Tryz.prog 238 #[.int .i64 e, .int .i64 m, .int .i64 o] w fun x w' => x = .returned (.bool (decide (Vd.btw e m o))) ∧ w' = w := by
  unfold Vd.btw
  by_cases h1 : e ≤ m <;> by_cases h2 : m ≤ o <;> by_cases h3 : o ≤ m <;> by_cases h4 : m ≤ e
  all_goals
    go_enter Tryz.func238, Tryz.ntmps238
    go_wp2
    go_ret
    exact ⟨ret_b (by first | exact (decide_eq_true (by omega)).symm | exact (decide_eq_false (by omega)).symm | (simp <;> omega)), rfl⟩

theorem hasB_of (s : Vd.Seg) (p : Vd.Spot) : Vd.hasB s p = (decide (Vd.side s p = 0) && (decide (Vd.btw (s.1.1 * p.2) p.1.1 (s.2.1 * p.2)) && decide (Vd.btw (s.1.2 * p.2) p.1.2 (s.2.2 * p.2)))) := by
  unfold Vd.hasB Vd.has Vd.side
  by_cases h : Vd.cr s.1 s.2 p.1 p.2 = 0
  · have : Vd.sg (Vd.cr s.1 s.2 p.1 p.2) = 0 := (Vd.sg_zero _).2 h
    simp [h, this]
    exact fun _ _ => rfl
  · have : ¬ Vd.sg (Vd.cr s.1 s.2 p.1 p.2) = 0 := fun e => h ((Vd.sg_zero _).1 e)
    simp [h, this]

set_option maxHeartbeats 2000000 in
theorem has_any (s : Vd.Seg) (p : Vd.Spot) (hs : Vd.CdS s) (hp : Vd.Sp p) (w : World) : Calls Tryz.prog 209 #[segV s, spotV p] w fun e w' => e = .returned (.bool (Vd.hasB s p)) ∧ Up w w' := by
  have HB := hide (hasB_of s p)
  have HS := hide hs
  have HP := hide hp
  obtain ⟨⟨ax, ay⟩, ⟨bx, bY⟩⟩ := s
  obtain ⟨⟨x, y⟩, t⟩ := p
  simp only [Vd.CdS, Vd.Cd, Vd.Sp] at hs hp
  obtain ⟨⟨a1, a2, a3, a4⟩, b1, b2, b3, b4⟩ := hs
  obtain ⟨x1, x2, y1, y2, t1, t2⟩ := hp
  have m1 := mul_bd (a := ax) (b := t) (A := 32768) (B := 1048576) (by omega) (by omega) (by omega) (by omega)
  have m2 := mul_bd (a := ay) (b := t) (A := 32768) (B := 1048576) (by omega) (by omega) (by omega) (by omega)
  have m3 := mul_bd (a := bx) (b := t) (A := 32768) (B := 1048576) (by omega) (by omega) (by omega) (by omega)
  have m4 := mul_bd (a := bY) (b := t) (A := 32768) (B := 1048576) (by omega) (by omega) (by omega) (by omega)
  simp only [segV, spotV]
  have wtac : True := trivial
  by_cases h0 : Vd.side ((ax, ay), (bx, bY)) ((x, y), t) = 0
  · cases H1 : decide (Vd.btw (ax * t) x (bx * t))
    all_goals
      have H2 := hide H1
      go_enter Tryz.func209, Tryz.ntmps209
      go_wp2_with (first | (go_at_call 233; refine (side_any ((ax, ay), (bx, bY)) ((x, y), t) HS.out HP.out _).mono ?_; rintro e w1 ⟨rfl, u1⟩; obtain ⟨hc, hf⟩ := bcell u1; replace u1 := hide u1) | (go_at_call 238; refine (between_any _ _ _ _).mono ?_; rintro e w2 ⟨rfl, rfl⟩))
      go_ret
      exact ⟨ret_b (by rw [HB.out]; simp only [H2.out, h0]; simp), (((Up.refl _).alloc _).alloc _).trans u1.out⟩
  · have h0' : (Vd.side ((ax, ay), (bx, bY)) ((x, y), t) == 0) = false := beq_eq_false_iff_ne.2 h0
    go_enter Tryz.func209, Tryz.ntmps209
    go_wp2_with (first | (go_at_call 233; refine (side_any ((ax, ay), (bx, bY)) ((x, y), t) HS.out HP.out _).mono ?_; rintro e w1 ⟨rfl, u1⟩; obtain ⟨hc, hf⟩ := bcell u1; replace u1 := hide u1))
    go_ret
    exact ⟨ret_b (by rw [HB.out]; simp [h0]), (((Up.refl _).alloc _).alloc _).trans u1.out⟩

theorem seg_eta (s : Vd.Seg) : segV s = .agg #[.int .i64 s.1.1, .int .i64 s.1.2, .int .i64 s.2.1, .int .i64 s.2.2] := rfl
set_option maxHeartbeats 2000000 in
theorem forward_any (s : Vd.Seg) (w : World) : Calls Tryz.prog 200 #[segV s] w fun e w' => e = .returned (segV (Vd.fwd s.1 s.2)) ∧ Up w w' := by
  obtain ⟨⟨ax, ay⟩, ⟨bx, bY⟩⟩ := s
  simp only [Vd.fwd]
  by_cases h : Vd.bef (bx, bY) (ax, ay)
  · rw [if_pos h]
    have H := hide (decide_eq_true h)
    simp only [segV]
    go_enter Tryz.func200, Tryz.ntmps200
    go_wp2_with (go_at_call 236; refine (before_any (bx, bY) (ax, ay) _).mono ?_; rintro e w1 ⟨rfl, u1⟩; rw [H.out]; obtain ⟨hc, hf⟩ := bcell u1; have hz := u1.size; simp at hz; replace u1 := hide u1)
    refine bodyPost_ret (v := .agg #[.int .i64 bx, .int .i64 bY, .int .i64 ax, .int .i64 ay]) (by simp [results, Tryz.results200, go_sem, hc, hf, hz]) rfl ⟨rfl, ?_⟩
    repeat (refine Up.setCell ?_ (by simp) _)
    exact (((Up.refl _).alloc _).alloc _).trans u1.out
  · rw [if_neg h]
    have H := hide (decide_eq_false h)
    simp only [segV]
    go_enter Tryz.func200, Tryz.ntmps200
    go_wp2_with (go_at_call 236; refine (before_any (bx, bY) (ax, ay) _).mono ?_; rintro e w1 ⟨rfl, u1⟩; rw [H.out]; obtain ⟨hc, hf⟩ := bcell u1; have hz := u1.size; simp at hz; replace u1 := hide u1)
    refine bodyPost_ret (v := .agg #[.int .i64 ax, .int .i64 ay, .int .i64 bx, .int .i64 bY]) (by simp [results, Tryz.results200, go_sem, hc, hf, hz]) rfl ⟨rfl, ?_⟩
    repeat (refine Up.setCell ?_ (by simp) _)
    exact (((Up.refl _).alloc _).alloc _).trans u1.out

end Go.Proofs.YtcclepohmhdpbaaGreatDoor

/- THE WALKS: package plane: meetOnLine. -/
namespace Go.Proofs.YtcclepohmhdpbaaGreatDoor
set_option linter.all false
open Go.RowKit Go.Deep

/-- meetOnLine, by what it keeps. -/
def onF (f l : Pnt) : Int := if Vd.bef f l then 3 else if f = l then 1 else 0
theorem onLine_F (s t : Vd.Seg) : Vd.onLine s t = onF (if Vd.bef s.1 t.1 then t.1 else s.1) (if Vd.bef t.2 s.2 then t.2 else s.2) := rfl
theorem new_row {w : World} {o : Obj} {vs : List Value} {t : TypeId} (h : o = .cells vs.toArray t (0, 0)) : VRow (w.alloc o) w.heap.size t vs := by subst h; exact VRow.new w vs t
theorem row_set2 {w : World} {b : Nat} {t : TypeId} {x y : Value} (h : VRow w b t [x, y]) (u v : Value) : VRow ((w.setCell ⟨b, 0, none⟩ u).setCell ⟨b, 1, none⟩ v) b t [u, v] := (h.set 0 u).set 1 v
set_option maxHeartbeats 4000000 in
theorem online_any (s t : Vd.Seg) (w : World) : Calls Tryz.prog 234 #[segV s, segV t] w fun e w' => e = .returned (.int .i64 (Vd.onLine s t)) ∧ Up w w' := by
  have HE := hide (onLine_F s t)
  obtain ⟨⟨ax, ay⟩, ⟨bx, bY⟩⟩ := s
  obtain ⟨⟨cx, cy⟩, ⟨dx, dy⟩⟩ := t
  simp only [segV]
  go_enter Tryz.func234, Tryz.ntmps234
  have R0 := hide (((new_row (w := w) (o := .cells #[.int .i64 ax, .int .i64 ay, .int .i64 bx, .int .i64 bY] 191) (vs := [.int .i64 ax, .int .i64 ay, .int .i64 bx, .int .i64 bY]) rfl).alloc (.cells #[.int .i64 cx, .int .i64 cy, .int .i64 dx, .int .i64 dy] 191)).alloc (.cells #[.int .i64 ax, .int .i64 ay] 32))
  have R1 := hide ((new_row (w := w.alloc (.cells #[.int .i64 ax, .int .i64 ay, .int .i64 bx, .int .i64 bY] 191)) (o := .cells #[.int .i64 cx, .int .i64 cy, .int .i64 dx, .int .i64 dy] 191) (vs := [.int .i64 cx, .int .i64 cy, .int .i64 dx, .int .i64 dy]) rfl).alloc (.cells #[.int .i64 ax, .int .i64 ay] 32))
  have R2 := hide (new_row (w := (w.alloc (.cells #[.int .i64 ax, .int .i64 ay, .int .i64 bx, .int .i64 bY] 191)).alloc (.cells #[.int .i64 cx, .int .i64 cy, .int .i64 dx, .int .i64 dy] 191)) (o := .cells #[.int .i64 ax, .int .i64 ay] 32) (vs := [.int .i64 ax, .int .i64 ay]) rfl)
  rw [show (w.alloc (.cells #[.int .i64 ax, .int .i64 ay, .int .i64 bx, .int .i64 bY] 191)).heap.size = w.heap.size + 1 by simp] at R1
  rw [show ((w.alloc (.cells #[.int .i64 ax, .int .i64 ay, .int .i64 bx, .int .i64 bY] 191)).alloc (.cells #[.int .i64 cx, .int .i64 cy, .int .i64 dx, .int .i64 dy] 191)).heap.size = w.heap.size + 2 by simp] at R2
  go_upto_if 12 with (go_at_call 236; refine (before_any (ax, ay) (cx, cy) _).mono ?_; rintro e w1 ⟨rfl, u1⟩; replace u1 := hide u1)
  have S0 := hide (R0.out.of_block (u1.out.block _ R0.out.lt))
  have S1 := hide (R1.out.of_block (u1.out.block _ R1.out.lt))
  have S2 := hide (R2.out.of_block (u1.out.block _ R2.out.lt))
  have HU1 : Hid (Up w w1) := (((((Up.refl _).alloc _).alloc _).alloc _).trans u1.out)
  clear R0 R1 R2 u1
  have a0 := S1.out.cell (i := 0) rfl
  have a1 := S1.out.cell (i := 1) rfl
  have b0 := S2.out.cell (i := 0) rfl
  have b1 := S2.out.cell (i := 1) rfl
  have bf := fun i => S2.out.frozen i
  go_cut [] (fun wc => ∃ fx fy : Int, Hid ((fx, fy) = if Vd.bef (ax, ay) (cx, cy) then (cx, cy) else (ax, ay)) ∧ Hid (Up w wc) ∧ Hid (VRow wc w.heap.size 191 [.int .i64 ax, .int .i64 ay, .int .i64 bx, .int .i64 bY]) ∧ Hid (VRow wc (w.heap.size + 1) 191 [.int .i64 cx, .int .i64 cy, .int .i64 dx, .int .i64 dy]) ∧ Hid (VRow wc (w.heap.size + 2) 32 [.int .i64 fx, .int .i64 fy]))
  case first =>
    by_cases h : Vd.bef (ax, ay) (cx, cy)
    · have D := hide h
      have d : decide (Vd.bef (ax, ay) (cx, cy)) = true := decide_eq_true h
      clear h
      go_wp2
      go_meet
      case rel => exact ⟨cx, cy, (if_pos D.out).symm, Up.setCell (Up.setCell HU1.out (by show w.heap.size ≤ w.heap.size + 2; omega) _) (by show w.heap.size ≤ w.heap.size + 2; omega) _, (S0.out.setOther (by show w.heap.size ≠ w.heap.size + 2; omega) _).setOther (by show w.heap.size ≠ w.heap.size + 2; omega) _, (S1.out.setOther (by show w.heap.size + 1 ≠ w.heap.size + 2; omega) _).setOther (by show w.heap.size + 1 ≠ w.heap.size + 2; omega) _, row_set2 S2.out _ _⟩
    · have D := hide h
      have d : decide (Vd.bef (ax, ay) (cx, cy)) = false := decide_eq_false h
      clear h
      go_wp2
      go_meet
      case rel => exact ⟨ax, ay, (if_neg D.out).symm, HU1.out, S0.out, S1.out, S2.out⟩
  case rest =>
    clear a0 a1 b0 b1 bf S0 S1 S2 HU1
    obtain ⟨fx, fy, HF, HU, S0, S1, S2⟩ := hcut
    have c2 := S0.out.cell (i := 2) rfl
    have c3 := S0.out.cell (i := 3) rfl
    have e2a := fun o => (S1.out.alloc o).cell (i := 2) rfl
    have e3a := fun o => (S1.out.alloc o).cell (i := 3) rfl
    have T1 := hide (S1.out.alloc (.cells #[.int .i64 bx, .int .i64 bY] 32))
    have T2 := hide (S2.out.alloc (.cells #[.int .i64 bx, .int .i64 bY] 32))
    have T3 := hide (new_row (w := wc) (o := .cells #[.int .i64 bx, .int .i64 bY] 32) (vs := [.int .i64 bx, .int .i64 bY]) rfl)
    have hne : w.heap.size + 2 ≠ wc.heap.size := by have := S2.out.lt; omega
    have HNE := hide hne
    clear hne
    go_upto_if 20 with (go_at_call 236; refine (before_any (dx, dy) (bx, bY) _).mono ?_; rintro e w1 ⟨rfl, u1⟩; replace u1 := hide u1)
    have g2 := (T1.out.of_block (u1.out.block _ T1.out.lt)).cell (i := 2) rfl
    have g3 := (T1.out.of_block (u1.out.block _ T1.out.lt)).cell (i := 3) rfl
    have V1 := hide (T2.out.of_block (u1.out.block _ T2.out.lt))
    have V2 := hide (T3.out.of_block (u1.out.block _ T3.out.lt))
    have k0 := V2.out.cell (i := 0) rfl
    have k1 := V2.out.cell (i := 1) rfl
    have kf := fun i => V2.out.frozen i
    have HU1 : Hid (Up w w1) := (HU.out.alloc _).trans u1.out
    have HS := hide HU.out.size
    clear T1 T2 T3 u1 e2a e3a c2 c3
    go_cut [] (fun wd => ∃ lx ly : Int, Hid ((lx, ly) = if Vd.bef (dx, dy) (bx, bY) then (dx, dy) else (bx, bY)) ∧ Hid (Up w wd) ∧ Hid (VRow wd (w.heap.size + 2) 32 [.int .i64 fx, .int .i64 fy]) ∧ Hid (VRow wd wc.heap.size 32 [.int .i64 lx, .int .i64 ly]))
    case first =>
      by_cases h : Vd.bef (dx, dy) (bx, bY)
      · have D := hide h
        have d : decide (Vd.bef (dx, dy) (bx, bY)) = true := decide_eq_true h
        clear h
        go_wp2
        go_meet
        case rel => exact ⟨dx, dy, (if_pos D.out).symm, Up.setCell (Up.setCell HU1.out HS.out _) HS.out _, (V1.out.setOther HNE.out _).setOther HNE.out _, row_set2 V2.out _ _⟩
      · have D := hide h
        have d : decide (Vd.bef (dx, dy) (bx, bY)) = false := decide_eq_false h
        clear h
        go_wp2
        go_meet
        case rel => exact ⟨bx, bY, (if_neg D.out).symm, HU1.out, V1.out, V2.out⟩
    case rest =>
      clear g2 g3 V1 V2 k0 k1 kf HU1
      obtain ⟨lx, ly, HL, HU2, V1, V2⟩ := hcut
      have p0 := V1.out.cell (i := 0) rfl
      have p1 := V1.out.cell (i := 1) rfl
      have q0 := V2.out.cell (i := 0) rfl
      have q1 := V2.out.cell (i := 1) rfl
      have HR : Hid (Vd.onLine ((ax, ay), bx, bY) ((cx, cy), dx, dy) = onF (fx, fy) (lx, ly)) := by
        rw [HE.out, HF.out, HL.out]; exact rfl
      by_cases h : Vd.bef (fx, fy) (lx, ly)
      · have D := hide h
        clear h
        go_wp2_with (go_at_call 236; refine (before_any (fx, fy) (lx, ly) _).mono ?_; rintro e w1 ⟨rfl, u1⟩; replace u1 := hide u1; rw [decide_eq_true D.out])
        go_ret
        exact ⟨ret_i (by rw [HR.out]; unfold onF; rw [if_pos D.out]), HU2.out.trans u1.out⟩
      · have D := hide h
        clear h
        by_cases h : (fx, fy) = (lx, ly)
        · cases h
          go_wp2_with (go_at_call 236; refine (before_any (fx, fy) (fx, fy) _).mono ?_; rintro e w1 ⟨rfl, u1⟩; replace u1 := hide u1; have r0 := u1.out.cell p0; have r1 := u1.out.cell p1; have r2 := u1.out.cell q0; have r3 := u1.out.cell q1; rw [decide_eq_false D.out])
          go_ret
          exact ⟨ret_i (by rw [HR.out]; unfold onF; rw [if_neg D.out, if_pos rfl]), HU2.out.trans u1.out⟩
        · have D2 := hide h
          rcases (show fx ≠ lx ∨ (fx = lx ∧ fy ≠ ly) from by by_cases c : fx = lx; exact .inr ⟨c, fun e => h (by rw [c, e])⟩; exact .inl c) with hd | ⟨rfl, hd⟩
          all_goals
            have hd' := beq_eq_false_iff_ne.2 hd
            clear h
            go_wp2_with (go_at_call 236; refine (before_any (fx, fy) (_, ly) _).mono ?_; rintro e w1 ⟨rfl, u1⟩; replace u1 := hide u1; have r0 := u1.out.cell p0; have r1 := u1.out.cell p1; have r2 := u1.out.cell q0; have r3 := u1.out.cell q1; rw [decide_eq_false D.out])
            go_ret
            exact ⟨ret_i (by rw [HR.out]; unfold onF; rw [if_neg D.out, if_neg D2.out]), HU2.out.trans u1.out⟩
end Go.Proofs.YtcclepohmhdpbaaGreatDoor

/- THE WALKS: package plane: Meet. -/
namespace Go.Proofs.YtcclepohmhdpbaaGreatDoor
set_option linter.all false
open Go.RowKit Go.Deep

theorem VRow.up {w w' : World} {b : Nat} {t : TypeId} {vs : List Value} (h : VRow w b t vs) (k : Up w w') : VRow w' b t vs := h.of_block (k.block _ h.lt)
theorem side_at (s : Vd.Seg) (p : Pnt) : Vd.side s (Vd.at1 p) = Vd.sg (Vd.cr s.1 s.2 p 1) := rfl
theorem sg_bd (n : Int) : -1 ≤ Vd.sg n ∧ Vd.sg n ≤ 1 := by rcases Vd.sg_cases n with ⟨_, e⟩ | ⟨_, e⟩ | ⟨_, e⟩ <;> rw [e] <;> omega
/-- Meet, by the four sides. -/
def meetK (x : Int) (a b c d : Int) : Int := if a = 0 ∧ b = 0 ∧ c = 0 ∧ d = 0 then x else if a * b > 0 ∨ c * d > 0 then 0 else if a * b * c * d = 0 then 1 else 2
theorem meet_K (s t : Vd.Seg) : Vd.meetS s t = meetK (Vd.onLine (Vd.fwd s.1 s.2) (Vd.fwd t.1 t.2)) (Vd.side s (Vd.at1 t.1)) (Vd.side s (Vd.at1 t.2)) (Vd.side t (Vd.at1 s.1)) (Vd.side t (Vd.at1 s.2)) := rfl

set_option maxHeartbeats 4000000 in
theorem meet_any (s t : Vd.Seg) (hs : Vd.CdS s) (ht : Vd.CdS t) (w : World) : Calls Tryz.prog 196 #[segV s, segV t] w fun e w' => e = .returned (.int .i64 (Vd.meetS s t)) ∧ Up w w' := by
  have HE := hide (meet_K s t)
  have HS := hide hs
  have HT := hide ht
  obtain ⟨⟨ax, ay⟩, ⟨bx, bY⟩⟩ := s
  obtain ⟨⟨cx, cy⟩, ⟨dx, dy⟩⟩ := t
  clear hs ht
  simp only [segV]
  have R0 := hide ((new_row (w := w) (o := .cells #[.int .i64 ax, .int .i64 ay, .int .i64 bx, .int .i64 bY] 191) (vs := [.int .i64 ax, .int .i64 ay, .int .i64 bx, .int .i64 bY]) rfl).alloc (.cells #[.int .i64 cx, .int .i64 cy, .int .i64 dx, .int .i64 dy] 191))
  have R1 := hide ((new_row (w := w.alloc (.cells #[.int .i64 ax, .int .i64 ay, .int .i64 bx, .int .i64 bY] 191)) (o := .cells #[.int .i64 cx, .int .i64 cy, .int .i64 dx, .int .i64 dy] 191) (vs := [.int .i64 cx, .int .i64 cy, .int .i64 dx, .int .i64 dy]) rfl))
  rw [show (w.alloc (.cells #[.int .i64 ax, .int .i64 ay, .int .i64 bx, .int .i64 bY] 191)).heap.size = w.heap.size + 1 by simp] at R1
  have HU : Hid (Up w ((w.alloc (.cells #[.int .i64 ax, .int .i64 ay, .int .i64 bx, .int .i64 bY] 191)).alloc (.cells #[.int .i64 cx, .int .i64 cy, .int .i64 dx, .int .i64 dy] 191))) := ((Up.refl _).alloc _).alloc _
  go_enter Tryz.func196, Tryz.ntmps196
  go_wp2_with fail
  generalize (w.alloc (.cells #[.int .i64 ax, .int .i64 ay, .int .i64 bx, .int .i64 bY] 191)).alloc (.cells #[.int .i64 cx, .int .i64 cy, .int .i64 dx, .int .i64 dy] 191) = W at *
  have s0 := R0.out.gr (i := 0) rfl
  have s1 := R0.out.gr (i := 1) rfl
  have s2 := R0.out.gr (i := 2) rfl
  have s3 := R0.out.gr (i := 3) rfl
  have t0 := R1.out.gr (i := 0) rfl
  have t1 := R1.out.gr (i := 1) rfl
  have t2 := R1.out.gr (i := 2) rfl
  have t3 := R1.out.gr (i := 3) rfl
  refine wp_region_up (by kernel_rfl) (by kernel_rfl) ?_
  repeat (first | go_big_quiet_step ((first | (go_at_call 199; exact Calls.up_of (at_any (cx, cy) _)) | (go_at_call 233; exact Calls.up_of (side_any ((ax, ay), (bx, bY)) (Vd.at1 (cx, cy)) HS.out (Vd.at1_sp HT.out.1) _)))))
  refine wpQuiet_nil ?_
  rintro _ ⟨⟨w1, u⟩, rfl⟩
  replace R0 := hide (R0.out.up u)
  replace R1 := hide (R1.out.up u)
  replace HU := hide (HU.out.trans u)
  clear s0 s1 s2 s3 t0 t1 t2 t3 u
  go_wp2_with fail
  have s0 := R0.out.gr (i := 0) rfl
  have s1 := R0.out.gr (i := 1) rfl
  have s2 := R0.out.gr (i := 2) rfl
  have s3 := R0.out.gr (i := 3) rfl
  have t0 := R1.out.gr (i := 0) rfl
  have t1 := R1.out.gr (i := 1) rfl
  have t2 := R1.out.gr (i := 2) rfl
  have t3 := R1.out.gr (i := 3) rfl
  refine wp_region_up (by kernel_rfl) (by kernel_rfl) ?_
  repeat (first | go_big_quiet_step ((first | (go_at_call 199; exact Calls.up_of (at_any (dx, dy) _)) | (go_at_call 233; exact Calls.up_of (side_any ((ax, ay), (bx, bY)) (Vd.at1 (dx, dy)) HS.out (Vd.at1_sp HT.out.2) _)))))
  refine wpQuiet_nil ?_
  rintro _ ⟨⟨w2, u⟩, rfl⟩
  replace R0 := hide (R0.out.up u)
  replace R1 := hide (R1.out.up u)
  replace HU := hide (HU.out.trans u)
  clear s0 s1 s2 s3 t0 t1 t2 t3 u
  go_wp2_with fail
  have s0 := R0.out.gr (i := 0) rfl
  have s1 := R0.out.gr (i := 1) rfl
  have s2 := R0.out.gr (i := 2) rfl
  have s3 := R0.out.gr (i := 3) rfl
  have t0 := R1.out.gr (i := 0) rfl
  have t1 := R1.out.gr (i := 1) rfl
  have t2 := R1.out.gr (i := 2) rfl
  have t3 := R1.out.gr (i := 3) rfl
  refine wp_region_up (by kernel_rfl) (by kernel_rfl) ?_
  repeat (first | go_big_quiet_step ((first | (go_at_call 199; exact Calls.up_of (at_any (ax, ay) _)) | (go_at_call 233; exact Calls.up_of (side_any ((cx, cy), (dx, dy)) (Vd.at1 (ax, ay)) HT.out (Vd.at1_sp HS.out.1) _)))))
  refine wpQuiet_nil ?_
  rintro _ ⟨⟨w3, u⟩, rfl⟩
  replace R0 := hide (R0.out.up u)
  replace R1 := hide (R1.out.up u)
  replace HU := hide (HU.out.trans u)
  clear s0 s1 s2 s3 t0 t1 t2 t3 u
  go_wp2_with fail
  have s0 := R0.out.gr (i := 0) rfl
  have s1 := R0.out.gr (i := 1) rfl
  have s2 := R0.out.gr (i := 2) rfl
  have s3 := R0.out.gr (i := 3) rfl
  have t0 := R1.out.gr (i := 0) rfl
  have t1 := R1.out.gr (i := 1) rfl
  have t2 := R1.out.gr (i := 2) rfl
  have t3 := R1.out.gr (i := 3) rfl
  refine wp_region_up (by kernel_rfl) (by kernel_rfl) ?_
  repeat (first | go_big_quiet_step ((first | (go_at_call 199; exact Calls.up_of (at_any (bx, bY) _)) | (go_at_call 233; exact Calls.up_of (side_any ((cx, cy), (dx, dy)) (Vd.at1 (bx, bY)) HT.out (Vd.at1_sp HS.out.2) _)))))
  refine wpQuiet_nil ?_
  rintro _ ⟨⟨w4, u⟩, rfl⟩
  replace R0 := hide (R0.out.up u)
  replace R1 := hide (R1.out.up u)
  replace HU := hide (HU.out.trans u)
  clear s0 s1 s2 s3 t0 t1 t2 t3 u
  have B1 := sg_bd (Vd.cr (ax, ay) (bx, bY) (cx, cy) 1)
  have B2 := sg_bd (Vd.cr (ax, ay) (bx, bY) (dx, dy) 1)
  have B3 := sg_bd (Vd.cr (cx, cy) (dx, dy) (ax, ay) 1)
  have B4 := sg_bd (Vd.cr (cx, cy) (dx, dy) (bx, bY) 1)
  simp only [side_at] at HE ⊢
  generalize Vd.sg (Vd.cr (ax, ay) (bx, bY) (cx, cy) 1) = a at *
  generalize Vd.sg (Vd.cr (ax, ay) (bx, bY) (dx, dy) 1) = b at *
  generalize Vd.sg (Vd.cr (cx, cy) (dx, dy) (ax, ay) 1) = c at *
  generalize Vd.sg (Vd.cr (cx, cy) (dx, dy) (bx, bY) 1) = d at *
  have k1 : wrap64 (a * b) = a * b := w64 (by have := (mul_bd (a := a) (b := b) (A := 1) (B := 1) (by omega) (by omega) (by omega) (by omega)); omega) (by have := (mul_bd (a := a) (b := b) (A := 1) (B := 1) (by omega) (by omega) (by omega) (by omega)); omega)
  have k2 : wrap64 (c * d) = c * d := w64 (by have := (mul_bd (a := c) (b := d) (A := 1) (B := 1) (by omega) (by omega) (by omega) (by omega)); omega) (by have := (mul_bd (a := c) (b := d) (A := 1) (B := 1) (by omega) (by omega) (by omega) (by omega)); omega)
  have m1 := mul_bd (a := a) (b := b) (A := 1) (B := 1) (by omega) (by omega) (by omega) (by omega)
  have m2 := mul_bd (a := a * b) (b := c) (A := 1) (B := 1) (by omega) (by omega) (by omega) (by omega)
  have m3 := mul_bd (a := a * b * c) (b := d) (A := 1) (B := 1) (by omega) (by omega) (by omega) (by omega)
  have k3 : wrap64 (a * b * c) = a * b * c := w64 (by omega) (by omega)
  have k4 : wrap64 (a * b * c * d) = a * b * c * d := w64 (by omega) (by omega)
  by_cases hz : a = 0 ∧ b = 0 ∧ c = 0 ∧ d = 0
  · obtain ⟨rfl, rfl, rfl, rfl⟩ := hz
    clear B1 B2 B3 B4 k1 k2 k3 k4 m1 m2 m3
    have HR : Hid (Vd.meetS ((ax, ay), bx, bY) ((cx, cy), dx, dy) = Vd.onLine (Vd.fwd (ax, ay) (bx, bY)) (Vd.fwd (cx, cy) (dx, dy))) := HE.out
    go_wp2_with fail
    have s0 := R0.out.gr (i := 0) rfl
    have s1 := R0.out.gr (i := 1) rfl
    have s2 := R0.out.gr (i := 2) rfl
    have s3 := R0.out.gr (i := 3) rfl
    have t0 := R1.out.gr (i := 0) rfl
    have t1 := R1.out.gr (i := 1) rfl
    have t2 := R1.out.gr (i := 2) rfl
    have t3 := R1.out.gr (i := 3) rfl
    refine wp_region_up (by kernel_rfl) (by kernel_rfl) ?_
    repeat (first | go_big_quiet_step ((first | (go_at_call_of 200 (Value.agg #[.int .i64 ax, .int .i64 ay, .int .i64 bx, .int .i64 bY]); exact Calls.up_of (forward_any ((ax, ay), (bx, bY)) _)) | (go_at_call 200; exact Calls.up_of (forward_any ((cx, cy), (dx, dy)) _)) | (go_at_call 234; exact Calls.up_of (online_any (Vd.fwd (ax, ay) (bx, bY)) (Vd.fwd (cx, cy) (dx, dy)) _)))))
    refine wpQuiet_nil ?_
    rintro _ ⟨⟨w5, u⟩, rfl⟩
    go_wp2
    go_ret
    exact ⟨ret_i HR.out.symm, HU.out.trans u⟩
  · have HZ := hide hz
    have hcs : (a == 0) = false ∨ (a = 0 ∧ (b == 0) = false) ∨ (a = 0 ∧ b = 0 ∧ (c == 0) = false) ∨ (a = 0 ∧ b = 0 ∧ c = 0 ∧ (d == 0) = false) := by
      simp only [beq_eq_false_iff_ne]; omega
    by_cases p1 : 0 < a * b
    · have HR : Hid (Vd.meetS ((ax, ay), bx, bY) ((cx, cy), dx, dy) = 0) := by rw [HE.out]; unfold meetK; rw [if_neg HZ.out, if_pos (.inl p1)]; exact rfl
      clear hz B1 B2 B3 B4 m1 m2 m3
      rcases hcs with h | ⟨rfl, h⟩ | ⟨rfl, rfl, h⟩ | ⟨rfl, rfl, rfl, h⟩
      all_goals
        first
        | (exfalso; simp at p1; done)
        | (go_wp2; go_ret; exact ⟨ret_i HR.out.symm, HU.out⟩)
    · by_cases p2 : 0 < c * d
      · have HR : Hid (Vd.meetS ((ax, ay), bx, bY) ((cx, cy), dx, dy) = 0) := by rw [HE.out]; unfold meetK; rw [if_neg HZ.out, if_pos (.inr p2)]; exact rfl
        clear hz B1 B2 B3 B4 m1 m2 m3
        rcases hcs with h | ⟨rfl, h⟩ | ⟨rfl, rfl, h⟩ | ⟨rfl, rfl, rfl, h⟩
        all_goals
          first
          | (exfalso; simp at p2; done)
          | (go_wp2; go_ret; exact ⟨ret_i HR.out.symm, HU.out⟩)
      · by_cases p3 : a * b * c * d = 0
        · have HR : Hid (Vd.meetS ((ax, ay), bx, bY) ((cx, cy), dx, dy) = 1) := by rw [HE.out]; unfold meetK; rw [if_neg HZ.out, if_neg (by omega), if_pos p3]; exact rfl
          clear hz B1 B2 B3 B4 m1 m2 m3
          rcases hcs with h | ⟨rfl, h⟩ | ⟨rfl, rfl, h⟩ | ⟨rfl, rfl, rfl, h⟩
          all_goals
            go_wp2
            go_ret
            exact ⟨ret_i HR.out.symm, HU.out⟩
        · have HR : Hid (Vd.meetS ((ax, ay), bx, bY) ((cx, cy), dx, dy) = 2) := by rw [HE.out]; unfold meetK; rw [if_neg HZ.out, if_neg (by omega), if_neg p3]; exact rfl
          have p3' := beq_eq_false_iff_ne.2 p3
          clear hz B1 B2 B3 B4 m1 m2 m3
          rcases hcs with h | ⟨rfl, h⟩ | ⟨rfl, rfl, h⟩ | ⟨rfl, rfl, rfl, h⟩
          all_goals
            first
            | (exfalso; simp at p3; done)
            | (go_wp2; go_ret; exact ⟨ret_i HR.out.symm, HU.out⟩)
end Go.Proofs.YtcclepohmhdpbaaGreatDoor
