import Derived.Test.YtcclepohmhdpbabGreatDoorProg
import Derived.Test.YtcclepohmhdpbabGreatDoorNoted
import Derived.Test.YtcclepohmhdpbabGreatDoorVdI
import Derived.WalkLawsBesides
namespace Go.Proofs.YtcclepohmhdpbabGreatDoor
set_option linter.all false
open Go.RowKit Go.Deep
def ptV (p : Pnt) : Value := .agg #[.int .i64 p.1, .int .i64 p.2]
def segV (s : Vd.Seg) : Value := .agg #[.int .i64 s.1.1, .int .i64 s.1.2, .int .i64 s.2.1, .int .i64 s.2.2]
def spotV (p : Vd.Spot) : Value := .agg #[.int .i64 p.1.1, .int .i64 p.1.2, .int .i64 p.2]
theorem w64 {x : Int} (h1 : -9223372036854775808 ≤ x) (h2 : x ≤ 9223372036854775807) : wrap64 x = x := by unfold wrap64; omega
theorem mul_bd {a b A B : Int} (h1 : -A ≤ a) (h2 : a ≤ A) (h3 : -B ≤ b) (h4 : b ≤ B) : -(A * B) ≤ a * b ∧ a * b ≤ A * B := by
 have hA : 0 ≤ A := by omega
 have hB : 0 ≤ B := by omega
 have k1 : a * b ≤ A * B := by
  rcases Int.le_total 0 b with h | h
  ·exact Int.le_trans (Int.mul_le_mul_of_nonneg_right h2 h) (Int.mul_le_mul_of_nonneg_left h4 hA)
  ·have e : a * b = (-a) * (-b) := by grind
   rw [e]
   exact Int.le_trans (Int.mul_le_mul_of_nonneg_right (show -a ≤ A by omega) (by omega)) (Int.mul_le_mul_of_nonneg_left (show -b ≤ B by omega) hA)
 have k2 : -(A * B) ≤ a * b := by
  have : (-a) * b ≤ A * B := by
   rcases Int.le_total 0 b with h | h
   ·exact Int.le_trans (Int.mul_le_mul_of_nonneg_right (show -a ≤ A by omega) h) (Int.mul_le_mul_of_nonneg_left h4 hA)
   ·have e : (-a) * b = a * (-b) := by grind
    rw [e]
    exact Int.le_trans (Int.mul_le_mul_of_nonneg_right h2 (by omega)) (Int.mul_le_mul_of_nonneg_left (show -b ≤ B by omega) hA)
  have e : (-a) * b = -(a * b) := by grind
  omega
 exact ⟨k2, k1⟩
theorem res_cell {fn : Func} {p : Tmp} {ty : TypeId} (h : fn.results = #[.cell p ty]) (tmps : Array Value) (P : Program) (w : World) :
  (results fn tmps).run P w = ((asAddr (tmps.getD p undef)).run P w).andThen fun a w₁ => (loadVar ty a).run P w₁ := by
 simp only [results, h]
 simp [Sem.run_bind, Result.andThen]
theorem load_pnt {W : World} {b : Nat} {v0 v1 : Value} (h : VRow W b 48 [v0, v1]) : (loadVar 48 ⟨b, 0, none⟩).run Tryz.prog W = .ok (.agg #[v0, v1]) W := by
 have c0 := h.cell (i := 0) (v := v0) rfl
 have c1 := h.cell (i := 1) (v := v1) rfl
 simp [go_sem, c0, c1]
theorem ret_cell {fn : Func} {p : Tmp} {ty : TypeId} (h : fn.results = #[.cell p ty]) {a : Act} {W : World} {Q : Ending → World → Prop} {b : Nat} {v : Value} (h4 : a.tmps.getD p undef = .pointer (some ⟨b, 0, none⟩)) (hd : a.defers = [])
  (hl : (loadVar ty ⟨b, 0, none⟩).run Tryz.prog W = .ok v W) (hQ : Q (.returned v) W) : bodyPost Tryz.prog fn Q .ret a W := by
 refine bodyPost_ret (v := v) ?_ hd hQ
 rw [res_cell h, h4]
 simp only [asAddr, Sem.run_pure, Result.andThen_ok]
 exact hl
theorem ret_i {a b : Int} (h : a = b) : Ending.returned (.int .i64 a) = .returned (.int .i64 b) := by rw [h]
theorem ret_b {a b : Bool} (h : a = b) : Ending.returned (.bool a) = .returned (.bool b) := by rw [h]
set_option maxHeartbeats 400000 in
theorem nsign_any (n : Int) (w : World) : Calls Tryz.prog 147 #[.int .i64 n] w fun e w' => e = .returned (.int .i64 (Vd.sg n)) ∧ w' = w := by
 rcases Vd.sg_cases n with ⟨h, e⟩ | ⟨h, e⟩ | ⟨h, e⟩
 all_goals
  rw [e]
  clear e
  go_enter Tryz.func147, Tryz.ntmps147
  go_wp2
  go_ret
  exact ⟨rfl, rfl⟩
set_option maxHeartbeats 1000000 in
theorem before_any (p q : Pnt) (w : World) : Calls Tryz.prog 128 #[ptV p, ptV q] w fun e w' => e = .returned (.bool (decide (Vd.bef p q))) ∧ Up w w' := by
 obtain ⟨px, py⟩ := p
 obtain ⟨qx, qy⟩ := q
 simp only [ptV, Vd.bef]
 rcases Int.lt_trichotomy px qx with h | h | h
 ·go_enter Tryz.func128, Tryz.ntmps128
  go_wp2
  go_ret
  exact ⟨ret_b (by simp [h]), ((Up.refl _).alloc _).alloc _⟩
 ·subst h
  by_cases h2 : py < qy
  all_goals
   go_enter Tryz.func128, Tryz.ntmps128
   go_wp2
   go_ret
   exact ⟨ret_b (by simp; omega), ((Up.refl _).alloc _).alloc _⟩
 ·have h1 : ¬ px < qx := by omega
  have h2 : (px == qx) = false := beq_eq_false_iff_ne.2 (by omega)
  have h3 : ¬ px = qx := by omega
  go_enter Tryz.func128, Tryz.ntmps128
  go_wp2
  go_ret
  exact ⟨ret_b (by simp; omega), ((Up.refl _).alloc _).alloc _⟩
set_option maxHeartbeats 1000000 in
theorem at_any (p : Pnt) (w : World) : Calls Tryz.prog 127 #[ptV p] w fun e w' => e = .returned (spotV (Vd.at1 p)) ∧ Up w w' := by
 obtain ⟨px, py⟩ := p
 simp only [ptV, spotV, Vd.at1]
 go_enter Tryz.func127, Tryz.ntmps127
 go_wp2
 exact bodyPost_ret (v := .agg #[.int .i64 px, .int .i64 py, .int .i64 1]) (by simp [results, Tryz.results127, go_sem]) rfl ⟨rfl, ((Up.refl _).alloc _).alloc _⟩
set_option maxHeartbeats 1000000 in
theorem middle_any (p q : Pnt) (hp : Vd.Cd p) (hq : Vd.Cd q) (w : World) : Calls Tryz.prog 103 #[ptV p, ptV q] w fun e w' => e = .returned (spotV (Vd.midOf p q)) ∧ Up w w' := by
 obtain ⟨px, py⟩ := p
 obtain ⟨qx, qy⟩ := q
 simp only [Vd.Cd] at hp hq
 simp only [ptV, spotV, Vd.midOf]
 go_enter Tryz.func103, Tryz.ntmps103
 go_wp2
 exact bodyPost_ret (v := .agg #[.int .i64 (px + qx), .int .i64 (py + qy), .int .i64 2]) (by simp [results, Tryz.results103, go_sem]) rfl ⟨rfl, (((Up.refl _).alloc _).alloc _).alloc _⟩
set_option maxHeartbeats 2000000 in
theorem side_any (s : Vd.Seg) (p : Vd.Spot) (hs : Vd.CdS s) (hp : Vd.Sp p) (w : World) : Calls Tryz.prog 126 #[segV s, spotV p] w fun e w' => e = .returned (.int .i64 (Vd.side s p)) ∧ Up w w' := by
 obtain ⟨⟨ax, ay⟩, ⟨bx, bY⟩⟩ := s
 obtain ⟨⟨x, y⟩, t⟩ := p
 simp only [Vd.CdS, Vd.Cd, Vd.Sp] at hs hp
 obtain ⟨⟨a1, a2, a3, a4⟩, b1, b2, b3, b4⟩ := hs
 obtain ⟨p1, p2, p3, p4, p5, p6⟩ := hp
 simp only [segV, spotV, Vd.side, Vd.cr]
 obtain ⟨m1, m2⟩ := mul_bd (a := ax) (b := t) (A := 32768) (B := 1048576) (by omega) a2 (by omega) p6
 obtain ⟨m3, m4⟩ := mul_bd (a := ay) (b := t) (A := 32768) (B := 1048576) (by omega) a4 (by omega) p6
 obtain ⟨n1, n2⟩ := mul_bd (a := bx - ax) (b := y - ay * t) (A := 65536) (B := 68719476736) (by omega) (by omega) (by omega) (by omega)
 obtain ⟨n3, n4⟩ := mul_bd (a := bY - ay) (b := x - ax * t) (A := 65536) (B := 68719476736) (by omega) (by omega) (by omega) (by omega)
 have w1 : wrap64 (ax * t) = ax * t := w64 (by omega) (by omega)
 have w2 : wrap64 (ay * t) = ay * t := w64 (by omega) (by omega)
 have w3 : wrap64 ((bx - ax) * (y - ay * t)) = (bx - ax) * (y - ay * t) := w64 (by omega) (by omega)
 have w4 : wrap64 ((bY - ay) * (x - ax * t)) = (bY - ay) * (x - ax * t) := w64 (by omega) (by omega)
 have w5 : wrap64 (x - ax * t) = x - ax * t := w64 (by omega) (by omega)
 have w6 : wrap64 (y - ay * t) = y - ay * t := w64 (by omega) (by omega)
 have w7 : wrap64 ((bx - ax) * (y - ay * t) - (bY - ay) * (x - ax * t)) = (bx - ax) * (y - ay * t) - (bY - ay) * (x - ax * t) := w64 (by omega) (by omega)
 go_enter Tryz.func126, Tryz.ntmps126
 go_wp2_with (go_at_call 147; refine (nsign_any _ _).mono ?_; rintro e w1 ⟨rfl, rfl⟩)
 go_ret
 exact ⟨rfl, ((Up.refl _).alloc _).alloc _⟩
end Go.Proofs.YtcclepohmhdpbabGreatDoor
