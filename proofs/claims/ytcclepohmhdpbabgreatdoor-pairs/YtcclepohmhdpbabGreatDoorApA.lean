/- THE WALKS: package apart: ways. -/
import Derived.Test.YtcclepohmhdpbabGreatDoorClB
import Derived.Test.YtcclepohmhdpbabGreatDoorCnP
import Derived.Test.YtcclepohmhdpbabGreatDoorBdx
namespace Go.Proofs.YtcclepohmhdpbabGreatDoor
set_option linter.all false
open Go.RowKit Go.Deep

theorem along_bdd {s : Vd.Seg} (h : Vd.CdS s) : Bdd 65536 (Vd.along s) := by unfold Vd.CdS Vd.Cd at h; unfold Bdd Vd.along; simp only; omega

set_option maxHeartbeats 1000000 in
theorem along_any (s : Vd.Seg) (hs : Vd.CdS s) (w : World) :
    Calls Tryz.prog 107 #[segV s] w fun e w' => e = .returned (ptV (Vd.along s)) ∧ Up w w' := by
  obtain ⟨⟨ax, ay⟩, ⟨bx, bY⟩⟩ := s
  simp only [Vd.CdS, Vd.Cd] at hs
  simp only [ptV, segV, Vd.along]
  go_enter Tryz.func107, Tryz.ntmps107
  go_wp2
  refine bodyPost_ret (v := .agg #[.int .i64 (bx - ax), .int .i64 (bY - ay)]) (by simp [results, Tryz.results107, go_sem]) rfl ⟨rfl, ?_⟩
  repeat (refine Up.setCell ?_ (by simp) _)
  exact ((Up.refl _).alloc _).alloc _

set_option maxHeartbeats 1000000 in
theorem turn_any (u v : Pnt) {A B : Int} (hu : Bdd A u) (hv : Bdd B v) (hA : 0 ≤ A) (hB : 0 ≤ B) (hAB : A * B ≤ 2305843009213693951) (w : World) :
    Calls Tryz.prog 133 #[ptV u, ptV v] w fun e w' => e = .returned (.int .i64 (Vd.turnW u v)) ∧ Up w w' := by
  obtain ⟨ux, uy⟩ := u
  obtain ⟨vx, vy⟩ := v
  simp only [Bdd] at hu hv
  have m1 := mul_bd (a := ux) (b := vy) (A := A) (B := B) (by omega) (by omega) (by omega) (by omega)
  have m2 := mul_bd (a := uy) (b := vx) (A := A) (B := B) (by omega) (by omega) (by omega) (by omega)
  simp only [ptV, Vd.turnW]
  generalize A * B = AB at *
  have k1 : wrap64 (ux * vy) = ux * vy := w64 (by omega) (by omega)
  have k2 : wrap64 (uy * vx) = uy * vx := w64 (by omega) (by omega)
  go_enter Tryz.func133, Tryz.ntmps133
  go_wp2
  go_ret
  exact ⟨rfl, ((Up.refl _).alloc _).alloc _⟩

set_option maxHeartbeats 1000000 in
theorem back_any (u : Pnt) (hu : Bdd 65536 u) (w : World) :
    Calls Tryz.prog 134 #[ptV u] w fun e w' => e = .returned (ptV (-u.1, -u.2)) ∧ Up w w' := by
  obtain ⟨x, y⟩ := u
  simp only [Bdd] at hu
  simp only [ptV]
  go_enter Tryz.func134, Tryz.ntmps134
  go_wp2
  refine bodyPost_ret (v := .agg #[.int .i64 (-x), .int .i64 (-y)]) (by simp [results, Tryz.results134, go_sem]) rfl ⟨rfl, ?_⟩
  repeat (refine Up.setCell ?_ (by simp) _)
  exact ((Up.refl _).alloc _).alloc _

set_option maxHeartbeats 1000000 in
theorem right_any (u : Pnt) (hu : Bdd 65536 u) (w : World) :
    Calls Tryz.prog 108 #[ptV u] w fun e w' => e = .returned (ptV (u.2, -u.1)) ∧ Up w w' := by
  obtain ⟨x, y⟩ := u
  simp only [Bdd] at hu
  simp only [ptV]
  go_enter Tryz.func108, Tryz.ntmps108
  go_wp2
  refine bodyPost_ret (v := .agg #[.int .i64 y, .int .i64 (-x)]) (by simp [results, Tryz.results108, go_sem]) rfl ⟨rfl, ?_⟩
  repeat (refine Up.setCell ?_ (by simp) _)
  exact ((Up.refl _).alloc _).alloc _

set_option maxHeartbeats 1000000 in
theorem amount_any (n : Int) (h1 : -4611686018427387904 ≤ n) (h2 : n ≤ 4611686018427387904) (w : World) :
    Calls Tryz.prog 149 #[.int .i64 n] w fun e w' => e = .returned (.int .i64 (Vd.amt n)) ∧ Up w w' := by
  unfold Vd.amt
  by_cases h : n < 0
  · rw [if_pos h]
    go_enter Tryz.func149, Tryz.ntmps149
    go_wp2
    go_ret
    exact ⟨rfl, Up.refl _⟩
  · rw [if_neg h]
    go_enter Tryz.func149, Tryz.ntmps149
    go_wp2
    go_ret
    exact ⟨rfl, Up.refl _⟩
end Go.Proofs.YtcclepohmhdpbabGreatDoor
