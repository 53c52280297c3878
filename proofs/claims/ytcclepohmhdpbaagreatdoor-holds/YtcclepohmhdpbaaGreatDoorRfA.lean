/- THE DOCUMENT's WALKS: ways, products, on. -/
import Derived.Test.YtcclepohmhdpbaaGreatDoorPnF
import Derived.Test.YtcclepohmhdpbaaGreatDoorVdN
namespace Go.Proofs.YtcclepohmhdpbaaGreatDoor
set_option linter.all false
open Go.RowKit Go.Deep

def Bdd (A : Int) (u : Pnt) : Prop := (-A ≤ u.1 ∧ u.1 ≤ A) ∧ -A ≤ u.2 ∧ u.2 ≤ A
def subP (a b : Pnt) : Pnt := (b.1 - a.1, b.2 - a.2)
def timesP (u v : Pnt) : Int := u.1 * v.2 - u.2 * v.1
def dotP (u v : Pnt) : Int := u.1 * v.1 + u.2 * v.2
theorem cd_bdd {p : Pnt} (h : Vd.Cd p) : Bdd 32768 p := by unfold Vd.Cd at h; unfold Bdd; omega
theorem sub_bdd {p q : Pnt} (h : Vd.Cd p) (k : Vd.Cd q) : Bdd 65536 (subP p q) := by unfold Vd.Cd at h k; unfold Bdd subP; simp only; omega
theorem bdd_mono {A B : Int} {u : Pnt} (h : Bdd A u) (k : A ≤ B) : Bdd B u := by unfold Bdd at *; omega

set_option maxHeartbeats 1000000 in
theorem way2_any (a b : Pnt) (ha : Bdd 4611686018427387903 a) (hb : Bdd 4611686018427387903 b) (w : World) :
    Calls Tryz.prog 133 #[ptV a, ptV b] w fun e w' => e = .returned (ptV (subP a b)) ∧ Up w w' := by
  obtain ⟨ax, ay⟩ := a
  obtain ⟨bx, bY⟩ := b
  simp only [Bdd] at ha hb
  simp only [ptV, subP]
  go_enter Tryz.func133, Tryz.ntmps133
  go_wp2
  refine bodyPost_ret (v := .agg #[.int .i64 (bx - ax), .int .i64 (bY - ay)]) (by simp [results, Tryz.results133, go_sem]) rfl ⟨rfl, ?_⟩
  repeat (refine Up.setCell ?_ (by simp) _)
  exact ((Up.refl _).alloc _).alloc _ |>.alloc _

set_option maxHeartbeats 1000000 in
theorem times_any (u v : Pnt) {A B : Int} (hu : Bdd A u) (hv : Bdd B v) (hA : 0 ≤ A) (hB : 0 ≤ B) (hAB : A * B ≤ 2305843009213693951) (w : World) :
    Calls Tryz.prog 134 #[ptV u, ptV v] w fun e w' => e = .returned (.int .i64 (timesP u v)) ∧ Up w w' := by
  obtain ⟨ux, uy⟩ := u
  obtain ⟨vx, vy⟩ := v
  simp only [Bdd] at hu hv
  have m1 := mul_bd (a := ux) (b := vy) (A := A) (B := B) (by omega) (by omega) (by omega) (by omega)
  have m2 := mul_bd (a := uy) (b := vx) (A := A) (B := B) (by omega) (by omega) (by omega) (by omega)
  simp only [ptV, timesP]
  generalize A * B = AB at *
  have k1 : wrap64 (ux * vy) = ux * vy := w64 (by omega) (by omega)
  have k2 : wrap64 (uy * vx) = uy * vx := w64 (by omega) (by omega)
  go_enter Tryz.func134, Tryz.ntmps134
  go_wp2
  go_ret
  exact ⟨rfl, ((Up.refl _).alloc _).alloc _⟩

set_option maxHeartbeats 1000000 in
theorem dot_any (u v : Pnt) {A B : Int} (hu : Bdd A u) (hv : Bdd B v) (hA : 0 ≤ A) (hB : 0 ≤ B) (hAB : A * B ≤ 2305843009213693951) (w : World) :
    Calls Tryz.prog 204 #[ptV u, ptV v] w fun e w' => e = .returned (.int .i64 (dotP u v)) ∧ Up w w' := by
  obtain ⟨ux, uy⟩ := u
  obtain ⟨vx, vy⟩ := v
  simp only [Bdd] at hu hv
  have m1 := mul_bd (a := ux) (b := vx) (A := A) (B := B) (by omega) (by omega) (by omega) (by omega)
  have m2 := mul_bd (a := uy) (b := vy) (A := A) (B := B) (by omega) (by omega) (by omega) (by omega)
  simp only [ptV, dotP]
  generalize A * B = AB at *
  have k1 : wrap64 (ux * vx) = ux * vx := w64 (by omega) (by omega)
  have k2 : wrap64 (uy * vy) = uy * vy := w64 (by omega) (by omega)
  go_enter Tryz.func204, Tryz.ntmps204
  go_wp2
  go_ret
  exact ⟨rfl, ((Up.refl _).alloc _).alloc _⟩

/-! ### on -/
def onB (a b : Pnt) (p : Vd.Spot) : Bool := decide (Vd.on a b p.1 p.2)
theorem on_of (a b : Pnt) (p : Vd.Spot) : onB a b p = (decide (timesP (subP a b) (p.1.1 - a.1 * p.2, p.1.2 - a.2 * p.2) = 0) && (decide (0 ≤ dotP (p.1.1 - a.1 * p.2, p.1.2 - a.2 * p.2) (subP a b)) && decide (dotP (p.1.1 - a.1 * p.2, p.1.2 - a.2 * p.2) (subP a b) ≤ dotP (subP a b) (subP a b) * p.2))) := by
  unfold onB
  apply Bool.eq_iff_iff.2
  simp only [Bool.and_eq_true, decide_eq_true_eq]
  exact Iff.rfl

set_option maxHeartbeats 4000000 in
theorem on_any (a b : Pnt) (p : Vd.Spot) (ha : Vd.Cd a) (hb : Vd.Cd b) (hp : Vd.Sp p) (w : World) :
    Calls Tryz.prog 203 #[ptV a, ptV b, ptV p.1, .int .i64 p.2] w fun e w' => e = .returned (.bool (onB a b p)) ∧ Up w w' := by
  have HB := hide (on_of a b p)
  have hu := hide (sub_bdd ha hb)
  have HA := hide (bdd_mono (cd_bdd ha) (B := 4611686018427387903) (by omega))
  have HB2 := hide (bdd_mono (cd_bdd hb) (B := 4611686018427387903) (by omega))
  have hvb : Hid (Bdd 34360786944 (p.1.1 - a.1 * p.2, p.1.2 - a.2 * p.2)) := by
    obtain ⟨h1, h2, h3, h4⟩ := ha
    obtain ⟨x1, x2, y1, y2, t1, t2⟩ := hp
    have m1 := mul_bd (a := a.1) (b := p.2) (A := 32768) (B := 1048576) (by omega) (by omega) (by omega) (by omega)
    have m2 := mul_bd (a := a.2) (b := p.2) (A := 32768) (B := 1048576) (by omega) (by omega) (by omega) (by omega)
    show (_ ∧ _) ∧ _ ∧ _
    simp only
    omega
  have hkb : Hid (0 ≤ dotP (subP a b) (subP a b) ∧ dotP (subP a b) (subP a b) ≤ 8589934592) := by
    have := sub_bdd ha hb
    unfold dotP
    unfold Bdd at this
    obtain ⟨⟨h1, h2⟩, h3, h4⟩ := this
    have m1 := mul_bd (a := (subP a b).1) (b := (subP a b).1) (A := 65536) (B := 65536) h1 h2 h1 h2
    have m2 := mul_bd (a := (subP a b).2) (b := (subP a b).2) (A := 65536) (B := 65536) h3 h4 h3 h4
    have q1 := Vd.sq_nn (subP a b).1
    have q2 := Vd.sq_nn (subP a b).2
    show _ ∧ _
    omega
  obtain ⟨ax, ay⟩ := a
  obtain ⟨bx, bY⟩ := b
  obtain ⟨⟨x, y⟩, t⟩ := p
  simp only [Vd.Cd, Vd.Sp] at ha hb hp
  obtain ⟨a1, a2, a3, a4⟩ := ha
  obtain ⟨x1, x2, y1, y2, t1, t2⟩ := hp
  have m1 := mul_bd (a := ax) (b := t) (A := 32768) (B := 1048576) (by omega) (by omega) (by omega) (by omega)
  have m2 := mul_bd (a := ay) (b := t) (A := 32768) (B := 1048576) (by omega) (by omega) (by omega) (by omega)
  clear hb
  simp only at HB hvb
  simp only [ptV]
  have RA := hide (((new_row (w := w) (o := .cells #[.int .i64 ax, .int .i64 ay] 32) (vs := [.int .i64 ax, .int .i64 ay]) rfl).alloc (.cells #[.int .i64 bx, .int .i64 bY] 32)).alloc (.cells #[.int .i64 x, .int .i64 y] 32))
  have RP : Hid (VRow (((w.alloc (.cells #[.int .i64 ax, .int .i64 ay] 32)).alloc (.cells #[.int .i64 bx, .int .i64 bY] 32)).alloc (.cells #[.int .i64 x, .int .i64 y] 32)) (w.heap.size + 2) 32 [.int .i64 x, .int .i64 y]) := by
    have := new_row (w := (w.alloc (.cells #[.int .i64 ax, .int .i64 ay] 32)).alloc (.cells #[.int .i64 bx, .int .i64 bY] 32)) (o := .cells #[.int .i64 x, .int .i64 y] 32) (vs := [.int .i64 x, .int .i64 y]) rfl
    show VRow _ _ _ _
    simpa using this
  go_enter Tryz.func203, Tryz.ntmps203
  go_wp2_with fail
  refine (way2_any (ax, ay) (bx, bY) HA.out HB2.out _).mono ?_
  rintro e w1 ⟨rfl, hz1⟩
  have HU1 : Hid (Up w w1) := (((Up.refl _).alloc _).alloc _ |>.alloc _).trans hz1
  replace RA := hide (RA.out.up hz1)
  replace RP := hide (RP.out.up hz1)
  generalize hU : subP (ax, ay) (bx, bY) = U at *
  clear hU hz1
  obtain ⟨ux, uy⟩ := U
  simp only [ptV]
  have q0 := fun o => (RA.out.alloc o).cell (i := 0) rfl
  have q1 := fun o => (RA.out.alloc o).cell (i := 1) rfl
  have q2 := fun o => (RP.out.alloc o).cell (i := 0) rfl
  have q3 := fun o => (RP.out.alloc o).cell (i := 1) rfl
  have RU := hide ((new_row (w := w1) (o := .cells #[.int .i64 ux, .int .i64 uy] 155) (vs := [.int .i64 ux, .int .i64 uy]) rfl).alloc (.cells #[.int .i64 (x - ax * t), .int .i64 (y - ay * t)] 155))
  have RV : Hid (VRow ((w1.alloc (.cells #[.int .i64 ux, .int .i64 uy] 155)).alloc (.cells #[.int .i64 (x - ax * t), .int .i64 (y - ay * t)] 155)) (w1.heap.size + 1) 155 [.int .i64 (x - ax * t), .int .i64 (y - ay * t)]) := by
    have := new_row (w := w1.alloc (.cells #[.int .i64 ux, .int .i64 uy] 155)) (o := .cells #[.int .i64 (x - ax * t), .int .i64 (y - ay * t)] 155) (vs := [.int .i64 (x - ax * t), .int .i64 (y - ay * t)]) rfl
    show VRow _ _ _ _
    simpa using this
  go_wp2_with fail
  refine (dot_any (x - ax * t, y - ay * t) (ux, uy) hvb.out hu.out (by omega) (by omega) (by omega) _).mono ?_
  rintro e w2 ⟨rfl, hz2⟩
  replace HU1 := hide (((HU1.out.alloc _).alloc _).trans hz2)
  replace RU := hide (RU.out.up hz2)
  replace RV := hide (RV.out.up hz2)
  clear hz2 q0 q1 q2 q3
  have u0 := RU.out.cell (i := 0) rfl
  have u1 := RU.out.cell (i := 1) rfl
  go_wp2_with fail
  refine (dot_any (ux, uy) (ux, uy) hu.out hu.out (by omega) (by omega) (by omega) _).mono ?_
  rintro e w3 ⟨rfl, hz3⟩
  replace HU1 := hide (HU1.out.trans hz3)
  replace RU := hide (RU.out.up hz3)
  replace RV := hide (RV.out.up hz3)
  clear hz3 u0 u1
  have u0 := RU.out.cell (i := 0) rfl
  have u1 := RU.out.cell (i := 1) rfl
  have v0 := RV.out.cell (i := 0) rfl
  have v1 := RV.out.cell (i := 1) rfl
  go_wp2_with fail
  refine (times_any (ux, uy) (x - ax * t, y - ay * t) hu.out hvb.out (by omega) (by omega) (by omega) _).mono ?_
  rintro e w4 ⟨rfl, hz4⟩
  replace HU1 := hide (HU1.out.trans hz4)
  clear hz4 u0 u1 v0 v1
  have hk := hkb.out
  generalize timesP (ux, uy) (x - ax * t, y - ay * t) = T at *
  generalize dotP (x - ax * t, y - ay * t) (ux, uy) = D at *
  generalize dotP (ux, uy) (ux, uy) = K at *
  have m3 := mul_bd (a := K) (b := t) (A := 8589934592) (B := 1048576) (by omega) (by omega) (by omega) (by omega)
  have k3 : wrap64 (K * t) = K * t := w64 (by omega) (by omega)
  by_cases h1 : T = 0
  · subst h1
    by_cases h2 : 0 ≤ D
    · by_cases h3 : D ≤ K * t
      all_goals
        have HR : Hid (onB (ax, ay) (bx, bY) ((x, y), t) = decide (D ≤ K * t)) := by rw [HB.out]; simp [h2, Hid]
        go_wp2
        go_ret
        exact ⟨ret_b (by rw [HR.out]; first | done | simp [h3]), HU1.out⟩
    · have HR : Hid (onB (ax, ay) (bx, bY) ((x, y), t) = false) := by rw [HB.out]; simp [h2, Hid]
      go_wp2
      go_ret
      exact ⟨ret_b HR.out.symm, HU1.out⟩
  · have h1' := beq_eq_false_iff_ne.2 h1
    have HR : Hid (onB (ax, ay) (bx, bY) ((x, y), t) = false) := by rw [HB.out]; simp [h1, Hid]
    go_wp2
    go_ret
    exact ⟨ret_b HR.out.symm, HU1.out⟩
end Go.Proofs.YtcclepohmhdpbaaGreatDoor
