import Derived.Test.YtcclepohmhdpbabGreatTree
/- VALIDITY, PLAINLY: segments and points over the integers. -/
namespace Go.Proofs.YtcclepohmhdpbabGreat
set_option linter.all false
namespace Vd
/-- The cross product of the way from a to b and the way from a to p/w (times w). -/
def cr (a b p : Pnt) (w : Int) : Int := (b.1 - a.1) * (p.2 - a.2 * w) - (b.2 - a.2) * (p.1 - a.1 * w)
def dt (a b p : Pnt) (w : Int) : Int := (p.1 - a.1 * w) * (b.1 - a.1) + (p.2 - a.2 * w) * (b.2 - a.2)
def kk (a b : Pnt) : Int := (b.1 - a.1) * (b.1 - a.1) + (b.2 - a.2) * (b.2 - a.2)
def btw (e m o : Int) : Prop := (e ≤ m ∧ m ≤ o) ∨ (o ≤ m ∧ m ≤ e)
def has (a b p : Pnt) (w : Int) : Prop := cr a b p w = 0 ∧ btw (a.1 * w) p.1 (b.1 * w) ∧ btw (a.2 * w) p.2 (b.2 * w)
def on (a b p : Pnt) (w : Int) : Prop := cr a b p w = 0 ∧ 0 ≤ dt a b p w ∧ dt a b p w ≤ kk a b * w

theorem nn {x y : Int} (hx : 0 ≤ x) (hy : 0 ≤ y) : 0 ≤ x * y := Int.mul_nonneg hx hy
theorem sq_nn (x : Int) : 0 ≤ x * x := by
  rcases Int.le_total 0 x with h | h
  · exact nn h h
  · have := nn (x := -x) (y := -x) (by omega) (by omega)
    rw [Int.neg_mul_neg] at this; exact this
theorem sq_pos {x : Int} (h : x ≠ 0) : 0 < x * x := by
  have := sq_nn x
  have h2 : x * x ≠ 0 := fun e => h (by simpa using Int.mul_eq_zero.1 e)
  omega
theorem kk_pos {a b : Pnt} (h : a ≠ b) : 0 < kk a b := by
  unfold kk
  by_cases h1 : b.1 - a.1 = 0
  · have h2 : b.2 - a.2 ≠ 0 := fun e => h (Prod.ext (by omega) (by omega))
    have := sq_pos h2; have := sq_nn (b.1 - a.1); omega
  · have := sq_pos h1; have := sq_nn (b.2 - a.2); omega

/-- What lies between, times the way itself. -/
theorem btw_dot {u v w : Int} (hw : 0 < w) (h : btw 0 v (u * w)) : 0 ≤ v * u ∧ v * u ≤ u * u * w := by
  rcases h with ⟨h1, h2⟩ | ⟨h1, h2⟩
  · have hu : 0 ≤ u := by
      rcases Int.lt_or_le u 0 with g | g
      · have : u * w < 0 := Int.mul_neg_of_neg_of_pos g hw
        omega
      · exact g
    refine ⟨nn h1 hu, ?_⟩
    have := Int.mul_le_mul_of_nonneg_right h2 hu
    have e : u * w * u = u * u * w := by grind
    omega
  · have hu : u ≤ 0 := by
      rcases Int.lt_or_le 0 u with g | g
      · have : 0 < u * w := Int.mul_pos g hw
        omega
      · exact g
    refine ⟨by have := nn (x := -v) (y := -u) (by omega) (by omega); rw [Int.neg_mul_neg] at this; exact this, ?_⟩
    have := Int.mul_le_mul_of_nonpos_right h1 hu
    have e : u * w * u = u * u * w := by grind
    omega

theorem dot_btw {u v k d w : Int} (hk : 0 < k) (e : d * u = v * k) (h0 : 0 ≤ d) (h1 : d ≤ k * w) : btw 0 v (u * w) := by
  rcases Int.le_total 0 u with hu | hu
  · left
    constructor
    · have := nn h0 hu
      rw [e] at this
      exact Int.nonneg_of_mul_nonneg_left this hk
    · have := Int.mul_le_mul_of_nonneg_right h1 hu
      rw [e] at this
      have e2 : k * w * u = u * w * k := by grind
      rw [e2] at this
      exact Int.le_of_mul_le_mul_right this hk
  · right
    constructor
    · have := Int.mul_le_mul_of_nonpos_right h1 hu
      rw [e] at this
      have e2 : k * w * u = u * w * k := by grind
      rw [e2] at this
      exact Int.le_of_mul_le_mul_right this hk
    · have := nn (x := d) (y := -u) h0 (by omega)
      have e2 : d * -u = -v * k := by grind
      rw [e2] at this
      have := Int.nonneg_of_mul_nonneg_left this hk
      omega

theorem btw_sub {a p b w : Int} : btw (a * w) p (b * w) ↔ btw 0 (p - a * w) ((b - a) * w) := by
  have e : (b - a) * w = b * w - a * w := by grind
  unfold btw
  rw [e]
  omega

/-- G3: the program's Has is the document's on. -/
theorem has_on {a b p : Pnt} {w : Int} (h : a ≠ b) (hw : 0 < w) : has a b p w ↔ on a b p w := by
  have hk := kk_pos h
  constructor
  · rintro ⟨h0, h1, h2⟩
    have g1 := btw_dot hw (btw_sub.1 h1)
    have g2 := btw_dot hw (btw_sub.1 h2)
    refine ⟨h0, ?_, ?_⟩
    · unfold dt; omega
    · have e : kk a b * w = (b.1 - a.1) * (b.1 - a.1) * w + (b.2 - a.2) * (b.2 - a.2) * w := by unfold kk; grind
      rw [e]; unfold dt; omega
  · rintro ⟨h0, h1, h2⟩
    have e1 : dt a b p w * (b.1 - a.1) = (p.1 - a.1 * w) * kk a b := by unfold cr at h0; unfold dt kk; grind
    have e2 : dt a b p w * (b.2 - a.2) = (p.2 - a.2 * w) * kk a b := by unfold cr at h0; unfold dt kk; grind
    exact ⟨h0, btw_sub.2 (dot_btw hk e1 h1 h2), btw_sub.2 (dot_btw hk e2 h1 h2)⟩
end Vd
end Go.Proofs.YtcclepohmhdpbabGreat

/- VALIDITY, PLAINLY: how two segments meet. -/
namespace Go.Proofs.YtcclepohmhdpbabGreat
set_option linter.all false
namespace Vd
def bef (p q : Pnt) : Prop := p.1 < q.1 ∨ (p.1 = q.1 ∧ p.2 < q.2)
instance (p q : Pnt) : Decidable (bef p q) := by unfold bef; infer_instance
def fwd (a b : Pnt) : Pnt × Pnt := if bef b a then (b, a) else (a, b)
def onLine (s t : Pnt × Pnt) : Int :=
  let f := if bef s.1 t.1 then t.1 else s.1
  let l := if bef t.2 s.2 then t.2 else s.2
  if bef f l then 3 else if f = l then 1 else 0

/-- The place along the way from a to b. -/
def pos (a b x : Pnt) : Int := dt a b x 1

theorem pos_a (a b : Pnt) : pos a b a = 0 := by unfold pos dt; grind
theorem pos_b (a b : Pnt) : pos a b b = kk a b := by unfold pos dt kk; grind

/-- On the line, the order of points is that of their places, or the opposite. -/
theorem bef_pos {a b x y : Pnt} (h : a ≠ b) (hx : cr a b x 1 = 0) (hy : cr a b y 1 = 0) :
    (bef a b → (bef x y ↔ pos a b x < pos a b y)) ∧ (bef b a → (bef x y ↔ pos a b y < pos a b x)) := by
  have hk := kk_pos h
  have e1 : (pos a b y - pos a b x) * (b.1 - a.1) = (y.1 - x.1) * kk a b := by unfold cr at hx hy; unfold pos dt kk; grind
  have e2 : (pos a b y - pos a b x) * (b.2 - a.2) = (y.2 - x.2) * kk a b := by unfold cr at hx hy; unfold pos dt kk; grind
  obtain ⟨D, hD⟩ : ∃ D, D = pos a b y - pos a b x := ⟨_, rfl⟩
  obtain ⟨K, hK⟩ : ∃ K, K = kk a b := ⟨_, rfl⟩
  rw [← hD, ← hK] at e1 e2
  rw [← hK] at hk
  have sgn : ∀ {u z : Int}, 0 < u → D * u = z * K → (0 < D ↔ 0 < z) ∧ (D = 0 ↔ z = 0) ∧ (D < 0 ↔ z < 0) := by
    intro u z hu e
    have p1 : 0 < D → 0 < z := fun g => by
      have := Int.mul_pos g hu
      rw [e] at this
      exact Int.pos_of_mul_pos_left this hk |> fun h => h
    have p2 : D = 0 → z = 0 := fun g => by
      rw [g, Int.zero_mul] at e
      rcases Int.mul_eq_zero.1 e.symm with q | q <;> omega
    have p3 : D < 0 → z < 0 := fun g => by
      have := Int.mul_neg_of_neg_of_pos g hu
      rw [e] at this
      rcases Int.lt_or_le z 0 with q | q
      · exact q
      · have := nn q (Int.le_of_lt hk); omega
    omega
  have t1 : (bef x y ↔ 0 < y.1 - x.1 ∨ (y.1 - x.1 = 0 ∧ 0 < y.2 - x.2)) := by unfold bef; omega
  have t2 : pos a b x < pos a b y ↔ 0 < D := by omega
  have t3 : pos a b y < pos a b x ↔ D < 0 := by omega
  rw [t1, t2, t3]
  constructor
  · rintro (g | ⟨g, g'⟩)
    · have := sgn (u := b.1 - a.1) (by omega) e1
      constructor
      · rintro (q | ⟨q, q'⟩)
        · omega
        · have hz : D = 0 := by omega
          rw [hz, Int.zero_mul] at e2
          rcases Int.mul_eq_zero.1 e2.symm with q | q <;> omega
      · intro q; left; omega
    · have := sgn (u := b.2 - a.2) (by omega) e2
      have hz : y.1 - x.1 = 0 := by
        rw [show b.1 - a.1 = 0 by omega, Int.mul_zero] at e1
        rcases Int.mul_eq_zero.1 e1.symm with q | q <;> omega
      omega
  · rintro (g | ⟨g, g'⟩)
    · have := sgn (u := a.1 - b.1) (z := -(y.1 - x.1)) (by omega) (by grind)
      constructor
      · rintro (q | ⟨q, q'⟩)
        · omega
        · have hz : D = 0 := by omega
          rw [hz, Int.zero_mul] at e2
          rcases Int.mul_eq_zero.1 e2.symm with q | q <;> omega
      · intro q; left; omega
    · have := sgn (u := a.2 - b.2) (z := -(y.2 - x.2)) (by omega) (by grind)
      have hz : y.1 - x.1 = 0 := by
        rw [show b.1 - a.1 = 0 by omega, Int.mul_zero] at e1
        rcases Int.mul_eq_zero.1 e1.symm with q | q <;> omega
      omega
theorem bef_tri (p q : Pnt) : bef p q ∨ p = q ∨ bef q p := by
  unfold bef
  by_cases h1 : p.1 = q.1
  · by_cases h2 : p.2 = q.2
    · exact .inr (.inl (Prod.ext h1 h2))
    · omega
  · omega
theorem bef_irr {p q : Pnt} (h : bef p q) (k : bef q p) : False := by unfold bef at h k; omega
theorem bef_ne {p q : Pnt} (h : bef p q) : p ≠ q := by rintro rfl; exact bef_irr h h

/-- What the document says of two segments on one line: the places of the other's ends. -/
def count (k p q : Int) : Int := if q < 0 ∨ k < p then 0 else if q = 0 ∨ p = k then 1 else 2
end Vd
end Go.Proofs.YtcclepohmhdpbabGreat
