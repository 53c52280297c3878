import Derived.Test.YtcclepohmhdpbaaGreatDoorMath
import Derived.Test.YtcclepohmhdpbaaGreatDoorProg
import Derived.Test.YtcclepohmhdpbaaGreatDoorWalkC
import Derived.WalkLawsBesides
/- VALIDITY, PLAINLY: segments and points over the integers. -/
namespace Go.Proofs.YtcclepohmhdpbaaGreatDoor
set_option linter.all false
namespace Vd
/-- The cross product of the way from a to b and the way from a to p/w (times w). -/
def cr (a b p : Pnt) (w : Int) : Int := (b.1 - a.1) * (p.2 - a.2 * w) - (b.2 - a.2) * (p.1 - a.1 * w)
def dt (a b p : Pnt) (w : Int) : Int := (p.1 - a.1 * w) * (b.1 - a.1) + (p.2 - a.2 * w) * (b.2 - a.2)
def kk (a b : Pnt) : Int := (b.1 - a.1) * (b.1 - a.1) + (b.2 - a.2) * (b.2 - a.2)
def btw (e m o : Int) : Prop := (e ≤ m ∧ m ≤ o) ∨ (o ≤ m ∧ m ≤ e)
def has (a b p : Pnt) (w : Int) : Prop := cr a b p w = 0 ∧ btw (a.1 * w) p.1 (b.1 * w) ∧ btw (a.2 * w) p.2 (b.2 * w)
def on (a b p : Pnt) (w : Int) : Prop := cr a b p w = 0 ∧ 0 ≤ dt a b p w ∧ dt a b p w ≤ kk a b * w

theorem nn {x y : Int} (hx : 0 ≤ x) (hy : 0 ≤ y) : 0 ≤ x * y := Int.mul_nonneg hx hy
theorem sq_nn (x : Int) : 0 ≤ x * x := by
  rcases Int.le_total 0 x with h | h
  · exact nn h h
  · have := nn (x := -x) (y := -x) (by omega) (by omega)
    rw [Int.neg_mul_neg] at this; exact this
theorem sq_pos {x : Int} (h : x ≠ 0) : 0 < x * x := by
  have := sq_nn x
  have h2 : x * x ≠ 0 := fun e => h (by simpa using Int.mul_eq_zero.1 e)
  omega
theorem kk_pos {a b : Pnt} (h : a ≠ b) : 0 < kk a b := by
  unfold kk
  by_cases h1 : b.1 - a.1 = 0
  · have h2 : b.2 - a.2 ≠ 0 := fun e => h (Prod.ext (by omega) (by omega))
    have := sq_pos h2; have := sq_nn (b.1 - a.1); omega
  · have := sq_pos h1; have := sq_nn (b.2 - a.2); omega

/-- What lies between, times the way itself. -/
theorem btw_dot {u v w : Int} (hw : 0 < w) (h : btw 0 v (u * w)) : 0 ≤ v * u ∧ v * u ≤ u * u * w := by
  rcases h with ⟨h1, h2⟩ | ⟨h1, h2⟩
  · have hu : 0 ≤ u := by
      rcases Int.lt_or_le u 0 with g | g
      · have : u * w < 0 := Int.mul_neg_of_neg_of_pos g hw
        omega
      · exact g
    refine ⟨nn h1 hu, ?_⟩
    have := Int.mul_le_mul_of_nonneg_right h2 hu
    have e : u * w * u = u * u * w := by grind
    omega
  · have hu : u ≤ 0 := by
      rcases Int.lt_or_le 0 u with g | g
      · have : 0 < u * w := Int.mul_pos g hw
        omega
      · exact g
    refine ⟨by have := nn (x := -v) (y := -u) (by omega) (by omega); rw [Int.neg_mul_neg] at this; exact this, ?_⟩
    have := Int.mul_le_mul_of_nonpos_right h1 hu
    have e : u * w * u = u * u * w := by grind
    omega

theorem dot_btw {u v k d w : Int} (hk : 0 < k) (e : d * u = v * k) (h0 : 0 ≤ d) (h1 : d ≤ k * w) : btw 0 v (u * w) := by
  rcases Int.le_total 0 u with hu | hu
  · left
    constructor
    · have := nn h0 hu
      rw [e] at this
      exact Int.nonneg_of_mul_nonneg_left this hk
    · have := Int.mul_le_mul_of_nonneg_right h1 hu
      rw [e] at this
      have e2 : k * w * u = u * w * k := by grind
      rw [e2] at this
      exact Int.le_of_mul_le_mul_right this hk
  · right
    constructor
    · have := Int.mul_le_mul_of_nonpos_right h1 hu
      rw [e] at this
      have e2 : k * w * u = u * w * k := by grind
      rw [e2] at this
      exact Int.le_of_mul_le_mul_right this hk
    · have := nn (x := d) (y := -u) h0 (by omega)
      have e2 : d * -u = -v * k := by grind
      rw [e2] at this
      have := Int.nonneg_of_mul_nonneg_left this hk
      omega

theorem btw_sub {a p b w : Int} : btw (a * w) p (b * w) ↔ btw 0 (p - a * w) ((b - a) * w) := by
  have e : (b - a) * w = b * w - a * w := by grind
  unfold btw
  rw [e]
  omega

/-- G3: the program's Has is the document's on. -/
theorem has_on {a b p : Pnt} {w : Int} (h : a ≠ b) (hw : 0 < w) : has a b p w ↔ on a b p w := by
  have hk := kk_pos h
  constructor
  · rintro ⟨h0, h1, h2⟩
    have g1 := btw_dot hw (btw_sub.1 h1)
    have g2 := btw_dot hw (btw_sub.1 h2)
    refine ⟨h0, ?_, ?_⟩
    · unfold dt; omega
    · have e : kk a b * w = (b.1 - a.1) * (b.1 - a.1) * w + (b.2 - a.2) * (b.2 - a.2) * w := by unfold kk; grind
      rw [e]; unfold dt; omega
  · rintro ⟨h0, h1, h2⟩
    have e1 : dt a b p w * (b.1 - a.1) = (p.1 - a.1 * w) * kk a b := by unfold cr at h0; unfold dt kk; grind
    have e2 : dt a b p w * (b.2 - a.2) = (p.2 - a.2 * w) * kk a b := by unfold cr at h0; unfold dt kk; grind
    exact ⟨h0, btw_sub.2 (dot_btw hk e1 h1 h2), btw_sub.2 (dot_btw hk e2 h1 h2)⟩
end Vd
end Go.Proofs.YtcclepohmhdpbaaGreatDoor

/- VALIDITY, PLAINLY: how two segments meet. -/
namespace Go.Proofs.YtcclepohmhdpbaaGreatDoor
set_option linter.all false
namespace Vd
def bef (p q : Pnt) : Prop := p.1 < q.1 ∨ (p.1 = q.1 ∧ p.2 < q.2)
instance (p q : Pnt) : Decidable (bef p q) := by unfold bef; infer_instance
def fwd (a b : Pnt) : Pnt × Pnt := if bef b a then (b, a) else (a, b)
def onLine (s t : Pnt × Pnt) : Int :=
  let f := if bef s.1 t.1 then t.1 else s.1
  let l := if bef t.2 s.2 then t.2 else s.2
  if bef f l then 3 else if f = l then 1 else 0

/-- The place along the way from a to b. -/
def pos (a b x : Pnt) : Int := dt a b x 1

theorem pos_a (a b : Pnt) : pos a b a = 0 := by unfold pos dt; grind
theorem pos_b (a b : Pnt) : pos a b b = kk a b := by unfold pos dt kk; grind

/-- On the line, the order of points is that of their places, or the opposite. -/
theorem bef_pos {a b x y : Pnt} (h : a ≠ b) (hx : cr a b x 1 = 0) (hy : cr a b y 1 = 0) :
    (bef a b → (bef x y ↔ pos a b x < pos a b y)) ∧ (bef b a → (bef x y ↔ pos a b y < pos a b x)) := by
  have hk := kk_pos h
  have e1 : (pos a b y - pos a b x) * (b.1 - a.1) = (y.1 - x.1) * kk a b := by unfold cr at hx hy; unfold pos dt kk; grind
  have e2 : (pos a b y - pos a b x) * (b.2 - a.2) = (y.2 - x.2) * kk a b := by unfold cr at hx hy; unfold pos dt kk; grind
  obtain ⟨D, hD⟩ : ∃ D, D = pos a b y - pos a b x := ⟨_, rfl⟩
  obtain ⟨K, hK⟩ : ∃ K, K = kk a b := ⟨_, rfl⟩
  rw [← hD, ← hK] at e1 e2
  rw [← hK] at hk
  have sgn : ∀ {u z : Int}, 0 < u → D * u = z * K → (0 < D ↔ 0 < z) ∧ (D = 0 ↔ z = 0) ∧ (D < 0 ↔ z < 0) := by
    intro u z hu e
    have p1 : 0 < D → 0 < z := fun g => by
      have := Int.mul_pos g hu
      rw [e] at this
      exact Int.pos_of_mul_pos_left this hk |> fun h => h
    have p2 : D = 0 → z = 0 := fun g => by
      rw [g, Int.zero_mul] at e
      rcases Int.mul_eq_zero.1 e.symm with q | q <;> omega
    have p3 : D < 0 → z < 0 := fun g => by
      have := Int.mul_neg_of_neg_of_pos g hu
      rw [e] at this
      rcases Int.lt_or_le z 0 with q | q
      · exact q
      · have := nn q (Int.le_of_lt hk); omega
    omega
  have t1 : (bef x y ↔ 0 < y.1 - x.1 ∨ (y.1 - x.1 = 0 ∧ 0 < y.2 - x.2)) := by unfold bef; omega
  have t2 : pos a b x < pos a b y ↔ 0 < D := by omega
  have t3 : pos a b y < pos a b x ↔ D < 0 := by omega
  rw [t1, t2, t3]
  constructor
  · rintro (g | ⟨g, g'⟩)
    · have := sgn (u := b.1 - a.1) (by omega) e1
      constructor
      · rintro (q | ⟨q, q'⟩)
        · omega
        · have hz : D = 0 := by omega
          rw [hz, Int.zero_mul] at e2
          rcases Int.mul_eq_zero.1 e2.symm with q | q <;> omega
      · intro q; left; omega
    · have := sgn (u := b.2 - a.2) (by omega) e2
      have hz : y.1 - x.1 = 0 := by
        rw [show b.1 - a.1 = 0 by omega, Int.mul_zero] at e1
        rcases Int.mul_eq_zero.1 e1.symm with q | q <;> omega
      omega
  · rintro (g | ⟨g, g'⟩)
    · have := sgn (u := a.1 - b.1) (z := -(y.1 - x.1)) (by omega) (by grind)
      constructor
      · rintro (q | ⟨q, q'⟩)
        · omega
        · have hz : D = 0 := by omega
          rw [hz, Int.zero_mul] at e2
          rcases Int.mul_eq_zero.1 e2.symm with q | q <;> omega
      · intro q; left; omega
    · have := sgn (u := a.2 - b.2) (z := -(y.2 - x.2)) (by omega) (by grind)
      have hz : y.1 - x.1 = 0 := by
        rw [show b.1 - a.1 = 0 by omega, Int.mul_zero] at e1
        rcases Int.mul_eq_zero.1 e1.symm with q | q <;> omega
      omega
theorem bef_tri (p q : Pnt) : bef p q ∨ p = q ∨ bef q p := by
  unfold bef
  by_cases h1 : p.1 = q.1
  · by_cases h2 : p.2 = q.2
    · exact .inr (.inl (Prod.ext h1 h2))
    · omega
  · omega
theorem bef_irr {p q : Pnt} (h : bef p q) (k : bef q p) : False := by unfold bef at h k; omega
theorem bef_ne {p q : Pnt} (h : bef p q) : p ≠ q := by rintro rfl; exact bef_irr h h

/-- What the document says of two segments on one line: the places of the other's ends. -/
def count (k p q : Int) : Int := if q < 0 ∨ k < p then 0 else if q = 0 ∨ p = k then 1 else 2
end Vd
end Go.Proofs.YtcclepohmhdpbaaGreatDoor

/- VALIDITY, PLAINLY: Meet against common. -/
namespace Go.Proofs.YtcclepohmhdpbaaGreatDoor
set_option linter.all false
namespace Vd
theorem cr_a (a b : Pnt) : cr a b a 1 = 0 := by unfold cr; grind
theorem cr_b (a b : Pnt) : cr a b b 1 = 0 := by unfold cr; grind

section
variable {f : Pnt → Int} {S : Pnt → Prop} (hf : ∀ x y, S x → S y → (bef x y ↔ f x < f y))
include hf
theorem eq_f {x y : Pnt} (hx : S x) (hy : S y) : x = y ↔ f x = f y := by
  constructor
  · rintro rfl; rfl
  · intro e
    rcases bef_tri x y with h | h | h
    · have := (hf x y hx hy).1 h; omega
    · exact h
    · have := (hf y x hy hx).1 h; omega
theorem fwd_f {a b : Pnt} (ha : S a) (hb : S b) : S (fwd a b).1 ∧ S (fwd a b).2 ∧ f (fwd a b).1 = min (f a) (f b) ∧ f (fwd a b).2 = max (f a) (f b) := by
  unfold fwd
  have := hf b a hb ha
  by_cases h : bef b a
  · have h' := this.1 h
    rw [if_pos h]; exact ⟨hb, ha, by simp only; omega, by simp only; omega⟩
  · have h' : ¬ f b < f a := fun q => h (this.2 q)
    rw [if_neg h]; exact ⟨ha, hb, by simp only; omega, by simp only; omega⟩
theorem onLine_f {s t : Pnt × Pnt} (h1 : S s.1) (h2 : S s.2) (h3 : S t.1) (h4 : S t.2) :
    onLine s t = if max (f s.1) (f t.1) < min (f s.2) (f t.2) then 3 else if max (f s.1) (f t.1) = min (f s.2) (f t.2) then 1 else 0 := by
  have e1 : S (if bef s.1 t.1 then t.1 else s.1) ∧ f (if bef s.1 t.1 then t.1 else s.1) = max (f s.1) (f t.1) := by
    have := hf _ _ h1 h3
    by_cases h : bef s.1 t.1
    · have h' := this.1 h
      rw [if_pos h]; exact ⟨h3, by omega⟩
    · have h' := mt this.2 h
      rw [if_neg h]; exact ⟨h1, by omega⟩
  have e2 : S (if bef t.2 s.2 then t.2 else s.2) ∧ f (if bef t.2 s.2 then t.2 else s.2) = min (f s.2) (f t.2) := by
    have := hf _ _ h4 h2
    by_cases h : bef t.2 s.2
    · have h' := this.1 h
      rw [if_pos h]; exact ⟨h4, by omega⟩
    · have h' := mt this.2 h
      rw [if_neg h]; exact ⟨h2, by omega⟩
  unfold onLine
  simp only [hf _ _ e1.1 e2.1, eq_f hf e1.1 e2.1, e1.2, e2.2]
end

/-- How two segments on one line meet, by the places of the other's ends. -/
theorem onLine_count {a b c d : Pnt} (hab : a ≠ b) (hcd : c ≠ d) (hc : cr a b c 1 = 0) (hd : cr a b d 1 = 0) :
    onLine (fwd a b) (fwd c d) = if count (kk a b) (min (pos a b c) (pos a b d)) (max (pos a b c) (pos a b d)) = 2 then 3 else count (kk a b) (min (pos a b c) (pos a b d)) (max (pos a b c) (pos a b d)) := by
  have hk := kk_pos hab
  have pa := pos_a a b
  have pb := pos_b a b
  have ha := cr_a a b
  have hb := cr_b a b
  rcases bef_tri a b with h | h | h
  · have hf : ∀ x y, cr a b x 1 = 0 → cr a b y 1 = 0 → (bef x y ↔ pos a b x < pos a b y) := fun x y hx hy => (bef_pos hab hx hy).1 h
    obtain ⟨s1, s2, s3, s4⟩ := fwd_f (S := fun x => cr a b x 1 = 0) hf ha hb
    obtain ⟨t1, t2, t3, t4⟩ := fwd_f (S := fun x => cr a b x 1 = 0) hf hc hd
    have hne : pos a b c ≠ pos a b d := fun e => hcd ((eq_f (S := fun x => cr a b x 1 = 0) hf hc hd).2 e)
    rw [onLine_f (S := fun x => cr a b x 1 = 0) hf s1 s2 t1 t2, s3, s4, t3, t4, pa, pb]
    unfold count
    repeat' split
    all_goals omega
  · exact absurd h hab
  · have hf : ∀ x y, cr a b x 1 = 0 → cr a b y 1 = 0 → (bef x y ↔ - pos a b x < - pos a b y) := fun x y hx hy => by
      rw [(bef_pos hab hx hy).2 h]; omega
    obtain ⟨s1, s2, s3, s4⟩ := fwd_f (f := fun x => - pos a b x) (S := fun x => cr a b x 1 = 0) hf ha hb
    obtain ⟨t1, t2, t3, t4⟩ := fwd_f (f := fun x => - pos a b x) (S := fun x => cr a b x 1 = 0) hf hc hd
    have hne : pos a b c ≠ pos a b d := fun e => hcd ((eq_f (f := fun x => - pos a b x) (S := fun x => cr a b x 1 = 0) hf hc hd).2 (by omega))
    rw [onLine_f (f := fun x => - pos a b x) (S := fun x => cr a b x 1 = 0) hf s1 s2 t1 t2]
    rw [s3, s4, t3, t4, pa, pb]
    unfold count
    repeat' split
    all_goals omega

def sg (n : Int) : Int := if n > 0 then 1 else if n < 0 then -1 else 0
def meet (a b c d : Pnt) : Int :=
  let sA := sg (cr a b c 1)
  let sB := sg (cr a b d 1)
  let oA := sg (cr c d a 1)
  let oB := sg (cr c d b 1)
  if sA = 0 ∧ sB = 0 ∧ oA = 0 ∧ oB = 0 then onLine (fwd a b) (fwd c d)
  else if sA * sB > 0 ∨ oA * oB > 0 then 0
  else if sA * sB * oA * oB = 0 then 1 else 2

/-- The document's common: how many, and the end of neither. -/
def nn3 (a b c d : Pnt) : Int := (b.1 - a.1) * (d.2 - c.2) - (b.2 - a.2) * (d.1 - c.1)
def common (a b c d : Pnt) : Int × Bool :=
  let n := nn3 a b c d
  let s := (c.1 - a.1) * (d.2 - c.2) - (c.2 - a.2) * (d.1 - c.1)
  let t := (c.1 - a.1) * (b.2 - a.2) - (c.2 - a.2) * (b.1 - a.1)
  if n = 0 then
    if t ≠ 0 then (0, false) else (count (kk a b) (min (pos a b c) (pos a b d)) (max (pos a b c) (pos a b d)), false)
  else
    let n' := if n < 0 then -n else n
    let s' := if n < 0 then -s else s
    let t' := if n < 0 then -t else t
    if s' < 0 ∨ n' < s' ∨ t' < 0 ∨ n' < t' then (0, false) else (1, decide (0 < s' ∧ s' < n' ∧ 0 < t' ∧ t' < n'))
end Vd
end Go.Proofs.YtcclepohmhdpbaaGreatDoor

/- VALIDITY, PLAINLY: Meet against common, whole. -/
namespace Go.Proofs.YtcclepohmhdpbaaGreatDoor
set_option linter.all false
namespace Vd
/-- How they meet, by the document's count. -/
def how (x : Int × Bool) : Int := if x.1 = 2 then 3 else if x.2 then 2 else x.1

theorem sg_cases (n : Int) : (0 < n ∧ sg n = 1) ∨ (n = 0 ∧ sg n = 0) ∨ (n < 0 ∧ sg n = -1) := by
  unfold sg
  rcases Int.lt_trichotomy n 0 with h | h | h
  · right; right; exact ⟨h, by rw [if_neg (by omega), if_pos h]⟩
  · right; left; exact ⟨h, by rw [if_neg (by omega), if_neg (by omega)]⟩
  · left; exact ⟨h, by rw [if_pos h]⟩

/-- The signs against the parts, n above 0. -/
theorem core1 {n s t X : Int} (h : 0 < n) :
    (if sg (-t) = 0 ∧ sg (n - t) = 0 ∧ sg s = 0 ∧ sg (s - n) = 0 then X else if sg (-t) * sg (n - t) > 0 ∨ sg s * sg (s - n) > 0 then 0 else if sg (-t) * sg (n - t) * sg s * sg (s - n) = 0 then 1 else 2) =
    how (if s < 0 ∨ n < s ∨ t < 0 ∨ n < t then (0, false) else (1, decide (0 < s ∧ s < n ∧ 0 < t ∧ t < n))) := by
  by_cases C : s < 0 ∨ n < s ∨ t < 0 ∨ n < t
  · rw [if_pos C]
    rcases sg_cases (-t) with ⟨g1, k1⟩ | ⟨g1, k1⟩ | ⟨g1, k1⟩ <;> rcases sg_cases (n - t) with ⟨g2, k2⟩ | ⟨g2, k2⟩ | ⟨g2, k2⟩ <;>
    rcases sg_cases s with ⟨g3, k3⟩ | ⟨g3, k3⟩ | ⟨g3, k3⟩ <;> rcases sg_cases (s - n) with ⟨g4, k4⟩ | ⟨g4, k4⟩ | ⟨g4, k4⟩ <;>
    first | (exfalso; omega) | (rw [k1, k2, k3, k4]; simp [how])
  · rw [if_neg C]
    by_cases D : 0 < s ∧ s < n ∧ 0 < t ∧ t < n
    · rw [decide_eq_true D]
      rcases sg_cases (-t) with ⟨g1, k1⟩ | ⟨g1, k1⟩ | ⟨g1, k1⟩ <;> rcases sg_cases (n - t) with ⟨g2, k2⟩ | ⟨g2, k2⟩ | ⟨g2, k2⟩ <;>
      rcases sg_cases s with ⟨g3, k3⟩ | ⟨g3, k3⟩ | ⟨g3, k3⟩ <;> rcases sg_cases (s - n) with ⟨g4, k4⟩ | ⟨g4, k4⟩ | ⟨g4, k4⟩ <;>
      first | (exfalso; omega) | (rw [k1, k2, k3, k4]; simp [how])
    · rw [decide_eq_false D]
      rcases sg_cases (-t) with ⟨g1, k1⟩ | ⟨g1, k1⟩ | ⟨g1, k1⟩ <;> rcases sg_cases (n - t) with ⟨g2, k2⟩ | ⟨g2, k2⟩ | ⟨g2, k2⟩ <;>
      rcases sg_cases s with ⟨g3, k3⟩ | ⟨g3, k3⟩ | ⟨g3, k3⟩ <;> rcases sg_cases (s - n) with ⟨g4, k4⟩ | ⟨g4, k4⟩ | ⟨g4, k4⟩ <;>
      first | (exfalso; omega) | (rw [k1, k2, k3, k4]; simp [how])
theorem core2 {n s t X : Int} (h : n < 0) :
    (if sg (-t) = 0 ∧ sg (n - t) = 0 ∧ sg s = 0 ∧ sg (s - n) = 0 then X else if sg (-t) * sg (n - t) > 0 ∨ sg s * sg (s - n) > 0 then 0 else if sg (-t) * sg (n - t) * sg s * sg (s - n) = 0 then 1 else 2) =
    how (if -s < 0 ∨ -n < -s ∨ -t < 0 ∨ -n < -t then (0, false) else (1, decide (0 < -s ∧ -s < -n ∧ 0 < -t ∧ -t < -n))) := by
  by_cases C : -s < 0 ∨ -n < -s ∨ -t < 0 ∨ -n < -t
  · rw [if_pos C]
    rcases sg_cases (-t) with ⟨g1, k1⟩ | ⟨g1, k1⟩ | ⟨g1, k1⟩ <;> rcases sg_cases (n - t) with ⟨g2, k2⟩ | ⟨g2, k2⟩ | ⟨g2, k2⟩ <;>
    rcases sg_cases s with ⟨g3, k3⟩ | ⟨g3, k3⟩ | ⟨g3, k3⟩ <;> rcases sg_cases (s - n) with ⟨g4, k4⟩ | ⟨g4, k4⟩ | ⟨g4, k4⟩ <;>
    first | (exfalso; omega) | (rw [k1, k2, k3, k4]; simp [how])
  · rw [if_neg C]
    by_cases D : 0 < -s ∧ -s < -n ∧ 0 < -t ∧ -t < -n
    · rw [decide_eq_true D]
      rcases sg_cases (-t) with ⟨g1, k1⟩ | ⟨g1, k1⟩ | ⟨g1, k1⟩ <;> rcases sg_cases (n - t) with ⟨g2, k2⟩ | ⟨g2, k2⟩ | ⟨g2, k2⟩ <;>
      rcases sg_cases s with ⟨g3, k3⟩ | ⟨g3, k3⟩ | ⟨g3, k3⟩ <;> rcases sg_cases (s - n) with ⟨g4, k4⟩ | ⟨g4, k4⟩ | ⟨g4, k4⟩ <;>
      first | (exfalso; omega) | (rw [k1, k2, k3, k4]; simp [how])
    · rw [decide_eq_false D]
      rcases sg_cases (-t) with ⟨g1, k1⟩ | ⟨g1, k1⟩ | ⟨g1, k1⟩ <;> rcases sg_cases (n - t) with ⟨g2, k2⟩ | ⟨g2, k2⟩ | ⟨g2, k2⟩ <;>
      rcases sg_cases s with ⟨g3, k3⟩ | ⟨g3, k3⟩ | ⟨g3, k3⟩ <;> rcases sg_cases (s - n) with ⟨g4, k4⟩ | ⟨g4, k4⟩ | ⟨g4, k4⟩ <;>
      first | (exfalso; omega) | (rw [k1, k2, k3, k4]; simp [how])

theorem meet_common {a b c d : Pnt} (hab : a ≠ b) (hcd : c ≠ d) : meet a b c d = how (common a b c d) := by
  obtain ⟨s, hs⟩ : ∃ s, s = (c.1 - a.1) * (d.2 - c.2) - (c.2 - a.2) * (d.1 - c.1) := ⟨_, rfl⟩
  obtain ⟨t, ht⟩ : ∃ t, t = (c.1 - a.1) * (b.2 - a.2) - (c.2 - a.2) * (b.1 - a.1) := ⟨_, rfl⟩
  obtain ⟨n, hn⟩ : ∃ n, n = nn3 a b c d := ⟨_, rfl⟩
  have e1 : cr a b c 1 = -t := by rw [ht]; unfold cr; grind
  have e2 : cr a b d 1 = n - t := by rw [ht, hn]; unfold cr nn3; grind
  have e3 : cr c d a 1 = s := by rw [hs]; unfold cr; grind
  have e4 : cr c d b 1 = s - n := by rw [hs, hn]; unfold cr nn3; grind
  by_cases h0 : n = 0
  · by_cases h1 : t = 0
    · have h2 : s = 0 := by
        have g1 : s * (b.1 - a.1) = 0 := by rw [hn] at h0; unfold nn3 at h0; rw [hs]; rw [ht] at h1; grind
        have g2 : s * (b.2 - a.2) = 0 := by rw [hn] at h0; unfold nn3 at h0; rw [hs]; rw [ht] at h1; grind
        rcases Int.mul_eq_zero.1 g1 with q | q
        · exact q
        · rcases Int.mul_eq_zero.1 g2 with q' | q'
          · exact q'
          · exact absurd (Prod.ext (by omega) (by omega)) hab
      have hc : cr a b c 1 = 0 := by rw [e1, h1]; rfl
      have hd : cr a b d 1 = 0 := by rw [e2, h0, h1]; rfl
      have m : meet a b c d = onLine (fwd a b) (fwd c d) := by
        unfold meet
        simp [e1, e2, e3, e4, h0, h1, h2, sg]
      rw [m, onLine_count hab hcd hc hd]
      unfold common how
      simp only [← hn, ← ht, h0, h1]
      simp
    · have m : meet a b c d = 0 := by
        unfold meet
        simp only [e1, e2, e3, e4, h0, Int.zero_sub, Int.sub_zero]
        rcases sg_cases (-t) with ⟨g, e⟩ | ⟨g, e⟩ | ⟨g, e⟩
        · simp [e]
        · omega
        · simp [e]
      rw [m]
      unfold common how
      simp only [← hn, ← ht, h0, if_pos, if_pos h1]
      simp [h1]
  · have m : common a b c d = (let n' := if n < 0 then -n else n
        let s' := if n < 0 then -s else s
        let t' := if n < 0 then -t else t
        if s' < 0 ∨ n' < s' ∨ t' < 0 ∨ n' < t' then (0, false) else (1, decide (0 < s' ∧ s' < n' ∧ 0 < t' ∧ t' < n'))) := by
      unfold common
      simp only [← hn, ← ht, ← hs, if_neg h0]
    rw [m]
    have l : meet a b c d = (if sg (-t) = 0 ∧ sg (n - t) = 0 ∧ sg s = 0 ∧ sg (s - n) = 0 then onLine (fwd a b) (fwd c d) else if sg (-t) * sg (n - t) > 0 ∨ sg s * sg (s - n) > 0 then 0 else if sg (-t) * sg (n - t) * sg s * sg (s - n) = 0 then 1 else 2) := by
      unfold meet
      simp only [e1, e2, e3, e4]
    rw [l]
    clear m l e1 e2 e3 e4 hs ht hn
    rcases Int.lt_or_gt_of_ne h0 with hneg | hneg
    · simp only [hneg, if_true]
      exact core2 (by omega)
    · simp only [show ¬ n < 0 by omega, if_false]
      exact core1 (by omega)
end Vd
end Go.Proofs.YtcclepohmhdpbaaGreatDoor

/- VALIDITY, PLAINLY: the ray. -/
namespace Go.Proofs.YtcclepohmhdpbaaGreatDoor
set_option linter.all false
namespace Vd
theorem cr_swap (a b p : Pnt) (w : Int) : cr b a p w = - cr a b p w := by unfold cr; grind
/-- The program's: meetsRay. -/
def ray (a b p : Pnt) (w : Int) : Bool :=
  if decide (a.2 * w > p.2) = decide (b.2 * w > p.2) then false
  else if b.2 * w > p.2 then decide (sg (cr a b p w) > 0) else decide (sg (cr a b p w) < 0)
/-- The document's. -/
def rayD (a b p : Pnt) (w : Int) : Bool :=
  let lo := if a.2 > b.2 then b else a
  let hi := if a.2 > b.2 then a else b
  decide (lo.2 * w ≤ p.2 ∧ p.2 < hi.2 * w) && decide (cr lo hi p w > 0)
theorem sg_pos (n : Int) : sg n > 0 ↔ n > 0 := by rcases sg_cases n with ⟨h, e⟩ | ⟨h, e⟩ | ⟨h, e⟩ <;> rw [e] <;> omega
theorem sg_neg (n : Int) : sg n < 0 ↔ n < 0 := by rcases sg_cases n with ⟨h, e⟩ | ⟨h, e⟩ | ⟨h, e⟩ <;> rw [e] <;> omega
theorem sg_zero (n : Int) : sg n = 0 ↔ n = 0 := by rcases sg_cases n with ⟨h, e⟩ | ⟨h, e⟩ | ⟨h, e⟩ <;> rw [e] <;> omega
theorem ray_eq {a b p : Pnt} {w : Int} (hw : 0 < w) : ray a b p w = rayD a b p w := by
  unfold ray rayD
  by_cases h : a.2 > b.2
  · have h1 : b.2 * w < a.2 * w := Int.mul_lt_mul_of_pos_right h hw
    simp only [if_pos h, cr_swap a b p w]
    by_cases hb : b.2 * w > p.2
    · rw [if_pos (by rw [decide_eq_true hb, decide_eq_true (show a.2 * w > p.2 by omega)])]
      rw [decide_eq_false (by omega), Bool.false_and]
    · by_cases ha : a.2 * w > p.2
      · rw [if_neg (by rw [decide_eq_true ha, decide_eq_false hb]; simp), if_neg hb, decide_eq_true (show b.2 * w ≤ p.2 ∧ p.2 < a.2 * w by omega), Bool.true_and]
        exact decide_eq_decide.2 (by rw [sg_neg]; omega)
      · rw [if_pos (by rw [decide_eq_false ha, decide_eq_false hb]), decide_eq_false (by omega), Bool.false_and]
  · have h1 : a.2 * w ≤ b.2 * w := Int.mul_le_mul_of_nonneg_right (by omega) (by omega)
    simp only [if_neg h]
    by_cases hb : b.2 * w > p.2
    · by_cases ha : a.2 * w > p.2
      · rw [if_pos (by rw [decide_eq_true ha, decide_eq_true hb]), decide_eq_false (by omega), Bool.false_and]
      · rw [if_neg (by rw [decide_eq_true hb, decide_eq_false ha]; simp), if_pos hb, decide_eq_true (show a.2 * w ≤ p.2 ∧ p.2 < b.2 * w by omega), Bool.true_and]
        exact decide_eq_decide.2 (sg_pos _)
    · rw [if_pos (by rw [decide_eq_false hb, decide_eq_false (show ¬ a.2 * w > p.2 by omega)])]
      rw [decide_eq_false (by omega), Bool.false_and]
end Vd
end Go.Proofs.YtcclepohmhdpbaaGreatDoor

/- THE PROGRAM, PLAINLY: how points, segments and rings lie; the clauses. -/
namespace Go.Proofs.YtcclepohmhdpbaaGreatDoor
set_option linter.all false
namespace Vd
abbrev Seg := Pnt × Pnt
abbrev Spot := Pnt × Int
instance (a b c : Int) : Decidable (btw a b c) := by unfold btw; infer_instance
instance (a b p : Pnt) (w : Int) : Decidable (has a b p w) := by unfold has; infer_instance
def hasB (s : Seg) (p : Spot) : Bool := decide (has s.1 s.2 p.1 p.2)
def side (s : Seg) (p : Spot) : Int := sg (cr s.1 s.2 p.1 p.2)
def at1 (p : Pnt) : Spot := (p, 1)
def midOf (p q : Pnt) : Spot := ((p.1 + q.1, p.2 + q.2), 2)
def meetS (s t : Seg) : Int := meet s.1 s.2 t.1 t.2
def segs (r : Ring) : List Seg := r.zip r.tail
def placeL : List Seg → Bool → Spot → Int
  | [], i, _ => if i then 2 else 0
  | s :: t, i, p => if hasB s p then 1 else placeL t (if ray s.1 s.2 p.1 p.2 then !i else i) p
def place (r : Ring) (p : Spot) : Int := placeL (segs r) false p
def cutF (s : Seg) (f : Pnt) (to p : Pnt) : Pnt := if bef f p ∧ bef p to ∧ has s.1 s.2 p 1 then p else to
def nextCut (s : Seg) (f : Pnt) (rings : Poly) : Pnt := rings.flatten.foldl (cutF s f) s.2
def midsF : Nat → Seg → Pnt → Poly → List Spot
  | 0, _, _, _ => []
  | n + 1, s, f, rings => if f = s.2 then [] else midOf f (nextCut s f rings) :: midsF n s (nextCut s f rings) rings
def mids (s : Seg) (rings : Poly) : List Spot := midsF (rings.flatten.length + 1) (fwd s.1 s.2) (fwd s.1 s.2).1 rings

/-! ### the clauses -/
def anyI (n : Nat) (f : Nat → Bool) : Bool := (List.range n).any f
theorem anyI_zero (f : Nat → Bool) : anyI 0 f = false := rfl
theorem anyI_succ (n : Nat) (f : Nat → Bool) : anyI (n + 1) f = (anyI n f || f n) := by simp [anyI, List.range_succ]
theorem anyI_true {n : Nat} {f : Nat → Bool} {i : Nat} (h : i < n) (hf : f i = true) : anyI n f = true := by
  simp only [anyI, List.any_eq_true, List.mem_range]; exact ⟨i, h, hf⟩
theorem anyI_iff {n : Nat} {f : Nat → Bool} : anyI n f = true ↔ ∃ i, i < n ∧ f i = true := by
  simp only [anyI, List.any_eq_true, List.mem_range]
def twice (r : Ring) : Bool := anyI r.length fun i => decide (1 ≤ i) && anyI r.length fun j => decide (i < j) && decide (r[i]? = r[j]?)
def wantI (n i j : Nat) : Int := if i + 1 = j ∨ (i = 0 ∧ j + 1 = n) then 1 else 0
def sAt (l : List Seg) (i : Nat) : Seg := l.getD i ((0, 0), (0, 0))
def selfR (r : Ring) : Bool := anyI (segs r).length fun j => anyI j fun i => decide (meetS (sAt (segs r) i) (sAt (segs r) j) ≠ wantI (segs r).length i j)
def simple (l : Poly) : Bool := !(l.any fun r => twice r || selfR r)
def crossS (s t : Seg) : Bool := decide (meetS s t = 2) || decide (meetS s t = 3)
def cross (r o : Ring) : Bool := (segs r).any fun s => (segs o).any fun t => crossS s t
def rAt (l : Poly) (i : Nat) : Ring := l.getD i []
def touch (l : Poly) : Bool := !(anyI l.length fun j => anyI j fun i => cross (rAt l i) (rAt l j))
def lies (r o : Ring) (k : Int) : Bool := !((segs r).any fun s => (mids s [o]).any fun m => decide (place o m ≠ k))
def nestW (j : Nat) : Int := if j = 0 then 2 else 0
def nested (l : Poly) : Bool := !(anyI l.length fun i => decide (1 ≤ i) && anyI l.length fun j => decide (i ≠ j) && !(lies (rAt l i) (rAt l j) (nestW j)))
def ringsAt (l : Poly) (p : Pnt) : List Nat := (List.range l.length).filter fun i => decide (place (rAt l i) (at1 p) = 1)
def touchF (l : Poly) (a : List Pnt) (p : Pnt) : List Pnt := if ¬ (p ∈ a) ∧ 1 < (ringsAt l p).length then a ++ [p] else a
def touchPts (l : Poly) : List Pnt := l.flatten.foldl (touchF l) []
def turnG (old first : Nat) (g : Nat) : Nat := if g = old then first else g
def nAt (l : List Nat) (i : Nat) : Nat := l.getD i 0
def joinL : List Nat → Nat → List Nat → Option (List Nat)
  | g, _, [] => some g
  | g, a, j :: t => if nAt g j = nAt g a then none else joinL (g.map (turnG (nAt g j) (nAt g a))) a t
def join (g : List Nat) : List Nat → Option (List Nat)
  | [] => some g
  | a :: t => joinL g a t
def wayL (l : Poly) : List Pnt → List Nat → Bool
  | [], _ => false
  | p :: t, g => match join g (ringsAt l p) with
    | none => true
    | some g' => wayL l t g'
def way (l : Poly) : Bool := wayL l (touchPts l) (List.range l.length)
def holdsC (c : Nat) (l : Poly) : Bool := if c = 1 then simple l else if c = 2 then touch l else if c = 3 then nested l else !(way l)
def boundsX (a b : Poly) : Bool := a.any fun r => b.any fun o => cross r o
def freeL : List Ring → Bool → Bool → Spot → Bool
  | [], _, f, _ => f
  | r :: t, first, f, p => if place r p = 1 then false else freeL t false (f || (first && decide (place r p = 0)) || (!first && decide (place r p = 2))) p
def free (l : Poly) (p : Spot) : Bool := freeL l true false p
def enters (a b : Poly) : Bool := a.any fun r => (segs r).any fun s => (mids s b).any fun m => !(free b m)
def pAt (m : Mult) (i : Nat) : Poly := m.getD i []
def overlap (m : Mult) : Bool := anyI m.length fun j => anyI j fun i => boundsX (pAt m i) (pAt m j) || enters (pAt m i) (pAt m j) || enters (pAt m j) (pAt m i)
def badC (c : Nat) (m : Mult) : Bool := m.any fun l => !(holdsC c l)
def least (m : Mult) : Int := if badC 1 m then 1 else if badC 2 m then 2 else if badC 3 m then 3 else if badC 4 m then 4 else if overlap m then 5 else 0

/-! ### the parts come to an end -/
theorem bef_trans {p q r : Pnt} (h : bef p q) (k : bef q r) : bef p r := by unfold bef at *; omega
theorem fold_cut (s : Seg) (f : Pnt) : ∀ (l : List Pnt) (t : Pnt), l.foldl (cutF s f) t = t ∨ (l.foldl (cutF s f) t ∈ l ∧ bef f (l.foldl (cutF s f) t)) := by
  intro l
  induction l with
  | nil => intro t; exact .inl rfl
  | cons p l ih =>
    intro t
    rw [List.foldl_cons]
    by_cases h : bef f p ∧ bef p t ∧ has s.1 s.2 p 1
    · have e : cutF s f t p = p := if_pos h
      rw [e]
      rcases ih p with k | ⟨k1, k2⟩
      · rw [k]; exact .inr ⟨by simp, h.1⟩
      · exact .inr ⟨by simp [k1], k2⟩
    · have e : cutF s f t p = t := if_neg h
      rw [e]
      rcases ih t with k | ⟨k1, k2⟩
      · exact .inl k
      · exact .inr ⟨by simp [k1], k2⟩
/-- How many parts are to come, at most. -/
def ahead (s : Seg) (f : Pnt) (rings : Poly) : Nat := if f = s.2 then 0 else 1 + rings.flatten.countP fun p => decide (bef f p)
theorem ahead_le (s : Seg) (f : Pnt) (rings : Poly) : ahead s f rings ≤ rings.flatten.length + 1 := by
  unfold ahead
  split
  · omega
  · have := List.countP_le_length (p := fun p => decide (bef f p)) (l := rings.flatten); omega
theorem ahead_step {s : Seg} {f : Pnt} {rings : Poly} (h : f ≠ s.2) : ahead s (nextCut s f rings) rings < ahead s f rings := by
  unfold ahead
  rw [if_neg h]
  split
  · omega
  · rename_i g
    rcases fold_cut s f rings.flatten s.2 with k | ⟨k1, k2⟩
    · exact absurd k g
    · have : rings.flatten.countP (fun p => decide (bef (nextCut s f rings) p)) < rings.flatten.countP (fun p => decide (bef f p)) := by
        obtain ⟨l1, l2, e⟩ := List.append_of_mem k1
        have mono : ∀ l : List Pnt, l.countP (fun p => decide (bef (nextCut s f rings) p)) ≤ l.countP (fun p => decide (bef f p)) := by
          intro l
          apply List.countP_mono_left
          intro x _ hx
          exact decide_eq_true (bef_trans k2 (of_decide_eq_true hx))
        have m1 := mono l1
        have m2 := mono l2
        have e' : rings.flatten = l1 ++ nextCut s f rings :: l2 := e
        generalize hx : nextCut s f rings = x at *
        have k2' : bef f x := by rw [← hx]; exact k2
        rw [e', List.countP_append, List.countP_append, List.countP_cons, List.countP_cons]
        have d1 : decide (bef x x) = false := decide_eq_false fun q => bef_irr q q
        have d2 : decide (bef f x) = true := decide_eq_true k2'
        simp only [d1, d2, if_true]
        simp
        omega
      omega
theorem midsF_end {s : Seg} {f : Pnt} {rings : Poly} (h : f = s.2) (n : Nat) : midsF n s f rings = [] := by
  cases n with
  | zero => rfl
  | succ n => unfold midsF; rw [if_pos h]
theorem midsF_step {s : Seg} {f : Pnt} {rings : Poly} (h : f ≠ s.2) {n : Nat} (hn : ahead s f rings ≤ n) :
    ∃ n', midsF n s f rings = midOf f (nextCut s f rings) :: midsF n' s (nextCut s f rings) rings ∧ ahead s (nextCut s f rings) rings ≤ n' := by
  have := ahead_step (rings := rings) h
  cases n with
  | zero => omega
  | succ n => exact ⟨n, by rw [midsF, if_neg h], by omega⟩
theorem midsF_len : ∀ (n : Nat) (s : Seg) (f : Pnt) (rings : Poly), (midsF n s f rings).length ≤ n := by
  intro n
  induction n with
  | zero => intro s f rings; exact Nat.le_refl _
  | succ n ih =>
    intro s f rings
    unfold midsF
    split
    · simp
    · have := ih s (nextCut s f rings) rings
      simp; omega
theorem mids_len (s : Seg) (rings : Poly) : (mids s rings).length ≤ rings.flatten.length + 1 := midsF_len _ _ _ _
theorem segs_len (r : Ring) : (segs r).length = r.length - 1 := by simp [segs]
theorem segs_at {r : Ring} {i : Nat} {p q : Pnt} (hp : r[i]? = some p) (hq : r[i + 1]? = some q) : (segs r)[i]? = some (p, q) := by
  have hq' : r.tail[i]? = some q := by simpa using hq
  simp [segs, List.getElem?_zip_eq_some, hp, hq']
theorem segs_mem {r : Ring} {s : Seg} (h : s ∈ segs r) : s.1 ∈ r ∧ s.2 ∈ r := by
  have := List.of_mem_zip (a := s.1) (b := s.2) (show (s.1, s.2) ∈ r.zip r.tail from h)
  exact ⟨this.1, List.mem_of_mem_tail this.2⟩
theorem nextCut_mem (s : Seg) (f : Pnt) (rings : Poly) : nextCut s f rings = s.2 ∨ nextCut s f rings ∈ rings.flatten := by
  rcases fold_cut s f rings.flatten s.2 with k | ⟨k1, _⟩
  · exact .inl k
  · exact .inr k1

/-! ### sizes -/
def Cd (p : Pnt) : Prop := -32768 ≤ p.1 ∧ p.1 ≤ 32768 ∧ -32768 ≤ p.2 ∧ p.2 ≤ 32768
def CdS (s : Seg) : Prop := Cd s.1 ∧ Cd s.2
def CdR (r : Ring) : Prop := ∀ p ∈ r, Cd p
def CdL (l : Poly) : Prop := ∀ r ∈ l, CdR r
def Sp (p : Spot) : Prop := -1048576 ≤ p.1.1 ∧ p.1.1 ≤ 1048576 ∧ -1048576 ≤ p.1.2 ∧ p.1.2 ≤ 1048576 ∧ 1 ≤ p.2 ∧ p.2 ≤ 1048576
theorem at1_sp {p : Pnt} (h : Cd p) : Sp (at1 p) := by unfold Cd at h; unfold Sp at1; simp only; omega
theorem mid_sp {p q : Pnt} (h : Cd p) (k : Cd q) : Sp (midOf p q) := by unfold Cd at h k; unfold Sp midOf; simp only; omega
theorem segs_cd {r : Ring} (h : CdR r) {s : Seg} (hs : s ∈ segs r) : CdS s := ⟨h _ (segs_mem hs).1, h _ (segs_mem hs).2⟩
theorem fwd_cd {s : Seg} (h : CdS s) : CdS (fwd s.1 s.2) := by
  unfold fwd; split
  · exact ⟨h.2, h.1⟩
  · exact h
theorem nextCut_cd {s : Seg} {f : Pnt} {rings : Poly} (hs : CdS s) (hr : CdL rings) : Cd (nextCut s f rings) := by
  rcases nextCut_mem s f rings with k | k
  · rw [k]; exact hs.2
  · obtain ⟨r, h1, h2⟩ := List.mem_flatten.1 k
    exact hr r h1 _ h2
theorem midsF_sp {s : Seg} {rings : Poly} (hs : CdS s) (hr : CdL rings) : ∀ (n : Nat) (f : Pnt), Cd f → ∀ m ∈ midsF n s f rings, Sp m := by
  intro n
  induction n with
  | zero => intro f _ m hm; cases hm
  | succ n ih =>
    intro f hf m hm
    unfold midsF at hm
    split at hm
    · cases hm
    · rcases List.mem_cons.1 hm with rfl | hm
      · exact mid_sp hf (nextCut_cd hs hr)
      · exact ih _ (nextCut_cd hs hr) m hm
theorem mids_sp {s : Seg} {rings : Poly} (hs : CdS s) (hr : CdL rings) : ∀ m ∈ mids s rings, Sp m := midsF_sp (fwd_cd hs) hr _ _ (fwd_cd hs).1
/-- Of a set that is none that is refused, all coordinates are small. -/
theorem cd_of {m : Mult} (h : Pl.wrong m = 0) : ∀ l ∈ m, CdL l := by
  have h4 : m.any Pl.wideL = false := by
    unfold Pl.wrong at h
    split at h
    · omega
    · split at h
      · omega
      · split at h
        · omega
        · rename_i k; simpa using k
  intro l hl r hr p hp
  have h1 : Pl.wideP p = false := by
    cases hw : Pl.wideP p with
    | false => rfl
    | true =>
      have : m.any Pl.wideL = true := List.any_eq_true.2 ⟨l, hl, List.any_eq_true.2 ⟨r, hr, List.any_eq_true.2 ⟨p, hp, hw⟩⟩⟩
      rw [h4] at this; cases this
  unfold Pl.wideP Pl.farC at h1
  simp at h1
  unfold Cd; omega
end Vd
end Go.Proofs.YtcclepohmhdpbaaGreatDoor

/- THE PROGRAM, PLAINLY: the one way to write a set. -/
namespace Go.Proofs.YtcclepohmhdpbaaGreatDoor
set_option linter.all false
namespace Vd
def ptAt (r : Ring) (i : Nat) : Pnt := r.getD i (0, 0)
def nextI (r : Ring) (i : Nat) : Pnt := if i + 1 < r.length then ptAt r (i + 1) else ptAt r 1
def turns (r : Ring) (i : Nat) : Bool := decide (1 ≤ i) && decide (side (ptAt r (i - 1), ptAt r i) (at1 (nextI r i)) ≠ 0)
def cornersI (r : Ring) (n : Nat) : Ring := ((List.range n).filter (turns r)).map (ptAt r)
def corners (r : Ring) : Ring := cornersI r r.length
def leastS (v : Ring) (f i : Nat) : Nat := if bef (ptAt v i) (ptAt v f) then i else f
def leastN (v : Ring) (n : Nat) : Nat := (List.range n).foldl (leastS v) 0
def leastI (v : Ring) : Nat := leastN v v.length
def lefts (v : Ring) (k : Nat) : Bool := decide (0 < side (ptAt v ((k + v.length - 1) % v.length), ptAt v k) (at1 (ptAt v ((k + 1) % v.length))))
def stepI (v : Ring) (l : Bool) : Nat := if lefts v (leastI v) = l then 1 else v.length - 1
def ringForm (r : Ring) (l : Bool) : Ring :=
  if (corners r).length = 0 then [] else (List.range ((corners r).length + 1)).map fun i => ptAt (corners r) ((leastI (corners r) + i * stepI (corners r) l) % (corners r).length)
def cmpR : Ring → Ring → Int
  | [], [] => 0
  | [], _ :: _ => -1
  | _ :: _, [] => 1
  | p :: t, q :: u => if bef q p then 1 else if bef p q then -1 else cmpR t u
def cmpP : Poly → Poly → Int
  | [], [] => 0
  | [], _ :: _ => -1
  | _ :: _, [] => 1
  | p :: t, q :: u => if cmpR p q ≠ 0 then cmpR p q else cmpP t u
def isA (m : Mult) (a i : Nat) : Bool := decide (cmpP (pAt m i) (pAt m a) < 0) || (decide (cmpP (pAt m i) (pAt m a) = 0) && decide (i < a))
def cntA (m : Mult) (a n : Nat) : Nat := (List.range n).countP (isA m a)
def orderS (m : Mult) (o : Mult) (i : Nat) : Mult := o.set (cntA m i m.length) (pAt m i)
def orderN (m : Mult) (n : Nat) : Mult := (List.range n).foldl (orderS m) (List.replicate m.length [])
def inOrder (m : Mult) : Mult := orderN m m.length
def holesF (l : Poly) : Mult := l.map fun r => [ringForm r false]
def polyForm : Poly → Poly
  | [] => []
  | r :: l => ringForm r true :: (inOrder (holesF l)).flatten
def form (m : Mult) : Mult := inOrder (m.map polyForm)
end Vd
end Go.Proofs.YtcclepohmhdpbaaGreatDoor

/- THE PROGRAM, PLAINLY: a point that parts two sets. -/
namespace Go.Proofs.YtcclepohmhdpbaaGreatDoor
set_option linter.all false
namespace Vd
def inPolyL : List Ring → Bool → Spot → Bool
  | [], _, _ => true
  | r :: t, first, p => if (first && decide (place r p = 0)) || (!first && decide (place r p = 2)) then false else inPolyL t false p
def inPoly (l : Poly) (p : Spot) : Bool := inPolyL l true p && decide (0 < l.length)
def inSet (m : Mult) (p : Spot) : Bool := m.any fun l => inPoly l p
def along (s : Seg) : Pnt := (s.2.1 - s.1.1, s.2.2 - s.1.2)
def turnW (w o : Pnt) : Int := w.1 * o.2 - w.2 * o.1
def amt (n : Int) : Int := if n < 0 then -n else n
def gapW (p : Spot) (s : Seg) : Pnt := (s.1.1 * p.2 - p.1.1, s.1.2 * p.2 - p.1.2)
def partsTo (p : Spot) (w : Pnt) (s : Seg) : Int :=
  if amt (turnW (gapW p s) (along s)) = 0 then 1 else (amt (p.2 * turnW w (along s))).tdiv (amt (turnW (gapW p s) (along s))) + 1
def partF (p : Spot) (w : Pnt) (n : Int) (s : Seg) : Int := if n < partsTo p w s then partsTo p w s else n
def nearS (p : Spot) (w : Pnt) (n : Int) : Spot := ((p.1.1 * n + p.2 * w.1, p.1.2 * n + p.2 * w.2), p.2 * n)
def near (both : List Seg) (p : Spot) (w : Pnt) : Spot := nearS p w (both.foldl (partF p w) 1)
def atBoth (both : List Seg) (s t : Seg) (m : Spot) : Option Spot :=
  if turnW (along s) (along t) < 0 then some (near both m (along t))
  else if 0 < turnW (along s) (along t) then some (near both m (-(along t).1, -(along t).2)) else none
def lookL (other : Mult) (both : List Seg) (s : Seg) (m : Spot) : List Seg → Option Spot
  | [] => if inSet other m then some (near both m ((along s).2, -(along s).1)) else some m
  | t :: l => if hasB t m then atBoth both s t m else lookL other both s m l
def edges (l : Poly) : List Seg := l.flatMap segs
def atBounds (a b : Mult) : Option Spot :=
  (edges a.flatten).findSome? fun s => (mids s (a.flatten ++ b.flatten)).findSome? fun m => lookL b (edges (a.flatten ++ b.flatten)) s m (edges b.flatten)
def spot (a b : Mult) : Option Spot := match atBounds a b with
  | some p => some p
  | none => atBounds b a
end Vd
end Go.Proofs.YtcclepohmhdpbaaGreatDoor

/- THE WALKS: package plane, points and segments. -/
namespace Go.Proofs.YtcclepohmhdpbaaGreatDoor
set_option linter.all false
open Go.RowKit Go.Deep

def ptV (p : Pnt) : Value := .agg #[.int .i64 p.1, .int .i64 p.2]
def segV (s : Vd.Seg) : Value := .agg #[.int .i64 s.1.1, .int .i64 s.1.2, .int .i64 s.2.1, .int .i64 s.2.2]
def spotV (p : Vd.Spot) : Value := .agg #[.int .i64 p.1.1, .int .i64 p.1.2, .int .i64 p.2]

theorem w64 {x : Int} (h1 : -9223372036854775808 ≤ x) (h2 : x ≤ 9223372036854775807) : wrap64 x = x := by unfold wrap64; omega
/-- a product of two that are bounded. -/
theorem mul_bd {a b A B : Int} (h1 : -A ≤ a) (h2 : a ≤ A) (h3 : -B ≤ b) (h4 : b ≤ B) : -(A * B) ≤ a * b ∧ a * b ≤ A * B := by
  have hA : 0 ≤ A := by omega
  have hB : 0 ≤ B := by omega
  have k1 : a * b ≤ A * B := by
    rcases Int.le_total 0 b with h | h
    · exact Int.le_trans (Int.mul_le_mul_of_nonneg_right h2 h) (Int.mul_le_mul_of_nonneg_left h4 hA)
    · have e : a * b = (-a) * (-b) := by grind
      rw [e]
      exact Int.le_trans (Int.mul_le_mul_of_nonneg_right (show -a ≤ A by omega) (by omega)) (Int.mul_le_mul_of_nonneg_left (show -b ≤ B by omega) hA)
  have k2 : -(A * B) ≤ a * b := by
    have : (-a) * b ≤ A * B := by
      rcases Int.le_total 0 b with h | h
      · exact Int.le_trans (Int.mul_le_mul_of_nonneg_right (show -a ≤ A by omega) h) (Int.mul_le_mul_of_nonneg_left h4 hA)
      · have e : (-a) * b = a * (-b) := by grind
        rw [e]
        exact Int.le_trans (Int.mul_le_mul_of_nonneg_right h2 (by omega)) (Int.mul_le_mul_of_nonneg_left (show -b ≤ B by omega) hA)
    have e : (-a) * b = -(a * b) := by grind
    omega
  exact ⟨k2, k1⟩

theorem res_cell {fn : Func} {p : Tmp} {ty : TypeId} (h : fn.results = #[.cell p ty]) (tmps : Array Value) (P : Program) (w : World) :
    (results fn tmps).run P w = ((asAddr (tmps.getD p undef)).run P w).andThen fun a w₁ => (loadVar ty a).run P w₁ := by
  simp only [results, h]
  simp [Sem.run_bind, Result.andThen]
theorem load_spot {W : World} {b : Nat} {v0 v1 v2 : Value} (h : VRow W b 127 [v0, v1, v2]) : (loadVar 127 ⟨b, 0, none⟩).run Tryz.prog W = .ok (.agg #[v0, v1, v2]) W := by
  have c0 := h.cell (i := 0) (v := v0) rfl
  have c1 := h.cell (i := 1) (v := v1) rfl
  have c2 := h.cell (i := 2) (v := v2) rfl
  simp [go_sem, c0, c1, c2]
theorem load_seg {W : World} {b : Nat} {v0 v1 v2 v3 : Value} (h : VRow W b 191 [v0, v1, v2, v3]) : (loadVar 191 ⟨b, 0, none⟩).run Tryz.prog W = .ok (.agg #[v0, v1, v2, v3]) W := by
  have c0 := h.cell (i := 0) (v := v0) rfl
  have c1 := h.cell (i := 1) (v := v1) rfl
  have c2 := h.cell (i := 2) (v := v2) rfl
  have c3 := h.cell (i := 3) (v := v3) rfl
  simp [go_sem, c0, c1, c2, c3]
theorem load_pnt {W : World} {b : Nat} {v0 v1 : Value} (h : VRow W b 32 [v0, v1]) : (loadVar 32 ⟨b, 0, none⟩).run Tryz.prog W = .ok (.agg #[v0, v1]) W := by
  have c0 := h.cell (i := 0) (v := v0) rfl
  have c1 := h.cell (i := 1) (v := v1) rfl
  simp [go_sem, c0, c1]
/-- A struct that is given back lies in a cell of the call's own. -/
theorem ret_cell {fn : Func} {p : Tmp} {ty : TypeId} (h : fn.results = #[.cell p ty]) {a : Act} {W : World} {Q : Ending → World → Prop} {b : Nat} {v : Value} (h4 : a.tmps.getD p undef = .pointer (some ⟨b, 0, none⟩)) (hd : a.defers = [])
    (hl : (loadVar ty ⟨b, 0, none⟩).run Tryz.prog W = .ok v W) (hQ : Q (.returned v) W) : bodyPost Tryz.prog fn Q .ret a W := by
  refine bodyPost_ret (v := v) ?_ hd hQ
  rw [res_cell h, h4]
  simp only [asAddr, Sem.run_pure, Result.andThen_ok]
  exact hl
theorem ret_i {a b : Int} (h : a = b) : Ending.returned (.int .i64 a) = .returned (.int .i64 b) := by rw [h]
theorem ret_b {a b : Bool} (h : a = b) : Ending.returned (.bool a) = .returned (.bool b) := by rw [h]

set_option maxHeartbeats 400000 in
theorem sign_any (n : Int) (w : World) : Calls Tryz.prog 253 #[.int .i64 n] w fun e w' => e = .returned (.int .i64 (Vd.sg n)) ∧ w' = w := by
  rcases Vd.sg_cases n with ⟨h, e⟩ | ⟨h, e⟩ | ⟨h, e⟩
  all_goals
    rw [e]
    clear e
    go_enter Tryz.func253, Tryz.ntmps253
    go_wp2
    go_ret
    exact ⟨rfl, rfl⟩

set_option maxHeartbeats 1000000 in
theorem before_any (p q : Pnt) (w : World) : Calls Tryz.prog 236 #[ptV p, ptV q] w fun e w' => e = .returned (.bool (decide (Vd.bef p q))) ∧ Up w w' := by
  obtain ⟨px, py⟩ := p
  obtain ⟨qx, qy⟩ := q
  simp only [ptV, Vd.bef]
  rcases Int.lt_trichotomy px qx with h | h | h
  · go_enter Tryz.func236, Tryz.ntmps236
    go_wp2
    go_ret
    exact ⟨ret_b (by simp [h]), ((Up.refl _).alloc _).alloc _⟩
  · subst h
    by_cases h2 : py < qy
    all_goals
      go_enter Tryz.func236, Tryz.ntmps236
      go_wp2
      go_ret
      exact ⟨ret_b (by simp; omega), ((Up.refl _).alloc _).alloc _⟩
  · have h1 : ¬ px < qx := by omega
    have h2 : (px == qx) = false := beq_eq_false_iff_ne.2 (by omega)
    have h3 : ¬ px = qx := by omega
    go_enter Tryz.func236, Tryz.ntmps236
    go_wp2
    go_ret
    exact ⟨ret_b (by simp; omega), ((Up.refl _).alloc _).alloc _⟩

set_option maxHeartbeats 1000000 in
theorem at_any (p : Pnt) (w : World) : Calls Tryz.prog 199 #[ptV p] w fun e w' => e = .returned (spotV (Vd.at1 p)) ∧ Up w w' := by
  obtain ⟨px, py⟩ := p
  simp only [ptV, spotV, Vd.at1]
  go_enter Tryz.func199, Tryz.ntmps199
  go_wp2
  exact bodyPost_ret (v := .agg #[.int .i64 px, .int .i64 py, .int .i64 1]) (by simp [results, Tryz.results199, go_sem]) rfl ⟨rfl, ((Up.refl _).alloc _).alloc _⟩

set_option maxHeartbeats 1000000 in
theorem middle_any (p q : Pnt) (hp : Vd.Cd p) (hq : Vd.Cd q) (w : World) : Calls Tryz.prog 202 #[ptV p, ptV q] w fun e w' => e = .returned (spotV (Vd.midOf p q)) ∧ Up w w' := by
  obtain ⟨px, py⟩ := p
  obtain ⟨qx, qy⟩ := q
  simp only [Vd.Cd] at hp hq
  simp only [ptV, spotV, Vd.midOf]
  go_enter Tryz.func202, Tryz.ntmps202
  go_wp2
  exact bodyPost_ret (v := .agg #[.int .i64 (px + qx), .int .i64 (py + qy), .int .i64 2]) (by simp [results, Tryz.results202, go_sem]) rfl ⟨rfl, (((Up.refl _).alloc _).alloc _).alloc _⟩

set_option maxHeartbeats 2000000 in
theorem side_any (s : Vd.Seg) (p : Vd.Spot) (hs : Vd.CdS s) (hp : Vd.Sp p) (w : World) : Calls Tryz.prog 233 #[segV s, spotV p] w fun e w' => e = .returned (.int .i64 (Vd.side s p)) ∧ Up w w' := by
  obtain ⟨⟨ax, ay⟩, ⟨bx, bY⟩⟩ := s
  obtain ⟨⟨x, y⟩, t⟩ := p
  simp only [Vd.CdS, Vd.Cd, Vd.Sp] at hs hp
  obtain ⟨⟨a1, a2, a3, a4⟩, b1, b2, b3, b4⟩ := hs
  obtain ⟨p1, p2, p3, p4, p5, p6⟩ := hp
  simp only [segV, spotV, Vd.side, Vd.cr]
  obtain ⟨m1, m2⟩ := mul_bd (a := ax) (b := t) (A := 32768) (B := 1048576) (by omega) a2 (by omega) p6
  obtain ⟨m3, m4⟩ := mul_bd (a := ay) (b := t) (A := 32768) (B := 1048576) (by omega) a4 (by omega) p6
  obtain ⟨n1, n2⟩ := mul_bd (a := bx - ax) (b := y - ay * t) (A := 65536) (B := 68719476736) (by omega) (by omega) (by omega) (by omega)
  obtain ⟨n3, n4⟩ := mul_bd (a := bY - ay) (b := x - ax * t) (A := 65536) (B := 68719476736) (by omega) (by omega) (by omega) (by omega)
  have w1 : wrap64 (ax * t) = ax * t := w64 (by omega) (by omega)
  have w2 : wrap64 (ay * t) = ay * t := w64 (by omega) (by omega)
  have w3 : wrap64 ((bx - ax) * (y - ay * t)) = (bx - ax) * (y - ay * t) := w64 (by omega) (by omega)
  have w4 : wrap64 ((bY - ay) * (x - ax * t)) = (bY - ay) * (x - ax * t) := w64 (by omega) (by omega)
  have w5 : wrap64 (x - ax * t) = x - ax * t := w64 (by omega) (by omega)
  have w6 : wrap64 (y - ay * t) = y - ay * t := w64 (by omega) (by omega)
  have w7 : wrap64 ((bx - ax) * (y - ay * t) - (bY - ay) * (x - ax * t)) = (bx - ax) * (y - ay * t) - (bY - ay) * (x - ax * t) := w64 (by omega) (by omega)
  go_enter Tryz.func233, Tryz.ntmps233
  go_wp2_with (go_at_call 253; refine (sign_any _ _).mono ?_; rintro e w1 ⟨rfl, rfl⟩)
  go_ret
  exact ⟨rfl, ((Up.refl _).alloc _).alloc _⟩
end Go.Proofs.YtcclepohmhdpbaaGreatDoor
