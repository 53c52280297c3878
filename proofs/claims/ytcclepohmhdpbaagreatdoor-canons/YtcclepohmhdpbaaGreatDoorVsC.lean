import Derived.Test.YtcclepohmhdpbaaGreatDoorRfB
import Derived.Test.YtcclepohmhdpbaaGreatDoorPnA
/- GEOMETRY, PLAINLY: a segment between two points, and how often a ring crosses it. -/
namespace Go.Proofs.YtcclepohmhdpbaaGreatDoor
set_option linter.all false
namespace Vd
theorem pp {x y : Int} (hx : 0 < x) (hy : 0 < y) : 0 < x * y := Int.mul_pos hx hy
theorem pn {x y : Int} (hx : 0 < x) (hy : y < 0) : x * y < 0 := Int.mul_neg_of_pos_of_neg hx hy
theorem np {x y : Int} (hx : x < 0) (hy : 0 < y) : x * y < 0 := Int.mul_neg_of_neg_of_pos hx hy
theorem nng {x y : Int} (hx : x < 0) (hy : y < 0) : 0 < x * y := Int.mul_pos_of_neg_of_neg hx hy
theorem p0 {x y : Int} (hx : 0 ≤ x) (hy : 0 ≤ y) : 0 ≤ x * y := Int.mul_nonneg hx hy
theorem m0 {x y : Int} (hx : 0 ≤ x) (hy : y ≤ 0) : x * y ≤ 0 := Int.mul_nonpos_of_nonneg_of_nonpos hx hy
theorem n0 {x y : Int} (hx : x ≤ 0) (hy : 0 ≤ y) : x * y ≤ 0 := Int.mul_nonpos_of_nonpos_of_nonneg hx hy
theorem q0 {x y : Int} (hx : x ≤ 0) (hy : y ≤ 0) : 0 ≤ x * y := Int.mul_nonneg_of_nonpos_of_nonpos hx hy
theorem sgn_of {u P z : Int} (hu : 0 < u) (e : u * P = z) : (0 < P ↔ 0 < z) ∧ (P < 0 ↔ z < 0) ∧ (P = 0 ↔ z = 0) := by
  rcases Int.lt_trichotomy P 0 with h | h | h
  · have := pn hu h; omega
  · have : u * P = 0 := by rw [h]; simp
    omega
  · have := pp hu h; omega
def Opp (A B : Int) : Prop := (A < 0 ∧ 0 < B) ∨ (0 < A ∧ B < 0)
instance (A B : Int) : Decidable (Opp A B) := by unfold Opp; infer_instance
theorem opp_symm {A B : Int} : Opp A B ↔ Opp B A := by unfold Opp; omega
theorem opp_neg {A B : Int} : Opp (-A) (-B) ↔ Opp A B := by unfold Opp; omega
theorem core_le {u A B a b P Q : Int} (hu : 0 < u) (hab : a ≤ b) (e1 : u * P = B * a - A * b) (e2 : u * Q = B * (a - u) - A * (b - u))
    (h1 : 0 < a → a ≤ u → A ≠ 0) (h2 : 0 < b → b ≤ u → B ≠ 0) (h3 : (a ≤ 0 ∧ 0 < b) ∨ (b ≤ 0 ∧ 0 < a) → P ≠ 0) (h4 : (a ≤ u ∧ u < b) ∨ (b ≤ u ∧ u < a) → Q ≠ 0)
    (h5 : a = u → b = u → ¬ Opp A B) :
    (((a ≤ 0 ∧ 0 < b ∧ 0 < P) ∨ (b ≤ 0 ∧ 0 < a ∧ P < 0)) ↔ ((a ≤ u ∧ u < b ∧ 0 < Q) ∨ (b ≤ u ∧ u < a ∧ Q < 0))) ↔
      ¬ ((Opp A B ∧ Opp P Q) ↔ ((0 < a ∧ a ≤ u ∧ A < 0) ↔ (0 < b ∧ b ≤ u ∧ B < 0))) := by
  obtain ⟨P1, P2, P3⟩ := sgn_of hu e1
  obtain ⟨Q1, Q2, Q3⟩ := sgn_of hu e2
  clear e1 e2
  by_cases zb : b ≤ 0
  · -- both below
    have n : ¬ (Opp A B ∧ Opp P Q) := by
      rintro ⟨k | k, k2⟩
      · have := m0 (Int.le_of_lt k.2) (show a ≤ 0 by omega); have := q0 (Int.le_of_lt k.1) zb
        have := m0 (Int.le_of_lt k.2) (show a - u ≤ 0 by omega); have := q0 (Int.le_of_lt k.1) (show b - u ≤ 0 by omega)
        unfold Opp at k2; omega
      · have := q0 (Int.le_of_lt k.2) (show a ≤ 0 by omega); have := m0 (Int.le_of_lt k.1) zb
        have := q0 (Int.le_of_lt k.2) (show a - u ≤ 0 by omega); have := m0 (Int.le_of_lt k.1) (show b - u ≤ 0 by omega)
        unfold Opp at k2; omega
    simp only [n, false_iff]
    clear n h5
    constructor
    · intro _; omega
    · intro _; omega
  by_cases za : u < a
  · have n : ¬ (Opp A B ∧ Opp P Q) := by
      rintro ⟨k | k, k2⟩
      · have := p0 (Int.le_of_lt k.2) (show 0 ≤ a by omega); have := n0 (Int.le_of_lt k.1) (show 0 ≤ b by omega)
        have := p0 (Int.le_of_lt k.2) (show 0 ≤ a - u by omega); have := n0 (Int.le_of_lt k.1) (show 0 ≤ b - u by omega)
        unfold Opp at k2; omega
      · have := n0 (Int.le_of_lt k.2) (show 0 ≤ a by omega); have := p0 (Int.le_of_lt k.1) (show 0 ≤ b by omega)
        have := n0 (Int.le_of_lt k.2) (show 0 ≤ a - u by omega); have := p0 (Int.le_of_lt k.1) (show 0 ≤ b - u by omega)
        unfold Opp at k2; omega
    simp only [n, false_iff]
    clear n h5
    constructor
    · intro _; omega
    · intro _; omega
  by_cases ya : 0 < a
  · have hA := h1 ya (by omega)
    by_cases yb : b ≤ u
    · -- both between
      have hB := h2 (by omega) yb
      have d : Opp A B → Opp P Q := by
        intro k
        have k5 := fun e1 e2 => h5 e1 e2 k
        rcases k with k | k
        · have := pp k.2 ya; have := np k.1 (show 0 < b by omega)
          have : 0 < P := P1.2 (by omega)
          rcases Int.lt_or_eq_of_le (show a ≤ u by omega) with g | g
          · have := pn k.2 (show a - u < 0 by omega); have := q0 (Int.le_of_lt k.1) (show b - u ≤ 0 by omega)
            have : Q < 0 := Q2.2 (by omega)
            unfold Opp; omega
          · exact absurd (show b = u by omega) (k5 g)
        · have := np k.2 ya; have := pp k.1 (show 0 < b by omega)
          have : P < 0 := P2.2 (by omega)
          rcases Int.lt_or_eq_of_le (show a ≤ u by omega) with g | g
          · have := nng k.2 (show a - u < 0 by omega); have := m0 (Int.le_of_lt k.1) (show b - u ≤ 0 by omega)
            have : 0 < Q := Q1.2 (by omega)
            unfold Opp; omega
          · exact absurd (show b = u by omega) (k5 g)
      have e : (Opp A B ∧ Opp P Q) ↔ Opp A B := ⟨fun k => k.1, fun k => ⟨k, d k⟩⟩
      rw [e]
      clear d e h5 P1 P2 P3 Q1 Q2 Q3 h3 h4
      unfold Opp
      omega
    · -- a between, b above
      have hQ := h4 (by omega)
      have e : (Opp A B ∧ Opp P Q) ↔ ((A < 0 ∧ Q < 0) ∨ (0 < A ∧ 0 < Q)) := by
        rcases Int.lt_or_gt_of_ne hA with k | k
        · have t1 := np k (show 0 < b by omega)
          have t2 := np k (show 0 < b - u by omega)
          constructor
          · rintro ⟨o1 | o1, o2⟩
            · have := pp o1.2 ya
              have : 0 < P := P1.2 (by omega)
              unfold Opp at o2; omega
            · omega
          · intro o
            have hq : Q < 0 := by omega
            have hB : 0 < B := by
              rcases Int.lt_or_le 0 B with g | g
              · exact g
              · have := q0 g (show a - u ≤ 0 by omega)
                have := Q2.1 hq; omega
            have := pp hB ya
            have : 0 < P := P1.2 (by omega)
            unfold Opp; omega
        · have t1 := pp k (show 0 < b by omega)
          have t2 := pp k (show 0 < b - u by omega)
          constructor
          · rintro ⟨o1 | o1, o2⟩
            · omega
            · have := np o1.2 ya
              have : P < 0 := P2.2 (by omega)
              unfold Opp at o2; omega
          · intro o
            have hq : 0 < Q := by omega
            have hB : B < 0 := by
              rcases Int.lt_or_le B 0 with g | g
              · exact g
              · have := m0 g (show a - u ≤ 0 by omega)
                have := Q1.1 hq; omega
            have := np hB ya
            have : P < 0 := P2.2 (by omega)
            unfold Opp; omega
      rw [e]
      clear e h5 P1 P2 P3 Q1 Q2 Q3 h3 h4
      omega
  · by_cases yb : b ≤ u
    · -- a below, b between
      have hB := h2 (by omega) yb
      have hP := h3 (by omega)
      have e : (Opp A B ∧ Opp P Q) ↔ ((B < 0 ∧ P < 0) ∨ (0 < B ∧ 0 < P)) := by
        rcases Int.lt_or_gt_of_ne hB with k | k
        · have t1 := q0 (Int.le_of_lt k) (show a ≤ 0 by omega)
          have t2 := nng k (show a - u < 0 by omega)
          constructor
          · rintro ⟨o1 | o1, o2⟩
            · omega
            · have := m0 (Int.le_of_lt o1.1) (show b - u ≤ 0 by omega)
              have : 0 < Q := Q1.2 (by omega)
              unfold Opp at o2; omega
          · intro o
            have hp : P < 0 := by omega
            have hA : 0 < A := by
              rcases Int.lt_or_le 0 A with g | g
              · exact g
              · have := n0 g (show 0 ≤ b by omega)
                have := P2.1 hp; omega
            have := m0 (Int.le_of_lt hA) (show b - u ≤ 0 by omega)
            have : 0 < Q := Q1.2 (by omega)
            unfold Opp; omega
        · have t1 := m0 (Int.le_of_lt k) (show a ≤ 0 by omega)
          have t2 := pn k (show a - u < 0 by omega)
          constructor
          · rintro ⟨o1 | o1, o2⟩
            · have := q0 (Int.le_of_lt o1.1) (show b - u ≤ 0 by omega)
              have : Q < 0 := Q2.2 (by omega)
              unfold Opp at o2; omega
            · omega
          · intro o
            have hp : 0 < P := by omega
            have hA : A < 0 := by
              rcases Int.lt_or_le A 0 with g | g
              · exact g
              · have := p0 g (show 0 ≤ b by omega)
                have := P1.1 hp; omega
            have := q0 (Int.le_of_lt hA) (show b - u ≤ 0 by omega)
            have : Q < 0 := Q2.2 (by omega)
            unfold Opp; omega
      rw [e]
      clear e h5 P1 P2 P3 Q1 Q2 Q3 h3 h4
      omega
    · -- a below, b above
      have hP := h3 (by omega)
      have hQ := h4 (by omega)
      have d : Opp P Q → Opp A B := by
        rintro (k | k)
        · have f1 := P2.1 k.1
          have f2 := Q1.1 k.2
          have hA : 0 < A := by
            rcases Int.lt_or_le 0 A with g | g
            · exact g
            · have := n0 g (show 0 ≤ b by omega)
              have hB : 0 < B := by
                rcases Int.lt_or_le 0 B with g2 | g2
                · exact g2
                · have := q0 g2 (show a ≤ 0 by omega); omega
              have := m0 (Int.le_of_lt hB) (show a - u ≤ 0 by omega)
              have : B * a - B * (a - u) = B * u := by rw [← Int.mul_sub]; congr 1; omega
              have : A * b - A * (b - u) = A * u := by rw [← Int.mul_sub]; congr 1; omega
              have := pp hB hu
              have := n0 g (Int.le_of_lt hu)
              omega
          have := pp hA (show 0 < b by omega)
          have := pp hA (show 0 < b - u by omega)
          have hB : B < 0 := by
            rcases Int.lt_or_le B 0 with g2 | g2
            · exact g2
            · have := m0 g2 (show a - u ≤ 0 by omega); omega
          exact .inr ⟨hA, hB⟩
        · have f1 := P1.1 k.1
          have f2 := Q2.1 k.2
          have hA : A < 0 := by
            rcases Int.lt_or_le A 0 with g | g
            · exact g
            · have := p0 g (show 0 ≤ b by omega)
              have hB : B < 0 := by
                rcases Int.lt_or_le B 0 with g2 | g2
                · exact g2
                · have := m0 g2 (show a ≤ 0 by omega); omega
              have := q0 (Int.le_of_lt hB) (show a - u ≤ 0 by omega)
              have : B * a - B * (a - u) = B * u := by rw [← Int.mul_sub]; congr 1; omega
              have : A * b - A * (b - u) = A * u := by rw [← Int.mul_sub]; congr 1; omega
              have := np hB hu
              have := p0 g (Int.le_of_lt hu)
              omega
          have := np hA (show 0 < b by omega)
          have := np hA (show 0 < b - u by omega)
          have hB : 0 < B := by
            rcases Int.lt_or_le 0 B with g2 | g2
            · exact g2
            · have := q0 g2 (show a - u ≤ 0 by omega); omega
          exact .inl ⟨hA, hB⟩
      have e : (Opp A B ∧ Opp P Q) ↔ Opp P Q := ⟨fun k => k.2, fun k => ⟨d k, k⟩⟩
      rw [e]
      clear d e h5 P1 P2 P3 Q1 Q2 Q3 h3 h4 h1 h2
      unfold Opp
      omega
theorem core_x {u A B a b P Q : Int} (hu : 0 < u) (e1 : u * P = B * a - A * b) (e2 : u * Q = B * (a - u) - A * (b - u))
    (h1 : 0 < a → a ≤ u → A ≠ 0) (h2 : 0 < b → b ≤ u → B ≠ 0) (h3 : (a ≤ 0 ∧ 0 < b) ∨ (b ≤ 0 ∧ 0 < a) → P ≠ 0) (h4 : (a ≤ u ∧ u < b) ∨ (b ≤ u ∧ u < a) → Q ≠ 0)
    (h5 : a = u → b = u → ¬ Opp A B) :
    (((a ≤ 0 ∧ 0 < b ∧ 0 < P) ∨ (b ≤ 0 ∧ 0 < a ∧ P < 0)) ↔ ((a ≤ u ∧ u < b ∧ 0 < Q) ∨ (b ≤ u ∧ u < a ∧ Q < 0))) ↔
      ¬ ((Opp A B ∧ Opp P Q) ↔ ((0 < a ∧ a ≤ u ∧ A < 0) ↔ (0 < b ∧ b ≤ u ∧ B < 0))) := by
  rcases Int.le_total a b with h | h
  · exact core_le hu h e1 e2 h1 h2 h3 h4 h5
  · have := core_le (P := -P) (Q := -Q) (A := B) (B := A) hu h (by rw [Int.mul_neg, e1]; omega) (by rw [Int.mul_neg, e2]; omega) h2 h1
      (fun k => by have := h3 (by omega); omega) (fun k => by have := h4 (by omega); omega) (fun k1 k2 o => h5 k2 k1 (opp_symm.1 o))
    rw [opp_symm (A := B), opp_neg] at this
    have t1 : ((a ≤ 0 ∧ 0 < b ∧ 0 < P) ∨ (b ≤ 0 ∧ 0 < a ∧ P < 0)) ↔ ((b ≤ 0 ∧ 0 < a ∧ 0 < -P) ∨ (a ≤ 0 ∧ 0 < b ∧ -P < 0)) := by omega
    have t2 : ((a ≤ u ∧ u < b ∧ 0 < Q) ∨ (b ≤ u ∧ u < a ∧ Q < 0)) ↔ ((b ≤ u ∧ u < a ∧ 0 < -Q) ∨ (a ≤ u ∧ u < b ∧ -Q < 0)) := by omega
    rw [t1, t2, this, iff_comm (a := (0 < b ∧ b ≤ u ∧ B < 0))]
end Vd
end Go.Proofs.YtcclepohmhdpbaaGreatDoor

/- GEOMETRY, PLAINLY: an edge, and two points: rays against crossings. -/
namespace Go.Proofs.YtcclepohmhdpbaaGreatDoor
set_option linter.all false
namespace Vd
/-- The segment from p to q is crossed by the one from a to b, within both. -/
def Xs (p q a b : Pnt) : Prop := Opp (cr p q a 1) (cr p q b 1) ∧ Opp (cr a b p 1) (cr a b q 1)
instance (p q a b : Pnt) : Decidable (Xs p q a b) := by unfold Xs; infer_instance
def dR (p q v : Pnt) : Bool := decide (p.2 < v.2 ∧ v.2 ≤ q.2 ∧ cr p q v 1 < 0)
theorem ray_one (a b p : Pnt) : ray a b p 1 = decide ((a.2 - p.2 ≤ 0 ∧ 0 < b.2 - p.2 ∧ 0 < cr a b p 1) ∨ (b.2 - p.2 ≤ 0 ∧ 0 < a.2 - p.2 ∧ cr a b p 1 < 0)) := by
  unfold ray
  simp only [Int.mul_one, sg_pos, sg_neg]
  by_cases h1 : a.2 > p.2 <;> by_cases h2 : b.2 > p.2
  · rw [if_pos (by simp [h1, h2])]; symm; exact decide_eq_false (by omega)
  · rw [if_neg (by simp [h1, h2]), if_neg h2]; exact decide_eq_decide.2 (by omega)
  · rw [if_neg (by simp [h1, h2]), if_pos h2]; exact decide_eq_decide.2 (by omega)
  · rw [if_pos (by simp [h1, h2])]; symm; exact decide_eq_false (by omega)
/-- On a line, what lies between by height lies between by width. -/
theorem line_btw {u U x al : Int} (hu : 0 < u) (h0 : 0 ≤ al) (h1 : al ≤ u) (e : U * al = u * x) : btw 0 x U := by
  rcases Int.le_total 0 U with g | g
  · left
    have k1 := p0 g h0
    have k2 : U * al ≤ U * u := Int.mul_le_mul_of_nonneg_left h1 g
    rw [e] at k1 k2
    refine ⟨Int.nonneg_of_mul_nonneg_right k1 hu, ?_⟩
    rw [Int.mul_comm U u] at k2
    exact Int.le_of_mul_le_mul_left k2 hu
  · right
    have k1 := n0 g h0
    have k2 : U * u ≤ U * al := Int.mul_le_mul_of_nonpos_left g h1
    rw [e] at k1 k2
    rw [Int.mul_comm U u] at k2
    refine ⟨Int.le_of_mul_le_mul_left k2 hu, ?_⟩
    rcases Int.lt_or_le 0 x with g2 | g2
    · have := pp hu g2; omega
    · exact g2
/-- On the line from a to b, between their heights: on the segment. -/
theorem has_line_y {a b p : Pnt} (h0 : cr a b p 1 = 0) (h : (a.2 ≤ p.2 ∧ p.2 ≤ b.2 ∧ a.2 < b.2) ∨ (b.2 ≤ p.2 ∧ p.2 ≤ a.2 ∧ b.2 < a.2)) : has a b p 1 := by
  refine ⟨h0, ?_, by unfold btw; omega⟩
  unfold cr at h0
  rcases h with ⟨h1, h2, h3⟩ | ⟨h1, h2, h3⟩
  · have := line_btw (u := b.2 - a.2) (U := b.1 - a.1) (x := p.1 - a.1) (al := p.2 - a.2) (by omega) (by omega) (by omega) (by simp only [Int.mul_one] at h0; omega)
    unfold btw at *; omega
  · have := line_btw (u := a.2 - b.2) (U := b.1 - a.1) (x := p.1 - a.1) (al := a.2 - p.2) (by omega) (by omega) (by omega) (by
      simp only [Int.mul_one] at h0
      have e1 : (b.1 - a.1) * (a.2 - p.2) = - ((b.1 - a.1) * (p.2 - a.2)) := by grind
      have e2 : (a.2 - b.2) * (p.1 - a.1) = - ((b.2 - a.2) * (p.1 - a.1)) := by grind
      omega)
    unfold btw at *; omega
theorem cr_flat {p q a : Pnt} (h : a.2 = q.2) : cr p q a 1 = (q.2 - p.2) * (q.1 - a.1) := by unfold cr; rw [h]; grind
theorem bxor_of {r1 r2 x d1 d2 : Prop} [Decidable r1] [Decidable r2] [Decidable x] [Decidable d1] [Decidable d2] (h : (r1 ↔ r2) ↔ ¬ (x ↔ (d1 ↔ d2))) : (decide r1 ^^ decide r2) = (decide x ^^ (decide d1 ^^ decide d2)) := by
  by_cases c1 : r1 <;> by_cases c2 : r2 <;> by_cases c3 : x <;> by_cases c4 : d1 <;> by_cases c5 : d2 <;> simp_all
theorem edge_up {p q a b : Pnt} (hpq : p.2 < q.2) (ha : ¬ has p q a 1) (hb : ¬ has p q b 1) (hp : ¬ has a b p 1) (hq : ¬ has a b q 1) :
    (ray a b p 1 ^^ ray a b q 1) = (decide (Xs p q a b) ^^ (dR p q a ^^ dR p q b)) := by
  have key := core_x (u := q.2 - p.2) (A := cr p q a 1) (B := cr p q b 1) (a := a.2 - p.2) (b := b.2 - p.2) (P := cr a b p 1) (Q := cr a b q 1) (by omega)
    (by unfold cr; grind) (by unfold cr; grind)
    (fun h1 h2 e => ha (has_line_y e (by omega))) (fun h1 h2 e => hb (has_line_y e (by omega)))
    (fun h e => hp (has_line_y e (by omega))) (fun h e => hq (has_line_y e (by omega)))
    (fun h1 h2 o => hq (by
      have e1 := cr_flat (p := p) (q := q) (a := a) (by omega)
      have e2 := cr_flat (p := p) (q := q) (a := b) (by omega)
      rw [e1, e2] at o
      have s1 := sgn_of (u := q.2 - p.2) (P := q.1 - a.1) (by omega) rfl
      have s2 := sgn_of (u := q.2 - p.2) (P := q.1 - b.1) (by omega) rfl
      refine ⟨?_, ?_, by unfold btw; omega⟩
      · unfold cr; rw [show b.2 - a.2 = 0 by omega, show q.2 - a.2 * 1 = 0 by omega]; simp
      · unfold Opp at o; unfold btw; omega))
  rw [ray_one, ray_one]
  have t : ((a.2 - q.2 ≤ 0 ∧ 0 < b.2 - q.2 ∧ 0 < cr a b q 1) ∨ (b.2 - q.2 ≤ 0 ∧ 0 < a.2 - q.2 ∧ cr a b q 1 < 0)) ↔ ((a.2 - p.2 ≤ q.2 - p.2 ∧ q.2 - p.2 < b.2 - p.2 ∧ 0 < cr a b q 1) ∨ (b.2 - p.2 ≤ q.2 - p.2 ∧ q.2 - p.2 < a.2 - p.2 ∧ cr a b q 1 < 0)) := by omega
  have t1 : (p.2 < a.2 ∧ a.2 ≤ q.2 ∧ cr p q a 1 < 0) ↔ (0 < a.2 - p.2 ∧ a.2 - p.2 ≤ q.2 - p.2 ∧ cr p q a 1 < 0) := by omega
  have t2 : (p.2 < b.2 ∧ b.2 ≤ q.2 ∧ cr p q b 1 < 0) ↔ (0 < b.2 - p.2 ∧ b.2 - p.2 ≤ q.2 - p.2 ∧ cr p q b 1 < 0) := by omega
  unfold dR
  rw [decide_eq_decide.2 t, decide_eq_decide.2 t1, decide_eq_decide.2 t2]
  exact bxor_of key
theorem edge_flat {p q a b : Pnt} (hpq : p.2 = q.2) (ha : ¬ has p q a 1) (hb : ¬ has p q b 1) (hp : ¬ has a b p 1) (hq : ¬ has a b q 1) :
    (ray a b p 1 ^^ ray a b q 1) = decide (Xs p q a b) := by
  have eA : cr p q a 1 = (q.1 - p.1) * (a.2 - p.2) := by unfold cr; rw [hpq]; grind
  have eB : cr p q b 1 = (q.1 - p.1) * (b.2 - p.2) := by unfold cr; rw [hpq]; grind
  rw [ray_one, ray_one]
  unfold Xs
  have hP : (a.2 - p.2 ≤ 0 ∧ 0 < b.2 - p.2) ∨ (b.2 - p.2 ≤ 0 ∧ 0 < a.2 - p.2) → cr a b p 1 ≠ 0 := fun h e => hp (has_line_y e (by omega))
  have hQ : (a.2 - p.2 ≤ 0 ∧ 0 < b.2 - p.2) ∨ (b.2 - p.2 ≤ 0 ∧ 0 < a.2 - p.2) → cr a b q 1 ≠ 0 := fun h e => hq (has_line_y e (by omega))
  have key : Opp (cr a b p 1) (cr a b q 1) → ((a.2 - p.2 ≤ 0 ∧ 0 < b.2 - p.2) ∨ (b.2 - p.2 ≤ 0 ∧ 0 < a.2 - p.2)) → Opp (cr p q a 1) (cr p q b 1) := by
    intro o h
    have hne : q.1 - p.1 ≠ 0 := by
      intro e
      have : p = q := Prod.ext (by omega) hpq
      rw [this] at o; unfold Opp at o; omega
    -- neither end is at the height of p
    have ia : a.2 ≠ p.2 := by
      intro e
      have f1 : cr a b p 1 = - ((b.2 - a.2) * (p.1 - a.1)) := by unfold cr; rw [e]; grind
      have f2 : cr a b q 1 = - ((b.2 - a.2) * (q.1 - a.1)) := by unfold cr; rw [e, hpq]; grind
      have s1 := sgn_of (u := b.2 - a.2) (P := p.1 - a.1) (by omega) rfl
      have s2 := sgn_of (u := b.2 - a.2) (P := q.1 - a.1) (by omega) rfl
      rw [f1, f2] at o
      refine ha ⟨by rw [eA, e]; simp, ?_, by unfold btw; omega⟩
      unfold Opp at o; unfold btw; omega
    have ib : b.2 ≠ p.2 := by
      intro e
      have f1 : cr a b p 1 = - ((a.2 - b.2) * (b.1 - p.1)) := by unfold cr; rw [e]; grind
      have f2 : cr a b q 1 = - ((a.2 - b.2) * (b.1 - q.1)) := by unfold cr; rw [e, hpq]; grind
      have s1 := sgn_of (u := a.2 - b.2) (P := b.1 - p.1) (by omega) rfl
      have s2 := sgn_of (u := a.2 - b.2) (P := b.1 - q.1) (by omega) rfl
      rw [f1, f2] at o
      refine hb ⟨by rw [eB, e]; simp, ?_, by unfold btw; omega⟩
      unfold Opp at o; unfold btw; omega
    rw [eA, eB]
    have m1 := Int.lt_or_gt_of_ne hne
    rcases m1 with m | m <;> rcases h with h | h
    · exact .inr ⟨nng m (by omega), np m (by omega)⟩
    · exact .inl ⟨np m (by omega), nng m (by omega)⟩
    · exact .inl ⟨pn m (by omega), pp m (by omega)⟩
    · exact .inr ⟨pp m (by omega), pn m (by omega)⟩
  have back : Opp (cr p q a 1) (cr p q b 1) → ((a.2 - p.2 ≤ 0 ∧ 0 < b.2 - p.2) ∨ (b.2 - p.2 ≤ 0 ∧ 0 < a.2 - p.2)) := by
    intro o
    rw [eA, eB] at o
    rcases Int.lt_trichotomy (q.1 - p.1) 0 with m | m | m
    · have s1 := sgn_of (u := -(q.1 - p.1)) (P := a.2 - p.2) (by omega) rfl
      have s2 := sgn_of (u := -(q.1 - p.1)) (P := b.2 - p.2) (by omega) rfl
      rw [Int.neg_mul] at s1 s2
      unfold Opp at o; omega
    · rw [m] at o; unfold Opp at o; simp at o
    · have s1 := sgn_of (u := q.1 - p.1) (P := a.2 - p.2) (by omega) rfl
      have s2 := sgn_of (u := q.1 - p.1) (P := b.2 - p.2) (by omega) rfl
      unfold Opp at o; omega
  have k := bxor_of (r1 := (a.2 - p.2 ≤ 0 ∧ 0 < b.2 - p.2 ∧ 0 < cr a b p 1) ∨ (b.2 - p.2 ≤ 0 ∧ 0 < a.2 - p.2 ∧ cr a b p 1 < 0)) (r2 := (a.2 - q.2 ≤ 0 ∧ 0 < b.2 - q.2 ∧ 0 < cr a b q 1) ∨ (b.2 - q.2 ≤ 0 ∧ 0 < a.2 - q.2 ∧ cr a b q 1 < 0))
    (x := Opp (cr p q a 1) (cr p q b 1) ∧ Opp (cr a b p 1) (cr a b q 1)) (d1 := False) (d2 := False) (by
      by_cases h : (a.2 - p.2 ≤ 0 ∧ 0 < b.2 - p.2) ∨ (b.2 - p.2 ≤ 0 ∧ 0 < a.2 - p.2)
      · have g1 := hP h
        have g2 := hQ h
        have g3 := fun o => key o h
        have e : (Opp (cr p q a 1) (cr p q b 1) ∧ Opp (cr a b p 1) (cr a b q 1)) ↔ Opp (cr a b p 1) (cr a b q 1) := ⟨fun x => x.2, fun x => ⟨g3 x, x⟩⟩
        rw [e]
        clear e g3 key back hP hQ eA eB
        simp only [iff_self, iff_true]
        unfold Opp
        omega
      · have e : ¬ (Opp (cr p q a 1) (cr p q b 1) ∧ Opp (cr a b p 1) (cr a b q 1)) := fun x => h (back x.1)
        have r1 : ¬ ((a.2 - p.2 ≤ 0 ∧ 0 < b.2 - p.2 ∧ 0 < cr a b p 1) ∨ (b.2 - p.2 ≤ 0 ∧ 0 < a.2 - p.2 ∧ cr a b p 1 < 0)) := by omega
        have r2 : ¬ ((a.2 - q.2 ≤ 0 ∧ 0 < b.2 - q.2 ∧ 0 < cr a b q 1) ∨ (b.2 - q.2 ≤ 0 ∧ 0 < a.2 - q.2 ∧ cr a b q 1 < 0)) := by omega
        simp only [e, r1, r2]
        simp)
  rw [k]
  rw [show (decide False ^^ decide False) = false from rfl, Bool.xor_false]
theorem xs_swap {p q a b : Pnt} : Xs q p a b ↔ Xs p q a b := by
  unfold Xs
  rw [cr_swap p q a 1, cr_swap p q b 1, opp_neg, opp_symm (A := cr a b q 1)]
/-- From a ring's fold: the bits that run round. -/
def dRs (p q v : Pnt) : Bool := if p.2 < q.2 then dR p q v else if q.2 < p.2 then dR q p v else false
theorem edge_any {p q a b : Pnt} (ha : ¬ has p q a 1) (hb : ¬ has p q b 1) (hp : ¬ has a b p 1) (hq : ¬ has a b q 1) :
    (ray a b p 1 ^^ ray a b q 1) = (decide (Xs p q a b) ^^ (dRs p q a ^^ dRs p q b)) := by
  unfold dRs
  rcases Int.lt_trichotomy p.2 q.2 with h | h | h
  · rw [if_pos h, if_pos h]; exact edge_up h ha hb hp hq
  · rw [if_neg (by omega), if_neg (by omega), if_neg (by omega), if_neg (by omega), edge_flat h ha hb hp hq]; simp
  · rw [if_neg (by omega), if_pos h, if_neg (by omega), if_pos h]
    rw [Bool.xor_comm, edge_up h (fun k => ha (has_swap.1 k)) (fun k => hb (has_swap.1 k)) hq hp, decide_eq_decide.2 xs_swap]
end Vd
end Go.Proofs.YtcclepohmhdpbaaGreatDoor

/- GEOMETRY, PLAINLY: a ring, and two points. -/
namespace Go.Proofs.YtcclepohmhdpbaaGreatDoor
set_option linter.all false
namespace Vd
def raysS (l : List Seg) (p : Spot) : Bool := l.foldr (fun s b => ray s.1 s.2 p.1 p.2 ^^ b) false
def xsL (l : List Seg) (p q : Pnt) : Bool := l.foldr (fun s b => decide (Xs p q s.1 s.2) ^^ b) false
theorem raysS_cons (s : Seg) (l : List Seg) (p : Spot) : raysS (s :: l) p = (ray s.1 s.2 p.1 p.2 ^^ raysS l p) := rfl
theorem xsL_cons (s : Seg) (l : List Seg) (p q : Pnt) : xsL (s :: l) p q = (decide (Xs p q s.1 s.2) ^^ xsL l p q) := rfl
theorem raysS_append (a b : List Seg) (p : Spot) : raysS (a ++ b) p = (raysS a p ^^ raysS b p) := by
  induction a with
  | nil => simp [raysS]
  | cons s a ih => rw [List.cons_append, raysS_cons, raysS_cons, ih, Bool.xor_assoc]
theorem xsL_append (a b : List Seg) (p q : Pnt) : xsL (a ++ b) p q = (xsL a p q ^^ xsL b p q) := by
  induction a with
  | nil => simp [xsL]
  | cons s a ih => rw [List.cons_append, xsL_cons, xsL_cons, ih, Bool.xor_assoc]
theorem segs_cons2 (a b : Pnt) (t : Ring) : segs (a :: b :: t) = (a, b) :: segs (b :: t) := rfl
theorem segs_one (a : Pnt) : segs [a] = [] := rfl
/-- No end of the one lies on the other. -/
structure Off (p q a b : Pnt) : Prop where
  ha : ¬ has p q a 1
  hb : ¬ has p q b 1
  hp : ¬ has a b p 1
  hq : ¬ has a b q 1
theorem rays_chain (p q : Pnt) : ∀ (t : Ring) (a : Pnt), (∀ s ∈ segs (a :: t), Off p q s.1 s.2) →
    (raysS (segs (a :: t)) (p, 1) ^^ raysS (segs (a :: t)) (q, 1)) = (xsL (segs (a :: t)) p q ^^ (dRs p q a ^^ dRs p q ((a :: t).getLast (by simp)))) := by
  intro t
  induction t with
  | nil => intro a _; simp [segs_one, raysS, xsL]
  | cons b t ih =>
    intro a h
    rw [segs_cons2] at h
    have h1 := h (a, b) (by simp)
    have k := ih b fun s hs => h s (by simp [hs])
    have e := edge_any h1.ha h1.hb h1.hp h1.hq
    rw [segs_cons2, raysS_cons, raysS_cons, xsL_cons, List.getLast_cons (by simp)]
    simp only at e ⊢
    revert e k
    generalize ray a b p 1 = x1
    generalize ray a b q 1 = x2
    generalize raysS (segs (b :: t)) (p, 1) = x3
    generalize raysS (segs (b :: t)) (q, 1) = x4
    generalize xsL (segs (b :: t)) p q = x5
    generalize decide (Xs p q a b) = x6
    generalize dRs p q a = x7
    generalize dRs p q b = x8
    generalize dRs p q ((b :: t).getLast (by simp)) = x9
    revert x1 x2 x3 x4 x5 x6 x7 x8 x9
    decide
/-- A ring that is shut. -/
def Ends (r : Ring) : Prop := r.head? = r.getLast?
theorem shut_ends {r : Ring} (h : Shut r) : Ends r := by
  have h4 := h.len
  unfold Ends
  rw [List.head?_eq_getElem?, List.getLast?_eq_getElem?, ptAt_get (by omega), ptAt_get (by omega), h.eq]
theorem rays_ring {r : Ring} (hr : Ends r) {p q : Pnt} (h : ∀ s ∈ segs r, Off p q s.1 s.2) : (raysS (segs r) (p, 1) ^^ raysS (segs r) (q, 1)) = xsL (segs r) p q := by
  cases r with
  | nil => rfl
  | cons a t =>
    have k := rays_chain p q t a h
    have e : a = (a :: t).getLast (by simp) := by
      unfold Ends at hr
      rw [List.getLast?_eq_some_getLast (by simp)] at hr
      simpa using hr
    rw [k, ← e]; simp
theorem placeL_rays : ∀ (l : List Seg) (i : Bool) (p : Spot), (∀ s ∈ l, ¬ has s.1 s.2 p.1 p.2) → placeL l i p = if (i ^^ raysS l p) = true then 2 else 0 := by
  intro l
  induction l with
  | nil => intro i p _; simp [placeL, raysS]
  | cons s l ih =>
    intro i p h
    have h1 := h s (by simp)
    unfold placeL
    rw [if_neg (by unfold hasB; simpa using h1), ih _ p fun t ht => h t (by simp [ht]), raysS_cons]
    cases ray s.1 s.2 p.1 p.2 <;> cases i <;> simp
theorem place_rays {r : Ring} {p : Spot} (h : ∀ s ∈ segs r, ¬ has s.1 s.2 p.1 p.2) : place r p = if raysS (segs r) p = true then 2 else 0 := by
  unfold place; rw [placeL_rays _ _ _ h]; simp
theorem xsL_none {l : List Seg} {p q : Pnt} (h : ∀ s ∈ l, ¬ Xs p q s.1 s.2) : xsL l p q = false := by
  induction l with
  | nil => rfl
  | cons s l ih => rw [xsL_cons, ih fun t ht => h t (by simp [ht]), decide_eq_false (h s (by simp))]; rfl
/-- No segment of the ring meets the way from p to q: both lie at one place. -/
theorem place_same {r : Ring} (hr : Ends r) {p q : Pnt} (h : ∀ s ∈ segs r, Off p q s.1 s.2) (hx : ∀ s ∈ segs r, ¬ Xs p q s.1 s.2) : place r (p, 1) = place r (q, 1) := by
  have k := rays_ring hr h
  rw [xsL_none hx] at k
  rw [place_rays (p := (p, 1)) fun s hs => (h s hs).hp, place_rays (p := (q, 1)) fun s hs => (h s hs).hq]
  have : raysS (segs r) (p, 1) = raysS (segs r) (q, 1) := by
    revert k
    generalize raysS (segs r) (p, 1) = x
    generalize raysS (segs r) (q, 1) = y
    cases x <;> cases y <;> simp
  rw [this]
/-- Just one segment of the ring is crossed: the places are opposite. -/
theorem place_flip {r : Ring} (hr : Ends r) {p q : Pnt} (h : ∀ s ∈ segs r, Off p q s.1 s.2) {l1 l2 : List Seg} {t : Seg} (e : segs r = l1 ++ t :: l2) (h1 : ∀ s ∈ l1, ¬ Xs p q s.1 s.2) (h2 : ∀ s ∈ l2, ¬ Xs p q s.1 s.2) (ht : Xs p q t.1 t.2) :
    (place r (p, 1) = 0 ∧ place r (q, 1) = 2) ∨ (place r (p, 1) = 2 ∧ place r (q, 1) = 0) := by
  have k := rays_ring hr h
  have ex : xsL (segs r) p q = true := by rw [e, xsL_append, xsL_cons, xsL_none h1, xsL_none h2, decide_eq_true ht]; rfl
  rw [ex] at k
  rw [place_rays (p := (p, 1)) fun s hs => (h s hs).hp, place_rays (p := (q, 1)) fun s hs => (h s hs).hq]
  revert k
  generalize raysS (segs r) (p, 1) = x
  generalize raysS (segs r) (q, 1) = y
  cases x <;> cases y <;> simp

/-! ### greater and smaller -/
def sc (k : Int) (p : Pnt) : Pnt := (k * p.1, k * p.2)
def scR (k : Int) (r : Ring) : Ring := r.map (sc k)
def scS (k : Int) (s : Seg) : Seg := (sc k s.1, sc k s.2)
theorem cr_sc (k : Int) (a b p : Pnt) (w : Int) : cr (sc k a) (sc k b) p w = k * cr a b p (k * w) := by unfold cr sc; grind
theorem sg_mul {k : Int} (hk : 0 < k) (n : Int) : sg (k * n) = sg n := by
  have s := sgn_of hk (rfl : k * n = k * n)
  rcases sg_cases n with ⟨h, e⟩ | ⟨h, e⟩ | ⟨h, e⟩ <;> rcases sg_cases (k * n) with ⟨h', e'⟩ | ⟨h', e'⟩ | ⟨h', e'⟩ <;> first | omega | (rw [e, e'])
theorem has_sc {k : Int} (hk : 0 < k) (a b p : Pnt) (w : Int) : has (sc k a) (sc k b) p w ↔ has a b p (k * w) := by
  have s := sgn_of hk (rfl : k * cr a b p (k * w) = _)
  have e : ∀ x : Int, k * x * w = x * (k * w) := fun x => by grind
  unfold has
  rw [cr_sc]
  unfold sc
  simp only [e]
  constructor
  · rintro ⟨h1, h2⟩; exact ⟨s.2.2.2 h1, h2⟩
  · rintro ⟨h1, h2⟩; exact ⟨s.2.2.1 h1, h2⟩
theorem ray_sc {k : Int} (hk : 0 < k) (a b p : Pnt) (w : Int) : ray (sc k a) (sc k b) p w = ray a b p (k * w) := by
  have e : ∀ x : Int, k * x * w = x * (k * w) := fun x => by grind
  unfold ray
  rw [cr_sc, sg_mul hk]
  unfold sc
  simp only [e]
theorem segs_sc (k : Int) (r : Ring) : segs (scR k r) = (segs r).map (scS k) := by
  unfold segs scR
  rw [← List.map_tail, List.zip_map]
  rfl
theorem placeL_sc {k : Int} (hk : 0 < k) : ∀ (l : List Seg) (i : Bool) (p : Pnt) (w : Int), placeL (l.map (scS k)) i (p, w) = placeL l i (p, k * w) := by
  intro l
  induction l with
  | nil => intro i p w; rfl
  | cons s l ih =>
    intro i p w
    rw [List.map_cons]
    unfold placeL
    have e1 : hasB (scS k s) (p, w) = hasB s (p, k * w) := decide_eq_decide.2 (has_sc hk s.1 s.2 p w)
    have e2 : ray (scS k s).1 (scS k s).2 p w = ray s.1 s.2 p (k * w) := ray_sc hk s.1 s.2 p w
    rw [e1, ih]
    simp only [e2]
theorem place_sc {k : Int} (hk : 0 < k) (r : Ring) (p : Pnt) (w : Int) : place (scR k r) (p, w) = place r (p, k * w) := by
  unfold place; rw [segs_sc, placeL_sc hk]
theorem ends_sc {k : Int} {r : Ring} (h : Ends r) : Ends (scR k r) := by
  unfold Ends scR at *; rw [List.head?_map, List.getLast?_map, h]
/-- the spot itself. -/
theorem cr_spot (k : Int) (a b p : Pnt) (w : Int) : cr a b (sc k p) (k * w) = k * cr a b p w := by unfold cr sc; grind
theorem btw_mul {k : Int} (hk : 0 < k) {a p b : Int} : btw (k * a) (k * p) (k * b) ↔ btw a p b := by
  have e1 : ∀ {x y : Int}, k * x ≤ k * y ↔ x ≤ y := fun {x y} => ⟨fun h => Int.le_of_mul_le_mul_left h hk, fun h => Int.mul_le_mul_of_nonneg_left h (by omega)⟩
  unfold btw
  simp only [e1]
theorem has_spot {k : Int} (hk : 0 < k) (a b p : Pnt) (w : Int) : has a b (sc k p) (k * w) ↔ has a b p w := by
  have s := sgn_of hk (rfl : k * cr a b p w = _)
  have e : ∀ x : Int, x * (k * w) = k * (x * w) := fun x => by grind
  unfold has
  rw [cr_spot]
  unfold sc
  simp only [e, btw_mul hk]
  constructor
  · rintro ⟨h1, h2⟩; exact ⟨s.2.2.2 h1, h2⟩
  · rintro ⟨h1, h2⟩; exact ⟨s.2.2.1 h1, h2⟩
theorem ray_spot {k : Int} (hk : 0 < k) (a b p : Pnt) (w : Int) : ray a b (sc k p) (k * w) = ray a b p w := by
  have e : ∀ x : Int, x * (k * w) = k * (x * w) := fun x => by grind
  have e1 : ∀ {x y : Int}, k * x > k * y ↔ x > y := fun {x y} => ⟨fun h => Int.lt_of_mul_lt_mul_left h (by omega), fun h => Int.mul_lt_mul_of_pos_left h hk⟩
  unfold ray
  rw [cr_spot, sg_mul hk]
  unfold sc
  simp only [e, e1]
theorem placeL_spot {k : Int} (hk : 0 < k) (p : Pnt) (w : Int) : ∀ (l : List Seg) (i : Bool), placeL l i (sc k p, k * w) = placeL l i (p, w) := by
  intro l
  induction l with
  | nil => intro i; rfl
  | cons s l ih =>
    intro i
    unfold placeL
    have e1 : hasB s (sc k p, k * w) = hasB s (p, w) := decide_eq_decide.2 (has_spot hk s.1 s.2 p w)
    rw [e1, ih]
    simp only [ray_spot hk]
theorem place_spot {k : Int} (hk : 0 < k) (r : Ring) (p : Pnt) (w : Int) : place r (sc k p, k * w) = place r (p, w) := by
  unfold place; rw [placeL_spot hk]
/-- Any spot, as a whole point beside a ring that is greater. -/
theorem place_whole {r : Ring} {p : Spot} (hp : 0 < p.2) {k : Int} (hk : 0 < k) : place r p = place (scR (k * p.2) r) (sc k p.1, 1) := by
  rw [place_sc (pp hk hp), Int.mul_one, place_spot hk]
end Vd
end Go.Proofs.YtcclepohmhdpbaaGreatDoor

/- GEOMETRY, PLAINLY: what lies on a segment lies as a middle of its parts does. -/
namespace Go.Proofs.YtcclepohmhdpbaaGreatDoor
set_option linter.all false
namespace Vd
theorem ex_max {α : Type} (f : α → Int) (P : α → Prop) : ∀ (l : List α), (∃ x ∈ l, P x) → ∃ x ∈ l, P x ∧ ∀ y ∈ l, P y → f y ≤ f x := by
  intro l
  induction l with
  | nil => rintro ⟨x, hx, _⟩; cases hx
  | cons a t ih =>
    rintro ⟨x, hx, hp⟩
    by_cases ht : ∃ y ∈ t, P y
    · obtain ⟨y, hy, py, my⟩ := ih ht
      by_cases ha : P a ∧ f y < f a
      · refine ⟨a, by simp, ha.1, fun z hz pz => ?_⟩
        rcases List.mem_cons.1 hz with rfl | hz
        · exact Int.le_refl _
        · have := my z hz pz; omega
      · refine ⟨y, by simp [hy], py, fun z hz pz => ?_⟩
        rcases List.mem_cons.1 hz with rfl | hz
        · by_cases c : f y < f z
          · exact absurd ⟨pz, c⟩ ha
          · omega
        · exact my z hz pz
    · rcases List.mem_cons.1 hx with rfl | hx
      · refine ⟨x, by simp, hp, fun z hz pz => ?_⟩
        rcases List.mem_cons.1 hz with rfl | hz
        · exact Int.le_refl _
        · exact absurd ⟨z, hz, pz⟩ ht
      · exact absurd ⟨x, hx, hp⟩ ht
theorem ex_min {α : Type} (f : α → Int) (P : α → Prop) (l : List α) (h : ∃ x ∈ l, P x) : ∃ x ∈ l, P x ∧ ∀ y ∈ l, P y → f x ≤ f y := by
  obtain ⟨x, hx, hp, m⟩ := ex_max (fun x => - f x) P l h
  exact ⟨x, hx, hp, fun y hy py => by have := m y hy py; omega⟩
/-- the cuts, as a list. -/
theorem cut_list {a b : Pnt} {l : List Pnt} {x : Pnt} : Cut a b l x ↔ x ∈ a :: b :: l ∧ (x = a ∨ x = b ∨ (x ∈ l ∧ has a b x 1)) := by
  unfold Cut
  constructor
  · intro h
    refine ⟨?_, h⟩
    rcases h with rfl | rfl | h
    · simp
    · simp
    · simp [h.1]
  · exact fun h => h.2
/-- On a line: the place along it. -/
theorem on_line {a b p : Pnt} (h0 : cr a b p 1 = 0) : kk a b * p.1 = kk a b * a.1 + pos a b p * (b.1 - a.1) ∧ kk a b * p.2 = kk a b * a.2 + pos a b p * (b.2 - a.2) := by
  unfold cr at h0; unfold pos dt kk; constructor <;> grind
theorem lin_cr {k D a1 a2 b1 b2 p1 p2 c1 c2 d1 d2 : Int} (e1 : k * p1 = k * a1 + D * (b1 - a1)) (e2 : k * p2 = k * a2 + D * (b2 - a2)) :
    k * ((d1 - c1) * (p2 - c2) - (d2 - c2) * (p1 - c1)) = (k - D) * ((d1 - c1) * (a2 - c2) - (d2 - c2) * (a1 - c1)) + D * ((d1 - c1) * (b2 - c2) - (d2 - c2) * (b1 - c1)) := by grind
theorem cr_on {a b p : Pnt} (h0 : cr a b p 1 = 0) (c d : Pnt) : kk a b * cr c d p 1 = (kk a b - pos a b p) * cr c d a 1 + pos a b p * cr c d b 1 := by
  obtain ⟨e1, e2⟩ := on_line h0
  have := lin_cr (c1 := c.1) (c2 := c.2) (d1 := d.1) (d2 := d.2) e1 e2
  unfold cr
  simpa only [Int.mul_one] using this
theorem lin_dir {k D E a1 a2 b1 b2 p1 p2 q1 q2 : Int} (e1 : k * p1 = k * a1 + D * (b1 - a1)) (e2 : k * p2 = k * a2 + D * (b2 - a2)) (f1 : k * q1 = k * a1 + E * (b1 - a1)) (f2 : k * q2 = k * a2 + E * (b2 - a2)) :
    k * (q1 - p1) = (E - D) * (b1 - a1) ∧ k * (q2 - p2) = (E - D) * (b2 - a2) := by constructor <;> grind
theorem dir_lin {a b p q : Pnt} (hp : cr a b p 1 = 0) (hq : cr a b q 1 = 0) : kk a b * (q.1 - p.1) = (pos a b q - pos a b p) * (b.1 - a.1) ∧ kk a b * (q.2 - p.2) = (pos a b q - pos a b p) * (b.2 - a.2) := by
  obtain ⟨e1, e2⟩ := on_line hp
  obtain ⟨f1, f2⟩ := on_line hq
  exact lin_dir e1 e2 f1 f2
theorem lin_cr2 {k L u1 u2 v1 v2 x1 x2 : Int} (e1 : k * v1 = L * u1) (e2 : k * v2 = L * u2) : k * (v1 * x2 - v2 * x1) = L * (u1 * x2 - u2 * x1) ∧ k * (x1 * v1 + x2 * v2) = L * (x1 * u1 + x2 * u2) := by constructor <;> grind
theorem cr_from {a b p : Pnt} (hp : cr a b p 1 = 0) (c : Pnt) : (b.1 - a.1) * (c.2 - p.2) - (b.2 - a.2) * (c.1 - p.1) = cr a b c 1 := by unfold cr at *; grind
theorem cr_dir {a b p q : Pnt} (hp : cr a b p 1 = 0) (hq : cr a b q 1 = 0) (c : Pnt) : kk a b * cr p q c 1 = (pos a b q - pos a b p) * cr a b c 1 := by
  obtain ⟨e1, e2⟩ := dir_lin hp hq
  have := (lin_cr2 (x1 := c.1 - p.1) (x2 := c.2 - p.2) e1 e2).1
  rw [cr_from hp] at this
  rw [← this]
  unfold cr; simp only [Int.mul_one]
theorem pos_from (a b p c : Pnt) : (c.1 - p.1) * (b.1 - a.1) + (c.2 - p.2) * (b.2 - a.2) = pos a b c - pos a b p := by unfold pos dt; grind
theorem dt_dir {a b p q : Pnt} (hp : cr a b p 1 = 0) (hq : cr a b q 1 = 0) (c : Pnt) : kk a b * dt p q c 1 = (pos a b q - pos a b p) * (pos a b c - pos a b p) := by
  obtain ⟨e1, e2⟩ := dir_lin hp hq
  have := (lin_cr2 (x1 := c.1 - p.1) (x2 := c.2 - p.2) e1 e2).2
  rw [pos_from a b p c] at this
  rw [← this]
  unfold dt; simp only [Int.mul_one]
theorem kk_dt (p q : Pnt) : kk p q = dt p q q 1 := by unfold kk dt; simp
theorem has_dir {a b p q c : Pnt} (hab : a ≠ b) (hpq : p ≠ q) (hp : cr a b p 1 = 0) (hq : cr a b q 1 = 0) (h : has p q c 1) : cr a b c 1 = 0 ∧ btw (pos a b p) (pos a b c) (pos a b q) := by
  have hk := kk_pos hab
  obtain ⟨h0, h1, h2⟩ := (has_on hpq (by omega)).1 h
  have hne : pos a b q - pos a b p ≠ 0 := fun e => hpq (pos_inj hab hp hq (by omega))
  have e := cr_dir hp hq c
  rw [h0, Int.mul_zero] at e
  have e1 := dt_dir hp hq c
  have e2 := dt_dir hp hq q
  rw [Int.mul_one, kk_dt] at h2
  have m1 := p0 (Int.le_of_lt hk) h1
  have m2 := Int.mul_le_mul_of_nonneg_left h2 (Int.le_of_lt hk)
  rw [e1] at m1
  rw [e1, e2] at m2
  refine ⟨?_, ?_⟩
  · rcases Int.mul_eq_zero.1 e.symm with g | g
    · exact absurd g hne
    · exact g
  · unfold btw
    rcases Int.lt_or_gt_of_ne hne with g | g
    · right
      constructor
      · rcases Int.lt_or_le (pos a b c) (pos a b q) with q' | q'
        · have := Int.mul_lt_mul_of_neg_left (show pos a b c - pos a b p < pos a b q - pos a b p by omega) g
          omega
        · exact q'
      · rcases Int.lt_or_le (pos a b p) (pos a b c) with q | q
        · have := np g (show 0 < pos a b c - pos a b p by omega); omega
        · exact q
    · left
      constructor
      · rcases Int.lt_or_le (pos a b c) (pos a b p) with q | q
        · have := pn g (show pos a b c - pos a b p < 0 by omega); omega
        · exact q
      · have := Int.le_of_mul_le_mul_left m2 g
        omega
theorem opp_comb {x y s t s' t' X Y : Int} (hs : 0 ≤ s) (ht : 0 ≤ t) (hs' : 0 ≤ s') (ht' : 0 ≤ t') {k : Int} (hk : 0 < k) (e1 : k * X = s * x + t * y) (e2 : k * Y = s' * x + t' * y) (o : Opp X Y) : Opp x y := by
  obtain ⟨P1, P2, -⟩ := sgn_of hk e1
  obtain ⟨Q1, Q2, -⟩ := sgn_of hk e2
  have both : ¬ (0 ≤ x ∧ 0 ≤ y) := by
    rintro ⟨hx, hy⟩
    have := p0 hs hx; have := p0 ht hy; have := p0 hs' hx; have := p0 ht' hy
    unfold Opp at o; omega
  have none : ¬ (x ≤ 0 ∧ y ≤ 0) := by
    rintro ⟨hx, hy⟩
    have := m0 hs hx; have := m0 ht hy; have := m0 hs' hx; have := m0 ht' hy
    unfold Opp at o; omega
  unfold Opp; omega
theorem meet_opp {a b c d : Pnt} (h1 : Opp (cr a b c 1) (cr a b d 1)) (h2 : Opp (cr c d a 1) (cr c d b 1)) : meet a b c d = 2 := by
  unfold meet Opp at *
  rcases sg_cases (cr a b c 1) with ⟨g1, k1⟩ | ⟨g1, k1⟩ | ⟨g1, k1⟩ <;> rcases sg_cases (cr a b d 1) with ⟨g2, k2⟩ | ⟨g2, k2⟩ | ⟨g2, k2⟩ <;>
  rcases sg_cases (cr c d a 1) with ⟨g3, k3⟩ | ⟨g3, k3⟩ | ⟨g3, k3⟩ <;> rcases sg_cases (cr c d b 1) with ⟨g4, k4⟩ | ⟨g4, k4⟩ | ⟨g4, k4⟩ <;>
  first | (exfalso; omega) | (simp [k1, k2, k3, k4])
theorem mulc' (x y : Int) : (x * y < 0 → (0 < x ∧ y < 0) ∨ (x < 0 ∧ 0 < y)) ∧ (0 < x * y → (0 < x ∧ 0 < y) ∨ (x < 0 ∧ y < 0)) := by
  rcases Int.lt_trichotomy x 0 with h | h | h <;> rcases Int.lt_trichotomy y 0 with k | k | k
  · have := nng h k; omega
  · rw [k]; simp
  · have := np h k; omega
  · rw [h]; simp
  · rw [h]; simp
  · rw [h]; simp
  · have := pn h k; omega
  · rw [k]; simp
  · have := pp h k; omega
/-- Two points of one line between which no vertex of the ring lies, and no segment crosses: they lie at one place. -/
theorem line_same {a b : Pnt} (hab : a ≠ b) {o : Ring} (he : Ends o) {p q : Pnt} (hp : cr a b p 1 = 0) (hq : cr a b q 1 = 0) (np : place o (p, 1) ≠ 1) (nq : place o (q, 1) ≠ 1)
    (hv : ∀ t ∈ segs o, ∀ c, c = t.1 ∨ c = t.2 → cr a b c 1 = 0 → ¬ btw (pos a b p) (pos a b c) (pos a b q))
    (hx : ∀ t ∈ segs o, ¬ (Opp (cr a b t.1 1) (cr a b t.2 1) ∧ Opp (cr t.1 t.2 p 1) (cr t.1 t.2 q 1))) : place o (p, 1) = place o (q, 1) := by
  by_cases hpq : p = q
  · rw [hpq]
  have hk := kk_pos hab
  refine place_same he (fun t ht => ⟨fun h => ?_, fun h => ?_, fun h => np (place_one.2 ⟨t, ht, h⟩), fun h => nq (place_one.2 ⟨t, ht, h⟩)⟩) (fun t ht h => ?_)
  · obtain ⟨k1, k2⟩ := has_dir hab hpq hp hq h
    exact hv t ht _ (.inl rfl) k1 k2
  · obtain ⟨k1, k2⟩ := has_dir hab hpq hp hq h
    exact hv t ht _ (.inr rfl) k1 k2
  · refine hx t ht ⟨?_, h.2⟩
    have e1 := cr_dir hp hq t.1
    have e2 := cr_dir hp hq t.2
    have s1 := sgn_of hk e1
    have s2 := sgn_of hk e2
    have o := h.1
    have m1 := mulc' (pos a b q - pos a b p) (cr a b t.1 1)
    have m2 := mulc' (pos a b q - pos a b p) (cr a b t.2 1)
    unfold Opp at o ⊢
    omega
/-- Two consecutive cuts about a point of the segment. -/
theorem cuts_about {a b p : Pnt} (hab : a ≠ b) (hp : has a b p 1) (l : List Pnt) :
    ∃ y z, Cons (pos a b) (Cut a b l) y z ∧ pos a b y ≤ pos a b p ∧ pos a b p ≤ pos a b z := by
  obtain ⟨d0, d1⟩ := pos_le hab hp
  have hk := kk_pos hab
  obtain ⟨y, hy, ⟨cy, ly, ny⟩, my⟩ := ex_max (pos a b) (fun x => Cut a b l x ∧ pos a b x ≤ pos a b p ∧ pos a b x < kk a b) (a :: b :: l) ⟨a, by simp, .inl rfl, by rw [pos_a]; exact d0, by rw [pos_a]; exact hk⟩
  obtain ⟨z, hz, ⟨cz, lz⟩, mz⟩ := ex_min (pos a b) (fun x => Cut a b l x ∧ pos a b y < pos a b x) (a :: b :: l) ⟨b, by simp, .inr (.inl rfl), by rw [pos_b]; exact ny⟩
  refine ⟨y, z, ⟨cy, cz, lz, fun c hc ⟨h1, h2⟩ => ?_⟩, ly, ?_⟩
  · have := mz c (cut_list.1 hc).1 ⟨hc, h1⟩; omega
  · rcases Int.le_total (pos a b p) (pos a b z) with g | g
    · exact g
    · by_cases e : pos a b z < kk a b
      · have := my z hz ⟨cz, g, e⟩; omega
      · have h1 := (pos_le hab (cut_has cz)).2
        omega

end Vd
end Go.Proofs.YtcclepohmhdpbaaGreatDoor

/- GEOMETRY, PLAINLY: what lies on a segment lies as a middle of its parts does. -/
namespace Go.Proofs.YtcclepohmhdpbaaGreatDoor
set_option linter.all false
namespace Vd
theorem has_pos {a b p : Pnt} (hab : a ≠ b) (h0 : cr a b p 1 = 0) (h1 : 0 ≤ pos a b p) (h2 : pos a b p ≤ kk a b) : has a b p 1 := (has_on hab (by omega)).2 ⟨h0, h1, by rw [Int.mul_one]; exact h2⟩
theorem vert_on {o : Ring} {t : Seg} (ht : t ∈ segs o) {c : Pnt} (hc : c = t.1 ∨ c = t.2) : place o (c, 1) = 1 := by
  refine place_one.2 ⟨t, ht, ?_⟩
  rcases hc with rfl | rfl
  · exact has_a _ _
  · exact has_b _ _
theorem mid_off_int {a b : Pnt} (hab : a ≠ b) {o : Ring} (hl : Long o) (hx : ∀ t ∈ segs o, crossS (a, b) t = false) {y z M : Pnt} (hc : Cons (pos a b) (Cut a b o) y z) (hM : has a b M 1) (h1 : pos a b y < pos a b M) (h2 : pos a b M < pos a b z) : place o (M, 1) ≠ 1 := by
  intro h
  obtain ⟨t, ht, hh⟩ := place_one.1 h
  simp only at hh
  obtain ⟨y0, -⟩ := pos_le hab (cut_has hc.cx)
  obtain ⟨-, z1⟩ := pos_le hab (cut_has hc.cy)
  have nocut : ¬ Cut a b o M := fun c => hc.no M c ⟨h1, h2⟩
  have nv : ∀ c, c = t.1 ∨ c = t.2 → M ≠ c := by
    rintro c hc' rfl
    have := segs_mem ht
    exact nocut (.inr (.inr ⟨by rcases hc' with e | e <;> rw [e]; exact this.1; exact this.2, hM⟩))
  have two : ∀ c : Pnt, M ≠ c → sc 2 M ≠ (c.1 * 2, c.2 * 2) := by
    intro c hne e
    unfold sc at e
    simp only [Prod.mk.injEq] at e
    exact hne (Prod.ext (by omega) (by omega))
  have i1 : Inn a b (sc 2 M) := by
    refine ⟨?_, two a ?_, two b ?_⟩
    · have := (has_spot (k := 2) (by omega) a b M 1).2 hM; simpa using this
    · rintro rfl; rw [pos_a] at h1; omega
    · rintro rfl; rw [pos_b] at h2; omega
  have i2 : Inn t.1 t.2 (sc 2 M) := by
    refine ⟨?_, two _ (nv _ (.inl rfl)), two _ (nv _ (.inr rfl))⟩
    have := (has_spot (k := 2) (by omega) t.1 t.2 M 1).2 hh; simpa using this
  have k := inn_cross hab (hl t ht) i1 i2
  have := hx t ht
  unfold crossS meetS at this
  rcases k with k | k <;> simp [k] at this
theorem on_place_int {a b : Pnt} (hab : a ≠ b) {o : Ring} (he : Ends o) (hl : Long o) (hx : ∀ t ∈ segs o, crossS (a, b) t = false) {y z p M : Pnt} (hc : Cons (pos a b) (Cut a b o) y z) (hp : has a b p 1) (p1 : pos a b y ≤ pos a b p) (p2 : pos a b p ≤ pos a b z) (hM : has a b M 1) (h1 : pos a b y < pos a b M) (h2 : pos a b M < pos a b z) (hn : place o (p, 1) ≠ 1) : place o (p, 1) = place o (M, 1) := by
  have hk := kk_pos hab
  obtain ⟨y0, -⟩ := pos_le hab (cut_has hc.cx)
  obtain ⟨-, z1⟩ := pos_le hab (cut_has hc.cy)
  obtain ⟨q0', q1⟩ := pos_le hab hp
  obtain ⟨m0', m1⟩ := pos_le hab hM
  refine line_same hab he hp.1 hM.1 hn (mid_off_int hab hl hx hc hM h1 h2) ?_ ?_
  · intro t ht c hc' hcr hb
    have hcut : Cut a b o c := by
      refine .inr (.inr ⟨?_, has_pos hab hcr (by unfold btw at hb; omega) (by unfold btw at hb; omega)⟩)
      have := segs_mem ht
      rcases hc' with e | e <;> rw [e]
      · exact this.1
      · exact this.2
    have := hc.no c hcut
    have e : pos a b c = pos a b p := by unfold btw at hb; omega
    have := pos_inj hab hcr hp.1 e
    rw [← this] at hn
    exact hn (vert_on ht hc')
  · rintro t ht ⟨o1, o2⟩
    have e1 := cr_on hp.1 t.1 t.2
    have e2 := cr_on hM.1 t.1 t.2
    have o3 := opp_comb (by omega) q0' (by omega) m0' hk e1 e2 o2
    have := hx t ht
    unfold crossS meetS at this
    rw [meet_opp o1 o3] at this
    simp at this
/-! ### scaled -/
theorem sc_inj {k : Int} (hk : 0 < k) {p q : Pnt} : sc k p = sc k q ↔ p = q := by
  constructor
  · intro h
    unfold sc at h
    simp only [Prod.mk.injEq] at h
    exact Prod.ext (Int.eq_of_mul_eq_mul_left (by omega) h.1) (Int.eq_of_mul_eq_mul_left (by omega) h.2)
  · rintro rfl; rfl
theorem bef_sc {k : Int} (hk : 0 < k) {p q : Pnt} : bef (sc k p) (sc k q) ↔ bef p q := by
  have e1 : ∀ {x y : Int}, k * x < k * y ↔ x < y := fun {x y} => ⟨fun h => Int.lt_of_mul_lt_mul_left h (by omega), fun h => Int.mul_lt_mul_of_pos_left h hk⟩
  have e2 : ∀ {x y : Int}, k * x = k * y ↔ x = y := fun {x y} => ⟨fun h => Int.eq_of_mul_eq_mul_left (by omega) h, fun h => by rw [h]⟩
  unfold bef sc
  simp only [e1, e2]
theorem fwd_sc {k : Int} (hk : 0 < k) (a b : Pnt) : fwd (sc k a) (sc k b) = scS k (fwd a b) := by
  unfold fwd
  by_cases h : bef b a
  · rw [if_pos h, if_pos ((bef_sc hk).2 h)]; rfl
  · rw [if_neg h, if_neg (fun g => h ((bef_sc hk).1 g))]; rfl
theorem ite_sc (k : Int) (c : Prop) [Decidable c] (a b : Pnt) : (if c then sc k a else sc k b) = sc k (if c then a else b) := by split <;> rfl
theorem onLine_sc {k : Int} (hk : 0 < k) (s t : Seg) : onLine (scS k s) (scS k t) = onLine s t := by
  unfold onLine scS
  simp only [bef_sc hk, ite_sc, sc_inj hk]
theorem cr_sc1 (k : Int) (a b p : Pnt) : cr (sc k a) (sc k b) (sc k p) 1 = k * k * cr a b p 1 := by unfold cr sc; grind
theorem meet_sc {k : Int} (hk : 0 < k) (a b c d : Pnt) : meet (sc k a) (sc k b) (sc k c) (sc k d) = meet a b c d := by
  unfold meet
  simp only [cr_sc1, sg_mul (pp hk hk), fwd_sc hk, onLine_sc hk]
theorem crossS_sc {k : Int} (hk : 0 < k) (s t : Seg) : crossS (scS k s) (scS k t) = crossS s t := by
  unfold crossS meetS scS
  simp only [meet_sc hk]
theorem pos_sc (k : Int) (a b p : Pnt) : pos (sc k a) (sc k b) (sc k p) = k * k * pos a b p := by unfold pos dt sc; grind
theorem has_sc1 {k : Int} (hk : 0 < k) (a b p : Pnt) : has (sc k a) (sc k b) (sc k p) 1 ↔ has a b p 1 := by
  rw [has_sc hk, has_spot hk]
theorem cut_sc {k : Int} (hk : 0 < k) {a b : Pnt} {l : List Pnt} {x : Pnt} : Cut (sc k a) (sc k b) (l.map (sc k)) x ↔ ∃ x', x = sc k x' ∧ Cut a b l x' := by
  unfold Cut
  constructor
  · rintro (rfl | rfl | ⟨h1, h2⟩)
    · exact ⟨a, rfl, .inl rfl⟩
    · exact ⟨b, rfl, .inr (.inl rfl)⟩
    · obtain ⟨x', hx', rfl⟩ := List.mem_map.1 h1
      exact ⟨x', rfl, .inr (.inr ⟨hx', (has_sc1 hk _ _ _).1 h2⟩)⟩
  · rintro ⟨x', rfl, rfl | rfl | ⟨h1, h2⟩⟩
    · exact .inl rfl
    · exact .inr (.inl rfl)
    · exact .inr (.inr ⟨List.mem_map.2 ⟨x', h1, rfl⟩, (has_sc1 hk _ _ _).2 h2⟩)
theorem cons_sc {k : Int} (hk : 0 < k) {a b : Pnt} {l : List Pnt} {y z : Pnt} (h : Cons (pos (sc k a) (sc k b)) (Cut (sc k a) (sc k b) (l.map (sc k))) y z) : ∃ y' z', y = sc k y' ∧ z = sc k z' ∧ Cons (pos a b) (Cut a b l) y' z' := by
  obtain ⟨y', rfl, cy⟩ := (cut_sc hk).1 h.cx
  obtain ⟨z', rfl, cz⟩ := (cut_sc hk).1 h.cy
  have kk2 := pp hk hk
  have e1 : ∀ {x y : Int}, k * k * x < k * k * y ↔ x < y := fun {x y} => ⟨fun h => Int.lt_of_mul_lt_mul_left h (by omega), fun h => Int.mul_lt_mul_of_pos_left h kk2⟩
  refine ⟨y', z', rfl, rfl, cy, cz, ?_, ?_⟩
  · have := h.lt; rw [pos_sc, pos_sc] at this; exact e1.1 this
  · rintro c hc ⟨h1, h2⟩
    refine h.no (sc k c) ((cut_sc hk).2 ⟨c, rfl, hc⟩) ?_
    rw [pos_sc, pos_sc, pos_sc]
    exact ⟨e1.2 h1, e1.2 h2⟩
theorem long_sc {k : Int} (hk : 0 < k) {r : Ring} (h : Long r) : Long (scR k r) := by
  intro s hs
  rw [segs_sc] at hs
  obtain ⟨t, ht, rfl⟩ := List.mem_map.1 hs
  intro e
  exact h t ht ((sc_inj hk).1 e)
/-- A spot on a segment that a ring does not cross lies on the ring, or as one of the middles does. -/
theorem on_place {a b : Pnt} (hab : a ≠ b) {o : Ring} (he : Ends o) (hl : Long o) (hx : ∀ t ∈ segs o, crossS (a, b) t = false) {p : Spot} (hw : 0 < p.2) (hp : has a b p.1 p.2) (hn : place o p ≠ 1) :
    ∃ m ∈ mids (a, b) [o], place o p = place o m := by
  obtain ⟨P, w⟩ := p
  simp only at hw hp
  have hK : (0 : Int) < 2 * w := by omega
  have hab' : sc (2 * w) a ≠ sc (2 * w) b := fun e => hab ((sc_inj hK).1 e)
  have hp' : has (sc (2 * w) a) (sc (2 * w) b) (sc 2 P) 1 := by
    rw [has_sc hK, Int.mul_one]
    exact (has_spot (by omega) a b P w).2 hp
  obtain ⟨y', z', hc', l1, l2⟩ := cuts_about hab' hp' (scR (2 * w) o)
  obtain ⟨y, z, rfl, rfl, hc⟩ := cons_sc hK (l := o) hc'
  have hm : midOf y z ∈ mids (a, b) [o] := (mem_mids hab [o] _).2 ⟨y, z, by simpa using hc, rfl⟩
  refine ⟨_, hm, ?_⟩
  have e1 : place o (P, w) = place (scR (2 * w) o) (sc 2 P, 1) := place_whole (p := (P, w)) hw (k := 2) (by omega)
  have e2 : place o (midOf y z) = place (scR (2 * w) o) (sc w (midOf y z).1, 1) := by
    have := place_whole (r := o) (p := midOf y z) (show (0 : Int) < 2 by omega) (k := w) hw
    rw [show w * (midOf y z).2 = 2 * w by show w * 2 = 2 * w; omega] at this
    exact this
  rw [e1, e2]
  have c0y := (cut_has hc.cx).1
  have c0z := (cut_has hc.cy).1
  have f1 : 2 * pos (sc (2 * w) a) (sc (2 * w) b) (sc w (midOf y z).1) = pos (sc (2 * w) a) (sc (2 * w) b) (sc (2 * w) y) + pos (sc (2 * w) a) (sc (2 * w) b) (sc (2 * w) z) := by unfold pos dt sc midOf; grind
  have f2 : 2 * cr (sc (2 * w) a) (sc (2 * w) b) (sc w (midOf y z).1) 1 = cr (sc (2 * w) a) (sc (2 * w) b) (sc (2 * w) y) 1 + cr (sc (2 * w) a) (sc (2 * w) b) (sc (2 * w) z) 1 := by unfold cr sc midOf; grind
  rw [cr_sc1, cr_sc1, c0y, c0z, Int.mul_zero, Int.add_zero] at f2
  have hlt := hc'.lt
  obtain ⟨y0, y1⟩ := pos_le hab' (cut_has hc'.cx)
  obtain ⟨z0, z1⟩ := pos_le hab' (cut_has hc'.cy)
  refine on_place_int hab' (ends_sc he) (long_sc hK hl) ?_ hc' hp' l1 l2 (has_pos hab' (by omega) (by omega) (by omega)) (by omega) (by omega) ?_
  · intro t ht
    rw [segs_sc] at ht
    obtain ⟨t', ht', rfl⟩ := List.mem_map.1 ht
    have := hx t' ht'
    rw [← crossS_sc hK] at this
    exact this
  · rw [← e1]; exact hn
/-- A ring that lies outside another but for what they touch in: no point of it is within. -/
theorem lies_out {r o : Ring} (hr : Long r) (ho : Long o) (he : Ends o) (hx : cross r o = false) {k : Int} (hk : lies r o k = true) {p : Spot} (hw : 0 < p.2) (hp : place r p = 1) : place o p = 1 ∨ place o p = k := by
  obtain ⟨s, hs, h⟩ := place_one.1 hp
  by_cases h1 : place o p = 1
  · exact .inl h1
  right
  obtain ⟨m, hm, e⟩ := on_place (hr s hs) he ho (fun t ht => by
    cases c : crossS (s.1, s.2) t with
    | false => rfl
    | true =>
      have : cross r o = true := by
        unfold cross
        exact List.any_eq_true.2 ⟨s, hs, List.any_eq_true.2 ⟨t, ht, c⟩⟩
      rw [hx] at this; cases this) hw h h1
  rw [e]
  unfold lies at hk
  rw [Bool.not_eq_true'] at hk
  by_cases g : place o m = k
  · exact g
  · have : ((segs r).any fun s => (mids s [o]).any fun m => decide (place o m ≠ k)) = true := List.any_eq_true.2 ⟨s, hs, List.any_eq_true.2 ⟨m, hm, decide_eq_true g⟩⟩
    rw [hk] at this; cases this
end Vd
end Go.Proofs.YtcclepohmhdpbaaGreatDoor

/- POINTS, PLAINLY: the program's answer and the document's, of a valid set. -/
namespace Go.Proofs.YtcclepohmhdpbaaGreatDoor
set_option linter.all false
namespace Vd
theorem inL_nn {p : Spot} : ∀ (t : List Ring) (s : Int), (s = 0 ∨ s = 1 ∨ s = -1) → (∀ r ∈ t, inRing r p = 0 ∨ inRing r p = 1 ∨ inRing r p = -1) → (∀ r ∈ t, ∀ r' ∈ t, inRing r p = 0 → inRing r' p ≠ 1) →
    (0 ≤ inL s t p ↔ 0 ≤ s ∧ ∀ r ∈ t, inRing r p ≠ 1) := by
  intro t
  induction t with
  | nil => intro s _ _ _; simp [inL]
  | cons r t ih =>
    intro s hs hr hx
    unfold inL
    have ih' := ih s hs (fun r hr' => hr r (by simp [hr'])) (fun a ha b hb => hx a (by simp [ha]) b (by simp [hb]))
    by_cases h0 : inRing r p = 0 ∧ 0 ≤ s
    · rw [if_pos h0]
      refine ⟨fun _ => ⟨h0.2, fun r' hr' => hx r (by simp) r' hr' h0.1⟩, fun _ => Int.le_refl _⟩
    · rw [if_neg h0]
      by_cases h1 : inRing r p = 1
      · rw [if_pos h1]
        refine ⟨fun h => by omega, fun h => absurd h1 (h.2 r (by simp))⟩
      · rw [if_neg h1, ih']
        constructor
        · rintro ⟨g1, g2⟩
          refine ⟨g1, fun r' hr' => ?_⟩
          rcases List.mem_cons.1 hr' with rfl | hr'
          · exact h1
          · exact g2 r' hr'
        · rintro ⟨g1, g2⟩; exact ⟨g1, fun r' hr' => g2 r' (by simp [hr'])⟩
theorem inPolyL_iff {p : Spot} : ∀ (t : List Ring), inPolyL t false p = true ↔ ∀ r ∈ t, place r p ≠ 2 := by
  intro t
  induction t with
  | nil => simp [inPolyL]
  | cons r t ih =>
    unfold inPolyL
    by_cases h : place r p = 2
    · simp [h]
    · simp [h, ih]
/-- The holes of a polygon that is valid. -/
structure Holes (t : List Ring) : Prop where
  long : ∀ r ∈ t, Long r
  out : ∀ r ∈ t, ∀ o ∈ t, ∀ p : Spot, 0 < p.2 → place r p = 1 → place o p ≠ 2
theorem in_poly {r : Ring} {t : List Ring} (hr : Long r) (ht : Holes t) {p : Spot} (hw : 0 < p.2) : decide (0 ≤ inP (r :: t) p) = inPoly (r :: t) p := by
  have er := place_eq hr hw
  have e : ∀ o ∈ t, place o p = pl (inRing o p) ∧ (inRing o p = 0 ∨ inRing o p = 1 ∨ inRing o p = -1) := fun o ho => place_eq (ht.long o ho) hw
  have k1 : ∀ o ∈ t, (place o p = 1 ↔ inRing o p = 0) := by
    intro o ho
    obtain ⟨a, b⟩ := e o ho
    rw [a]; unfold pl; rcases b with b | b | b <;> rw [b] <;> simp
  have k2 : ∀ o ∈ t, (place o p = 2 ↔ inRing o p = 1) := by
    intro o ho
    obtain ⟨a, b⟩ := e o ho
    rw [a]; unfold pl; rcases b with b | b | b <;> rw [b] <;> simp
  have key := inL_nn (p := p) t (inRing r p) er.2 (fun o ho => (e o ho).2) (fun a ha b hb h1 h2 => ht.out a ha b hb p hw ((k1 a ha).2 h1) ((k2 b hb).2 h2))
  apply bool_iff
  rw [decide_eq_true_eq]
  show 0 ≤ inL (inRing r p) t p ↔ _
  rw [key]
  unfold inPoly inPolyL
  have kr : place r p = 0 ↔ ¬ 0 ≤ inRing r p := by
    rw [er.1]; unfold pl; rcases er.2 with b | b | b <;> rw [b] <;> simp
  by_cases h0 : place r p = 0
  · have := kr.1 h0
    simp [h0, this]
  · have h1 : 0 ≤ inRing r p := by
      rcases Int.lt_or_le (inRing r p) 0 with g | g
      · exact absurd (kr.2 (by omega)) h0
      · exact g
    simp only [h0, h1, decide_false, Bool.and_false, Bool.not_true, Bool.false_and, Bool.or_self, Bool.false_eq_true, if_false, true_and]
    simp only [List.length_cons, Nat.zero_lt_succ, decide_true, Bool.and_true, inPolyL_iff]
    constructor
    · intro g o ho h2; exact g o ho ((k2 o ho).1 h2)
    · intro g o ho h2; exact g o ho ((k2 o ho).2 h2)
/-- Of a valid set. -/
theorem holes_of {l : Poly} (hs : ∀ r ∈ l, Shut r) (hl : ∀ r ∈ l, Long r) (h2 : touch l = true) (h3 : nested l = true) : Holes l.tail := by
  refine ⟨fun r hr => hl r (List.mem_of_mem_tail hr), ?_⟩
  intro r hr o ho p hw hp h
  cases l with
  | nil => cases hr
  | cons s t =>
    simp only [List.tail_cons] at hr ho
    obtain ⟨i, hi, ei⟩ := List.getElem_of_mem hr
    obtain ⟨j, hj, ej⟩ := List.getElem_of_mem ho
    by_cases hij : i = j
    · subst hij
      have : r = o := ei.symm.trans ej
      rw [this] at hp; rw [hp] at h; omega
    have ra : ∀ {k : Nat} (hk : k < t.length), rAt (s :: t) (k + 1) = t[k] := by
      intro k hk; unfold rAt; rw [List.getD_eq_getElem?_getD, List.getElem?_cons_succ, List.getElem?_eq_getElem hk]; rfl
    have hx : cross r o = false := by
      unfold touch at h2
      rw [Bool.not_eq_true', pairs_eq (f := fun i j => cross (rAt (s :: t) i) (rAt (s :: t) j)) (fun i j => cross_symm _ _)] at h2
      cases c : cross r o with
      | false => rfl
      | true =>
        have : (anyI (s :: t).length fun i => anyI (s :: t).length fun j => decide (j ≠ i) && cross (rAt (s :: t) i) (rAt (s :: t) j)) = true := by
          rw [anyI_iff]
          refine ⟨i + 1, by simp; omega, ?_⟩
          rw [anyI_iff]
          refine ⟨j + 1, by simp; omega, ?_⟩
          rw [ra hi, ra hj, ei, ej, c]
          simp; omega
        rw [h2] at this; cases this
    have hy : lies r o 0 = true := by
      unfold nested at h3
      rw [Bool.not_eq_true'] at h3
      cases c : lies r o 0 with
      | true => rfl
      | false =>
        have : (anyI (s :: t).length fun i => decide (1 ≤ i) && anyI (s :: t).length fun j => decide (i ≠ j) && !(lies (rAt (s :: t) i) (rAt (s :: t) j) (nestW j))) = true := by
          rw [anyI_iff]
          refine ⟨i + 1, by simp; omega, ?_⟩
          rw [Bool.and_eq_true, anyI_iff]
          refine ⟨by simp, j + 1, by simp; omega, ?_⟩
          rw [ra hi, ra hj, ei, ej, show nestW (j + 1) = 0 from rfl, c]
          simp; omega
        rw [h3] at this; cases this
    have := lies_out (hl r (by simp [hr])) (hl o (by simp [ho])) (shut_ends (hs o (by simp [ho]))) hx hy hw hp
    omega
theorem holds_eq {m : Mult} (hg : Good m) (h : least m = 0) {p : Spot} (hw : 0 < p.2) : (m.any fun l => decide (0 ≤ inP l p)) = inSet m p := by
  unfold inSet
  have b1 : badC 1 m = false ∧ badC 2 m = false ∧ badC 3 m = false := by
    unfold least at h
    repeat' split at h
    all_goals first | omega | (simp_all)
  have hl := long_all hg b1.1
  have one : ∀ (c : Nat), badC c m = false → ∀ l ∈ m, holdsC c l = true := by
    intro c hc l hm
    unfold badC at hc
    cases x : holdsC c l with
    | true => rfl
    | false => rw [List.any_eq_true.2 ⟨l, hm, by rw [x]; rfl⟩] at hc; cases hc
  refine any_congr fun l hm => ?_
  have h2 := one 2 b1.2.1 l hm
  have h3 := one 3 b1.2.2 l hm
  have hh := holes_of (hg.shut l hm) (hl l hm) (by simpa [holdsC] using h2) (by simpa [holdsC] using h3)
  cases l with
  | nil => exact absurd rfl (hg.ne [] hm)
  | cons r t => exact in_poly (hl _ hm r (by simp)) hh hw
end Vd
end Go.Proofs.YtcclepohmhdpbaaGreatDoor

/- MOVED, PLAINLY: what is moved lies as it lay. -/
namespace Go.Proofs.YtcclepohmhdpbaaGreatDoor
set_option linter.all false
namespace Vd
def mv (v p : Pnt) : Pnt := (p.1 + v.1, p.2 + v.2)
def mvR (v : Pnt) (r : Ring) : Ring := r.map (mv v)
def mvL (v : Pnt) (l : Poly) : Poly := l.map (mvR v)
def mvM (v : Pnt) (m : Mult) : Mult := m.map (mvL v)
def mvS (v : Pnt) (s : Seg) : Seg := (mv v s.1, mv v s.2)
def mvP (v : Pnt) (p : Spot) : Spot := ((p.1.1 + v.1 * p.2, p.1.2 + v.2 * p.2), p.2)
theorem cr_mv (v a b p : Pnt) (w : Int) : cr (mv v a) (mv v b) (p.1 + v.1 * w, p.2 + v.2 * w) w = cr a b p w := by unfold cr mv; grind
theorem cr_mv1 (v a b p : Pnt) : cr (mv v a) (mv v b) (mv v p) 1 = cr a b p 1 := by unfold cr mv; grind
theorem btw_mv {e m o v w : Int} : btw ((e + v) * w) (m + v * w) ((o + v) * w) ↔ btw (e * w) m (o * w) := by
  have e1 : (e + v) * w = e * w + v * w := by grind
  have e2 : (o + v) * w = o * w + v * w := by grind
  unfold btw
  rw [e1, e2]
  omega
theorem has_mv (v a b p : Pnt) (w : Int) : has (mv v a) (mv v b) (p.1 + v.1 * w, p.2 + v.2 * w) w ↔ has a b p w := by
  unfold has
  rw [cr_mv]
  exact ⟨fun h => ⟨h.1, btw_mv.1 h.2.1, btw_mv.1 h.2.2⟩, fun h => ⟨h.1, btw_mv.2 h.2.1, btw_mv.2 h.2.2⟩⟩
theorem has_mv1 (v a b p : Pnt) : has (mv v a) (mv v b) (mv v p) 1 ↔ has a b p 1 := by
  have := has_mv v a b p 1
  simpa [mv] using this
theorem hasB_mv (v : Pnt) (s : Seg) (p : Spot) : hasB (mvS v s) (mvP v p) = hasB s p := decide_eq_decide.2 (has_mv v s.1 s.2 p.1 p.2)
theorem bef_mv {v p q : Pnt} : bef (mv v p) (mv v q) ↔ bef p q := by unfold bef mv; omega
theorem mv_inj {v p q : Pnt} : mv v p = mv v q ↔ p = q := by
  constructor
  · intro h
    unfold mv at h
    simp only [Prod.mk.injEq] at h
    exact Prod.ext (by omega) (by omega)
  · rintro rfl; rfl
theorem fwd_mv (v a b : Pnt) : fwd (mv v a) (mv v b) = mvS v (fwd a b) := by
  unfold fwd
  by_cases h : bef b a
  · rw [if_pos h, if_pos (bef_mv.2 h)]; rfl
  · rw [if_neg h, if_neg (fun k => h (bef_mv.1 k))]; rfl
theorem ite_mv (v : Pnt) (c : Prop) [Decidable c] (a b : Pnt) : (if c then mv v a else mv v b) = mv v (if c then a else b) := by split <;> rfl
theorem onLine_mv (v : Pnt) (s t : Seg) : onLine (mvS v s) (mvS v t) = onLine s t := by
  unfold onLine mvS
  simp only [bef_mv, ite_mv, mv_inj]
theorem meet_mv (v a b c d : Pnt) : meet (mv v a) (mv v b) (mv v c) (mv v d) = meet a b c d := by
  unfold meet
  simp only [cr_mv1, fwd_mv, onLine_mv]
theorem meetS_mv (v : Pnt) (s t : Seg) : meetS (mvS v s) (mvS v t) = meetS s t := meet_mv _ _ _ _ _
theorem ray_mv (v a b p : Pnt) (w : Int) : ray (mv v a) (mv v b) (p.1 + v.1 * w, p.2 + v.2 * w) w = ray a b p w := by
  have e : ∀ c : Pnt, ((mv v c).2 * w > p.2 + v.2 * w) ↔ (c.2 * w > p.2) := by
    intro c
    have : (mv v c).2 * w = c.2 * w + v.2 * w := by unfold mv; grind
    rw [this]; omega
  unfold ray
  simp only [cr_mv, e]
theorem segs_mv (v : Pnt) (r : Ring) : segs (mvR v r) = (segs r).map (mvS v) := by
  unfold segs mvR
  rw [← List.map_tail, List.zip_map]
  rfl
theorem placeL_mv (v : Pnt) : ∀ (l : List Seg) (i : Bool) (p : Spot), placeL (l.map (mvS v)) i (mvP v p) = placeL l i p := by
  intro l
  induction l with
  | nil => intro i p; rfl
  | cons s t ih =>
    intro i p
    rw [List.map_cons]
    unfold placeL
    rw [hasB_mv, ih, ← ray_mv v s.1 s.2 p.1 p.2]
    rfl
theorem place_mv (v : Pnt) (r : Ring) (p : Spot) : place (mvR v r) (mvP v p) = place r p := by unfold place; rw [segs_mv, placeL_mv]
theorem flat_mv (v : Pnt) (l : Poly) : (mvL v l).flatten = l.flatten.map (mv v) := by unfold mvL mvR; rw [List.map_flatten]
theorem fold_mv (v : Pnt) (s : Seg) (f : Pnt) : ∀ (l : List Pnt) (t : Pnt), (l.map (mv v)).foldl (cutF (mvS v s) (mv v f)) (mv v t) = mv v (l.foldl (cutF s f) t) := by
  intro l
  induction l with
  | nil => intro t; rfl
  | cons p l ih =>
    intro t
    rw [List.map_cons, List.foldl_cons, List.foldl_cons, ← ih]
    congr 1
    unfold cutF
    simp only [bef_mv]
    have : has (mvS v s).1 (mvS v s).2 (mv v p) 1 ↔ has s.1 s.2 p 1 := has_mv1 v s.1 s.2 p
    simp only [this, ite_mv]
theorem nextCut_mv (v : Pnt) (s : Seg) (f : Pnt) (l : Poly) : nextCut (mvS v s) (mv v f) (mvL v l) = mv v (nextCut s f l) := by
  unfold nextCut; rw [flat_mv]; exact fold_mv v s f _ _
theorem midOf_mv (v p q : Pnt) : midOf (mv v p) (mv v q) = mvP v (midOf p q) := by
  unfold midOf mv mvP
  simp only [Prod.mk.injEq, and_true]
  constructor <;> omega
theorem midsF_mv (v : Pnt) (s : Seg) (l : Poly) : ∀ (n : Nat) (f : Pnt), midsF n (mvS v s) (mv v f) (mvL v l) = (midsF n s f l).map (mvP v) := by
  intro n
  induction n with
  | zero => intro f; rfl
  | succ n ih =>
    intro f
    unfold midsF
    by_cases h : f = s.2
    · rw [if_pos h, if_pos (show mv v f = (mvS v s).2 by rw [h]; rfl)]; rfl
    · rw [if_neg h, if_neg (show ¬ mv v f = (mvS v s).2 from fun k => h (mv_inj.1 k)), nextCut_mv, midOf_mv, ih]; rfl
theorem mids_mv (v : Pnt) (s : Seg) (l : Poly) : mids (mvS v s) (mvL v l) = (mids s l).map (mvP v) := by
  unfold mids
  have e : (mvL v l).flatten.length = l.flatten.length := by rw [flat_mv, List.length_map]
  rw [e, show fwd (mvS v s).1 (mvS v s).2 = mvS v (fwd s.1 s.2) from fwd_mv v s.1 s.2]
  exact midsF_mv v _ l _ _
end Vd
end Go.Proofs.YtcclepohmhdpbaaGreatDoor

/- MOVED, PLAINLY: the clause is the same. -/
namespace Go.Proofs.YtcclepohmhdpbaaGreatDoor
set_option linter.all false
namespace Vd
theorem mvR_len (v : Pnt) (r : Ring) : (mvR v r).length = r.length := by simp [mvR]
theorem mvL_len (v : Pnt) (l : Poly) : (mvL v l).length = l.length := by simp [mvL]
theorem mvM_len (v : Pnt) (m : Mult) : (mvM v m).length = m.length := by simp [mvM]
theorem anyI_cong {n : Nat} {f g : Nat → Bool} (h : ∀ i, i < n → f i = g i) : anyI n f = anyI n g := by
  unfold anyI
  apply Bool.eq_iff_iff.2
  simp only [List.any_eq_true, List.mem_range]
  constructor
  · rintro ⟨i, hi, e⟩; exact ⟨i, hi, by rw [← h i hi]; exact e⟩
  · rintro ⟨i, hi, e⟩; exact ⟨i, hi, by rw [h i hi]; exact e⟩
theorem any_map' {α β : Type} (f : α → β) (p : β → Bool) (l : List α) : (l.map f).any p = l.any fun x => p (f x) := by
  rw [List.any_map]; rfl
theorem rAt_mv (v : Pnt) (l : Poly) (i : Nat) : rAt (mvL v l) i = mvR v (rAt l i) := by
  unfold rAt mvL
  rw [List.getD_eq_getElem?_getD, List.getD_eq_getElem?_getD, List.getElem?_map]
  cases l[i]? <;> rfl
theorem pAt_mv (v : Pnt) (m : Mult) (i : Nat) : pAt (mvM v m) i = mvL v (pAt m i) := by
  unfold pAt mvM
  rw [List.getD_eq_getElem?_getD, List.getD_eq_getElem?_getD, List.getElem?_map]
  cases m[i]? <;> rfl
theorem sAt_mv (v : Pnt) (r : Ring) {i : Nat} (h : i < (segs r).length) : sAt (segs (mvR v r)) i = mvS v (sAt (segs r) i) := by
  unfold sAt
  rw [segs_mv, List.getD_eq_getElem?_getD, List.getD_eq_getElem?_getD, List.getElem?_map, List.getElem?_eq_getElem h]
  rfl
theorem twice_mv (v : Pnt) (r : Ring) : twice (mvR v r) = twice r := by
  unfold twice
  rw [mvR_len]
  refine anyI_cong fun i hi => ?_
  congr 1
  refine anyI_cong fun j hj => ?_
  congr 1
  unfold mvR
  rw [List.getElem?_map, List.getElem?_map, List.getElem?_eq_getElem hi, List.getElem?_eq_getElem hj]
  simp [mv_inj]
theorem selfR_mv (v : Pnt) (r : Ring) : selfR (mvR v r) = selfR r := by
  unfold selfR
  have e : (segs (mvR v r)).length = (segs r).length := by rw [segs_mv, List.length_map]
  rw [e]
  refine anyI_cong fun j hj => anyI_cong fun i hi => ?_
  rw [sAt_mv v r (by omega), sAt_mv v r hj, meetS_mv]
theorem simple_mv (v : Pnt) (l : Poly) : simple (mvL v l) = simple l := by
  unfold simple mvL
  rw [any_map']
  simp only [twice_mv, selfR_mv]
theorem cross_mv (v : Pnt) (a b : Ring) : cross (mvR v a) (mvR v b) = cross a b := by
  unfold cross
  simp only [segs_mv, any_map']
  unfold crossS
  simp only [meetS_mv]
theorem touch_mv (v : Pnt) (l : Poly) : touch (mvL v l) = touch l := by
  unfold touch
  simp only [mvL_len, rAt_mv, cross_mv]
theorem lies_mv (v : Pnt) (r o : Ring) (k : Int) : lies (mvR v r) (mvR v o) k = lies r o k := by
  unfold lies
  rw [segs_mv, any_map']
  congr 2
  funext s
  rw [show [mvR v o] = mvL v [o] from rfl, mids_mv, any_map']
  simp only [place_mv]
theorem nested_mv (v : Pnt) (l : Poly) : nested (mvL v l) = nested l := by
  unfold nested
  simp only [mvL_len, rAt_mv, lies_mv]
theorem at1_mv (v p : Pnt) : at1 (mv v p) = mvP v (at1 p) := by unfold at1 mv mvP; simp
theorem ringsAt_mv (v : Pnt) (l : Poly) (p : Pnt) : ringsAt (mvL v l) (mv v p) = ringsAt l p := by
  unfold ringsAt
  simp only [mvL_len, rAt_mv, at1_mv, place_mv]
theorem touchF_mv (v : Pnt) (l : Poly) (a : List Pnt) (p : Pnt) : touchF (mvL v l) (a.map (mv v)) (mv v p) = (touchF l a p).map (mv v) := by
  unfold touchF
  have e : mv v p ∈ a.map (mv v) ↔ p ∈ a := by
    rw [List.mem_map]
    constructor
    · rintro ⟨q, hq, e⟩; rw [← mv_inj.1 e]; exact hq
    · intro h; exact ⟨p, h, rfl⟩
  simp only [e, ringsAt_mv]
  split
  · simp
  · rfl
theorem touch_fold_mv (v : Pnt) (l : Poly) : ∀ (ps a : List Pnt), (ps.map (mv v)).foldl (touchF (mvL v l)) (a.map (mv v)) = (ps.foldl (touchF l) a).map (mv v) := by
  intro ps
  induction ps with
  | nil => intro a; rfl
  | cons p t ih => intro a; rw [List.map_cons, List.foldl_cons, List.foldl_cons, touchF_mv, ih]
theorem touchPts_mv (v : Pnt) (l : Poly) : touchPts (mvL v l) = (touchPts l).map (mv v) := by
  unfold touchPts
  rw [flat_mv]
  exact touch_fold_mv v l _ []
theorem wayL_mv (v : Pnt) (l : Poly) : ∀ (ps : List Pnt) (g : List Nat), wayL (mvL v l) (ps.map (mv v)) g = wayL l ps g := by
  intro ps
  induction ps with
  | nil => intro g; rfl
  | cons p t ih =>
    intro g
    rw [List.map_cons]
    unfold wayL
    rw [ringsAt_mv]
    cases join g (ringsAt l p) with
    | none => rfl
    | some g' => exact ih g'
theorem way_mv (v : Pnt) (l : Poly) : way (mvL v l) = way l := by
  unfold way
  rw [touchPts_mv, wayL_mv, mvL_len]
theorem holdsC_mv (v : Pnt) (c : Nat) (l : Poly) : holdsC c (mvL v l) = holdsC c l := by
  unfold holdsC
  rw [simple_mv, touch_mv, nested_mv, way_mv]
theorem badC_mv (v : Pnt) (c : Nat) (m : Mult) : badC c (mvM v m) = badC c m := by
  unfold badC mvM
  rw [any_map']
  simp only [holdsC_mv]
theorem freeL_mv (v : Pnt) : ∀ (l : List Ring) (a b : Bool) (p : Spot), freeL (l.map (mvR v)) a b (mvP v p) = freeL l a b p := by
  intro l
  induction l with
  | nil => intro a b p; rfl
  | cons r t ih => intro a b p; rw [List.map_cons]; unfold freeL; simp only [place_mv, ih]
theorem enters_mv (v : Pnt) (a b : Poly) : enters (mvL v a) (mvL v b) = enters a b := by
  unfold enters
  rw [show mvL v a = a.map (mvR v) from rfl, any_map']
  congr 1
  funext r
  rw [segs_mv, any_map']
  congr 1
  funext s
  rw [mids_mv, any_map']
  congr 1
  funext m
  unfold free
  rw [show mvL v b = b.map (mvR v) from rfl, freeL_mv]
theorem boundsX_mv (v : Pnt) (a b : Poly) : boundsX (mvL v a) (mvL v b) = boundsX a b := by
  unfold boundsX mvL
  simp only [any_map', cross_mv]
theorem overlap_mv (v : Pnt) (m : Mult) : overlap (mvM v m) = overlap m := by
  unfold overlap
  simp only [mvM_len, pAt_mv, boundsX_mv, enters_mv]
/-- Moved: the same clause. -/
theorem least_mv (v : Pnt) (m : Mult) : least (mvM v m) = least m := by
  unfold least
  simp only [badC_mv, overlap_mv]

/-! ### the one way is moved -/
theorem ptAt_mv (v : Pnt) (r : Ring) {i : Nat} (h : i < r.length) : ptAt (mvR v r) i = mv v (ptAt r i) := by
  unfold ptAt mvR
  rw [List.getD_eq_getElem?_getD, List.getD_eq_getElem?_getD, List.getElem?_map, List.getElem?_eq_getElem h]
  rfl
theorem side_mv (v a b p : Pnt) : side (mv v a, mv v b) (at1 (mv v p)) = side (a, b) (at1 p) := by
  unfold side at1
  simp only
  rw [cr_mv1]
theorem turns_mv (v : Pnt) (r : Ring) {i : Nat} (h : i < r.length) : turns (mvR v r) i = turns r i := by
  unfold turns
  by_cases h1 : 1 ≤ i
  · have e : nextI (mvR v r) i = mv v (nextI r i) := by
      unfold nextI
      rw [mvR_len]
      split
      · rename_i k; exact ptAt_mv v r k
      · exact ptAt_mv v r (by omega)
    rw [e, ptAt_mv v r h, ptAt_mv v r (by omega), side_mv]
  · rw [decide_eq_false h1]; rfl
theorem corners_mv (v : Pnt) (r : Ring) : corners (mvR v r) = mvR v (corners r) := by
  unfold corners cornersI
  rw [mvR_len]
  have e : (List.range r.length).filter (turns (mvR v r)) = (List.range r.length).filter (turns r) := by
    apply List.filter_congr
    intro i hi
    exact turns_mv v r (List.mem_range.1 hi)
  rw [e]
  unfold mvR
  rw [List.map_map]
  apply List.map_congr_left
  intro i hi
  have := List.mem_range.1 (List.mem_filter.1 hi).1
  exact ptAt_mv v r this
theorem leastN_lt (r : Ring) : ∀ n, n ≤ r.length → 0 < r.length → leastN r n < r.length := by
  intro n
  induction n with
  | zero => intro _ h; exact h
  | succ n ih =>
    intro h h0
    unfold leastN
    rw [List.range_succ, List.foldl_append]
    simp only [List.foldl_cons, List.foldl_nil]
    unfold leastS
    split
    · omega
    · exact ih (by omega) h0
theorem leastN_mv (v : Pnt) (r : Ring) : ∀ n, n ≤ r.length → leastN (mvR v r) n = leastN r n := by
  intro n
  induction n with
  | zero => intro _; rfl
  | succ n ih =>
    intro h
    have e := ih (by omega)
    unfold leastN at *
    rw [List.range_succ, List.foldl_append, List.foldl_append, e]
    simp only [List.foldl_cons, List.foldl_nil]
    have hl := leastN_lt r n (by omega) (by omega)
    unfold leastN at hl
    unfold leastS at *
    rw [ptAt_mv v r (by omega), ptAt_mv v r hl]
    simp only [bef_mv]
theorem leastI_mv (v : Pnt) (r : Ring) : leastI (mvR v r) = leastI r := by
  unfold leastI; rw [mvR_len]; exact leastN_mv v r _ (Nat.le_refl _)
theorem lefts_mv (v : Pnt) (r : Ring) {k : Nat} (h : k < r.length) : lefts (mvR v r) k = lefts r k := by
  unfold lefts
  rw [mvR_len, ptAt_mv v r (Nat.mod_lt _ (by omega)), ptAt_mv v r h, ptAt_mv v r (Nat.mod_lt _ (by omega)), side_mv]
theorem ringForm_mv (v : Pnt) (r : Ring) (b : Bool) : ringForm (mvR v r) b = mvR v (ringForm r b) := by
  unfold ringForm
  rw [corners_mv, mvR_len]
  by_cases h : (corners r).length = 0
  · rw [if_pos h, if_pos h]; rfl
  · rw [if_neg h, if_neg h]
    have hl : leastI (corners r) < (corners r).length := leastN_lt _ _ (Nat.le_refl _) (by omega)
    have es : stepI (mvR v (corners r)) b = stepI (corners r) b := by
      unfold stepI
      rw [leastI_mv, lefts_mv v _ hl, mvR_len]
    rw [leastI_mv, es]
    rw [show mvR v (List.map (fun i => ptAt (corners r) ((leastI (corners r) + i * stepI (corners r) b) % (corners r).length)) (List.range ((corners r).length + 1))) = List.map (mv v) (List.map (fun i => ptAt (corners r) ((leastI (corners r) + i * stepI (corners r) b) % (corners r).length)) (List.range ((corners r).length + 1))) from rfl, List.map_map]
    apply List.map_congr_left
    intro i _
    exact ptAt_mv v _ (Nat.mod_lt _ (by omega))
theorem cmpR_mv (v : Pnt) : ∀ a b : Ring, cmpR (mvR v a) (mvR v b) = cmpR a b := by
  intro a
  induction a with
  | nil => intro b; cases b <;> rfl
  | cons p t ih =>
    intro b
    cases b with
    | nil => rfl
    | cons q u =>
      show cmpR (mv v p :: mvR v t) (mv v q :: mvR v u) = _
      unfold cmpR
      simp only [bef_mv, ih]
theorem cmpP_mv (v : Pnt) : ∀ a b : Poly, cmpP (mvL v a) (mvL v b) = cmpP a b := by
  intro a
  induction a with
  | nil => intro b; cases b <;> rfl
  | cons p t ih =>
    intro b
    cases b with
    | nil => rfl
    | cons q u =>
      show cmpP (mvR v p :: mvL v t) (mvR v q :: mvL v u) = _
      unfold cmpP
      simp only [cmpR_mv, ih]
theorem cntA_mv (v : Pnt) (m : Mult) (a n : Nat) : cntA (mvM v m) a n = cntA m a n := by
  unfold cntA
  congr 1
  funext i
  unfold isA
  simp only [pAt_mv, cmpP_mv]
theorem order_mv (v : Pnt) (m : Mult) : ∀ (is : List Nat) (o : Mult), is.foldl (orderS (mvM v m)) (mvM v o) = mvM v (is.foldl (orderS m) o) := by
  intro is
  induction is with
  | nil => intro o; rfl
  | cons i t ih =>
    intro o
    rw [List.foldl_cons, List.foldl_cons, ← ih]
    congr 1
    unfold orderS
    rw [mvM_len, cntA_mv, pAt_mv]
    unfold mvM
    rw [List.map_set]
theorem inOrder_mv (v : Pnt) (m : Mult) : inOrder (mvM v m) = mvM v (inOrder m) := by
  unfold inOrder orderN
  rw [mvM_len, ← order_mv]
  congr 1
  unfold mvM
  rw [List.map_replicate]
  rfl
theorem polyForm_mv (v : Pnt) (l : Poly) : polyForm (mvL v l) = mvL v (polyForm l) := by
  cases l with
  | nil => rfl
  | cons r t =>
    show ringForm (mvR v r) true :: (inOrder (holesF (mvL v t))).flatten = _
    have e : holesF (mvL v t) = mvM v (holesF t) := by
      unfold holesF mvL mvM
      rw [List.map_map, List.map_map]
      apply List.map_congr_left
      intro x _
      show [ringForm (mvR v x) false] = [mvR v (ringForm x false)]
      rw [ringForm_mv]
    rw [e, inOrder_mv, ringForm_mv]
    show _ = mvR v (ringForm r true) :: mvL v (inOrder (holesF t)).flatten
    congr 1
    unfold mvM mvL
    rw [List.map_flatten]
/-- Moved: the one way is moved. -/
theorem form_mv (v : Pnt) (m : Mult) : form (mvM v m) = mvM v (form m) := by
  unfold form
  rw [← inOrder_mv]
  congr 1
  unfold mvM
  rw [List.map_map, List.map_map]
  apply List.map_congr_left
  intro x _
  exact polyForm_mv v x
end Vd
end Go.Proofs.YtcclepohmhdpbaaGreatDoor

/- MOVED, PLAINLY: what is moved is parted from what it was. -/
namespace Go.Proofs.YtcclepohmhdpbaaGreatDoor
set_option linter.all false
namespace Vd
/-- Rings that are closed and have no segment without length. -/
structure RG (X : Mult) : Prop where
  long : ∀ r ∈ X.flatten, Long r
  from_ : ∀ r ∈ X.flatten, ∀ p ∈ r, ∃ q, (p, q) ∈ segs r
theorem least_of {l : List Pnt} (h : l ≠ []) : ∃ p ∈ l, ∀ q ∈ l, q = p ∨ bef p q := by
  induction l with
  | nil => exact absurd rfl h
  | cons a t ih =>
    by_cases ht : t = []
    · subst ht; exact ⟨a, by simp, by simp⟩
    · obtain ⟨p, hp, hl⟩ := ih ht
      rcases bef_tri a p with k | k | k
      · refine ⟨a, by simp, fun q hq => ?_⟩
        rcases List.mem_cons.1 hq with e | hq
        · exact .inl e
        · rcases hl q hq with e | e
          · rw [e]; exact .inr k
          · exact .inr (bef_trans k e)
      · refine ⟨a, by simp, fun q hq => ?_⟩
        rcases List.mem_cons.1 hq with e | hq
        · exact .inl e
        · rw [k]; exact hl q hq
      · refine ⟨p, by simp [hp], fun q hq => ?_⟩
        rcases List.mem_cons.1 hq with e | hq
        · rw [e]; exact .inr k
        · exact hl q hq
theorem lookL_none {other : Mult} {both : List Seg} {s : Seg} {m : Spot} : ∀ {l : List Seg}, lookL other both s m l = none → ∃ t ∈ l, has t.1 t.2 m.1 m.2 ∧ turnW (along s) (along t) = 0 := by
  intro l
  induction l with
  | nil => intro h; unfold lookL at h; split at h <;> cases h
  | cons t l ih =>
    intro h
    unfold lookL at h
    split at h
    · rename_i hb
      unfold atBoth at h
      split at h
      · cases h
      · split at h
        · cases h
        · exact ⟨t, by simp, of_decide_eq_true hb, by omega⟩
    · obtain ⟨u, hu, k⟩ := ih h
      exact ⟨u, by simp [hu], k⟩
theorem atBounds_none {a b : Mult} (h : atBounds a b = none) {s : Seg} (hs : s ∈ edges a.flatten) {m : Spot} (hm : m ∈ mids s (a.flatten ++ b.flatten)) : ∃ t ∈ edges b.flatten, has t.1 t.2 m.1 m.2 ∧ turnW (along s) (along t) = 0 := by
  unfold atBounds at h
  rw [List.findSome?_eq_none_iff] at h
  have := h s hs
  rw [List.findSome?_eq_none_iff] at this
  exact lookL_none (this m hm)
theorem mem_edges {l : Poly} {s : Seg} : s ∈ edges l ↔ ∃ r ∈ l, s ∈ segs r := by unfold edges; rw [List.mem_flatMap]
/-- The least point of all is a vertex of the one and not of the other: they are parted. -/
theorem parted_at {a b : Mult} (ha : RG a) (hb : RG b) {p : Pnt} (hp : p ∈ a.flatten.flatten) (hn : p ∉ b.flatten.flatten) (hl : ∀ q, q ∈ a.flatten.flatten ∨ q ∈ b.flatten.flatten → q = p ∨ bef p q) : atBounds a b ≠ none := by
  intro h
  obtain ⟨r, hr, hpr⟩ := List.mem_flatten.1 hp
  obtain ⟨q, hq⟩ := ha.from_ r hr p hpr
  have hpq : p ≠ q := ha.long r hr (p, q) hq
  have hbq : bef p q := by
    rcases hl q (.inl (List.mem_flatten.2 ⟨r, hr, (segs_mem hq).2⟩)) with e | e
    · exact absurd e.symm hpq
    · exact e
  have hk := kk_pos hpq
  -- the first part
  obtain ⟨h1, h2, h3, h4⟩ := fold_near (pos p q) (fun x => has p q x 1) p (a.flatten ++ b.flatten).flatten q (by rw [pos_a, pos_b]; exact hk)
  generalize hz : (a.flatten ++ b.flatten).flatten.foldl (cutG (pos p q) (fun x => has p q x 1) p) q = z at *
  rw [pos_a] at h2
  rw [pos_b] at h3
  have hzl : cr p q z 1 = 0 := by
    rcases h1 with e | ⟨-, e⟩
    · rw [e]; exact cr_b _ _
    · exact e.1
  have hcz : Cut p q (a.flatten ++ b.flatten).flatten z := by
    rcases h1 with e | ⟨e1, e2⟩
    · exact .inr (.inl e)
    · exact .inr (.inr ⟨e1, e2⟩)
  have hm : midOf p z ∈ mids (p, q) (a.flatten ++ b.flatten) := by
    rw [mem_mids hpq]
    refine ⟨p, z, ⟨.inl rfl, hcz, by rw [pos_a]; exact h2, ?_⟩, rfl⟩
    intro c hc
    rw [pos_a]
    rcases hc with rfl | rfl | ⟨e1, e2⟩
    · rw [pos_a]; omega
    · rw [pos_b]; omega
    · have := h4 c e1 e2
      rw [pos_a] at this
      exact this
  obtain ⟨t, ht, hh, htn⟩ := atBounds_none h (mem_edges.2 ⟨r, hr, hq⟩) hm
  obtain ⟨o, ho, hto⟩ := mem_edges.1 ht
  have htl := hb.long o ho t hto
  have hh' : has t.1 t.2 (midOf p z).1 2 := hh
  have hk2 := kk_pos htl
  obtain ⟨g0, g1, g2⟩ := (has_on htl (by omega)).1 hh'
  -- both of the other's ends lie on the line
  have hpar : (q.1 - p.1) * (t.2.2 - t.1.2) - (q.2 - p.2) * (t.2.1 - t.1.1) = 0 := htn
  have hmid : cr p q (midOf p z).1 2 = 0 := by rw [cr_mid, cr_a, hzl]; rfl
  have lin : ∀ x : Int, kk t.1 t.2 * x = 0 → x = 0 := by
    intro x e
    rcases Int.mul_eq_zero.1 e with e | e
    · omega
    · exact e
  have e1 : dt t.1 t.2 (midOf p z).1 2 * (t.2.1 - t.1.1) = ((midOf p z).1.1 - t.1.1 * 2) * kk t.1 t.2 := by unfold cr at g0; unfold dt kk; grind
  have e2 : dt t.1 t.2 (midOf p z).1 2 * (t.2.2 - t.1.2) = ((midOf p z).1.2 - t.1.2 * 2) * kk t.1 t.2 := by unfold cr at g0; unfold dt kk; grind
  have c2 : cr p q t.1 1 * 2 = 0 := by
    apply lin
    generalize dt t.1 t.2 (midOf p z).1 2 = T at *
    generalize kk t.1 t.2 = K at *
    generalize (midOf p z).1 = M at *
    unfold cr at *
    grind
  have c1 : cr p q t.1 1 = 0 := by omega
  have c3 : cr p q t.2 1 = 0 := by
    have : cr p q t.2 1 - cr p q t.1 1 = (q.1 - p.1) * (t.2.2 - t.1.2) - (q.2 - p.2) * (t.2.1 - t.1.1) := by unfold cr; grind
    omega
  -- places
  have ep : dt p q (midOf p z).1 2 = pos p q z := by
    have : dt p q (midOf p z).1 2 = pos p q p + pos p q z := by unfold midOf pos dt; grind
    rw [this, pos_a]; omega
  have et : (dt p q (midOf p z).1 2 - 2 * pos p q t.1) * kk t.1 t.2 = dt t.1 t.2 (midOf p z).1 2 * (pos p q t.2 - pos p q t.1) := by
    generalize dt t.1 t.2 (midOf p z).1 2 = T at *
    generalize kk t.1 t.2 = K at *
    unfold pos dt at *
    grind
  -- an end at or before the middle
  have key : ∃ c, c ∈ o ∧ cr p q c 1 = 0 ∧ 2 * pos p q c ≤ pos p q z := by
    rcases Int.le_total (pos p q t.1) (pos p q t.2) with k | k
    · refine ⟨t.1, (segs_mem hto).1, c1, ?_⟩
      have : 0 ≤ dt t.1 t.2 (midOf p z).1 2 * (pos p q t.2 - pos p q t.1) := Int.mul_nonneg g1 (by omega)
      rw [← et, ep] at this
      have := Int.nonneg_of_mul_nonneg_left this hk2
      omega
    · refine ⟨t.2, (segs_mem hto).2, c3, ?_⟩
      have e3 : (dt p q (midOf p z).1 2 - 2 * pos p q t.2) * kk t.1 t.2 = (kk t.1 t.2 * 2 - dt t.1 t.2 (midOf p z).1 2) * (pos p q t.1 - pos p q t.2) := by
        generalize dt p q (midOf p z).1 2 = A at *
        generalize dt t.1 t.2 (midOf p z).1 2 = T at *
        generalize kk t.1 t.2 = K at *
        grind
      have : 0 ≤ (kk t.1 t.2 * 2 - dt t.1 t.2 (midOf p z).1 2) * (pos p q t.1 - pos p q t.2) := Int.mul_nonneg (by omega) (by omega)
      rw [← e3, ep] at this
      have := Int.nonneg_of_mul_nonneg_left this hk2
      omega
  obtain ⟨c, hco, hcl, hc2⟩ := key
  have hcb : c ∈ b.flatten.flatten := List.mem_flatten.2 ⟨o, ho, hco⟩
  have hcp : c ≠ p := fun e => hn (e ▸ hcb)
  rcases hl c (.inr hcb) with e | e
  · exact hcp e
  · have hpos := (bef_pos' hbq (cr_a p q) hcl).1 e
    rw [pos_a] at hpos
    have hci : c ∈ (a.flatten ++ b.flatten).flatten := by
      rw [List.flatten_append, List.mem_append]; exact .inr hcb
    have hch : has p q c 1 := by
      rw [has_on hpq (by omega)]
      exact ⟨hcl, by show 0 ≤ pos p q c; omega, by show pos p q c ≤ _; omega⟩
    have := h4 c hci hch
    rw [pos_a] at this
    exact this ⟨hpos, by omega⟩
theorem rg_mv {X : Mult} (h : RG X) (v : Pnt) : RG (mvM v X) := by
  have ef : (mvM v X).flatten = mvL v X.flatten := by unfold mvM mvL; rw [List.map_flatten]
  constructor
  · intro r hr s hs
    rw [ef] at hr
    obtain ⟨r0, h0, rfl⟩ := List.mem_map.1 hr
    rw [segs_mv] at hs
    obtain ⟨s0, h1, rfl⟩ := List.mem_map.1 hs
    exact fun e => h.long r0 h0 s0 h1 (mv_inj.1 e)
  · intro r hr p hp
    rw [ef] at hr
    obtain ⟨r0, h0, rfl⟩ := List.mem_map.1 hr
    obtain ⟨p0, h1, rfl⟩ := List.mem_map.1 hp
    obtain ⟨q, hq⟩ := h.from_ r0 h0 p0 h1
    refine ⟨mv v q, ?_⟩
    rw [segs_mv]
    exact List.mem_map.2 ⟨(p0, q), hq, rfl⟩
theorem spot_mv {X : Mult} (h : RG X) (hne : X.flatten.flatten ≠ []) {v : Pnt} (hv : v ≠ (0, 0)) : spot X (mvM v X) ≠ none := by
  have h' := rg_mv h v
  have ef : (mvM v X).flatten.flatten = X.flatten.flatten.map (mv v) := by
    have : (mvM v X).flatten = mvL v X.flatten := by unfold mvM mvL; rw [List.map_flatten]
    rw [this, flat_mv]
  obtain ⟨p, hp, hl⟩ := least_of hne
  have hl2 : ∀ q ∈ (mvM v X).flatten.flatten, q = mv v p ∨ bef (mv v p) q := by
    intro q hq
    rw [ef] at hq
    obtain ⟨q0, h0, rfl⟩ := List.mem_map.1 hq
    rcases hl q0 h0 with e | e
    · exact .inl (by rw [e])
    · exact .inr (bef_mv.2 e)
  have hpy : mv v p ∈ (mvM v X).flatten.flatten := by rw [ef]; exact List.mem_map_of_mem hp
  have hne2 : mv v p ≠ p := by
    intro e
    unfold mv at e
    have e1 := congrArg Prod.fst e
    have e2 := congrArg Prod.snd e
    simp only at e1 e2
    exact hv (Prod.ext (by simp only; omega) (by simp only; omega))
  unfold spot
  rcases bef_tri p (mv v p) with k | k | k
  · have := parted_at h h' hp (fun e => by
      rcases hl2 p e with g | g
      · exact hne2 g.symm
      · exact bef_irr g k) (fun q hq => by
      rcases hq with hq | hq
      · exact hl q hq
      · rcases hl2 q hq with e | e
        · rw [e]; exact .inr k
        · exact .inr (bef_trans k e))
    cases hs : atBounds X (mvM v X) with
    | none => exact absurd hs this
    | some s => simp
  · exact absurd k.symm hne2
  · have := parted_at h' h hpy (fun e => by
      rcases hl (mv v p) e with g | g
      · exact hne2 g
      · exact bef_irr g k) (fun q hq => by
      rcases hq with hq | hq
      · exact hl2 q hq
      · rcases hl q hq with e | e
        · rw [e]; exact .inr k
        · exact .inr (bef_trans k e))
    cases hs : atBounds X (mvM v X) with
    | none => exact this
    | some s => simp
end Vd
end Go.Proofs.YtcclepohmhdpbaaGreatDoor
