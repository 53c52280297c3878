import Derived.WalkKit
/- THE PLAIN MATHEMATICS: sets of polygons as lists; which are wrong. Nothing of the dump. -/
namespace Go.Proofs.YtcclepohmhdpbabGreatDoor
set_option linter.all false

abbrev Pnt := Int × Int
abbrev Ring := List Pnt
abbrev Poly := List Ring
abbrev Mult := List Poly

namespace Pl

def farC (x : Int) : Bool := decide (32768 < x) || decide (x < -32768)
def wideP (p : Pnt) : Bool := farC p.1 || farC p.2
def wideR (r : Ring) : Bool := r.any wideP
def wideL (l : Poly) : Bool := l.any wideR
def badR (r : Ring) : Bool := decide (r.length < 4) || !(decide (r.head? = r.getLast?))
def badRs (l : Poly) : Bool := l.any badR
def badL (l : Poly) : Bool := l.isEmpty || badRs l
def nR (m : Mult) : Nat := (m.map List.length).sum
def nPl (l : Poly) : Nat := (l.map List.length).sum
def nP (m : Mult) : Nat := (m.map nPl).sum
def many (m : Mult) : Bool := decide (8 < m.length) || decide (12 < nR m) || decide (100 < nP m)
def wrong (m : Mult) : Int := if many m = true then 6 else if m.any badL = true then 5 else if m.any wideL = true then 4 else 0

/-- the sizes that a script can bring about. -/
structure Bd (m : Mult) : Prop where
  len : m.length ≤ 1048576
  poly : ∀ l ∈ m, l.length ≤ 1048576
  ring : ∀ l ∈ m, ∀ r ∈ l, r.length ≤ 1048576

theorem take_one {α : Type} {l : List α} {k : Nat} {x : α} (h : l[k]? = some x) : l.take (k + 1) = l.take k ++ [x] := by
  rw [List.take_succ, h]; rfl

theorem lt_of_some {α : Type} {l : List α} {k : Nat} {x : α} (h : l[k]? = some x) : k < l.length := by
  rcases Nat.lt_or_ge k l.length with g | g
  · exact g
  · rw [List.getElem?_eq_none g] at h; cases h

theorem mem_of_some {α : Type} {l : List α} {k : Nat} {x : α} (h : l[k]? = some x) : x ∈ l := List.mem_of_getElem? h

theorem some_of_lt {α : Type} {l : List α} {k : Nat} (h : k < l.length) : ∃ x, l[k]? = some x := ⟨l[k], List.getElem?_eq_getElem h⟩

theorem any_take_succ {α : Type} {l : List α} {k : Nat} {x : α} (p : α → Bool) (h : l[k]? = some x) : (l.take (k + 1)).any p = ((l.take k).any p || p x) := by
  rw [take_one h]; simp

theorem any_true_of {α : Type} {l : List α} {k : Nat} {x : α} (p : α → Bool) (h : l[k]? = some x) (hp : p x = true) : l.any p = true :=
  List.any_eq_true.2 ⟨x, mem_of_some h, hp⟩

theorem sum_take_le (l : List Nat) (k : Nat) : (l.take k).sum ≤ l.sum := by
  conv => rhs; rw [← List.take_append_drop k l, List.sum_append]
  omega

theorem nR_take {m : Mult} {k : Nat} {l : Poly} (h : m[k]? = some l) : nR (m.take (k + 1)) = nR (m.take k) + l.length := by
  unfold nR; rw [take_one h]; simp

theorem nP_take {m : Mult} {k : Nat} {l : Poly} (h : m[k]? = some l) : nP (m.take (k + 1)) = nP (m.take k) + nPl l := by
  unfold nP; rw [take_one h]; simp

theorem nPl_take {l : Poly} {k : Nat} {r : Ring} (h : l[k]? = some r) : nPl (l.take (k + 1)) = nPl (l.take k) + r.length := by
  unfold nPl; rw [take_one h]; simp

theorem nR_le (m : Mult) (k : Nat) : nR (m.take k) ≤ nR m := by
  unfold nR; rw [List.map_take]; exact sum_take_le _ _
theorem nP_le (m : Mult) (k : Nat) : nP (m.take k) ≤ nP m := by
  unfold nP; rw [List.map_take]; exact sum_take_le _ _
theorem nPl_le (l : Poly) (k : Nat) : nPl (l.take k) ≤ nPl l := by
  unfold nPl; rw [List.map_take]; exact sum_take_le _ _

theorem sum_le_mul {l : List Nat} {b : Nat} (h : ∀ x ∈ l, x ≤ b) : l.sum ≤ l.length * b := by
  induction l with
  | nil => simp
  | cons a t ih =>
    have h1 := h a (by simp)
    have h2 := ih (fun x hx => h x (by simp [hx]))
    rw [List.sum_cons, List.length_cons, Nat.add_mul]; omega

theorem nPl_bd {m : Mult} (hb : Bd m) {l : Poly} (hl : l ∈ m) (k : Nat) : nPl (l.take k) ≤ k * 1048576 := by
  unfold nPl
  refine Nat.le_trans (sum_le_mul (b := 1048576) ?_) ?_
  · intro x hx
    obtain ⟨r, hr, rfl⟩ := List.mem_map.1 hx
    exact hb.ring l hl r (List.mem_of_mem_take hr)
  · rw [List.length_map, List.length_take]; exact Nat.mul_le_mul_right _ (Nat.min_le_left _ _)

theorem nP_bd {m : Mult} (hb : Bd m) (k : Nat) : nP (m.take k) ≤ k * 1099511627776 := by
  unfold nP
  refine Nat.le_trans (sum_le_mul (b := 1099511627776) ?_) ?_
  · intro x hx
    obtain ⟨l, hl, rfl⟩ := List.mem_map.1 hx
    have hl' := List.mem_of_mem_take hl
    have h1 := nPl_bd hb hl' l.length
    have h2 := hb.poly l hl'
    rw [List.take_length] at h1; omega
  · rw [List.length_map, List.length_take]; exact Nat.mul_le_mul_right _ (Nat.min_le_left _ _)

theorem nR_bd {m : Mult} (hb : Bd m) (k : Nat) : nR (m.take k) ≤ k * 1048576 := by
  unfold nR
  refine Nat.le_trans (sum_le_mul (b := 1048576) ?_) ?_
  · intro x hx
    obtain ⟨l, hl, rfl⟩ := List.mem_map.1 hx
    exact hb.poly l (List.mem_of_mem_take hl)
  · rw [List.length_map, List.length_take]; exact Nat.mul_le_mul_right _ (Nat.min_le_left _ _)

theorem badR_long {r : Ring} {p q : Pnt} (h4 : ¬ r.length < 4) (h0 : r[0]? = some p) (h1 : r[r.length - 1]? = some q) : badR r = !(decide (p = q)) := by
  unfold badR
  rw [List.head?_eq_getElem?, List.getLast?_eq_getElem?, h0, h1]
  simp [h4]

end Pl
end Go.Proofs.YtcclepohmhdpbabGreatDoor

/- VALIDITY, PLAINLY: segments and points over the integers. -/
namespace Go.Proofs.YtcclepohmhdpbabGreatDoor
set_option linter.all false
namespace Vd
/-- The cross product of the way from a to b and the way from a to p/w (times w). -/
def cr (a b p : Pnt) (w : Int) : Int := (b.1 - a.1) * (p.2 - a.2 * w) - (b.2 - a.2) * (p.1 - a.1 * w)
def dt (a b p : Pnt) (w : Int) : Int := (p.1 - a.1 * w) * (b.1 - a.1) + (p.2 - a.2 * w) * (b.2 - a.2)
def kk (a b : Pnt) : Int := (b.1 - a.1) * (b.1 - a.1) + (b.2 - a.2) * (b.2 - a.2)
def btw (e m o : Int) : Prop := (e ≤ m ∧ m ≤ o) ∨ (o ≤ m ∧ m ≤ e)
def has (a b p : Pnt) (w : Int) : Prop := cr a b p w = 0 ∧ btw (a.1 * w) p.1 (b.1 * w) ∧ btw (a.2 * w) p.2 (b.2 * w)
def on (a b p : Pnt) (w : Int) : Prop := cr a b p w = 0 ∧ 0 ≤ dt a b p w ∧ dt a b p w ≤ kk a b * w

theorem nn {x y : Int} (hx : 0 ≤ x) (hy : 0 ≤ y) : 0 ≤ x * y := Int.mul_nonneg hx hy
theorem sq_nn (x : Int) : 0 ≤ x * x := by
  rcases Int.le_total 0 x with h | h
  · exact nn h h
  · have := nn (x := -x) (y := -x) (by omega) (by omega)
    rw [Int.neg_mul_neg] at this; exact this
theorem sq_pos {x : Int} (h : x ≠ 0) : 0 < x * x := by
  have := sq_nn x
  have h2 : x * x ≠ 0 := fun e => h (by simpa using Int.mul_eq_zero.1 e)
  omega
theorem kk_pos {a b : Pnt} (h : a ≠ b) : 0 < kk a b := by
  unfold kk
  by_cases h1 : b.1 - a.1 = 0
  · have h2 : b.2 - a.2 ≠ 0 := fun e => h (Prod.ext (by omega) (by omega))
    have := sq_pos h2; have := sq_nn (b.1 - a.1); omega
  · have := sq_pos h1; have := sq_nn (b.2 - a.2); omega

/-- What lies between, times the way itself. -/
theorem btw_dot {u v w : Int} (hw : 0 < w) (h : btw 0 v (u * w)) : 0 ≤ v * u ∧ v * u ≤ u * u * w := by
  rcases h with ⟨h1, h2⟩ | ⟨h1, h2⟩
  · have hu : 0 ≤ u := by
      rcases Int.lt_or_le u 0 with g | g
      · have : u * w < 0 := Int.mul_neg_of_neg_of_pos g hw
        omega
      · exact g
    refine ⟨nn h1 hu, ?_⟩
    have := Int.mul_le_mul_of_nonneg_right h2 hu
    have e : u * w * u = u * u * w := by grind
    omega
  · have hu : u ≤ 0 := by
      rcases Int.lt_or_le 0 u with g | g
      · have : 0 < u * w := Int.mul_pos g hw
        omega
      · exact g
    refine ⟨by have := nn (x := -v) (y := -u) (by omega) (by omega); rw [Int.neg_mul_neg] at this; exact this, ?_⟩
    have := Int.mul_le_mul_of_nonpos_right h1 hu
    have e : u * w * u = u * u * w := by grind
    omega

theorem dot_btw {u v k d w : Int} (hk : 0 < k) (e : d * u = v * k) (h0 : 0 ≤ d) (h1 : d ≤ k * w) : btw 0 v (u * w) := by
  rcases Int.le_total 0 u with hu | hu
  · left
    constructor
    · have := nn h0 hu
      rw [e] at this
      exact Int.nonneg_of_mul_nonneg_left this hk
    · have := Int.mul_le_mul_of_nonneg_right h1 hu
      rw [e] at this
      have e2 : k * w * u = u * w * k := by grind
      rw [e2] at this
      exact Int.le_of_mul_le_mul_right this hk
  · right
    constructor
    · have := Int.mul_le_mul_of_nonpos_right h1 hu
      rw [e] at this
      have e2 : k * w * u = u * w * k := by grind
      rw [e2] at this
      exact Int.le_of_mul_le_mul_right this hk
    · have := nn (x := d) (y := -u) h0 (by omega)
      have e2 : d * -u = -v * k := by grind
      rw [e2] at this
      have := Int.nonneg_of_mul_nonneg_left this hk
      omega

theorem btw_sub {a p b w : Int} : btw (a * w) p (b * w) ↔ btw 0 (p - a * w) ((b - a) * w) := by
  have e : (b - a) * w = b * w - a * w := by grind
  unfold btw
  rw [e]
  omega

/-- G3: the program's Has is the document's on. -/
theorem has_on {a b p : Pnt} {w : Int} (h : a ≠ b) (hw : 0 < w) : has a b p w ↔ on a b p w := by
  have hk := kk_pos h
  constructor
  · rintro ⟨h0, h1, h2⟩
    have g1 := btw_dot hw (btw_sub.1 h1)
    have g2 := btw_dot hw (btw_sub.1 h2)
    refine ⟨h0, ?_, ?_⟩
    · unfold dt; omega
    · have e : kk a b * w = (b.1 - a.1) * (b.1 - a.1) * w + (b.2 - a.2) * (b.2 - a.2) * w := by unfold kk; grind
      rw [e]; unfold dt; omega
  · rintro ⟨h0, h1, h2⟩
    have e1 : dt a b p w * (b.1 - a.1) = (p.1 - a.1 * w) * kk a b := by unfold cr at h0; unfold dt kk; grind
    have e2 : dt a b p w * (b.2 - a.2) = (p.2 - a.2 * w) * kk a b := by unfold cr at h0; unfold dt kk; grind
    exact ⟨h0, btw_sub.2 (dot_btw hk e1 h1 h2), btw_sub.2 (dot_btw hk e2 h1 h2)⟩
end Vd
end Go.Proofs.YtcclepohmhdpbabGreatDoor

/- VALIDITY, PLAINLY: how two segments meet. -/
namespace Go.Proofs.YtcclepohmhdpbabGreatDoor
set_option linter.all false
namespace Vd
def bef (p q : Pnt) : Prop := p.1 < q.1 ∨ (p.1 = q.1 ∧ p.2 < q.2)
instance (p q : Pnt) : Decidable (bef p q) := by unfold bef; infer_instance
def fwd (a b : Pnt) : Pnt × Pnt := if bef b a then (b, a) else (a, b)
def onLine (s t : Pnt × Pnt) : Int :=
  let f := if bef s.1 t.1 then t.1 else s.1
  let l := if bef t.2 s.2 then t.2 else s.2
  if bef f l then 3 else if f = l then 1 else 0

/-- The place along the way from a to b. -/
def pos (a b x : Pnt) : Int := dt a b x 1

theorem pos_a (a b : Pnt) : pos a b a = 0 := by unfold pos dt; grind
theorem pos_b (a b : Pnt) : pos a b b = kk a b := by unfold pos dt kk; grind

/-- On the line, the order of points is that of their places, or the opposite. -/
theorem bef_pos {a b x y : Pnt} (h : a ≠ b) (hx : cr a b x 1 = 0) (hy : cr a b y 1 = 0) :
    (bef a b → (bef x y ↔ pos a b x < pos a b y)) ∧ (bef b a → (bef x y ↔ pos a b y < pos a b x)) := by
  have hk := kk_pos h
  have e1 : (pos a b y - pos a b x) * (b.1 - a.1) = (y.1 - x.1) * kk a b := by unfold cr at hx hy; unfold pos dt kk; grind
  have e2 : (pos a b y - pos a b x) * (b.2 - a.2) = (y.2 - x.2) * kk a b := by unfold cr at hx hy; unfold pos dt kk; grind
  obtain ⟨D, hD⟩ : ∃ D, D = pos a b y - pos a b x := ⟨_, rfl⟩
  obtain ⟨K, hK⟩ : ∃ K, K = kk a b := ⟨_, rfl⟩
  rw [← hD, ← hK] at e1 e2
  rw [← hK] at hk
  have sgn : ∀ {u z : Int}, 0 < u → D * u = z * K → (0 < D ↔ 0 < z) ∧ (D = 0 ↔ z = 0) ∧ (D < 0 ↔ z < 0) := by
    intro u z hu e
    have p1 : 0 < D → 0 < z := fun g => by
      have := Int.mul_pos g hu
      rw [e] at this
      exact Int.pos_of_mul_pos_left this hk |> fun h => h
    have p2 : D = 0 → z = 0 := fun g => by
      rw [g, Int.zero_mul] at e
      rcases Int.mul_eq_zero.1 e.symm with q | q <;> omega
    have p3 : D < 0 → z < 0 := fun g => by
      have := Int.mul_neg_of_neg_of_pos g hu
      rw [e] at this
      rcases Int.lt_or_le z 0 with q | q
      · exact q
      · have := nn q (Int.le_of_lt hk); omega
    omega
  have t1 : (bef x y ↔ 0 < y.1 - x.1 ∨ (y.1 - x.1 = 0 ∧ 0 < y.2 - x.2)) := by unfold bef; omega
  have t2 : pos a b x < pos a b y ↔ 0 < D := by omega
  have t3 : pos a b y < pos a b x ↔ D < 0 := by omega
  rw [t1, t2, t3]
  constructor
  · rintro (g | ⟨g, g'⟩)
    · have := sgn (u := b.1 - a.1) (by omega) e1
      constructor
      · rintro (q | ⟨q, q'⟩)
        · omega
        · have hz : D = 0 := by omega
          rw [hz, Int.zero_mul] at e2
          rcases Int.mul_eq_zero.1 e2.symm with q | q <;> omega
      · intro q; left; omega
    · have := sgn (u := b.2 - a.2) (by omega) e2
      have hz : y.1 - x.1 = 0 := by
        rw [show b.1 - a.1 = 0 by omega, Int.mul_zero] at e1
        rcases Int.mul_eq_zero.1 e1.symm with q | q <;> omega
      omega
  · rintro (g | ⟨g, g'⟩)
    · have := sgn (u := a.1 - b.1) (z := -(y.1 - x.1)) (by omega) (by grind)
      constructor
      · rintro (q | ⟨q, q'⟩)
        · omega
        · have hz : D = 0 := by omega
          rw [hz, Int.zero_mul] at e2
          rcases Int.mul_eq_zero.1 e2.symm with q | q <;> omega
      · intro q; left; omega
    · have := sgn (u := a.2 - b.2) (z := -(y.2 - x.2)) (by omega) (by grind)
      have hz : y.1 - x.1 = 0 := by
        rw [show b.1 - a.1 = 0 by omega, Int.mul_zero] at e1
        rcases Int.mul_eq_zero.1 e1.symm with q | q <;> omega
      omega
theorem bef_tri (p q : Pnt) : bef p q ∨ p = q ∨ bef q p := by
  unfold bef
  by_cases h1 : p.1 = q.1
  · by_cases h2 : p.2 = q.2
    · exact .inr (.inl (Prod.ext h1 h2))
    · omega
  · omega
theorem bef_irr {p q : Pnt} (h : bef p q) (k : bef q p) : False := by unfold bef at h k; omega
theorem bef_ne {p q : Pnt} (h : bef p q) : p ≠ q := by rintro rfl; exact bef_irr h h

/-- What the document says of two segments on one line: the places of the other's ends. -/
def count (k p q : Int) : Int := if q < 0 ∨ k < p then 0 else if q = 0 ∨ p = k then 1 else 2
end Vd
end Go.Proofs.YtcclepohmhdpbabGreatDoor

/- VALIDITY, PLAINLY: Meet against common. -/
namespace Go.Proofs.YtcclepohmhdpbabGreatDoor
set_option linter.all false
namespace Vd
theorem cr_a (a b : Pnt) : cr a b a 1 = 0 := by unfold cr; grind
theorem cr_b (a b : Pnt) : cr a b b 1 = 0 := by unfold cr; grind

section
variable {f : Pnt → Int} {S : Pnt → Prop} (hf : ∀ x y, S x → S y → (bef x y ↔ f x < f y))
include hf
theorem eq_f {x y : Pnt} (hx : S x) (hy : S y) : x = y ↔ f x = f y := by
  constructor
  · rintro rfl; rfl
  · intro e
    rcases bef_tri x y with h | h | h
    · have := (hf x y hx hy).1 h; omega
    · exact h
    · have := (hf y x hy hx).1 h; omega
theorem fwd_f {a b : Pnt} (ha : S a) (hb : S b) : S (fwd a b).1 ∧ S (fwd a b).2 ∧ f (fwd a b).1 = min (f a) (f b) ∧ f (fwd a b).2 = max (f a) (f b) := by
  unfold fwd
  have := hf b a hb ha
  by_cases h : bef b a
  · have h' := this.1 h
    rw [if_pos h]; exact ⟨hb, ha, by simp only; omega, by simp only; omega⟩
  · have h' : ¬ f b < f a := fun q => h (this.2 q)
    rw [if_neg h]; exact ⟨ha, hb, by simp only; omega, by simp only; omega⟩
theorem onLine_f {s t : Pnt × Pnt} (h1 : S s.1) (h2 : S s.2) (h3 : S t.1) (h4 : S t.2) :
    onLine s t = if max (f s.1) (f t.1) < min (f s.2) (f t.2) then 3 else if max (f s.1) (f t.1) = min (f s.2) (f t.2) then 1 else 0 := by
  have e1 : S (if bef s.1 t.1 then t.1 else s.1) ∧ f (if bef s.1 t.1 then t.1 else s.1) = max (f s.1) (f t.1) := by
    have := hf _ _ h1 h3
    by_cases h : bef s.1 t.1
    · have h' := this.1 h
      rw [if_pos h]; exact ⟨h3, by omega⟩
    · have h' := mt this.2 h
      rw [if_neg h]; exact ⟨h1, by omega⟩
  have e2 : S (if bef t.2 s.2 then t.2 else s.2) ∧ f (if bef t.2 s.2 then t.2 else s.2) = min (f s.2) (f t.2) := by
    have := hf _ _ h4 h2
    by_cases h : bef t.2 s.2
    · have h' := this.1 h
      rw [if_pos h]; exact ⟨h4, by omega⟩
    · have h' := mt this.2 h
      rw [if_neg h]; exact ⟨h2, by omega⟩
  unfold onLine
  simp only [hf _ _ e1.1 e2.1, eq_f hf e1.1 e2.1, e1.2, e2.2]
end

/-- How two segments on one line meet, by the places of the other's ends. -/
theorem onLine_count {a b c d : Pnt} (hab : a ≠ b) (hcd : c ≠ d) (hc : cr a b c 1 = 0) (hd : cr a b d 1 = 0) :
    onLine (fwd a b) (fwd c d) = if count (kk a b) (min (pos a b c) (pos a b d)) (max (pos a b c) (pos a b d)) = 2 then 3 else count (kk a b) (min (pos a b c) (pos a b d)) (max (pos a b c) (pos a b d)) := by
  have hk := kk_pos hab
  have pa := pos_a a b
  have pb := pos_b a b
  have ha := cr_a a b
  have hb := cr_b a b
  rcases bef_tri a b with h | h | h
  · have hf : ∀ x y, cr a b x 1 = 0 → cr a b y 1 = 0 → (bef x y ↔ pos a b x < pos a b y) := fun x y hx hy => (bef_pos hab hx hy).1 h
    obtain ⟨s1, s2, s3, s4⟩ := fwd_f (S := fun x => cr a b x 1 = 0) hf ha hb
    obtain ⟨t1, t2, t3, t4⟩ := fwd_f (S := fun x => cr a b x 1 = 0) hf hc hd
    have hne : pos a b c ≠ pos a b d := fun e => hcd ((eq_f (S := fun x => cr a b x 1 = 0) hf hc hd).2 e)
    rw [onLine_f (S := fun x => cr a b x 1 = 0) hf s1 s2 t1 t2, s3, s4, t3, t4, pa, pb]
    unfold count
    repeat' split
    all_goals omega
  · exact absurd h hab
  · have hf : ∀ x y, cr a b x 1 = 0 → cr a b y 1 = 0 → (bef x y ↔ - pos a b x < - pos a b y) := fun x y hx hy => by
      rw [(bef_pos hab hx hy).2 h]; omega
    obtain ⟨s1, s2, s3, s4⟩ := fwd_f (f := fun x => - pos a b x) (S := fun x => cr a b x 1 = 0) hf ha hb
    obtain ⟨t1, t2, t3, t4⟩ := fwd_f (f := fun x => - pos a b x) (S := fun x => cr a b x 1 = 0) hf hc hd
    have hne : pos a b c ≠ pos a b d := fun e => hcd ((eq_f (f := fun x => - pos a b x) (S := fun x => cr a b x 1 = 0) hf hc hd).2 (by omega))
    rw [onLine_f (f := fun x => - pos a b x) (S := fun x => cr a b x 1 = 0) hf s1 s2 t1 t2]
    rw [s3, s4, t3, t4, pa, pb]
    unfold count
    repeat' split
    all_goals omega

def sg (n : Int) : Int := if n > 0 then 1 else if n < 0 then -1 else 0
def meet (a b c d : Pnt) : Int :=
  let sA := sg (cr a b c 1)
  let sB := sg (cr a b d 1)
  let oA := sg (cr c d a 1)
  let oB := sg (cr c d b 1)
  if sA = 0 ∧ sB = 0 ∧ oA = 0 ∧ oB = 0 then onLine (fwd a b) (fwd c d)
  else if sA * sB > 0 ∨ oA * oB > 0 then 0
  else if sA * sB * oA * oB = 0 then 1 else 2

/-- The document's common: how many, and the end of neither. -/
def nn3 (a b c d : Pnt) : Int := (b.1 - a.1) * (d.2 - c.2) - (b.2 - a.2) * (d.1 - c.1)
def common (a b c d : Pnt) : Int × Bool :=
  let n := nn3 a b c d
  let s := (c.1 - a.1) * (d.2 - c.2) - (c.2 - a.2) * (d.1 - c.1)
  let t := (c.1 - a.1) * (b.2 - a.2) - (c.2 - a.2) * (b.1 - a.1)
  if n = 0 then
    if t ≠ 0 then (0, false) else (count (kk a b) (min (pos a b c) (pos a b d)) (max (pos a b c) (pos a b d)), false)
  else
    let n' := if n < 0 then -n else n
    let s' := if n < 0 then -s else s
    let t' := if n < 0 then -t else t
    if s' < 0 ∨ n' < s' ∨ t' < 0 ∨ n' < t' then (0, false) else (1, decide (0 < s' ∧ s' < n' ∧ 0 < t' ∧ t' < n'))
end Vd
end Go.Proofs.YtcclepohmhdpbabGreatDoor

/- VALIDITY, PLAINLY: Meet against common, whole. -/
namespace Go.Proofs.YtcclepohmhdpbabGreatDoor
set_option linter.all false
namespace Vd
/-- How they meet, by the document's count. -/
def how (x : Int × Bool) : Int := if x.1 = 2 then 3 else if x.2 then 2 else x.1

theorem sg_cases (n : Int) : (0 < n ∧ sg n = 1) ∨ (n = 0 ∧ sg n = 0) ∨ (n < 0 ∧ sg n = -1) := by
  unfold sg
  rcases Int.lt_trichotomy n 0 with h | h | h
  · right; right; exact ⟨h, by rw [if_neg (by omega), if_pos h]⟩
  · right; left; exact ⟨h, by rw [if_neg (by omega), if_neg (by omega)]⟩
  · left; exact ⟨h, by rw [if_pos h]⟩

/-- The signs against the parts, n above 0. -/
theorem core1 {n s t X : Int} (h : 0 < n) :
    (if sg (-t) = 0 ∧ sg (n - t) = 0 ∧ sg s = 0 ∧ sg (s - n) = 0 then X else if sg (-t) * sg (n - t) > 0 ∨ sg s * sg (s - n) > 0 then 0 else if sg (-t) * sg (n - t) * sg s * sg (s - n) = 0 then 1 else 2) =
    how (if s < 0 ∨ n < s ∨ t < 0 ∨ n < t then (0, false) else (1, decide (0 < s ∧ s < n ∧ 0 < t ∧ t < n))) := by
  by_cases C : s < 0 ∨ n < s ∨ t < 0 ∨ n < t
  · rw [if_pos C]
    rcases sg_cases (-t) with ⟨g1, k1⟩ | ⟨g1, k1⟩ | ⟨g1, k1⟩ <;> rcases sg_cases (n - t) with ⟨g2, k2⟩ | ⟨g2, k2⟩ | ⟨g2, k2⟩ <;>
    rcases sg_cases s with ⟨g3, k3⟩ | ⟨g3, k3⟩ | ⟨g3, k3⟩ <;> rcases sg_cases (s - n) with ⟨g4, k4⟩ | ⟨g4, k4⟩ | ⟨g4, k4⟩ <;>
    first | (exfalso; omega) | (rw [k1, k2, k3, k4]; simp [how])
  · rw [if_neg C]
    by_cases D : 0 < s ∧ s < n ∧ 0 < t ∧ t < n
    · rw [decide_eq_true D]
      rcases sg_cases (-t) with ⟨g1, k1⟩ | ⟨g1, k1⟩ | ⟨g1, k1⟩ <;> rcases sg_cases (n - t) with ⟨g2, k2⟩ | ⟨g2, k2⟩ | ⟨g2, k2⟩ <;>
      rcases sg_cases s with ⟨g3, k3⟩ | ⟨g3, k3⟩ | ⟨g3, k3⟩ <;> rcases sg_cases (s - n) with ⟨g4, k4⟩ | ⟨g4, k4⟩ | ⟨g4, k4⟩ <;>
      first | (exfalso; omega) | (rw [k1, k2, k3, k4]; simp [how])
    · rw [decide_eq_false D]
      rcases sg_cases (-t) with ⟨g1, k1⟩ | ⟨g1, k1⟩ | ⟨g1, k1⟩ <;> rcases sg_cases (n - t) with ⟨g2, k2⟩ | ⟨g2, k2⟩ | ⟨g2, k2⟩ <;>
      rcases sg_cases s with ⟨g3, k3⟩ | ⟨g3, k3⟩ | ⟨g3, k3⟩ <;> rcases sg_cases (s - n) with ⟨g4, k4⟩ | ⟨g4, k4⟩ | ⟨g4, k4⟩ <;>
      first | (exfalso; omega) | (rw [k1, k2, k3, k4]; simp [how])
theorem core2 {n s t X : Int} (h : n < 0) :
    (if sg (-t) = 0 ∧ sg (n - t) = 0 ∧ sg s = 0 ∧ sg (s - n) = 0 then X else if sg (-t) * sg (n - t) > 0 ∨ sg s * sg (s - n) > 0 then 0 else if sg (-t) * sg (n - t) * sg s * sg (s - n) = 0 then 1 else 2) =
    how (if -s < 0 ∨ -n < -s ∨ -t < 0 ∨ -n < -t then (0, false) else (1, decide (0 < -s ∧ -s < -n ∧ 0 < -t ∧ -t < -n))) := by
  by_cases C : -s < 0 ∨ -n < -s ∨ -t < 0 ∨ -n < -t
  · rw [if_pos C]
    rcases sg_cases (-t) with ⟨g1, k1⟩ | ⟨g1, k1⟩ | ⟨g1, k1⟩ <;> rcases sg_cases (n - t) with ⟨g2, k2⟩ | ⟨g2, k2⟩ | ⟨g2, k2⟩ <;>
    rcases sg_cases s with ⟨g3, k3⟩ | ⟨g3, k3⟩ | ⟨g3, k3⟩ <;> rcases sg_cases (s - n) with ⟨g4, k4⟩ | ⟨g4, k4⟩ | ⟨g4, k4⟩ <;>
    first | (exfalso; omega) | (rw [k1, k2, k3, k4]; simp [how])
  · rw [if_neg C]
    by_cases D : 0 < -s ∧ -s < -n ∧ 0 < -t ∧ -t < -n
    · rw [decide_eq_true D]
      rcases sg_cases (-t) with ⟨g1, k1⟩ | ⟨g1, k1⟩ | ⟨g1, k1⟩ <;> rcases sg_cases (n - t) with ⟨g2, k2⟩ | ⟨g2, k2⟩ | ⟨g2, k2⟩ <;>
      rcases sg_cases s with ⟨g3, k3⟩ | ⟨g3, k3⟩ | ⟨g3, k3⟩ <;> rcases sg_cases (s - n) with ⟨g4, k4⟩ | ⟨g4, k4⟩ | ⟨g4, k4⟩ <;>
      first | (exfalso; omega) | (rw [k1, k2, k3, k4]; simp [how])
    · rw [decide_eq_false D]
      rcases sg_cases (-t) with ⟨g1, k1⟩ | ⟨g1, k1⟩ | ⟨g1, k1⟩ <;> rcases sg_cases (n - t) with ⟨g2, k2⟩ | ⟨g2, k2⟩ | ⟨g2, k2⟩ <;>
      rcases sg_cases s with ⟨g3, k3⟩ | ⟨g3, k3⟩ | ⟨g3, k3⟩ <;> rcases sg_cases (s - n) with ⟨g4, k4⟩ | ⟨g4, k4⟩ | ⟨g4, k4⟩ <;>
      first | (exfalso; omega) | (rw [k1, k2, k3, k4]; simp [how])

theorem meet_common {a b c d : Pnt} (hab : a ≠ b) (hcd : c ≠ d) : meet a b c d = how (common a b c d) := by
  obtain ⟨s, hs⟩ : ∃ s, s = (c.1 - a.1) * (d.2 - c.2) - (c.2 - a.2) * (d.1 - c.1) := ⟨_, rfl⟩
  obtain ⟨t, ht⟩ : ∃ t, t = (c.1 - a.1) * (b.2 - a.2) - (c.2 - a.2) * (b.1 - a.1) := ⟨_, rfl⟩
  obtain ⟨n, hn⟩ : ∃ n, n = nn3 a b c d := ⟨_, rfl⟩
  have e1 : cr a b c 1 = -t := by rw [ht]; unfold cr; grind
  have e2 : cr a b d 1 = n - t := by rw [ht, hn]; unfold cr nn3; grind
  have e3 : cr c d a 1 = s := by rw [hs]; unfold cr; grind
  have e4 : cr c d b 1 = s - n := by rw [hs, hn]; unfold cr nn3; grind
  by_cases h0 : n = 0
  · by_cases h1 : t = 0
    · have h2 : s = 0 := by
        have g1 : s * (b.1 - a.1) = 0 := by rw [hn] at h0; unfold nn3 at h0; rw [hs]; rw [ht] at h1; grind
        have g2 : s * (b.2 - a.2) = 0 := by rw [hn] at h0; unfold nn3 at h0; rw [hs]; rw [ht] at h1; grind
        rcases Int.mul_eq_zero.1 g1 with q | q
        · exact q
        · rcases Int.mul_eq_zero.1 g2 with q' | q'
          · exact q'
          · exact absurd (Prod.ext (by omega) (by omega)) hab
      have hc : cr a b c 1 = 0 := by rw [e1, h1]; rfl
      have hd : cr a b d 1 = 0 := by rw [e2, h0, h1]; rfl
      have m : meet a b c d = onLine (fwd a b) (fwd c d) := by
        unfold meet
        simp [e1, e2, e3, e4, h0, h1, h2, sg]
      rw [m, onLine_count hab hcd hc hd]
      unfold common how
      simp only [← hn, ← ht, h0, h1]
      simp
    · have m : meet a b c d = 0 := by
        unfold meet
        simp only [e1, e2, e3, e4, h0, Int.zero_sub, Int.sub_zero]
        rcases sg_cases (-t) with ⟨g, e⟩ | ⟨g, e⟩ | ⟨g, e⟩
        · simp [e]
        · omega
        · simp [e]
      rw [m]
      unfold common how
      simp only [← hn, ← ht, h0, if_pos, if_pos h1]
      simp [h1]
  · have m : common a b c d = (let n' := if n < 0 then -n else n
        let s' := if n < 0 then -s else s
        let t' := if n < 0 then -t else t
        if s' < 0 ∨ n' < s' ∨ t' < 0 ∨ n' < t' then (0, false) else (1, decide (0 < s' ∧ s' < n' ∧ 0 < t' ∧ t' < n'))) := by
      unfold common
      simp only [← hn, ← ht, ← hs, if_neg h0]
    rw [m]
    have l : meet a b c d = (if sg (-t) = 0 ∧ sg (n - t) = 0 ∧ sg s = 0 ∧ sg (s - n) = 0 then onLine (fwd a b) (fwd c d) else if sg (-t) * sg (n - t) > 0 ∨ sg s * sg (s - n) > 0 then 0 else if sg (-t) * sg (n - t) * sg s * sg (s - n) = 0 then 1 else 2) := by
      unfold meet
      simp only [e1, e2, e3, e4]
    rw [l]
    clear m l e1 e2 e3 e4 hs ht hn
    rcases Int.lt_or_gt_of_ne h0 with hneg | hneg
    · simp only [hneg, if_true]
      exact core2 (by omega)
    · simp only [show ¬ n < 0 by omega, if_false]
      exact core1 (by omega)
end Vd
end Go.Proofs.YtcclepohmhdpbabGreatDoor

/- VALIDITY, PLAINLY: the ray. -/
namespace Go.Proofs.YtcclepohmhdpbabGreatDoor
set_option linter.all false
namespace Vd
theorem cr_swap (a b p : Pnt) (w : Int) : cr b a p w = - cr a b p w := by unfold cr; grind
/-- The program's: meetsRay. -/
def ray (a b p : Pnt) (w : Int) : Bool :=
  if decide (a.2 * w > p.2) = decide (b.2 * w > p.2) then false
  else if b.2 * w > p.2 then decide (sg (cr a b p w) > 0) else decide (sg (cr a b p w) < 0)
/-- The document's. -/
def rayD (a b p : Pnt) (w : Int) : Bool :=
  let lo := if a.2 > b.2 then b else a
  let hi := if a.2 > b.2 then a else b
  decide (lo.2 * w ≤ p.2 ∧ p.2 < hi.2 * w) && decide (cr lo hi p w > 0)
theorem sg_pos (n : Int) : sg n > 0 ↔ n > 0 := by rcases sg_cases n with ⟨h, e⟩ | ⟨h, e⟩ | ⟨h, e⟩ <;> rw [e] <;> omega
theorem sg_neg (n : Int) : sg n < 0 ↔ n < 0 := by rcases sg_cases n with ⟨h, e⟩ | ⟨h, e⟩ | ⟨h, e⟩ <;> rw [e] <;> omega
theorem sg_zero (n : Int) : sg n = 0 ↔ n = 0 := by rcases sg_cases n with ⟨h, e⟩ | ⟨h, e⟩ | ⟨h, e⟩ <;> rw [e] <;> omega
theorem ray_eq {a b p : Pnt} {w : Int} (hw : 0 < w) : ray a b p w = rayD a b p w := by
  unfold ray rayD
  by_cases h : a.2 > b.2
  · have h1 : b.2 * w < a.2 * w := Int.mul_lt_mul_of_pos_right h hw
    simp only [if_pos h, cr_swap a b p w]
    by_cases hb : b.2 * w > p.2
    · rw [if_pos (by rw [decide_eq_true hb, decide_eq_true (show a.2 * w > p.2 by omega)])]
      rw [decide_eq_false (by omega), Bool.false_and]
    · by_cases ha : a.2 * w > p.2
      · rw [if_neg (by rw [decide_eq_true ha, decide_eq_false hb]; simp), if_neg hb, decide_eq_true (show b.2 * w ≤ p.2 ∧ p.2 < a.2 * w by omega), Bool.true_and]
        exact decide_eq_decide.2 (by rw [sg_neg]; omega)
      · rw [if_pos (by rw [decide_eq_false ha, decide_eq_false hb]), decide_eq_false (by omega), Bool.false_and]
  · have h1 : a.2 * w ≤ b.2 * w := Int.mul_le_mul_of_nonneg_right (by omega) (by omega)
    simp only [if_neg h]
    by_cases hb : b.2 * w > p.2
    · by_cases ha : a.2 * w > p.2
      · rw [if_pos (by rw [decide_eq_true ha, decide_eq_true hb]), decide_eq_false (by omega), Bool.false_and]
      · rw [if_neg (by rw [decide_eq_true hb, decide_eq_false ha]; simp), if_pos hb, decide_eq_true (show a.2 * w ≤ p.2 ∧ p.2 < b.2 * w by omega), Bool.true_and]
        exact decide_eq_decide.2 (sg_pos _)
    · rw [if_pos (by rw [decide_eq_false hb, decide_eq_false (show ¬ a.2 * w > p.2 by omega)])]
      rw [decide_eq_false (by omega), Bool.false_and]
end Vd
end Go.Proofs.YtcclepohmhdpbabGreatDoor
