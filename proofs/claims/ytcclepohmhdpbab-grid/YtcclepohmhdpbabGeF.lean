import Derived.Test.YtcclepohmhdpbabGeB
import Derived.Test.YtcclepohmhdpbabPlD
/- GEOMETRY, PLAINLY: a ring, and two points. -/
namespace Go.Proofs.Ytcclepohmhdpbab
set_option linter.all false
namespace Vd
def raysS (l : List Seg) (p : Spot) : Bool := l.foldr (fun s b => ray s.1 s.2 p.1 p.2 ^^ b) false
def xsL (l : List Seg) (p q : Pnt) : Bool := l.foldr (fun s b => decide (Xs p q s.1 s.2) ^^ b) false
theorem raysS_cons (s : Seg) (l : List Seg) (p : Spot) : raysS (s :: l) p = (ray s.1 s.2 p.1 p.2 ^^ raysS l p) := rfl
theorem xsL_cons (s : Seg) (l : List Seg) (p q : Pnt) : xsL (s :: l) p q = (decide (Xs p q s.1 s.2) ^^ xsL l p q) := rfl
theorem raysS_append (a b : List Seg) (p : Spot) : raysS (a ++ b) p = (raysS a p ^^ raysS b p) := by
  induction a with
  | nil => simp [raysS]
  | cons s a ih => rw [List.cons_append, raysS_cons, raysS_cons, ih, Bool.xor_assoc]
theorem xsL_append (a b : List Seg) (p q : Pnt) : xsL (a ++ b) p q = (xsL a p q ^^ xsL b p q) := by
  induction a with
  | nil => simp [xsL]
  | cons s a ih => rw [List.cons_append, xsL_cons, xsL_cons, ih, Bool.xor_assoc]
theorem segs_cons2 (a b : Pnt) (t : Ring) : segs (a :: b :: t) = (a, b) :: segs (b :: t) := rfl
theorem segs_one (a : Pnt) : segs [a] = [] := rfl
/-- No end of the one lies on the other. -/
structure Off (p q a b : Pnt) : Prop where
  ha : ¬ has p q a 1
  hb : ¬ has p q b 1
  hp : ¬ has a b p 1
  hq : ¬ has a b q 1
theorem rays_chain (p q : Pnt) : ∀ (t : Ring) (a : Pnt), (∀ s ∈ segs (a :: t), Off p q s.1 s.2) →
    (raysS (segs (a :: t)) (p, 1) ^^ raysS (segs (a :: t)) (q, 1)) = (xsL (segs (a :: t)) p q ^^ (dRs p q a ^^ dRs p q ((a :: t).getLast (by simp)))) := by
  intro t
  induction t with
  | nil => intro a _; simp [segs_one, raysS, xsL]
  | cons b t ih =>
    intro a h
    rw [segs_cons2] at h
    have h1 := h (a, b) (by simp)
    have k := ih b fun s hs => h s (by simp [hs])
    have e := edge_any h1.ha h1.hb h1.hp h1.hq
    rw [segs_cons2, raysS_cons, raysS_cons, xsL_cons, List.getLast_cons (by simp)]
    simp only at e ⊢
    revert e k
    generalize ray a b p 1 = x1
    generalize ray a b q 1 = x2
    generalize raysS (segs (b :: t)) (p, 1) = x3
    generalize raysS (segs (b :: t)) (q, 1) = x4
    generalize xsL (segs (b :: t)) p q = x5
    generalize decide (Xs p q a b) = x6
    generalize dRs p q a = x7
    generalize dRs p q b = x8
    generalize dRs p q ((b :: t).getLast (by simp)) = x9
    revert x1 x2 x3 x4 x5 x6 x7 x8 x9
    decide
/-- A ring that is shut. -/
def Ends (r : Ring) : Prop := r.head? = r.getLast?
theorem shut_ends {r : Ring} (h : Shut r) : Ends r := by
  have h4 := h.len
  unfold Ends
  rw [List.head?_eq_getElem?, List.getLast?_eq_getElem?, ptAt_get (by omega), ptAt_get (by omega), h.eq]
theorem rays_ring {r : Ring} (hr : Ends r) {p q : Pnt} (h : ∀ s ∈ segs r, Off p q s.1 s.2) : (raysS (segs r) (p, 1) ^^ raysS (segs r) (q, 1)) = xsL (segs r) p q := by
  cases r with
  | nil => rfl
  | cons a t =>
    have k := rays_chain p q t a h
    have e : a = (a :: t).getLast (by simp) := by
      unfold Ends at hr
      rw [List.getLast?_eq_some_getLast (by simp)] at hr
      simpa using hr
    rw [k, ← e]; simp
theorem placeL_rays : ∀ (l : List Seg) (i : Bool) (p : Spot), (∀ s ∈ l, ¬ has s.1 s.2 p.1 p.2) → placeL l i p = if (i ^^ raysS l p) = true then 2 else 0 := by
  intro l
  induction l with
  | nil => intro i p _; simp [placeL, raysS]
  | cons s l ih =>
    intro i p h
    have h1 := h s (by simp)
    unfold placeL
    rw [if_neg (by unfold hasB; simpa using h1), ih _ p fun t ht => h t (by simp [ht]), raysS_cons]
    cases ray s.1 s.2 p.1 p.2 <;> cases i <;> simp
theorem place_rays {r : Ring} {p : Spot} (h : ∀ s ∈ segs r, ¬ has s.1 s.2 p.1 p.2) : place r p = if raysS (segs r) p = true then 2 else 0 := by
  unfold place; rw [placeL_rays _ _ _ h]; simp
theorem xsL_none {l : List Seg} {p q : Pnt} (h : ∀ s ∈ l, ¬ Xs p q s.1 s.2) : xsL l p q = false := by
  induction l with
  | nil => rfl
  | cons s l ih => rw [xsL_cons, ih fun t ht => h t (by simp [ht]), decide_eq_false (h s (by simp))]; rfl
/-- No segment of the ring meets the way from p to q: both lie at one place. -/
theorem place_same {r : Ring} (hr : Ends r) {p q : Pnt} (h : ∀ s ∈ segs r, Off p q s.1 s.2) (hx : ∀ s ∈ segs r, ¬ Xs p q s.1 s.2) : place r (p, 1) = place r (q, 1) := by
  have k := rays_ring hr h
  rw [xsL_none hx] at k
  rw [place_rays (p := (p, 1)) fun s hs => (h s hs).hp, place_rays (p := (q, 1)) fun s hs => (h s hs).hq]
  have : raysS (segs r) (p, 1) = raysS (segs r) (q, 1) := by
    revert k
    generalize raysS (segs r) (p, 1) = x
    generalize raysS (segs r) (q, 1) = y
    cases x <;> cases y <;> simp
  rw [this]
/-- Just one segment of the ring is crossed: the places are opposite. -/
theorem place_flip {r : Ring} (hr : Ends r) {p q : Pnt} (h : ∀ s ∈ segs r, Off p q s.1 s.2) {l1 l2 : List Seg} {t : Seg} (e : segs r = l1 ++ t :: l2) (h1 : ∀ s ∈ l1, ¬ Xs p q s.1 s.2) (h2 : ∀ s ∈ l2, ¬ Xs p q s.1 s.2) (ht : Xs p q t.1 t.2) :
    (place r (p, 1) = 0 ∧ place r (q, 1) = 2) ∨ (place r (p, 1) = 2 ∧ place r (q, 1) = 0) := by
  have k := rays_ring hr h
  have ex : xsL (segs r) p q = true := by rw [e, xsL_append, xsL_cons, xsL_none h1, xsL_none h2, decide_eq_true ht]; rfl
  rw [ex] at k
  rw [place_rays (p := (p, 1)) fun s hs => (h s hs).hp, place_rays (p := (q, 1)) fun s hs => (h s hs).hq]
  revert k
  generalize raysS (segs r) (p, 1) = x
  generalize raysS (segs r) (q, 1) = y
  cases x <;> cases y <;> simp

/-! ### greater and smaller -/
def sc (k : Int) (p : Pnt) : Pnt := (k * p.1, k * p.2)
def scR (k : Int) (r : Ring) : Ring := r.map (sc k)
def scS (k : Int) (s : Seg) : Seg := (sc k s.1, sc k s.2)
theorem cr_sc (k : Int) (a b p : Pnt) (w : Int) : cr (sc k a) (sc k b) p w = k * cr a b p (k * w) := by unfold cr sc; grind
theorem sg_mul {k : Int} (hk : 0 < k) (n : Int) : sg (k * n) = sg n := by
  have s := sgn_of hk (rfl : k * n = k * n)
  rcases sg_cases n with ⟨h, e⟩ | ⟨h, e⟩ | ⟨h, e⟩ <;> rcases sg_cases (k * n) with ⟨h', e'⟩ | ⟨h', e'⟩ | ⟨h', e'⟩ <;> first | omega | (rw [e, e'])
theorem has_sc {k : Int} (hk : 0 < k) (a b p : Pnt) (w : Int) : has (sc k a) (sc k b) p w ↔ has a b p (k * w) := by
  have s := sgn_of hk (rfl : k * cr a b p (k * w) = _)
  have e : ∀ x : Int, k * x * w = x * (k * w) := fun x => by grind
  unfold has
  rw [cr_sc]
  unfold sc
  simp only [e]
  constructor
  · rintro ⟨h1, h2⟩; exact ⟨s.2.2.2 h1, h2⟩
  · rintro ⟨h1, h2⟩; exact ⟨s.2.2.1 h1, h2⟩
theorem ray_sc {k : Int} (hk : 0 < k) (a b p : Pnt) (w : Int) : ray (sc k a) (sc k b) p w = ray a b p (k * w) := by
  have e : ∀ x : Int, k * x * w = x * (k * w) := fun x => by grind
  unfold ray
  rw [cr_sc, sg_mul hk]
  unfold sc
  simp only [e]
theorem segs_sc (k : Int) (r : Ring) : segs (scR k r) = (segs r).map (scS k) := by
  unfold segs scR
  rw [← List.map_tail, List.zip_map]
  rfl
theorem placeL_sc {k : Int} (hk : 0 < k) : ∀ (l : List Seg) (i : Bool) (p : Pnt) (w : Int), placeL (l.map (scS k)) i (p, w) = placeL l i (p, k * w) := by
  intro l
  induction l with
  | nil => intro i p w; rfl
  | cons s l ih =>
    intro i p w
    rw [List.map_cons]
    unfold placeL
    have e1 : hasB (scS k s) (p, w) = hasB s (p, k * w) := decide_eq_decide.2 (has_sc hk s.1 s.2 p w)
    have e2 : ray (scS k s).1 (scS k s).2 p w = ray s.1 s.2 p (k * w) := ray_sc hk s.1 s.2 p w
    rw [e1, ih]
    simp only [e2]
theorem place_sc {k : Int} (hk : 0 < k) (r : Ring) (p : Pnt) (w : Int) : place (scR k r) (p, w) = place r (p, k * w) := by
  unfold place; rw [segs_sc, placeL_sc hk]
theorem ends_sc {k : Int} {r : Ring} (h : Ends r) : Ends (scR k r) := by
  unfold Ends scR at *; rw [List.head?_map, List.getLast?_map, h]
/-- the spot itself. -/
theorem cr_spot (k : Int) (a b p : Pnt) (w : Int) : cr a b (sc k p) (k * w) = k * cr a b p w := by unfold cr sc; grind
theorem btw_mul {k : Int} (hk : 0 < k) {a p b : Int} : btw (k * a) (k * p) (k * b) ↔ btw a p b := by
  have e1 : ∀ {x y : Int}, k * x ≤ k * y ↔ x ≤ y := fun {x y} => ⟨fun h => Int.le_of_mul_le_mul_left h hk, fun h => Int.mul_le_mul_of_nonneg_left h (by omega)⟩
  unfold btw
  simp only [e1]
theorem has_spot {k : Int} (hk : 0 < k) (a b p : Pnt) (w : Int) : has a b (sc k p) (k * w) ↔ has a b p w := by
  have s := sgn_of hk (rfl : k * cr a b p w = _)
  have e : ∀ x : Int, x * (k * w) = k * (x * w) := fun x => by grind
  unfold has
  rw [cr_spot]
  unfold sc
  simp only [e, btw_mul hk]
  constructor
  · rintro ⟨h1, h2⟩; exact ⟨s.2.2.2 h1, h2⟩
  · rintro ⟨h1, h2⟩; exact ⟨s.2.2.1 h1, h2⟩
theorem ray_spot {k : Int} (hk : 0 < k) (a b p : Pnt) (w : Int) : ray a b (sc k p) (k * w) = ray a b p w := by
  have e : ∀ x : Int, x * (k * w) = k * (x * w) := fun x => by grind
  have e1 : ∀ {x y : Int}, k * x > k * y ↔ x > y := fun {x y} => ⟨fun h => Int.lt_of_mul_lt_mul_left h (by omega), fun h => Int.mul_lt_mul_of_pos_left h hk⟩
  unfold ray
  rw [cr_spot, sg_mul hk]
  unfold sc
  simp only [e, e1]
theorem placeL_spot {k : Int} (hk : 0 < k) (p : Pnt) (w : Int) : ∀ (l : List Seg) (i : Bool), placeL l i (sc k p, k * w) = placeL l i (p, w) := by
  intro l
  induction l with
  | nil => intro i; rfl
  | cons s l ih =>
    intro i
    unfold placeL
    have e1 : hasB s (sc k p, k * w) = hasB s (p, w) := decide_eq_decide.2 (has_spot hk s.1 s.2 p w)
    rw [e1, ih]
    simp only [ray_spot hk]
theorem place_spot {k : Int} (hk : 0 < k) (r : Ring) (p : Pnt) (w : Int) : place r (sc k p, k * w) = place r (p, w) := by
  unfold place; rw [placeL_spot hk]
/-- Any spot, as a whole point beside a ring that is greater. -/
theorem place_whole {r : Ring} {p : Spot} (hp : 0 < p.2) {k : Int} (hk : 0 < k) : place r p = place (scR (k * p.2) r) (sc k p.1, 1) := by
  rw [place_sc (pp hk hp), Int.mul_one, place_spot hk]
end Vd
end Go.Proofs.Ytcclepohmhdpbab

/- GEOMETRY, PLAINLY: what lies on a segment lies as a middle of its parts does. -/
namespace Go.Proofs.Ytcclepohmhdpbab
set_option linter.all false
namespace Vd
theorem ex_max {α : Type} (f : α → Int) (P : α → Prop) : ∀ (l : List α), (∃ x ∈ l, P x) → ∃ x ∈ l, P x ∧ ∀ y ∈ l, P y → f y ≤ f x := by
  intro l
  induction l with
  | nil => rintro ⟨x, hx, _⟩; cases hx
  | cons a t ih =>
    rintro ⟨x, hx, hp⟩
    by_cases ht : ∃ y ∈ t, P y
    · obtain ⟨y, hy, py, my⟩ := ih ht
      by_cases ha : P a ∧ f y < f a
      · refine ⟨a, by simp, ha.1, fun z hz pz => ?_⟩
        rcases List.mem_cons.1 hz with rfl | hz
        · exact Int.le_refl _
        · have := my z hz pz; omega
      · refine ⟨y, by simp [hy], py, fun z hz pz => ?_⟩
        rcases List.mem_cons.1 hz with rfl | hz
        · by_cases c : f y < f z
          · exact absurd ⟨pz, c⟩ ha
          · omega
        · exact my z hz pz
    · rcases List.mem_cons.1 hx with rfl | hx
      · refine ⟨x, by simp, hp, fun z hz pz => ?_⟩
        rcases List.mem_cons.1 hz with rfl | hz
        · exact Int.le_refl _
        · exact absurd ⟨z, hz, pz⟩ ht
      · exact absurd ⟨x, hx, hp⟩ ht
theorem ex_min {α : Type} (f : α → Int) (P : α → Prop) (l : List α) (h : ∃ x ∈ l, P x) : ∃ x ∈ l, P x ∧ ∀ y ∈ l, P y → f x ≤ f y := by
  obtain ⟨x, hx, hp, m⟩ := ex_max (fun x => - f x) P l h
  exact ⟨x, hx, hp, fun y hy py => by have := m y hy py; omega⟩
/-- the cuts, as a list. -/
theorem cut_list {a b : Pnt} {l : List Pnt} {x : Pnt} : Cut a b l x ↔ x ∈ a :: b :: l ∧ (x = a ∨ x = b ∨ (x ∈ l ∧ has a b x 1)) := by
  unfold Cut
  constructor
  · intro h
    refine ⟨?_, h⟩
    rcases h with rfl | rfl | h
    · simp
    · simp
    · simp [h.1]
  · exact fun h => h.2
/-- On a line: the place along it. -/
theorem on_line {a b p : Pnt} (h0 : cr a b p 1 = 0) : kk a b * p.1 = kk a b * a.1 + pos a b p * (b.1 - a.1) ∧ kk a b * p.2 = kk a b * a.2 + pos a b p * (b.2 - a.2) := by
  unfold cr at h0; unfold pos dt kk; constructor <;> grind
theorem lin_cr {k D a1 a2 b1 b2 p1 p2 c1 c2 d1 d2 : Int} (e1 : k * p1 = k * a1 + D * (b1 - a1)) (e2 : k * p2 = k * a2 + D * (b2 - a2)) :
    k * ((d1 - c1) * (p2 - c2) - (d2 - c2) * (p1 - c1)) = (k - D) * ((d1 - c1) * (a2 - c2) - (d2 - c2) * (a1 - c1)) + D * ((d1 - c1) * (b2 - c2) - (d2 - c2) * (b1 - c1)) := by grind
theorem cr_on {a b p : Pnt} (h0 : cr a b p 1 = 0) (c d : Pnt) : kk a b * cr c d p 1 = (kk a b - pos a b p) * cr c d a 1 + pos a b p * cr c d b 1 := by
  obtain ⟨e1, e2⟩ := on_line h0
  have := lin_cr (c1 := c.1) (c2 := c.2) (d1 := d.1) (d2 := d.2) e1 e2
  unfold cr
  simpa only [Int.mul_one] using this
theorem lin_dir {k D E a1 a2 b1 b2 p1 p2 q1 q2 : Int} (e1 : k * p1 = k * a1 + D * (b1 - a1)) (e2 : k * p2 = k * a2 + D * (b2 - a2)) (f1 : k * q1 = k * a1 + E * (b1 - a1)) (f2 : k * q2 = k * a2 + E * (b2 - a2)) :
    k * (q1 - p1) = (E - D) * (b1 - a1) ∧ k * (q2 - p2) = (E - D) * (b2 - a2) := by constructor <;> grind
theorem dir_lin {a b p q : Pnt} (hp : cr a b p 1 = 0) (hq : cr a b q 1 = 0) : kk a b * (q.1 - p.1) = (pos a b q - pos a b p) * (b.1 - a.1) ∧ kk a b * (q.2 - p.2) = (pos a b q - pos a b p) * (b.2 - a.2) := by
  obtain ⟨e1, e2⟩ := on_line hp
  obtain ⟨f1, f2⟩ := on_line hq
  exact lin_dir e1 e2 f1 f2
theorem lin_cr2 {k L u1 u2 v1 v2 x1 x2 : Int} (e1 : k * v1 = L * u1) (e2 : k * v2 = L * u2) : k * (v1 * x2 - v2 * x1) = L * (u1 * x2 - u2 * x1) ∧ k * (x1 * v1 + x2 * v2) = L * (x1 * u1 + x2 * u2) := by constructor <;> grind
theorem cr_from {a b p : Pnt} (hp : cr a b p 1 = 0) (c : Pnt) : (b.1 - a.1) * (c.2 - p.2) - (b.2 - a.2) * (c.1 - p.1) = cr a b c 1 := by unfold cr at *; grind
theorem cr_dir {a b p q : Pnt} (hp : cr a b p 1 = 0) (hq : cr a b q 1 = 0) (c : Pnt) : kk a b * cr p q c 1 = (pos a b q - pos a b p) * cr a b c 1 := by
  obtain ⟨e1, e2⟩ := dir_lin hp hq
  have := (lin_cr2 (x1 := c.1 - p.1) (x2 := c.2 - p.2) e1 e2).1
  rw [cr_from hp] at this
  rw [← this]
  unfold cr; simp only [Int.mul_one]
theorem pos_from (a b p c : Pnt) : (c.1 - p.1) * (b.1 - a.1) + (c.2 - p.2) * (b.2 - a.2) = pos a b c - pos a b p := by unfold pos dt; grind
theorem dt_dir {a b p q : Pnt} (hp : cr a b p 1 = 0) (hq : cr a b q 1 = 0) (c : Pnt) : kk a b * dt p q c 1 = (pos a b q - pos a b p) * (pos a b c - pos a b p) := by
  obtain ⟨e1, e2⟩ := dir_lin hp hq
  have := (lin_cr2 (x1 := c.1 - p.1) (x2 := c.2 - p.2) e1 e2).2
  rw [pos_from a b p c] at this
  rw [← this]
  unfold dt; simp only [Int.mul_one]
theorem kk_dt (p q : Pnt) : kk p q = dt p q q 1 := by unfold kk dt; simp
theorem has_dir {a b p q c : Pnt} (hab : a ≠ b) (hpq : p ≠ q) (hp : cr a b p 1 = 0) (hq : cr a b q 1 = 0) (h : has p q c 1) : cr a b c 1 = 0 ∧ btw (pos a b p) (pos a b c) (pos a b q) := by
  have hk := kk_pos hab
  obtain ⟨h0, h1, h2⟩ := (has_on hpq (by omega)).1 h
  have hne : pos a b q - pos a b p ≠ 0 := fun e => hpq (pos_inj hab hp hq (by omega))
  have e := cr_dir hp hq c
  rw [h0, Int.mul_zero] at e
  have e1 := dt_dir hp hq c
  have e2 := dt_dir hp hq q
  rw [Int.mul_one, kk_dt] at h2
  have m1 := p0 (Int.le_of_lt hk) h1
  have m2 := Int.mul_le_mul_of_nonneg_left h2 (Int.le_of_lt hk)
  rw [e1] at m1
  rw [e1, e2] at m2
  refine ⟨?_, ?_⟩
  · rcases Int.mul_eq_zero.1 e.symm with g | g
    · exact absurd g hne
    · exact g
  · unfold btw
    rcases Int.lt_or_gt_of_ne hne with g | g
    · right
      constructor
      · rcases Int.lt_or_le (pos a b c) (pos a b q) with q' | q'
        · have := Int.mul_lt_mul_of_neg_left (show pos a b c - pos a b p < pos a b q - pos a b p by omega) g
          omega
        · exact q'
      · rcases Int.lt_or_le (pos a b p) (pos a b c) with q | q
        · have := np g (show 0 < pos a b c - pos a b p by omega); omega
        · exact q
    · left
      constructor
      · rcases Int.lt_or_le (pos a b c) (pos a b p) with q | q
        · have := pn g (show pos a b c - pos a b p < 0 by omega); omega
        · exact q
      · have := Int.le_of_mul_le_mul_left m2 g
        omega
theorem opp_comb {x y s t s' t' X Y : Int} (hs : 0 ≤ s) (ht : 0 ≤ t) (hs' : 0 ≤ s') (ht' : 0 ≤ t') {k : Int} (hk : 0 < k) (e1 : k * X = s * x + t * y) (e2 : k * Y = s' * x + t' * y) (o : Opp X Y) : Opp x y := by
  obtain ⟨P1, P2, -⟩ := sgn_of hk e1
  obtain ⟨Q1, Q2, -⟩ := sgn_of hk e2
  have both : ¬ (0 ≤ x ∧ 0 ≤ y) := by
    rintro ⟨hx, hy⟩
    have := p0 hs hx; have := p0 ht hy; have := p0 hs' hx; have := p0 ht' hy
    unfold Opp at o; omega
  have none : ¬ (x ≤ 0 ∧ y ≤ 0) := by
    rintro ⟨hx, hy⟩
    have := m0 hs hx; have := m0 ht hy; have := m0 hs' hx; have := m0 ht' hy
    unfold Opp at o; omega
  unfold Opp; omega
theorem meet_opp {a b c d : Pnt} (h1 : Opp (cr a b c 1) (cr a b d 1)) (h2 : Opp (cr c d a 1) (cr c d b 1)) : meet a b c d = 2 := by
  unfold meet Opp at *
  rcases sg_cases (cr a b c 1) with ⟨g1, k1⟩ | ⟨g1, k1⟩ | ⟨g1, k1⟩ <;> rcases sg_cases (cr a b d 1) with ⟨g2, k2⟩ | ⟨g2, k2⟩ | ⟨g2, k2⟩ <;>
  rcases sg_cases (cr c d a 1) with ⟨g3, k3⟩ | ⟨g3, k3⟩ | ⟨g3, k3⟩ <;> rcases sg_cases (cr c d b 1) with ⟨g4, k4⟩ | ⟨g4, k4⟩ | ⟨g4, k4⟩ <;>
  first | (exfalso; omega) | (simp [k1, k2, k3, k4])
theorem mulc' (x y : Int) : (x * y < 0 → (0 < x ∧ y < 0) ∨ (x < 0 ∧ 0 < y)) ∧ (0 < x * y → (0 < x ∧ 0 < y) ∨ (x < 0 ∧ y < 0)) := by
  rcases Int.lt_trichotomy x 0 with h | h | h <;> rcases Int.lt_trichotomy y 0 with k | k | k
  · have := nng h k; omega
  · rw [k]; simp
  · have := np h k; omega
  · rw [h]; simp
  · rw [h]; simp
  · rw [h]; simp
  · have := pn h k; omega
  · rw [k]; simp
  · have := pp h k; omega
/-- Two points of one line between which no vertex of the ring lies, and no segment crosses: they lie at one place. -/
theorem line_same {a b : Pnt} (hab : a ≠ b) {o : Ring} (he : Ends o) {p q : Pnt} (hp : cr a b p 1 = 0) (hq : cr a b q 1 = 0) (np : place o (p, 1) ≠ 1) (nq : place o (q, 1) ≠ 1)
    (hv : ∀ t ∈ segs o, ∀ c, c = t.1 ∨ c = t.2 → cr a b c 1 = 0 → ¬ btw (pos a b p) (pos a b c) (pos a b q))
    (hx : ∀ t ∈ segs o, ¬ (Opp (cr a b t.1 1) (cr a b t.2 1) ∧ Opp (cr t.1 t.2 p 1) (cr t.1 t.2 q 1))) : place o (p, 1) = place o (q, 1) := by
  by_cases hpq : p = q
  · rw [hpq]
  have hk := kk_pos hab
  refine place_same he (fun t ht => ⟨fun h => ?_, fun h => ?_, fun h => np (place_one.2 ⟨t, ht, h⟩), fun h => nq (place_one.2 ⟨t, ht, h⟩)⟩) (fun t ht h => ?_)
  · obtain ⟨k1, k2⟩ := has_dir hab hpq hp hq h
    exact hv t ht _ (.inl rfl) k1 k2
  · obtain ⟨k1, k2⟩ := has_dir hab hpq hp hq h
    exact hv t ht _ (.inr rfl) k1 k2
  · refine hx t ht ⟨?_, h.2⟩
    have e1 := cr_dir hp hq t.1
    have e2 := cr_dir hp hq t.2
    have s1 := sgn_of hk e1
    have s2 := sgn_of hk e2
    have o := h.1
    have m1 := mulc' (pos a b q - pos a b p) (cr a b t.1 1)
    have m2 := mulc' (pos a b q - pos a b p) (cr a b t.2 1)
    unfold Opp at o ⊢
    omega
/-- Two consecutive cuts about a point of the segment. -/
theorem cuts_about {a b p : Pnt} (hab : a ≠ b) (hp : has a b p 1) (l : List Pnt) :
    ∃ y z, Cons (pos a b) (Cut a b l) y z ∧ pos a b y ≤ pos a b p ∧ pos a b p ≤ pos a b z := by
  obtain ⟨d0, d1⟩ := pos_le hab hp
  have hk := kk_pos hab
  obtain ⟨y, hy, ⟨cy, ly, ny⟩, my⟩ := ex_max (pos a b) (fun x => Cut a b l x ∧ pos a b x ≤ pos a b p ∧ pos a b x < kk a b) (a :: b :: l) ⟨a, by simp, .inl rfl, by rw [pos_a]; exact d0, by rw [pos_a]; exact hk⟩
  obtain ⟨z, hz, ⟨cz, lz⟩, mz⟩ := ex_min (pos a b) (fun x => Cut a b l x ∧ pos a b y < pos a b x) (a :: b :: l) ⟨b, by simp, .inr (.inl rfl), by rw [pos_b]; exact ny⟩
  refine ⟨y, z, ⟨cy, cz, lz, fun c hc ⟨h1, h2⟩ => ?_⟩, ly, ?_⟩
  · have := mz c (cut_list.1 hc).1 ⟨hc, h1⟩; omega
  · rcases Int.le_total (pos a b p) (pos a b z) with g | g
    · exact g
    · by_cases e : pos a b z < kk a b
      · have := my z hz ⟨cz, g, e⟩; omega
      · have h1 := (pos_le hab (cut_has cz)).2
        omega

end Vd
end Go.Proofs.Ytcclepohmhdpbab

/- GEOMETRY, PLAINLY: what lies on a segment lies as a middle of its parts does. -/
namespace Go.Proofs.Ytcclepohmhdpbab
set_option linter.all false
namespace Vd
theorem has_pos {a b p : Pnt} (hab : a ≠ b) (h0 : cr a b p 1 = 0) (h1 : 0 ≤ pos a b p) (h2 : pos a b p ≤ kk a b) : has a b p 1 := (has_on hab (by omega)).2 ⟨h0, h1, by rw [Int.mul_one]; exact h2⟩
theorem vert_on {o : Ring} {t : Seg} (ht : t ∈ segs o) {c : Pnt} (hc : c = t.1 ∨ c = t.2) : place o (c, 1) = 1 := by
  refine place_one.2 ⟨t, ht, ?_⟩
  rcases hc with rfl | rfl
  · exact has_a _ _
  · exact has_b _ _
theorem mid_off_int {a b : Pnt} (hab : a ≠ b) {o : Ring} (hl : Long o) (hx : ∀ t ∈ segs o, crossS (a, b) t = false) {y z M : Pnt} (hc : Cons (pos a b) (Cut a b o) y z) (hM : has a b M 1) (h1 : pos a b y < pos a b M) (h2 : pos a b M < pos a b z) : place o (M, 1) ≠ 1 := by
  intro h
  obtain ⟨t, ht, hh⟩ := place_one.1 h
  simp only at hh
  obtain ⟨y0, -⟩ := pos_le hab (cut_has hc.cx)
  obtain ⟨-, z1⟩ := pos_le hab (cut_has hc.cy)
  have nocut : ¬ Cut a b o M := fun c => hc.no M c ⟨h1, h2⟩
  have nv : ∀ c, c = t.1 ∨ c = t.2 → M ≠ c := by
    rintro c hc' rfl
    have := segs_mem ht
    exact nocut (.inr (.inr ⟨by rcases hc' with e | e <;> rw [e]; exact this.1; exact this.2, hM⟩))
  have two : ∀ c : Pnt, M ≠ c → sc 2 M ≠ (c.1 * 2, c.2 * 2) := by
    intro c hne e
    unfold sc at e
    simp only [Prod.mk.injEq] at e
    exact hne (Prod.ext (by omega) (by omega))
  have i1 : Inn a b (sc 2 M) := by
    refine ⟨?_, two a ?_, two b ?_⟩
    · have := (has_spot (k := 2) (by omega) a b M 1).2 hM; simpa using this
    · rintro rfl; rw [pos_a] at h1; omega
    · rintro rfl; rw [pos_b] at h2; omega
  have i2 : Inn t.1 t.2 (sc 2 M) := by
    refine ⟨?_, two _ (nv _ (.inl rfl)), two _ (nv _ (.inr rfl))⟩
    have := (has_spot (k := 2) (by omega) t.1 t.2 M 1).2 hh; simpa using this
  have k := inn_cross hab (hl t ht) i1 i2
  have := hx t ht
  unfold crossS meetS at this
  rcases k with k | k <;> simp [k] at this
theorem on_place_int {a b : Pnt} (hab : a ≠ b) {o : Ring} (he : Ends o) (hl : Long o) (hx : ∀ t ∈ segs o, crossS (a, b) t = false) {y z p M : Pnt} (hc : Cons (pos a b) (Cut a b o) y z) (hp : has a b p 1) (p1 : pos a b y ≤ pos a b p) (p2 : pos a b p ≤ pos a b z) (hM : has a b M 1) (h1 : pos a b y < pos a b M) (h2 : pos a b M < pos a b z) (hn : place o (p, 1) ≠ 1) : place o (p, 1) = place o (M, 1) := by
  have hk := kk_pos hab
  obtain ⟨y0, -⟩ := pos_le hab (cut_has hc.cx)
  obtain ⟨-, z1⟩ := pos_le hab (cut_has hc.cy)
  obtain ⟨q0', q1⟩ := pos_le hab hp
  obtain ⟨m0', m1⟩ := pos_le hab hM
  refine line_same hab he hp.1 hM.1 hn (mid_off_int hab hl hx hc hM h1 h2) ?_ ?_
  · intro t ht c hc' hcr hb
    have hcut : Cut a b o c := by
      refine .inr (.inr ⟨?_, has_pos hab hcr (by unfold btw at hb; omega) (by unfold btw at hb; omega)⟩)
      have := segs_mem ht
      rcases hc' with e | e <;> rw [e]
      · exact this.1
      · exact this.2
    have := hc.no c hcut
    have e : pos a b c = pos a b p := by unfold btw at hb; omega
    have := pos_inj hab hcr hp.1 e
    rw [← this] at hn
    exact hn (vert_on ht hc')
  · rintro t ht ⟨o1, o2⟩
    have e1 := cr_on hp.1 t.1 t.2
    have e2 := cr_on hM.1 t.1 t.2
    have o3 := opp_comb (by omega) q0' (by omega) m0' hk e1 e2 o2
    have := hx t ht
    unfold crossS meetS at this
    rw [meet_opp o1 o3] at this
    simp at this
/-! ### scaled -/
theorem sc_inj {k : Int} (hk : 0 < k) {p q : Pnt} : sc k p = sc k q ↔ p = q := by
  constructor
  · intro h
    unfold sc at h
    simp only [Prod.mk.injEq] at h
    exact Prod.ext (Int.eq_of_mul_eq_mul_left (by omega) h.1) (Int.eq_of_mul_eq_mul_left (by omega) h.2)
  · rintro rfl; rfl
theorem bef_sc {k : Int} (hk : 0 < k) {p q : Pnt} : bef (sc k p) (sc k q) ↔ bef p q := by
  have e1 : ∀ {x y : Int}, k * x < k * y ↔ x < y := fun {x y} => ⟨fun h => Int.lt_of_mul_lt_mul_left h (by omega), fun h => Int.mul_lt_mul_of_pos_left h hk⟩
  have e2 : ∀ {x y : Int}, k * x = k * y ↔ x = y := fun {x y} => ⟨fun h => Int.eq_of_mul_eq_mul_left (by omega) h, fun h => by rw [h]⟩
  unfold bef sc
  simp only [e1, e2]
theorem fwd_sc {k : Int} (hk : 0 < k) (a b : Pnt) : fwd (sc k a) (sc k b) = scS k (fwd a b) := by
  unfold fwd
  by_cases h : bef b a
  · rw [if_pos h, if_pos ((bef_sc hk).2 h)]; rfl
  · rw [if_neg h, if_neg (fun g => h ((bef_sc hk).1 g))]; rfl
theorem ite_sc (k : Int) (c : Prop) [Decidable c] (a b : Pnt) : (if c then sc k a else sc k b) = sc k (if c then a else b) := by split <;> rfl
theorem onLine_sc {k : Int} (hk : 0 < k) (s t : Seg) : onLine (scS k s) (scS k t) = onLine s t := by
  unfold onLine scS
  simp only [bef_sc hk, ite_sc, sc_inj hk]
theorem cr_sc1 (k : Int) (a b p : Pnt) : cr (sc k a) (sc k b) (sc k p) 1 = k * k * cr a b p 1 := by unfold cr sc; grind
theorem meet_sc {k : Int} (hk : 0 < k) (a b c d : Pnt) : meet (sc k a) (sc k b) (sc k c) (sc k d) = meet a b c d := by
  unfold meet
  simp only [cr_sc1, sg_mul (pp hk hk), fwd_sc hk, onLine_sc hk]
theorem crossS_sc {k : Int} (hk : 0 < k) (s t : Seg) : crossS (scS k s) (scS k t) = crossS s t := by
  unfold crossS meetS scS
  simp only [meet_sc hk]
theorem pos_sc (k : Int) (a b p : Pnt) : pos (sc k a) (sc k b) (sc k p) = k * k * pos a b p := by unfold pos dt sc; grind
theorem has_sc1 {k : Int} (hk : 0 < k) (a b p : Pnt) : has (sc k a) (sc k b) (sc k p) 1 ↔ has a b p 1 := by
  rw [has_sc hk, has_spot hk]
theorem cut_sc {k : Int} (hk : 0 < k) {a b : Pnt} {l : List Pnt} {x : Pnt} : Cut (sc k a) (sc k b) (l.map (sc k)) x ↔ ∃ x', x = sc k x' ∧ Cut a b l x' := by
  unfold Cut
  constructor
  · rintro (rfl | rfl | ⟨h1, h2⟩)
    · exact ⟨a, rfl, .inl rfl⟩
    · exact ⟨b, rfl, .inr (.inl rfl)⟩
    · obtain ⟨x', hx', rfl⟩ := List.mem_map.1 h1
      exact ⟨x', rfl, .inr (.inr ⟨hx', (has_sc1 hk _ _ _).1 h2⟩)⟩
  · rintro ⟨x', rfl, rfl | rfl | ⟨h1, h2⟩⟩
    · exact .inl rfl
    · exact .inr (.inl rfl)
    · exact .inr (.inr ⟨List.mem_map.2 ⟨x', h1, rfl⟩, (has_sc1 hk _ _ _).2 h2⟩)
theorem cons_sc {k : Int} (hk : 0 < k) {a b : Pnt} {l : List Pnt} {y z : Pnt} (h : Cons (pos (sc k a) (sc k b)) (Cut (sc k a) (sc k b) (l.map (sc k))) y z) : ∃ y' z', y = sc k y' ∧ z = sc k z' ∧ Cons (pos a b) (Cut a b l) y' z' := by
  obtain ⟨y', rfl, cy⟩ := (cut_sc hk).1 h.cx
  obtain ⟨z', rfl, cz⟩ := (cut_sc hk).1 h.cy
  have kk2 := pp hk hk
  have e1 : ∀ {x y : Int}, k * k * x < k * k * y ↔ x < y := fun {x y} => ⟨fun h => Int.lt_of_mul_lt_mul_left h (by omega), fun h => Int.mul_lt_mul_of_pos_left h kk2⟩
  refine ⟨y', z', rfl, rfl, cy, cz, ?_, ?_⟩
  · have := h.lt; rw [pos_sc, pos_sc] at this; exact e1.1 this
  · rintro c hc ⟨h1, h2⟩
    refine h.no (sc k c) ((cut_sc hk).2 ⟨c, rfl, hc⟩) ?_
    rw [pos_sc, pos_sc, pos_sc]
    exact ⟨e1.2 h1, e1.2 h2⟩
theorem long_sc {k : Int} (hk : 0 < k) {r : Ring} (h : Long r) : Long (scR k r) := by
  intro s hs
  rw [segs_sc] at hs
  obtain ⟨t, ht, rfl⟩ := List.mem_map.1 hs
  intro e
  exact h t ht ((sc_inj hk).1 e)
/-- A spot on a segment that a ring does not cross lies on the ring, or as one of the middles does. -/
theorem on_place {a b : Pnt} (hab : a ≠ b) {o : Ring} (he : Ends o) (hl : Long o) (hx : ∀ t ∈ segs o, crossS (a, b) t = false) {p : Spot} (hw : 0 < p.2) (hp : has a b p.1 p.2) (hn : place o p ≠ 1) :
    ∃ m ∈ mids (a, b) [o], place o p = place o m := by
  obtain ⟨P, w⟩ := p
  simp only at hw hp
  have hK : (0 : Int) < 2 * w := by omega
  have hab' : sc (2 * w) a ≠ sc (2 * w) b := fun e => hab ((sc_inj hK).1 e)
  have hp' : has (sc (2 * w) a) (sc (2 * w) b) (sc 2 P) 1 := by
    rw [has_sc hK, Int.mul_one]
    exact (has_spot (by omega) a b P w).2 hp
  obtain ⟨y', z', hc', l1, l2⟩ := cuts_about hab' hp' (scR (2 * w) o)
  obtain ⟨y, z, rfl, rfl, hc⟩ := cons_sc hK (l := o) hc'
  have hm : midOf y z ∈ mids (a, b) [o] := (mem_mids hab [o] _).2 ⟨y, z, by simpa using hc, rfl⟩
  refine ⟨_, hm, ?_⟩
  have e1 : place o (P, w) = place (scR (2 * w) o) (sc 2 P, 1) := place_whole (p := (P, w)) hw (k := 2) (by omega)
  have e2 : place o (midOf y z) = place (scR (2 * w) o) (sc w (midOf y z).1, 1) := by
    have := place_whole (r := o) (p := midOf y z) (show (0 : Int) < 2 by omega) (k := w) hw
    rw [show w * (midOf y z).2 = 2 * w by show w * 2 = 2 * w; omega] at this
    exact this
  rw [e1, e2]
  have c0y := (cut_has hc.cx).1
  have c0z := (cut_has hc.cy).1
  have f1 : 2 * pos (sc (2 * w) a) (sc (2 * w) b) (sc w (midOf y z).1) = pos (sc (2 * w) a) (sc (2 * w) b) (sc (2 * w) y) + pos (sc (2 * w) a) (sc (2 * w) b) (sc (2 * w) z) := by unfold pos dt sc midOf; grind
  have f2 : 2 * cr (sc (2 * w) a) (sc (2 * w) b) (sc w (midOf y z).1) 1 = cr (sc (2 * w) a) (sc (2 * w) b) (sc (2 * w) y) 1 + cr (sc (2 * w) a) (sc (2 * w) b) (sc (2 * w) z) 1 := by unfold cr sc midOf; grind
  rw [cr_sc1, cr_sc1, c0y, c0z, Int.mul_zero, Int.add_zero] at f2
  have hlt := hc'.lt
  obtain ⟨y0, y1⟩ := pos_le hab' (cut_has hc'.cx)
  obtain ⟨z0, z1⟩ := pos_le hab' (cut_has hc'.cy)
  refine on_place_int hab' (ends_sc he) (long_sc hK hl) ?_ hc' hp' l1 l2 (has_pos hab' (by omega) (by omega) (by omega)) (by omega) (by omega) ?_
  · intro t ht
    rw [segs_sc] at ht
    obtain ⟨t', ht', rfl⟩ := List.mem_map.1 ht
    have := hx t' ht'
    rw [← crossS_sc hK] at this
    exact this
  · rw [← e1]; exact hn
/-- A ring that lies outside another but for what they touch in: no point of it is within. -/
theorem lies_out {r o : Ring} (hr : Long r) (ho : Long o) (he : Ends o) (hx : cross r o = false) {k : Int} (hk : lies r o k = true) {p : Spot} (hw : 0 < p.2) (hp : place r p = 1) : place o p = 1 ∨ place o p = k := by
  obtain ⟨s, hs, h⟩ := place_one.1 hp
  by_cases h1 : place o p = 1
  · exact .inl h1
  right
  obtain ⟨m, hm, e⟩ := on_place (hr s hs) he ho (fun t ht => by
    cases c : crossS (s.1, s.2) t with
    | false => rfl
    | true =>
      have : cross r o = true := by
        unfold cross
        exact List.any_eq_true.2 ⟨s, hs, List.any_eq_true.2 ⟨t, ht, c⟩⟩
      rw [hx] at this; cases this) hw h h1
  rw [e]
  unfold lies at hk
  rw [Bool.not_eq_true'] at hk
  by_cases g : place o m = k
  · exact g
  · have : ((segs r).any fun s => (mids s [o]).any fun m => decide (place o m ≠ k)) = true := List.any_eq_true.2 ⟨s, hs, List.any_eq_true.2 ⟨m, hm, decide_eq_true g⟩⟩
    rw [hk] at this; cases this
end Vd
end Go.Proofs.Ytcclepohmhdpbab

/- POINTS, PLAINLY: the program's answer and the document's, of a valid set. -/
namespace Go.Proofs.Ytcclepohmhdpbab
set_option linter.all false
namespace Vd
theorem inL_nn {p : Spot} : ∀ (t : List Ring) (s : Int), (s = 0 ∨ s = 1 ∨ s = -1) → (∀ r ∈ t, inRing r p = 0 ∨ inRing r p = 1 ∨ inRing r p = -1) → (∀ r ∈ t, ∀ r' ∈ t, inRing r p = 0 → inRing r' p ≠ 1) →
    (0 ≤ inL s t p ↔ 0 ≤ s ∧ ∀ r ∈ t, inRing r p ≠ 1) := by
  intro t
  induction t with
  | nil => intro s _ _ _; simp [inL]
  | cons r t ih =>
    intro s hs hr hx
    unfold inL
    have ih' := ih s hs (fun r hr' => hr r (by simp [hr'])) (fun a ha b hb => hx a (by simp [ha]) b (by simp [hb]))
    by_cases h0 : inRing r p = 0 ∧ 0 ≤ s
    · rw [if_pos h0]
      refine ⟨fun _ => ⟨h0.2, fun r' hr' => hx r (by simp) r' hr' h0.1⟩, fun _ => Int.le_refl _⟩
    · rw [if_neg h0]
      by_cases h1 : inRing r p = 1
      · rw [if_pos h1]
        refine ⟨fun h => by omega, fun h => absurd h1 (h.2 r (by simp))⟩
      · rw [if_neg h1, ih']
        constructor
        · rintro ⟨g1, g2⟩
          refine ⟨g1, fun r' hr' => ?_⟩
          rcases List.mem_cons.1 hr' with rfl | hr'
          · exact h1
          · exact g2 r' hr'
        · rintro ⟨g1, g2⟩; exact ⟨g1, fun r' hr' => g2 r' (by simp [hr'])⟩
theorem inPolyL_iff {p : Spot} : ∀ (t : List Ring), inPolyL t false p = true ↔ ∀ r ∈ t, place r p ≠ 2 := by
  intro t
  induction t with
  | nil => simp [inPolyL]
  | cons r t ih =>
    unfold inPolyL
    by_cases h : place r p = 2
    · simp [h]
    · simp [h, ih]
/-- The holes of a polygon that is valid. -/
structure Holes (t : List Ring) : Prop where
  long : ∀ r ∈ t, Long r
  out : ∀ r ∈ t, ∀ o ∈ t, ∀ p : Spot, 0 < p.2 → place r p = 1 → place o p ≠ 2
theorem in_poly {r : Ring} {t : List Ring} (hr : Long r) (ht : Holes t) {p : Spot} (hw : 0 < p.2) : decide (0 ≤ inP (r :: t) p) = inPoly (r :: t) p := by
  have er := place_eq hr hw
  have e : ∀ o ∈ t, place o p = pl (inRing o p) ∧ (inRing o p = 0 ∨ inRing o p = 1 ∨ inRing o p = -1) := fun o ho => place_eq (ht.long o ho) hw
  have k1 : ∀ o ∈ t, (place o p = 1 ↔ inRing o p = 0) := by
    intro o ho
    obtain ⟨a, b⟩ := e o ho
    rw [a]; unfold pl; rcases b with b | b | b <;> rw [b] <;> simp
  have k2 : ∀ o ∈ t, (place o p = 2 ↔ inRing o p = 1) := by
    intro o ho
    obtain ⟨a, b⟩ := e o ho
    rw [a]; unfold pl; rcases b with b | b | b <;> rw [b] <;> simp
  have key := inL_nn (p := p) t (inRing r p) er.2 (fun o ho => (e o ho).2) (fun a ha b hb h1 h2 => ht.out a ha b hb p hw ((k1 a ha).2 h1) ((k2 b hb).2 h2))
  apply bool_iff
  rw [decide_eq_true_eq]
  show 0 ≤ inL (inRing r p) t p ↔ _
  rw [key]
  unfold inPoly inPolyL
  have kr : place r p = 0 ↔ ¬ 0 ≤ inRing r p := by
    rw [er.1]; unfold pl; rcases er.2 with b | b | b <;> rw [b] <;> simp
  by_cases h0 : place r p = 0
  · have := kr.1 h0
    simp [h0, this]
  · have h1 : 0 ≤ inRing r p := by
      rcases Int.lt_or_le (inRing r p) 0 with g | g
      · exact absurd (kr.2 (by omega)) h0
      · exact g
    simp only [h0, h1, decide_false, Bool.and_false, Bool.not_true, Bool.false_and, Bool.or_self, Bool.false_eq_true, if_false, true_and]
    simp only [List.length_cons, Nat.zero_lt_succ, decide_true, Bool.and_true, inPolyL_iff]
    constructor
    · intro g o ho h2; exact g o ho ((k2 o ho).1 h2)
    · intro g o ho h2; exact g o ho ((k2 o ho).2 h2)
/-- Of a valid set. -/
theorem holes_of {l : Poly} (hs : ∀ r ∈ l, Shut r) (hl : ∀ r ∈ l, Long r) (h2 : touch l = true) (h3 : nested l = true) : Holes l.tail := by
  refine ⟨fun r hr => hl r (List.mem_of_mem_tail hr), ?_⟩
  intro r hr o ho p hw hp h
  cases l with
  | nil => cases hr
  | cons s t =>
    simp only [List.tail_cons] at hr ho
    obtain ⟨i, hi, ei⟩ := List.getElem_of_mem hr
    obtain ⟨j, hj, ej⟩ := List.getElem_of_mem ho
    by_cases hij : i = j
    · subst hij
      have : r = o := ei.symm.trans ej
      rw [this] at hp; rw [hp] at h; omega
    have ra : ∀ {k : Nat} (hk : k < t.length), rAt (s :: t) (k + 1) = t[k] := by
      intro k hk; unfold rAt; rw [List.getD_eq_getElem?_getD, List.getElem?_cons_succ, List.getElem?_eq_getElem hk]; rfl
    have hx : cross r o = false := by
      unfold touch at h2
      rw [Bool.not_eq_true', pairs_eq (f := fun i j => cross (rAt (s :: t) i) (rAt (s :: t) j)) (fun i j => cross_symm _ _)] at h2
      cases c : cross r o with
      | false => rfl
      | true =>
        have : (anyI (s :: t).length fun i => anyI (s :: t).length fun j => decide (j ≠ i) && cross (rAt (s :: t) i) (rAt (s :: t) j)) = true := by
          rw [anyI_iff]
          refine ⟨i + 1, by simp; omega, ?_⟩
          rw [anyI_iff]
          refine ⟨j + 1, by simp; omega, ?_⟩
          rw [ra hi, ra hj, ei, ej, c]
          simp; omega
        rw [h2] at this; cases this
    have hy : lies r o 0 = true := by
      unfold nested at h3
      rw [Bool.not_eq_true'] at h3
      cases c : lies r o 0 with
      | true => rfl
      | false =>
        have : (anyI (s :: t).length fun i => decide (1 ≤ i) && anyI (s :: t).length fun j => decide (i ≠ j) && !(lies (rAt (s :: t) i) (rAt (s :: t) j) (nestW j))) = true := by
          rw [anyI_iff]
          refine ⟨i + 1, by simp; omega, ?_⟩
          rw [Bool.and_eq_true, anyI_iff]
          refine ⟨by simp, j + 1, by simp; omega, ?_⟩
          rw [ra hi, ra hj, ei, ej, show nestW (j + 1) = 0 from rfl, c]
          simp; omega
        rw [h3] at this; cases this
    have := lies_out (hl r (by simp [hr])) (hl o (by simp [ho])) (shut_ends (hs o (by simp [ho]))) hx hy hw hp
    omega
theorem holds_eq {m : Mult} (hg : Good m) (h : least m = 0) {p : Spot} (hw : 0 < p.2) : (m.any fun l => decide (0 ≤ inP l p)) = inSet m p := by
  unfold inSet
  have b1 : badC 1 m = false ∧ badC 2 m = false ∧ badC 3 m = false := by
    unfold least at h
    repeat' split at h
    all_goals first | omega | (simp_all)
  have hl := long_all hg b1.1
  have one : ∀ (c : Nat), badC c m = false → ∀ l ∈ m, holdsC c l = true := by
    intro c hc l hm
    unfold badC at hc
    cases x : holdsC c l with
    | true => rfl
    | false => rw [List.any_eq_true.2 ⟨l, hm, by rw [x]; rfl⟩] at hc; cases hc
  refine any_congr fun l hm => ?_
  have h2 := one 2 b1.2.1 l hm
  have h3 := one 3 b1.2.2 l hm
  have hh := holes_of (hg.shut l hm) (hl l hm) (by simpa [holdsC] using h2) (by simpa [holdsC] using h3)
  cases l with
  | nil => exact absurd rfl (hg.ne [] hm)
  | cons r t => exact in_poly (hl _ hm r (by simp)) hh hw
end Vd
end Go.Proofs.Ytcclepohmhdpbab
