import Derived.Test.YtcclepohmhdpbabGreatDoorVdG
namespace Go.Proofs.YtcclepohmhdpbabGreatDoor
set_option linter.all false
namespace Vd
def incL (l : Poly) : Inc := fun r p => place (rAt l r) (at1 p) = 1
theorem at_ringsAt (l : Poly) : At l.length (incL l) (ringsAt l) where
  mem := by
    intro r p
    unfold ringsAt incL
    simp
  nd := by
    intro p
    unfold ringsAt
    exact List.Pairwise.filter _ (List.nodup_range)
theorem Jd.mono {n : Nat} {E : Inc} {Q Q' : Pnt → Prop} {g : List Nat} (h : Jd n E Q g) (k : ∀ p, Q p ↔ Q' p) : Jd n E Q' g := by
  have e : Q = Q' := funext fun p => propext (k p)
  rw [← e]; exact h
theorem touch_fold (l : Poly) : ∀ (ps : List Pnt) (a : List Pnt), a.Nodup → (∀ p ∈ a, 1 < (ringsAt l p).length) →
    (ps.foldl (touchF l) a).Nodup ∧ ∀ q, q ∈ ps.foldl (touchF l) a ↔ q ∈ a ∨ (q ∈ ps ∧ 1 < (ringsAt l q).length) := by
  intro ps
  induction ps with
  | nil => intro a h _; exact ⟨h, by simp⟩
  | cons p t ih =>
    intro a h h1
    rw [List.foldl_cons]
    by_cases c : ¬ (p ∈ a) ∧ 1 < (ringsAt l p).length
    · rw [show touchF l a p = a ++ [p] from if_pos c]
      have := ih (a ++ [p]) (by rw [List.nodup_append]; exact ⟨h, by simp, by intro x hx y hy; simp at hy; subst hy; rintro rfl; exact c.1 hx⟩) (by
        intro q hq
        rcases List.mem_append.1 hq with hq | hq
        · exact h1 q hq
        · simp at hq; subst hq; exact c.2)
      refine ⟨this.1, fun q => ?_⟩
      rw [this.2 q]
      simp only [List.mem_append, List.mem_cons, List.mem_singleton, List.not_mem_nil, or_false]
      constructor
      · rintro ((k | rfl) | k)
        · exact .inl k
        · exact .inr ⟨.inl rfl, c.2⟩
        · exact .inr ⟨.inr k.1, k.2⟩
      · rintro (k | ⟨rfl | k, k2⟩)
        · exact .inl (.inl k)
        · exact .inl (.inr rfl)
        · exact .inr ⟨k, k2⟩
    · rw [show touchF l a p = a from if_neg c]
      have := ih a h h1
      refine ⟨this.1, fun q => ?_⟩
      rw [this.2 q]
      simp only [List.mem_cons]
      constructor
      · rintro (k | k)
        · exact .inl k
        · exact .inr ⟨.inr k.1, k.2⟩
      · rintro (k | ⟨rfl | k, k2⟩)
        · exact .inl k
        · by_cases hq : q ∈ a
          · exact .inl hq
          · exact absurd ⟨hq, k2⟩ c
        · exact .inr ⟨k, k2⟩
end Vd
end Go.Proofs.YtcclepohmhdpbabGreatDoor

namespace Go.Proofs.YtcclepohmhdpbabGreatDoor
set_option linter.all false
namespace Vd
theorem onLine_symm (s t : Seg) : onLine s t = onLine t s := by
  have e1 : (if bef s.1 t.1 then t.1 else s.1) = (if bef t.1 s.1 then s.1 else t.1) := by
    rcases bef_tri s.1 t.1 with h | h | h
    · rw [if_pos h, if_neg (fun k => bef_irr h k)]
    · rw [h]
    · rw [if_neg (fun k => bef_irr h k), if_pos h]
  have e2 : (if bef t.2 s.2 then t.2 else s.2) = (if bef s.2 t.2 then s.2 else t.2) := by
    rcases bef_tri s.2 t.2 with h | h | h
    · rw [if_pos h, if_neg (fun k => bef_irr h k)]
    · rw [h]
    · rw [if_neg (fun k => bef_irr h k), if_pos h]
  unfold onLine
  simp only
  rw [e1, e2]
theorem meet_symm (a b c d : Pnt) : meet a b c d = meet c d a b := by
  unfold meet
  simp only
  generalize sg (cr a b c 1) = x
  generalize sg (cr a b d 1) = y
  generalize sg (cr c d a 1) = z
  generalize sg (cr c d b 1) = u
  rw [onLine_symm (fwd a b)]
  have e1 : (x = 0 ∧ y = 0 ∧ z = 0 ∧ u = 0) ↔ (z = 0 ∧ u = 0 ∧ x = 0 ∧ y = 0) := by omega
  have e2 : (x * y > 0 ∨ z * u > 0) ↔ (z * u > 0 ∨ x * y > 0) := Or.comm
  have e3 : x * y * z * u = z * u * x * y := by grind
  rw [e3]
  simp only [e1, e2]
theorem meetS_symm (s t : Seg) : meetS s t = meetS t s := meet_symm _ _ _ _
def inRingL : List Seg → Bool → Spot → Int
  | [], i, _ => if i then 1 else -1
  | s :: t, i, p => if on s.1 s.2 p.1 p.2 then 0 else inRingL t (if rayD s.1 s.2 p.1 p.2 then !i else i) p
def inRing (r : Ring) (p : Spot) : Int := inRingL (segs r) false p
def Long (r : Ring) : Prop := ∀ s ∈ segs r, s.1 ≠ s.2
def inL : Int → List Ring → Spot → Int
  | s, [], _ => s
  | s, r :: t, p => if inRing r p = 0 ∧ 0 ≤ s then 0 else if inRing r p = 1 then -1 else inL s t p
def inP : Poly → Spot → Int
  | [], _ => 0
  | r :: t, p => inL (inRing r p) t p
theorem cr_mid (a b x y : Pnt) : cr a b (midOf x y).1 2 = cr a b x 1 + cr a b y 1 := by unfold cr midOf; grind
theorem placeL_one : ∀ (l : List Seg) (i : Bool) (p : Spot), placeL l i p = 1 ↔ ∃ s ∈ l, has s.1 s.2 p.1 p.2 := by
  intro l
  induction l with
  | nil => intro i p; cases i <;> simp [placeL]
  | cons s t ih =>
    intro i p
    unfold placeL hasB
    by_cases h : has s.1 s.2 p.1 p.2
    · rw [if_pos (decide_eq_true h)]; simp [h]
    · rw [decide_eq_false h]
      simp only [Bool.false_eq_true, if_false]
      rw [ih]
      simp [h]
theorem place_one {r : Ring} {p : Spot} : place r p = 1 ↔ ∃ s ∈ segs r, has s.1 s.2 p.1 p.2 := placeL_one _ _ _
end Vd
end Go.Proofs.YtcclepohmhdpbabGreatDoor

namespace Go.Proofs.YtcclepohmhdpbabGreatDoor
set_option linter.all false
namespace Vd
def Inn (a b m : Pnt) : Prop := has a b m 2 ∧ m ≠ (a.1 * 2, a.2 * 2) ∧ m ≠ (b.1 * 2, b.2 * 2)
theorem inn_pos {a b m : Pnt} (hab : a ≠ b) (h : Inn a b m) : 0 < dt a b m 2 ∧ dt a b m 2 < kk a b * 2 := by
  have hk := kk_pos hab
  obtain ⟨h0, h1, h2⟩ := (has_on hab (by omega)).1 h.1
  have e1 : dt a b m 2 * (b.1 - a.1) = (m.1 - a.1 * 2) * kk a b := by unfold cr at h0; unfold dt kk; grind
  have e2 : dt a b m 2 * (b.2 - a.2) = (m.2 - a.2 * 2) * kk a b := by unfold cr at h0; unfold dt kk; grind
  have z : ∀ t : Int, 0 = t * kk a b → t = 0 := by
    intro t h
    rcases Int.mul_eq_zero.1 h.symm with h | h
    · exact h
    · omega
  constructor
  · rcases Int.lt_or_eq_of_le h1 with g | g
    · exact g
    · exfalso
      rw [← g, Int.zero_mul] at e1 e2
      have := z _ e1
      have := z _ e2
      exact h.2.1 (Prod.ext (by simp only; omega) (by simp only; omega))
  · rcases Int.lt_or_eq_of_le h2 with g | g
    · exact g
    · exfalso
      have f1 : 0 = (m.1 - b.1 * 2) * kk a b := by rw [g] at e1; grind
      have f2 : 0 = (m.2 - b.2 * 2) * kk a b := by rw [g] at e2; grind
      have := z _ f1
      have := z _ f2
      exact h.2.2 (Prod.ext (by simp only; omega) (by simp only; omega))
theorem weights {p q X Y : Int} (hp : 0 < p) (hq : 0 < q) (e : p * X + q * Y = 0) : (X = 0 ∧ Y = 0) ∨ (0 < X ∧ Y < 0) ∨ (X < 0 ∧ 0 < Y) := by
  rcases Int.lt_trichotomy X 0 with h | h | h
  · right; right; refine ⟨h, ?_⟩
    have := Int.mul_neg_of_pos_of_neg hp h
    rcases Int.lt_or_le 0 Y with g | g
    · exact g
    · have := Int.mul_nonpos_of_nonneg_of_nonpos (Int.le_of_lt hq) g
      omega
  · left; refine ⟨h, ?_⟩
    rw [h, Int.mul_zero, Int.zero_add] at e
    rcases Int.mul_eq_zero.1 e with g | g
    · omega
    · exact g
  · right; left; refine ⟨h, ?_⟩
    have := Int.mul_pos hp h
    rcases Int.lt_or_le Y 0 with g | g
    · exact g
    · have := Int.mul_nonneg (Int.le_of_lt hq) g
      omega
theorem inn_sides {a b c d m : Pnt} (hcd : c ≠ d) (h1 : cr a b m 2 = 0) (h2 : Inn c d m) : (cr a b c 1 = 0 ∧ cr a b d 1 = 0) ∨ (0 < cr a b c 1 ∧ cr a b d 1 < 0) ∨ (cr a b c 1 < 0 ∧ 0 < cr a b d 1) := by
  obtain ⟨g1, g2⟩ := inn_pos hcd h2
  have h0 := h2.1.1
  have e1 : dt c d m 2 * (d.1 - c.1) = (m.1 - c.1 * 2) * kk c d := by unfold cr at h0; unfold dt kk; grind
  have e2 : dt c d m 2 * (d.2 - c.2) = (m.2 - c.2 * 2) * kk c d := by unfold cr at h0; unfold dt kk; grind
  refine weights (p := kk c d * 2 - dt c d m 2) (q := dt c d m 2) (by omega) g1 ?_
  generalize dt c d m 2 = T at *
  generalize kk c d = K at *
  unfold cr at *
  grind
theorem line_other {a b c d : Pnt} (hab : a ≠ b) (h1 : cr a b c 1 = 0) (h2 : cr a b d 1 = 0) : cr c d a 1 = 0 ∧ cr c d b 1 = 0 := by
  have hk := kk_pos hab
  have z : ∀ t : Int, kk a b * t = 0 → t = 0 := by
    intro t h
    rcases Int.mul_eq_zero.1 h with h | h
    · omega
    · exact h
  constructor
  · apply z; unfold cr at *; unfold kk; grind
  · apply z; unfold cr at *; unfold kk; grind
theorem inn_between {a b c d m : Pnt} (hcd : c ≠ d) (h2 : Inn c d m) : (2 * pos a b c < dt a b m 2 ∧ dt a b m 2 < 2 * pos a b d) ∨ (2 * pos a b d < dt a b m 2 ∧ dt a b m 2 < 2 * pos a b c) ∨ pos a b c = pos a b d := by
  obtain ⟨g1, g2⟩ := inn_pos hcd h2
  have h0 := h2.1.1
  have hk := kk_pos hcd
  have e1 : dt c d m 2 * (d.1 - c.1) = (m.1 - c.1 * 2) * kk c d := by unfold cr at h0; unfold dt kk; grind
  have e2 : dt c d m 2 * (d.2 - c.2) = (m.2 - c.2 * 2) * kk c d := by unfold cr at h0; unfold dt kk; grind
  have e : dt c d m 2 * (pos a b d - pos a b c) = kk c d * (dt a b m 2 - 2 * pos a b c) := by
    generalize dt c d m 2 = T at *
    generalize kk c d = K at *
    unfold pos dt; grind
  have e' : (kk c d * 2 - dt c d m 2) * (pos a b d - pos a b c) = kk c d * (2 * pos a b d - dt a b m 2) := by
    have : (kk c d * 2 - dt c d m 2) * (pos a b d - pos a b c) = kk c d * 2 * (pos a b d - pos a b c) - dt c d m 2 * (pos a b d - pos a b c) := by grind
    rw [this, e]; grind
  have g3 : 0 < kk c d * 2 - dt c d m 2 := by omega
  have sgn : ∀ {p q A B : Int}, 0 < p → 0 < q → p * A = q * B → (0 < A → 0 < B) ∧ (A < 0 → B < 0) := by
    intro p q A B hp hq e
    constructor
    · intro hA
      have := Int.mul_pos hp hA
      rw [e] at this
      exact Int.pos_of_mul_pos_right this hq
    · intro hA
      have := Int.mul_neg_of_pos_of_neg hp hA
      rw [e] at this
      rcases Int.lt_or_le B 0 with g | g
      · exact g
      · have := Int.mul_nonneg (Int.le_of_lt hq) g; omega
  rcases Int.lt_trichotomy (pos a b d - pos a b c) 0 with h | h | h
  · have k1 := (sgn g1 hk e).2 h
    have k2 := (sgn g3 hk e').2 h
    right; left; omega
  · right; right; omega
  · have k1 := (sgn g1 hk e).1 h
    have k2 := (sgn g3 hk e').1 h
    left; omega
theorem inn_cross {a b c d m : Pnt} (hab : a ≠ b) (hcd : c ≠ d) (h1 : Inn a b m) (h2 : Inn c d m) : meet a b c d = 2 ∨ meet a b c d = 3 := by
  have s1 := inn_sides hcd h1.1.1 h2
  have s2 := inn_sides hab h2.1.1 h1
  have l1 := line_other (c := c) (d := d) hab
  have l2 := line_other (c := a) (d := b) hcd
  by_cases hz : cr a b c 1 = 0
  · have hd : cr a b d 1 = 0 := by omega
    obtain ⟨z1, z2⟩ := l1 hz hd
    right
    have hm : meet a b c d = onLine (fwd a b) (fwd c d) := by
      unfold meet
      simp [hz, hd, z1, z2, sg]
    rw [hm]
    obtain ⟨p1, p2⟩ := inn_pos hab h1
    have hb := inn_between (a := a) (b := b) hcd h2
    have hne : pos a b c ≠ pos a b d := fun e => hcd (pos_inj hab hz hd e)
    rw [onLine_count hab hcd hz hd]
    have : count (kk a b) (min (pos a b c) (pos a b d)) (max (pos a b c) (pos a b d)) = 2 := by
      unfold count
      rw [if_neg (by omega), if_neg (by omega)]
    simp [this]
  · left
    have t2 : ¬ (cr c d a 1 = 0 ∧ cr c d b 1 = 0) := fun e => hz (l2 e.1 e.2).1
    have sp : ∀ {n : Int}, 0 < n → sg n = 1 := fun h => by unfold sg; rw [if_pos h]
    have sn : ∀ {n : Int}, n < 0 → sg n = -1 := fun h => by unfold sg; rw [if_neg (by omega), if_pos h]
    rcases s1 with e | ⟨x1, y1⟩ | ⟨x1, y1⟩
    · exact absurd e.1 hz
    · rcases s2 with e | ⟨z1, u1⟩ | ⟨z1, u1⟩
      · exact absurd e t2
      · unfold meet; simp [sp x1, sn y1, sp z1, sn u1]
      · unfold meet; simp [sp x1, sn y1, sn z1, sp u1]
    · rcases s2 with e | ⟨z1, u1⟩ | ⟨z1, u1⟩
      · exact absurd e t2
      · unfold meet; simp [sn x1, sp y1, sp z1, sn u1]
      · unfold meet; simp [sn x1, sp y1, sn z1, sp u1]
end Vd
end Go.Proofs.YtcclepohmhdpbabGreatDoor

namespace Go.Proofs.YtcclepohmhdpbabGreatDoor
set_option linter.all false
namespace Vd
def twiceD (r : Ring) : Bool := anyI (r.length - 1) fun i => anyI i fun j => decide (ptAt r i = ptAt r j)
def nextD2 (n i j : Nat) : Bool := decide (j + 1 = i) || (decide (j = 0) && decide (i + 1 = n))
def badK (next : Bool) (k : Int) : Bool := (next && decide (k ≠ 1)) || (!next && decide (k ≠ 0))
def selfD (r : Ring) : Bool := anyI (r.length - 1) fun i => anyI i fun j => badK (nextD2 (r.length - 1) i j) (common (ptAt r i) (ptAt r (i + 1)) (ptAt r j) (ptAt r (j + 1))).1
def cleanD (r : Ring) : Bool := !(twiceD r || selfD r)
def crossD (s t : Seg) : Bool := decide ((common s.1 s.2 t.1 t.2).1 = 2) || (common s.1 s.2 t.1 t.2).2
def pointsD (a b : Ring) : Bool := !((segs a).any fun s => (segs b).any fun t => crossD s t)
def allD (r : Ring) (q : Poly) (k : Int) : Bool := !((segs r).any fun s => (midD s.1 s.2 q).any fun m => decide (inP q m ≠ k))
structure Shut (r : Ring) : Prop where
  len : 4 ≤ r.length
  eq : ptAt r 0 = ptAt r (r.length - 1)
theorem ptAt_get {r : Ring} {i : Nat} (h : i < r.length) : r[i]? = some (ptAt r i) := by
  unfold ptAt; rw [List.getD_eq_getElem?_getD, List.getElem?_eq_getElem h]; rfl
theorem sAt_get {r : Ring} {i : Nat} (h : i + 1 < r.length) : sAt (segs r) i = (ptAt r i, ptAt r (i + 1)) := by
  unfold sAt; rw [List.getD_eq_getElem?_getD, segs_at (ptAt_get (by omega)) (ptAt_get h)]; rfl
theorem segs_mem_at {r : Ring} {s : Seg} (h : s ∈ segs r) : ∃ i, i + 1 < r.length ∧ s = (ptAt r i, ptAt r (i + 1)) := by
  obtain ⟨i, hi, e⟩ := List.getElem_of_mem h
  rw [segs_len] at hi
  have hi' : i + 1 < r.length := by omega
  refine ⟨i, hi', ?_⟩
  have := segs_at (ptAt_get (show i < r.length by omega)) (ptAt_get hi')
  rw [List.getElem?_eq_getElem (by rw [segs_len]; exact hi)] at this
  rw [← e]; exact Option.some.inj this
theorem twice_iff {r : Ring} : twice r = true ↔ ∃ i j, 1 ≤ i ∧ i < j ∧ j < r.length ∧ ptAt r i = ptAt r j := by
  unfold twice
  rw [anyI_iff]
  constructor
  · rintro ⟨i, hi, h⟩
    simp only [Bool.and_eq_true, decide_eq_true_eq, anyI_iff] at h
    obtain ⟨h1, j, hj, h2, h3⟩ := h
    rw [ptAt_get hi, ptAt_get hj] at h3
    exact ⟨i, j, h1, h2, hj, Option.some.inj h3⟩
  · rintro ⟨i, j, h1, h2, h3, h4⟩
    refine ⟨i, by omega, ?_⟩
    simp only [Bool.and_eq_true, decide_eq_true_eq, anyI_iff]
    exact ⟨h1, j, h3, h2, by rw [ptAt_get (show i < r.length by omega), ptAt_get h3, h4]⟩
theorem long_of {r : Ring} (h : Shut r) (ht : twice r = false) : Long r := by
  intro s hs e
  obtain ⟨i, hi, rfl⟩ := segs_mem_at hs
  have h4 := h.len
  have : twice r = true := by
    rw [twice_iff]
    by_cases h0 : i = 0
    · subst h0
      exact ⟨1, r.length - 1, by omega, by omega, by omega, by rw [← h.eq]; exact e.symm⟩
    · exact ⟨i, i + 1, by omega, by omega, hi, e⟩
  rw [ht] at this; cases this
end Vd
end Go.Proofs.YtcclepohmhdpbabGreatDoor

namespace Go.Proofs.YtcclepohmhdpbabGreatDoor
set_option linter.all false
namespace Vd
def d1 (m : Mult) : Bool := m.any fun l => l.any fun r => !(cleanD r)
def d2 (m : Mult) : Bool := m.any fun l => anyI l.length fun i => anyI l.length fun j => decide (j ≠ i) && !(pointsD (rAt l i) (rAt l j))
def nestD (j : Nat) : Int := if j = 0 then 1 else -1
def d3 (m : Mult) : Bool := m.any fun l => anyI l.length fun i => decide (1 ≤ i) && anyI l.length fun j => decide (j ≠ i) && !(allD (rAt l i) [rAt l j] (nestD j))
structure Good (m : Mult) : Prop where
  ne : ∀ l ∈ m, l ≠ []
  shut : ∀ l ∈ m, ∀ r ∈ l, Shut r
theorem good_of {m : Mult} (h : Pl.wrong m = 0) : Good m := by
  have hb : m.any Pl.badL = false := by
    unfold Pl.wrong at h
    split at h
    · omega
    · split at h
      · omega
      · rename_i k; simpa using k
  have one : ∀ l ∈ m, Pl.badL l = false := by
    intro l hl
    cases hx : Pl.badL l with
    | false => rfl
    | true => rw [List.any_eq_true.2 ⟨l, hl, hx⟩] at hb; cases hb
  refine ⟨fun l hl e => ?_, fun l hl r hr => ?_⟩
  · have := one l hl
    unfold Pl.badL at this
    rw [e] at this
    simp at this
  · have := one l hl
    unfold Pl.badL at this
    simp only [Bool.or_eq_false_iff] at this
    have hr2 : Pl.badR r = false := by
      cases hx : Pl.badR r with
      | false => rfl
      | true =>
        have e : Pl.badRs l = true := List.any_eq_true.2 ⟨r, hr, hx⟩
        rw [e] at this; cases this.2
    unfold Pl.badR at hr2
    simp only [Bool.or_eq_false_iff, decide_eq_false_iff_not, Bool.not_eq_false', decide_eq_true_eq] at hr2
    have h4 : 4 ≤ r.length := by omega
    refine ⟨h4, ?_⟩
    have e := hr2.2
    rw [List.head?_eq_getElem?, List.getLast?_eq_getElem?, ptAt_get (by omega), ptAt_get (by omega)] at e
    exact Option.some.inj e
theorem pAt_mem {m : Mult} {i : Nat} (h : i < m.length) : pAt m i ∈ m := by
  unfold pAt; rw [List.getD_eq_getElem?_getD, List.getElem?_eq_getElem h]; simp
theorem any_congr {α : Type} {l : List α} {f g : α → Bool} (h : ∀ x ∈ l, f x = g x) : l.any f = l.any g := by
  induction l with
  | nil => rfl
  | cons a t ih => rw [List.any_cons, List.any_cons, h a (by simp), ih fun x hx => h x (by simp [hx])]
theorem anyI_congr {n : Nat} {f g : Nat → Bool} (h : ∀ i, i < n → f i = g i) : anyI n f = anyI n g := any_congr fun x hx => h x (List.mem_range.1 hx)
def half (a b : Poly) : Bool := a.any fun r => b.any (fun s => !(pointsD r s)) || !(allD r b (-1))
end Vd
end Go.Proofs.YtcclepohmhdpbabGreatDoor

namespace Go.Proofs.YtcclepohmhdpbabGreatDoor
set_option linter.all false
namespace Vd
structure RG (X : Mult) : Prop where
  long : ∀ r ∈ X.flatten, Long r
  from_ : ∀ r ∈ X.flatten, ∀ p ∈ r, ∃ q, (p, q) ∈ segs r
theorem least_of {l : List Pnt} (h : l ≠ []) : ∃ p ∈ l, ∀ q ∈ l, q = p ∨ bef p q := by
  induction l with
  | nil => exact absurd rfl h
  | cons a t ih =>
    by_cases ht : t = []
    · subst ht; exact ⟨a, by simp, by simp⟩
    · obtain ⟨p, hp, hl⟩ := ih ht
      rcases bef_tri a p with k | k | k
      · refine ⟨a, by simp, fun q hq => ?_⟩
        rcases List.mem_cons.1 hq with e | hq
        · exact .inl e
        · rcases hl q hq with e | e
          · rw [e]; exact .inr k
          · exact .inr (bef_trans k e)
      · refine ⟨a, by simp, fun q hq => ?_⟩
        rcases List.mem_cons.1 hq with e | hq
        · exact .inl e
        · rw [k]; exact hl q hq
      · refine ⟨p, by simp [hp], fun q hq => ?_⟩
        rcases List.mem_cons.1 hq with e | hq
        · rw [e]; exact .inr k
        · exact hl q hq
theorem lookL_none {other : Mult} {both : List Seg} {s : Seg} {m : Spot} : ∀ {l : List Seg}, lookL other both s m l = none → ∃ t ∈ l, has t.1 t.2 m.1 m.2 ∧ turnW (along s) (along t) = 0 := by
  intro l
  induction l with
  | nil => intro h; unfold lookL at h; split at h <;> cases h
  | cons t l ih =>
    intro h
    unfold lookL at h
    split at h
    · rename_i hb
      unfold atBoth at h
      split at h
      · cases h
      · split at h
        · cases h
        · exact ⟨t, by simp, of_decide_eq_true hb, by omega⟩
    · obtain ⟨u, hu, k⟩ := ih h
      exact ⟨u, by simp [hu], k⟩
theorem atBounds_none {a b : Mult} (h : atBounds a b = none) {s : Seg} (hs : s ∈ edges a.flatten) {m : Spot} (hm : m ∈ mids s (a.flatten ++ b.flatten)) : ∃ t ∈ edges b.flatten, has t.1 t.2 m.1 m.2 ∧ turnW (along s) (along t) = 0 := by
  unfold atBounds at h
  rw [List.findSome?_eq_none_iff] at h
  have := h s hs
  rw [List.findSome?_eq_none_iff] at this
  exact lookL_none (this m hm)
theorem mem_edges {l : Poly} {s : Seg} : s ∈ edges l ↔ ∃ r ∈ l, s ∈ segs r := by unfold edges; rw [List.mem_flatMap]
theorem parted_at {a b : Mult} (ha : RG a) (hb : RG b) {p : Pnt} (hp : p ∈ a.flatten.flatten) (hn : p ∉ b.flatten.flatten) (hl : ∀ q, q ∈ a.flatten.flatten ∨ q ∈ b.flatten.flatten → q = p ∨ bef p q) : atBounds a b ≠ none := by
  intro h
  obtain ⟨r, hr, hpr⟩ := List.mem_flatten.1 hp
  obtain ⟨q, hq⟩ := ha.from_ r hr p hpr
  have hpq : p ≠ q := ha.long r hr (p, q) hq
  have hbq : bef p q := by
    rcases hl q (.inl (List.mem_flatten.2 ⟨r, hr, (segs_mem hq).2⟩)) with e | e
    · exact absurd e.symm hpq
    · exact e
  have hk := kk_pos hpq
  obtain ⟨h1, h2, h3, h4⟩ := fold_near (pos p q) (fun x => has p q x 1) p (a.flatten ++ b.flatten).flatten q (by rw [pos_a, pos_b]; exact hk)
  generalize hz : (a.flatten ++ b.flatten).flatten.foldl (cutG (pos p q) (fun x => has p q x 1) p) q = z at *
  rw [pos_a] at h2
  rw [pos_b] at h3
  have hzl : cr p q z 1 = 0 := by
    rcases h1 with e | ⟨-, e⟩
    · rw [e]; exact cr_b _ _
    · exact e.1
  have hcz : Cut p q (a.flatten ++ b.flatten).flatten z := by
    rcases h1 with e | ⟨e1, e2⟩
    · exact .inr (.inl e)
    · exact .inr (.inr ⟨e1, e2⟩)
  have hm : midOf p z ∈ mids (p, q) (a.flatten ++ b.flatten) := by
    rw [mem_mids hpq]
    refine ⟨p, z, ⟨.inl rfl, hcz, by rw [pos_a]; exact h2, ?_⟩, rfl⟩
    intro c hc
    rw [pos_a]
    rcases hc with rfl | rfl | ⟨e1, e2⟩
    · rw [pos_a]; omega
    · rw [pos_b]; omega
    · have := h4 c e1 e2
      rw [pos_a] at this
      exact this
  obtain ⟨t, ht, hh, htn⟩ := atBounds_none h (mem_edges.2 ⟨r, hr, hq⟩) hm
  obtain ⟨o, ho, hto⟩ := mem_edges.1 ht
  have htl := hb.long o ho t hto
  have hh' : has t.1 t.2 (midOf p z).1 2 := hh
  have hk2 := kk_pos htl
  obtain ⟨g0, g1, g2⟩ := (has_on htl (by omega)).1 hh'
  have hpar : (q.1 - p.1) * (t.2.2 - t.1.2) - (q.2 - p.2) * (t.2.1 - t.1.1) = 0 := htn
  have hmid : cr p q (midOf p z).1 2 = 0 := by rw [cr_mid, cr_a, hzl]; rfl
  have lin : ∀ x : Int, kk t.1 t.2 * x = 0 → x = 0 := by
    intro x e
    rcases Int.mul_eq_zero.1 e with e | e
    · omega
    · exact e
  have e1 : dt t.1 t.2 (midOf p z).1 2 * (t.2.1 - t.1.1) = ((midOf p z).1.1 - t.1.1 * 2) * kk t.1 t.2 := by unfold cr at g0; unfold dt kk; grind
  have e2 : dt t.1 t.2 (midOf p z).1 2 * (t.2.2 - t.1.2) = ((midOf p z).1.2 - t.1.2 * 2) * kk t.1 t.2 := by unfold cr at g0; unfold dt kk; grind
  have c2 : cr p q t.1 1 * 2 = 0 := by
    apply lin
    generalize dt t.1 t.2 (midOf p z).1 2 = T at *
    generalize kk t.1 t.2 = K at *
    generalize (midOf p z).1 = M at *
    unfold cr at *
    grind
  have c1 : cr p q t.1 1 = 0 := by omega
  have c3 : cr p q t.2 1 = 0 := by
    have : cr p q t.2 1 - cr p q t.1 1 = (q.1 - p.1) * (t.2.2 - t.1.2) - (q.2 - p.2) * (t.2.1 - t.1.1) := by unfold cr; grind
    omega
  have ep : dt p q (midOf p z).1 2 = pos p q z := by
    have : dt p q (midOf p z).1 2 = pos p q p + pos p q z := by unfold midOf pos dt; grind
    rw [this, pos_a]; omega
  have et : (dt p q (midOf p z).1 2 - 2 * pos p q t.1) * kk t.1 t.2 = dt t.1 t.2 (midOf p z).1 2 * (pos p q t.2 - pos p q t.1) := by
    generalize dt t.1 t.2 (midOf p z).1 2 = T at *
    generalize kk t.1 t.2 = K at *
    unfold pos dt at *
    grind
  have key : ∃ c, c ∈ o ∧ cr p q c 1 = 0 ∧ 2 * pos p q c ≤ pos p q z := by
    rcases Int.le_total (pos p q t.1) (pos p q t.2) with k | k
    · refine ⟨t.1, (segs_mem hto).1, c1, ?_⟩
      have : 0 ≤ dt t.1 t.2 (midOf p z).1 2 * (pos p q t.2 - pos p q t.1) := Int.mul_nonneg g1 (by omega)
      rw [← et, ep] at this
      have := Int.nonneg_of_mul_nonneg_left this hk2
      omega
    · refine ⟨t.2, (segs_mem hto).2, c3, ?_⟩
      have e3 : (dt p q (midOf p z).1 2 - 2 * pos p q t.2) * kk t.1 t.2 = (kk t.1 t.2 * 2 - dt t.1 t.2 (midOf p z).1 2) * (pos p q t.1 - pos p q t.2) := by
        generalize dt p q (midOf p z).1 2 = A at *
        generalize dt t.1 t.2 (midOf p z).1 2 = T at *
        generalize kk t.1 t.2 = K at *
        grind
      have : 0 ≤ (kk t.1 t.2 * 2 - dt t.1 t.2 (midOf p z).1 2) * (pos p q t.1 - pos p q t.2) := Int.mul_nonneg (by omega) (by omega)
      rw [← e3, ep] at this
      have := Int.nonneg_of_mul_nonneg_left this hk2
      omega
  obtain ⟨c, hco, hcl, hc2⟩ := key
  have hcb : c ∈ b.flatten.flatten := List.mem_flatten.2 ⟨o, ho, hco⟩
  have hcp : c ≠ p := fun e => hn (e ▸ hcb)
  rcases hl c (.inr hcb) with e | e
  · exact hcp e
  · have hpos := (bef_pos' hbq (cr_a p q) hcl).1 e
    rw [pos_a] at hpos
    have hci : c ∈ (a.flatten ++ b.flatten).flatten := by
      rw [List.flatten_append, List.mem_append]; exact .inr hcb
    have hch : has p q c 1 := by
      rw [has_on hpq (by omega)]
      exact ⟨hcl, by show 0 ≤ pos p q c; omega, by show pos p q c ≤ _; omega⟩
    have := h4 c hci hch
    rw [pos_a] at this
    exact this ⟨hpos, by omega⟩
theorem rg_mv {X : Mult} (h : RG X) (v : Pnt) : RG (mvM v X) := by
  have ef : (mvM v X).flatten = mvL v X.flatten := by unfold mvM mvL; rw [List.map_flatten]
  constructor
  · intro r hr s hs
    rw [ef] at hr
    obtain ⟨r0, h0, rfl⟩ := List.mem_map.1 hr
    rw [segs_mv] at hs
    obtain ⟨s0, h1, rfl⟩ := List.mem_map.1 hs
    exact fun e => h.long r0 h0 s0 h1 (mv_inj.1 e)
  · intro r hr p hp
    rw [ef] at hr
    obtain ⟨r0, h0, rfl⟩ := List.mem_map.1 hr
    obtain ⟨p0, h1, rfl⟩ := List.mem_map.1 hp
    obtain ⟨q, hq⟩ := h.from_ r0 h0 p0 h1
    refine ⟨mv v q, ?_⟩
    rw [segs_mv]
    exact List.mem_map.2 ⟨(p0, q), hq, rfl⟩
theorem spot_mv {X : Mult} (h : RG X) (hne : X.flatten.flatten ≠ []) {v : Pnt} (hv : v ≠ (0, 0)) : spot X (mvM v X) ≠ none := by
  have h' := rg_mv h v
  have ef : (mvM v X).flatten.flatten = X.flatten.flatten.map (mv v) := by
    have : (mvM v X).flatten = mvL v X.flatten := by unfold mvM mvL; rw [List.map_flatten]
    rw [this, flat_mv]
  obtain ⟨p, hp, hl⟩ := least_of hne
  have hl2 : ∀ q ∈ (mvM v X).flatten.flatten, q = mv v p ∨ bef (mv v p) q := by
    intro q hq
    rw [ef] at hq
    obtain ⟨q0, h0, rfl⟩ := List.mem_map.1 hq
    rcases hl q0 h0 with e | e
    · exact .inl (by rw [e])
    · exact .inr (bef_mv.2 e)
  have hpy : mv v p ∈ (mvM v X).flatten.flatten := by rw [ef]; exact List.mem_map_of_mem hp
  have hne2 : mv v p ≠ p := by
    intro e
    unfold mv at e
    have e1 := congrArg Prod.fst e
    have e2 := congrArg Prod.snd e
    simp only at e1 e2
    exact hv (Prod.ext (by simp only; omega) (by simp only; omega))
  unfold spot
  rcases bef_tri p (mv v p) with k | k | k
  · have := parted_at h h' hp (fun e => by
      rcases hl2 p e with g | g
      · exact hne2 g.symm
      · exact bef_irr g k) (fun q hq => by
      rcases hq with hq | hq
      · exact hl q hq
      · rcases hl2 q hq with e | e
        · rw [e]; exact .inr k
        · exact .inr (bef_trans k e))
    cases hs : atBounds X (mvM v X) with
    | none => exact absurd hs this
    | some s => simp
  · exact absurd k.symm hne2
  · have := parted_at h' h hpy (fun e => by
      rcases hl (mv v p) e with g | g
      · exact hne2 g
      · exact bef_irr g k) (fun q hq => by
      rcases hq with hq | hq
      · exact hl2 q hq
      · rcases hl q hq with e | e
        · rw [e]; exact .inr k
        · exact .inr (bef_trans k e))
    cases hs : atBounds X (mvM v X) with
    | none => exact this
    | some s => simp
end Vd
end Go.Proofs.YtcclepohmhdpbabGreatDoor

namespace Go.Proofs.YtcclepohmhdpbabGreatDoor
set_option linter.all false
namespace Vd
structure VR (r : Ring) : Prop where
  shut : Shut r
  tw : twice r = false
  self : selfR r = false
theorem least0 {m : Mult} (h : least m = 0) : badC 1 m = false ∧ badC 2 m = false ∧ badC 3 m = false ∧ badC 4 m = false ∧ overlap m = false := by
  unfold least at h
  cases h1 : badC 1 m <;> cases h2 : badC 2 m <;> cases h3 : badC 3 m <;> cases h4 : badC 4 m <;> cases h5 : overlap m <;> simp_all
theorem vr_of {m : Mult} (hg : Good m) (h : badC 1 m = false) : ∀ l ∈ m, ∀ r ∈ l, VR r := by
  intro l hl r hr
  have : (twice r || selfR r) = false := by
    cases hx : (twice r || selfR r) with
    | false => rfl
    | true =>
      have : badC 1 m = true := by
        unfold badC
        refine List.any_eq_true.2 ⟨l, hl, ?_⟩
        unfold holdsC simple
        simp only [if_true, Bool.not_not]
        exact List.any_eq_true.2 ⟨r, hr, hx⟩
      rw [h] at this; cases this
  rw [Bool.or_eq_false_iff] at this
  exact ⟨hg.shut l hl r hr, this.1, this.2⟩
theorem VR.long {r : Ring} (h : VR r) : Long r := long_of h.shut h.tw
theorem VR.meet {r : Ring} (h : VR r) {i j : Nat} (hij : i < j) (hj : j + 1 < r.length) : meetS (ptAt r i, ptAt r (i + 1)) (ptAt r j, ptAt r (j + 1)) = wantI (r.length - 1) i j := by
  have hs := h.self
  cases hx : decide (meetS (sAt (segs r) i) (sAt (segs r) j) ≠ wantI (segs r).length i j) with
  | true =>
    have : selfR r = true := by
      unfold selfR
      exact anyI_true (i := j) (by rw [segs_len]; omega) (anyI_true (i := i) hij hx)
    rw [hs] at this; cases this
  | false =>
    have := of_decide_eq_false hx
    rw [sAt_get (by omega), sAt_get (by omega), segs_len] at this
    exact Decidable.not_not.1 this
theorem VR.adj {r : Ring} (h : VR r) {i : Nat} (h1 : 1 ≤ i) (hi : i < r.length) : meetS (ptAt r (i - 1), ptAt r i) (ptAt r i, nextI r i) = 1 := by
  have h4 := h.shut.len
  unfold nextI
  by_cases hl : i + 1 < r.length
  · rw [if_pos hl]
    have := h.meet (i := i - 1) (j := i) (by omega) hl
    rw [show i - 1 + 1 = i by omega] at this
    rw [this]
    unfold wantI
    rw [if_pos (by omega)]
  · rw [if_neg hl, meetS_symm]
    have := h.meet (i := 0) (j := i - 1) (by omega) (by omega)
    rw [show i - 1 + 1 = i by omega, h.shut.eq, show r.length - 1 = i by omega] at this
    rw [this]
    unfold wantI
    rw [if_pos (by omega)]
theorem nextI_mem {r : Ring} (h : Shut r) {i : Nat} (hi : i < r.length) : nextI r i ∈ r := by
  have h4 := h.len
  unfold nextI
  split
  · rename_i k; exact List.mem_of_getElem? (ptAt_get k)
  · exact List.mem_of_getElem? (ptAt_get (by omega))
theorem ptAt_mem {r : Ring} {i : Nat} (hi : i < r.length) : ptAt r i ∈ r := List.mem_of_getElem? (ptAt_get hi)
theorem onLine_same {p x y : Pnt} (hx : bef p x) (hy : bef p y) : onLine (p, x) (p, y) = 3 := by
  unfold onLine
  simp only
  rw [if_neg (fun k => bef_irr k k)]
  split <;> first | rfl | rw [if_pos hy] | rw [if_pos hx]
theorem onLine_same' {p x y : Pnt} (hx : bef x p) (hy : bef y p) : onLine (x, p) (y, p) = 3 := by
  unfold onLine
  simp only
  rw [if_neg (c := bef p p) (fun k => bef_irr k k)]
  split <;> first | rfl | rw [if_pos hy] | rw [if_pos hx]
theorem VR.turns {r : Ring} (h : VR r) {i : Nat} (h1 : 1 ≤ i) (hi : i < r.length) (he : (∀ p ∈ r, p = ptAt r i ∨ bef (ptAt r i) p) ∨ (∀ p ∈ r, p = ptAt r i ∨ bef p (ptAt r i))) : turns r i = true := by
  unfold Vd.turns
  rw [decide_eq_true h1, Bool.true_and, decide_eq_true_eq]
  intro hz
  have hadj := h.adj h1 hi
  have hl := h.long
  have s1 : ptAt r (i - 1) ≠ ptAt r i := by
    have := hl (ptAt r (i - 1), ptAt r (i - 1 + 1)) (List.mem_of_getElem? (segs_at (ptAt_get (by omega)) (ptAt_get (by omega))))
    rw [show i - 1 + 1 = i by omega] at this
    exact this
  have s2 : ptAt r i ≠ nextI r i := by
    have h4 := h.shut.len
    unfold nextI
    split
    · rename_i k
      exact hl (ptAt r i, ptAt r (i + 1)) (List.mem_of_getElem? (segs_at (ptAt_get (by omega)) (ptAt_get k)))
    · have := hl (ptAt r 0, ptAt r 1) (List.mem_of_getElem? (segs_at (ptAt_get (by omega)) (ptAt_get (by omega))))
      rw [h.shut.eq, show r.length - 1 = i by omega] at this
      exact this
  have cz : cr (ptAt r (i - 1)) (ptAt r i) (nextI r i) 1 = 0 := (sg_zero _).1 hz
  have hm1 := ptAt_mem (r := r) (i := i - 1) (by omega)
  have hm2 := nextI_mem h.shut hi
  generalize ptAt r (i - 1) = x at *
  generalize nextI r i = y at *
  generalize ptAt r i = p at *
  have z1 := cr_b x p
  obtain ⟨z3, z4⟩ := line_other s1 z1 cz
  have hm : meetS (x, p) (p, y) = onLine (fwd x p) (fwd p y) := by
    unfold meetS Vd.meet
    simp [z1, cz, z3, z4, sg]
  rw [hm] at hadj
  rcases he with he | he
  · have b1 : bef p x := by rcases he x hm1 with e | e; exact absurd e s1; exact e
    have b2 : bef p y := by rcases he y hm2 with e | e; exact absurd e.symm s2; exact e
    have e1 : fwd x p = (p, x) := by unfold fwd; rw [if_pos b1]
    have e2 : fwd p y = (p, y) := by unfold fwd; rw [if_neg (fun k => bef_irr b2 k)]
    rw [e1, e2, onLine_same b1 b2] at hadj
    omega
  · have b1 : bef x p := by rcases he x hm1 with e | e; exact absurd e s1; exact e
    have b2 : bef y p := by rcases he y hm2 with e | e; exact absurd e.symm s2; exact e
    have e1 : fwd x p = (x, p) := by unfold fwd; rw [if_neg (fun k => bef_irr b1 k)]
    have e2 : fwd p y = (y, p) := by unfold fwd; rw [if_pos b2]
    rw [e1, e2, onLine_same' b1 b2] at hadj
    omega
theorem greatest_of {l : List Pnt} (h : l ≠ []) : ∃ p ∈ l, ∀ q ∈ l, q = p ∨ bef q p := by
  induction l with
  | nil => exact absurd rfl h
  | cons a t ih =>
    by_cases ht : t = []
    · subst ht; exact ⟨a, by simp, by simp⟩
    · obtain ⟨p, hp, hl⟩ := ih ht
      rcases bef_tri p a with k | k | k
      · refine ⟨a, by simp, fun q hq => ?_⟩
        rcases List.mem_cons.1 hq with e | hq
        · exact .inl e
        · rcases hl q hq with e | e
          · rw [e]; exact .inr k
          · exact .inr (bef_trans e k)
      · refine ⟨a, by simp, fun q hq => ?_⟩
        rcases List.mem_cons.1 hq with e | hq
        · exact .inl e
        · rw [← k]; exact hl q hq
      · refine ⟨p, by simp [hp], fun q hq => ?_⟩
        rcases List.mem_cons.1 hq with e | hq
        · rw [e]; exact .inr k
        · exact hl q hq
theorem place_of {r : Ring} (h : Shut r) {p : Pnt} (hp : p ∈ r) : ∃ i, 1 ≤ i ∧ i < r.length ∧ ptAt r i = p := by
  obtain ⟨i, hi, e⟩ := List.getElem_of_mem hp
  have e' : ptAt r i = p := by
    have := ptAt_get hi
    rw [List.getElem?_eq_getElem hi, e] at this
    exact (Option.some.inj this).symm
  have h4 := h.len
  by_cases h0 : i = 0
  · exact ⟨r.length - 1, by omega, by omega, by rw [← h.eq, ← h0]; exact e'⟩
  · exact ⟨i, by omega, hi, e'⟩
theorem mem_corners {r : Ring} {p : Pnt} : p ∈ corners r ↔ ∃ i, i < r.length ∧ Vd.turns r i = true ∧ ptAt r i = p := by
  unfold corners cornersI
  simp only [List.mem_map, List.mem_filter, List.mem_range]
  constructor
  · rintro ⟨i, ⟨h1, h2⟩, h3⟩; exact ⟨i, h1, h2, h3⟩
  · rintro ⟨i, h1, h2, h3⟩; exact ⟨i, ⟨h1, h2⟩, h3⟩
theorem map_nodup {f : Nat → Pnt} {l : List Nat} (h : l.Nodup) (hf : ∀ x ∈ l, ∀ y ∈ l, f x = f y → x = y) : (l.map f).Nodup := by
  induction l with
  | nil => exact List.nodup_nil
  | cons a t ih =>
    rw [List.nodup_cons] at h
    rw [List.map_cons, List.nodup_cons]
    refine ⟨?_, ih h.2 fun x hx y hy => hf x (by simp [hx]) y (by simp [hy])⟩
    intro hm
    obtain ⟨b, hb, e⟩ := List.mem_map.1 hm
    have := hf b (by simp [hb]) a (by simp) e
    exact h.1 (this ▸ hb)
theorem VR.corners_nodup {r : Ring} (h : VR r) : (corners r).Nodup := by
  unfold corners cornersI
  refine map_nodup (List.Pairwise.filter _ List.nodup_range) ?_
  intro x hx y hy e
  have hx1 := List.mem_filter.1 hx
  have hy1 := List.mem_filter.1 hy
  have hx2 := List.mem_range.1 hx1.1
  have hy2 := List.mem_range.1 hy1.1
  have hx3 : 1 ≤ x := by have := hx1.2; unfold Vd.turns at this; simp only [Bool.and_eq_true, decide_eq_true_eq] at this; exact this.1
  have hy3 : 1 ≤ y := by have := hy1.2; unfold Vd.turns at this; simp only [Bool.and_eq_true, decide_eq_true_eq] at this; exact this.1
  rcases Nat.lt_trichotomy x y with k | k | k
  · have : twice r = true := twice_iff.2 ⟨x, y, hx3, k, hy2, e⟩
    rw [h.tw] at this; cases this
  · exact k
  · have : twice r = true := twice_iff.2 ⟨y, x, hy3, k, hx2, e.symm⟩
    rw [h.tw] at this; cases this
theorem VR.corners_two {r : Ring} (h : VR r) : 2 ≤ (corners r).length := by
  have hne : r ≠ [] := by intro e; have := h.shut.len; rw [e] at this; simp at this
  obtain ⟨p, hp, hpl⟩ := least_of hne
  obtain ⟨q, hq, hql⟩ := greatest_of hne
  obtain ⟨i, i1, i2, i3⟩ := place_of h.shut hp
  obtain ⟨j, j1, j2, j3⟩ := place_of h.shut hq
  have m1 : p ∈ corners r := mem_corners.2 ⟨i, i2, h.turns i1 i2 (.inl (by rw [i3]; exact hpl)), i3⟩
  have m2 : q ∈ corners r := mem_corners.2 ⟨j, j2, h.turns j1 j2 (.inr (by rw [j3]; exact hql)), j3⟩
  have hpq : p ≠ q := by
    intro e
    have h4 := h.shut.len
    have h0 := ptAt_mem (r := r) (i := 1) (by omega)
    have h2 := ptAt_mem (r := r) (i := 2) (by omega)
    have hl := h.long (ptAt r 1, ptAt r 2) (List.mem_of_getElem? (segs_at (ptAt_get (by omega)) (ptAt_get (by omega))))
    have one : ∀ x ∈ r, x = p := by
      intro x hx
      rcases hpl x hx with k | k
      · exact k
      · rcases hql x hx with k2 | k2
        · rw [k2, e]
        · rw [← e] at k2; exact (bef_irr k k2).elim
    exact hl (by rw [one _ h0, one _ h2])
  match hc : corners r with
  | [] => rw [hc] at m1; cases m1
  | [x] => rw [hc] at m1 m2; simp at m1 m2; exact absurd (m1.trans m2.symm) hpq
  | x :: y :: t => simp
theorem ringForm_len {r : Ring} (h : 0 < (corners r).length) (b : Bool) : (ringForm r b).length = (corners r).length + 1 := by
  unfold ringForm; rw [if_neg (by omega)]; simp
theorem ringForm_at {r : Ring} (h : 0 < (corners r).length) (b : Bool) {i : Nat} (hi : i < (corners r).length + 1) : ptAt (ringForm r b) i = ptAt (corners r) ((leastI (corners r) + i * stepI (corners r) b) % (corners r).length) := by
  unfold ringForm; rw [if_neg (by omega)]
  unfold ptAt
  rw [List.getD_eq_getElem?_getD, List.getElem?_map, List.getElem?_range hi]
  rfl
theorem step_cases (v : Ring) (b : Bool) : stepI v b = 1 ∨ stepI v b = v.length - 1 := by unfold stepI; split; exact .inl rfl; exact .inr rfl
theorem nodup_at {v : Ring} (h : v.Nodup) {i j : Nat} (hi : i < v.length) (hj : j < v.length) (e : ptAt v i = ptAt v j) : i = j := by
  have h1 := ptAt_get hi
  have h2 := ptAt_get hj
  rw [e, ← h2] at h1
  exact (List.getElem?_inj hi h).1 h1
theorem mod_step {a k s n : Nat} (hn : 2 ≤ n) (hs : s = 1 ∨ s = n - 1) : (a + k * s) % n ≠ (a + (k + 1) * s) % n := by
  have e : a + (k + 1) * s = a + k * s + s := by rw [Nat.add_mul]; omega
  rw [e]
  generalize a + k * s = x
  intro h
  have h1 : (x + s) % n = (x % n + s) % n := (Nat.mod_add_mod x n s).symm
  rw [h1] at h
  have h2 := Nat.mod_lt x (show 0 < n by omega)
  generalize x % n = y at *
  rcases hs with rfl | rfl
  · by_cases h3 : y + 1 < n
    · rw [Nat.mod_eq_of_lt h3] at h; omega
    · rw [show y + 1 = n by omega, Nat.mod_self] at h; omega
  · by_cases h3 : y = 0
    · rw [h3, Nat.zero_add, Nat.mod_eq_of_lt (by omega)] at h; omega
    · rw [Nat.mod_eq_sub_mod (by omega), Nat.mod_eq_of_lt (by omega)] at h; omega
theorem VR.form_long {r : Ring} (h : VR r) (b : Bool) : Long (ringForm r b) := by
  have h2 := h.corners_two
  intro s hs
  obtain ⟨i, hi, rfl⟩ := segs_mem_at hs
  rw [ringForm_len (by omega)] at hi
  rw [ringForm_at (by omega) b (by omega), ringForm_at (by omega) b hi]
  intro e
  have := nodup_at h.corners_nodup (Nat.mod_lt _ (by omega)) (Nat.mod_lt _ (by omega)) e
  exact mod_step h2 (step_cases _ b) this
theorem VR.form_shut {r : Ring} (h : VR r) (b : Bool) : ptAt (ringForm r b) 0 = ptAt (ringForm r b) ((ringForm r b).length - 1) := by
  have h2 := h.corners_two
  rw [ringForm_len (by omega), ringForm_at (by omega) b (by omega), ringForm_at (by omega) b (by omega)]
  congr 1
  simp
theorem VR.form_from {r : Ring} (h : VR r) (b : Bool) : ∀ p ∈ ringForm r b, ∃ q, (p, q) ∈ segs (ringForm r b) := by
  have h2 := h.corners_two
  have hlen := ringForm_len (r := r) (by omega) b
  have hsh := h.form_shut b
  intro p hp
  obtain ⟨i, hi, e⟩ := List.getElem_of_mem hp
  have e' : ptAt (ringForm r b) i = p := by
    have := ptAt_get hi
    rw [List.getElem?_eq_getElem hi, e] at this
    exact (Option.some.inj this).symm
  by_cases hl : i + 1 < (ringForm r b).length
  · exact ⟨ptAt (ringForm r b) (i + 1), by rw [← e']; exact List.mem_of_getElem? (segs_at (ptAt_get hi) (ptAt_get hl))⟩
  · have : i = (ringForm r b).length - 1 := by omega
    rw [this, ← hsh] at e'
    exact ⟨ptAt (ringForm r b) 1, by rw [← e']; exact List.mem_of_getElem? (segs_at (ptAt_get (by omega)) (ptAt_get (by omega)))⟩
theorem order_mem (m : Mult) : ∀ (is : List Nat) (o : Mult), (∀ i ∈ is, i < m.length) → ∀ l ∈ is.foldl (orderS m) o, l ∈ m ∨ l ∈ o := by
  intro is
  induction is with
  | nil => intro o _ l hl; exact .inr hl
  | cons i t ih =>
    intro o hi l hl
    rw [List.foldl_cons] at hl
    rcases ih _ (fun x hx => hi x (by simp [hx])) l hl with h | h
    · exact .inl h
    · unfold orderS at h
      rcases List.mem_or_eq_of_mem_set h with h | h
      · exact .inr h
      · exact .inl (h ▸ pAt_mem (hi i (by simp)))
theorem inOrder_mem {m : Mult} {l : Poly} (h : l ∈ inOrder m) : l ∈ m ∨ l = [] := by
  unfold inOrder orderN at h
  rcases order_mem m _ _ (fun i hi => List.mem_range.1 hi) l h with h | h
  · exact .inl h
  · exact .inr (List.eq_of_mem_replicate h)
theorem cntA_lt (m : Mult) {a n : Nat} (h : a < n) : cntA m a n < n := by
  have e : isA m a a = false := by
    have hr : ∀ r : Ring, cmpR r r = 0 := by
      intro r
      induction r with
      | nil => rfl
      | cons p t ih => unfold cmpR; rw [if_neg (fun k => bef_irr k k), if_neg (fun k => bef_irr k k)]; exact ih
    have hp : ∀ l : Poly, cmpP l l = 0 := by
      intro l
      induction l with
      | nil => rfl
      | cons p t ih => unfold cmpP; rw [if_neg (by rw [hr]; simp)]; exact ih
    unfold isA
    rw [hp]; simp
  unfold cntA
  have h1 := List.countP_le_length (p := isA m a) (l := List.range n)
  rw [List.length_range] at h1
  rcases Nat.lt_or_eq_of_le h1 with k | k
  · exact k
  · exfalso
    have := (List.countP_eq_length (p := isA m a) (l := List.range n)).1 (by rw [List.length_range]; exact k) a (List.mem_range.2 h)
    rw [e] at this; cases this
theorem orderN_len (m : Mult) (n : Nat) : (orderN m n).length = m.length := by
  unfold orderN
  have : ∀ (is : List Nat) (o : Mult), (is.foldl (orderS m) o).length = o.length := by
    intro is
    induction is with
    | nil => intro o; rfl
    | cons i t ih => intro o; rw [List.foldl_cons, ih]; unfold orderS; simp
  rw [this]; simp
theorem inOrder_last {m : Mult} (h : m ≠ []) : ∃ l ∈ m, l ∈ inOrder m := by
  have hn : 0 < m.length := List.length_pos_iff.2 h
  unfold inOrder
  obtain ⟨n, hnn⟩ : ∃ n, m.length = n + 1 := ⟨m.length - 1, by omega⟩
  refine ⟨pAt m n, pAt_mem (by omega), ?_⟩
  rw [hnn]
  unfold orderN
  rw [List.range_succ, List.foldl_append]
  simp only [List.foldl_cons, List.foldl_nil]
  unfold orderS
  refine List.mem_of_getElem? (i := cntA m n m.length) ?_
  have hl := orderN_len m n
  unfold orderN orderS at hl
  rw [List.getElem?_set_self]
  rw [hl]
  exact cntA_lt m (by omega)
theorem form_rings {m : Mult} {r : Ring} (h : r ∈ (form m).flatten) : ∃ l ∈ m, ∃ o ∈ l, ∃ b, r = ringForm o b := by
  obtain ⟨l, hl, hr⟩ := List.mem_flatten.1 h
  unfold form at hl
  rcases inOrder_mem hl with h1 | h1
  · obtain ⟨l0, h0, rfl⟩ := List.mem_map.1 h1
    refine ⟨l0, h0, ?_⟩
    cases l0 with
    | nil => cases hr
    | cons o t =>
      rcases List.mem_cons.1 hr with e | e
      · exact ⟨o, by simp, true, e⟩
      · obtain ⟨l1, h2, h3⟩ := List.mem_flatten.1 e
        rcases inOrder_mem h2 with h4 | h4
        · obtain ⟨o1, h5, rfl⟩ := List.mem_map.1 h4
          exact ⟨o1, by simp [h5], false, by simpa using h3⟩
        · rw [h4] at h3; cases h3
  · rw [h1] at hr; cases hr
theorem form_rg {m : Mult} (hv : ∀ l ∈ m, ∀ r ∈ l, VR r) : RG (form m) := by
  constructor
  · intro r hr
    obtain ⟨l, hl, o, ho, b, rfl⟩ := form_rings hr
    exact (hv l hl o ho).form_long b
  · intro r hr
    obtain ⟨l, hl, o, ho, b, rfl⟩ := form_rings hr
    exact (hv l hl o ho).form_from b
theorem form_ne {m : Mult} (hne : m ≠ []) (hg : Good m) (hv : ∀ l ∈ m, ∀ r ∈ l, VR r) : (form m).flatten.flatten ≠ [] := by
  obtain ⟨l, hl, h1⟩ := inOrder_last (m := m.map polyForm) (by simpa using hne)
  obtain ⟨l0, h0, rfl⟩ := List.mem_map.1 hl
  have hn := hg.ne l0 h0
  cases l0 with
  | nil => exact absurd rfl hn
  | cons o t =>
    have hvo := hv _ h0 o (by simp)
    have hlen := ringForm_len (r := o) (by have := hvo.corners_two; omega) true
    have hm : ptAt (ringForm o true) 0 ∈ ringForm o true := ptAt_mem (by omega)
    intro e
    have : ptAt (ringForm o true) 0 ∈ (form m).flatten.flatten := List.mem_flatten.2 ⟨ringForm o true, List.mem_flatten.2 ⟨_, h1, by simp [polyForm]⟩, hm⟩
    rw [e] at this; cases this
theorem moved_parted {m : Mult} (hne : m ≠ []) (h0 : Pl.wrong m = 0) (hl : least m = 0) {v : Pnt} (hv : v ≠ (0, 0)) : spot (form m) (form (mvM v m)) ≠ none := by
  have hg := good_of h0
  have hvr := vr_of hg (least0 hl).1
  rw [form_mv]
  exact spot_mv (form_rg hvr) (form_ne hne hg hvr) hv
end Vd
end Go.Proofs.YtcclepohmhdpbabGreatDoor

namespace Go.Proofs.YtcclepohmhdpbabGreatDoor
set_option linter.all false
namespace Vd
theorem pp {x y : Int} (hx : 0 < x) (hy : 0 < y) : 0 < x * y := Int.mul_pos hx hy
theorem pn {x y : Int} (hx : 0 < x) (hy : y < 0) : x * y < 0 := Int.mul_neg_of_pos_of_neg hx hy
theorem np {x y : Int} (hx : x < 0) (hy : 0 < y) : x * y < 0 := Int.mul_neg_of_neg_of_pos hx hy
theorem nng {x y : Int} (hx : x < 0) (hy : y < 0) : 0 < x * y := Int.mul_pos_of_neg_of_neg hx hy
theorem p0 {x y : Int} (hx : 0 ≤ x) (hy : 0 ≤ y) : 0 ≤ x * y := Int.mul_nonneg hx hy
theorem m0 {x y : Int} (hx : 0 ≤ x) (hy : y ≤ 0) : x * y ≤ 0 := Int.mul_nonpos_of_nonneg_of_nonpos hx hy
theorem n0 {x y : Int} (hx : x ≤ 0) (hy : 0 ≤ y) : x * y ≤ 0 := Int.mul_nonpos_of_nonpos_of_nonneg hx hy
theorem q0 {x y : Int} (hx : x ≤ 0) (hy : y ≤ 0) : 0 ≤ x * y := Int.mul_nonneg_of_nonpos_of_nonpos hx hy
theorem sgn_of {u P z : Int} (hu : 0 < u) (e : u * P = z) : (0 < P ↔ 0 < z) ∧ (P < 0 ↔ z < 0) ∧ (P = 0 ↔ z = 0) := by
  rcases Int.lt_trichotomy P 0 with h | h | h
  · have := pn hu h; omega
  · have : u * P = 0 := by rw [h]; simp
    omega
  · have := pp hu h; omega
def Opp (A B : Int) : Prop := (A < 0 ∧ 0 < B) ∨ (0 < A ∧ B < 0)
instance (A B : Int) : Decidable (Opp A B) := by unfold Opp; infer_instance
theorem opp_symm {A B : Int} : Opp A B ↔ Opp B A := by unfold Opp; omega
theorem opp_neg {A B : Int} : Opp (-A) (-B) ↔ Opp A B := by unfold Opp; omega
theorem core_le {u A B a b P Q : Int} (hu : 0 < u) (hab : a ≤ b) (e1 : u * P = B * a - A * b) (e2 : u * Q = B * (a - u) - A * (b - u))
    (h1 : 0 < a → a ≤ u → A ≠ 0) (h2 : 0 < b → b ≤ u → B ≠ 0) (h3 : (a ≤ 0 ∧ 0 < b) ∨ (b ≤ 0 ∧ 0 < a) → P ≠ 0) (h4 : (a ≤ u ∧ u < b) ∨ (b ≤ u ∧ u < a) → Q ≠ 0)
    (h5 : a = u → b = u → ¬ Opp A B) :
    (((a ≤ 0 ∧ 0 < b ∧ 0 < P) ∨ (b ≤ 0 ∧ 0 < a ∧ P < 0)) ↔ ((a ≤ u ∧ u < b ∧ 0 < Q) ∨ (b ≤ u ∧ u < a ∧ Q < 0))) ↔
      ¬ ((Opp A B ∧ Opp P Q) ↔ ((0 < a ∧ a ≤ u ∧ A < 0) ↔ (0 < b ∧ b ≤ u ∧ B < 0))) := by
  obtain ⟨P1, P2, P3⟩ := sgn_of hu e1
  obtain ⟨Q1, Q2, Q3⟩ := sgn_of hu e2
  clear e1 e2
  by_cases zb : b ≤ 0
  · -- both below
    have n : ¬ (Opp A B ∧ Opp P Q) := by
      rintro ⟨k | k, k2⟩
      · have := m0 (Int.le_of_lt k.2) (show a ≤ 0 by omega); have := q0 (Int.le_of_lt k.1) zb
        have := m0 (Int.le_of_lt k.2) (show a - u ≤ 0 by omega); have := q0 (Int.le_of_lt k.1) (show b - u ≤ 0 by omega)
        unfold Opp at k2; omega
      · have := q0 (Int.le_of_lt k.2) (show a ≤ 0 by omega); have := m0 (Int.le_of_lt k.1) zb
        have := q0 (Int.le_of_lt k.2) (show a - u ≤ 0 by omega); have := m0 (Int.le_of_lt k.1) (show b - u ≤ 0 by omega)
        unfold Opp at k2; omega
    simp only [n, false_iff]
    clear n h5
    constructor
    · intro _; omega
    · intro _; omega
  by_cases za : u < a
  · have n : ¬ (Opp A B ∧ Opp P Q) := by
      rintro ⟨k | k, k2⟩
      · have := p0 (Int.le_of_lt k.2) (show 0 ≤ a by omega); have := n0 (Int.le_of_lt k.1) (show 0 ≤ b by omega)
        have := p0 (Int.le_of_lt k.2) (show 0 ≤ a - u by omega); have := n0 (Int.le_of_lt k.1) (show 0 ≤ b - u by omega)
        unfold Opp at k2; omega
      · have := n0 (Int.le_of_lt k.2) (show 0 ≤ a by omega); have := p0 (Int.le_of_lt k.1) (show 0 ≤ b by omega)
        have := n0 (Int.le_of_lt k.2) (show 0 ≤ a - u by omega); have := p0 (Int.le_of_lt k.1) (show 0 ≤ b - u by omega)
        unfold Opp at k2; omega
    simp only [n, false_iff]
    clear n h5
    constructor
    · intro _; omega
    · intro _; omega
  by_cases ya : 0 < a
  · have hA := h1 ya (by omega)
    by_cases yb : b ≤ u
    · -- both between
      have hB := h2 (by omega) yb
      have d : Opp A B → Opp P Q := by
        intro k
        have k5 := fun e1 e2 => h5 e1 e2 k
        rcases k with k | k
        · have := pp k.2 ya; have := np k.1 (show 0 < b by omega)
          have : 0 < P := P1.2 (by omega)
          rcases Int.lt_or_eq_of_le (show a ≤ u by omega) with g | g
          · have := pn k.2 (show a - u < 0 by omega); have := q0 (Int.le_of_lt k.1) (show b - u ≤ 0 by omega)
            have : Q < 0 := Q2.2 (by omega)
            unfold Opp; omega
          · exact absurd (show b = u by omega) (k5 g)
        · have := np k.2 ya; have := pp k.1 (show 0 < b by omega)
          have : P < 0 := P2.2 (by omega)
          rcases Int.lt_or_eq_of_le (show a ≤ u by omega) with g | g
          · have := nng k.2 (show a - u < 0 by omega); have := m0 (Int.le_of_lt k.1) (show b - u ≤ 0 by omega)
            have : 0 < Q := Q1.2 (by omega)
            unfold Opp; omega
          · exact absurd (show b = u by omega) (k5 g)
      have e : (Opp A B ∧ Opp P Q) ↔ Opp A B := ⟨fun k => k.1, fun k => ⟨k, d k⟩⟩
      rw [e]
      clear d e h5 P1 P2 P3 Q1 Q2 Q3 h3 h4
      unfold Opp
      omega
    · -- a between, b above
      have hQ := h4 (by omega)
      have e : (Opp A B ∧ Opp P Q) ↔ ((A < 0 ∧ Q < 0) ∨ (0 < A ∧ 0 < Q)) := by
        rcases Int.lt_or_gt_of_ne hA with k | k
        · have t1 := np k (show 0 < b by omega)
          have t2 := np k (show 0 < b - u by omega)
          constructor
          · rintro ⟨o1 | o1, o2⟩
            · have := pp o1.2 ya
              have : 0 < P := P1.2 (by omega)
              unfold Opp at o2; omega
            · omega
          · intro o
            have hq : Q < 0 := by omega
            have hB : 0 < B := by
              rcases Int.lt_or_le 0 B with g | g
              · exact g
              · have := q0 g (show a - u ≤ 0 by omega)
                have := Q2.1 hq; omega
            have := pp hB ya
            have : 0 < P := P1.2 (by omega)
            unfold Opp; omega
        · have t1 := pp k (show 0 < b by omega)
          have t2 := pp k (show 0 < b - u by omega)
          constructor
          · rintro ⟨o1 | o1, o2⟩
            · omega
            · have := np o1.2 ya
              have : P < 0 := P2.2 (by omega)
              unfold Opp at o2; omega
          · intro o
            have hq : 0 < Q := by omega
            have hB : B < 0 := by
              rcases Int.lt_or_le B 0 with g | g
              · exact g
              · have := m0 g (show a - u ≤ 0 by omega)
                have := Q1.1 hq; omega
            have := np hB ya
            have : P < 0 := P2.2 (by omega)
            unfold Opp; omega
      rw [e]
      clear e h5 P1 P2 P3 Q1 Q2 Q3 h3 h4
      omega
  · by_cases yb : b ≤ u
    · -- a below, b between
      have hB := h2 (by omega) yb
      have hP := h3 (by omega)
      have e : (Opp A B ∧ Opp P Q) ↔ ((B < 0 ∧ P < 0) ∨ (0 < B ∧ 0 < P)) := by
        rcases Int.lt_or_gt_of_ne hB with k | k
        · have t1 := q0 (Int.le_of_lt k) (show a ≤ 0 by omega)
          have t2 := nng k (show a - u < 0 by omega)
          constructor
          · rintro ⟨o1 | o1, o2⟩
            · omega
            · have := m0 (Int.le_of_lt o1.1) (show b - u ≤ 0 by omega)
              have : 0 < Q := Q1.2 (by omega)
              unfold Opp at o2; omega
          · intro o
            have hp : P < 0 := by omega
            have hA : 0 < A := by
              rcases Int.lt_or_le 0 A with g | g
              · exact g
              · have := n0 g (show 0 ≤ b by omega)
                have := P2.1 hp; omega
            have := m0 (Int.le_of_lt hA) (show b - u ≤ 0 by omega)
            have : 0 < Q := Q1.2 (by omega)
            unfold Opp; omega
        · have t1 := m0 (Int.le_of_lt k) (show a ≤ 0 by omega)
          have t2 := pn k (show a - u < 0 by omega)
          constructor
          · rintro ⟨o1 | o1, o2⟩
            · have := q0 (Int.le_of_lt o1.1) (show b - u ≤ 0 by omega)
              have : Q < 0 := Q2.2 (by omega)
              unfold Opp at o2; omega
            · omega
          · intro o
            have hp : 0 < P := by omega
            have hA : A < 0 := by
              rcases Int.lt_or_le A 0 with g | g
              · exact g
              · have := p0 g (show 0 ≤ b by omega)
                have := P1.1 hp; omega
            have := q0 (Int.le_of_lt hA) (show b - u ≤ 0 by omega)
            have : Q < 0 := Q2.2 (by omega)
            unfold Opp; omega
      rw [e]
      clear e h5 P1 P2 P3 Q1 Q2 Q3 h3 h4
      omega
    · -- a below, b above
      have hP := h3 (by omega)
      have hQ := h4 (by omega)
      have d : Opp P Q → Opp A B := by
        rintro (k | k)
        · have f1 := P2.1 k.1
          have f2 := Q1.1 k.2
          have hA : 0 < A := by
            rcases Int.lt_or_le 0 A with g | g
            · exact g
            · have := n0 g (show 0 ≤ b by omega)
              have hB : 0 < B := by
                rcases Int.lt_or_le 0 B with g2 | g2
                · exact g2
                · have := q0 g2 (show a ≤ 0 by omega); omega
              have := m0 (Int.le_of_lt hB) (show a - u ≤ 0 by omega)
              have : B * a - B * (a - u) = B * u := by rw [← Int.mul_sub]; congr 1; omega
              have : A * b - A * (b - u) = A * u := by rw [← Int.mul_sub]; congr 1; omega
              have := pp hB hu
              have := n0 g (Int.le_of_lt hu)
              omega
          have := pp hA (show 0 < b by omega)
          have := pp hA (show 0 < b - u by omega)
          have hB : B < 0 := by
            rcases Int.lt_or_le B 0 with g2 | g2
            · exact g2
            · have := m0 g2 (show a - u ≤ 0 by omega); omega
          exact .inr ⟨hA, hB⟩
        · have f1 := P1.1 k.1
          have f2 := Q2.1 k.2
          have hA : A < 0 := by
            rcases Int.lt_or_le A 0 with g | g
            · exact g
            · have := p0 g (show 0 ≤ b by omega)
              have hB : B < 0 := by
                rcases Int.lt_or_le B 0 with g2 | g2
                · exact g2
                · have := m0 g2 (show a ≤ 0 by omega); omega
              have := q0 (Int.le_of_lt hB) (show a - u ≤ 0 by omega)
              have : B * a - B * (a - u) = B * u := by rw [← Int.mul_sub]; congr 1; omega
              have : A * b - A * (b - u) = A * u := by rw [← Int.mul_sub]; congr 1; omega
              have := np hB hu
              have := p0 g (Int.le_of_lt hu)
              omega
          have := np hA (show 0 < b by omega)
          have := np hA (show 0 < b - u by omega)
          have hB : 0 < B := by
            rcases Int.lt_or_le 0 B with g2 | g2
            · exact g2
            · have := q0 g2 (show a - u ≤ 0 by omega); omega
          exact .inl ⟨hA, hB⟩
      have e : (Opp A B ∧ Opp P Q) ↔ Opp P Q := ⟨fun k => k.2, fun k => ⟨d k, k⟩⟩
      rw [e]
      clear d e h5 P1 P2 P3 Q1 Q2 Q3 h3 h4 h1 h2
      unfold Opp
      omega
theorem core_x {u A B a b P Q : Int} (hu : 0 < u) (e1 : u * P = B * a - A * b) (e2 : u * Q = B * (a - u) - A * (b - u))
    (h1 : 0 < a → a ≤ u → A ≠ 0) (h2 : 0 < b → b ≤ u → B ≠ 0) (h3 : (a ≤ 0 ∧ 0 < b) ∨ (b ≤ 0 ∧ 0 < a) → P ≠ 0) (h4 : (a ≤ u ∧ u < b) ∨ (b ≤ u ∧ u < a) → Q ≠ 0)
    (h5 : a = u → b = u → ¬ Opp A B) :
    (((a ≤ 0 ∧ 0 < b ∧ 0 < P) ∨ (b ≤ 0 ∧ 0 < a ∧ P < 0)) ↔ ((a ≤ u ∧ u < b ∧ 0 < Q) ∨ (b ≤ u ∧ u < a ∧ Q < 0))) ↔
      ¬ ((Opp A B ∧ Opp P Q) ↔ ((0 < a ∧ a ≤ u ∧ A < 0) ↔ (0 < b ∧ b ≤ u ∧ B < 0))) := by
  rcases Int.le_total a b with h | h
  · exact core_le hu h e1 e2 h1 h2 h3 h4 h5
  · have := core_le (P := -P) (Q := -Q) (A := B) (B := A) hu h (by rw [Int.mul_neg, e1]; omega) (by rw [Int.mul_neg, e2]; omega) h2 h1
      (fun k => by have := h3 (by omega); omega) (fun k => by have := h4 (by omega); omega) (fun k1 k2 o => h5 k2 k1 (opp_symm.1 o))
    rw [opp_symm (A := B), opp_neg] at this
    have t1 : ((a ≤ 0 ∧ 0 < b ∧ 0 < P) ∨ (b ≤ 0 ∧ 0 < a ∧ P < 0)) ↔ ((b ≤ 0 ∧ 0 < a ∧ 0 < -P) ∨ (a ≤ 0 ∧ 0 < b ∧ -P < 0)) := by omega
    have t2 : ((a ≤ u ∧ u < b ∧ 0 < Q) ∨ (b ≤ u ∧ u < a ∧ Q < 0)) ↔ ((b ≤ u ∧ u < a ∧ 0 < -Q) ∨ (a ≤ u ∧ u < b ∧ -Q < 0)) := by omega
    rw [t1, t2, this, iff_comm (a := (0 < b ∧ b ≤ u ∧ B < 0))]
end Vd
end Go.Proofs.YtcclepohmhdpbabGreatDoor

namespace Go.Proofs.YtcclepohmhdpbabGreatDoor
set_option linter.all false
namespace Vd
def Xs (p q a b : Pnt) : Prop := Opp (cr p q a 1) (cr p q b 1) ∧ Opp (cr a b p 1) (cr a b q 1)
instance (p q a b : Pnt) : Decidable (Xs p q a b) := by unfold Xs; infer_instance
def dR (p q v : Pnt) : Bool := decide (p.2 < v.2 ∧ v.2 ≤ q.2 ∧ cr p q v 1 < 0)
theorem ray_one (a b p : Pnt) : ray a b p 1 = decide ((a.2 - p.2 ≤ 0 ∧ 0 < b.2 - p.2 ∧ 0 < cr a b p 1) ∨ (b.2 - p.2 ≤ 0 ∧ 0 < a.2 - p.2 ∧ cr a b p 1 < 0)) := by
  unfold ray
  simp only [Int.mul_one, sg_pos, sg_neg]
  by_cases h1 : a.2 > p.2 <;> by_cases h2 : b.2 > p.2
  · rw [if_pos (by simp [h1, h2])]; symm; exact decide_eq_false (by omega)
  · rw [if_neg (by simp [h1, h2]), if_neg h2]; exact decide_eq_decide.2 (by omega)
  · rw [if_neg (by simp [h1, h2]), if_pos h2]; exact decide_eq_decide.2 (by omega)
  · rw [if_pos (by simp [h1, h2])]; symm; exact decide_eq_false (by omega)
theorem line_btw {u U x al : Int} (hu : 0 < u) (h0 : 0 ≤ al) (h1 : al ≤ u) (e : U * al = u * x) : btw 0 x U := by
  rcases Int.le_total 0 U with g | g
  · left
    have k1 := p0 g h0
    have k2 : U * al ≤ U * u := Int.mul_le_mul_of_nonneg_left h1 g
    rw [e] at k1 k2
    refine ⟨Int.nonneg_of_mul_nonneg_right k1 hu, ?_⟩
    rw [Int.mul_comm U u] at k2
    exact Int.le_of_mul_le_mul_left k2 hu
  · right
    have k1 := n0 g h0
    have k2 : U * u ≤ U * al := Int.mul_le_mul_of_nonpos_left g h1
    rw [e] at k1 k2
    rw [Int.mul_comm U u] at k2
    refine ⟨Int.le_of_mul_le_mul_left k2 hu, ?_⟩
    rcases Int.lt_or_le 0 x with g2 | g2
    · have := pp hu g2; omega
    · exact g2
theorem has_line_y {a b p : Pnt} (h0 : cr a b p 1 = 0) (h : (a.2 ≤ p.2 ∧ p.2 ≤ b.2 ∧ a.2 < b.2) ∨ (b.2 ≤ p.2 ∧ p.2 ≤ a.2 ∧ b.2 < a.2)) : has a b p 1 := by
  refine ⟨h0, ?_, by unfold btw; omega⟩
  unfold cr at h0
  rcases h with ⟨h1, h2, h3⟩ | ⟨h1, h2, h3⟩
  · have := line_btw (u := b.2 - a.2) (U := b.1 - a.1) (x := p.1 - a.1) (al := p.2 - a.2) (by omega) (by omega) (by omega) (by simp only [Int.mul_one] at h0; omega)
    unfold btw at *; omega
  · have := line_btw (u := a.2 - b.2) (U := b.1 - a.1) (x := p.1 - a.1) (al := a.2 - p.2) (by omega) (by omega) (by omega) (by
      simp only [Int.mul_one] at h0
      have e1 : (b.1 - a.1) * (a.2 - p.2) = - ((b.1 - a.1) * (p.2 - a.2)) := by grind
      have e2 : (a.2 - b.2) * (p.1 - a.1) = - ((b.2 - a.2) * (p.1 - a.1)) := by grind
      omega)
    unfold btw at *; omega
theorem cr_flat {p q a : Pnt} (h : a.2 = q.2) : cr p q a 1 = (q.2 - p.2) * (q.1 - a.1) := by unfold cr; rw [h]; grind
theorem bxor_of {r1 r2 x d1 d2 : Prop} [Decidable r1] [Decidable r2] [Decidable x] [Decidable d1] [Decidable d2] (h : (r1 ↔ r2) ↔ ¬ (x ↔ (d1 ↔ d2))) : (decide r1 ^^ decide r2) = (decide x ^^ (decide d1 ^^ decide d2)) := by
  by_cases c1 : r1 <;> by_cases c2 : r2 <;> by_cases c3 : x <;> by_cases c4 : d1 <;> by_cases c5 : d2 <;> simp_all
theorem edge_up {p q a b : Pnt} (hpq : p.2 < q.2) (ha : ¬ has p q a 1) (hb : ¬ has p q b 1) (hp : ¬ has a b p 1) (hq : ¬ has a b q 1) :
    (ray a b p 1 ^^ ray a b q 1) = (decide (Xs p q a b) ^^ (dR p q a ^^ dR p q b)) := by
  have key := core_x (u := q.2 - p.2) (A := cr p q a 1) (B := cr p q b 1) (a := a.2 - p.2) (b := b.2 - p.2) (P := cr a b p 1) (Q := cr a b q 1) (by omega)
    (by unfold cr; grind) (by unfold cr; grind)
    (fun h1 h2 e => ha (has_line_y e (by omega))) (fun h1 h2 e => hb (has_line_y e (by omega)))
    (fun h e => hp (has_line_y e (by omega))) (fun h e => hq (has_line_y e (by omega)))
    (fun h1 h2 o => hq (by
      have e1 := cr_flat (p := p) (q := q) (a := a) (by omega)
      have e2 := cr_flat (p := p) (q := q) (a := b) (by omega)
      rw [e1, e2] at o
      have s1 := sgn_of (u := q.2 - p.2) (P := q.1 - a.1) (by omega) rfl
      have s2 := sgn_of (u := q.2 - p.2) (P := q.1 - b.1) (by omega) rfl
      refine ⟨?_, ?_, by unfold btw; omega⟩
      · unfold cr; rw [show b.2 - a.2 = 0 by omega, show q.2 - a.2 * 1 = 0 by omega]; simp
      · unfold Opp at o; unfold btw; omega))
  rw [ray_one, ray_one]
  have t : ((a.2 - q.2 ≤ 0 ∧ 0 < b.2 - q.2 ∧ 0 < cr a b q 1) ∨ (b.2 - q.2 ≤ 0 ∧ 0 < a.2 - q.2 ∧ cr a b q 1 < 0)) ↔ ((a.2 - p.2 ≤ q.2 - p.2 ∧ q.2 - p.2 < b.2 - p.2 ∧ 0 < cr a b q 1) ∨ (b.2 - p.2 ≤ q.2 - p.2 ∧ q.2 - p.2 < a.2 - p.2 ∧ cr a b q 1 < 0)) := by omega
  have t1 : (p.2 < a.2 ∧ a.2 ≤ q.2 ∧ cr p q a 1 < 0) ↔ (0 < a.2 - p.2 ∧ a.2 - p.2 ≤ q.2 - p.2 ∧ cr p q a 1 < 0) := by omega
  have t2 : (p.2 < b.2 ∧ b.2 ≤ q.2 ∧ cr p q b 1 < 0) ↔ (0 < b.2 - p.2 ∧ b.2 - p.2 ≤ q.2 - p.2 ∧ cr p q b 1 < 0) := by omega
  unfold dR
  rw [decide_eq_decide.2 t, decide_eq_decide.2 t1, decide_eq_decide.2 t2]
  exact bxor_of key
theorem edge_flat {p q a b : Pnt} (hpq : p.2 = q.2) (ha : ¬ has p q a 1) (hb : ¬ has p q b 1) (hp : ¬ has a b p 1) (hq : ¬ has a b q 1) :
    (ray a b p 1 ^^ ray a b q 1) = decide (Xs p q a b) := by
  have eA : cr p q a 1 = (q.1 - p.1) * (a.2 - p.2) := by unfold cr; rw [hpq]; grind
  have eB : cr p q b 1 = (q.1 - p.1) * (b.2 - p.2) := by unfold cr; rw [hpq]; grind
  rw [ray_one, ray_one]
  unfold Xs
  have hP : (a.2 - p.2 ≤ 0 ∧ 0 < b.2 - p.2) ∨ (b.2 - p.2 ≤ 0 ∧ 0 < a.2 - p.2) → cr a b p 1 ≠ 0 := fun h e => hp (has_line_y e (by omega))
  have hQ : (a.2 - p.2 ≤ 0 ∧ 0 < b.2 - p.2) ∨ (b.2 - p.2 ≤ 0 ∧ 0 < a.2 - p.2) → cr a b q 1 ≠ 0 := fun h e => hq (has_line_y e (by omega))
  have key : Opp (cr a b p 1) (cr a b q 1) → ((a.2 - p.2 ≤ 0 ∧ 0 < b.2 - p.2) ∨ (b.2 - p.2 ≤ 0 ∧ 0 < a.2 - p.2)) → Opp (cr p q a 1) (cr p q b 1) := by
    intro o h
    have hne : q.1 - p.1 ≠ 0 := by
      intro e
      have : p = q := Prod.ext (by omega) hpq
      rw [this] at o; unfold Opp at o; omega
    have ia : a.2 ≠ p.2 := by
      intro e
      have f1 : cr a b p 1 = - ((b.2 - a.2) * (p.1 - a.1)) := by unfold cr; rw [e]; grind
      have f2 : cr a b q 1 = - ((b.2 - a.2) * (q.1 - a.1)) := by unfold cr; rw [e, hpq]; grind
      have s1 := sgn_of (u := b.2 - a.2) (P := p.1 - a.1) (by omega) rfl
      have s2 := sgn_of (u := b.2 - a.2) (P := q.1 - a.1) (by omega) rfl
      rw [f1, f2] at o
      refine ha ⟨by rw [eA, e]; simp, ?_, by unfold btw; omega⟩
      unfold Opp at o; unfold btw; omega
    have ib : b.2 ≠ p.2 := by
      intro e
      have f1 : cr a b p 1 = - ((a.2 - b.2) * (b.1 - p.1)) := by unfold cr; rw [e]; grind
      have f2 : cr a b q 1 = - ((a.2 - b.2) * (b.1 - q.1)) := by unfold cr; rw [e, hpq]; grind
      have s1 := sgn_of (u := a.2 - b.2) (P := b.1 - p.1) (by omega) rfl
      have s2 := sgn_of (u := a.2 - b.2) (P := b.1 - q.1) (by omega) rfl
      rw [f1, f2] at o
      refine hb ⟨by rw [eB, e]; simp, ?_, by unfold btw; omega⟩
      unfold Opp at o; unfold btw; omega
    rw [eA, eB]
    have m1 := Int.lt_or_gt_of_ne hne
    rcases m1 with m | m <;> rcases h with h | h
    · exact .inr ⟨nng m (by omega), np m (by omega)⟩
    · exact .inl ⟨np m (by omega), nng m (by omega)⟩
    · exact .inl ⟨pn m (by omega), pp m (by omega)⟩
    · exact .inr ⟨pp m (by omega), pn m (by omega)⟩
  have back : Opp (cr p q a 1) (cr p q b 1) → ((a.2 - p.2 ≤ 0 ∧ 0 < b.2 - p.2) ∨ (b.2 - p.2 ≤ 0 ∧ 0 < a.2 - p.2)) := by
    intro o
    rw [eA, eB] at o
    rcases Int.lt_trichotomy (q.1 - p.1) 0 with m | m | m
    · have s1 := sgn_of (u := -(q.1 - p.1)) (P := a.2 - p.2) (by omega) rfl
      have s2 := sgn_of (u := -(q.1 - p.1)) (P := b.2 - p.2) (by omega) rfl
      rw [Int.neg_mul] at s1 s2
      unfold Opp at o; omega
    · rw [m] at o; unfold Opp at o; simp at o
    · have s1 := sgn_of (u := q.1 - p.1) (P := a.2 - p.2) (by omega) rfl
      have s2 := sgn_of (u := q.1 - p.1) (P := b.2 - p.2) (by omega) rfl
      unfold Opp at o; omega
  have k := bxor_of (r1 := (a.2 - p.2 ≤ 0 ∧ 0 < b.2 - p.2 ∧ 0 < cr a b p 1) ∨ (b.2 - p.2 ≤ 0 ∧ 0 < a.2 - p.2 ∧ cr a b p 1 < 0)) (r2 := (a.2 - q.2 ≤ 0 ∧ 0 < b.2 - q.2 ∧ 0 < cr a b q 1) ∨ (b.2 - q.2 ≤ 0 ∧ 0 < a.2 - q.2 ∧ cr a b q 1 < 0))
    (x := Opp (cr p q a 1) (cr p q b 1) ∧ Opp (cr a b p 1) (cr a b q 1)) (d1 := False) (d2 := False) (by
      by_cases h : (a.2 - p.2 ≤ 0 ∧ 0 < b.2 - p.2) ∨ (b.2 - p.2 ≤ 0 ∧ 0 < a.2 - p.2)
      · have g1 := hP h
        have g2 := hQ h
        have g3 := fun o => key o h
        have e : (Opp (cr p q a 1) (cr p q b 1) ∧ Opp (cr a b p 1) (cr a b q 1)) ↔ Opp (cr a b p 1) (cr a b q 1) := ⟨fun x => x.2, fun x => ⟨g3 x, x⟩⟩
        rw [e]
        clear e g3 key back hP hQ eA eB
        simp only [iff_self, iff_true]
        unfold Opp
        omega
      · have e : ¬ (Opp (cr p q a 1) (cr p q b 1) ∧ Opp (cr a b p 1) (cr a b q 1)) := fun x => h (back x.1)
        have r1 : ¬ ((a.2 - p.2 ≤ 0 ∧ 0 < b.2 - p.2 ∧ 0 < cr a b p 1) ∨ (b.2 - p.2 ≤ 0 ∧ 0 < a.2 - p.2 ∧ cr a b p 1 < 0)) := by omega
        have r2 : ¬ ((a.2 - q.2 ≤ 0 ∧ 0 < b.2 - q.2 ∧ 0 < cr a b q 1) ∨ (b.2 - q.2 ≤ 0 ∧ 0 < a.2 - q.2 ∧ cr a b q 1 < 0)) := by omega
        simp only [e, r1, r2]
        simp)
  rw [k]
  rw [show (decide False ^^ decide False) = false from rfl, Bool.xor_false]
theorem xs_swap {p q a b : Pnt} : Xs q p a b ↔ Xs p q a b := by
  unfold Xs
  rw [cr_swap p q a 1, cr_swap p q b 1, opp_neg, opp_symm (A := cr a b q 1)]
def dRs (p q v : Pnt) : Bool := if p.2 < q.2 then dR p q v else if q.2 < p.2 then dR q p v else false
theorem edge_any {p q a b : Pnt} (ha : ¬ has p q a 1) (hb : ¬ has p q b 1) (hp : ¬ has a b p 1) (hq : ¬ has a b q 1) :
    (ray a b p 1 ^^ ray a b q 1) = (decide (Xs p q a b) ^^ (dRs p q a ^^ dRs p q b)) := by
  unfold dRs
  rcases Int.lt_trichotomy p.2 q.2 with h | h | h
  · rw [if_pos h, if_pos h]; exact edge_up h ha hb hp hq
  · rw [if_neg (by omega), if_neg (by omega), if_neg (by omega), if_neg (by omega), edge_flat h ha hb hp hq]; simp
  · rw [if_neg (by omega), if_pos h, if_neg (by omega), if_pos h]
    rw [Bool.xor_comm, edge_up h (fun k => ha (has_swap.1 k)) (fun k => hb (has_swap.1 k)) hq hp, decide_eq_decide.2 xs_swap]
end Vd
end Go.Proofs.YtcclepohmhdpbabGreatDoor

namespace Go.Proofs.YtcclepohmhdpbabGreatDoor
set_option linter.all false
namespace Vd
def raysS (l : List Seg) (p : Spot) : Bool := l.foldr (fun s b => ray s.1 s.2 p.1 p.2 ^^ b) false
def xsL (l : List Seg) (p q : Pnt) : Bool := l.foldr (fun s b => decide (Xs p q s.1 s.2) ^^ b) false
theorem raysS_cons (s : Seg) (l : List Seg) (p : Spot) : raysS (s :: l) p = (ray s.1 s.2 p.1 p.2 ^^ raysS l p) := rfl
theorem xsL_cons (s : Seg) (l : List Seg) (p q : Pnt) : xsL (s :: l) p q = (decide (Xs p q s.1 s.2) ^^ xsL l p q) := rfl
theorem raysS_append (a b : List Seg) (p : Spot) : raysS (a ++ b) p = (raysS a p ^^ raysS b p) := by
  induction a with
  | nil => simp [raysS]
  | cons s a ih => rw [List.cons_append, raysS_cons, raysS_cons, ih, Bool.xor_assoc]
theorem segs_cons2 (a b : Pnt) (t : Ring) : segs (a :: b :: t) = (a, b) :: segs (b :: t) := rfl
theorem segs_one (a : Pnt) : segs [a] = [] := rfl
structure Off (p q a b : Pnt) : Prop where
  ha : ¬ has p q a 1
  hb : ¬ has p q b 1
  hp : ¬ has a b p 1
  hq : ¬ has a b q 1
theorem rays_chain (p q : Pnt) : ∀ (t : Ring) (a : Pnt), (∀ s ∈ segs (a :: t), Off p q s.1 s.2) →
    (raysS (segs (a :: t)) (p, 1) ^^ raysS (segs (a :: t)) (q, 1)) = (xsL (segs (a :: t)) p q ^^ (dRs p q a ^^ dRs p q ((a :: t).getLast (by simp)))) := by
  intro t
  induction t with
  | nil => intro a _; simp [segs_one, raysS, xsL]
  | cons b t ih =>
    intro a h
    rw [segs_cons2] at h
    have h1 := h (a, b) (by simp)
    have k := ih b fun s hs => h s (by simp [hs])
    have e := edge_any h1.ha h1.hb h1.hp h1.hq
    rw [segs_cons2, raysS_cons, raysS_cons, xsL_cons, List.getLast_cons (by simp)]
    simp only at e ⊢
    revert e k
    generalize ray a b p 1 = x1
    generalize ray a b q 1 = x2
    generalize raysS (segs (b :: t)) (p, 1) = x3
    generalize raysS (segs (b :: t)) (q, 1) = x4
    generalize xsL (segs (b :: t)) p q = x5
    generalize decide (Xs p q a b) = x6
    generalize dRs p q a = x7
    generalize dRs p q b = x8
    generalize dRs p q ((b :: t).getLast (by simp)) = x9
    revert x1 x2 x3 x4 x5 x6 x7 x8 x9
    decide
def Ends (r : Ring) : Prop := r.head? = r.getLast?
theorem shut_ends {r : Ring} (h : Shut r) : Ends r := by
  have h4 := h.len
  unfold Ends
  rw [List.head?_eq_getElem?, List.getLast?_eq_getElem?, ptAt_get (by omega), ptAt_get (by omega), h.eq]
theorem rays_ring {r : Ring} (hr : Ends r) {p q : Pnt} (h : ∀ s ∈ segs r, Off p q s.1 s.2) : (raysS (segs r) (p, 1) ^^ raysS (segs r) (q, 1)) = xsL (segs r) p q := by
  cases r with
  | nil => rfl
  | cons a t =>
    have k := rays_chain p q t a h
    have e : a = (a :: t).getLast (by simp) := by
      unfold Ends at hr
      rw [List.getLast?_eq_some_getLast (by simp)] at hr
      simpa using hr
    rw [k, ← e]; simp
theorem placeL_rays : ∀ (l : List Seg) (i : Bool) (p : Spot), (∀ s ∈ l, ¬ has s.1 s.2 p.1 p.2) → placeL l i p = if (i ^^ raysS l p) = true then 2 else 0 := by
  intro l
  induction l with
  | nil => intro i p _; simp [placeL, raysS]
  | cons s l ih =>
    intro i p h
    have h1 := h s (by simp)
    unfold placeL
    rw [if_neg (by unfold hasB; simpa using h1), ih _ p fun t ht => h t (by simp [ht]), raysS_cons]
    cases ray s.1 s.2 p.1 p.2 <;> cases i <;> simp
theorem place_rays {r : Ring} {p : Spot} (h : ∀ s ∈ segs r, ¬ has s.1 s.2 p.1 p.2) : place r p = if raysS (segs r) p = true then 2 else 0 := by
  unfold place; rw [placeL_rays _ _ _ h]; simp
theorem xsL_none {l : List Seg} {p q : Pnt} (h : ∀ s ∈ l, ¬ Xs p q s.1 s.2) : xsL l p q = false := by
  induction l with
  | nil => rfl
  | cons s l ih => rw [xsL_cons, ih fun t ht => h t (by simp [ht]), decide_eq_false (h s (by simp))]; rfl
theorem place_same {r : Ring} (hr : Ends r) {p q : Pnt} (h : ∀ s ∈ segs r, Off p q s.1 s.2) (hx : ∀ s ∈ segs r, ¬ Xs p q s.1 s.2) : place r (p, 1) = place r (q, 1) := by
  have k := rays_ring hr h
  rw [xsL_none hx] at k
  rw [place_rays (p := (p, 1)) fun s hs => (h s hs).hp, place_rays (p := (q, 1)) fun s hs => (h s hs).hq]
  have : raysS (segs r) (p, 1) = raysS (segs r) (q, 1) := by
    revert k
    generalize raysS (segs r) (p, 1) = x
    generalize raysS (segs r) (q, 1) = y
    cases x <;> cases y <;> simp
  rw [this]
def sc (k : Int) (p : Pnt) : Pnt := (k * p.1, k * p.2)
def scR (k : Int) (r : Ring) : Ring := r.map (sc k)
def scS (k : Int) (s : Seg) : Seg := (sc k s.1, sc k s.2)
theorem cr_sc (k : Int) (a b p : Pnt) (w : Int) : cr (sc k a) (sc k b) p w = k * cr a b p (k * w) := by unfold cr sc; grind
theorem sg_mul {k : Int} (hk : 0 < k) (n : Int) : sg (k * n) = sg n := by
  have s := sgn_of hk (rfl : k * n = k * n)
  rcases sg_cases n with ⟨h, e⟩ | ⟨h, e⟩ | ⟨h, e⟩ <;> rcases sg_cases (k * n) with ⟨h', e'⟩ | ⟨h', e'⟩ | ⟨h', e'⟩ <;> first | omega | (rw [e, e'])
theorem has_sc {k : Int} (hk : 0 < k) (a b p : Pnt) (w : Int) : has (sc k a) (sc k b) p w ↔ has a b p (k * w) := by
  have s := sgn_of hk (rfl : k * cr a b p (k * w) = _)
  have e : ∀ x : Int, k * x * w = x * (k * w) := fun x => by grind
  unfold has
  rw [cr_sc]
  unfold sc
  simp only [e]
  constructor
  · rintro ⟨h1, h2⟩; exact ⟨s.2.2.2 h1, h2⟩
  · rintro ⟨h1, h2⟩; exact ⟨s.2.2.1 h1, h2⟩
theorem ray_sc {k : Int} (hk : 0 < k) (a b p : Pnt) (w : Int) : ray (sc k a) (sc k b) p w = ray a b p (k * w) := by
  have e : ∀ x : Int, k * x * w = x * (k * w) := fun x => by grind
  unfold ray
  rw [cr_sc, sg_mul hk]
  unfold sc
  simp only [e]
theorem segs_sc (k : Int) (r : Ring) : segs (scR k r) = (segs r).map (scS k) := by
  unfold segs scR
  rw [← List.map_tail, List.zip_map]
  rfl
theorem placeL_sc {k : Int} (hk : 0 < k) : ∀ (l : List Seg) (i : Bool) (p : Pnt) (w : Int), placeL (l.map (scS k)) i (p, w) = placeL l i (p, k * w) := by
  intro l
  induction l with
  | nil => intro i p w; rfl
  | cons s l ih =>
    intro i p w
    rw [List.map_cons]
    unfold placeL
    have e1 : hasB (scS k s) (p, w) = hasB s (p, k * w) := decide_eq_decide.2 (has_sc hk s.1 s.2 p w)
    have e2 : ray (scS k s).1 (scS k s).2 p w = ray s.1 s.2 p (k * w) := ray_sc hk s.1 s.2 p w
    rw [e1, ih]
    simp only [e2]
theorem place_sc {k : Int} (hk : 0 < k) (r : Ring) (p : Pnt) (w : Int) : place (scR k r) (p, w) = place r (p, k * w) := by
  unfold place; rw [segs_sc, placeL_sc hk]
theorem ends_sc {k : Int} {r : Ring} (h : Ends r) : Ends (scR k r) := by
  unfold Ends scR at *; rw [List.head?_map, List.getLast?_map, h]
theorem cr_spot (k : Int) (a b p : Pnt) (w : Int) : cr a b (sc k p) (k * w) = k * cr a b p w := by unfold cr sc; grind
theorem btw_mul {k : Int} (hk : 0 < k) {a p b : Int} : btw (k * a) (k * p) (k * b) ↔ btw a p b := by
  have e1 : ∀ {x y : Int}, k * x ≤ k * y ↔ x ≤ y := fun {x y} => ⟨fun h => Int.le_of_mul_le_mul_left h hk, fun h => Int.mul_le_mul_of_nonneg_left h (by omega)⟩
  unfold btw
  simp only [e1]
theorem has_spot {k : Int} (hk : 0 < k) (a b p : Pnt) (w : Int) : has a b (sc k p) (k * w) ↔ has a b p w := by
  have s := sgn_of hk (rfl : k * cr a b p w = _)
  have e : ∀ x : Int, x * (k * w) = k * (x * w) := fun x => by grind
  unfold has
  rw [cr_spot]
  unfold sc
  simp only [e, btw_mul hk]
  constructor
  · rintro ⟨h1, h2⟩; exact ⟨s.2.2.2 h1, h2⟩
  · rintro ⟨h1, h2⟩; exact ⟨s.2.2.1 h1, h2⟩
theorem ray_spot {k : Int} (hk : 0 < k) (a b p : Pnt) (w : Int) : ray a b (sc k p) (k * w) = ray a b p w := by
  have e : ∀ x : Int, x * (k * w) = k * (x * w) := fun x => by grind
  have e1 : ∀ {x y : Int}, k * x > k * y ↔ x > y := fun {x y} => ⟨fun h => Int.lt_of_mul_lt_mul_left h (by omega), fun h => Int.mul_lt_mul_of_pos_left h hk⟩
  unfold ray
  rw [cr_spot, sg_mul hk]
  unfold sc
  simp only [e, e1]
theorem placeL_spot {k : Int} (hk : 0 < k) (p : Pnt) (w : Int) : ∀ (l : List Seg) (i : Bool), placeL l i (sc k p, k * w) = placeL l i (p, w) := by
  intro l
  induction l with
  | nil => intro i; rfl
  | cons s l ih =>
    intro i
    unfold placeL
    have e1 : hasB s (sc k p, k * w) = hasB s (p, w) := decide_eq_decide.2 (has_spot hk s.1 s.2 p w)
    rw [e1, ih]
    simp only [ray_spot hk]
theorem place_spot {k : Int} (hk : 0 < k) (r : Ring) (p : Pnt) (w : Int) : place r (sc k p, k * w) = place r (p, w) := by
  unfold place; rw [placeL_spot hk]
theorem place_whole {r : Ring} {p : Spot} (hp : 0 < p.2) {k : Int} (hk : 0 < k) : place r p = place (scR (k * p.2) r) (sc k p.1, 1) := by
  rw [place_sc (pp hk hp), Int.mul_one, place_spot hk]
end Vd
end Go.Proofs.YtcclepohmhdpbabGreatDoor

namespace Go.Proofs.YtcclepohmhdpbabGreatDoor
set_option linter.all false
namespace Vd
theorem ex_max {α : Type} (f : α → Int) (P : α → Prop) : ∀ (l : List α), (∃ x ∈ l, P x) → ∃ x ∈ l, P x ∧ ∀ y ∈ l, P y → f y ≤ f x := by
  intro l
  induction l with
  | nil => rintro ⟨x, hx, _⟩; cases hx
  | cons a t ih =>
    rintro ⟨x, hx, hp⟩
    by_cases ht : ∃ y ∈ t, P y
    · obtain ⟨y, hy, py, my⟩ := ih ht
      by_cases ha : P a ∧ f y < f a
      · refine ⟨a, by simp, ha.1, fun z hz pz => ?_⟩
        rcases List.mem_cons.1 hz with rfl | hz
        · exact Int.le_refl _
        · have := my z hz pz; omega
      · refine ⟨y, by simp [hy], py, fun z hz pz => ?_⟩
        rcases List.mem_cons.1 hz with rfl | hz
        · by_cases c : f y < f z
          · exact absurd ⟨pz, c⟩ ha
          · omega
        · exact my z hz pz
    · rcases List.mem_cons.1 hx with rfl | hx
      · refine ⟨x, by simp, hp, fun z hz pz => ?_⟩
        rcases List.mem_cons.1 hz with rfl | hz
        · exact Int.le_refl _
        · exact absurd ⟨z, hz, pz⟩ ht
      · exact absurd ⟨x, hx, hp⟩ ht
theorem ex_min {α : Type} (f : α → Int) (P : α → Prop) (l : List α) (h : ∃ x ∈ l, P x) : ∃ x ∈ l, P x ∧ ∀ y ∈ l, P y → f x ≤ f y := by
  obtain ⟨x, hx, hp, m⟩ := ex_max (fun x => - f x) P l h
  exact ⟨x, hx, hp, fun y hy py => by have := m y hy py; omega⟩
theorem cut_list {a b : Pnt} {l : List Pnt} {x : Pnt} : Cut a b l x ↔ x ∈ a :: b :: l ∧ (x = a ∨ x = b ∨ (x ∈ l ∧ has a b x 1)) := by
  unfold Cut
  constructor
  · intro h
    refine ⟨?_, h⟩
    rcases h with rfl | rfl | h
    · simp
    · simp
    · simp [h.1]
  · exact fun h => h.2
theorem on_line {a b p : Pnt} (h0 : cr a b p 1 = 0) : kk a b * p.1 = kk a b * a.1 + pos a b p * (b.1 - a.1) ∧ kk a b * p.2 = kk a b * a.2 + pos a b p * (b.2 - a.2) := by
  unfold cr at h0; unfold pos dt kk; constructor <;> grind
theorem lin_cr {k D a1 a2 b1 b2 p1 p2 c1 c2 d1 d2 : Int} (e1 : k * p1 = k * a1 + D * (b1 - a1)) (e2 : k * p2 = k * a2 + D * (b2 - a2)) :
    k * ((d1 - c1) * (p2 - c2) - (d2 - c2) * (p1 - c1)) = (k - D) * ((d1 - c1) * (a2 - c2) - (d2 - c2) * (a1 - c1)) + D * ((d1 - c1) * (b2 - c2) - (d2 - c2) * (b1 - c1)) := by grind
theorem cr_on {a b p : Pnt} (h0 : cr a b p 1 = 0) (c d : Pnt) : kk a b * cr c d p 1 = (kk a b - pos a b p) * cr c d a 1 + pos a b p * cr c d b 1 := by
  obtain ⟨e1, e2⟩ := on_line h0
  have := lin_cr (c1 := c.1) (c2 := c.2) (d1 := d.1) (d2 := d.2) e1 e2
  unfold cr
  simpa only [Int.mul_one] using this
theorem lin_dir {k D E a1 a2 b1 b2 p1 p2 q1 q2 : Int} (e1 : k * p1 = k * a1 + D * (b1 - a1)) (e2 : k * p2 = k * a2 + D * (b2 - a2)) (f1 : k * q1 = k * a1 + E * (b1 - a1)) (f2 : k * q2 = k * a2 + E * (b2 - a2)) :
    k * (q1 - p1) = (E - D) * (b1 - a1) ∧ k * (q2 - p2) = (E - D) * (b2 - a2) := by constructor <;> grind
theorem dir_lin {a b p q : Pnt} (hp : cr a b p 1 = 0) (hq : cr a b q 1 = 0) : kk a b * (q.1 - p.1) = (pos a b q - pos a b p) * (b.1 - a.1) ∧ kk a b * (q.2 - p.2) = (pos a b q - pos a b p) * (b.2 - a.2) := by
  obtain ⟨e1, e2⟩ := on_line hp
  obtain ⟨f1, f2⟩ := on_line hq
  exact lin_dir e1 e2 f1 f2
theorem lin_cr2 {k L u1 u2 v1 v2 x1 x2 : Int} (e1 : k * v1 = L * u1) (e2 : k * v2 = L * u2) : k * (v1 * x2 - v2 * x1) = L * (u1 * x2 - u2 * x1) ∧ k * (x1 * v1 + x2 * v2) = L * (x1 * u1 + x2 * u2) := by constructor <;> grind
theorem cr_from {a b p : Pnt} (hp : cr a b p 1 = 0) (c : Pnt) : (b.1 - a.1) * (c.2 - p.2) - (b.2 - a.2) * (c.1 - p.1) = cr a b c 1 := by unfold cr at *; grind
theorem cr_dir {a b p q : Pnt} (hp : cr a b p 1 = 0) (hq : cr a b q 1 = 0) (c : Pnt) : kk a b * cr p q c 1 = (pos a b q - pos a b p) * cr a b c 1 := by
  obtain ⟨e1, e2⟩ := dir_lin hp hq
  have := (lin_cr2 (x1 := c.1 - p.1) (x2 := c.2 - p.2) e1 e2).1
  rw [cr_from hp] at this
  rw [← this]
  unfold cr; simp only [Int.mul_one]
theorem pos_from (a b p c : Pnt) : (c.1 - p.1) * (b.1 - a.1) + (c.2 - p.2) * (b.2 - a.2) = pos a b c - pos a b p := by unfold pos dt; grind
theorem dt_dir {a b p q : Pnt} (hp : cr a b p 1 = 0) (hq : cr a b q 1 = 0) (c : Pnt) : kk a b * dt p q c 1 = (pos a b q - pos a b p) * (pos a b c - pos a b p) := by
  obtain ⟨e1, e2⟩ := dir_lin hp hq
  have := (lin_cr2 (x1 := c.1 - p.1) (x2 := c.2 - p.2) e1 e2).2
  rw [pos_from a b p c] at this
  rw [← this]
  unfold dt; simp only [Int.mul_one]
theorem kk_dt (p q : Pnt) : kk p q = dt p q q 1 := by unfold kk dt; simp
theorem has_dir {a b p q c : Pnt} (hab : a ≠ b) (hpq : p ≠ q) (hp : cr a b p 1 = 0) (hq : cr a b q 1 = 0) (h : has p q c 1) : cr a b c 1 = 0 ∧ btw (pos a b p) (pos a b c) (pos a b q) := by
  have hk := kk_pos hab
  obtain ⟨h0, h1, h2⟩ := (has_on hpq (by omega)).1 h
  have hne : pos a b q - pos a b p ≠ 0 := fun e => hpq (pos_inj hab hp hq (by omega))
  have e := cr_dir hp hq c
  rw [h0, Int.mul_zero] at e
  have e1 := dt_dir hp hq c
  have e2 := dt_dir hp hq q
  rw [Int.mul_one, kk_dt] at h2
  have m1 := p0 (Int.le_of_lt hk) h1
  have m2 := Int.mul_le_mul_of_nonneg_left h2 (Int.le_of_lt hk)
  rw [e1] at m1
  rw [e1, e2] at m2
  refine ⟨?_, ?_⟩
  · rcases Int.mul_eq_zero.1 e.symm with g | g
    · exact absurd g hne
    · exact g
  · unfold btw
    rcases Int.lt_or_gt_of_ne hne with g | g
    · right
      constructor
      · rcases Int.lt_or_le (pos a b c) (pos a b q) with q' | q'
        · have := Int.mul_lt_mul_of_neg_left (show pos a b c - pos a b p < pos a b q - pos a b p by omega) g
          omega
        · exact q'
      · rcases Int.lt_or_le (pos a b p) (pos a b c) with q | q
        · have := np g (show 0 < pos a b c - pos a b p by omega); omega
        · exact q
    · left
      constructor
      · rcases Int.lt_or_le (pos a b c) (pos a b p) with q | q
        · have := pn g (show pos a b c - pos a b p < 0 by omega); omega
        · exact q
      · have := Int.le_of_mul_le_mul_left m2 g
        omega
theorem opp_comb {x y s t s' t' X Y : Int} (hs : 0 ≤ s) (ht : 0 ≤ t) (hs' : 0 ≤ s') (ht' : 0 ≤ t') {k : Int} (hk : 0 < k) (e1 : k * X = s * x + t * y) (e2 : k * Y = s' * x + t' * y) (o : Opp X Y) : Opp x y := by
  obtain ⟨P1, P2, -⟩ := sgn_of hk e1
  obtain ⟨Q1, Q2, -⟩ := sgn_of hk e2
  have both : ¬ (0 ≤ x ∧ 0 ≤ y) := by
    rintro ⟨hx, hy⟩
    have := p0 hs hx; have := p0 ht hy; have := p0 hs' hx; have := p0 ht' hy
    unfold Opp at o; omega
  have none : ¬ (x ≤ 0 ∧ y ≤ 0) := by
    rintro ⟨hx, hy⟩
    have := m0 hs hx; have := m0 ht hy; have := m0 hs' hx; have := m0 ht' hy
    unfold Opp at o; omega
  unfold Opp; omega
theorem meet_opp {a b c d : Pnt} (h1 : Opp (cr a b c 1) (cr a b d 1)) (h2 : Opp (cr c d a 1) (cr c d b 1)) : meet a b c d = 2 := by
  unfold meet Opp at *
  rcases sg_cases (cr a b c 1) with ⟨g1, k1⟩ | ⟨g1, k1⟩ | ⟨g1, k1⟩ <;> rcases sg_cases (cr a b d 1) with ⟨g2, k2⟩ | ⟨g2, k2⟩ | ⟨g2, k2⟩ <;>
  rcases sg_cases (cr c d a 1) with ⟨g3, k3⟩ | ⟨g3, k3⟩ | ⟨g3, k3⟩ <;> rcases sg_cases (cr c d b 1) with ⟨g4, k4⟩ | ⟨g4, k4⟩ | ⟨g4, k4⟩ <;>
  first | (exfalso; omega) | (simp [k1, k2, k3, k4])
theorem mulc' (x y : Int) : (x * y < 0 → (0 < x ∧ y < 0) ∨ (x < 0 ∧ 0 < y)) ∧ (0 < x * y → (0 < x ∧ 0 < y) ∨ (x < 0 ∧ y < 0)) := by
  rcases Int.lt_trichotomy x 0 with h | h | h <;> rcases Int.lt_trichotomy y 0 with k | k | k
  · have := nng h k; omega
  · rw [k]; simp
  · have := np h k; omega
  · rw [h]; simp
  · rw [h]; simp
  · rw [h]; simp
  · have := pn h k; omega
  · rw [k]; simp
  · have := pp h k; omega
theorem line_same {a b : Pnt} (hab : a ≠ b) {o : Ring} (he : Ends o) {p q : Pnt} (hp : cr a b p 1 = 0) (hq : cr a b q 1 = 0) (np : place o (p, 1) ≠ 1) (nq : place o (q, 1) ≠ 1)
    (hv : ∀ t ∈ segs o, ∀ c, c = t.1 ∨ c = t.2 → cr a b c 1 = 0 → ¬ btw (pos a b p) (pos a b c) (pos a b q))
    (hx : ∀ t ∈ segs o, ¬ (Opp (cr a b t.1 1) (cr a b t.2 1) ∧ Opp (cr t.1 t.2 p 1) (cr t.1 t.2 q 1))) : place o (p, 1) = place o (q, 1) := by
  by_cases hpq : p = q
  · rw [hpq]
  have hk := kk_pos hab
  refine place_same he (fun t ht => ⟨fun h => ?_, fun h => ?_, fun h => np (place_one.2 ⟨t, ht, h⟩), fun h => nq (place_one.2 ⟨t, ht, h⟩)⟩) (fun t ht h => ?_)
  · obtain ⟨k1, k2⟩ := has_dir hab hpq hp hq h
    exact hv t ht _ (.inl rfl) k1 k2
  · obtain ⟨k1, k2⟩ := has_dir hab hpq hp hq h
    exact hv t ht _ (.inr rfl) k1 k2
  · refine hx t ht ⟨?_, h.2⟩
    have e1 := cr_dir hp hq t.1
    have e2 := cr_dir hp hq t.2
    have s1 := sgn_of hk e1
    have s2 := sgn_of hk e2
    have o := h.1
    have m1 := mulc' (pos a b q - pos a b p) (cr a b t.1 1)
    have m2 := mulc' (pos a b q - pos a b p) (cr a b t.2 1)
    unfold Opp at o ⊢
    omega
theorem cuts_about {a b p : Pnt} (hab : a ≠ b) (hp : has a b p 1) (l : List Pnt) :
    ∃ y z, Cons (pos a b) (Cut a b l) y z ∧ pos a b y ≤ pos a b p ∧ pos a b p ≤ pos a b z := by
  obtain ⟨d0, d1⟩ := pos_le hab hp
  have hk := kk_pos hab
  obtain ⟨y, hy, ⟨cy, ly, ny⟩, my⟩ := ex_max (pos a b) (fun x => Cut a b l x ∧ pos a b x ≤ pos a b p ∧ pos a b x < kk a b) (a :: b :: l) ⟨a, by simp, .inl rfl, by rw [pos_a]; exact d0, by rw [pos_a]; exact hk⟩
  obtain ⟨z, hz, ⟨cz, lz⟩, mz⟩ := ex_min (pos a b) (fun x => Cut a b l x ∧ pos a b y < pos a b x) (a :: b :: l) ⟨b, by simp, .inr (.inl rfl), by rw [pos_b]; exact ny⟩
  refine ⟨y, z, ⟨cy, cz, lz, fun c hc ⟨h1, h2⟩ => ?_⟩, ly, ?_⟩
  · have := mz c (cut_list.1 hc).1 ⟨hc, h1⟩; omega
  · rcases Int.le_total (pos a b p) (pos a b z) with g | g
    · exact g
    · by_cases e : pos a b z < kk a b
      · have := my z hz ⟨cz, g, e⟩; omega
      · have h1 := (pos_le hab (cut_has cz)).2
        omega
end Vd
end Go.Proofs.YtcclepohmhdpbabGreatDoor

namespace Go.Proofs.YtcclepohmhdpbabGreatDoor
set_option linter.all false
namespace Vd
theorem has_pos {a b p : Pnt} (hab : a ≠ b) (h0 : cr a b p 1 = 0) (h1 : 0 ≤ pos a b p) (h2 : pos a b p ≤ kk a b) : has a b p 1 := (has_on hab (by omega)).2 ⟨h0, h1, by rw [Int.mul_one]; exact h2⟩
theorem vert_on {o : Ring} {t : Seg} (ht : t ∈ segs o) {c : Pnt} (hc : c = t.1 ∨ c = t.2) : place o (c, 1) = 1 := by
  refine place_one.2 ⟨t, ht, ?_⟩
  rcases hc with rfl | rfl
  · exact has_a _ _
  · exact has_b _ _
theorem mid_off_int {a b : Pnt} (hab : a ≠ b) {o : Ring} (hl : Long o) (hx : ∀ t ∈ segs o, crossS (a, b) t = false) {y z M : Pnt} (hc : Cons (pos a b) (Cut a b o) y z) (hM : has a b M 1) (h1 : pos a b y < pos a b M) (h2 : pos a b M < pos a b z) : place o (M, 1) ≠ 1 := by
  intro h
  obtain ⟨t, ht, hh⟩ := place_one.1 h
  simp only at hh
  obtain ⟨y0, -⟩ := pos_le hab (cut_has hc.cx)
  obtain ⟨-, z1⟩ := pos_le hab (cut_has hc.cy)
  have nocut : ¬ Cut a b o M := fun c => hc.no M c ⟨h1, h2⟩
  have nv : ∀ c, c = t.1 ∨ c = t.2 → M ≠ c := by
    rintro c hc' rfl
    have := segs_mem ht
    exact nocut (.inr (.inr ⟨by rcases hc' with e | e <;> rw [e]; exact this.1; exact this.2, hM⟩))
  have two : ∀ c : Pnt, M ≠ c → sc 2 M ≠ (c.1 * 2, c.2 * 2) := by
    intro c hne e
    unfold sc at e
    simp only [Prod.mk.injEq] at e
    exact hne (Prod.ext (by omega) (by omega))
  have i1 : Inn a b (sc 2 M) := by
    refine ⟨?_, two a ?_, two b ?_⟩
    · have := (has_spot (k := 2) (by omega) a b M 1).2 hM; simpa using this
    · rintro rfl; rw [pos_a] at h1; omega
    · rintro rfl; rw [pos_b] at h2; omega
  have i2 : Inn t.1 t.2 (sc 2 M) := by
    refine ⟨?_, two _ (nv _ (.inl rfl)), two _ (nv _ (.inr rfl))⟩
    have := (has_spot (k := 2) (by omega) t.1 t.2 M 1).2 hh; simpa using this
  have k := inn_cross hab (hl t ht) i1 i2
  have := hx t ht
  unfold crossS meetS at this
  rcases k with k | k <;> simp [k] at this
theorem on_place_int {a b : Pnt} (hab : a ≠ b) {o : Ring} (he : Ends o) (hl : Long o) (hx : ∀ t ∈ segs o, crossS (a, b) t = false) {y z p M : Pnt} (hc : Cons (pos a b) (Cut a b o) y z) (hp : has a b p 1) (p1 : pos a b y ≤ pos a b p) (p2 : pos a b p ≤ pos a b z) (hM : has a b M 1) (h1 : pos a b y < pos a b M) (h2 : pos a b M < pos a b z) (hn : place o (p, 1) ≠ 1) : place o (p, 1) = place o (M, 1) := by
  have hk := kk_pos hab
  obtain ⟨y0, -⟩ := pos_le hab (cut_has hc.cx)
  obtain ⟨-, z1⟩ := pos_le hab (cut_has hc.cy)
  obtain ⟨q0', q1⟩ := pos_le hab hp
  obtain ⟨m0', m1⟩ := pos_le hab hM
  refine line_same hab he hp.1 hM.1 hn (mid_off_int hab hl hx hc hM h1 h2) ?_ ?_
  · intro t ht c hc' hcr hb
    have hcut : Cut a b o c := by
      refine .inr (.inr ⟨?_, has_pos hab hcr (by unfold btw at hb; omega) (by unfold btw at hb; omega)⟩)
      have := segs_mem ht
      rcases hc' with e | e <;> rw [e]
      · exact this.1
      · exact this.2
    have := hc.no c hcut
    have e : pos a b c = pos a b p := by unfold btw at hb; omega
    have := pos_inj hab hcr hp.1 e
    rw [← this] at hn
    exact hn (vert_on ht hc')
  · rintro t ht ⟨o1, o2⟩
    have e1 := cr_on hp.1 t.1 t.2
    have e2 := cr_on hM.1 t.1 t.2
    have o3 := opp_comb (by omega) q0' (by omega) m0' hk e1 e2 o2
    have := hx t ht
    unfold crossS meetS at this
    rw [meet_opp o1 o3] at this
    simp at this
theorem sc_inj {k : Int} (hk : 0 < k) {p q : Pnt} : sc k p = sc k q ↔ p = q := by
  constructor
  · intro h
    unfold sc at h
    simp only [Prod.mk.injEq] at h
    exact Prod.ext (Int.eq_of_mul_eq_mul_left (by omega) h.1) (Int.eq_of_mul_eq_mul_left (by omega) h.2)
  · rintro rfl; rfl
theorem bef_sc {k : Int} (hk : 0 < k) {p q : Pnt} : bef (sc k p) (sc k q) ↔ bef p q := by
  have e1 : ∀ {x y : Int}, k * x < k * y ↔ x < y := fun {x y} => ⟨fun h => Int.lt_of_mul_lt_mul_left h (by omega), fun h => Int.mul_lt_mul_of_pos_left h hk⟩
  have e2 : ∀ {x y : Int}, k * x = k * y ↔ x = y := fun {x y} => ⟨fun h => Int.eq_of_mul_eq_mul_left (by omega) h, fun h => by rw [h]⟩
  unfold bef sc
  simp only [e1, e2]
theorem fwd_sc {k : Int} (hk : 0 < k) (a b : Pnt) : fwd (sc k a) (sc k b) = scS k (fwd a b) := by
  unfold fwd
  by_cases h : bef b a
  · rw [if_pos h, if_pos ((bef_sc hk).2 h)]; rfl
  · rw [if_neg h, if_neg (fun g => h ((bef_sc hk).1 g))]; rfl
theorem ite_sc (k : Int) (c : Prop) [Decidable c] (a b : Pnt) : (if c then sc k a else sc k b) = sc k (if c then a else b) := by split <;> rfl
theorem onLine_sc {k : Int} (hk : 0 < k) (s t : Seg) : onLine (scS k s) (scS k t) = onLine s t := by
  unfold onLine scS
  simp only [bef_sc hk, ite_sc, sc_inj hk]
theorem cr_sc1 (k : Int) (a b p : Pnt) : cr (sc k a) (sc k b) (sc k p) 1 = k * k * cr a b p 1 := by unfold cr sc; grind
theorem meet_sc {k : Int} (hk : 0 < k) (a b c d : Pnt) : meet (sc k a) (sc k b) (sc k c) (sc k d) = meet a b c d := by
  unfold meet
  simp only [cr_sc1, sg_mul (pp hk hk), fwd_sc hk, onLine_sc hk]
theorem crossS_sc {k : Int} (hk : 0 < k) (s t : Seg) : crossS (scS k s) (scS k t) = crossS s t := by
  unfold crossS meetS scS
  simp only [meet_sc hk]
theorem pos_sc (k : Int) (a b p : Pnt) : pos (sc k a) (sc k b) (sc k p) = k * k * pos a b p := by unfold pos dt sc; grind
theorem has_sc1 {k : Int} (hk : 0 < k) (a b p : Pnt) : has (sc k a) (sc k b) (sc k p) 1 ↔ has a b p 1 := by
  rw [has_sc hk, has_spot hk]
theorem cut_sc {k : Int} (hk : 0 < k) {a b : Pnt} {l : List Pnt} {x : Pnt} : Cut (sc k a) (sc k b) (l.map (sc k)) x ↔ ∃ x', x = sc k x' ∧ Cut a b l x' := by
  unfold Cut
  constructor
  · rintro (rfl | rfl | ⟨h1, h2⟩)
    · exact ⟨a, rfl, .inl rfl⟩
    · exact ⟨b, rfl, .inr (.inl rfl)⟩
    · obtain ⟨x', hx', rfl⟩ := List.mem_map.1 h1
      exact ⟨x', rfl, .inr (.inr ⟨hx', (has_sc1 hk _ _ _).1 h2⟩)⟩
  · rintro ⟨x', rfl, rfl | rfl | ⟨h1, h2⟩⟩
    · exact .inl rfl
    · exact .inr (.inl rfl)
    · exact .inr (.inr ⟨List.mem_map.2 ⟨x', h1, rfl⟩, (has_sc1 hk _ _ _).2 h2⟩)
theorem cons_sc {k : Int} (hk : 0 < k) {a b : Pnt} {l : List Pnt} {y z : Pnt} (h : Cons (pos (sc k a) (sc k b)) (Cut (sc k a) (sc k b) (l.map (sc k))) y z) : ∃ y' z', y = sc k y' ∧ z = sc k z' ∧ Cons (pos a b) (Cut a b l) y' z' := by
  obtain ⟨y', rfl, cy⟩ := (cut_sc hk).1 h.cx
  obtain ⟨z', rfl, cz⟩ := (cut_sc hk).1 h.cy
  have kk2 := pp hk hk
  have e1 : ∀ {x y : Int}, k * k * x < k * k * y ↔ x < y := fun {x y} => ⟨fun h => Int.lt_of_mul_lt_mul_left h (by omega), fun h => Int.mul_lt_mul_of_pos_left h kk2⟩
  refine ⟨y', z', rfl, rfl, cy, cz, ?_, ?_⟩
  · have := h.lt; rw [pos_sc, pos_sc] at this; exact e1.1 this
  · rintro c hc ⟨h1, h2⟩
    refine h.no (sc k c) ((cut_sc hk).2 ⟨c, rfl, hc⟩) ?_
    rw [pos_sc, pos_sc, pos_sc]
    exact ⟨e1.2 h1, e1.2 h2⟩
theorem long_sc {k : Int} (hk : 0 < k) {r : Ring} (h : Long r) : Long (scR k r) := by
  intro s hs
  rw [segs_sc] at hs
  obtain ⟨t, ht, rfl⟩ := List.mem_map.1 hs
  intro e
  exact h t ht ((sc_inj hk).1 e)
theorem on_place {a b : Pnt} (hab : a ≠ b) {o : Ring} (he : Ends o) (hl : Long o) (hx : ∀ t ∈ segs o, crossS (a, b) t = false) {p : Spot} (hw : 0 < p.2) (hp : has a b p.1 p.2) (hn : place o p ≠ 1) :
    ∃ m ∈ mids (a, b) [o], place o p = place o m := by
  obtain ⟨P, w⟩ := p
  simp only at hw hp
  have hK : (0 : Int) < 2 * w := by omega
  have hab' : sc (2 * w) a ≠ sc (2 * w) b := fun e => hab ((sc_inj hK).1 e)
  have hp' : has (sc (2 * w) a) (sc (2 * w) b) (sc 2 P) 1 := by
    rw [has_sc hK, Int.mul_one]
    exact (has_spot (by omega) a b P w).2 hp
  obtain ⟨y', z', hc', l1, l2⟩ := cuts_about hab' hp' (scR (2 * w) o)
  obtain ⟨y, z, rfl, rfl, hc⟩ := cons_sc hK (l := o) hc'
  have hm : midOf y z ∈ mids (a, b) [o] := (mem_mids hab [o] _).2 ⟨y, z, by simpa using hc, rfl⟩
  refine ⟨_, hm, ?_⟩
  have e1 : place o (P, w) = place (scR (2 * w) o) (sc 2 P, 1) := place_whole (p := (P, w)) hw (k := 2) (by omega)
  have e2 : place o (midOf y z) = place (scR (2 * w) o) (sc w (midOf y z).1, 1) := by
    have := place_whole (r := o) (p := midOf y z) (show (0 : Int) < 2 by omega) (k := w) hw
    rw [show w * (midOf y z).2 = 2 * w by show w * 2 = 2 * w; omega] at this
    exact this
  rw [e1, e2]
  have c0y := (cut_has hc.cx).1
  have c0z := (cut_has hc.cy).1
  have f1 : 2 * pos (sc (2 * w) a) (sc (2 * w) b) (sc w (midOf y z).1) = pos (sc (2 * w) a) (sc (2 * w) b) (sc (2 * w) y) + pos (sc (2 * w) a) (sc (2 * w) b) (sc (2 * w) z) := by unfold pos dt sc midOf; grind
  have f2 : 2 * cr (sc (2 * w) a) (sc (2 * w) b) (sc w (midOf y z).1) 1 = cr (sc (2 * w) a) (sc (2 * w) b) (sc (2 * w) y) 1 + cr (sc (2 * w) a) (sc (2 * w) b) (sc (2 * w) z) 1 := by unfold cr sc midOf; grind
  rw [cr_sc1, cr_sc1, c0y, c0z, Int.mul_zero, Int.add_zero] at f2
  have hlt := hc'.lt
  obtain ⟨y0, y1⟩ := pos_le hab' (cut_has hc'.cx)
  obtain ⟨z0, z1⟩ := pos_le hab' (cut_has hc'.cy)
  refine on_place_int hab' (ends_sc he) (long_sc hK hl) ?_ hc' hp' l1 l2 (has_pos hab' (by omega) (by omega) (by omega)) (by omega) (by omega) ?_
  · intro t ht
    rw [segs_sc] at ht
    obtain ⟨t', ht', rfl⟩ := List.mem_map.1 ht
    have := hx t' ht'
    rw [← crossS_sc hK] at this
    exact this
  · rw [← e1]; exact hn
theorem lies_out {r o : Ring} (hr : Long r) (ho : Long o) (he : Ends o) (hx : cross r o = false) {k : Int} (hk : lies r o k = true) {p : Spot} (hw : 0 < p.2) (hp : place r p = 1) : place o p = 1 ∨ place o p = k := by
  obtain ⟨s, hs, h⟩ := place_one.1 hp
  by_cases h1 : place o p = 1
  · exact .inl h1
  right
  obtain ⟨m, hm, e⟩ := on_place (hr s hs) he ho (fun t ht => by
    cases c : crossS (s.1, s.2) t with
    | false => rfl
    | true =>
      have : cross r o = true := by
        unfold cross
        exact List.any_eq_true.2 ⟨s, hs, List.any_eq_true.2 ⟨t, ht, c⟩⟩
      rw [hx] at this; cases this) hw h h1
  rw [e]
  unfold lies at hk
  rw [Bool.not_eq_true'] at hk
  by_cases g : place o m = k
  · exact g
  · have : ((segs r).any fun s => (mids s [o]).any fun m => decide (place o m ≠ k)) = true := List.any_eq_true.2 ⟨s, hs, List.any_eq_true.2 ⟨m, hm, decide_eq_true g⟩⟩
    rw [hk] at this; cases this
end Vd
end Go.Proofs.YtcclepohmhdpbabGreatDoor

namespace Go.Proofs.YtcclepohmhdpbabGreatDoor
set_option linter.all false
namespace Vd
end Vd
end Go.Proofs.YtcclepohmhdpbabGreatDoor

namespace Go.Proofs.YtcclepohmhdpbabGreatDoor
set_option linter.all false
namespace Vd
theorem has_fwd {a b z : Pnt} (h : has a b z 1) : ¬ bef z (fwd a b).1 ∧ ¬ bef (fwd a b).2 z := by
  obtain ⟨h0, h1, h2⟩ := h
  have key : ∀ {a b : Pnt}, ¬ bef b a → cr a b z 1 = 0 → btw (a.1 * 1) z.1 (b.1 * 1) → btw (a.2 * 1) z.2 (b.2 * 1) → ¬ bef z a ∧ ¬ bef b z := by
    intro a b hab h0 h1 h2
    unfold cr at h0
    unfold btw at h1 h2
    unfold bef at *
    simp only [Int.mul_one] at h0 h1 h2
    by_cases e : a.1 = b.1
    · omega
    · have hlt : a.1 < b.1 := by omega
      constructor
      · rintro (g | ⟨g1, g2⟩)
        · omega
        · rw [g1, Int.sub_self, Int.mul_zero, Int.sub_zero] at h0
          rcases Int.mul_eq_zero.1 h0 with q | q <;> omega
      · rintro (g | ⟨g1, g2⟩)
        · omega
        · have : (b.1 - a.1) * (z.2 - b.2) = 0 := by
            have : (b.1 - a.1) * (z.2 - b.2) = (b.1 - a.1) * (z.2 - a.2) - (b.2 - a.2) * (z.1 - a.1) := by rw [← g1]; grind
            omega
          rcases Int.mul_eq_zero.1 this with q | q <;> omega
  unfold fwd
  by_cases hb : bef b a
  · rw [if_pos hb]
    exact key (a := b) (b := a) (fun h => bef_irr hb h) (by rw [cr_swap, h0]; rfl) (by unfold btw at *; omega) (by unfold btw at *; omega)
  · rw [if_neg hb]; exact key hb h0 h1 h2
theorem onLine_pt {s t : Seg} {z : Pnt} (h1 : ¬ bef z s.1) (h2 : ¬ bef s.2 z) (h3 : ¬ bef z t.1) (h4 : ¬ bef t.2 z) : onLine s t ≠ 0 := by
  unfold onLine
  have f : ¬ bef z (if bef s.1 t.1 then t.1 else s.1) := by split <;> assumption
  have l : ¬ bef (if bef t.2 s.2 then t.2 else s.2) z := by split <;> assumption
  generalize (if bef s.1 t.1 then t.1 else s.1) = F at *
  generalize (if bef t.2 s.2 then t.2 else s.2) = L at *
  by_cases c1 : bef F L
  · simp [c1]
  · by_cases c2 : F = L
    · subst c2; simp [c1]
    · exfalso
      rcases bef_tri F L with g | g | g
      · exact c1 g
      · exact c2 g
      · unfold bef at *; omega
theorem onLine_two {s t : Seg} {z z' : Pnt} (hz : bef z z') (h1 : ¬ bef z s.1) (h4 : ¬ bef z t.1) (k2 : ¬ bef s.2 z') (k4 : ¬ bef t.2 z') : onLine s t = 3 := by
  unfold onLine
  have f : ¬ bef z (if bef s.1 t.1 then t.1 else s.1) := by split <;> assumption
  have l : ¬ bef (if bef t.2 s.2 then t.2 else s.2) z' := by split <;> assumption
  generalize (if bef s.1 t.1 then t.1 else s.1) = F at *
  generalize (if bef t.2 s.2 then t.2 else s.2) = L at *
  have : bef F L := by unfold bef at *; omega
  simp [this]
theorem same_side {x y p q k z : Int} (hk : 0 < k) (hp : 0 ≤ p) (hq : 0 ≤ q) (hs : 0 < p + q) (e : k * z = p * x + q * y) (hz : z = 0) : ¬ (0 < x * y) := by
  intro h
  rw [hz, Int.mul_zero] at e
  rcases (mulc' x y).2 h with ⟨g1, g2⟩ | ⟨g1, g2⟩
  · by_cases p1 : 0 < p
    · have := pp p1 g1; have := p0 hq (Int.le_of_lt g2); omega
    · have := p0 hp (Int.le_of_lt g1); have := pp (show 0 < q by omega) g2; omega
  · by_cases p1 : 0 < p
    · have := pn p1 g1; have := m0 hq (Int.le_of_lt g2); omega
    · have := m0 hp (Int.le_of_lt g1); have := pn (show 0 < q by omega) g2; omega
theorem sg_prod (x y : Int) : sg x * sg y > 0 ↔ 0 < x * y := by
  rcases sg_cases x with ⟨h, e⟩ | ⟨h, e⟩ | ⟨h, e⟩ <;> rcases sg_cases y with ⟨k, f⟩ | ⟨k, f⟩ | ⟨k, f⟩ <;> rw [e, f]
  · have := pp h k; omega
  · rw [k]; simp
  · have := pn h k; omega
  · rw [h]; simp
  · rw [h]; simp
  · rw [h]; simp
  · have := np h k; omega
  · rw [k]; simp
  · have := nng h k; omega
theorem meet_pt {a b c d z : Pnt} (hab : a ≠ b) (hcd : c ≠ d) (h1 : has a b z 1) (h2 : has c d z 1) : meet a b c d ≠ 0 := by
  have k1 := kk_pos hab
  have k2 := kk_pos hcd
  obtain ⟨p1, p2⟩ := pos_le hab h1
  obtain ⟨q1, q2⟩ := pos_le hcd h2
  have e1 := cr_on h2.1 a b
  have e2 := cr_on h1.1 c d
  have n1 := same_side k2 (by omega) q1 (by omega) e1 h1.1
  have n2 := same_side k1 (by omega) p1 (by omega) e2 h2.1
  unfold meet
  simp only
  split
  · obtain ⟨f1, f2⟩ := has_fwd h1
    obtain ⟨f3, f4⟩ := has_fwd h2
    exact onLine_pt f1 f2 f3 f4
  · rw [if_neg (by rw [sg_prod, sg_prod]; omega)]
    split <;> omega
theorem cr_two {a b z z' : Pnt} (hz : z ≠ z') (h1 : cr a b z 1 = 0) (h2 : cr a b z' 1 = 0) {c : Pnt} (h3 : cr z z' c 1 = 0) (hab : a ≠ b) : cr a b c 1 = 0 := by
  have hk := kk_pos hab
  have e := cr_dir h1 h2 c
  rw [h3, Int.mul_zero] at e
  rcases Int.mul_eq_zero.1 e.symm with q | q
  · exact absurd (pos_inj hab h1 h2 (by omega)) hz
  · exact q
theorem cr_back {a b z z' : Pnt} (hz : z ≠ z') (hab : a ≠ b) (h1 : cr a b z 1 = 0) (h2 : cr a b z' 1 = 0) : cr z z' a 1 = 0 ∧ cr z z' b 1 = 0 := by
  have hk := kk_pos hab
  have e1 := cr_dir h1 h2 a
  have e2 := cr_dir h1 h2 b
  rw [cr_a, Int.mul_zero] at e1
  rw [cr_b, Int.mul_zero] at e2
  constructor
  · rcases Int.mul_eq_zero.1 e1 with q | q <;> omega
  · rcases Int.mul_eq_zero.1 e2 with q | q <;> omega
theorem meet_two {a b c d z z' : Pnt} (hab : a ≠ b) (hcd : c ≠ d) (hz : z ≠ z') (h1 : has a b z 1) (h2 : has c d z 1) (h3 : has a b z' 1) (h4 : has c d z' 1) : meet a b c d = 3 := by
  obtain ⟨x1, x2⟩ := cr_back hz hab h1.1 h3.1
  obtain ⟨y1, y2⟩ := cr_back hz hcd h2.1 h4.1
  have z1 : cr a b c 1 = 0 := cr_two hz h1.1 h3.1 y1 hab
  have z2 : cr a b d 1 = 0 := cr_two hz h1.1 h3.1 y2 hab
  have z3 : cr c d a 1 = 0 := cr_two hz h2.1 h4.1 x1 hcd
  have z4 : cr c d b 1 = 0 := cr_two hz h2.1 h4.1 x2 hcd
  unfold meet
  simp only [z1, z2, z3, z4]
  rw [if_pos (by simp [sg])]
  obtain ⟨f1, f2⟩ := has_fwd h1
  obtain ⟨f3, f4⟩ := has_fwd h2
  obtain ⟨g1, g2⟩ := has_fwd h3
  obtain ⟨g3, g4⟩ := has_fwd h4
  rcases bef_tri z z' with h | h | h
  · exact onLine_two h f1 f3 g2 g4
  · exact absurd h hz
  · exact onLine_two h g1 g3 f2 f4
theorem segs_split (p1 : Ring) (a b : Pnt) (p2 : Ring) : segs (p1 ++ a :: b :: p2) = segs (p1 ++ [a]) ++ (a, b) :: segs (b :: p2) := by
  induction p1 with
  | nil => rfl
  | cons x p1 ih =>
    cases p1 with
    | nil => rfl
    | cons y p1 =>
      rw [List.cons_append, List.cons_append, segs_cons2, List.cons_append, List.cons_append, segs_cons2]
      rw [List.cons_append, List.cons_append] at ih
      rw [ih]; rfl
def oth (p1 : Ring) (a b : Pnt) (p2 : Ring) : List Seg := segs (p1 ++ [a]) ++ segs (b :: p2)
theorem mem_oth {p1 : Ring} {a b : Pnt} {p2 : Ring} {s : Seg} : s ∈ segs (p1 ++ a :: b :: p2) ↔ s = (a, b) ∨ s ∈ oth p1 a b p2 := by
  rw [segs_split]; unfold oth
  simp only [List.mem_append, List.mem_cons]
  constructor
  · rintro (h | h | h)
    · exact .inr (.inl h)
    · exact .inl h
    · exact .inr (.inr h)
  · rintro (h | h | h)
    · exact .inr (.inl h)
    · exact .inl h
    · exact .inr (.inr h)
theorem rays_oth (p1 : Ring) (a b : Pnt) (p2 : Ring) (x : Spot) : raysS (segs (p1 ++ a :: b :: p2)) x = (ray a b x.1 x.2 ^^ raysS (oth p1 a b p2) x) := by
  rw [segs_split, raysS_append, raysS_cons]; unfold oth; rw [raysS_append]
  generalize raysS (segs (p1 ++ [a])) x = u
  generalize raysS (segs (b :: p2)) x = v
  generalize ray a b x.1 x.2 = w
  cases u <;> cases v <;> cases w <;> rfl
theorem oth_chain {p1 : Ring} {a b : Pnt} {p2 : Ring} (hr : Ends (p1 ++ a :: b :: p2)) {x m : Pnt} (h : ∀ s ∈ oth p1 a b p2, Off x m s.1 s.2) (hx : ∀ s ∈ oth p1 a b p2, ¬ Xs x m s.1 s.2) :
    (raysS (oth p1 a b p2) (x, 1) ^^ raysS (oth p1 a b p2) (m, 1)) = (dRs x m a ^^ dRs x m b) := by
  unfold oth at *
  obtain ⟨u, t, e⟩ : ∃ u t, p1 ++ [a] = u :: t := by
    cases p1 with
    | nil => exact ⟨a, [], rfl⟩
    | cons y p1 => exact ⟨y, p1 ++ [a], rfl⟩
  have k1 := rays_chain x m t u (fun s hs => h s (by rw [List.mem_append, e]; exact .inl hs))
  have k2 := rays_chain x m p2 b (fun s hs => h s (by rw [List.mem_append]; exact .inr hs))
  have l1 : (u :: t).getLast (by simp) = a := by
    have : (p1 ++ [a]).getLast (by simp) = a := by simp
    simpa only [e] using this
  have l2 : u = (b :: p2).getLast (by simp) := by
    unfold Ends at hr
    have h1 : (p1 ++ a :: b :: p2).head? = some u := by
      have : p1 ++ a :: b :: p2 = (p1 ++ [a]) ++ b :: p2 := by simp
      rw [this, e]; rfl
    have h2 : (p1 ++ a :: b :: p2).getLast? = some ((b :: p2).getLast (by simp)) := by
      rw [List.getLast?_append, List.getLast?_cons_cons, List.getLast?_eq_some_getLast (by simp)]; rfl
    rw [h1, h2] at hr
    exact Option.some.inj hr
  rw [xsL_none (fun s hs => hx s (by rw [List.mem_append, e]; exact .inl hs)), l1] at k1
  rw [xsL_none (fun s hs => hx s (by rw [List.mem_append]; exact .inr hs)), ← l2] at k2
  rw [raysS_append, raysS_append, e]
  revert k1 k2
  generalize raysS (segs (u :: t)) (x, 1) = x1
  generalize raysS (segs (u :: t)) (m, 1) = x2
  generalize raysS (segs (b :: p2)) (x, 1) = x3
  generalize raysS (segs (b :: p2)) (m, 1) = x4
  generalize dRs x m u = x5
  generalize dRs x m a = x6
  generalize dRs x m b = x7
  revert x1 x2 x3 x4 x5 x6 x7
  decide
def upS (a b : Pnt) : Bool := decide (a.2 < b.2 ∨ (a.2 = b.2 ∧ b.1 < a.1))
theorem upS_swap {a b : Pnt} (h : a ≠ b) : upS b a = !upS a b := by
  unfold upS
  by_cases c : a.2 < b.2 ∨ (a.2 = b.2 ∧ b.1 < a.1)
  · rw [decide_eq_true c, decide_eq_false (by omega)]; rfl
  · rw [decide_eq_false c, decide_eq_true]
    · rfl
    · by_cases e : a.2 = b.2
      · have : a.1 ≠ b.1 := fun q => h (Prod.ext q e)
        omega
      · omega
structure Ins (a b m : Pnt) : Prop where
  on : has a b m 1
  na : m ≠ a
  nb : m ≠ b
theorem ins_pos {a b m : Pnt} (hab : a ≠ b) (h : Ins a b m) : 0 < pos a b m ∧ pos a b m < kk a b := by
  obtain ⟨h1, h2⟩ := pos_le hab h.on
  constructor
  · rcases Int.lt_or_eq_of_le h1 with g | g
    · exact g
    · exact absurd (pos_inj hab h.on.1 (cr_a a b) (by rw [pos_a]; omega)) h.na
  · rcases Int.lt_or_eq_of_le h2 with g | g
    · exact g
    · exact absurd (pos_inj hab h.on.1 (cr_b a b) (by rw [pos_b]; omega)) h.nb
theorem ins_hand {a b m x : Pnt} (hab : a ≠ b) (h : Ins a b m) : kk a b * cr x m a 1 = - (pos a b m) * cr a b x 1 ∧ kk a b * cr x m b 1 = (kk a b - pos a b m) * cr a b x 1 := by
  obtain ⟨e1, e2⟩ := on_line h.on.1
  have h0 := h.on.1
  have f : cr a b x 1 = (m.1 - x.1) * (b.2 - a.2) - (m.2 - x.2) * (b.1 - a.1) := by
    have := cr_from h0 x
    rw [← this]; grind
  have g1 : cr x m a 1 = (m.1 - x.1) * (a.2 - m.2) - (m.2 - x.2) * (a.1 - m.1) := by unfold cr; grind
  have g2 : cr x m b 1 = (m.1 - x.1) * (b.2 - m.2) - (m.2 - x.2) * (b.1 - m.1) := by unfold cr; grind
  have i1 : kk a b * (a.2 - m.2) = - (pos a b m) * (b.2 - a.2) := by grind
  have i2 : kk a b * (a.1 - m.1) = - (pos a b m) * (b.1 - a.1) := by grind
  have i3 : kk a b * (b.2 - m.2) = (kk a b - pos a b m) * (b.2 - a.2) := by grind
  have i4 : kk a b * (b.1 - m.1) = (kk a b - pos a b m) * (b.1 - a.1) := by grind
  rw [f, g1, g2]
  generalize kk a b = K at *
  generalize pos a b m = D at *
  generalize m.1 - x.1 = u at *
  generalize m.2 - x.2 = v at *
  constructor
  · have : K * (u * (a.2 - m.2) - v * (a.1 - m.1)) = u * (K * (a.2 - m.2)) - v * (K * (a.1 - m.1)) := by grind
    rw [this, i1, i2]; grind
  · have : K * (u * (b.2 - m.2) - v * (b.1 - m.1)) = u * (K * (b.2 - m.2)) - v * (K * (b.1 - m.1)) := by grind
    rw [this, i3, i4]; grind
theorem ins_y {a b m : Pnt} (hab : a ≠ b) (h : Ins a b m) : (a.2 < m.2 ∧ m.2 < b.2) ∨ (b.2 < m.2 ∧ m.2 < a.2) ∨ (a.2 = m.2 ∧ m.2 = b.2) := by
  have hk := kk_pos hab
  obtain ⟨p1, p2⟩ := ins_pos hab h
  obtain ⟨e1, e2⟩ := on_line h.on.1
  have i1 : kk a b * (m.2 - a.2) = pos a b m * (b.2 - a.2) := by grind
  have i3 : kk a b * (b.2 - m.2) = (kk a b - pos a b m) * (b.2 - a.2) := by grind
  have s1 := sgn_of hk i1
  have s2 := sgn_of hk i3
  have t1 := sgn_of p1 (rfl : pos a b m * (b.2 - a.2) = _)
  have t2 := sgn_of (show 0 < kk a b - pos a b m by omega) (rfl : (kk a b - pos a b m) * (b.2 - a.2) = _)
  omega
theorem local_left {a b m x : Pnt} (hab : a ≠ b) (h : Ins a b m) (hx : 0 < cr a b x 1) : (ray a b x 1 ^^ (dRs x m a ^^ dRs x m b)) = upS a b := by
  have hk := kk_pos hab
  obtain ⟨p1, p2⟩ := ins_pos hab h
  obtain ⟨e1, e2⟩ := ins_hand (x := x) hab h
  have s1 := sgn_of hk e1
  have s2 := sgn_of hk e2
  have t1 : - (pos a b m) * cr a b x 1 < 0 := np (by omega) hx
  have t2 : 0 < (kk a b - pos a b m) * cr a b x 1 := pp (by omega) hx
  have ca : cr x m a 1 < 0 := s1.2.1.2 t1
  have cb : 0 < cr x m b 1 := s2.1.2 t2
  have ca' : cr m x a 1 = - cr x m a 1 := cr_swap x m a 1
  have cb' : cr m x b 1 = - cr x m b 1 := cr_swap x m b 1
  have hy := ins_y hab h
  rw [ray_one]
  unfold dRs dR upS
  have flat : a.2 = b.2 → cr a b x 1 = (b.1 - a.1) * (x.2 - a.2) := by intro e; unfold cr; rw [e]; simp
  have hf : a.2 = b.2 → (b.1 < a.1 ↔ x.2 < a.2) ∧ x.2 ≠ a.2 := by
    intro e
    have := flat e
    rw [this] at hx
    have := (mulc' (b.1 - a.1) (x.2 - a.2)).2 hx
    omega
  clear e1 e2 s1 s2 t1 t2 flat
  rcases Int.lt_trichotomy x.2 m.2 with g | g | g
  · rw [if_pos g, if_pos g]
    by_cases c1 : a.2 - x.2 ≤ 0 ∧ 0 < b.2 - x.2 ∧ 0 < cr a b x 1 ∨ b.2 - x.2 ≤ 0 ∧ 0 < a.2 - x.2 ∧ cr a b x 1 < 0 <;>
    by_cases c2 : x.2 < a.2 ∧ a.2 ≤ m.2 ∧ cr x m a 1 < 0 <;>
    by_cases c3 : x.2 < b.2 ∧ b.2 ≤ m.2 ∧ cr x m b 1 < 0 <;>
    by_cases c4 : a.2 < b.2 ∨ (a.2 = b.2 ∧ b.1 < a.1) <;>
    first | (simp only [c1, c2, c3, c4, decide_true, decide_false]; rfl) | (exfalso; omega)
  · rw [if_neg (by omega), if_neg (by omega), if_neg (by omega), if_neg (by omega)]
    by_cases c1 : a.2 - x.2 ≤ 0 ∧ 0 < b.2 - x.2 ∧ 0 < cr a b x 1 ∨ b.2 - x.2 ≤ 0 ∧ 0 < a.2 - x.2 ∧ cr a b x 1 < 0 <;>
    by_cases c4 : a.2 < b.2 ∨ (a.2 = b.2 ∧ b.1 < a.1) <;>
    first | (simp only [c1, c4, decide_true, decide_false]; rfl) | (exfalso; omega)
  · rw [if_neg (by omega), if_pos g, if_neg (by omega), if_pos g]
    by_cases c1 : a.2 - x.2 ≤ 0 ∧ 0 < b.2 - x.2 ∧ 0 < cr a b x 1 ∨ b.2 - x.2 ≤ 0 ∧ 0 < a.2 - x.2 ∧ cr a b x 1 < 0 <;>
    by_cases c2 : m.2 < a.2 ∧ a.2 ≤ x.2 ∧ cr m x a 1 < 0 <;>
    by_cases c3 : m.2 < b.2 ∧ b.2 ≤ x.2 ∧ cr m x b 1 < 0 <;>
    by_cases c4 : a.2 < b.2 ∨ (a.2 = b.2 ∧ b.1 < a.1) <;>
    first | (simp only [c1, c2, c3, c4, decide_true, decide_false]; rfl) | (exfalso; omega)
theorem ray_swap (a b x : Pnt) : ray a b x 1 = ray b a x 1 := by
  rw [ray_one, ray_one, cr_swap a b x 1]
  exact decide_eq_decide.2 (by omega)
theorem local_right {a b m x : Pnt} (hab : a ≠ b) (h : Ins a b m) (hx : cr a b x 1 < 0) : (ray a b x 1 ^^ (dRs x m a ^^ dRs x m b)) = !upS a b := by
  have := local_left (a := b) (b := a) (m := m) (x := x) (Ne.symm hab) ⟨has_swap.1 h.on, h.nb, h.na⟩ (by rw [cr_swap]; omega)
  rw [← upS_swap hab, ← this, ray_swap, Bool.xor_comm (dRs x m a)]
end Vd
end Go.Proofs.YtcclepohmhdpbabGreatDoor
