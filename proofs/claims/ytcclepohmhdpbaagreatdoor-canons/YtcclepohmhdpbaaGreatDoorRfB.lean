import Derived.Test.YtcclepohmhdpbaaGreatDoorVdG
import Derived.Test.YtcclepohmhdpbaaGreatDoorPnA
/- VALIDITY, PLAINLY: a way round, just if there is a core (G5): the program's whole. -/
namespace Go.Proofs.YtcclepohmhdpbaaGreatDoor
set_option linter.all false
namespace Vd
def incL (l : Poly) : Inc := fun r p => place (rAt l r) (at1 p) = 1
theorem at_ringsAt (l : Poly) : At l.length (incL l) (ringsAt l) where
  mem := by
    intro r p
    unfold ringsAt incL
    simp
  nd := by
    intro p
    unfold ringsAt
    exact List.Pairwise.filter _ (List.nodup_range)
theorem Jd.mono {n : Nat} {E : Inc} {Q Q' : Pnt → Prop} {g : List Nat} (h : Jd n E Q g) (k : ∀ p, Q p ↔ Q' p) : Jd n E Q' g := by
  have e : Q = Q' := funext fun p => propext (k p)
  rw [← e]; exact h
theorem wayL_cases (l : Poly) : ∀ (ps : List Pnt) (Q : Pnt → Prop) (g : List Nat), Jd l.length (incL l) Q g → (∀ p ∈ ps, ¬ Q p) → ps.Nodup →
    (wayL l ps g = true → ∃ F : Inc, (∀ r q, F r q → r < l.length ∧ incL l r q ∧ (Q q ∨ q ∈ ps)) ∧ Core F ∧ ∃ r q, F r q) ∧
    (wayL l ps g = false → ∃ g', Jd l.length (incL l) (fun q => Q q ∨ q ∈ ps) g') := by
  intro ps
  induction ps with
  | nil =>
    intro Q g h _ _
    refine ⟨fun e => ?_, fun _ => ⟨g, h.mono (by simp)⟩⟩
    simp [wayL] at e
  | cons p t ih =>
    intro Q g h hq hnd
    have hp := hq p (by simp)
    rw [List.nodup_cons] at hnd
    cases hj : join g (ringsAt l p) with
    | none =>
      refine ⟨fun _ => ?_, fun e => by simp [wayL, hj] at e⟩
      obtain ⟨F, h1, h2, h3⟩ := h.core (at_ringsAt l) hp hj
      refine ⟨F, fun r q t => ⟨(h1 r q t).1, (h1 r q t).2.1, ?_⟩, h2, h3⟩
      rcases (h1 r q t).2.2 with k | k
      · exact .inl k
      · exact .inr (by simp [k])
    | some g' =>
      have h' := h.step (at_ringsAt l) hp hj
      have := ih _ g' h' (by
        rintro q hq' (k | rfl)
        · exact hq q (by simp [hq']) k
        · exact hnd.1 hq') hnd.2
      have ew : wayL l (p :: t) g = wayL l t g' := by simp [wayL, hj]
      rw [ew]
      refine ⟨fun e => ?_, fun e => ?_⟩
      · obtain ⟨F, h1, h2, h3⟩ := this.1 e
        refine ⟨F, fun r q t => ⟨(h1 r q t).1, (h1 r q t).2.1, ?_⟩, h2, h3⟩
        rcases (h1 r q t).2.2 with (k | k) | k
        · exact .inl k
        · exact .inr (by simp [k])
        · exact .inr (by simp [k])
      · obtain ⟨g'', k⟩ := this.2 e
        exact ⟨g'', k.mono (by intro q; simp [or_assoc])⟩
theorem touch_fold (l : Poly) : ∀ (ps : List Pnt) (a : List Pnt), a.Nodup → (∀ p ∈ a, 1 < (ringsAt l p).length) →
    (ps.foldl (touchF l) a).Nodup ∧ ∀ q, q ∈ ps.foldl (touchF l) a ↔ q ∈ a ∨ (q ∈ ps ∧ 1 < (ringsAt l q).length) := by
  intro ps
  induction ps with
  | nil => intro a h _; exact ⟨h, by simp⟩
  | cons p t ih =>
    intro a h h1
    rw [List.foldl_cons]
    by_cases c : ¬ (p ∈ a) ∧ 1 < (ringsAt l p).length
    · rw [show touchF l a p = a ++ [p] from if_pos c]
      have := ih (a ++ [p]) (by rw [List.nodup_append]; exact ⟨h, by simp, by intro x hx y hy; simp at hy; subst hy; rintro rfl; exact c.1 hx⟩) (by
        intro q hq
        rcases List.mem_append.1 hq with hq | hq
        · exact h1 q hq
        · simp at hq; subst hq; exact c.2)
      refine ⟨this.1, fun q => ?_⟩
      rw [this.2 q]
      simp only [List.mem_append, List.mem_cons, List.mem_singleton, List.not_mem_nil, or_false]
      constructor
      · rintro ((k | rfl) | k)
        · exact .inl k
        · exact .inr ⟨.inl rfl, c.2⟩
        · exact .inr ⟨.inr k.1, k.2⟩
      · rintro (k | ⟨rfl | k, k2⟩)
        · exact .inl (.inl k)
        · exact .inl (.inr rfl)
        · exact .inr ⟨k, k2⟩
    · rw [show touchF l a p = a from if_neg c]
      have := ih a h h1
      refine ⟨this.1, fun q => ?_⟩
      rw [this.2 q]
      simp only [List.mem_cons]
      constructor
      · rintro (k | k)
        · exact .inl k
        · exact .inr ⟨.inr k.1, k.2⟩
      · rintro (k | ⟨rfl | k, k2⟩)
        · exact .inl k
        · by_cases hq : q ∈ a
          · exact .inl hq
          · exact absurd ⟨hq, k2⟩ c
        · exact .inr ⟨k, k2⟩
theorem two_at {n : Nat} {E : Inc} {f : Pnt → List Nat} (hA : At n E f) {p : Pnt} {a b : Nat} (ha : a ∈ f p) (hb : b ∈ f p) (hab : a ≠ b) : 1 < (f p).length := by
  match hf : f p with
  | [] => rw [hf] at ha; cases ha
  | [x] => rw [hf] at ha hb; simp at ha hb; exact absurd (ha.trans hb.symm) hab
  | x :: y :: t => simp
theorem nAt_range {n a : Nat} (h : a < n) : nAt (List.range n) a = a := by
  unfold nAt; simp [List.getD_eq_getElem?_getD, List.getElem?_range h]
theorem way_core (l : Poly) : way l = true ↔ ∃ F : Inc, (∀ r q, F r q → r < l.length ∧ incL l r q ∧ q ∈ l.flatten) ∧ Core F ∧ ∃ r q, F r q := by
  have ht := touch_fold l l.flatten [] List.nodup_nil (by simp)
  have h0 : Jd l.length (incL l) (fun _ => False) (List.range l.length) := by
    refine ⟨by simp, by simp, ?_, ?_⟩
    · intro F hF x _ r p h; exact (hF r p h).2.2
    · intro a b ha hb hab e
      rw [nAt_range ha, nAt_range hb] at e
      exact absurd e hab
  have key := wayL_cases l (touchPts l) _ _ h0 (by simp) ht.1
  constructor
  · intro h
    obtain ⟨F, h1, h2, h3⟩ := key.1 h
    refine ⟨F, fun r q t => ⟨(h1 r q t).1, (h1 r q t).2.1, ?_⟩, h2, h3⟩
    rcases (h1 r q t).2.2 with k | k
    · exact k.elim
    · have := (ht.2 q).1 k
      simp only [List.not_mem_nil, false_or] at this
      exact this.1
  · rintro ⟨F, h1, h2, r, q, h3⟩
    cases hw : way l with
    | true => rfl
    | false =>
      exfalso
      obtain ⟨g, hg⟩ := key.2 hw
      refine hg.no F ?_ 0 ⟨h2.pt, fun r p t _ _ => h2.ring r p t⟩ r q h3
      intro r p t
      obtain ⟨r', e, t'⟩ := h2.pt r p t
      have a1 := h1 r p t
      have a2 := h1 r' p t'
      refine ⟨a1.1, a1.2.1, .inr ?_⟩
      refine (ht.2 p).2 (.inr ⟨a1.2.2, ?_⟩)
      exact two_at (at_ringsAt l) (((at_ringsAt l).mem r p).2 ⟨a1.1, a1.2.1⟩) (((at_ringsAt l).mem r' p).2 ⟨a2.1, a2.2.1⟩) (Ne.symm e)
end Vd
end Go.Proofs.YtcclepohmhdpbaaGreatDoor

/- VALIDITY, PLAINLY: Meet either way round; where a spot lies, the document's; what lies within two segments (G2, G6). -/
namespace Go.Proofs.YtcclepohmhdpbaaGreatDoor
set_option linter.all false
namespace Vd
theorem onLine_symm (s t : Seg) : onLine s t = onLine t s := by
  have e1 : (if bef s.1 t.1 then t.1 else s.1) = (if bef t.1 s.1 then s.1 else t.1) := by
    rcases bef_tri s.1 t.1 with h | h | h
    · rw [if_pos h, if_neg (fun k => bef_irr h k)]
    · rw [h]
    · rw [if_neg (fun k => bef_irr h k), if_pos h]
  have e2 : (if bef t.2 s.2 then t.2 else s.2) = (if bef s.2 t.2 then s.2 else t.2) := by
    rcases bef_tri s.2 t.2 with h | h | h
    · rw [if_pos h, if_neg (fun k => bef_irr h k)]
    · rw [h]
    · rw [if_neg (fun k => bef_irr h k), if_pos h]
  unfold onLine
  simp only
  rw [e1, e2]
theorem meet_symm (a b c d : Pnt) : meet a b c d = meet c d a b := by
  unfold meet
  simp only
  generalize sg (cr a b c 1) = x
  generalize sg (cr a b d 1) = y
  generalize sg (cr c d a 1) = z
  generalize sg (cr c d b 1) = u
  rw [onLine_symm (fwd a b)]
  have e1 : (x = 0 ∧ y = 0 ∧ z = 0 ∧ u = 0) ↔ (z = 0 ∧ u = 0 ∧ x = 0 ∧ y = 0) := by omega
  have e2 : (x * y > 0 ∨ z * u > 0) ↔ (z * u > 0 ∨ x * y > 0) := Or.comm
  have e3 : x * y * z * u = z * u * x * y := by grind
  rw [e3]
  simp only [e1, e2]
theorem meetS_symm (s t : Seg) : meetS s t = meetS t s := meet_symm _ _ _ _
theorem crossS_symm (s t : Seg) : crossS s t = crossS t s := by unfold crossS; rw [meetS_symm]

/-! ### the document's: where a spot lies -/
def inRingL : List Seg → Bool → Spot → Int
  | [], i, _ => if i then 1 else -1
  | s :: t, i, p => if on s.1 s.2 p.1 p.2 then 0 else inRingL t (if rayD s.1 s.2 p.1 p.2 then !i else i) p
def inRing (r : Ring) (p : Spot) : Int := inRingL (segs r) false p
def pl (k : Int) : Int := if k = 0 then 1 else if k = 1 then 2 else 0
theorem placeL_eq : ∀ (l : List Seg) (i : Bool) (p : Spot), 0 < p.2 → (∀ s ∈ l, s.1 ≠ s.2) → placeL l i p = pl (inRingL l i p) ∧ (inRingL l i p = 0 ∨ inRingL l i p = 1 ∨ inRingL l i p = -1) := by
  intro l
  induction l with
  | nil => intro i p _ _; cases i <;> simp [placeL, inRingL, pl]
  | cons s t ih =>
    intro i p hp hl
    have hs := hl s (by simp)
    have e := has_on (p := p.1) (w := p.2) hs hp
    unfold placeL inRingL hasB
    by_cases h : has s.1 s.2 p.1 p.2
    · rw [if_pos (decide_eq_true h), if_pos (e.1 h)]
      simp [pl]
    · rw [decide_eq_false h, if_neg (fun k => h (e.2 k)), ray_eq hp]
      simp only [Bool.false_eq_true, if_false]
      exact ih _ p hp fun x hx => hl x (by simp [hx])
/-- No segment without length. -/
def Long (r : Ring) : Prop := ∀ s ∈ segs r, s.1 ≠ s.2
theorem place_eq {r : Ring} {p : Spot} (hr : Long r) (hp : 0 < p.2) : place r p = pl (inRing r p) ∧ (inRing r p = 0 ∨ inRing r p = 1 ∨ inRing r p = -1) := placeL_eq _ _ _ hp hr
def inL : Int → List Ring → Spot → Int
  | s, [], _ => s
  | s, r :: t, p => if inRing r p = 0 ∧ 0 ≤ s then 0 else if inRing r p = 1 then -1 else inL s t p
def inP : Poly → Spot → Int
  | [], _ => 0
  | r :: t, p => inL (inRing r p) t p

theorem inL_free : ∀ (t : List Ring) (s : Int) (f : Bool) (p : Spot), 0 < p.2 → (∀ r ∈ t, Long r ∧ place r p ≠ 1) → (s = 1 ∨ s = -1) → (f = true ↔ s = -1) →
    (freeL t false f p = true ↔ inL s t p = -1) := by
  intro t
  induction t with
  | nil => intro s f p _ _ _ hf; exact hf
  | cons r t ih =>
    intro s f p hp hr hs hf
    obtain ⟨hl, hp1⟩ := hr r (by simp)
    obtain ⟨e1, e2⟩ := place_eq hl hp
    have ht : ∀ r ∈ t, Long r ∧ place r p ≠ 1 := fun x hx => hr x (by simp [hx])
    unfold freeL inL
    rw [if_neg hp1]
    rcases e2 with e | e | e
    · exfalso; rw [e] at e1; exact hp1 e1
    · rw [e] at e1
      rw [if_neg (by omega), if_pos e]
      have e3 : place r p = 2 := e1
      simp only [e3]
      -- once free, always free
      have : ∀ (t : List Ring), (∀ r ∈ t, Long r ∧ place r p ≠ 1) → freeL t false true p = true := by
        intro t
        induction t with
        | nil => intro _; rfl
        | cons r t ih =>
          intro h
          unfold freeL
          rw [if_neg (h r (by simp)).2]
          simp only [Bool.true_or]
          exact ih fun x hx => h x (by simp [hx])
      simp [this t ht]
    · rw [e] at e1
      rw [if_neg (by omega), if_neg (by omega)]
      have e3 : place r p = 0 := e1
      simp only [e3]
      have := ih s f p hp ht hs hf
      simpa using this
/-- G6: on no ring, what is free is outside. -/
theorem free_in {l : Poly} {p : Spot} (hp : 0 < p.2) (hne : l ≠ []) (hr : ∀ r ∈ l, Long r ∧ place r p ≠ 1) : free l p = true ↔ inP l p = -1 := by
  cases l with
  | nil => exact absurd rfl hne
  | cons r t =>
    obtain ⟨hl, hp1⟩ := hr r (by simp)
    obtain ⟨e1, e2⟩ := place_eq hl hp
    unfold free freeL inP
    rw [if_neg hp1]
    rcases e2 with e | e | e
    · exfalso; rw [e] at e1; exact hp1 e1
    · rw [e] at e1
      have e3 : place r p = 2 := e1
      simp only [e3, e]
      exact inL_free t 1 _ p hp (fun x hx => hr x (by simp [hx])) (.inl rfl) (by simp)
    · rw [e] at e1
      have e3 : place r p = 0 := e1
      simp only [e3, e]
      exact inL_free t (-1) _ p hp (fun x hx => hr x (by simp [hx])) (.inr rfl) (by simp)

/-! ### a spot within both -/
/-- where a spot m (over 2) stands along a to b, over 2. -/
theorem cr_mid (a b x y : Pnt) : cr a b (midOf x y).1 2 = cr a b x 1 + cr a b y 1 := by unfold cr midOf; grind
theorem placeL_one : ∀ (l : List Seg) (i : Bool) (p : Spot), placeL l i p = 1 ↔ ∃ s ∈ l, has s.1 s.2 p.1 p.2 := by
  intro l
  induction l with
  | nil => intro i p; cases i <;> simp [placeL]
  | cons s t ih =>
    intro i p
    unfold placeL hasB
    by_cases h : has s.1 s.2 p.1 p.2
    · rw [if_pos (decide_eq_true h)]; simp [h]
    · rw [decide_eq_false h]
      simp only [Bool.false_eq_true, if_false]
      rw [ih]
      simp [h]
theorem place_one {r : Ring} {p : Spot} : place r p = 1 ↔ ∃ s ∈ segs r, has s.1 s.2 p.1 p.2 := placeL_one _ _ _
end Vd
end Go.Proofs.YtcclepohmhdpbaaGreatDoor

/- VALIDITY, PLAINLY: a spot within two segments: they cross or lie along each other (G6). -/
namespace Go.Proofs.YtcclepohmhdpbaaGreatDoor
set_option linter.all false
namespace Vd
/-- Strictly within: neither end. -/
def Inn (a b m : Pnt) : Prop := has a b m 2 ∧ m ≠ (a.1 * 2, a.2 * 2) ∧ m ≠ (b.1 * 2, b.2 * 2)
theorem inn_pos {a b m : Pnt} (hab : a ≠ b) (h : Inn a b m) : 0 < dt a b m 2 ∧ dt a b m 2 < kk a b * 2 := by
  have hk := kk_pos hab
  obtain ⟨h0, h1, h2⟩ := (has_on hab (by omega)).1 h.1
  have e1 : dt a b m 2 * (b.1 - a.1) = (m.1 - a.1 * 2) * kk a b := by unfold cr at h0; unfold dt kk; grind
  have e2 : dt a b m 2 * (b.2 - a.2) = (m.2 - a.2 * 2) * kk a b := by unfold cr at h0; unfold dt kk; grind
  have z : ∀ t : Int, 0 = t * kk a b → t = 0 := by
    intro t h
    rcases Int.mul_eq_zero.1 h.symm with h | h
    · exact h
    · omega
  constructor
  · rcases Int.lt_or_eq_of_le h1 with g | g
    · exact g
    · exfalso
      rw [← g, Int.zero_mul] at e1 e2
      have := z _ e1
      have := z _ e2
      exact h.2.1 (Prod.ext (by simp only; omega) (by simp only; omega))
  · rcases Int.lt_or_eq_of_le h2 with g | g
    · exact g
    · exfalso
      have f1 : 0 = (m.1 - b.1 * 2) * kk a b := by rw [g] at e1; grind
      have f2 : 0 = (m.2 - b.2 * 2) * kk a b := by rw [g] at e2; grind
      have := z _ f1
      have := z _ f2
      exact h.2.2 (Prod.ext (by simp only; omega) (by simp only; omega))
/-- Two weights above 0. -/
theorem weights {p q X Y : Int} (hp : 0 < p) (hq : 0 < q) (e : p * X + q * Y = 0) : (X = 0 ∧ Y = 0) ∨ (0 < X ∧ Y < 0) ∨ (X < 0 ∧ 0 < Y) := by
  rcases Int.lt_trichotomy X 0 with h | h | h
  · right; right; refine ⟨h, ?_⟩
    have := Int.mul_neg_of_pos_of_neg hp h
    rcases Int.lt_or_le 0 Y with g | g
    · exact g
    · have := Int.mul_nonpos_of_nonneg_of_nonpos (Int.le_of_lt hq) g
      omega
  · left; refine ⟨h, ?_⟩
    rw [h, Int.mul_zero, Int.zero_add] at e
    rcases Int.mul_eq_zero.1 e with g | g
    · omega
    · exact g
  · right; left; refine ⟨h, ?_⟩
    have := Int.mul_pos hp h
    rcases Int.lt_or_le Y 0 with g | g
    · exact g
    · have := Int.mul_nonneg (Int.le_of_lt hq) g
      omega
theorem inn_sides {a b c d m : Pnt} (hcd : c ≠ d) (h1 : cr a b m 2 = 0) (h2 : Inn c d m) : (cr a b c 1 = 0 ∧ cr a b d 1 = 0) ∨ (0 < cr a b c 1 ∧ cr a b d 1 < 0) ∨ (cr a b c 1 < 0 ∧ 0 < cr a b d 1) := by
  obtain ⟨g1, g2⟩ := inn_pos hcd h2
  have h0 := h2.1.1
  have e1 : dt c d m 2 * (d.1 - c.1) = (m.1 - c.1 * 2) * kk c d := by unfold cr at h0; unfold dt kk; grind
  have e2 : dt c d m 2 * (d.2 - c.2) = (m.2 - c.2 * 2) * kk c d := by unfold cr at h0; unfold dt kk; grind
  refine weights (p := kk c d * 2 - dt c d m 2) (q := dt c d m 2) (by omega) g1 ?_
  generalize dt c d m 2 = T at *
  generalize kk c d = K at *
  unfold cr at *
  grind
theorem line_other {a b c d : Pnt} (hab : a ≠ b) (h1 : cr a b c 1 = 0) (h2 : cr a b d 1 = 0) : cr c d a 1 = 0 ∧ cr c d b 1 = 0 := by
  have hk := kk_pos hab
  have z : ∀ t : Int, kk a b * t = 0 → t = 0 := by
    intro t h
    rcases Int.mul_eq_zero.1 h with h | h
    · omega
    · exact h
  constructor
  · apply z; unfold cr at *; unfold kk; grind
  · apply z; unfold cr at *; unfold kk; grind
theorem dt_two (a b x : Pnt) : dt a b (x.1 * 2, x.2 * 2) 2 = 2 * pos a b x := by unfold dt pos dt; grind
theorem inn_between {a b c d m : Pnt} (hcd : c ≠ d) (h2 : Inn c d m) : (2 * pos a b c < dt a b m 2 ∧ dt a b m 2 < 2 * pos a b d) ∨ (2 * pos a b d < dt a b m 2 ∧ dt a b m 2 < 2 * pos a b c) ∨ pos a b c = pos a b d := by
  obtain ⟨g1, g2⟩ := inn_pos hcd h2
  have h0 := h2.1.1
  have hk := kk_pos hcd
  have e1 : dt c d m 2 * (d.1 - c.1) = (m.1 - c.1 * 2) * kk c d := by unfold cr at h0; unfold dt kk; grind
  have e2 : dt c d m 2 * (d.2 - c.2) = (m.2 - c.2 * 2) * kk c d := by unfold cr at h0; unfold dt kk; grind
  have e : dt c d m 2 * (pos a b d - pos a b c) = kk c d * (dt a b m 2 - 2 * pos a b c) := by
    generalize dt c d m 2 = T at *
    generalize kk c d = K at *
    unfold pos dt; grind
  have e' : (kk c d * 2 - dt c d m 2) * (pos a b d - pos a b c) = kk c d * (2 * pos a b d - dt a b m 2) := by
    have : (kk c d * 2 - dt c d m 2) * (pos a b d - pos a b c) = kk c d * 2 * (pos a b d - pos a b c) - dt c d m 2 * (pos a b d - pos a b c) := by grind
    rw [this, e]; grind
  have g3 : 0 < kk c d * 2 - dt c d m 2 := by omega
  have sgn : ∀ {p q A B : Int}, 0 < p → 0 < q → p * A = q * B → (0 < A → 0 < B) ∧ (A < 0 → B < 0) := by
    intro p q A B hp hq e
    constructor
    · intro hA
      have := Int.mul_pos hp hA
      rw [e] at this
      exact Int.pos_of_mul_pos_right this hq
    · intro hA
      have := Int.mul_neg_of_pos_of_neg hp hA
      rw [e] at this
      rcases Int.lt_or_le B 0 with g | g
      · exact g
      · have := Int.mul_nonneg (Int.le_of_lt hq) g; omega
  rcases Int.lt_trichotomy (pos a b d - pos a b c) 0 with h | h | h
  · have k1 := (sgn g1 hk e).2 h
    have k2 := (sgn g3 hk e').2 h
    right; left; omega
  · right; right; omega
  · have k1 := (sgn g1 hk e).1 h
    have k2 := (sgn g3 hk e').1 h
    left; omega
theorem inn_cross {a b c d m : Pnt} (hab : a ≠ b) (hcd : c ≠ d) (h1 : Inn a b m) (h2 : Inn c d m) : meet a b c d = 2 ∨ meet a b c d = 3 := by
  have s1 := inn_sides hcd h1.1.1 h2
  have s2 := inn_sides hab h2.1.1 h1
  have l1 := line_other (c := c) (d := d) hab
  have l2 := line_other (c := a) (d := b) hcd
  by_cases hz : cr a b c 1 = 0
  · have hd : cr a b d 1 = 0 := by omega
    obtain ⟨z1, z2⟩ := l1 hz hd
    right
    have hm : meet a b c d = onLine (fwd a b) (fwd c d) := by
      unfold meet
      simp [hz, hd, z1, z2, sg]
    rw [hm]
    obtain ⟨p1, p2⟩ := inn_pos hab h1
    have hb := inn_between (a := a) (b := b) hcd h2
    have hne : pos a b c ≠ pos a b d := fun e => hcd (pos_inj hab hz hd e)
    rw [onLine_count hab hcd hz hd]
    have : count (kk a b) (min (pos a b c) (pos a b d)) (max (pos a b c) (pos a b d)) = 2 := by
      unfold count
      rw [if_neg (by omega), if_neg (by omega)]
    simp [this]
  · left
    have t2 : ¬ (cr c d a 1 = 0 ∧ cr c d b 1 = 0) := fun e => hz (l2 e.1 e.2).1
    have sp : ∀ {n : Int}, 0 < n → sg n = 1 := fun h => by unfold sg; rw [if_pos h]
    have sn : ∀ {n : Int}, n < 0 → sg n = -1 := fun h => by unfold sg; rw [if_neg (by omega), if_pos h]
    rcases s1 with e | ⟨x1, y1⟩ | ⟨x1, y1⟩
    · exact absurd e.1 hz
    · rcases s2 with e | ⟨z1, u1⟩ | ⟨z1, u1⟩
      · exact absurd e t2
      · unfold meet; simp [sp x1, sn y1, sp z1, sn u1]
      · unfold meet; simp [sp x1, sn y1, sn z1, sp u1]
    · rcases s2 with e | ⟨z1, u1⟩ | ⟨z1, u1⟩
      · exact absurd e t2
      · unfold meet; simp [sn x1, sp y1, sp z1, sn u1]
      · unfold meet; simp [sn x1, sp y1, sn z1, sp u1]
/-- A middle lies on no ring at whose vertices the segment was cut, unless they cross. -/
theorem mid_off {a b : Pnt} (hab : a ≠ b) {rings : Poly} {o : Ring} (ho : o ∈ rings) (hl : Long o) {m : Spot} (hm : m ∈ mids (a, b) rings) (hx : ∀ t ∈ segs o, crossS (a, b) t = false) : place o m ≠ 1 := by
  intro h1
  obtain ⟨y, z, hc, rfl⟩ := (mem_mids hab rings m).1 hm
  obtain ⟨t, ht, hh⟩ := place_one.1 h1
  have hh' : has t.1 t.2 (midOf y z).1 2 := hh
  have py := pos_le hab (cut_has hc.cx)
  have pz := pos_le hab (cut_has hc.cy)
  have hlt := hc.lt
  have ep : dt a b (midOf y z).1 2 = pos a b y + pos a b z := by unfold midOf pos dt; grind
  have hon : has a b (midOf y z).1 2 := by
    rw [has_on hab (by omega)]
    refine ⟨?_, by omega, by omega⟩
    have := cr_mid a b y z
    rw [this, (cut_has hc.cx).1, (cut_has hc.cy).1]; rfl
  have i1 : Inn a b (midOf y z).1 := by
    refine ⟨hon, ?_, ?_⟩
    · intro e
      have := dt_two a b a
      rw [← e, ep, pos_a] at this
      omega
    · intro e
      have := dt_two a b b
      rw [← e, ep, pos_b] at this
      omega
  have noCut : ∀ c, c ∈ o → (midOf y z).1 ≠ (c.1 * 2, c.2 * 2) := by
    intro c hco e
    have d2 := dt_two a b c
    rw [← e, ep] at d2
    have hcut : Cut a b rings.flatten c := by
      refine .inr (.inr ⟨List.mem_flatten.2 ⟨o, ho, hco⟩, ?_⟩)
      rw [has_on hab (by omega)]
      have g0 : cr a b (c.1 * 2, c.2 * 2) 2 = 0 := e ▸ hon.1
      refine ⟨?_, ?_, ?_⟩
      · unfold cr at *; grind
      · show 0 ≤ pos a b c; omega
      · show pos a b c ≤ _; omega
    exact hc.no c hcut ⟨by omega, by omega⟩
  have i2 : Inn t.1 t.2 (midOf y z).1 := ⟨hh', noCut _ (segs_mem ht).1, noCut _ (segs_mem ht).2⟩
  have := inn_cross hab (hl t ht) i1 i2
  have hf := hx t ht
  unfold crossS meetS at hf
  simp only [Bool.or_eq_false_iff, decide_eq_false_iff_not] at hf
  rcases this with e | e
  · exact hf.1 e
  · exact hf.2 e
end Vd
end Go.Proofs.YtcclepohmhdpbaaGreatDoor

/- VALIDITY, PLAINLY: the document's clauses, and that the least is the program's. -/
namespace Go.Proofs.YtcclepohmhdpbaaGreatDoor
set_option linter.all false
namespace Vd
def twiceD (r : Ring) : Bool := anyI (r.length - 1) fun i => anyI i fun j => decide (ptAt r i = ptAt r j)
def nextD2 (n i j : Nat) : Bool := decide (j + 1 = i) || (decide (j = 0) && decide (i + 1 = n))
def badK (next : Bool) (k : Int) : Bool := (next && decide (k ≠ 1)) || (!next && decide (k ≠ 0))
def selfD (r : Ring) : Bool := anyI (r.length - 1) fun i => anyI i fun j => badK (nextD2 (r.length - 1) i j) (common (ptAt r i) (ptAt r (i + 1)) (ptAt r j) (ptAt r (j + 1))).1
def cleanD (r : Ring) : Bool := !(twiceD r || selfD r)
def crossD (s t : Seg) : Bool := decide ((common s.1 s.2 t.1 t.2).1 = 2) || (common s.1 s.2 t.1 t.2).2
def pointsD (a b : Ring) : Bool := !((segs a).any fun s => (segs b).any fun t => crossD s t)
def allD (r : Ring) (q : Poly) (k : Int) : Bool := !((segs r).any fun s => (midD s.1 s.2 q).any fun m => decide (inP q m ≠ k))

/-- What Make lets pass: closed, four points or more. -/
structure Shut (r : Ring) : Prop where
  len : 4 ≤ r.length
  eq : ptAt r 0 = ptAt r (r.length - 1)

theorem ptAt_get {r : Ring} {i : Nat} (h : i < r.length) : r[i]? = some (ptAt r i) := by
  unfold ptAt; rw [List.getD_eq_getElem?_getD, List.getElem?_eq_getElem h]; rfl
theorem sAt_get {r : Ring} {i : Nat} (h : i + 1 < r.length) : sAt (segs r) i = (ptAt r i, ptAt r (i + 1)) := by
  unfold sAt; rw [List.getD_eq_getElem?_getD, segs_at (ptAt_get (by omega)) (ptAt_get h)]; rfl
theorem segs_mem_at {r : Ring} {s : Seg} (h : s ∈ segs r) : ∃ i, i + 1 < r.length ∧ s = (ptAt r i, ptAt r (i + 1)) := by
  obtain ⟨i, hi, e⟩ := List.getElem_of_mem h
  rw [segs_len] at hi
  have hi' : i + 1 < r.length := by omega
  refine ⟨i, hi', ?_⟩
  have := segs_at (ptAt_get (show i < r.length by omega)) (ptAt_get hi')
  rw [List.getElem?_eq_getElem (by rw [segs_len]; exact hi)] at this
  rw [← e]; exact Option.some.inj this

theorem twice_iff {r : Ring} : twice r = true ↔ ∃ i j, 1 ≤ i ∧ i < j ∧ j < r.length ∧ ptAt r i = ptAt r j := by
  unfold twice
  rw [anyI_iff]
  constructor
  · rintro ⟨i, hi, h⟩
    simp only [Bool.and_eq_true, decide_eq_true_eq, anyI_iff] at h
    obtain ⟨h1, j, hj, h2, h3⟩ := h
    rw [ptAt_get hi, ptAt_get hj] at h3
    exact ⟨i, j, h1, h2, hj, Option.some.inj h3⟩
  · rintro ⟨i, j, h1, h2, h3, h4⟩
    refine ⟨i, by omega, ?_⟩
    simp only [Bool.and_eq_true, decide_eq_true_eq, anyI_iff]
    exact ⟨h1, j, h3, h2, by rw [ptAt_get (show i < r.length by omega), ptAt_get h3, h4]⟩
theorem twiceD_iff {r : Ring} : twiceD r = true ↔ ∃ i j, j < i ∧ i < r.length - 1 ∧ ptAt r i = ptAt r j := by
  unfold twiceD
  rw [anyI_iff]
  constructor
  · rintro ⟨i, hi, h⟩
    simp only [anyI_iff, decide_eq_true_eq] at h
    obtain ⟨j, hj, e⟩ := h
    exact ⟨i, j, hj, hi, e⟩
  · rintro ⟨i, j, h1, h2, h3⟩
    refine ⟨i, h2, ?_⟩
    simp only [anyI_iff, decide_eq_true_eq]
    exact ⟨j, h1, h3⟩
theorem bool_iff {a b : Bool} (h : a = true ↔ b = true) : a = b := by cases a <;> cases b <;> simp_all
theorem twice_eq {r : Ring} (h : Shut r) : twice r = twiceD r := by
  apply bool_iff
  rw [twice_iff, twiceD_iff]
  have h4 := h.len
  constructor
  · rintro ⟨i, j, h1, h2, h3, e⟩
    by_cases hj : j = r.length - 1
    · exact ⟨i, 0, by omega, by omega, by rw [h.eq, e, hj]⟩
    · exact ⟨j, i, h2, by omega, e.symm⟩
  · rintro ⟨i, j, h1, h2, e⟩
    by_cases hj : j = 0
    · exact ⟨i, r.length - 1, by omega, by omega, by omega, by rw [e, hj, h.eq]⟩
    · exact ⟨j, i, by omega, h1, by omega, e.symm⟩
theorem long_of {r : Ring} (h : Shut r) (ht : twice r = false) : Long r := by
  intro s hs e
  obtain ⟨i, hi, rfl⟩ := segs_mem_at hs
  have h4 := h.len
  have : twice r = true := by
    rw [twice_iff]
    by_cases h0 : i = 0
    · subst h0
      exact ⟨1, r.length - 1, by omega, by omega, by omega, by rw [← h.eq]; exact e.symm⟩
    · exact ⟨i, i + 1, by omega, by omega, hi, e⟩
  rw [ht] at this; cases this

theorem shape1 {A B C : Prop} [Decidable A] [Decidable B] [Decidable C] {k : Int} {d : Bool} (h : (if A then (if B then ((0 : Int), false) else (k, false)) else if C then (0, false) else (1, d)).2 = true) :
    (if A then (if B then ((0 : Int), false) else (k, false)) else if C then (0, false) else (1, d)).1 = 1 := by
  by_cases hA : A <;> by_cases hB : B <;> by_cases hC : C <;> simp_all
theorem shape2 {A B C : Prop} [Decidable A] [Decidable B] [Decidable C] {k : Int} {d : Bool} (hk : k = 0 ∨ k = 1 ∨ k = 2) :
    (if A then (if B then ((0 : Int), false) else (k, false)) else if C then (0, false) else (1, d)).1 = 0 ∨ (if A then (if B then ((0 : Int), false) else (k, false)) else if C then (0, false) else (1, d)).1 = 1 ∨ (if A then (if B then ((0 : Int), false) else (k, false)) else if C then (0, false) else (1, d)).1 = 2 := by
  by_cases hA : A <;> by_cases hB : B <;> by_cases hC : C <;> simp_all
theorem common_cross {a b c d : Pnt} (h : (common a b c d).2 = true) : (common a b c d).1 = 1 := shape1 h
theorem count_range (k p q : Int) : count k p q = 0 ∨ count k p q = 1 ∨ count k p q = 2 := by
  unfold count
  split
  · simp
  · split <;> simp
theorem common_range (a b c d : Pnt) : (common a b c d).1 = 0 ∨ (common a b c d).1 = 1 ∨ (common a b c d).1 = 2 := shape2 (count_range _ _ _)
theorem meet_shared {a b c d : Pnt} (h : cr a b c 1 = 0 ∨ cr a b d 1 = 0) : meet a b c d ≠ 2 := by
  have hl : ∀ s t, onLine s t ≠ 2 := by
    intro s t
    unfold onLine
    simp only
    split
    · omega
    · split <;> omega
  unfold meet
  simp only
  split
  · exact hl _ _
  · split
    · omega
    · have : sg (cr a b c 1) * sg (cr a b d 1) * sg (cr c d a 1) * sg (cr c d b 1) = 0 := by
        rcases h with h | h
        · rw [h]; simp [sg]
        · rw [h]; simp [sg]
      rw [if_pos this]; omega
theorem cross_eq {s t : Seg} (hs : s.1 ≠ s.2) (ht : t.1 ≠ t.2) : crossS s t = crossD s t := by
  unfold crossS crossD meetS
  rw [meet_common hs ht]
  have hr := common_range s.1 s.2 t.1 t.2
  have hc := common_cross (a := s.1) (b := s.2) (c := t.1) (d := t.2)
  unfold how
  cases h2 : (common s.1 s.2 t.1 t.2).2 with
  | true => rw [hc h2]; simp
  | false =>
    rcases hr with e | e | e <;> rw [e] <;> simp
theorem bad_eq {a b c d : Pnt} (hab : a ≠ b) (hcd : c ≠ d) {next : Bool} (hn : next = true → cr a b c 1 = 0 ∨ cr a b d 1 = 0) :
    badK next (common a b c d).1 = decide (meet a b c d ≠ if next then 1 else 0) := by
  have hm := meet_common hab hcd
  have hr := common_range a b c d
  have hc := common_cross (a := a) (b := b) (c := c) (d := d)
  have hs := meet_shared (a := a) (b := b) (c := c) (d := d)
  unfold badK
  cases h2 : (common a b c d).2 with
  | true =>
    have e := hc h2
    have hm2 : meet a b c d = 2 := by rw [hm]; unfold how; rw [h2, e]; simp
    cases next with
    | true => exact absurd hm2 (hs (hn rfl))
    | false => rw [hm2, e]; simp
  | false =>
    rcases hr with e | e | e
    · have hm2 : meet a b c d = 0 := by rw [hm]; unfold how; rw [h2, e]; simp
      cases next <;> simp [hm2, e]
    · have hm2 : meet a b c d = 1 := by rw [hm]; unfold how; rw [h2, e]; simp
      cases next <;> simp [hm2, e]
    · have hm2 : meet a b c d = 3 := by rw [hm]; unfold how; rw [h2, e]; simp
      cases next <;> simp [hm2, e]
theorem self_eq {r : Ring} (h : Shut r) (hl : Long r) : selfR r = selfD r := by
  have h4 := h.len
  have key : ∀ i j, j < i → i < r.length - 1 → badK (nextD2 (r.length - 1) i j) (common (ptAt r i) (ptAt r (i + 1)) (ptAt r j) (ptAt r (j + 1))).1 = decide (meetS (sAt (segs r) j) (sAt (segs r) i) ≠ wantI (segs r).length j i) := by
    intro i j hji hi
    have e1 := sAt_get (r := r) (i := i) (by omega)
    have e2 := sAt_get (r := r) (i := j) (by omega)
    have l1 : ptAt r i ≠ ptAt r (i + 1) := hl (ptAt r i, ptAt r (i + 1)) (List.mem_of_getElem? (segs_at (ptAt_get (by omega)) (ptAt_get (by omega))))
    have l2 : ptAt r j ≠ ptAt r (j + 1) := hl (ptAt r j, ptAt r (j + 1)) (List.mem_of_getElem? (segs_at (ptAt_get (by omega)) (ptAt_get (by omega))))
    rw [e1, e2, meetS_symm]
    unfold meetS
    simp only
    rw [bad_eq l1 l2 ?_]
    · have ew : (if nextD2 (r.length - 1) i j = true then (1 : Int) else 0) = wantI (segs r).length j i := by
        unfold nextD2 wantI
        rw [segs_len]
        by_cases c : j + 1 = i ∨ (j = 0 ∧ i + 1 = r.length - 1)
        · rw [if_pos c, if_pos]; simpa using c
        · rw [if_neg c, if_neg]; simpa using c
      rw [ew]
    · intro hn
      unfold nextD2 at hn
      simp only [Bool.or_eq_true, Bool.and_eq_true, decide_eq_true_eq] at hn
      rcases hn with e | ⟨e, e'⟩
      · right; rw [e]; exact cr_a _ _
      · left; subst e; rw [h.eq, show r.length - 1 = i + 1 by omega]; exact cr_b _ _
  apply bool_iff
  unfold selfR selfD
  rw [anyI_iff, anyI_iff, segs_len]
  constructor
  · rintro ⟨j, hj, k⟩
    rw [anyI_iff] at k
    obtain ⟨i, hi, k⟩ := k
    refine ⟨j, hj, ?_⟩
    rw [anyI_iff]
    refine ⟨i, hi, ?_⟩
    rw [key j i hi hj, segs_len]
    exact k
  · rintro ⟨j, hj, k⟩
    rw [anyI_iff] at k
    obtain ⟨i, hi, k⟩ := k
    refine ⟨j, hj, ?_⟩
    rw [anyI_iff]
    refine ⟨i, hi, ?_⟩
    rw [key j i hi hj, segs_len] at k
    exact k
theorem clean_eq {r : Ring} (h : Shut r) : (twice r || selfR r) = (twiceD r || selfD r) := by
  rw [twice_eq h]
  cases ht : twiceD r with
  | true => rfl
  | false => rw [self_eq h (long_of h (by rw [twice_eq h]; exact ht))]
end Vd
end Go.Proofs.YtcclepohmhdpbaaGreatDoor

/- VALIDITY, PLAINLY: clause by clause, the program's and the document's. -/
namespace Go.Proofs.YtcclepohmhdpbaaGreatDoor
set_option linter.all false
namespace Vd
def d1 (m : Mult) : Bool := m.any fun l => l.any fun r => !(cleanD r)
def d2 (m : Mult) : Bool := m.any fun l => anyI l.length fun i => anyI l.length fun j => decide (j ≠ i) && !(pointsD (rAt l i) (rAt l j))
def nestD (j : Nat) : Int := if j = 0 then 1 else -1
def d3 (m : Mult) : Bool := m.any fun l => anyI l.length fun i => decide (1 ≤ i) && anyI l.length fun j => decide (j ≠ i) && !(allD (rAt l i) [rAt l j] (nestD j))
def d5 (m : Mult) : Bool := anyI m.length fun p => (pAt m p).any fun r => anyI m.length fun k => decide (k ≠ p) && ((pAt m k).any (fun s => !(pointsD r s)) || !(allD r (pAt m k) (-1)))
def docCore (l : Poly) : Prop := ∃ F : Inc, (∀ r q, F r q → r < l.length ∧ inRing (rAt l r) (at1 q) = 0 ∧ q ∈ l.flatten) ∧ Core F ∧ ∃ r q, F r q

/-- What Make lets pass. -/
structure Good (m : Mult) : Prop where
  ne : ∀ l ∈ m, l ≠ []
  shut : ∀ l ∈ m, ∀ r ∈ l, Shut r
theorem good_of {m : Mult} (h : Pl.wrong m = 0) : Good m := by
  have hb : m.any Pl.badL = false := by
    unfold Pl.wrong at h
    split at h
    · omega
    · split at h
      · omega
      · rename_i k; simpa using k
  have one : ∀ l ∈ m, Pl.badL l = false := by
    intro l hl
    cases hx : Pl.badL l with
    | false => rfl
    | true => rw [List.any_eq_true.2 ⟨l, hl, hx⟩] at hb; cases hb
  refine ⟨fun l hl e => ?_, fun l hl r hr => ?_⟩
  · have := one l hl
    unfold Pl.badL at this
    rw [e] at this
    simp at this
  · have := one l hl
    unfold Pl.badL at this
    simp only [Bool.or_eq_false_iff] at this
    have hr2 : Pl.badR r = false := by
      cases hx : Pl.badR r with
      | false => rfl
      | true =>
        have e : Pl.badRs l = true := List.any_eq_true.2 ⟨r, hr, hx⟩
        rw [e] at this; cases this.2
    unfold Pl.badR at hr2
    simp only [Bool.or_eq_false_iff, decide_eq_false_iff_not, Bool.not_eq_false', decide_eq_true_eq] at hr2
    have h4 : 4 ≤ r.length := by omega
    refine ⟨h4, ?_⟩
    have e := hr2.2
    rw [List.head?_eq_getElem?, List.getLast?_eq_getElem?, ptAt_get (by omega), ptAt_get (by omega)] at e
    exact Option.some.inj e
theorem rAt_mem {l : Poly} {i : Nat} (h : i < l.length) : rAt l i ∈ l := by
  unfold rAt; rw [List.getD_eq_getElem?_getD, List.getElem?_eq_getElem h]; simp
theorem pAt_mem {m : Mult} {i : Nat} (h : i < m.length) : pAt m i ∈ m := by
  unfold pAt; rw [List.getD_eq_getElem?_getD, List.getElem?_eq_getElem h]; simp
theorem any_congr {α : Type} {l : List α} {f g : α → Bool} (h : ∀ x ∈ l, f x = g x) : l.any f = l.any g := by
  induction l with
  | nil => rfl
  | cons a t ih => rw [List.any_cons, List.any_cons, h a (by simp), ih fun x hx => h x (by simp [hx])]
theorem anyI_congr {n : Nat} {f g : Nat → Bool} (h : ∀ i, i < n → f i = g i) : anyI n f = anyI n g := any_congr fun x hx => h x (List.mem_range.1 hx)

theorem c1_eq {m : Mult} (h : Good m) : badC 1 m = d1 m := by
  unfold badC d1
  refine any_congr fun l hl => ?_
  unfold holdsC simple
  simp only [if_true, Bool.not_not]
  refine any_congr fun r hr => ?_
  rw [clean_eq (h.shut l hl r hr)]
  unfold cleanD
  simp
/-- The first clause holds: no segment without length. -/
theorem long_all {m : Mult} (h : Good m) (h1 : badC 1 m = false) : ∀ l ∈ m, ∀ r ∈ l, Long r := by
  intro l hl r hr
  have : (twice r || selfR r) = false := by
    cases hx : (twice r || selfR r) with
    | false => rfl
    | true =>
      have : badC 1 m = true := by
        unfold badC
        refine List.any_eq_true.2 ⟨l, hl, ?_⟩
        unfold holdsC simple
        simp only [if_true, Bool.not_not]
        exact List.any_eq_true.2 ⟨r, hr, hx⟩
      rw [h1] at this; cases this
  rw [Bool.or_eq_false_iff] at this
  exact long_of (h.shut l hl r hr) this.1
theorem points_eq {a b : Ring} (ha : Long a) (hb : Long b) : pointsD a b = !(cross a b) := by
  unfold pointsD cross
  congr 1
  refine any_congr fun s hs => any_congr fun t ht => ?_
  rw [cross_eq (ha s hs) (hb t ht)]
theorem cross_symm (a b : Ring) : cross a b = cross b a := by
  apply bool_iff
  unfold cross
  simp only [List.any_eq_true]
  constructor
  · rintro ⟨s, hs, t, ht, h⟩; exact ⟨t, ht, s, hs, by rw [crossS_symm]; exact h⟩
  · rintro ⟨s, hs, t, ht, h⟩; exact ⟨t, ht, s, hs, by rw [crossS_symm]; exact h⟩
/-- Pairs, either way round. -/
theorem pairs_eq {n : Nat} {f : Nat → Nat → Bool} (hs : ∀ i j, f i j = f j i) : (anyI n fun j => anyI j fun i => f i j) = anyI n fun i => anyI n fun j => decide (j ≠ i) && f i j := by
  apply bool_iff
  simp only [anyI_iff, Bool.and_eq_true, decide_eq_true_eq]
  constructor
  · rintro ⟨j, hj, i, hi, h⟩; exact ⟨i, by omega, j, hj, by omega, h⟩
  · rintro ⟨i, hi, j, hj, hne, h⟩
    rcases Nat.lt_or_ge i j with k | k
    · exact ⟨j, hj, i, k, h⟩
    · exact ⟨i, hi, j, by omega, by rw [hs]; exact h⟩
theorem c2_eq {m : Mult} (hl : ∀ l ∈ m, ∀ r ∈ l, Long r) : badC 2 m = d2 m := by
  unfold badC d2
  refine any_congr fun l h => ?_
  unfold holdsC touch
  simp only [Bool.not_not, if_true]
  rw [if_neg (by decide), Bool.not_not, pairs_eq (f := fun i j => cross (rAt l i) (rAt l j)) (fun i j => cross_symm _ _)]
  refine anyI_congr fun i hi => anyI_congr fun j hj => ?_
  rw [points_eq (hl l h _ (rAt_mem hi)) (hl l h _ (rAt_mem hj)), Bool.not_not]
theorem mid_w {s : Seg} {q : Poly} {m : Spot} (hs : s.1 ≠ s.2) (h : m ∈ mids s q) : m.2 = 2 := by
  obtain ⟨y, z, -, rfl⟩ := (mem_mids hs q m).1 h
  rfl
theorem lies_eq {r o : Ring} (hr : Long r) (ho : Long o) {k k' : Int} (hk : (k = 1 ∧ k' = 2) ∨ (k = -1 ∧ k' = 0)) : lies r o k' = allD r [o] k := by
  unfold lies allD
  congr 1
  refine any_congr fun s hs => ?_
  apply bool_iff
  simp only [List.any_eq_true, decide_eq_true_eq]
  have hsl := hr s hs
  have one : ∀ m : Spot, m ∈ mids s [o] → (place o m ≠ k' ↔ inP [o] m ≠ k) := by
    intro m hm
    have hw := mid_w hsl hm
    obtain ⟨e1, e2⟩ := place_eq (p := m) ho (by omega)
    show place o m ≠ k' ↔ inRing o m ≠ k
    rw [e1]
    unfold pl
    rcases e2 with e | e | e <;> rw [e] <;> rcases hk with ⟨rfl, rfl⟩ | ⟨rfl, rfl⟩ <;> simp
  constructor
  · rintro ⟨m, hm, h⟩; exact ⟨m, (mids_midD hsl _ m).1 hm, (one m hm).1 h⟩
  · rintro ⟨m, hm, h⟩
    have hm' := (mids_midD hsl _ m).2 hm
    exact ⟨m, hm', (one m hm').2 h⟩
theorem c3_eq {m : Mult} (hl : ∀ l ∈ m, ∀ r ∈ l, Long r) : badC 3 m = d3 m := by
  unfold badC d3
  refine any_congr fun l h => ?_
  unfold holdsC nested
  rw [if_neg (by decide), if_neg (by decide), if_pos rfl, Bool.not_not]
  refine anyI_congr fun i hi => ?_
  congr 1
  refine anyI_congr fun j hj => ?_
  rw [lies_eq (hl l h _ (rAt_mem hi)) (hl l h _ (rAt_mem hj)) (k := nestD j) (k' := nestW j) (by unfold nestD nestW; split <;> simp)]
  congr 1
  exact decide_eq_decide.2 ⟨fun e => Ne.symm e, fun e => Ne.symm e⟩
theorem core_eq {l : Poly} (hl : ∀ r ∈ l, Long r) : way l = true ↔ docCore l := by
  rw [way_core]
  have e : ∀ r p, r < l.length → (incL l r p ↔ inRing (rAt l r) (at1 p) = 0) := by
    intro r p hr
    obtain ⟨e1, e2⟩ := place_eq (r := rAt l r) (p := at1 p) (hl _ (rAt_mem hr)) (by show (0 : Int) < 1; omega)
    unfold incL
    rw [e1]
    unfold pl
    rcases e2 with e | e | e <;> rw [e] <;> simp
  constructor
  · rintro ⟨F, h1, h2⟩; exact ⟨F, fun r q t => ⟨(h1 r q t).1, (e r q (h1 r q t).1).1 (h1 r q t).2.1, (h1 r q t).2.2⟩, h2⟩
  · rintro ⟨F, h1, h2⟩; exact ⟨F, fun r q t => ⟨(h1 r q t).1, (e r q (h1 r q t).1).2 (h1 r q t).2.1, (h1 r q t).2.2⟩, h2⟩
theorem enters_eq {a b : Poly} (hb0 : b ≠ []) (ha : ∀ r ∈ a, Long r) (hb : ∀ r ∈ b, Long r) (hx : boundsX a b = false) : enters a b = a.any fun r => !(allD r b (-1)) := by
  unfold enters
  refine any_congr fun r hr => ?_
  unfold allD
  rw [Bool.not_not]
  refine any_congr fun s hs => ?_
  have hsl := ha r hr s hs
  have off : ∀ m ∈ mids s b, ∀ o ∈ b, place o m ≠ 1 := by
    intro m hm o ho
    refine mid_off hsl ho (hb o ho) hm fun t ht => ?_
    cases hc : crossS (s.1, s.2) t with
    | false => rfl
    | true =>
      have : boundsX a b = true := by
        unfold boundsX
        refine List.any_eq_true.2 ⟨r, hr, List.any_eq_true.2 ⟨o, ho, ?_⟩⟩
        unfold cross
        exact List.any_eq_true.2 ⟨s, hs, List.any_eq_true.2 ⟨t, ht, hc⟩⟩
      rw [hx] at this; cases this
  have one : ∀ m ∈ mids s b, (free b m = false ↔ inP b m ≠ -1) := by
    intro m hm
    have hw := mid_w hsl hm
    have := free_in (l := b) (p := m) (by omega) hb0 fun r hr => ⟨hb r hr, off m hm r hr⟩
    constructor
    · intro e e2; rw [this.2 e2] at e; cases e
    · intro e
      cases hf : free b m with
      | false => rfl
      | true => exact absurd (this.1 hf) e
  apply bool_iff
  simp only [List.any_eq_true, Bool.not_eq_true', decide_eq_true_eq]
  constructor
  · rintro ⟨m, hm, h⟩; exact ⟨m, (mids_midD hsl _ m).1 hm, (one m hm).1 h⟩
  · rintro ⟨m, hm, h⟩
    have hm' := (mids_midD hsl _ m).2 hm
    exact ⟨m, hm', (one m hm').2 h⟩
/-- Two polygons, the one against the other. -/
def half (a b : Poly) : Bool := a.any fun r => b.any (fun s => !(pointsD r s)) || !(allD r b (-1))
theorem half_eq {a b : Poly} (ha0 : a ≠ []) (hb0 : b ≠ []) (ha : ∀ r ∈ a, Long r) (hb : ∀ r ∈ b, Long r) : (boundsX a b || enters a b || enters b a) = (half a b || half b a) := by
  have hs : boundsX a b = boundsX b a := by
    apply bool_iff
    unfold boundsX
    simp only [List.any_eq_true]
    constructor
    · rintro ⟨r, hr, o, ho, h⟩; exact ⟨o, ho, r, hr, by rw [cross_symm]; exact h⟩
    · rintro ⟨r, hr, o, ho, h⟩; exact ⟨o, ho, r, hr, by rw [cross_symm]; exact h⟩
  have pt : ∀ {a b : Poly}, (∀ r ∈ a, Long r) → (∀ r ∈ b, Long r) → half a b = (boundsX a b || a.any fun r => !(allD r b (-1))) := by
    intro a b ha hb
    apply bool_iff
    unfold half boundsX
    simp only [List.any_eq_true, Bool.or_eq_true]
    constructor
    · rintro ⟨r, hr, ⟨s, hs, h⟩ | h⟩
      · rw [points_eq (ha r hr) (hb s hs), Bool.not_not] at h
        exact .inl ⟨r, hr, s, hs, h⟩
      · exact .inr ⟨r, hr, h⟩
    · rintro (⟨r, hr, s, hs, h⟩ | ⟨r, hr, h⟩)
      · exact ⟨r, hr, .inl ⟨s, hs, by rw [points_eq (ha r hr) (hb s hs), Bool.not_not]; exact h⟩⟩
      · exact ⟨r, hr, .inr h⟩
  rw [pt ha hb, pt hb ha, ← hs]
  cases hx : boundsX a b with
  | true => rfl
  | false =>
    rw [enters_eq hb0 ha hb hx, enters_eq ha0 hb ha (hs ▸ hx)]
    simp
theorem c5_eq {m : Mult} (hg : Good m) (hl : ∀ l ∈ m, ∀ r ∈ l, Long r) : overlap m = d5 m := by
  have e1 : overlap m = anyI m.length fun j => anyI j fun i => (half (pAt m i) (pAt m j) || half (pAt m j) (pAt m i)) := by
    unfold overlap
    refine anyI_congr fun j hj => anyI_congr fun i hi => ?_
    exact half_eq (hg.ne _ (pAt_mem (by omega))) (hg.ne _ (pAt_mem hj)) (hl _ (pAt_mem (by omega))) (hl _ (pAt_mem hj))
  rw [e1]
  apply bool_iff
  unfold d5 half
  simp only [anyI_iff, List.any_eq_true, Bool.and_eq_true, decide_eq_true_eq, Bool.or_eq_true]
  constructor
  · rintro ⟨j, hj, i, hi, ⟨r, hr, h⟩ | ⟨r, hr, h⟩⟩
    · exact ⟨i, by omega, r, hr, j, hj, by omega, h⟩
    · exact ⟨j, hj, r, hr, i, by omega, by omega, h⟩
  · rintro ⟨p, hp, r, hr, k, hk, hne, h⟩
    rcases Nat.lt_or_ge p k with g | g
    · exact ⟨k, hk, p, g, .inl ⟨r, hr, h⟩⟩
    · exact ⟨p, hp, k, by omega, .inr ⟨r, hr, h⟩⟩
end Vd
end Go.Proofs.YtcclepohmhdpbaaGreatDoor

/- THE DOCUMENT's WALKS: ways, products, on. -/
namespace Go.Proofs.YtcclepohmhdpbaaGreatDoor
set_option linter.all false
open Go.RowKit Go.Deep

def Bdd (A : Int) (u : Pnt) : Prop := (-A ≤ u.1 ∧ u.1 ≤ A) ∧ -A ≤ u.2 ∧ u.2 ≤ A
def subP (a b : Pnt) : Pnt := (b.1 - a.1, b.2 - a.2)
def timesP (u v : Pnt) : Int := u.1 * v.2 - u.2 * v.1
def dotP (u v : Pnt) : Int := u.1 * v.1 + u.2 * v.2
theorem cd_bdd {p : Pnt} (h : Vd.Cd p) : Bdd 32768 p := by unfold Vd.Cd at h; unfold Bdd; omega
theorem sub_bdd {p q : Pnt} (h : Vd.Cd p) (k : Vd.Cd q) : Bdd 65536 (subP p q) := by unfold Vd.Cd at h k; unfold Bdd subP; simp only; omega
theorem bdd_mono {A B : Int} {u : Pnt} (h : Bdd A u) (k : A ≤ B) : Bdd B u := by unfold Bdd at *; omega

set_option maxHeartbeats 1000000 in
theorem way2_any (a b : Pnt) (ha : Bdd 4611686018427387903 a) (hb : Bdd 4611686018427387903 b) (w : World) :
    Calls Tryz.prog 133 #[ptV a, ptV b] w fun e w' => e = .returned (ptV (subP a b)) ∧ Up w w' := by
  obtain ⟨ax, ay⟩ := a
  obtain ⟨bx, bY⟩ := b
  simp only [Bdd] at ha hb
  simp only [ptV, subP]
  go_enter Tryz.func133, Tryz.ntmps133
  go_wp2
  refine bodyPost_ret (v := .agg #[.int .i64 (bx - ax), .int .i64 (bY - ay)]) (by simp [results, Tryz.results133, go_sem]) rfl ⟨rfl, ?_⟩
  repeat (refine Up.setCell ?_ (by simp) _)
  exact ((Up.refl _).alloc _).alloc _ |>.alloc _

set_option maxHeartbeats 1000000 in
theorem times_any (u v : Pnt) {A B : Int} (hu : Bdd A u) (hv : Bdd B v) (hA : 0 ≤ A) (hB : 0 ≤ B) (hAB : A * B ≤ 2305843009213693951) (w : World) :
    Calls Tryz.prog 134 #[ptV u, ptV v] w fun e w' => e = .returned (.int .i64 (timesP u v)) ∧ Up w w' := by
  obtain ⟨ux, uy⟩ := u
  obtain ⟨vx, vy⟩ := v
  simp only [Bdd] at hu hv
  have m1 := mul_bd (a := ux) (b := vy) (A := A) (B := B) (by omega) (by omega) (by omega) (by omega)
  have m2 := mul_bd (a := uy) (b := vx) (A := A) (B := B) (by omega) (by omega) (by omega) (by omega)
  simp only [ptV, timesP]
  generalize A * B = AB at *
  have k1 : wrap64 (ux * vy) = ux * vy := w64 (by omega) (by omega)
  have k2 : wrap64 (uy * vx) = uy * vx := w64 (by omega) (by omega)
  go_enter Tryz.func134, Tryz.ntmps134
  go_wp2
  go_ret
  exact ⟨rfl, ((Up.refl _).alloc _).alloc _⟩

set_option maxHeartbeats 1000000 in
theorem dot_any (u v : Pnt) {A B : Int} (hu : Bdd A u) (hv : Bdd B v) (hA : 0 ≤ A) (hB : 0 ≤ B) (hAB : A * B ≤ 2305843009213693951) (w : World) :
    Calls Tryz.prog 204 #[ptV u, ptV v] w fun e w' => e = .returned (.int .i64 (dotP u v)) ∧ Up w w' := by
  obtain ⟨ux, uy⟩ := u
  obtain ⟨vx, vy⟩ := v
  simp only [Bdd] at hu hv
  have m1 := mul_bd (a := ux) (b := vx) (A := A) (B := B) (by omega) (by omega) (by omega) (by omega)
  have m2 := mul_bd (a := uy) (b := vy) (A := A) (B := B) (by omega) (by omega) (by omega) (by omega)
  simp only [ptV, dotP]
  generalize A * B = AB at *
  have k1 : wrap64 (ux * vx) = ux * vx := w64 (by omega) (by omega)
  have k2 : wrap64 (uy * vy) = uy * vy := w64 (by omega) (by omega)
  go_enter Tryz.func204, Tryz.ntmps204
  go_wp2
  go_ret
  exact ⟨rfl, ((Up.refl _).alloc _).alloc _⟩

/-! ### on -/
def onB (a b : Pnt) (p : Vd.Spot) : Bool := decide (Vd.on a b p.1 p.2)
theorem on_of (a b : Pnt) (p : Vd.Spot) : onB a b p = (decide (timesP (subP a b) (p.1.1 - a.1 * p.2, p.1.2 - a.2 * p.2) = 0) && (decide (0 ≤ dotP (p.1.1 - a.1 * p.2, p.1.2 - a.2 * p.2) (subP a b)) && decide (dotP (p.1.1 - a.1 * p.2, p.1.2 - a.2 * p.2) (subP a b) ≤ dotP (subP a b) (subP a b) * p.2))) := by
  unfold onB
  apply Bool.eq_iff_iff.2
  simp only [Bool.and_eq_true, decide_eq_true_eq]
  exact Iff.rfl

set_option maxHeartbeats 4000000 in
theorem on_any (a b : Pnt) (p : Vd.Spot) (ha : Vd.Cd a) (hb : Vd.Cd b) (hp : Vd.Sp p) (w : World) :
    Calls Tryz.prog 203 #[ptV a, ptV b, ptV p.1, .int .i64 p.2] w fun e w' => e = .returned (.bool (onB a b p)) ∧ Up w w' := by
  have HB := hide (on_of a b p)
  have hu := hide (sub_bdd ha hb)
  have HA := hide (bdd_mono (cd_bdd ha) (B := 4611686018427387903) (by omega))
  have HB2 := hide (bdd_mono (cd_bdd hb) (B := 4611686018427387903) (by omega))
  have hvb : Hid (Bdd 34360786944 (p.1.1 - a.1 * p.2, p.1.2 - a.2 * p.2)) := by
    obtain ⟨h1, h2, h3, h4⟩ := ha
    obtain ⟨x1, x2, y1, y2, t1, t2⟩ := hp
    have m1 := mul_bd (a := a.1) (b := p.2) (A := 32768) (B := 1048576) (by omega) (by omega) (by omega) (by omega)
    have m2 := mul_bd (a := a.2) (b := p.2) (A := 32768) (B := 1048576) (by omega) (by omega) (by omega) (by omega)
    show (_ ∧ _) ∧ _ ∧ _
    simp only
    omega
  have hkb : Hid (0 ≤ dotP (subP a b) (subP a b) ∧ dotP (subP a b) (subP a b) ≤ 8589934592) := by
    have := sub_bdd ha hb
    unfold dotP
    unfold Bdd at this
    obtain ⟨⟨h1, h2⟩, h3, h4⟩ := this
    have m1 := mul_bd (a := (subP a b).1) (b := (subP a b).1) (A := 65536) (B := 65536) h1 h2 h1 h2
    have m2 := mul_bd (a := (subP a b).2) (b := (subP a b).2) (A := 65536) (B := 65536) h3 h4 h3 h4
    have q1 := Vd.sq_nn (subP a b).1
    have q2 := Vd.sq_nn (subP a b).2
    show _ ∧ _
    omega
  obtain ⟨ax, ay⟩ := a
  obtain ⟨bx, bY⟩ := b
  obtain ⟨⟨x, y⟩, t⟩ := p
  simp only [Vd.Cd, Vd.Sp] at ha hb hp
  obtain ⟨a1, a2, a3, a4⟩ := ha
  obtain ⟨x1, x2, y1, y2, t1, t2⟩ := hp
  have m1 := mul_bd (a := ax) (b := t) (A := 32768) (B := 1048576) (by omega) (by omega) (by omega) (by omega)
  have m2 := mul_bd (a := ay) (b := t) (A := 32768) (B := 1048576) (by omega) (by omega) (by omega) (by omega)
  clear hb
  simp only at HB hvb
  simp only [ptV]
  have RA := hide (((new_row (w := w) (o := .cells #[.int .i64 ax, .int .i64 ay] 32) (vs := [.int .i64 ax, .int .i64 ay]) rfl).alloc (.cells #[.int .i64 bx, .int .i64 bY] 32)).alloc (.cells #[.int .i64 x, .int .i64 y] 32))
  have RP : Hid (VRow (((w.alloc (.cells #[.int .i64 ax, .int .i64 ay] 32)).alloc (.cells #[.int .i64 bx, .int .i64 bY] 32)).alloc (.cells #[.int .i64 x, .int .i64 y] 32)) (w.heap.size + 2) 32 [.int .i64 x, .int .i64 y]) := by
    have := new_row (w := (w.alloc (.cells #[.int .i64 ax, .int .i64 ay] 32)).alloc (.cells #[.int .i64 bx, .int .i64 bY] 32)) (o := .cells #[.int .i64 x, .int .i64 y] 32) (vs := [.int .i64 x, .int .i64 y]) rfl
    show VRow _ _ _ _
    simpa using this
  go_enter Tryz.func203, Tryz.ntmps203
  go_wp2_with fail
  refine (way2_any (ax, ay) (bx, bY) HA.out HB2.out _).mono ?_
  rintro e w1 ⟨rfl, hz1⟩
  have HU1 : Hid (Up w w1) := (((Up.refl _).alloc _).alloc _ |>.alloc _).trans hz1
  replace RA := hide (RA.out.up hz1)
  replace RP := hide (RP.out.up hz1)
  generalize hU : subP (ax, ay) (bx, bY) = U at *
  clear hU hz1
  obtain ⟨ux, uy⟩ := U
  simp only [ptV]
  have q0 := fun o => (RA.out.alloc o).cell (i := 0) rfl
  have q1 := fun o => (RA.out.alloc o).cell (i := 1) rfl
  have q2 := fun o => (RP.out.alloc o).cell (i := 0) rfl
  have q3 := fun o => (RP.out.alloc o).cell (i := 1) rfl
  have RU := hide ((new_row (w := w1) (o := .cells #[.int .i64 ux, .int .i64 uy] 155) (vs := [.int .i64 ux, .int .i64 uy]) rfl).alloc (.cells #[.int .i64 (x - ax * t), .int .i64 (y - ay * t)] 155))
  have RV : Hid (VRow ((w1.alloc (.cells #[.int .i64 ux, .int .i64 uy] 155)).alloc (.cells #[.int .i64 (x - ax * t), .int .i64 (y - ay * t)] 155)) (w1.heap.size + 1) 155 [.int .i64 (x - ax * t), .int .i64 (y - ay * t)]) := by
    have := new_row (w := w1.alloc (.cells #[.int .i64 ux, .int .i64 uy] 155)) (o := .cells #[.int .i64 (x - ax * t), .int .i64 (y - ay * t)] 155) (vs := [.int .i64 (x - ax * t), .int .i64 (y - ay * t)]) rfl
    show VRow _ _ _ _
    simpa using this
  go_wp2_with fail
  refine (dot_any (x - ax * t, y - ay * t) (ux, uy) hvb.out hu.out (by omega) (by omega) (by omega) _).mono ?_
  rintro e w2 ⟨rfl, hz2⟩
  replace HU1 := hide (((HU1.out.alloc _).alloc _).trans hz2)
  replace RU := hide (RU.out.up hz2)
  replace RV := hide (RV.out.up hz2)
  clear hz2 q0 q1 q2 q3
  have u0 := RU.out.cell (i := 0) rfl
  have u1 := RU.out.cell (i := 1) rfl
  go_wp2_with fail
  refine (dot_any (ux, uy) (ux, uy) hu.out hu.out (by omega) (by omega) (by omega) _).mono ?_
  rintro e w3 ⟨rfl, hz3⟩
  replace HU1 := hide (HU1.out.trans hz3)
  replace RU := hide (RU.out.up hz3)
  replace RV := hide (RV.out.up hz3)
  clear hz3 u0 u1
  have u0 := RU.out.cell (i := 0) rfl
  have u1 := RU.out.cell (i := 1) rfl
  have v0 := RV.out.cell (i := 0) rfl
  have v1 := RV.out.cell (i := 1) rfl
  go_wp2_with fail
  refine (times_any (ux, uy) (x - ax * t, y - ay * t) hu.out hvb.out (by omega) (by omega) (by omega) _).mono ?_
  rintro e w4 ⟨rfl, hz4⟩
  replace HU1 := hide (HU1.out.trans hz4)
  clear hz4 u0 u1 v0 v1
  have hk := hkb.out
  generalize timesP (ux, uy) (x - ax * t, y - ay * t) = T at *
  generalize dotP (x - ax * t, y - ay * t) (ux, uy) = D at *
  generalize dotP (ux, uy) (ux, uy) = K at *
  have m3 := mul_bd (a := K) (b := t) (A := 8589934592) (B := 1048576) (by omega) (by omega) (by omega) (by omega)
  have k3 : wrap64 (K * t) = K * t := w64 (by omega) (by omega)
  by_cases h1 : T = 0
  · subst h1
    by_cases h2 : 0 ≤ D
    · by_cases h3 : D ≤ K * t
      all_goals
        have HR : Hid (onB (ax, ay) (bx, bY) ((x, y), t) = decide (D ≤ K * t)) := by rw [HB.out]; simp [h2, Hid]
        go_wp2
        go_ret
        exact ⟨ret_b (by rw [HR.out]; first | done | simp [h3]), HU1.out⟩
    · have HR : Hid (onB (ax, ay) (bx, bY) ((x, y), t) = false) := by rw [HB.out]; simp [h2, Hid]
      go_wp2
      go_ret
      exact ⟨ret_b HR.out.symm, HU1.out⟩
  · have h1' := beq_eq_false_iff_ne.2 h1
    have HR : Hid (onB (ax, ay) (bx, bY) ((x, y), t) = false) := by rw [HB.out]; simp [h1, Hid]
    go_wp2
    go_ret
    exact ⟨ret_b HR.out.symm, HU1.out⟩
end Go.Proofs.YtcclepohmhdpbaaGreatDoor

/- THE DOCUMENT's WALKS: inRing. -/
namespace Go.Proofs.YtcclepohmhdpbaaGreatDoor
set_option linter.all false
open Go.RowKit Go.Deep

theorem inRingL_on {s : Vd.Seg} {l : List Vd.Seg} {i : Bool} {p : Vd.Spot} (h : onB s.1 s.2 p = true) : Vd.inRingL (s :: l) i p = 0 := by unfold Vd.inRingL; rw [if_pos (of_decide_eq_true h)]
theorem inRingL_go {s : Vd.Seg} {l : List Vd.Seg} {i : Bool} {p : Vd.Spot} (h : onB s.1 s.2 p = false) : Vd.inRingL (s :: l) i p = Vd.inRingL l (if Vd.rayD s.1 s.2 p.1 p.2 = true then !i else i) p := by conv => lhs; unfold Vd.inRingL; rw [if_neg (of_decide_eq_false h)]
theorem on_is {a b : Pnt} {p : Vd.Spot} {c : Bool} (h : onB a b p = c) (ha : Vd.Cd a) (hb : Vd.Cd b) (hp : Vd.Sp p) (w : World) : Calls Tryz.prog 203 #[ptV a, ptV b, ptV p.1, .int .i64 p.2] w fun e w' => e = .returned (.bool c) ∧ Up w w' := by
  have := on_any a b p ha hb hp w; rwa [h] at this
theorem two_set {w : World} {g : Nat} {p : Addr} {v x y : Value} (h : w.cell? p = some v) (hg : p.block ≠ g) : ((w.setCell ⟨g, 0, none⟩ x).setCell ⟨g, 1, none⟩ y).cell? p = some v := by
  rw [World.cell?_of_block (Below.heap_setCell _ _ _ _ hg), World.cell?_of_block (Below.heap_setCell _ _ _ _ hg)]; exact h
theorem rayD_at {a b p : Pnt} {w : Int} {lo hi : Pnt} (hlo : lo = if a.2 > b.2 then b else a) (hhi : hi = if a.2 > b.2 then a else b) : Vd.rayD a b p w = (decide (lo.2 * w ≤ p.2 ∧ p.2 < hi.2 * w) && decide (Vd.cr lo hi p w > 0)) := by subst hlo hhi; rfl

set_option maxRecDepth 8000 in
set_option maxHeartbeats 8000000 in
theorem inRing_any (v : Value) (r : Ring) (p : Vd.Spot) (w : World) (hv : Rd1 w v r) (hr : r.length ≤ 1048576) (hc : Vd.CdR r) (hp : Vd.Sp p) :
    Calls Tryz.prog 164 #[v, ptV p.1, .int .i64 p.2] w fun e w' => e = .returned (.int .i64 (Vd.inRing r p)) ∧ Up w w' := by
  obtain ⟨ao, cap, rfl, hm⟩ := hv
  have HM := hide hm
  have HC := hide hc
  have HP := hide hp
  obtain ⟨⟨x, y⟩, t⟩ := p
  simp only [Vd.Sp] at hp
  obtain ⟨px1, px2, py1, py2, pt1, pt2⟩ := hp
  clear hm hc
  simp only [ptV]
  have R0 := hide (new_row (w := w) (o := .cells #[.int .i64 x, .int .i64 y] 32) (vs := [.int .i64 x, .int .i64 y]) rfl)
  have HU0 : Hid (Up w (w.alloc (.cells #[.int .i64 x, .int .i64 y] 32))) := (Up.refl _).alloc _
  go_enter Tryz.func164, Tryz.ntmps164
  go_wp2
  go_loopw [7, 8] (fun ov i wr => ∃ (k : Nat) (b : Bool), i = .int .i64 k ∧ ov = .bool b ∧ k ≤ r.length ∧ Hid (Up w wr) ∧ Hid (VRow wr w.heap.size 32 [.int .i64 x, .int .i64 y]) ∧ Hid (Vd.inRing r ((x, y), t) = Vd.inRingL ((Vd.segs r).drop k) b ((x, y), t))) (fun _ i _ => r.length - (intOf i).toNat)
  case atStart => exact ⟨0, false, rfl, rfl, Nat.zero_le _, HU0, R0, rfl⟩
  case round =>
    clear HU0 R0
    obtain ⟨k, b, rfl, rfl, hk, HU, R0, HE⟩ := hrel
    by_cases hlt : k + 1 < r.length
    · obtain ⟨⟨ax, ay⟩, ha⟩ := Pl.some_of_lt (show k < r.length by omega)
      obtain ⟨⟨bx, bY⟩, hb⟩ := Pl.some_of_lt hlt
      rw [drop_at (Vd.segs_at ha hb)] at HE
      obtain ⟨g, rfl, c0, c1⟩ := HM.out k _ ha
      obtain ⟨g', e', d0, d1⟩ := HM.out (k + 1) _ hb
      cases e'
      have HA := hide (HC.out _ (Pl.mem_of_some ha))
      have HB := hide (HC.out _ (Pl.mem_of_some hb))
      have Hc0 := hide (HU.out.cell c0)
      have Hc1 := hide (HU.out.cell c1)
      have Hd0 := hide (HU.out.cell d0)
      have Hd1 := hide (HU.out.cell d1)
      have s0 := cell_gr Hc0.out
      have s1 := cell_gr Hc1.out
      have s2 := cell_gr Hd0.out
      have s3 := cell_gr Hd1.out
      have q0 := R0.out.gr (i := 0) rfl
      have q1 := R0.out.gr (i := 1) rfl
      dsimp only at s0 s1 s2 s3
      have i1 : (0 : Int) ≤ (k : Int) := by omega
      have i2 : (k : Int) < (r.length : Int) := by omega
      have i3 : (k : Int) + 1 < (r.length : Int) := by omega
      have i4 : (0 : Int) ≤ (k : Int) + 1 := by omega
      clear c0 c1 d0 d1 ha hb
      cases ho : onB (ax, ay) (bx, bY) ((x, y), t)
      · have Ho := hide ho
        have HE2 := hide (HE.out.trans (inRingL_go ho))
        clear ho
        go_wp2_with fail
        refine wp_region_up (by kernel_rfl) (by kernel_rfl) ?_
        repeat (first | go_big_quiet_step ((go_at_call 203; exact Calls.up_of (on_is Ho.out HA.out HB.out HP.out _))))
        refine wpQuiet_nil ?_
        rintro w2 ⟨⟨_, hz2⟩, rfl⟩
        clear s0 s1 s2 s3 q0 q1
        have HU2 := hide (HU.out.trans hz2)
        have R2 := hide (R0.out.up hz2)
        have c0 := hz2.cell Hc0.out
        have c1 := hz2.cell Hc1.out
        have d0 := fun o => ((Up.refl w2).alloc o).cell (hz2.cell Hd0.out)
        have d1 := fun o => ((Up.refl w2).alloc o).cell (hz2.cell Hd1.out)
        try dsimp only at c0 c1 d0 d1
        clear hz2
        go_upto_if 47 with fail
        have hne := ne_size (Up.refl w2) c0
        have hne2 : g ≠ w2.heap.size + 1 := by have := lt_of_cell c0; simp only at this; omega
        have HU3 := hide ((HU2.out.alloc (.cells #[.int .i64 ax, .int .i64 ay] 32)).alloc (.cells #[.int .i64 bx, .int .i64 bY] 32))
        have R3 := hide ((R2.out.alloc (.cells #[.int .i64 ax, .int .i64 ay] 32)).alloc (.cells #[.int .i64 bx, .int .i64 bY] 32))
        have RA := hide ((new_row (w := w2) (o := .cells #[.int .i64 ax, .int .i64 ay] 32) (vs := [.int .i64 ax, .int .i64 ay]) rfl).alloc (.cells #[.int .i64 bx, .int .i64 bY] 32))
        have RB : Hid (VRow ((w2.alloc (.cells #[.int .i64 ax, .int .i64 ay] 32)).alloc (.cells #[.int .i64 bx, .int .i64 bY] 32)) (w2.heap.size + 1) 32 [.int .i64 bx, .int .i64 bY]) := by
          have := new_row (w := w2.alloc (.cells #[.int .i64 ax, .int .i64 ay] 32)) (o := .cells #[.int .i64 bx, .int .i64 bY] 32) (vs := [.int .i64 bx, .int .i64 bY]) rfl
          show VRow _ _ _ _
          simpa using this
        have e0 := (((Up.refl w2).alloc (.cells #[.int .i64 ax, .int .i64 ay] 32)).alloc (.cells #[.int .i64 bx, .int .i64 bY] 32)).cell c0
        have e1 := (((Up.refl w2).alloc (.cells #[.int .i64 ax, .int .i64 ay] 32)).alloc (.cells #[.int .i64 bx, .int .i64 bY] 32)).cell c1
        have e2 := ((Up.refl _).alloc (.cells #[.int .i64 bx, .int .i64 bY] 32)).cell (d0 (.cells #[.int .i64 ax, .int .i64 ay] 32))
        have e3 := ((Up.refl _).alloc (.cells #[.int .i64 bx, .int .i64 bY] 32)).cell (d1 (.cells #[.int .i64 ax, .int .i64 ay] 32))
        generalize hW : (w2.alloc (.cells #[.int .i64 ax, .int .i64 ay] 32)).alloc (.cells #[.int .i64 bx, .int .i64 bY] 32) = W at *
        have hsz := hide HU2.out.size
        have hRl := hide R2.out.lt
        generalize hA : w2.heap.size = A at *
        clear hA hW c0 c1 d0 d1 HU2 R2
        go_cut [] (fun wc => ∃ lo hi : Pnt, Hid (lo = if (ax, ay).2 > (bx, bY).2 then (bx, bY) else (ax, ay)) ∧ Hid (hi = if (ax, ay).2 > (bx, bY).2 then (ax, ay) else (bx, bY)) ∧ Hid (Up w wc) ∧ Hid (VRow wc w.heap.size 32 [.int .i64 x, .int .i64 y]) ∧ Hid (VRow wc A 32 [.int .i64 lo.1, .int .i64 lo.2]) ∧ Hid (VRow wc (A + 1) 32 [.int .i64 hi.1, .int .i64 hi.2]))
        case first =>
          by_cases hsw : bY < ay
          · have Hsw := hide hsw
            have a0 := RA.out.cell (i := 0) rfl
            have a1 := RA.out.cell (i := 1) rfl
            have af := fun i => RA.out.frozen i
            have b0 := RB.out.cell (i := 0) rfl
            have b1 := RB.out.cell (i := 1) rfl
            have f0 := fun v1 v2 => two_set (g := A) (x := v1) (y := v2) e0 hne
            have f1 := fun v1 v2 => two_set (g := A) (x := v1) (y := v2) e1 hne
            have g0 := fun v1 v2 => two_set (g := A) (x := v1) (y := v2) b0 (by show A + 1 ≠ A; omega)
            have g1 := fun v1 v2 => two_set (g := A) (x := v1) (y := v2) b1 (by show A + 1 ≠ A; omega)
            have gf := fun v1 v2 i => ((RB.out.setOther (a := ⟨A, 0, none⟩) (by show A + 1 ≠ A; omega) v1).setOther (a := ⟨A, 1, none⟩) (by show A + 1 ≠ A; omega) v2).frozen i
            go_wp2
            go_meet
            case rel =>
              refine ⟨(bx, bY), (ax, ay), (if_pos Hsw.out).symm, (if_pos Hsw.out).symm, ?_, ?_, ?_, ?_⟩
              · exact (((HU3.out.setCell hsz.out _).setCell hsz.out _).setCell (Nat.le_succ_of_le hsz.out) _).setCell (Nat.le_succ_of_le hsz.out) _
              · exact (((R3.out.setOther (Nat.ne_of_lt hRl.out) _).setOther (Nat.ne_of_lt hRl.out) _).setOther (Nat.ne_of_lt (Nat.lt_succ_of_lt hRl.out)) _).setOther (Nat.ne_of_lt (Nat.lt_succ_of_lt hRl.out)) _
              · exact ((row_set2 RA.out _ _).setOther (by show A ≠ A + 1; omega) _).setOther (by show A ≠ A + 1; omega) _
              · exact row_set2 ((RB.out.setOther (by show A + 1 ≠ A; omega) _).setOther (by show A + 1 ≠ A; omega) _) _ _
          · have Hsw := hide hsw
            go_wp2
            go_meet
            case rel => exact ⟨(ax, ay), (bx, bY), (if_neg (Int.not_lt.2 Hsw.out)).symm, (if_neg (Int.not_lt.2 Hsw.out)).symm, HU3.out, R3.out, RA.out, RB.out⟩
        case rest =>
          clear RA RB R3 HU3 e0 e1 e2 e3 hne hne2
          obtain ⟨⟨lx, ly⟩, ⟨hx, hy⟩, HL, HH, HU3, R3, RA, RB⟩ := hcut
          have hcl : Vd.Cd (lx, ly) := by rw [HL.out]; split; exact HB.out; exact HA.out
          have hch : Vd.Cd (hx, hy) := by rw [HH.out]; split; exact HA.out; exact HB.out
          have HRay := hide (rayD_at (p := (x, y)) (w := t) HL.out HH.out)
          have HCL := hide hcl
          have HCH := hide hch
          have HCR : Hid (Vd.cr (lx, ly) (hx, hy) (x, y) t = timesP (subP (lx, ly) (hx, hy)) (x - lx * t, y - ly * t)) := rfl
          simp only [Vd.Cd] at hcl hch
          obtain ⟨l1, l2, l3, l4⟩ := hcl
          obtain ⟨-, -, h3, h4⟩ := hch
          have m1 := mul_bd (a := lx) (b := t) (A := 32768) (B := 1048576) (by omega) (by omega) (by omega) (by omega)
          have m2 := mul_bd (a := ly) (b := t) (A := 32768) (B := 1048576) (by omega) (by omega) (by omega) (by omega)
          have m3 := mul_bd (a := hy) (b := t) (A := 32768) (B := 1048576) (by omega) (by omega) (by omega) (by omega)
          have hvb : Hid (Bdd 34360786944 (x - lx * t, y - ly * t)) := by show (_ ∧ _) ∧ _ ∧ _; simp only; omega
          have a0 := RA.out.cell (i := 0) rfl
          have a1 := RA.out.cell (i := 1) rfl
          have b0 := RB.out.cell (i := 0) rfl
          have b1 := RB.out.cell (i := 1) rfl
          have q0 := R3.out.cell (i := 0) rfl
          have q1 := R3.out.cell (i := 1) rfl
          simp only at HRay HCR
          clear HL HH
          by_cases t1 : ly * t ≤ y
          · by_cases t2 : y < hy * t
            · have HR2 : Hid (Vd.rayD (ax, ay) (bx, bY) (x, y) t = decide (timesP (subP (lx, ly) (hx, hy)) (x - lx * t, y - ly * t) > 0)) := by rw [HRay.out, HCR.out]; simp [t1, t2, Hid]
              have hsu := hide (sub_bdd HCL.out HCH.out)
              go_wp2_with fail
              refine (way2_any (lx, ly) (hx, hy) (bdd_mono (cd_bdd HCL.out) (by omega)) (bdd_mono (cd_bdd HCH.out) (by omega)) _).mono ?_
              rintro e w3 ⟨rfl, hz3⟩
              replace HU3 := hide (HU3.out.trans hz3)
              replace R3 := hide (R3.out.up hz3)
              replace RA := hide (RA.out.up hz3)
              generalize hU : subP (lx, ly) (hx, hy) = U at *
              clear hU hz3 a0 a1 b0 b1 q0 q1 RB
              obtain ⟨ux, uy⟩ := U
              simp only [ptV]
              have q0 := fun o => (RA.out.alloc o).cell (i := 0) rfl
              have q1 := fun o => (RA.out.alloc o).cell (i := 1) rfl
              have q2 := fun o => (R3.out.alloc o).cell (i := 0) rfl
              have q3 := fun o => (R3.out.alloc o).cell (i := 1) rfl
              have RU := hide ((new_row (w := w3) (o := .cells #[.int .i64 ux, .int .i64 uy] 155) (vs := [.int .i64 ux, .int .i64 uy]) rfl).alloc (.cells #[.int .i64 (x - lx * t), .int .i64 (y - ly * t)] 155))
              have R4 := hide ((R3.out.alloc (.cells #[.int .i64 ux, .int .i64 uy] 155)).alloc (.cells #[.int .i64 (x - lx * t), .int .i64 (y - ly * t)] 155))
              have u0 := RU.out.cell (i := 0) rfl
              have u1 := RU.out.cell (i := 1) rfl
              go_wp2_with fail
              refine (times_any (ux, uy) (x - lx * t, y - ly * t) hsu.out hvb.out (by omega) (by omega) (by omega) _).mono ?_
              rintro e w4 ⟨rfl, hz4⟩
              replace HU3 := hide (((HU3.out.alloc _).alloc _).trans hz4)
              replace R4 := hide (R4.out.up hz4)
              clear hz4 u0 u1 q0 q1 q2 q3 RA RU
              generalize timesP (ux, uy) (x - lx * t, y - ly * t) = T at *
              by_cases h5 : T > 0
              all_goals
                replace HE2 := hide (HE2.out.trans (by rw [HR2.out]))
                simp only [h5, decide_true, decide_false, if_true, if_false, Bool.false_eq_true] at HE2
                go_wp2
                go_roundw
                case rel => exact ⟨k + 1, _, by go_num, rfl, by omega, HU3, R4, HE2⟩
                case measure => simp [intOf]; omega
            · have HR2 : Hid (Vd.rayD (ax, ay) (bx, bY) (x, y) t = false) := by rw [HRay.out]; simp [t2, Hid]
              rw [HR2.out] at HE2
              go_wp2
              go_roundw
              case rel => exact ⟨k + 1, _, by go_num, rfl, by omega, HU3, R3, HE2⟩
              case measure => simp [intOf]; omega
          · have HR2 : Hid (Vd.rayD (ax, ay) (bx, bY) (x, y) t = false) := by rw [HRay.out]; simp [t1, Hid]
            rw [HR2.out] at HE2
            go_wp2
            go_roundw
            case rel => exact ⟨k + 1, _, by go_num, rfl, by omega, HU3, R3, HE2⟩
            case measure => simp [intOf]; omega
      · have Ho := hide ho
        have HE2 := hide (HE.out.trans (inRingL_on ho))
        clear ho
        go_wp2_with fail
        refine wp_region_up (by kernel_rfl) (by kernel_rfl) ?_
        repeat (first | go_big_quiet_step ((go_at_call 203; exact Calls.up_of (on_is Ho.out HA.out HB.out HP.out _))))
        refine wpQuiet_nil ?_
        rintro w2 ⟨⟨_, hz2⟩, rfl⟩
        have HU2 := hide (HU.out.trans hz2)
        clear s0 s1 s2 s3 q0 q1 hz2
        go_wp2
        go_ret
        exact ⟨ret_i HE2.out.symm, HU2.out⟩
    · have hk2 : (Vd.segs r).length ≤ k := by rw [Vd.segs_len]; omega
      rw [List.drop_eq_nil_of_le hk2] at HE
      cases b
      all_goals
        go_wp2
        go_ret
        exact ⟨ret_i HE.out.symm, HU.out⟩
end Go.Proofs.YtcclepohmhdpbaaGreatDoor
