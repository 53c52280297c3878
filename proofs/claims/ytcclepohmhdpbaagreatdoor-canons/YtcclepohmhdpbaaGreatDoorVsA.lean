import Derived.Test.YtcclepohmhdpbaaGreatDoorVdG
/- VALIDITY, PLAINLY: a way round, just if there is a core (G5): the program's whole. -/
namespace Go.Proofs.YtcclepohmhdpbaaGreatDoor
set_option linter.all false
namespace Vd
def incL (l : Poly) : Inc := fun r p => place (rAt l r) (at1 p) = 1
theorem at_ringsAt (l : Poly) : At l.length (incL l) (ringsAt l) where
  mem := by
    intro r p
    unfold ringsAt incL
    simp
  nd := by
    intro p
    unfold ringsAt
    exact List.Pairwise.filter _ (List.nodup_range)
theorem Jd.mono {n : Nat} {E : Inc} {Q Q' : Pnt → Prop} {g : List Nat} (h : Jd n E Q g) (k : ∀ p, Q p ↔ Q' p) : Jd n E Q' g := by
  have e : Q = Q' := funext fun p => propext (k p)
  rw [← e]; exact h
theorem wayL_cases (l : Poly) : ∀ (ps : List Pnt) (Q : Pnt → Prop) (g : List Nat), Jd l.length (incL l) Q g → (∀ p ∈ ps, ¬ Q p) → ps.Nodup →
    (wayL l ps g = true → ∃ F : Inc, (∀ r q, F r q → r < l.length ∧ incL l r q ∧ (Q q ∨ q ∈ ps)) ∧ Core F ∧ ∃ r q, F r q) ∧
    (wayL l ps g = false → ∃ g', Jd l.length (incL l) (fun q => Q q ∨ q ∈ ps) g') := by
  intro ps
  induction ps with
  | nil =>
    intro Q g h _ _
    refine ⟨fun e => ?_, fun _ => ⟨g, h.mono (by simp)⟩⟩
    simp [wayL] at e
  | cons p t ih =>
    intro Q g h hq hnd
    have hp := hq p (by simp)
    rw [List.nodup_cons] at hnd
    cases hj : join g (ringsAt l p) with
    | none =>
      refine ⟨fun _ => ?_, fun e => by simp [wayL, hj] at e⟩
      obtain ⟨F, h1, h2, h3⟩ := h.core (at_ringsAt l) hp hj
      refine ⟨F, fun r q t => ⟨(h1 r q t).1, (h1 r q t).2.1, ?_⟩, h2, h3⟩
      rcases (h1 r q t).2.2 with k | k
      · exact .inl k
      · exact .inr (by simp [k])
    | some g' =>
      have h' := h.step (at_ringsAt l) hp hj
      have := ih _ g' h' (by
        rintro q hq' (k | rfl)
        · exact hq q (by simp [hq']) k
        · exact hnd.1 hq') hnd.2
      have ew : wayL l (p :: t) g = wayL l t g' := by simp [wayL, hj]
      rw [ew]
      refine ⟨fun e => ?_, fun e => ?_⟩
      · obtain ⟨F, h1, h2, h3⟩ := this.1 e
        refine ⟨F, fun r q t => ⟨(h1 r q t).1, (h1 r q t).2.1, ?_⟩, h2, h3⟩
        rcases (h1 r q t).2.2 with (k | k) | k
        · exact .inl k
        · exact .inr (by simp [k])
        · exact .inr (by simp [k])
      · obtain ⟨g'', k⟩ := this.2 e
        exact ⟨g'', k.mono (by intro q; simp [or_assoc])⟩
theorem touch_fold (l : Poly) : ∀ (ps : List Pnt) (a : List Pnt), a.Nodup → (∀ p ∈ a, 1 < (ringsAt l p).length) →
    (ps.foldl (touchF l) a).Nodup ∧ ∀ q, q ∈ ps.foldl (touchF l) a ↔ q ∈ a ∨ (q ∈ ps ∧ 1 < (ringsAt l q).length) := by
  intro ps
  induction ps with
  | nil => intro a h _; exact ⟨h, by simp⟩
  | cons p t ih =>
    intro a h h1
    rw [List.foldl_cons]
    by_cases c : ¬ (p ∈ a) ∧ 1 < (ringsAt l p).length
    · rw [show touchF l a p = a ++ [p] from if_pos c]
      have := ih (a ++ [p]) (by rw [List.nodup_append]; exact ⟨h, by simp, by intro x hx y hy; simp at hy; subst hy; rintro rfl; exact c.1 hx⟩) (by
        intro q hq
        rcases List.mem_append.1 hq with hq | hq
        · exact h1 q hq
        · simp at hq; subst hq; exact c.2)
      refine ⟨this.1, fun q => ?_⟩
      rw [this.2 q]
      simp only [List.mem_append, List.mem_cons, List.mem_singleton, List.not_mem_nil, or_false]
      constructor
      · rintro ((k | rfl) | k)
        · exact .inl k
        · exact .inr ⟨.inl rfl, c.2⟩
        · exact .inr ⟨.inr k.1, k.2⟩
      · rintro (k | ⟨rfl | k, k2⟩)
        · exact .inl (.inl k)
        · exact .inl (.inr rfl)
        · exact .inr ⟨k, k2⟩
    · rw [show touchF l a p = a from if_neg c]
      have := ih a h h1
      refine ⟨this.1, fun q => ?_⟩
      rw [this.2 q]
      simp only [List.mem_cons]
      constructor
      · rintro (k | k)
        · exact .inl k
        · exact .inr ⟨.inr k.1, k.2⟩
      · rintro (k | ⟨rfl | k, k2⟩)
        · exact .inl k
        · by_cases hq : q ∈ a
          · exact .inl hq
          · exact absurd ⟨hq, k2⟩ c
        · exact .inr ⟨k, k2⟩
theorem two_at {n : Nat} {E : Inc} {f : Pnt → List Nat} (hA : At n E f) {p : Pnt} {a b : Nat} (ha : a ∈ f p) (hb : b ∈ f p) (hab : a ≠ b) : 1 < (f p).length := by
  match hf : f p with
  | [] => rw [hf] at ha; cases ha
  | [x] => rw [hf] at ha hb; simp at ha hb; exact absurd (ha.trans hb.symm) hab
  | x :: y :: t => simp
theorem nAt_range {n a : Nat} (h : a < n) : nAt (List.range n) a = a := by
  unfold nAt; simp [List.getD_eq_getElem?_getD, List.getElem?_range h]
theorem way_core (l : Poly) : way l = true ↔ ∃ F : Inc, (∀ r q, F r q → r < l.length ∧ incL l r q ∧ q ∈ l.flatten) ∧ Core F ∧ ∃ r q, F r q := by
  have ht := touch_fold l l.flatten [] List.nodup_nil (by simp)
  have h0 : Jd l.length (incL l) (fun _ => False) (List.range l.length) := by
    refine ⟨by simp, by simp, ?_, ?_⟩
    · intro F hF x _ r p h; exact (hF r p h).2.2
    · intro a b ha hb hab e
      rw [nAt_range ha, nAt_range hb] at e
      exact absurd e hab
  have key := wayL_cases l (touchPts l) _ _ h0 (by simp) ht.1
  constructor
  · intro h
    obtain ⟨F, h1, h2, h3⟩ := key.1 h
    refine ⟨F, fun r q t => ⟨(h1 r q t).1, (h1 r q t).2.1, ?_⟩, h2, h3⟩
    rcases (h1 r q t).2.2 with k | k
    · exact k.elim
    · have := (ht.2 q).1 k
      simp only [List.not_mem_nil, false_or] at this
      exact this.1
  · rintro ⟨F, h1, h2, r, q, h3⟩
    cases hw : way l with
    | true => rfl
    | false =>
      exfalso
      obtain ⟨g, hg⟩ := key.2 hw
      refine hg.no F ?_ 0 ⟨h2.pt, fun r p t _ _ => h2.ring r p t⟩ r q h3
      intro r p t
      obtain ⟨r', e, t'⟩ := h2.pt r p t
      have a1 := h1 r p t
      have a2 := h1 r' p t'
      refine ⟨a1.1, a1.2.1, .inr ?_⟩
      refine (ht.2 p).2 (.inr ⟨a1.2.2, ?_⟩)
      exact two_at (at_ringsAt l) (((at_ringsAt l).mem r p).2 ⟨a1.1, a1.2.1⟩) (((at_ringsAt l).mem r' p).2 ⟨a2.1, a2.2.1⟩) (Ne.symm e)
end Vd
end Go.Proofs.YtcclepohmhdpbaaGreatDoor

/- VALIDITY, PLAINLY: Meet either way round; where a spot lies, the document's; what lies within two segments (G2, G6). -/
namespace Go.Proofs.YtcclepohmhdpbaaGreatDoor
set_option linter.all false
namespace Vd
theorem onLine_symm (s t : Seg) : onLine s t = onLine t s := by
  have e1 : (if bef s.1 t.1 then t.1 else s.1) = (if bef t.1 s.1 then s.1 else t.1) := by
    rcases bef_tri s.1 t.1 with h | h | h
    · rw [if_pos h, if_neg (fun k => bef_irr h k)]
    · rw [h]
    · rw [if_neg (fun k => bef_irr h k), if_pos h]
  have e2 : (if bef t.2 s.2 then t.2 else s.2) = (if bef s.2 t.2 then s.2 else t.2) := by
    rcases bef_tri s.2 t.2 with h | h | h
    · rw [if_pos h, if_neg (fun k => bef_irr h k)]
    · rw [h]
    · rw [if_neg (fun k => bef_irr h k), if_pos h]
  unfold onLine
  simp only
  rw [e1, e2]
theorem meet_symm (a b c d : Pnt) : meet a b c d = meet c d a b := by
  unfold meet
  simp only
  generalize sg (cr a b c 1) = x
  generalize sg (cr a b d 1) = y
  generalize sg (cr c d a 1) = z
  generalize sg (cr c d b 1) = u
  rw [onLine_symm (fwd a b)]
  have e1 : (x = 0 ∧ y = 0 ∧ z = 0 ∧ u = 0) ↔ (z = 0 ∧ u = 0 ∧ x = 0 ∧ y = 0) := by omega
  have e2 : (x * y > 0 ∨ z * u > 0) ↔ (z * u > 0 ∨ x * y > 0) := Or.comm
  have e3 : x * y * z * u = z * u * x * y := by grind
  rw [e3]
  simp only [e1, e2]
theorem meetS_symm (s t : Seg) : meetS s t = meetS t s := meet_symm _ _ _ _
theorem crossS_symm (s t : Seg) : crossS s t = crossS t s := by unfold crossS; rw [meetS_symm]

/-! ### the document's: where a spot lies -/
def inRingL : List Seg → Bool → Spot → Int
  | [], i, _ => if i then 1 else -1
  | s :: t, i, p => if on s.1 s.2 p.1 p.2 then 0 else inRingL t (if rayD s.1 s.2 p.1 p.2 then !i else i) p
def inRing (r : Ring) (p : Spot) : Int := inRingL (segs r) false p
def pl (k : Int) : Int := if k = 0 then 1 else if k = 1 then 2 else 0
theorem placeL_eq : ∀ (l : List Seg) (i : Bool) (p : Spot), 0 < p.2 → (∀ s ∈ l, s.1 ≠ s.2) → placeL l i p = pl (inRingL l i p) ∧ (inRingL l i p = 0 ∨ inRingL l i p = 1 ∨ inRingL l i p = -1) := by
  intro l
  induction l with
  | nil => intro i p _ _; cases i <;> simp [placeL, inRingL, pl]
  | cons s t ih =>
    intro i p hp hl
    have hs := hl s (by simp)
    have e := has_on (p := p.1) (w := p.2) hs hp
    unfold placeL inRingL hasB
    by_cases h : has s.1 s.2 p.1 p.2
    · rw [if_pos (decide_eq_true h), if_pos (e.1 h)]
      simp [pl]
    · rw [decide_eq_false h, if_neg (fun k => h (e.2 k)), ray_eq hp]
      simp only [Bool.false_eq_true, if_false]
      exact ih _ p hp fun x hx => hl x (by simp [hx])
/-- No segment without length. -/
def Long (r : Ring) : Prop := ∀ s ∈ segs r, s.1 ≠ s.2
theorem place_eq {r : Ring} {p : Spot} (hr : Long r) (hp : 0 < p.2) : place r p = pl (inRing r p) ∧ (inRing r p = 0 ∨ inRing r p = 1 ∨ inRing r p = -1) := placeL_eq _ _ _ hp hr
def inL : Int → List Ring → Spot → Int
  | s, [], _ => s
  | s, r :: t, p => if inRing r p = 0 ∧ 0 ≤ s then 0 else if inRing r p = 1 then -1 else inL s t p
def inP : Poly → Spot → Int
  | [], _ => 0
  | r :: t, p => inL (inRing r p) t p

theorem inL_free : ∀ (t : List Ring) (s : Int) (f : Bool) (p : Spot), 0 < p.2 → (∀ r ∈ t, Long r ∧ place r p ≠ 1) → (s = 1 ∨ s = -1) → (f = true ↔ s = -1) →
    (freeL t false f p = true ↔ inL s t p = -1) := by
  intro t
  induction t with
  | nil => intro s f p _ _ _ hf; exact hf
  | cons r t ih =>
    intro s f p hp hr hs hf
    obtain ⟨hl, hp1⟩ := hr r (by simp)
    obtain ⟨e1, e2⟩ := place_eq hl hp
    have ht : ∀ r ∈ t, Long r ∧ place r p ≠ 1 := fun x hx => hr x (by simp [hx])
    unfold freeL inL
    rw [if_neg hp1]
    rcases e2 with e | e | e
    · exfalso; rw [e] at e1; exact hp1 e1
    · rw [e] at e1
      rw [if_neg (by omega), if_pos e]
      have e3 : place r p = 2 := e1
      simp only [e3]
      -- once free, always free
      have : ∀ (t : List Ring), (∀ r ∈ t, Long r ∧ place r p ≠ 1) → freeL t false true p = true := by
        intro t
        induction t with
        | nil => intro _; rfl
        | cons r t ih =>
          intro h
          unfold freeL
          rw [if_neg (h r (by simp)).2]
          simp only [Bool.true_or]
          exact ih fun x hx => h x (by simp [hx])
      simp [this t ht]
    · rw [e] at e1
      rw [if_neg (by omega), if_neg (by omega)]
      have e3 : place r p = 0 := e1
      simp only [e3]
      have := ih s f p hp ht hs hf
      simpa using this
/-- G6: on no ring, what is free is outside. -/
theorem free_in {l : Poly} {p : Spot} (hp : 0 < p.2) (hne : l ≠ []) (hr : ∀ r ∈ l, Long r ∧ place r p ≠ 1) : free l p = true ↔ inP l p = -1 := by
  cases l with
  | nil => exact absurd rfl hne
  | cons r t =>
    obtain ⟨hl, hp1⟩ := hr r (by simp)
    obtain ⟨e1, e2⟩ := place_eq hl hp
    unfold free freeL inP
    rw [if_neg hp1]
    rcases e2 with e | e | e
    · exfalso; rw [e] at e1; exact hp1 e1
    · rw [e] at e1
      have e3 : place r p = 2 := e1
      simp only [e3, e]
      exact inL_free t 1 _ p hp (fun x hx => hr x (by simp [hx])) (.inl rfl) (by simp)
    · rw [e] at e1
      have e3 : place r p = 0 := e1
      simp only [e3, e]
      exact inL_free t (-1) _ p hp (fun x hx => hr x (by simp [hx])) (.inr rfl) (by simp)

/-! ### a spot within both -/
/-- where a spot m (over 2) stands along a to b, over 2. -/
theorem cr_mid (a b x y : Pnt) : cr a b (midOf x y).1 2 = cr a b x 1 + cr a b y 1 := by unfold cr midOf; grind
theorem placeL_one : ∀ (l : List Seg) (i : Bool) (p : Spot), placeL l i p = 1 ↔ ∃ s ∈ l, has s.1 s.2 p.1 p.2 := by
  intro l
  induction l with
  | nil => intro i p; cases i <;> simp [placeL]
  | cons s t ih =>
    intro i p
    unfold placeL hasB
    by_cases h : has s.1 s.2 p.1 p.2
    · rw [if_pos (decide_eq_true h)]; simp [h]
    · rw [decide_eq_false h]
      simp only [Bool.false_eq_true, if_false]
      rw [ih]
      simp [h]
theorem place_one {r : Ring} {p : Spot} : place r p = 1 ↔ ∃ s ∈ segs r, has s.1 s.2 p.1 p.2 := placeL_one _ _ _
end Vd
end Go.Proofs.YtcclepohmhdpbaaGreatDoor

/- VALIDITY, PLAINLY: a spot within two segments: they cross or lie along each other (G6). -/
namespace Go.Proofs.YtcclepohmhdpbaaGreatDoor
set_option linter.all false
namespace Vd
/-- Strictly within: neither end. -/
def Inn (a b m : Pnt) : Prop := has a b m 2 ∧ m ≠ (a.1 * 2, a.2 * 2) ∧ m ≠ (b.1 * 2, b.2 * 2)
theorem inn_pos {a b m : Pnt} (hab : a ≠ b) (h : Inn a b m) : 0 < dt a b m 2 ∧ dt a b m 2 < kk a b * 2 := by
  have hk := kk_pos hab
  obtain ⟨h0, h1, h2⟩ := (has_on hab (by omega)).1 h.1
  have e1 : dt a b m 2 * (b.1 - a.1) = (m.1 - a.1 * 2) * kk a b := by unfold cr at h0; unfold dt kk; grind
  have e2 : dt a b m 2 * (b.2 - a.2) = (m.2 - a.2 * 2) * kk a b := by unfold cr at h0; unfold dt kk; grind
  have z : ∀ t : Int, 0 = t * kk a b → t = 0 := by
    intro t h
    rcases Int.mul_eq_zero.1 h.symm with h | h
    · exact h
    · omega
  constructor
  · rcases Int.lt_or_eq_of_le h1 with g | g
    · exact g
    · exfalso
      rw [← g, Int.zero_mul] at e1 e2
      have := z _ e1
      have := z _ e2
      exact h.2.1 (Prod.ext (by simp only; omega) (by simp only; omega))
  · rcases Int.lt_or_eq_of_le h2 with g | g
    · exact g
    · exfalso
      have f1 : 0 = (m.1 - b.1 * 2) * kk a b := by rw [g] at e1; grind
      have f2 : 0 = (m.2 - b.2 * 2) * kk a b := by rw [g] at e2; grind
      have := z _ f1
      have := z _ f2
      exact h.2.2 (Prod.ext (by simp only; omega) (by simp only; omega))
/-- Two weights above 0. -/
theorem weights {p q X Y : Int} (hp : 0 < p) (hq : 0 < q) (e : p * X + q * Y = 0) : (X = 0 ∧ Y = 0) ∨ (0 < X ∧ Y < 0) ∨ (X < 0 ∧ 0 < Y) := by
  rcases Int.lt_trichotomy X 0 with h | h | h
  · right; right; refine ⟨h, ?_⟩
    have := Int.mul_neg_of_pos_of_neg hp h
    rcases Int.lt_or_le 0 Y with g | g
    · exact g
    · have := Int.mul_nonpos_of_nonneg_of_nonpos (Int.le_of_lt hq) g
      omega
  · left; refine ⟨h, ?_⟩
    rw [h, Int.mul_zero, Int.zero_add] at e
    rcases Int.mul_eq_zero.1 e with g | g
    · omega
    · exact g
  · right; left; refine ⟨h, ?_⟩
    have := Int.mul_pos hp h
    rcases Int.lt_or_le Y 0 with g | g
    · exact g
    · have := Int.mul_nonneg (Int.le_of_lt hq) g
      omega
theorem inn_sides {a b c d m : Pnt} (hcd : c ≠ d) (h1 : cr a b m 2 = 0) (h2 : Inn c d m) : (cr a b c 1 = 0 ∧ cr a b d 1 = 0) ∨ (0 < cr a b c 1 ∧ cr a b d 1 < 0) ∨ (cr a b c 1 < 0 ∧ 0 < cr a b d 1) := by
  obtain ⟨g1, g2⟩ := inn_pos hcd h2
  have h0 := h2.1.1
  have e1 : dt c d m 2 * (d.1 - c.1) = (m.1 - c.1 * 2) * kk c d := by unfold cr at h0; unfold dt kk; grind
  have e2 : dt c d m 2 * (d.2 - c.2) = (m.2 - c.2 * 2) * kk c d := by unfold cr at h0; unfold dt kk; grind
  refine weights (p := kk c d * 2 - dt c d m 2) (q := dt c d m 2) (by omega) g1 ?_
  generalize dt c d m 2 = T at *
  generalize kk c d = K at *
  unfold cr at *
  grind
theorem line_other {a b c d : Pnt} (hab : a ≠ b) (h1 : cr a b c 1 = 0) (h2 : cr a b d 1 = 0) : cr c d a 1 = 0 ∧ cr c d b 1 = 0 := by
  have hk := kk_pos hab
  have z : ∀ t : Int, kk a b * t = 0 → t = 0 := by
    intro t h
    rcases Int.mul_eq_zero.1 h with h | h
    · omega
    · exact h
  constructor
  · apply z; unfold cr at *; unfold kk; grind
  · apply z; unfold cr at *; unfold kk; grind
theorem dt_two (a b x : Pnt) : dt a b (x.1 * 2, x.2 * 2) 2 = 2 * pos a b x := by unfold dt pos dt; grind
theorem inn_between {a b c d m : Pnt} (hcd : c ≠ d) (h2 : Inn c d m) : (2 * pos a b c < dt a b m 2 ∧ dt a b m 2 < 2 * pos a b d) ∨ (2 * pos a b d < dt a b m 2 ∧ dt a b m 2 < 2 * pos a b c) ∨ pos a b c = pos a b d := by
  obtain ⟨g1, g2⟩ := inn_pos hcd h2
  have h0 := h2.1.1
  have hk := kk_pos hcd
  have e1 : dt c d m 2 * (d.1 - c.1) = (m.1 - c.1 * 2) * kk c d := by unfold cr at h0; unfold dt kk; grind
  have e2 : dt c d m 2 * (d.2 - c.2) = (m.2 - c.2 * 2) * kk c d := by unfold cr at h0; unfold dt kk; grind
  have e : dt c d m 2 * (pos a b d - pos a b c) = kk c d * (dt a b m 2 - 2 * pos a b c) := by
    generalize dt c d m 2 = T at *
    generalize kk c d = K at *
    unfold pos dt; grind
  have e' : (kk c d * 2 - dt c d m 2) * (pos a b d - pos a b c) = kk c d * (2 * pos a b d - dt a b m 2) := by
    have : (kk c d * 2 - dt c d m 2) * (pos a b d - pos a b c) = kk c d * 2 * (pos a b d - pos a b c) - dt c d m 2 * (pos a b d - pos a b c) := by grind
    rw [this, e]; grind
  have g3 : 0 < kk c d * 2 - dt c d m 2 := by omega
  have sgn : ∀ {p q A B : Int}, 0 < p → 0 < q → p * A = q * B → (0 < A → 0 < B) ∧ (A < 0 → B < 0) := by
    intro p q A B hp hq e
    constructor
    · intro hA
      have := Int.mul_pos hp hA
      rw [e] at this
      exact Int.pos_of_mul_pos_right this hq
    · intro hA
      have := Int.mul_neg_of_pos_of_neg hp hA
      rw [e] at this
      rcases Int.lt_or_le B 0 with g | g
      · exact g
      · have := Int.mul_nonneg (Int.le_of_lt hq) g; omega
  rcases Int.lt_trichotomy (pos a b d - pos a b c) 0 with h | h | h
  · have k1 := (sgn g1 hk e).2 h
    have k2 := (sgn g3 hk e').2 h
    right; left; omega
  · right; right; omega
  · have k1 := (sgn g1 hk e).1 h
    have k2 := (sgn g3 hk e').1 h
    left; omega
theorem inn_cross {a b c d m : Pnt} (hab : a ≠ b) (hcd : c ≠ d) (h1 : Inn a b m) (h2 : Inn c d m) : meet a b c d = 2 ∨ meet a b c d = 3 := by
  have s1 := inn_sides hcd h1.1.1 h2
  have s2 := inn_sides hab h2.1.1 h1
  have l1 := line_other (c := c) (d := d) hab
  have l2 := line_other (c := a) (d := b) hcd
  by_cases hz : cr a b c 1 = 0
  · have hd : cr a b d 1 = 0 := by omega
    obtain ⟨z1, z2⟩ := l1 hz hd
    right
    have hm : meet a b c d = onLine (fwd a b) (fwd c d) := by
      unfold meet
      simp [hz, hd, z1, z2, sg]
    rw [hm]
    obtain ⟨p1, p2⟩ := inn_pos hab h1
    have hb := inn_between (a := a) (b := b) hcd h2
    have hne : pos a b c ≠ pos a b d := fun e => hcd (pos_inj hab hz hd e)
    rw [onLine_count hab hcd hz hd]
    have : count (kk a b) (min (pos a b c) (pos a b d)) (max (pos a b c) (pos a b d)) = 2 := by
      unfold count
      rw [if_neg (by omega), if_neg (by omega)]
    simp [this]
  · left
    have t2 : ¬ (cr c d a 1 = 0 ∧ cr c d b 1 = 0) := fun e => hz (l2 e.1 e.2).1
    have sp : ∀ {n : Int}, 0 < n → sg n = 1 := fun h => by unfold sg; rw [if_pos h]
    have sn : ∀ {n : Int}, n < 0 → sg n = -1 := fun h => by unfold sg; rw [if_neg (by omega), if_pos h]
    rcases s1 with e | ⟨x1, y1⟩ | ⟨x1, y1⟩
    · exact absurd e.1 hz
    · rcases s2 with e | ⟨z1, u1⟩ | ⟨z1, u1⟩
      · exact absurd e t2
      · unfold meet; simp [sp x1, sn y1, sp z1, sn u1]
      · unfold meet; simp [sp x1, sn y1, sn z1, sp u1]
    · rcases s2 with e | ⟨z1, u1⟩ | ⟨z1, u1⟩
      · exact absurd e t2
      · unfold meet; simp [sn x1, sp y1, sp z1, sn u1]
      · unfold meet; simp [sn x1, sp y1, sn z1, sp u1]
/-- A middle lies on no ring at whose vertices the segment was cut, unless they cross. -/
theorem mid_off {a b : Pnt} (hab : a ≠ b) {rings : Poly} {o : Ring} (ho : o ∈ rings) (hl : Long o) {m : Spot} (hm : m ∈ mids (a, b) rings) (hx : ∀ t ∈ segs o, crossS (a, b) t = false) : place o m ≠ 1 := by
  intro h1
  obtain ⟨y, z, hc, rfl⟩ := (mem_mids hab rings m).1 hm
  obtain ⟨t, ht, hh⟩ := place_one.1 h1
  have hh' : has t.1 t.2 (midOf y z).1 2 := hh
  have py := pos_le hab (cut_has hc.cx)
  have pz := pos_le hab (cut_has hc.cy)
  have hlt := hc.lt
  have ep : dt a b (midOf y z).1 2 = pos a b y + pos a b z := by unfold midOf pos dt; grind
  have hon : has a b (midOf y z).1 2 := by
    rw [has_on hab (by omega)]
    refine ⟨?_, by omega, by omega⟩
    have := cr_mid a b y z
    rw [this, (cut_has hc.cx).1, (cut_has hc.cy).1]; rfl
  have i1 : Inn a b (midOf y z).1 := by
    refine ⟨hon, ?_, ?_⟩
    · intro e
      have := dt_two a b a
      rw [← e, ep, pos_a] at this
      omega
    · intro e
      have := dt_two a b b
      rw [← e, ep, pos_b] at this
      omega
  have noCut : ∀ c, c ∈ o → (midOf y z).1 ≠ (c.1 * 2, c.2 * 2) := by
    intro c hco e
    have d2 := dt_two a b c
    rw [← e, ep] at d2
    have hcut : Cut a b rings.flatten c := by
      refine .inr (.inr ⟨List.mem_flatten.2 ⟨o, ho, hco⟩, ?_⟩)
      rw [has_on hab (by omega)]
      have g0 : cr a b (c.1 * 2, c.2 * 2) 2 = 0 := e ▸ hon.1
      refine ⟨?_, ?_, ?_⟩
      · unfold cr at *; grind
      · show 0 ≤ pos a b c; omega
      · show pos a b c ≤ _; omega
    exact hc.no c hcut ⟨by omega, by omega⟩
  have i2 : Inn t.1 t.2 (midOf y z).1 := ⟨hh', noCut _ (segs_mem ht).1, noCut _ (segs_mem ht).2⟩
  have := inn_cross hab (hl t ht) i1 i2
  have hf := hx t ht
  unfold crossS meetS at hf
  simp only [Bool.or_eq_false_iff, decide_eq_false_iff_not] at hf
  rcases this with e | e
  · exact hf.1 e
  · exact hf.2 e
end Vd
end Go.Proofs.YtcclepohmhdpbaaGreatDoor

/- VALIDITY, PLAINLY: the document's clauses, and that the least is the program's. -/
namespace Go.Proofs.YtcclepohmhdpbaaGreatDoor
set_option linter.all false
namespace Vd
def twiceD (r : Ring) : Bool := anyI (r.length - 1) fun i => anyI i fun j => decide (ptAt r i = ptAt r j)
def nextD2 (n i j : Nat) : Bool := decide (j + 1 = i) || (decide (j = 0) && decide (i + 1 = n))
def badK (next : Bool) (k : Int) : Bool := (next && decide (k ≠ 1)) || (!next && decide (k ≠ 0))
def selfD (r : Ring) : Bool := anyI (r.length - 1) fun i => anyI i fun j => badK (nextD2 (r.length - 1) i j) (common (ptAt r i) (ptAt r (i + 1)) (ptAt r j) (ptAt r (j + 1))).1
def cleanD (r : Ring) : Bool := !(twiceD r || selfD r)
def crossD (s t : Seg) : Bool := decide ((common s.1 s.2 t.1 t.2).1 = 2) || (common s.1 s.2 t.1 t.2).2
def pointsD (a b : Ring) : Bool := !((segs a).any fun s => (segs b).any fun t => crossD s t)
def allD (r : Ring) (q : Poly) (k : Int) : Bool := !((segs r).any fun s => (midD s.1 s.2 q).any fun m => decide (inP q m ≠ k))

/-- What Make lets pass: closed, four points or more. -/
structure Shut (r : Ring) : Prop where
  len : 4 ≤ r.length
  eq : ptAt r 0 = ptAt r (r.length - 1)

theorem ptAt_get {r : Ring} {i : Nat} (h : i < r.length) : r[i]? = some (ptAt r i) := by
  unfold ptAt; rw [List.getD_eq_getElem?_getD, List.getElem?_eq_getElem h]; rfl
theorem sAt_get {r : Ring} {i : Nat} (h : i + 1 < r.length) : sAt (segs r) i = (ptAt r i, ptAt r (i + 1)) := by
  unfold sAt; rw [List.getD_eq_getElem?_getD, segs_at (ptAt_get (by omega)) (ptAt_get h)]; rfl
theorem segs_mem_at {r : Ring} {s : Seg} (h : s ∈ segs r) : ∃ i, i + 1 < r.length ∧ s = (ptAt r i, ptAt r (i + 1)) := by
  obtain ⟨i, hi, e⟩ := List.getElem_of_mem h
  rw [segs_len] at hi
  have hi' : i + 1 < r.length := by omega
  refine ⟨i, hi', ?_⟩
  have := segs_at (ptAt_get (show i < r.length by omega)) (ptAt_get hi')
  rw [List.getElem?_eq_getElem (by rw [segs_len]; exact hi)] at this
  rw [← e]; exact Option.some.inj this

theorem twice_iff {r : Ring} : twice r = true ↔ ∃ i j, 1 ≤ i ∧ i < j ∧ j < r.length ∧ ptAt r i = ptAt r j := by
  unfold twice
  rw [anyI_iff]
  constructor
  · rintro ⟨i, hi, h⟩
    simp only [Bool.and_eq_true, decide_eq_true_eq, anyI_iff] at h
    obtain ⟨h1, j, hj, h2, h3⟩ := h
    rw [ptAt_get hi, ptAt_get hj] at h3
    exact ⟨i, j, h1, h2, hj, Option.some.inj h3⟩
  · rintro ⟨i, j, h1, h2, h3, h4⟩
    refine ⟨i, by omega, ?_⟩
    simp only [Bool.and_eq_true, decide_eq_true_eq, anyI_iff]
    exact ⟨h1, j, h3, h2, by rw [ptAt_get (show i < r.length by omega), ptAt_get h3, h4]⟩
theorem twiceD_iff {r : Ring} : twiceD r = true ↔ ∃ i j, j < i ∧ i < r.length - 1 ∧ ptAt r i = ptAt r j := by
  unfold twiceD
  rw [anyI_iff]
  constructor
  · rintro ⟨i, hi, h⟩
    simp only [anyI_iff, decide_eq_true_eq] at h
    obtain ⟨j, hj, e⟩ := h
    exact ⟨i, j, hj, hi, e⟩
  · rintro ⟨i, j, h1, h2, h3⟩
    refine ⟨i, h2, ?_⟩
    simp only [anyI_iff, decide_eq_true_eq]
    exact ⟨j, h1, h3⟩
theorem bool_iff {a b : Bool} (h : a = true ↔ b = true) : a = b := by cases a <;> cases b <;> simp_all
theorem twice_eq {r : Ring} (h : Shut r) : twice r = twiceD r := by
  apply bool_iff
  rw [twice_iff, twiceD_iff]
  have h4 := h.len
  constructor
  · rintro ⟨i, j, h1, h2, h3, e⟩
    by_cases hj : j = r.length - 1
    · exact ⟨i, 0, by omega, by omega, by rw [h.eq, e, hj]⟩
    · exact ⟨j, i, h2, by omega, e.symm⟩
  · rintro ⟨i, j, h1, h2, e⟩
    by_cases hj : j = 0
    · exact ⟨i, r.length - 1, by omega, by omega, by omega, by rw [e, hj, h.eq]⟩
    · exact ⟨j, i, by omega, h1, by omega, e.symm⟩
theorem long_of {r : Ring} (h : Shut r) (ht : twice r = false) : Long r := by
  intro s hs e
  obtain ⟨i, hi, rfl⟩ := segs_mem_at hs
  have h4 := h.len
  have : twice r = true := by
    rw [twice_iff]
    by_cases h0 : i = 0
    · subst h0
      exact ⟨1, r.length - 1, by omega, by omega, by omega, by rw [← h.eq]; exact e.symm⟩
    · exact ⟨i, i + 1, by omega, by omega, hi, e⟩
  rw [ht] at this; cases this

theorem shape1 {A B C : Prop} [Decidable A] [Decidable B] [Decidable C] {k : Int} {d : Bool} (h : (if A then (if B then ((0 : Int), false) else (k, false)) else if C then (0, false) else (1, d)).2 = true) :
    (if A then (if B then ((0 : Int), false) else (k, false)) else if C then (0, false) else (1, d)).1 = 1 := by
  by_cases hA : A <;> by_cases hB : B <;> by_cases hC : C <;> simp_all
theorem shape2 {A B C : Prop} [Decidable A] [Decidable B] [Decidable C] {k : Int} {d : Bool} (hk : k = 0 ∨ k = 1 ∨ k = 2) :
    (if A then (if B then ((0 : Int), false) else (k, false)) else if C then (0, false) else (1, d)).1 = 0 ∨ (if A then (if B then ((0 : Int), false) else (k, false)) else if C then (0, false) else (1, d)).1 = 1 ∨ (if A then (if B then ((0 : Int), false) else (k, false)) else if C then (0, false) else (1, d)).1 = 2 := by
  by_cases hA : A <;> by_cases hB : B <;> by_cases hC : C <;> simp_all
theorem common_cross {a b c d : Pnt} (h : (common a b c d).2 = true) : (common a b c d).1 = 1 := shape1 h
theorem count_range (k p q : Int) : count k p q = 0 ∨ count k p q = 1 ∨ count k p q = 2 := by
  unfold count
  split
  · simp
  · split <;> simp
theorem common_range (a b c d : Pnt) : (common a b c d).1 = 0 ∨ (common a b c d).1 = 1 ∨ (common a b c d).1 = 2 := shape2 (count_range _ _ _)
theorem meet_shared {a b c d : Pnt} (h : cr a b c 1 = 0 ∨ cr a b d 1 = 0) : meet a b c d ≠ 2 := by
  have hl : ∀ s t, onLine s t ≠ 2 := by
    intro s t
    unfold onLine
    simp only
    split
    · omega
    · split <;> omega
  unfold meet
  simp only
  split
  · exact hl _ _
  · split
    · omega
    · have : sg (cr a b c 1) * sg (cr a b d 1) * sg (cr c d a 1) * sg (cr c d b 1) = 0 := by
        rcases h with h | h
        · rw [h]; simp [sg]
        · rw [h]; simp [sg]
      rw [if_pos this]; omega
theorem cross_eq {s t : Seg} (hs : s.1 ≠ s.2) (ht : t.1 ≠ t.2) : crossS s t = crossD s t := by
  unfold crossS crossD meetS
  rw [meet_common hs ht]
  have hr := common_range s.1 s.2 t.1 t.2
  have hc := common_cross (a := s.1) (b := s.2) (c := t.1) (d := t.2)
  unfold how
  cases h2 : (common s.1 s.2 t.1 t.2).2 with
  | true => rw [hc h2]; simp
  | false =>
    rcases hr with e | e | e <;> rw [e] <;> simp
theorem bad_eq {a b c d : Pnt} (hab : a ≠ b) (hcd : c ≠ d) {next : Bool} (hn : next = true → cr a b c 1 = 0 ∨ cr a b d 1 = 0) :
    badK next (common a b c d).1 = decide (meet a b c d ≠ if next then 1 else 0) := by
  have hm := meet_common hab hcd
  have hr := common_range a b c d
  have hc := common_cross (a := a) (b := b) (c := c) (d := d)
  have hs := meet_shared (a := a) (b := b) (c := c) (d := d)
  unfold badK
  cases h2 : (common a b c d).2 with
  | true =>
    have e := hc h2
    have hm2 : meet a b c d = 2 := by rw [hm]; unfold how; rw [h2, e]; simp
    cases next with
    | true => exact absurd hm2 (hs (hn rfl))
    | false => rw [hm2, e]; simp
  | false =>
    rcases hr with e | e | e
    · have hm2 : meet a b c d = 0 := by rw [hm]; unfold how; rw [h2, e]; simp
      cases next <;> simp [hm2, e]
    · have hm2 : meet a b c d = 1 := by rw [hm]; unfold how; rw [h2, e]; simp
      cases next <;> simp [hm2, e]
    · have hm2 : meet a b c d = 3 := by rw [hm]; unfold how; rw [h2, e]; simp
      cases next <;> simp [hm2, e]
theorem self_eq {r : Ring} (h : Shut r) (hl : Long r) : selfR r = selfD r := by
  have h4 := h.len
  have key : ∀ i j, j < i → i < r.length - 1 → badK (nextD2 (r.length - 1) i j) (common (ptAt r i) (ptAt r (i + 1)) (ptAt r j) (ptAt r (j + 1))).1 = decide (meetS (sAt (segs r) j) (sAt (segs r) i) ≠ wantI (segs r).length j i) := by
    intro i j hji hi
    have e1 := sAt_get (r := r) (i := i) (by omega)
    have e2 := sAt_get (r := r) (i := j) (by omega)
    have l1 : ptAt r i ≠ ptAt r (i + 1) := hl (ptAt r i, ptAt r (i + 1)) (List.mem_of_getElem? (segs_at (ptAt_get (by omega)) (ptAt_get (by omega))))
    have l2 : ptAt r j ≠ ptAt r (j + 1) := hl (ptAt r j, ptAt r (j + 1)) (List.mem_of_getElem? (segs_at (ptAt_get (by omega)) (ptAt_get (by omega))))
    rw [e1, e2, meetS_symm]
    unfold meetS
    simp only
    rw [bad_eq l1 l2 ?_]
    · have ew : (if nextD2 (r.length - 1) i j = true then (1 : Int) else 0) = wantI (segs r).length j i := by
        unfold nextD2 wantI
        rw [segs_len]
        by_cases c : j + 1 = i ∨ (j = 0 ∧ i + 1 = r.length - 1)
        · rw [if_pos c, if_pos]; simpa using c
        · rw [if_neg c, if_neg]; simpa using c
      rw [ew]
    · intro hn
      unfold nextD2 at hn
      simp only [Bool.or_eq_true, Bool.and_eq_true, decide_eq_true_eq] at hn
      rcases hn with e | ⟨e, e'⟩
      · right; rw [e]; exact cr_a _ _
      · left; subst e; rw [h.eq, show r.length - 1 = i + 1 by omega]; exact cr_b _ _
  apply bool_iff
  unfold selfR selfD
  rw [anyI_iff, anyI_iff, segs_len]
  constructor
  · rintro ⟨j, hj, k⟩
    rw [anyI_iff] at k
    obtain ⟨i, hi, k⟩ := k
    refine ⟨j, hj, ?_⟩
    rw [anyI_iff]
    refine ⟨i, hi, ?_⟩
    rw [key j i hi hj, segs_len]
    exact k
  · rintro ⟨j, hj, k⟩
    rw [anyI_iff] at k
    obtain ⟨i, hi, k⟩ := k
    refine ⟨j, hj, ?_⟩
    rw [anyI_iff]
    refine ⟨i, hi, ?_⟩
    rw [key j i hi hj, segs_len] at k
    exact k
theorem clean_eq {r : Ring} (h : Shut r) : (twice r || selfR r) = (twiceD r || selfD r) := by
  rw [twice_eq h]
  cases ht : twiceD r with
  | true => rfl
  | false => rw [self_eq h (long_of h (by rw [twice_eq h]; exact ht))]
end Vd
end Go.Proofs.YtcclepohmhdpbaaGreatDoor

/- VALIDITY, PLAINLY: clause by clause, the program's and the document's. -/
namespace Go.Proofs.YtcclepohmhdpbaaGreatDoor
set_option linter.all false
namespace Vd
def d1 (m : Mult) : Bool := m.any fun l => l.any fun r => !(cleanD r)
def d2 (m : Mult) : Bool := m.any fun l => anyI l.length fun i => anyI l.length fun j => decide (j ≠ i) && !(pointsD (rAt l i) (rAt l j))
def nestD (j : Nat) : Int := if j = 0 then 1 else -1
def d3 (m : Mult) : Bool := m.any fun l => anyI l.length fun i => decide (1 ≤ i) && anyI l.length fun j => decide (j ≠ i) && !(allD (rAt l i) [rAt l j] (nestD j))
def d5 (m : Mult) : Bool := anyI m.length fun p => (pAt m p).any fun r => anyI m.length fun k => decide (k ≠ p) && ((pAt m k).any (fun s => !(pointsD r s)) || !(allD r (pAt m k) (-1)))
def docCore (l : Poly) : Prop := ∃ F : Inc, (∀ r q, F r q → r < l.length ∧ inRing (rAt l r) (at1 q) = 0 ∧ q ∈ l.flatten) ∧ Core F ∧ ∃ r q, F r q

/-- What Make lets pass. -/
structure Good (m : Mult) : Prop where
  ne : ∀ l ∈ m, l ≠ []
  shut : ∀ l ∈ m, ∀ r ∈ l, Shut r
theorem good_of {m : Mult} (h : Pl.wrong m = 0) : Good m := by
  have hb : m.any Pl.badL = false := by
    unfold Pl.wrong at h
    split at h
    · omega
    · split at h
      · omega
      · rename_i k; simpa using k
  have one : ∀ l ∈ m, Pl.badL l = false := by
    intro l hl
    cases hx : Pl.badL l with
    | false => rfl
    | true => rw [List.any_eq_true.2 ⟨l, hl, hx⟩] at hb; cases hb
  refine ⟨fun l hl e => ?_, fun l hl r hr => ?_⟩
  · have := one l hl
    unfold Pl.badL at this
    rw [e] at this
    simp at this
  · have := one l hl
    unfold Pl.badL at this
    simp only [Bool.or_eq_false_iff] at this
    have hr2 : Pl.badR r = false := by
      cases hx : Pl.badR r with
      | false => rfl
      | true =>
        have e : Pl.badRs l = true := List.any_eq_true.2 ⟨r, hr, hx⟩
        rw [e] at this; cases this.2
    unfold Pl.badR at hr2
    simp only [Bool.or_eq_false_iff, decide_eq_false_iff_not, Bool.not_eq_false', decide_eq_true_eq] at hr2
    have h4 : 4 ≤ r.length := by omega
    refine ⟨h4, ?_⟩
    have e := hr2.2
    rw [List.head?_eq_getElem?, List.getLast?_eq_getElem?, ptAt_get (by omega), ptAt_get (by omega)] at e
    exact Option.some.inj e
theorem rAt_mem {l : Poly} {i : Nat} (h : i < l.length) : rAt l i ∈ l := by
  unfold rAt; rw [List.getD_eq_getElem?_getD, List.getElem?_eq_getElem h]; simp
theorem pAt_mem {m : Mult} {i : Nat} (h : i < m.length) : pAt m i ∈ m := by
  unfold pAt; rw [List.getD_eq_getElem?_getD, List.getElem?_eq_getElem h]; simp
theorem any_congr {α : Type} {l : List α} {f g : α → Bool} (h : ∀ x ∈ l, f x = g x) : l.any f = l.any g := by
  induction l with
  | nil => rfl
  | cons a t ih => rw [List.any_cons, List.any_cons, h a (by simp), ih fun x hx => h x (by simp [hx])]
theorem anyI_congr {n : Nat} {f g : Nat → Bool} (h : ∀ i, i < n → f i = g i) : anyI n f = anyI n g := any_congr fun x hx => h x (List.mem_range.1 hx)

theorem c1_eq {m : Mult} (h : Good m) : badC 1 m = d1 m := by
  unfold badC d1
  refine any_congr fun l hl => ?_
  unfold holdsC simple
  simp only [if_true, Bool.not_not]
  refine any_congr fun r hr => ?_
  rw [clean_eq (h.shut l hl r hr)]
  unfold cleanD
  simp
/-- The first clause holds: no segment without length. -/
theorem long_all {m : Mult} (h : Good m) (h1 : badC 1 m = false) : ∀ l ∈ m, ∀ r ∈ l, Long r := by
  intro l hl r hr
  have : (twice r || selfR r) = false := by
    cases hx : (twice r || selfR r) with
    | false => rfl
    | true =>
      have : badC 1 m = true := by
        unfold badC
        refine List.any_eq_true.2 ⟨l, hl, ?_⟩
        unfold holdsC simple
        simp only [if_true, Bool.not_not]
        exact List.any_eq_true.2 ⟨r, hr, hx⟩
      rw [h1] at this; cases this
  rw [Bool.or_eq_false_iff] at this
  exact long_of (h.shut l hl r hr) this.1
theorem points_eq {a b : Ring} (ha : Long a) (hb : Long b) : pointsD a b = !(cross a b) := by
  unfold pointsD cross
  congr 1
  refine any_congr fun s hs => any_congr fun t ht => ?_
  rw [cross_eq (ha s hs) (hb t ht)]
theorem cross_symm (a b : Ring) : cross a b = cross b a := by
  apply bool_iff
  unfold cross
  simp only [List.any_eq_true]
  constructor
  · rintro ⟨s, hs, t, ht, h⟩; exact ⟨t, ht, s, hs, by rw [crossS_symm]; exact h⟩
  · rintro ⟨s, hs, t, ht, h⟩; exact ⟨t, ht, s, hs, by rw [crossS_symm]; exact h⟩
/-- Pairs, either way round. -/
theorem pairs_eq {n : Nat} {f : Nat → Nat → Bool} (hs : ∀ i j, f i j = f j i) : (anyI n fun j => anyI j fun i => f i j) = anyI n fun i => anyI n fun j => decide (j ≠ i) && f i j := by
  apply bool_iff
  simp only [anyI_iff, Bool.and_eq_true, decide_eq_true_eq]
  constructor
  · rintro ⟨j, hj, i, hi, h⟩; exact ⟨i, by omega, j, hj, by omega, h⟩
  · rintro ⟨i, hi, j, hj, hne, h⟩
    rcases Nat.lt_or_ge i j with k | k
    · exact ⟨j, hj, i, k, h⟩
    · exact ⟨i, hi, j, by omega, by rw [hs]; exact h⟩
theorem c2_eq {m : Mult} (hl : ∀ l ∈ m, ∀ r ∈ l, Long r) : badC 2 m = d2 m := by
  unfold badC d2
  refine any_congr fun l h => ?_
  unfold holdsC touch
  simp only [Bool.not_not, if_true]
  rw [if_neg (by decide), Bool.not_not, pairs_eq (f := fun i j => cross (rAt l i) (rAt l j)) (fun i j => cross_symm _ _)]
  refine anyI_congr fun i hi => anyI_congr fun j hj => ?_
  rw [points_eq (hl l h _ (rAt_mem hi)) (hl l h _ (rAt_mem hj)), Bool.not_not]
theorem mid_w {s : Seg} {q : Poly} {m : Spot} (hs : s.1 ≠ s.2) (h : m ∈ mids s q) : m.2 = 2 := by
  obtain ⟨y, z, -, rfl⟩ := (mem_mids hs q m).1 h
  rfl
theorem lies_eq {r o : Ring} (hr : Long r) (ho : Long o) {k k' : Int} (hk : (k = 1 ∧ k' = 2) ∨ (k = -1 ∧ k' = 0)) : lies r o k' = allD r [o] k := by
  unfold lies allD
  congr 1
  refine any_congr fun s hs => ?_
  apply bool_iff
  simp only [List.any_eq_true, decide_eq_true_eq]
  have hsl := hr s hs
  have one : ∀ m : Spot, m ∈ mids s [o] → (place o m ≠ k' ↔ inP [o] m ≠ k) := by
    intro m hm
    have hw := mid_w hsl hm
    obtain ⟨e1, e2⟩ := place_eq (p := m) ho (by omega)
    show place o m ≠ k' ↔ inRing o m ≠ k
    rw [e1]
    unfold pl
    rcases e2 with e | e | e <;> rw [e] <;> rcases hk with ⟨rfl, rfl⟩ | ⟨rfl, rfl⟩ <;> simp
  constructor
  · rintro ⟨m, hm, h⟩; exact ⟨m, (mids_midD hsl _ m).1 hm, (one m hm).1 h⟩
  · rintro ⟨m, hm, h⟩
    have hm' := (mids_midD hsl _ m).2 hm
    exact ⟨m, hm', (one m hm').2 h⟩
theorem c3_eq {m : Mult} (hl : ∀ l ∈ m, ∀ r ∈ l, Long r) : badC 3 m = d3 m := by
  unfold badC d3
  refine any_congr fun l h => ?_
  unfold holdsC nested
  rw [if_neg (by decide), if_neg (by decide), if_pos rfl, Bool.not_not]
  refine anyI_congr fun i hi => ?_
  congr 1
  refine anyI_congr fun j hj => ?_
  rw [lies_eq (hl l h _ (rAt_mem hi)) (hl l h _ (rAt_mem hj)) (k := nestD j) (k' := nestW j) (by unfold nestD nestW; split <;> simp)]
  congr 1
  exact decide_eq_decide.2 ⟨fun e => Ne.symm e, fun e => Ne.symm e⟩
theorem core_eq {l : Poly} (hl : ∀ r ∈ l, Long r) : way l = true ↔ docCore l := by
  rw [way_core]
  have e : ∀ r p, r < l.length → (incL l r p ↔ inRing (rAt l r) (at1 p) = 0) := by
    intro r p hr
    obtain ⟨e1, e2⟩ := place_eq (r := rAt l r) (p := at1 p) (hl _ (rAt_mem hr)) (by show (0 : Int) < 1; omega)
    unfold incL
    rw [e1]
    unfold pl
    rcases e2 with e | e | e <;> rw [e] <;> simp
  constructor
  · rintro ⟨F, h1, h2⟩; exact ⟨F, fun r q t => ⟨(h1 r q t).1, (e r q (h1 r q t).1).1 (h1 r q t).2.1, (h1 r q t).2.2⟩, h2⟩
  · rintro ⟨F, h1, h2⟩; exact ⟨F, fun r q t => ⟨(h1 r q t).1, (e r q (h1 r q t).1).2 (h1 r q t).2.1, (h1 r q t).2.2⟩, h2⟩
theorem enters_eq {a b : Poly} (hb0 : b ≠ []) (ha : ∀ r ∈ a, Long r) (hb : ∀ r ∈ b, Long r) (hx : boundsX a b = false) : enters a b = a.any fun r => !(allD r b (-1)) := by
  unfold enters
  refine any_congr fun r hr => ?_
  unfold allD
  rw [Bool.not_not]
  refine any_congr fun s hs => ?_
  have hsl := ha r hr s hs
  have off : ∀ m ∈ mids s b, ∀ o ∈ b, place o m ≠ 1 := by
    intro m hm o ho
    refine mid_off hsl ho (hb o ho) hm fun t ht => ?_
    cases hc : crossS (s.1, s.2) t with
    | false => rfl
    | true =>
      have : boundsX a b = true := by
        unfold boundsX
        refine List.any_eq_true.2 ⟨r, hr, List.any_eq_true.2 ⟨o, ho, ?_⟩⟩
        unfold cross
        exact List.any_eq_true.2 ⟨s, hs, List.any_eq_true.2 ⟨t, ht, hc⟩⟩
      rw [hx] at this; cases this
  have one : ∀ m ∈ mids s b, (free b m = false ↔ inP b m ≠ -1) := by
    intro m hm
    have hw := mid_w hsl hm
    have := free_in (l := b) (p := m) (by omega) hb0 fun r hr => ⟨hb r hr, off m hm r hr⟩
    constructor
    · intro e e2; rw [this.2 e2] at e; cases e
    · intro e
      cases hf : free b m with
      | false => rfl
      | true => exact absurd (this.1 hf) e
  apply bool_iff
  simp only [List.any_eq_true, Bool.not_eq_true', decide_eq_true_eq]
  constructor
  · rintro ⟨m, hm, h⟩; exact ⟨m, (mids_midD hsl _ m).1 hm, (one m hm).1 h⟩
  · rintro ⟨m, hm, h⟩
    have hm' := (mids_midD hsl _ m).2 hm
    exact ⟨m, hm', (one m hm').2 h⟩
/-- Two polygons, the one against the other. -/
def half (a b : Poly) : Bool := a.any fun r => b.any (fun s => !(pointsD r s)) || !(allD r b (-1))
theorem half_eq {a b : Poly} (ha0 : a ≠ []) (hb0 : b ≠ []) (ha : ∀ r ∈ a, Long r) (hb : ∀ r ∈ b, Long r) : (boundsX a b || enters a b || enters b a) = (half a b || half b a) := by
  have hs : boundsX a b = boundsX b a := by
    apply bool_iff
    unfold boundsX
    simp only [List.any_eq_true]
    constructor
    · rintro ⟨r, hr, o, ho, h⟩; exact ⟨o, ho, r, hr, by rw [cross_symm]; exact h⟩
    · rintro ⟨r, hr, o, ho, h⟩; exact ⟨o, ho, r, hr, by rw [cross_symm]; exact h⟩
  have pt : ∀ {a b : Poly}, (∀ r ∈ a, Long r) → (∀ r ∈ b, Long r) → half a b = (boundsX a b || a.any fun r => !(allD r b (-1))) := by
    intro a b ha hb
    apply bool_iff
    unfold half boundsX
    simp only [List.any_eq_true, Bool.or_eq_true]
    constructor
    · rintro ⟨r, hr, ⟨s, hs, h⟩ | h⟩
      · rw [points_eq (ha r hr) (hb s hs), Bool.not_not] at h
        exact .inl ⟨r, hr, s, hs, h⟩
      · exact .inr ⟨r, hr, h⟩
    · rintro (⟨r, hr, s, hs, h⟩ | ⟨r, hr, h⟩)
      · exact ⟨r, hr, .inl ⟨s, hs, by rw [points_eq (ha r hr) (hb s hs), Bool.not_not]; exact h⟩⟩
      · exact ⟨r, hr, .inr h⟩
  rw [pt ha hb, pt hb ha, ← hs]
  cases hx : boundsX a b with
  | true => rfl
  | false =>
    rw [enters_eq hb0 ha hb hx, enters_eq ha0 hb ha (hs ▸ hx)]
    simp
theorem c5_eq {m : Mult} (hg : Good m) (hl : ∀ l ∈ m, ∀ r ∈ l, Long r) : overlap m = d5 m := by
  have e1 : overlap m = anyI m.length fun j => anyI j fun i => (half (pAt m i) (pAt m j) || half (pAt m j) (pAt m i)) := by
    unfold overlap
    refine anyI_congr fun j hj => anyI_congr fun i hi => ?_
    exact half_eq (hg.ne _ (pAt_mem (by omega))) (hg.ne _ (pAt_mem hj)) (hl _ (pAt_mem (by omega))) (hl _ (pAt_mem hj))
  rw [e1]
  apply bool_iff
  unfold d5 half
  simp only [anyI_iff, List.any_eq_true, Bool.and_eq_true, decide_eq_true_eq, Bool.or_eq_true]
  constructor
  · rintro ⟨j, hj, i, hi, ⟨r, hr, h⟩ | ⟨r, hr, h⟩⟩
    · exact ⟨i, by omega, r, hr, j, hj, by omega, h⟩
    · exact ⟨j, hj, r, hr, i, by omega, by omega, h⟩
  · rintro ⟨p, hp, r, hr, k, hk, hne, h⟩
    rcases Nat.lt_or_ge p k with g | g
    · exact ⟨k, hk, p, g, .inl ⟨r, hr, h⟩⟩
    · exact ⟨p, hp, k, by omega, .inr ⟨r, hr, h⟩⟩
end Vd
end Go.Proofs.YtcclepohmhdpbaaGreatDoor

/- GEOMETRY, PLAINLY: a segment between two points, and how often a ring crosses it. -/
namespace Go.Proofs.YtcclepohmhdpbaaGreatDoor
set_option linter.all false
namespace Vd
theorem pp {x y : Int} (hx : 0 < x) (hy : 0 < y) : 0 < x * y := Int.mul_pos hx hy
theorem pn {x y : Int} (hx : 0 < x) (hy : y < 0) : x * y < 0 := Int.mul_neg_of_pos_of_neg hx hy
theorem np {x y : Int} (hx : x < 0) (hy : 0 < y) : x * y < 0 := Int.mul_neg_of_neg_of_pos hx hy
theorem nng {x y : Int} (hx : x < 0) (hy : y < 0) : 0 < x * y := Int.mul_pos_of_neg_of_neg hx hy
theorem p0 {x y : Int} (hx : 0 ≤ x) (hy : 0 ≤ y) : 0 ≤ x * y := Int.mul_nonneg hx hy
theorem m0 {x y : Int} (hx : 0 ≤ x) (hy : y ≤ 0) : x * y ≤ 0 := Int.mul_nonpos_of_nonneg_of_nonpos hx hy
theorem n0 {x y : Int} (hx : x ≤ 0) (hy : 0 ≤ y) : x * y ≤ 0 := Int.mul_nonpos_of_nonpos_of_nonneg hx hy
theorem q0 {x y : Int} (hx : x ≤ 0) (hy : y ≤ 0) : 0 ≤ x * y := Int.mul_nonneg_of_nonpos_of_nonpos hx hy
theorem sgn_of {u P z : Int} (hu : 0 < u) (e : u * P = z) : (0 < P ↔ 0 < z) ∧ (P < 0 ↔ z < 0) ∧ (P = 0 ↔ z = 0) := by
  rcases Int.lt_trichotomy P 0 with h | h | h
  · have := pn hu h; omega
  · have : u * P = 0 := by rw [h]; simp
    omega
  · have := pp hu h; omega
def Opp (A B : Int) : Prop := (A < 0 ∧ 0 < B) ∨ (0 < A ∧ B < 0)
instance (A B : Int) : Decidable (Opp A B) := by unfold Opp; infer_instance
theorem opp_symm {A B : Int} : Opp A B ↔ Opp B A := by unfold Opp; omega
theorem opp_neg {A B : Int} : Opp (-A) (-B) ↔ Opp A B := by unfold Opp; omega
theorem core_le {u A B a b P Q : Int} (hu : 0 < u) (hab : a ≤ b) (e1 : u * P = B * a - A * b) (e2 : u * Q = B * (a - u) - A * (b - u))
    (h1 : 0 < a → a ≤ u → A ≠ 0) (h2 : 0 < b → b ≤ u → B ≠ 0) (h3 : (a ≤ 0 ∧ 0 < b) ∨ (b ≤ 0 ∧ 0 < a) → P ≠ 0) (h4 : (a ≤ u ∧ u < b) ∨ (b ≤ u ∧ u < a) → Q ≠ 0)
    (h5 : a = u → b = u → ¬ Opp A B) :
    (((a ≤ 0 ∧ 0 < b ∧ 0 < P) ∨ (b ≤ 0 ∧ 0 < a ∧ P < 0)) ↔ ((a ≤ u ∧ u < b ∧ 0 < Q) ∨ (b ≤ u ∧ u < a ∧ Q < 0))) ↔
      ¬ ((Opp A B ∧ Opp P Q) ↔ ((0 < a ∧ a ≤ u ∧ A < 0) ↔ (0 < b ∧ b ≤ u ∧ B < 0))) := by
  obtain ⟨P1, P2, P3⟩ := sgn_of hu e1
  obtain ⟨Q1, Q2, Q3⟩ := sgn_of hu e2
  clear e1 e2
  by_cases zb : b ≤ 0
  · -- both below
    have n : ¬ (Opp A B ∧ Opp P Q) := by
      rintro ⟨k | k, k2⟩
      · have := m0 (Int.le_of_lt k.2) (show a ≤ 0 by omega); have := q0 (Int.le_of_lt k.1) zb
        have := m0 (Int.le_of_lt k.2) (show a - u ≤ 0 by omega); have := q0 (Int.le_of_lt k.1) (show b - u ≤ 0 by omega)
        unfold Opp at k2; omega
      · have := q0 (Int.le_of_lt k.2) (show a ≤ 0 by omega); have := m0 (Int.le_of_lt k.1) zb
        have := q0 (Int.le_of_lt k.2) (show a - u ≤ 0 by omega); have := m0 (Int.le_of_lt k.1) (show b - u ≤ 0 by omega)
        unfold Opp at k2; omega
    simp only [n, false_iff]
    clear n h5
    constructor
    · intro _; omega
    · intro _; omega
  by_cases za : u < a
  · have n : ¬ (Opp A B ∧ Opp P Q) := by
      rintro ⟨k | k, k2⟩
      · have := p0 (Int.le_of_lt k.2) (show 0 ≤ a by omega); have := n0 (Int.le_of_lt k.1) (show 0 ≤ b by omega)
        have := p0 (Int.le_of_lt k.2) (show 0 ≤ a - u by omega); have := n0 (Int.le_of_lt k.1) (show 0 ≤ b - u by omega)
        unfold Opp at k2; omega
      · have := n0 (Int.le_of_lt k.2) (show 0 ≤ a by omega); have := p0 (Int.le_of_lt k.1) (show 0 ≤ b by omega)
        have := n0 (Int.le_of_lt k.2) (show 0 ≤ a - u by omega); have := p0 (Int.le_of_lt k.1) (show 0 ≤ b - u by omega)
        unfold Opp at k2; omega
    simp only [n, false_iff]
    clear n h5
    constructor
    · intro _; omega
    · intro _; omega
  by_cases ya : 0 < a
  · have hA := h1 ya (by omega)
    by_cases yb : b ≤ u
    · -- both between
      have hB := h2 (by omega) yb
      have d : Opp A B → Opp P Q := by
        intro k
        have k5 := fun e1 e2 => h5 e1 e2 k
        rcases k with k | k
        · have := pp k.2 ya; have := np k.1 (show 0 < b by omega)
          have : 0 < P := P1.2 (by omega)
          rcases Int.lt_or_eq_of_le (show a ≤ u by omega) with g | g
          · have := pn k.2 (show a - u < 0 by omega); have := q0 (Int.le_of_lt k.1) (show b - u ≤ 0 by omega)
            have : Q < 0 := Q2.2 (by omega)
            unfold Opp; omega
          · exact absurd (show b = u by omega) (k5 g)
        · have := np k.2 ya; have := pp k.1 (show 0 < b by omega)
          have : P < 0 := P2.2 (by omega)
          rcases Int.lt_or_eq_of_le (show a ≤ u by omega) with g | g
          · have := nng k.2 (show a - u < 0 by omega); have := m0 (Int.le_of_lt k.1) (show b - u ≤ 0 by omega)
            have : 0 < Q := Q1.2 (by omega)
            unfold Opp; omega
          · exact absurd (show b = u by omega) (k5 g)
      have e : (Opp A B ∧ Opp P Q) ↔ Opp A B := ⟨fun k => k.1, fun k => ⟨k, d k⟩⟩
      rw [e]
      clear d e h5 P1 P2 P3 Q1 Q2 Q3 h3 h4
      unfold Opp
      omega
    · -- a between, b above
      have hQ := h4 (by omega)
      have e : (Opp A B ∧ Opp P Q) ↔ ((A < 0 ∧ Q < 0) ∨ (0 < A ∧ 0 < Q)) := by
        rcases Int.lt_or_gt_of_ne hA with k | k
        · have t1 := np k (show 0 < b by omega)
          have t2 := np k (show 0 < b - u by omega)
          constructor
          · rintro ⟨o1 | o1, o2⟩
            · have := pp o1.2 ya
              have : 0 < P := P1.2 (by omega)
              unfold Opp at o2; omega
            · omega
          · intro o
            have hq : Q < 0 := by omega
            have hB : 0 < B := by
              rcases Int.lt_or_le 0 B with g | g
              · exact g
              · have := q0 g (show a - u ≤ 0 by omega)
                have := Q2.1 hq; omega
            have := pp hB ya
            have : 0 < P := P1.2 (by omega)
            unfold Opp; omega
        · have t1 := pp k (show 0 < b by omega)
          have t2 := pp k (show 0 < b - u by omega)
          constructor
          · rintro ⟨o1 | o1, o2⟩
            · omega
            · have := np o1.2 ya
              have : P < 0 := P2.2 (by omega)
              unfold Opp at o2; omega
          · intro o
            have hq : 0 < Q := by omega
            have hB : B < 0 := by
              rcases Int.lt_or_le B 0 with g | g
              · exact g
              · have := m0 g (show a - u ≤ 0 by omega)
                have := Q1.1 hq; omega
            have := np hB ya
            have : P < 0 := P2.2 (by omega)
            unfold Opp; omega
      rw [e]
      clear e h5 P1 P2 P3 Q1 Q2 Q3 h3 h4
      omega
  · by_cases yb : b ≤ u
    · -- a below, b between
      have hB := h2 (by omega) yb
      have hP := h3 (by omega)
      have e : (Opp A B ∧ Opp P Q) ↔ ((B < 0 ∧ P < 0) ∨ (0 < B ∧ 0 < P)) := by
        rcases Int.lt_or_gt_of_ne hB with k | k
        · have t1 := q0 (Int.le_of_lt k) (show a ≤ 0 by omega)
          have t2 := nng k (show a - u < 0 by omega)
          constructor
          · rintro ⟨o1 | o1, o2⟩
            · omega
            · have := m0 (Int.le_of_lt o1.1) (show b - u ≤ 0 by omega)
              have : 0 < Q := Q1.2 (by omega)
              unfold Opp at o2; omega
          · intro o
            have hp : P < 0 := by omega
            have hA : 0 < A := by
              rcases Int.lt_or_le 0 A with g | g
              · exact g
              · have := n0 g (show 0 ≤ b by omega)
                have := P2.1 hp; omega
            have := m0 (Int.le_of_lt hA) (show b - u ≤ 0 by omega)
            have : 0 < Q := Q1.2 (by omega)
            unfold Opp; omega
        · have t1 := m0 (Int.le_of_lt k) (show a ≤ 0 by omega)
          have t2 := pn k (show a - u < 0 by omega)
          constructor
          · rintro ⟨o1 | o1, o2⟩
            · have := q0 (Int.le_of_lt o1.1) (show b - u ≤ 0 by omega)
              have : Q < 0 := Q2.2 (by omega)
              unfold Opp at o2; omega
            · omega
          · intro o
            have hp : 0 < P := by omega
            have hA : A < 0 := by
              rcases Int.lt_or_le A 0 with g | g
              · exact g
              · have := p0 g (show 0 ≤ b by omega)
                have := P1.1 hp; omega
            have := q0 (Int.le_of_lt hA) (show b - u ≤ 0 by omega)
            have : Q < 0 := Q2.2 (by omega)
            unfold Opp; omega
      rw [e]
      clear e h5 P1 P2 P3 Q1 Q2 Q3 h3 h4
      omega
    · -- a below, b above
      have hP := h3 (by omega)
      have hQ := h4 (by omega)
      have d : Opp P Q → Opp A B := by
        rintro (k | k)
        · have f1 := P2.1 k.1
          have f2 := Q1.1 k.2
          have hA : 0 < A := by
            rcases Int.lt_or_le 0 A with g | g
            · exact g
            · have := n0 g (show 0 ≤ b by omega)
              have hB : 0 < B := by
                rcases Int.lt_or_le 0 B with g2 | g2
                · exact g2
                · have := q0 g2 (show a ≤ 0 by omega); omega
              have := m0 (Int.le_of_lt hB) (show a - u ≤ 0 by omega)
              have : B * a - B * (a - u) = B * u := by rw [← Int.mul_sub]; congr 1; omega
              have : A * b - A * (b - u) = A * u := by rw [← Int.mul_sub]; congr 1; omega
              have := pp hB hu
              have := n0 g (Int.le_of_lt hu)
              omega
          have := pp hA (show 0 < b by omega)
          have := pp hA (show 0 < b - u by omega)
          have hB : B < 0 := by
            rcases Int.lt_or_le B 0 with g2 | g2
            · exact g2
            · have := m0 g2 (show a - u ≤ 0 by omega); omega
          exact .inr ⟨hA, hB⟩
        · have f1 := P1.1 k.1
          have f2 := Q2.1 k.2
          have hA : A < 0 := by
            rcases Int.lt_or_le A 0 with g | g
            · exact g
            · have := p0 g (show 0 ≤ b by omega)
              have hB : B < 0 := by
                rcases Int.lt_or_le B 0 with g2 | g2
                · exact g2
                · have := m0 g2 (show a ≤ 0 by omega); omega
              have := q0 (Int.le_of_lt hB) (show a - u ≤ 0 by omega)
              have : B * a - B * (a - u) = B * u := by rw [← Int.mul_sub]; congr 1; omega
              have : A * b - A * (b - u) = A * u := by rw [← Int.mul_sub]; congr 1; omega
              have := np hB hu
              have := p0 g (Int.le_of_lt hu)
              omega
          have := np hA (show 0 < b by omega)
          have := np hA (show 0 < b - u by omega)
          have hB : 0 < B := by
            rcases Int.lt_or_le 0 B with g2 | g2
            · exact g2
            · have := q0 g2 (show a - u ≤ 0 by omega); omega
          exact .inl ⟨hA, hB⟩
      have e : (Opp A B ∧ Opp P Q) ↔ Opp P Q := ⟨fun k => k.2, fun k => ⟨d k, k⟩⟩
      rw [e]
      clear d e h5 P1 P2 P3 Q1 Q2 Q3 h3 h4 h1 h2
      unfold Opp
      omega
theorem core_x {u A B a b P Q : Int} (hu : 0 < u) (e1 : u * P = B * a - A * b) (e2 : u * Q = B * (a - u) - A * (b - u))
    (h1 : 0 < a → a ≤ u → A ≠ 0) (h2 : 0 < b → b ≤ u → B ≠ 0) (h3 : (a ≤ 0 ∧ 0 < b) ∨ (b ≤ 0 ∧ 0 < a) → P ≠ 0) (h4 : (a ≤ u ∧ u < b) ∨ (b ≤ u ∧ u < a) → Q ≠ 0)
    (h5 : a = u → b = u → ¬ Opp A B) :
    (((a ≤ 0 ∧ 0 < b ∧ 0 < P) ∨ (b ≤ 0 ∧ 0 < a ∧ P < 0)) ↔ ((a ≤ u ∧ u < b ∧ 0 < Q) ∨ (b ≤ u ∧ u < a ∧ Q < 0))) ↔
      ¬ ((Opp A B ∧ Opp P Q) ↔ ((0 < a ∧ a ≤ u ∧ A < 0) ↔ (0 < b ∧ b ≤ u ∧ B < 0))) := by
  rcases Int.le_total a b with h | h
  · exact core_le hu h e1 e2 h1 h2 h3 h4 h5
  · have := core_le (P := -P) (Q := -Q) (A := B) (B := A) hu h (by rw [Int.mul_neg, e1]; omega) (by rw [Int.mul_neg, e2]; omega) h2 h1
      (fun k => by have := h3 (by omega); omega) (fun k => by have := h4 (by omega); omega) (fun k1 k2 o => h5 k2 k1 (opp_symm.1 o))
    rw [opp_symm (A := B), opp_neg] at this
    have t1 : ((a ≤ 0 ∧ 0 < b ∧ 0 < P) ∨ (b ≤ 0 ∧ 0 < a ∧ P < 0)) ↔ ((b ≤ 0 ∧ 0 < a ∧ 0 < -P) ∨ (a ≤ 0 ∧ 0 < b ∧ -P < 0)) := by omega
    have t2 : ((a ≤ u ∧ u < b ∧ 0 < Q) ∨ (b ≤ u ∧ u < a ∧ Q < 0)) ↔ ((b ≤ u ∧ u < a ∧ 0 < -Q) ∨ (a ≤ u ∧ u < b ∧ -Q < 0)) := by omega
    rw [t1, t2, this, iff_comm (a := (0 < b ∧ b ≤ u ∧ B < 0))]
end Vd
end Go.Proofs.YtcclepohmhdpbaaGreatDoor

/- GEOMETRY, PLAINLY: an edge, and two points: rays against crossings. -/
namespace Go.Proofs.YtcclepohmhdpbaaGreatDoor
set_option linter.all false
namespace Vd
/-- The segment from p to q is crossed by the one from a to b, within both. -/
def Xs (p q a b : Pnt) : Prop := Opp (cr p q a 1) (cr p q b 1) ∧ Opp (cr a b p 1) (cr a b q 1)
instance (p q a b : Pnt) : Decidable (Xs p q a b) := by unfold Xs; infer_instance
def dR (p q v : Pnt) : Bool := decide (p.2 < v.2 ∧ v.2 ≤ q.2 ∧ cr p q v 1 < 0)
theorem ray_one (a b p : Pnt) : ray a b p 1 = decide ((a.2 - p.2 ≤ 0 ∧ 0 < b.2 - p.2 ∧ 0 < cr a b p 1) ∨ (b.2 - p.2 ≤ 0 ∧ 0 < a.2 - p.2 ∧ cr a b p 1 < 0)) := by
  unfold ray
  simp only [Int.mul_one, sg_pos, sg_neg]
  by_cases h1 : a.2 > p.2 <;> by_cases h2 : b.2 > p.2
  · rw [if_pos (by simp [h1, h2])]; symm; exact decide_eq_false (by omega)
  · rw [if_neg (by simp [h1, h2]), if_neg h2]; exact decide_eq_decide.2 (by omega)
  · rw [if_neg (by simp [h1, h2]), if_pos h2]; exact decide_eq_decide.2 (by omega)
  · rw [if_pos (by simp [h1, h2])]; symm; exact decide_eq_false (by omega)
/-- On a line, what lies between by height lies between by width. -/
theorem line_btw {u U x al : Int} (hu : 0 < u) (h0 : 0 ≤ al) (h1 : al ≤ u) (e : U * al = u * x) : btw 0 x U := by
  rcases Int.le_total 0 U with g | g
  · left
    have k1 := p0 g h0
    have k2 : U * al ≤ U * u := Int.mul_le_mul_of_nonneg_left h1 g
    rw [e] at k1 k2
    refine ⟨Int.nonneg_of_mul_nonneg_right k1 hu, ?_⟩
    rw [Int.mul_comm U u] at k2
    exact Int.le_of_mul_le_mul_left k2 hu
  · right
    have k1 := n0 g h0
    have k2 : U * u ≤ U * al := Int.mul_le_mul_of_nonpos_left g h1
    rw [e] at k1 k2
    rw [Int.mul_comm U u] at k2
    refine ⟨Int.le_of_mul_le_mul_left k2 hu, ?_⟩
    rcases Int.lt_or_le 0 x with g2 | g2
    · have := pp hu g2; omega
    · exact g2
/-- On the line from a to b, between their heights: on the segment. -/
theorem has_line_y {a b p : Pnt} (h0 : cr a b p 1 = 0) (h : (a.2 ≤ p.2 ∧ p.2 ≤ b.2 ∧ a.2 < b.2) ∨ (b.2 ≤ p.2 ∧ p.2 ≤ a.2 ∧ b.2 < a.2)) : has a b p 1 := by
  refine ⟨h0, ?_, by unfold btw; omega⟩
  unfold cr at h0
  rcases h with ⟨h1, h2, h3⟩ | ⟨h1, h2, h3⟩
  · have := line_btw (u := b.2 - a.2) (U := b.1 - a.1) (x := p.1 - a.1) (al := p.2 - a.2) (by omega) (by omega) (by omega) (by simp only [Int.mul_one] at h0; omega)
    unfold btw at *; omega
  · have := line_btw (u := a.2 - b.2) (U := b.1 - a.1) (x := p.1 - a.1) (al := a.2 - p.2) (by omega) (by omega) (by omega) (by
      simp only [Int.mul_one] at h0
      have e1 : (b.1 - a.1) * (a.2 - p.2) = - ((b.1 - a.1) * (p.2 - a.2)) := by grind
      have e2 : (a.2 - b.2) * (p.1 - a.1) = - ((b.2 - a.2) * (p.1 - a.1)) := by grind
      omega)
    unfold btw at *; omega
theorem cr_flat {p q a : Pnt} (h : a.2 = q.2) : cr p q a 1 = (q.2 - p.2) * (q.1 - a.1) := by unfold cr; rw [h]; grind
theorem bxor_of {r1 r2 x d1 d2 : Prop} [Decidable r1] [Decidable r2] [Decidable x] [Decidable d1] [Decidable d2] (h : (r1 ↔ r2) ↔ ¬ (x ↔ (d1 ↔ d2))) : (decide r1 ^^ decide r2) = (decide x ^^ (decide d1 ^^ decide d2)) := by
  by_cases c1 : r1 <;> by_cases c2 : r2 <;> by_cases c3 : x <;> by_cases c4 : d1 <;> by_cases c5 : d2 <;> simp_all
theorem edge_up {p q a b : Pnt} (hpq : p.2 < q.2) (ha : ¬ has p q a 1) (hb : ¬ has p q b 1) (hp : ¬ has a b p 1) (hq : ¬ has a b q 1) :
    (ray a b p 1 ^^ ray a b q 1) = (decide (Xs p q a b) ^^ (dR p q a ^^ dR p q b)) := by
  have key := core_x (u := q.2 - p.2) (A := cr p q a 1) (B := cr p q b 1) (a := a.2 - p.2) (b := b.2 - p.2) (P := cr a b p 1) (Q := cr a b q 1) (by omega)
    (by unfold cr; grind) (by unfold cr; grind)
    (fun h1 h2 e => ha (has_line_y e (by omega))) (fun h1 h2 e => hb (has_line_y e (by omega)))
    (fun h e => hp (has_line_y e (by omega))) (fun h e => hq (has_line_y e (by omega)))
    (fun h1 h2 o => hq (by
      have e1 := cr_flat (p := p) (q := q) (a := a) (by omega)
      have e2 := cr_flat (p := p) (q := q) (a := b) (by omega)
      rw [e1, e2] at o
      have s1 := sgn_of (u := q.2 - p.2) (P := q.1 - a.1) (by omega) rfl
      have s2 := sgn_of (u := q.2 - p.2) (P := q.1 - b.1) (by omega) rfl
      refine ⟨?_, ?_, by unfold btw; omega⟩
      · unfold cr; rw [show b.2 - a.2 = 0 by omega, show q.2 - a.2 * 1 = 0 by omega]; simp
      · unfold Opp at o; unfold btw; omega))
  rw [ray_one, ray_one]
  have t : ((a.2 - q.2 ≤ 0 ∧ 0 < b.2 - q.2 ∧ 0 < cr a b q 1) ∨ (b.2 - q.2 ≤ 0 ∧ 0 < a.2 - q.2 ∧ cr a b q 1 < 0)) ↔ ((a.2 - p.2 ≤ q.2 - p.2 ∧ q.2 - p.2 < b.2 - p.2 ∧ 0 < cr a b q 1) ∨ (b.2 - p.2 ≤ q.2 - p.2 ∧ q.2 - p.2 < a.2 - p.2 ∧ cr a b q 1 < 0)) := by omega
  have t1 : (p.2 < a.2 ∧ a.2 ≤ q.2 ∧ cr p q a 1 < 0) ↔ (0 < a.2 - p.2 ∧ a.2 - p.2 ≤ q.2 - p.2 ∧ cr p q a 1 < 0) := by omega
  have t2 : (p.2 < b.2 ∧ b.2 ≤ q.2 ∧ cr p q b 1 < 0) ↔ (0 < b.2 - p.2 ∧ b.2 - p.2 ≤ q.2 - p.2 ∧ cr p q b 1 < 0) := by omega
  unfold dR
  rw [decide_eq_decide.2 t, decide_eq_decide.2 t1, decide_eq_decide.2 t2]
  exact bxor_of key
theorem edge_flat {p q a b : Pnt} (hpq : p.2 = q.2) (ha : ¬ has p q a 1) (hb : ¬ has p q b 1) (hp : ¬ has a b p 1) (hq : ¬ has a b q 1) :
    (ray a b p 1 ^^ ray a b q 1) = decide (Xs p q a b) := by
  have eA : cr p q a 1 = (q.1 - p.1) * (a.2 - p.2) := by unfold cr; rw [hpq]; grind
  have eB : cr p q b 1 = (q.1 - p.1) * (b.2 - p.2) := by unfold cr; rw [hpq]; grind
  rw [ray_one, ray_one]
  unfold Xs
  have hP : (a.2 - p.2 ≤ 0 ∧ 0 < b.2 - p.2) ∨ (b.2 - p.2 ≤ 0 ∧ 0 < a.2 - p.2) → cr a b p 1 ≠ 0 := fun h e => hp (has_line_y e (by omega))
  have hQ : (a.2 - p.2 ≤ 0 ∧ 0 < b.2 - p.2) ∨ (b.2 - p.2 ≤ 0 ∧ 0 < a.2 - p.2) → cr a b q 1 ≠ 0 := fun h e => hq (has_line_y e (by omega))
  have key : Opp (cr a b p 1) (cr a b q 1) → ((a.2 - p.2 ≤ 0 ∧ 0 < b.2 - p.2) ∨ (b.2 - p.2 ≤ 0 ∧ 0 < a.2 - p.2)) → Opp (cr p q a 1) (cr p q b 1) := by
    intro o h
    have hne : q.1 - p.1 ≠ 0 := by
      intro e
      have : p = q := Prod.ext (by omega) hpq
      rw [this] at o; unfold Opp at o; omega
    -- neither end is at the height of p
    have ia : a.2 ≠ p.2 := by
      intro e
      have f1 : cr a b p 1 = - ((b.2 - a.2) * (p.1 - a.1)) := by unfold cr; rw [e]; grind
      have f2 : cr a b q 1 = - ((b.2 - a.2) * (q.1 - a.1)) := by unfold cr; rw [e, hpq]; grind
      have s1 := sgn_of (u := b.2 - a.2) (P := p.1 - a.1) (by omega) rfl
      have s2 := sgn_of (u := b.2 - a.2) (P := q.1 - a.1) (by omega) rfl
      rw [f1, f2] at o
      refine ha ⟨by rw [eA, e]; simp, ?_, by unfold btw; omega⟩
      unfold Opp at o; unfold btw; omega
    have ib : b.2 ≠ p.2 := by
      intro e
      have f1 : cr a b p 1 = - ((a.2 - b.2) * (b.1 - p.1)) := by unfold cr; rw [e]; grind
      have f2 : cr a b q 1 = - ((a.2 - b.2) * (b.1 - q.1)) := by unfold cr; rw [e, hpq]; grind
      have s1 := sgn_of (u := a.2 - b.2) (P := b.1 - p.1) (by omega) rfl
      have s2 := sgn_of (u := a.2 - b.2) (P := b.1 - q.1) (by omega) rfl
      rw [f1, f2] at o
      refine hb ⟨by rw [eB, e]; simp, ?_, by unfold btw; omega⟩
      unfold Opp at o; unfold btw; omega
    rw [eA, eB]
    have m1 := Int.lt_or_gt_of_ne hne
    rcases m1 with m | m <;> rcases h with h | h
    · exact .inr ⟨nng m (by omega), np m (by omega)⟩
    · exact .inl ⟨np m (by omega), nng m (by omega)⟩
    · exact .inl ⟨pn m (by omega), pp m (by omega)⟩
    · exact .inr ⟨pp m (by omega), pn m (by omega)⟩
  have back : Opp (cr p q a 1) (cr p q b 1) → ((a.2 - p.2 ≤ 0 ∧ 0 < b.2 - p.2) ∨ (b.2 - p.2 ≤ 0 ∧ 0 < a.2 - p.2)) := by
    intro o
    rw [eA, eB] at o
    rcases Int.lt_trichotomy (q.1 - p.1) 0 with m | m | m
    · have s1 := sgn_of (u := -(q.1 - p.1)) (P := a.2 - p.2) (by omega) rfl
      have s2 := sgn_of (u := -(q.1 - p.1)) (P := b.2 - p.2) (by omega) rfl
      rw [Int.neg_mul] at s1 s2
      unfold Opp at o; omega
    · rw [m] at o; unfold Opp at o; simp at o
    · have s1 := sgn_of (u := q.1 - p.1) (P := a.2 - p.2) (by omega) rfl
      have s2 := sgn_of (u := q.1 - p.1) (P := b.2 - p.2) (by omega) rfl
      unfold Opp at o; omega
  have k := bxor_of (r1 := (a.2 - p.2 ≤ 0 ∧ 0 < b.2 - p.2 ∧ 0 < cr a b p 1) ∨ (b.2 - p.2 ≤ 0 ∧ 0 < a.2 - p.2 ∧ cr a b p 1 < 0)) (r2 := (a.2 - q.2 ≤ 0 ∧ 0 < b.2 - q.2 ∧ 0 < cr a b q 1) ∨ (b.2 - q.2 ≤ 0 ∧ 0 < a.2 - q.2 ∧ cr a b q 1 < 0))
    (x := Opp (cr p q a 1) (cr p q b 1) ∧ Opp (cr a b p 1) (cr a b q 1)) (d1 := False) (d2 := False) (by
      by_cases h : (a.2 - p.2 ≤ 0 ∧ 0 < b.2 - p.2) ∨ (b.2 - p.2 ≤ 0 ∧ 0 < a.2 - p.2)
      · have g1 := hP h
        have g2 := hQ h
        have g3 := fun o => key o h
        have e : (Opp (cr p q a 1) (cr p q b 1) ∧ Opp (cr a b p 1) (cr a b q 1)) ↔ Opp (cr a b p 1) (cr a b q 1) := ⟨fun x => x.2, fun x => ⟨g3 x, x⟩⟩
        rw [e]
        clear e g3 key back hP hQ eA eB
        simp only [iff_self, iff_true]
        unfold Opp
        omega
      · have e : ¬ (Opp (cr p q a 1) (cr p q b 1) ∧ Opp (cr a b p 1) (cr a b q 1)) := fun x => h (back x.1)
        have r1 : ¬ ((a.2 - p.2 ≤ 0 ∧ 0 < b.2 - p.2 ∧ 0 < cr a b p 1) ∨ (b.2 - p.2 ≤ 0 ∧ 0 < a.2 - p.2 ∧ cr a b p 1 < 0)) := by omega
        have r2 : ¬ ((a.2 - q.2 ≤ 0 ∧ 0 < b.2 - q.2 ∧ 0 < cr a b q 1) ∨ (b.2 - q.2 ≤ 0 ∧ 0 < a.2 - q.2 ∧ cr a b q 1 < 0)) := by omega
        simp only [e, r1, r2]
        simp)
  rw [k]
  rw [show (decide False ^^ decide False) = false from rfl, Bool.xor_false]
theorem xs_swap {p q a b : Pnt} : Xs q p a b ↔ Xs p q a b := by
  unfold Xs
  rw [cr_swap p q a 1, cr_swap p q b 1, opp_neg, opp_symm (A := cr a b q 1)]
/-- From a ring's fold: the bits that run round. -/
def dRs (p q v : Pnt) : Bool := if p.2 < q.2 then dR p q v else if q.2 < p.2 then dR q p v else false
theorem edge_any {p q a b : Pnt} (ha : ¬ has p q a 1) (hb : ¬ has p q b 1) (hp : ¬ has a b p 1) (hq : ¬ has a b q 1) :
    (ray a b p 1 ^^ ray a b q 1) = (decide (Xs p q a b) ^^ (dRs p q a ^^ dRs p q b)) := by
  unfold dRs
  rcases Int.lt_trichotomy p.2 q.2 with h | h | h
  · rw [if_pos h, if_pos h]; exact edge_up h ha hb hp hq
  · rw [if_neg (by omega), if_neg (by omega), if_neg (by omega), if_neg (by omega), edge_flat h ha hb hp hq]; simp
  · rw [if_neg (by omega), if_pos h, if_neg (by omega), if_pos h]
    rw [Bool.xor_comm, edge_up h (fun k => ha (has_swap.1 k)) (fun k => hb (has_swap.1 k)) hq hp, decide_eq_decide.2 xs_swap]
end Vd
end Go.Proofs.YtcclepohmhdpbaaGreatDoor

/- GEOMETRY, PLAINLY: a ring, and two points. -/
namespace Go.Proofs.YtcclepohmhdpbaaGreatDoor
set_option linter.all false
namespace Vd
def raysS (l : List Seg) (p : Spot) : Bool := l.foldr (fun s b => ray s.1 s.2 p.1 p.2 ^^ b) false
def xsL (l : List Seg) (p q : Pnt) : Bool := l.foldr (fun s b => decide (Xs p q s.1 s.2) ^^ b) false
theorem raysS_cons (s : Seg) (l : List Seg) (p : Spot) : raysS (s :: l) p = (ray s.1 s.2 p.1 p.2 ^^ raysS l p) := rfl
theorem xsL_cons (s : Seg) (l : List Seg) (p q : Pnt) : xsL (s :: l) p q = (decide (Xs p q s.1 s.2) ^^ xsL l p q) := rfl
theorem raysS_append (a b : List Seg) (p : Spot) : raysS (a ++ b) p = (raysS a p ^^ raysS b p) := by
  induction a with
  | nil => simp [raysS]
  | cons s a ih => rw [List.cons_append, raysS_cons, raysS_cons, ih, Bool.xor_assoc]
theorem xsL_append (a b : List Seg) (p q : Pnt) : xsL (a ++ b) p q = (xsL a p q ^^ xsL b p q) := by
  induction a with
  | nil => simp [xsL]
  | cons s a ih => rw [List.cons_append, xsL_cons, xsL_cons, ih, Bool.xor_assoc]
theorem segs_cons2 (a b : Pnt) (t : Ring) : segs (a :: b :: t) = (a, b) :: segs (b :: t) := rfl
theorem segs_one (a : Pnt) : segs [a] = [] := rfl
/-- No end of the one lies on the other. -/
structure Off (p q a b : Pnt) : Prop where
  ha : ¬ has p q a 1
  hb : ¬ has p q b 1
  hp : ¬ has a b p 1
  hq : ¬ has a b q 1
theorem rays_chain (p q : Pnt) : ∀ (t : Ring) (a : Pnt), (∀ s ∈ segs (a :: t), Off p q s.1 s.2) →
    (raysS (segs (a :: t)) (p, 1) ^^ raysS (segs (a :: t)) (q, 1)) = (xsL (segs (a :: t)) p q ^^ (dRs p q a ^^ dRs p q ((a :: t).getLast (by simp)))) := by
  intro t
  induction t with
  | nil => intro a _; simp [segs_one, raysS, xsL]
  | cons b t ih =>
    intro a h
    rw [segs_cons2] at h
    have h1 := h (a, b) (by simp)
    have k := ih b fun s hs => h s (by simp [hs])
    have e := edge_any h1.ha h1.hb h1.hp h1.hq
    rw [segs_cons2, raysS_cons, raysS_cons, xsL_cons, List.getLast_cons (by simp)]
    simp only at e ⊢
    revert e k
    generalize ray a b p 1 = x1
    generalize ray a b q 1 = x2
    generalize raysS (segs (b :: t)) (p, 1) = x3
    generalize raysS (segs (b :: t)) (q, 1) = x4
    generalize xsL (segs (b :: t)) p q = x5
    generalize decide (Xs p q a b) = x6
    generalize dRs p q a = x7
    generalize dRs p q b = x8
    generalize dRs p q ((b :: t).getLast (by simp)) = x9
    revert x1 x2 x3 x4 x5 x6 x7 x8 x9
    decide
/-- A ring that is shut. -/
def Ends (r : Ring) : Prop := r.head? = r.getLast?
theorem shut_ends {r : Ring} (h : Shut r) : Ends r := by
  have h4 := h.len
  unfold Ends
  rw [List.head?_eq_getElem?, List.getLast?_eq_getElem?, ptAt_get (by omega), ptAt_get (by omega), h.eq]
theorem rays_ring {r : Ring} (hr : Ends r) {p q : Pnt} (h : ∀ s ∈ segs r, Off p q s.1 s.2) : (raysS (segs r) (p, 1) ^^ raysS (segs r) (q, 1)) = xsL (segs r) p q := by
  cases r with
  | nil => rfl
  | cons a t =>
    have k := rays_chain p q t a h
    have e : a = (a :: t).getLast (by simp) := by
      unfold Ends at hr
      rw [List.getLast?_eq_some_getLast (by simp)] at hr
      simpa using hr
    rw [k, ← e]; simp
theorem placeL_rays : ∀ (l : List Seg) (i : Bool) (p : Spot), (∀ s ∈ l, ¬ has s.1 s.2 p.1 p.2) → placeL l i p = if (i ^^ raysS l p) = true then 2 else 0 := by
  intro l
  induction l with
  | nil => intro i p _; simp [placeL, raysS]
  | cons s l ih =>
    intro i p h
    have h1 := h s (by simp)
    unfold placeL
    rw [if_neg (by unfold hasB; simpa using h1), ih _ p fun t ht => h t (by simp [ht]), raysS_cons]
    cases ray s.1 s.2 p.1 p.2 <;> cases i <;> simp
theorem place_rays {r : Ring} {p : Spot} (h : ∀ s ∈ segs r, ¬ has s.1 s.2 p.1 p.2) : place r p = if raysS (segs r) p = true then 2 else 0 := by
  unfold place; rw [placeL_rays _ _ _ h]; simp
theorem xsL_none {l : List Seg} {p q : Pnt} (h : ∀ s ∈ l, ¬ Xs p q s.1 s.2) : xsL l p q = false := by
  induction l with
  | nil => rfl
  | cons s l ih => rw [xsL_cons, ih fun t ht => h t (by simp [ht]), decide_eq_false (h s (by simp))]; rfl
/-- No segment of the ring meets the way from p to q: both lie at one place. -/
theorem place_same {r : Ring} (hr : Ends r) {p q : Pnt} (h : ∀ s ∈ segs r, Off p q s.1 s.2) (hx : ∀ s ∈ segs r, ¬ Xs p q s.1 s.2) : place r (p, 1) = place r (q, 1) := by
  have k := rays_ring hr h
  rw [xsL_none hx] at k
  rw [place_rays (p := (p, 1)) fun s hs => (h s hs).hp, place_rays (p := (q, 1)) fun s hs => (h s hs).hq]
  have : raysS (segs r) (p, 1) = raysS (segs r) (q, 1) := by
    revert k
    generalize raysS (segs r) (p, 1) = x
    generalize raysS (segs r) (q, 1) = y
    cases x <;> cases y <;> simp
  rw [this]
/-- Just one segment of the ring is crossed: the places are opposite. -/
theorem place_flip {r : Ring} (hr : Ends r) {p q : Pnt} (h : ∀ s ∈ segs r, Off p q s.1 s.2) {l1 l2 : List Seg} {t : Seg} (e : segs r = l1 ++ t :: l2) (h1 : ∀ s ∈ l1, ¬ Xs p q s.1 s.2) (h2 : ∀ s ∈ l2, ¬ Xs p q s.1 s.2) (ht : Xs p q t.1 t.2) :
    (place r (p, 1) = 0 ∧ place r (q, 1) = 2) ∨ (place r (p, 1) = 2 ∧ place r (q, 1) = 0) := by
  have k := rays_ring hr h
  have ex : xsL (segs r) p q = true := by rw [e, xsL_append, xsL_cons, xsL_none h1, xsL_none h2, decide_eq_true ht]; rfl
  rw [ex] at k
  rw [place_rays (p := (p, 1)) fun s hs => (h s hs).hp, place_rays (p := (q, 1)) fun s hs => (h s hs).hq]
  revert k
  generalize raysS (segs r) (p, 1) = x
  generalize raysS (segs r) (q, 1) = y
  cases x <;> cases y <;> simp

/-! ### greater and smaller -/
def sc (k : Int) (p : Pnt) : Pnt := (k * p.1, k * p.2)
def scR (k : Int) (r : Ring) : Ring := r.map (sc k)
def scS (k : Int) (s : Seg) : Seg := (sc k s.1, sc k s.2)
theorem cr_sc (k : Int) (a b p : Pnt) (w : Int) : cr (sc k a) (sc k b) p w = k * cr a b p (k * w) := by unfold cr sc; grind
theorem sg_mul {k : Int} (hk : 0 < k) (n : Int) : sg (k * n) = sg n := by
  have s := sgn_of hk (rfl : k * n = k * n)
  rcases sg_cases n with ⟨h, e⟩ | ⟨h, e⟩ | ⟨h, e⟩ <;> rcases sg_cases (k * n) with ⟨h', e'⟩ | ⟨h', e'⟩ | ⟨h', e'⟩ <;> first | omega | (rw [e, e'])
theorem has_sc {k : Int} (hk : 0 < k) (a b p : Pnt) (w : Int) : has (sc k a) (sc k b) p w ↔ has a b p (k * w) := by
  have s := sgn_of hk (rfl : k * cr a b p (k * w) = _)
  have e : ∀ x : Int, k * x * w = x * (k * w) := fun x => by grind
  unfold has
  rw [cr_sc]
  unfold sc
  simp only [e]
  constructor
  · rintro ⟨h1, h2⟩; exact ⟨s.2.2.2 h1, h2⟩
  · rintro ⟨h1, h2⟩; exact ⟨s.2.2.1 h1, h2⟩
theorem ray_sc {k : Int} (hk : 0 < k) (a b p : Pnt) (w : Int) : ray (sc k a) (sc k b) p w = ray a b p (k * w) := by
  have e : ∀ x : Int, k * x * w = x * (k * w) := fun x => by grind
  unfold ray
  rw [cr_sc, sg_mul hk]
  unfold sc
  simp only [e]
theorem segs_sc (k : Int) (r : Ring) : segs (scR k r) = (segs r).map (scS k) := by
  unfold segs scR
  rw [← List.map_tail, List.zip_map]
  rfl
theorem placeL_sc {k : Int} (hk : 0 < k) : ∀ (l : List Seg) (i : Bool) (p : Pnt) (w : Int), placeL (l.map (scS k)) i (p, w) = placeL l i (p, k * w) := by
  intro l
  induction l with
  | nil => intro i p w; rfl
  | cons s l ih =>
    intro i p w
    rw [List.map_cons]
    unfold placeL
    have e1 : hasB (scS k s) (p, w) = hasB s (p, k * w) := decide_eq_decide.2 (has_sc hk s.1 s.2 p w)
    have e2 : ray (scS k s).1 (scS k s).2 p w = ray s.1 s.2 p (k * w) := ray_sc hk s.1 s.2 p w
    rw [e1, ih]
    simp only [e2]
theorem place_sc {k : Int} (hk : 0 < k) (r : Ring) (p : Pnt) (w : Int) : place (scR k r) (p, w) = place r (p, k * w) := by
  unfold place; rw [segs_sc, placeL_sc hk]
theorem ends_sc {k : Int} {r : Ring} (h : Ends r) : Ends (scR k r) := by
  unfold Ends scR at *; rw [List.head?_map, List.getLast?_map, h]
/-- the spot itself. -/
theorem cr_spot (k : Int) (a b p : Pnt) (w : Int) : cr a b (sc k p) (k * w) = k * cr a b p w := by unfold cr sc; grind
theorem btw_mul {k : Int} (hk : 0 < k) {a p b : Int} : btw (k * a) (k * p) (k * b) ↔ btw a p b := by
  have e1 : ∀ {x y : Int}, k * x ≤ k * y ↔ x ≤ y := fun {x y} => ⟨fun h => Int.le_of_mul_le_mul_left h hk, fun h => Int.mul_le_mul_of_nonneg_left h (by omega)⟩
  unfold btw
  simp only [e1]
theorem has_spot {k : Int} (hk : 0 < k) (a b p : Pnt) (w : Int) : has a b (sc k p) (k * w) ↔ has a b p w := by
  have s := sgn_of hk (rfl : k * cr a b p w = _)
  have e : ∀ x : Int, x * (k * w) = k * (x * w) := fun x => by grind
  unfold has
  rw [cr_spot]
  unfold sc
  simp only [e, btw_mul hk]
  constructor
  · rintro ⟨h1, h2⟩; exact ⟨s.2.2.2 h1, h2⟩
  · rintro ⟨h1, h2⟩; exact ⟨s.2.2.1 h1, h2⟩
theorem ray_spot {k : Int} (hk : 0 < k) (a b p : Pnt) (w : Int) : ray a b (sc k p) (k * w) = ray a b p w := by
  have e : ∀ x : Int, x * (k * w) = k * (x * w) := fun x => by grind
  have e1 : ∀ {x y : Int}, k * x > k * y ↔ x > y := fun {x y} => ⟨fun h => Int.lt_of_mul_lt_mul_left h (by omega), fun h => Int.mul_lt_mul_of_pos_left h hk⟩
  unfold ray
  rw [cr_spot, sg_mul hk]
  unfold sc
  simp only [e, e1]
theorem placeL_spot {k : Int} (hk : 0 < k) (p : Pnt) (w : Int) : ∀ (l : List Seg) (i : Bool), placeL l i (sc k p, k * w) = placeL l i (p, w) := by
  intro l
  induction l with
  | nil => intro i; rfl
  | cons s l ih =>
    intro i
    unfold placeL
    have e1 : hasB s (sc k p, k * w) = hasB s (p, w) := decide_eq_decide.2 (has_spot hk s.1 s.2 p w)
    rw [e1, ih]
    simp only [ray_spot hk]
theorem place_spot {k : Int} (hk : 0 < k) (r : Ring) (p : Pnt) (w : Int) : place r (sc k p, k * w) = place r (p, w) := by
  unfold place; rw [placeL_spot hk]
/-- Any spot, as a whole point beside a ring that is greater. -/
theorem place_whole {r : Ring} {p : Spot} (hp : 0 < p.2) {k : Int} (hk : 0 < k) : place r p = place (scR (k * p.2) r) (sc k p.1, 1) := by
  rw [place_sc (pp hk hp), Int.mul_one, place_spot hk]
end Vd
end Go.Proofs.YtcclepohmhdpbaaGreatDoor

/- GEOMETRY, PLAINLY: what lies on a segment lies as a middle of its parts does. -/
namespace Go.Proofs.YtcclepohmhdpbaaGreatDoor
set_option linter.all false
namespace Vd
theorem ex_max {α : Type} (f : α → Int) (P : α → Prop) : ∀ (l : List α), (∃ x ∈ l, P x) → ∃ x ∈ l, P x ∧ ∀ y ∈ l, P y → f y ≤ f x := by
  intro l
  induction l with
  | nil => rintro ⟨x, hx, _⟩; cases hx
  | cons a t ih =>
    rintro ⟨x, hx, hp⟩
    by_cases ht : ∃ y ∈ t, P y
    · obtain ⟨y, hy, py, my⟩ := ih ht
      by_cases ha : P a ∧ f y < f a
      · refine ⟨a, by simp, ha.1, fun z hz pz => ?_⟩
        rcases List.mem_cons.1 hz with rfl | hz
        · exact Int.le_refl _
        · have := my z hz pz; omega
      · refine ⟨y, by simp [hy], py, fun z hz pz => ?_⟩
        rcases List.mem_cons.1 hz with rfl | hz
        · by_cases c : f y < f z
          · exact absurd ⟨pz, c⟩ ha
          · omega
        · exact my z hz pz
    · rcases List.mem_cons.1 hx with rfl | hx
      · refine ⟨x, by simp, hp, fun z hz pz => ?_⟩
        rcases List.mem_cons.1 hz with rfl | hz
        · exact Int.le_refl _
        · exact absurd ⟨z, hz, pz⟩ ht
      · exact absurd ⟨x, hx, hp⟩ ht
theorem ex_min {α : Type} (f : α → Int) (P : α → Prop) (l : List α) (h : ∃ x ∈ l, P x) : ∃ x ∈ l, P x ∧ ∀ y ∈ l, P y → f x ≤ f y := by
  obtain ⟨x, hx, hp, m⟩ := ex_max (fun x => - f x) P l h
  exact ⟨x, hx, hp, fun y hy py => by have := m y hy py; omega⟩
/-- the cuts, as a list. -/
theorem cut_list {a b : Pnt} {l : List Pnt} {x : Pnt} : Cut a b l x ↔ x ∈ a :: b :: l ∧ (x = a ∨ x = b ∨ (x ∈ l ∧ has a b x 1)) := by
  unfold Cut
  constructor
  · intro h
    refine ⟨?_, h⟩
    rcases h with rfl | rfl | h
    · simp
    · simp
    · simp [h.1]
  · exact fun h => h.2
/-- On a line: the place along it. -/
theorem on_line {a b p : Pnt} (h0 : cr a b p 1 = 0) : kk a b * p.1 = kk a b * a.1 + pos a b p * (b.1 - a.1) ∧ kk a b * p.2 = kk a b * a.2 + pos a b p * (b.2 - a.2) := by
  unfold cr at h0; unfold pos dt kk; constructor <;> grind
theorem lin_cr {k D a1 a2 b1 b2 p1 p2 c1 c2 d1 d2 : Int} (e1 : k * p1 = k * a1 + D * (b1 - a1)) (e2 : k * p2 = k * a2 + D * (b2 - a2)) :
    k * ((d1 - c1) * (p2 - c2) - (d2 - c2) * (p1 - c1)) = (k - D) * ((d1 - c1) * (a2 - c2) - (d2 - c2) * (a1 - c1)) + D * ((d1 - c1) * (b2 - c2) - (d2 - c2) * (b1 - c1)) := by grind
theorem cr_on {a b p : Pnt} (h0 : cr a b p 1 = 0) (c d : Pnt) : kk a b * cr c d p 1 = (kk a b - pos a b p) * cr c d a 1 + pos a b p * cr c d b 1 := by
  obtain ⟨e1, e2⟩ := on_line h0
  have := lin_cr (c1 := c.1) (c2 := c.2) (d1 := d.1) (d2 := d.2) e1 e2
  unfold cr
  simpa only [Int.mul_one] using this
theorem lin_dir {k D E a1 a2 b1 b2 p1 p2 q1 q2 : Int} (e1 : k * p1 = k * a1 + D * (b1 - a1)) (e2 : k * p2 = k * a2 + D * (b2 - a2)) (f1 : k * q1 = k * a1 + E * (b1 - a1)) (f2 : k * q2 = k * a2 + E * (b2 - a2)) :
    k * (q1 - p1) = (E - D) * (b1 - a1) ∧ k * (q2 - p2) = (E - D) * (b2 - a2) := by constructor <;> grind
theorem dir_lin {a b p q : Pnt} (hp : cr a b p 1 = 0) (hq : cr a b q 1 = 0) : kk a b * (q.1 - p.1) = (pos a b q - pos a b p) * (b.1 - a.1) ∧ kk a b * (q.2 - p.2) = (pos a b q - pos a b p) * (b.2 - a.2) := by
  obtain ⟨e1, e2⟩ := on_line hp
  obtain ⟨f1, f2⟩ := on_line hq
  exact lin_dir e1 e2 f1 f2
theorem lin_cr2 {k L u1 u2 v1 v2 x1 x2 : Int} (e1 : k * v1 = L * u1) (e2 : k * v2 = L * u2) : k * (v1 * x2 - v2 * x1) = L * (u1 * x2 - u2 * x1) ∧ k * (x1 * v1 + x2 * v2) = L * (x1 * u1 + x2 * u2) := by constructor <;> grind
theorem cr_from {a b p : Pnt} (hp : cr a b p 1 = 0) (c : Pnt) : (b.1 - a.1) * (c.2 - p.2) - (b.2 - a.2) * (c.1 - p.1) = cr a b c 1 := by unfold cr at *; grind
theorem cr_dir {a b p q : Pnt} (hp : cr a b p 1 = 0) (hq : cr a b q 1 = 0) (c : Pnt) : kk a b * cr p q c 1 = (pos a b q - pos a b p) * cr a b c 1 := by
  obtain ⟨e1, e2⟩ := dir_lin hp hq
  have := (lin_cr2 (x1 := c.1 - p.1) (x2 := c.2 - p.2) e1 e2).1
  rw [cr_from hp] at this
  rw [← this]
  unfold cr; simp only [Int.mul_one]
theorem pos_from (a b p c : Pnt) : (c.1 - p.1) * (b.1 - a.1) + (c.2 - p.2) * (b.2 - a.2) = pos a b c - pos a b p := by unfold pos dt; grind
theorem dt_dir {a b p q : Pnt} (hp : cr a b p 1 = 0) (hq : cr a b q 1 = 0) (c : Pnt) : kk a b * dt p q c 1 = (pos a b q - pos a b p) * (pos a b c - pos a b p) := by
  obtain ⟨e1, e2⟩ := dir_lin hp hq
  have := (lin_cr2 (x1 := c.1 - p.1) (x2 := c.2 - p.2) e1 e2).2
  rw [pos_from a b p c] at this
  rw [← this]
  unfold dt; simp only [Int.mul_one]
theorem kk_dt (p q : Pnt) : kk p q = dt p q q 1 := by unfold kk dt; simp
theorem has_dir {a b p q c : Pnt} (hab : a ≠ b) (hpq : p ≠ q) (hp : cr a b p 1 = 0) (hq : cr a b q 1 = 0) (h : has p q c 1) : cr a b c 1 = 0 ∧ btw (pos a b p) (pos a b c) (pos a b q) := by
  have hk := kk_pos hab
  obtain ⟨h0, h1, h2⟩ := (has_on hpq (by omega)).1 h
  have hne : pos a b q - pos a b p ≠ 0 := fun e => hpq (pos_inj hab hp hq (by omega))
  have e := cr_dir hp hq c
  rw [h0, Int.mul_zero] at e
  have e1 := dt_dir hp hq c
  have e2 := dt_dir hp hq q
  rw [Int.mul_one, kk_dt] at h2
  have m1 := p0 (Int.le_of_lt hk) h1
  have m2 := Int.mul_le_mul_of_nonneg_left h2 (Int.le_of_lt hk)
  rw [e1] at m1
  rw [e1, e2] at m2
  refine ⟨?_, ?_⟩
  · rcases Int.mul_eq_zero.1 e.symm with g | g
    · exact absurd g hne
    · exact g
  · unfold btw
    rcases Int.lt_or_gt_of_ne hne with g | g
    · right
      constructor
      · rcases Int.lt_or_le (pos a b c) (pos a b q) with q' | q'
        · have := Int.mul_lt_mul_of_neg_left (show pos a b c - pos a b p < pos a b q - pos a b p by omega) g
          omega
        · exact q'
      · rcases Int.lt_or_le (pos a b p) (pos a b c) with q | q
        · have := np g (show 0 < pos a b c - pos a b p by omega); omega
        · exact q
    · left
      constructor
      · rcases Int.lt_or_le (pos a b c) (pos a b p) with q | q
        · have := pn g (show pos a b c - pos a b p < 0 by omega); omega
        · exact q
      · have := Int.le_of_mul_le_mul_left m2 g
        omega
theorem opp_comb {x y s t s' t' X Y : Int} (hs : 0 ≤ s) (ht : 0 ≤ t) (hs' : 0 ≤ s') (ht' : 0 ≤ t') {k : Int} (hk : 0 < k) (e1 : k * X = s * x + t * y) (e2 : k * Y = s' * x + t' * y) (o : Opp X Y) : Opp x y := by
  obtain ⟨P1, P2, -⟩ := sgn_of hk e1
  obtain ⟨Q1, Q2, -⟩ := sgn_of hk e2
  have both : ¬ (0 ≤ x ∧ 0 ≤ y) := by
    rintro ⟨hx, hy⟩
    have := p0 hs hx; have := p0 ht hy; have := p0 hs' hx; have := p0 ht' hy
    unfold Opp at o; omega
  have none : ¬ (x ≤ 0 ∧ y ≤ 0) := by
    rintro ⟨hx, hy⟩
    have := m0 hs hx; have := m0 ht hy; have := m0 hs' hx; have := m0 ht' hy
    unfold Opp at o; omega
  unfold Opp; omega
theorem meet_opp {a b c d : Pnt} (h1 : Opp (cr a b c 1) (cr a b d 1)) (h2 : Opp (cr c d a 1) (cr c d b 1)) : meet a b c d = 2 := by
  unfold meet Opp at *
  rcases sg_cases (cr a b c 1) with ⟨g1, k1⟩ | ⟨g1, k1⟩ | ⟨g1, k1⟩ <;> rcases sg_cases (cr a b d 1) with ⟨g2, k2⟩ | ⟨g2, k2⟩ | ⟨g2, k2⟩ <;>
  rcases sg_cases (cr c d a 1) with ⟨g3, k3⟩ | ⟨g3, k3⟩ | ⟨g3, k3⟩ <;> rcases sg_cases (cr c d b 1) with ⟨g4, k4⟩ | ⟨g4, k4⟩ | ⟨g4, k4⟩ <;>
  first | (exfalso; omega) | (simp [k1, k2, k3, k4])
theorem mulc' (x y : Int) : (x * y < 0 → (0 < x ∧ y < 0) ∨ (x < 0 ∧ 0 < y)) ∧ (0 < x * y → (0 < x ∧ 0 < y) ∨ (x < 0 ∧ y < 0)) := by
  rcases Int.lt_trichotomy x 0 with h | h | h <;> rcases Int.lt_trichotomy y 0 with k | k | k
  · have := nng h k; omega
  · rw [k]; simp
  · have := np h k; omega
  · rw [h]; simp
  · rw [h]; simp
  · rw [h]; simp
  · have := pn h k; omega
  · rw [k]; simp
  · have := pp h k; omega
/-- Two points of one line between which no vertex of the ring lies, and no segment crosses: they lie at one place. -/
theorem line_same {a b : Pnt} (hab : a ≠ b) {o : Ring} (he : Ends o) {p q : Pnt} (hp : cr a b p 1 = 0) (hq : cr a b q 1 = 0) (np : place o (p, 1) ≠ 1) (nq : place o (q, 1) ≠ 1)
    (hv : ∀ t ∈ segs o, ∀ c, c = t.1 ∨ c = t.2 → cr a b c 1 = 0 → ¬ btw (pos a b p) (pos a b c) (pos a b q))
    (hx : ∀ t ∈ segs o, ¬ (Opp (cr a b t.1 1) (cr a b t.2 1) ∧ Opp (cr t.1 t.2 p 1) (cr t.1 t.2 q 1))) : place o (p, 1) = place o (q, 1) := by
  by_cases hpq : p = q
  · rw [hpq]
  have hk := kk_pos hab
  refine place_same he (fun t ht => ⟨fun h => ?_, fun h => ?_, fun h => np (place_one.2 ⟨t, ht, h⟩), fun h => nq (place_one.2 ⟨t, ht, h⟩)⟩) (fun t ht h => ?_)
  · obtain ⟨k1, k2⟩ := has_dir hab hpq hp hq h
    exact hv t ht _ (.inl rfl) k1 k2
  · obtain ⟨k1, k2⟩ := has_dir hab hpq hp hq h
    exact hv t ht _ (.inr rfl) k1 k2
  · refine hx t ht ⟨?_, h.2⟩
    have e1 := cr_dir hp hq t.1
    have e2 := cr_dir hp hq t.2
    have s1 := sgn_of hk e1
    have s2 := sgn_of hk e2
    have o := h.1
    have m1 := mulc' (pos a b q - pos a b p) (cr a b t.1 1)
    have m2 := mulc' (pos a b q - pos a b p) (cr a b t.2 1)
    unfold Opp at o ⊢
    omega
/-- Two consecutive cuts about a point of the segment. -/
theorem cuts_about {a b p : Pnt} (hab : a ≠ b) (hp : has a b p 1) (l : List Pnt) :
    ∃ y z, Cons (pos a b) (Cut a b l) y z ∧ pos a b y ≤ pos a b p ∧ pos a b p ≤ pos a b z := by
  obtain ⟨d0, d1⟩ := pos_le hab hp
  have hk := kk_pos hab
  obtain ⟨y, hy, ⟨cy, ly, ny⟩, my⟩ := ex_max (pos a b) (fun x => Cut a b l x ∧ pos a b x ≤ pos a b p ∧ pos a b x < kk a b) (a :: b :: l) ⟨a, by simp, .inl rfl, by rw [pos_a]; exact d0, by rw [pos_a]; exact hk⟩
  obtain ⟨z, hz, ⟨cz, lz⟩, mz⟩ := ex_min (pos a b) (fun x => Cut a b l x ∧ pos a b y < pos a b x) (a :: b :: l) ⟨b, by simp, .inr (.inl rfl), by rw [pos_b]; exact ny⟩
  refine ⟨y, z, ⟨cy, cz, lz, fun c hc ⟨h1, h2⟩ => ?_⟩, ly, ?_⟩
  · have := mz c (cut_list.1 hc).1 ⟨hc, h1⟩; omega
  · rcases Int.le_total (pos a b p) (pos a b z) with g | g
    · exact g
    · by_cases e : pos a b z < kk a b
      · have := my z hz ⟨cz, g, e⟩; omega
      · have h1 := (pos_le hab (cut_has cz)).2
        omega

end Vd
end Go.Proofs.YtcclepohmhdpbaaGreatDoor

/- GEOMETRY, PLAINLY: what lies on a segment lies as a middle of its parts does. -/
namespace Go.Proofs.YtcclepohmhdpbaaGreatDoor
set_option linter.all false
namespace Vd
theorem has_pos {a b p : Pnt} (hab : a ≠ b) (h0 : cr a b p 1 = 0) (h1 : 0 ≤ pos a b p) (h2 : pos a b p ≤ kk a b) : has a b p 1 := (has_on hab (by omega)).2 ⟨h0, h1, by rw [Int.mul_one]; exact h2⟩
theorem vert_on {o : Ring} {t : Seg} (ht : t ∈ segs o) {c : Pnt} (hc : c = t.1 ∨ c = t.2) : place o (c, 1) = 1 := by
  refine place_one.2 ⟨t, ht, ?_⟩
  rcases hc with rfl | rfl
  · exact has_a _ _
  · exact has_b _ _
theorem mid_off_int {a b : Pnt} (hab : a ≠ b) {o : Ring} (hl : Long o) (hx : ∀ t ∈ segs o, crossS (a, b) t = false) {y z M : Pnt} (hc : Cons (pos a b) (Cut a b o) y z) (hM : has a b M 1) (h1 : pos a b y < pos a b M) (h2 : pos a b M < pos a b z) : place o (M, 1) ≠ 1 := by
  intro h
  obtain ⟨t, ht, hh⟩ := place_one.1 h
  simp only at hh
  obtain ⟨y0, -⟩ := pos_le hab (cut_has hc.cx)
  obtain ⟨-, z1⟩ := pos_le hab (cut_has hc.cy)
  have nocut : ¬ Cut a b o M := fun c => hc.no M c ⟨h1, h2⟩
  have nv : ∀ c, c = t.1 ∨ c = t.2 → M ≠ c := by
    rintro c hc' rfl
    have := segs_mem ht
    exact nocut (.inr (.inr ⟨by rcases hc' with e | e <;> rw [e]; exact this.1; exact this.2, hM⟩))
  have two : ∀ c : Pnt, M ≠ c → sc 2 M ≠ (c.1 * 2, c.2 * 2) := by
    intro c hne e
    unfold sc at e
    simp only [Prod.mk.injEq] at e
    exact hne (Prod.ext (by omega) (by omega))
  have i1 : Inn a b (sc 2 M) := by
    refine ⟨?_, two a ?_, two b ?_⟩
    · have := (has_spot (k := 2) (by omega) a b M 1).2 hM; simpa using this
    · rintro rfl; rw [pos_a] at h1; omega
    · rintro rfl; rw [pos_b] at h2; omega
  have i2 : Inn t.1 t.2 (sc 2 M) := by
    refine ⟨?_, two _ (nv _ (.inl rfl)), two _ (nv _ (.inr rfl))⟩
    have := (has_spot (k := 2) (by omega) t.1 t.2 M 1).2 hh; simpa using this
  have k := inn_cross hab (hl t ht) i1 i2
  have := hx t ht
  unfold crossS meetS at this
  rcases k with k | k <;> simp [k] at this
theorem on_place_int {a b : Pnt} (hab : a ≠ b) {o : Ring} (he : Ends o) (hl : Long o) (hx : ∀ t ∈ segs o, crossS (a, b) t = false) {y z p M : Pnt} (hc : Cons (pos a b) (Cut a b o) y z) (hp : has a b p 1) (p1 : pos a b y ≤ pos a b p) (p2 : pos a b p ≤ pos a b z) (hM : has a b M 1) (h1 : pos a b y < pos a b M) (h2 : pos a b M < pos a b z) (hn : place o (p, 1) ≠ 1) : place o (p, 1) = place o (M, 1) := by
  have hk := kk_pos hab
  obtain ⟨y0, -⟩ := pos_le hab (cut_has hc.cx)
  obtain ⟨-, z1⟩ := pos_le hab (cut_has hc.cy)
  obtain ⟨q0', q1⟩ := pos_le hab hp
  obtain ⟨m0', m1⟩ := pos_le hab hM
  refine line_same hab he hp.1 hM.1 hn (mid_off_int hab hl hx hc hM h1 h2) ?_ ?_
  · intro t ht c hc' hcr hb
    have hcut : Cut a b o c := by
      refine .inr (.inr ⟨?_, has_pos hab hcr (by unfold btw at hb; omega) (by unfold btw at hb; omega)⟩)
      have := segs_mem ht
      rcases hc' with e | e <;> rw [e]
      · exact this.1
      · exact this.2
    have := hc.no c hcut
    have e : pos a b c = pos a b p := by unfold btw at hb; omega
    have := pos_inj hab hcr hp.1 e
    rw [← this] at hn
    exact hn (vert_on ht hc')
  · rintro t ht ⟨o1, o2⟩
    have e1 := cr_on hp.1 t.1 t.2
    have e2 := cr_on hM.1 t.1 t.2
    have o3 := opp_comb (by omega) q0' (by omega) m0' hk e1 e2 o2
    have := hx t ht
    unfold crossS meetS at this
    rw [meet_opp o1 o3] at this
    simp at this
/-! ### scaled -/
theorem sc_inj {k : Int} (hk : 0 < k) {p q : Pnt} : sc k p = sc k q ↔ p = q := by
  constructor
  · intro h
    unfold sc at h
    simp only [Prod.mk.injEq] at h
    exact Prod.ext (Int.eq_of_mul_eq_mul_left (by omega) h.1) (Int.eq_of_mul_eq_mul_left (by omega) h.2)
  · rintro rfl; rfl
theorem bef_sc {k : Int} (hk : 0 < k) {p q : Pnt} : bef (sc k p) (sc k q) ↔ bef p q := by
  have e1 : ∀ {x y : Int}, k * x < k * y ↔ x < y := fun {x y} => ⟨fun h => Int.lt_of_mul_lt_mul_left h (by omega), fun h => Int.mul_lt_mul_of_pos_left h hk⟩
  have e2 : ∀ {x y : Int}, k * x = k * y ↔ x = y := fun {x y} => ⟨fun h => Int.eq_of_mul_eq_mul_left (by omega) h, fun h => by rw [h]⟩
  unfold bef sc
  simp only [e1, e2]
theorem fwd_sc {k : Int} (hk : 0 < k) (a b : Pnt) : fwd (sc k a) (sc k b) = scS k (fwd a b) := by
  unfold fwd
  by_cases h : bef b a
  · rw [if_pos h, if_pos ((bef_sc hk).2 h)]; rfl
  · rw [if_neg h, if_neg (fun g => h ((bef_sc hk).1 g))]; rfl
theorem ite_sc (k : Int) (c : Prop) [Decidable c] (a b : Pnt) : (if c then sc k a else sc k b) = sc k (if c then a else b) := by split <;> rfl
theorem onLine_sc {k : Int} (hk : 0 < k) (s t : Seg) : onLine (scS k s) (scS k t) = onLine s t := by
  unfold onLine scS
  simp only [bef_sc hk, ite_sc, sc_inj hk]
theorem cr_sc1 (k : Int) (a b p : Pnt) : cr (sc k a) (sc k b) (sc k p) 1 = k * k * cr a b p 1 := by unfold cr sc; grind
theorem meet_sc {k : Int} (hk : 0 < k) (a b c d : Pnt) : meet (sc k a) (sc k b) (sc k c) (sc k d) = meet a b c d := by
  unfold meet
  simp only [cr_sc1, sg_mul (pp hk hk), fwd_sc hk, onLine_sc hk]
theorem crossS_sc {k : Int} (hk : 0 < k) (s t : Seg) : crossS (scS k s) (scS k t) = crossS s t := by
  unfold crossS meetS scS
  simp only [meet_sc hk]
theorem pos_sc (k : Int) (a b p : Pnt) : pos (sc k a) (sc k b) (sc k p) = k * k * pos a b p := by unfold pos dt sc; grind
theorem has_sc1 {k : Int} (hk : 0 < k) (a b p : Pnt) : has (sc k a) (sc k b) (sc k p) 1 ↔ has a b p 1 := by
  rw [has_sc hk, has_spot hk]
theorem cut_sc {k : Int} (hk : 0 < k) {a b : Pnt} {l : List Pnt} {x : Pnt} : Cut (sc k a) (sc k b) (l.map (sc k)) x ↔ ∃ x', x = sc k x' ∧ Cut a b l x' := by
  unfold Cut
  constructor
  · rintro (rfl | rfl | ⟨h1, h2⟩)
    · exact ⟨a, rfl, .inl rfl⟩
    · exact ⟨b, rfl, .inr (.inl rfl)⟩
    · obtain ⟨x', hx', rfl⟩ := List.mem_map.1 h1
      exact ⟨x', rfl, .inr (.inr ⟨hx', (has_sc1 hk _ _ _).1 h2⟩)⟩
  · rintro ⟨x', rfl, rfl | rfl | ⟨h1, h2⟩⟩
    · exact .inl rfl
    · exact .inr (.inl rfl)
    · exact .inr (.inr ⟨List.mem_map.2 ⟨x', h1, rfl⟩, (has_sc1 hk _ _ _).2 h2⟩)
theorem cons_sc {k : Int} (hk : 0 < k) {a b : Pnt} {l : List Pnt} {y z : Pnt} (h : Cons (pos (sc k a) (sc k b)) (Cut (sc k a) (sc k b) (l.map (sc k))) y z) : ∃ y' z', y = sc k y' ∧ z = sc k z' ∧ Cons (pos a b) (Cut a b l) y' z' := by
  obtain ⟨y', rfl, cy⟩ := (cut_sc hk).1 h.cx
  obtain ⟨z', rfl, cz⟩ := (cut_sc hk).1 h.cy
  have kk2 := pp hk hk
  have e1 : ∀ {x y : Int}, k * k * x < k * k * y ↔ x < y := fun {x y} => ⟨fun h => Int.lt_of_mul_lt_mul_left h (by omega), fun h => Int.mul_lt_mul_of_pos_left h kk2⟩
  refine ⟨y', z', rfl, rfl, cy, cz, ?_, ?_⟩
  · have := h.lt; rw [pos_sc, pos_sc] at this; exact e1.1 this
  · rintro c hc ⟨h1, h2⟩
    refine h.no (sc k c) ((cut_sc hk).2 ⟨c, rfl, hc⟩) ?_
    rw [pos_sc, pos_sc, pos_sc]
    exact ⟨e1.2 h1, e1.2 h2⟩
theorem long_sc {k : Int} (hk : 0 < k) {r : Ring} (h : Long r) : Long (scR k r) := by
  intro s hs
  rw [segs_sc] at hs
  obtain ⟨t, ht, rfl⟩ := List.mem_map.1 hs
  intro e
  exact h t ht ((sc_inj hk).1 e)
/-- A spot on a segment that a ring does not cross lies on the ring, or as one of the middles does. -/
theorem on_place {a b : Pnt} (hab : a ≠ b) {o : Ring} (he : Ends o) (hl : Long o) (hx : ∀ t ∈ segs o, crossS (a, b) t = false) {p : Spot} (hw : 0 < p.2) (hp : has a b p.1 p.2) (hn : place o p ≠ 1) :
    ∃ m ∈ mids (a, b) [o], place o p = place o m := by
  obtain ⟨P, w⟩ := p
  simp only at hw hp
  have hK : (0 : Int) < 2 * w := by omega
  have hab' : sc (2 * w) a ≠ sc (2 * w) b := fun e => hab ((sc_inj hK).1 e)
  have hp' : has (sc (2 * w) a) (sc (2 * w) b) (sc 2 P) 1 := by
    rw [has_sc hK, Int.mul_one]
    exact (has_spot (by omega) a b P w).2 hp
  obtain ⟨y', z', hc', l1, l2⟩ := cuts_about hab' hp' (scR (2 * w) o)
  obtain ⟨y, z, rfl, rfl, hc⟩ := cons_sc hK (l := o) hc'
  have hm : midOf y z ∈ mids (a, b) [o] := (mem_mids hab [o] _).2 ⟨y, z, by simpa using hc, rfl⟩
  refine ⟨_, hm, ?_⟩
  have e1 : place o (P, w) = place (scR (2 * w) o) (sc 2 P, 1) := place_whole (p := (P, w)) hw (k := 2) (by omega)
  have e2 : place o (midOf y z) = place (scR (2 * w) o) (sc w (midOf y z).1, 1) := by
    have := place_whole (r := o) (p := midOf y z) (show (0 : Int) < 2 by omega) (k := w) hw
    rw [show w * (midOf y z).2 = 2 * w by show w * 2 = 2 * w; omega] at this
    exact this
  rw [e1, e2]
  have c0y := (cut_has hc.cx).1
  have c0z := (cut_has hc.cy).1
  have f1 : 2 * pos (sc (2 * w) a) (sc (2 * w) b) (sc w (midOf y z).1) = pos (sc (2 * w) a) (sc (2 * w) b) (sc (2 * w) y) + pos (sc (2 * w) a) (sc (2 * w) b) (sc (2 * w) z) := by unfold pos dt sc midOf; grind
  have f2 : 2 * cr (sc (2 * w) a) (sc (2 * w) b) (sc w (midOf y z).1) 1 = cr (sc (2 * w) a) (sc (2 * w) b) (sc (2 * w) y) 1 + cr (sc (2 * w) a) (sc (2 * w) b) (sc (2 * w) z) 1 := by unfold cr sc midOf; grind
  rw [cr_sc1, cr_sc1, c0y, c0z, Int.mul_zero, Int.add_zero] at f2
  have hlt := hc'.lt
  obtain ⟨y0, y1⟩ := pos_le hab' (cut_has hc'.cx)
  obtain ⟨z0, z1⟩ := pos_le hab' (cut_has hc'.cy)
  refine on_place_int hab' (ends_sc he) (long_sc hK hl) ?_ hc' hp' l1 l2 (has_pos hab' (by omega) (by omega) (by omega)) (by omega) (by omega) ?_
  · intro t ht
    rw [segs_sc] at ht
    obtain ⟨t', ht', rfl⟩ := List.mem_map.1 ht
    have := hx t' ht'
    rw [← crossS_sc hK] at this
    exact this
  · rw [← e1]; exact hn
/-- A ring that lies outside another but for what they touch in: no point of it is within. -/
theorem lies_out {r o : Ring} (hr : Long r) (ho : Long o) (he : Ends o) (hx : cross r o = false) {k : Int} (hk : lies r o k = true) {p : Spot} (hw : 0 < p.2) (hp : place r p = 1) : place o p = 1 ∨ place o p = k := by
  obtain ⟨s, hs, h⟩ := place_one.1 hp
  by_cases h1 : place o p = 1
  · exact .inl h1
  right
  obtain ⟨m, hm, e⟩ := on_place (hr s hs) he ho (fun t ht => by
    cases c : crossS (s.1, s.2) t with
    | false => rfl
    | true =>
      have : cross r o = true := by
        unfold cross
        exact List.any_eq_true.2 ⟨s, hs, List.any_eq_true.2 ⟨t, ht, c⟩⟩
      rw [hx] at this; cases this) hw h h1
  rw [e]
  unfold lies at hk
  rw [Bool.not_eq_true'] at hk
  by_cases g : place o m = k
  · exact g
  · have : ((segs r).any fun s => (mids s [o]).any fun m => decide (place o m ≠ k)) = true := List.any_eq_true.2 ⟨s, hs, List.any_eq_true.2 ⟨m, hm, decide_eq_true g⟩⟩
    rw [hk] at this; cases this
end Vd
end Go.Proofs.YtcclepohmhdpbaaGreatDoor

/- POINTS, PLAINLY: the program's answer and the document's, of a valid set. -/
namespace Go.Proofs.YtcclepohmhdpbaaGreatDoor
set_option linter.all false
namespace Vd
theorem inL_nn {p : Spot} : ∀ (t : List Ring) (s : Int), (s = 0 ∨ s = 1 ∨ s = -1) → (∀ r ∈ t, inRing r p = 0 ∨ inRing r p = 1 ∨ inRing r p = -1) → (∀ r ∈ t, ∀ r' ∈ t, inRing r p = 0 → inRing r' p ≠ 1) →
    (0 ≤ inL s t p ↔ 0 ≤ s ∧ ∀ r ∈ t, inRing r p ≠ 1) := by
  intro t
  induction t with
  | nil => intro s _ _ _; simp [inL]
  | cons r t ih =>
    intro s hs hr hx
    unfold inL
    have ih' := ih s hs (fun r hr' => hr r (by simp [hr'])) (fun a ha b hb => hx a (by simp [ha]) b (by simp [hb]))
    by_cases h0 : inRing r p = 0 ∧ 0 ≤ s
    · rw [if_pos h0]
      refine ⟨fun _ => ⟨h0.2, fun r' hr' => hx r (by simp) r' hr' h0.1⟩, fun _ => Int.le_refl _⟩
    · rw [if_neg h0]
      by_cases h1 : inRing r p = 1
      · rw [if_pos h1]
        refine ⟨fun h => by omega, fun h => absurd h1 (h.2 r (by simp))⟩
      · rw [if_neg h1, ih']
        constructor
        · rintro ⟨g1, g2⟩
          refine ⟨g1, fun r' hr' => ?_⟩
          rcases List.mem_cons.1 hr' with rfl | hr'
          · exact h1
          · exact g2 r' hr'
        · rintro ⟨g1, g2⟩; exact ⟨g1, fun r' hr' => g2 r' (by simp [hr'])⟩
theorem inPolyL_iff {p : Spot} : ∀ (t : List Ring), inPolyL t false p = true ↔ ∀ r ∈ t, place r p ≠ 2 := by
  intro t
  induction t with
  | nil => simp [inPolyL]
  | cons r t ih =>
    unfold inPolyL
    by_cases h : place r p = 2
    · simp [h]
    · simp [h, ih]
/-- The holes of a polygon that is valid. -/
structure Holes (t : List Ring) : Prop where
  long : ∀ r ∈ t, Long r
  out : ∀ r ∈ t, ∀ o ∈ t, ∀ p : Spot, 0 < p.2 → place r p = 1 → place o p ≠ 2
theorem in_poly {r : Ring} {t : List Ring} (hr : Long r) (ht : Holes t) {p : Spot} (hw : 0 < p.2) : decide (0 ≤ inP (r :: t) p) = inPoly (r :: t) p := by
  have er := place_eq hr hw
  have e : ∀ o ∈ t, place o p = pl (inRing o p) ∧ (inRing o p = 0 ∨ inRing o p = 1 ∨ inRing o p = -1) := fun o ho => place_eq (ht.long o ho) hw
  have k1 : ∀ o ∈ t, (place o p = 1 ↔ inRing o p = 0) := by
    intro o ho
    obtain ⟨a, b⟩ := e o ho
    rw [a]; unfold pl; rcases b with b | b | b <;> rw [b] <;> simp
  have k2 : ∀ o ∈ t, (place o p = 2 ↔ inRing o p = 1) := by
    intro o ho
    obtain ⟨a, b⟩ := e o ho
    rw [a]; unfold pl; rcases b with b | b | b <;> rw [b] <;> simp
  have key := inL_nn (p := p) t (inRing r p) er.2 (fun o ho => (e o ho).2) (fun a ha b hb h1 h2 => ht.out a ha b hb p hw ((k1 a ha).2 h1) ((k2 b hb).2 h2))
  apply bool_iff
  rw [decide_eq_true_eq]
  show 0 ≤ inL (inRing r p) t p ↔ _
  rw [key]
  unfold inPoly inPolyL
  have kr : place r p = 0 ↔ ¬ 0 ≤ inRing r p := by
    rw [er.1]; unfold pl; rcases er.2 with b | b | b <;> rw [b] <;> simp
  by_cases h0 : place r p = 0
  · have := kr.1 h0
    simp [h0, this]
  · have h1 : 0 ≤ inRing r p := by
      rcases Int.lt_or_le (inRing r p) 0 with g | g
      · exact absurd (kr.2 (by omega)) h0
      · exact g
    simp only [h0, h1, decide_false, Bool.and_false, Bool.not_true, Bool.false_and, Bool.or_self, Bool.false_eq_true, if_false, true_and]
    simp only [List.length_cons, Nat.zero_lt_succ, decide_true, Bool.and_true, inPolyL_iff]
    constructor
    · intro g o ho h2; exact g o ho ((k2 o ho).1 h2)
    · intro g o ho h2; exact g o ho ((k2 o ho).2 h2)
/-- Of a valid set. -/
theorem holes_of {l : Poly} (hs : ∀ r ∈ l, Shut r) (hl : ∀ r ∈ l, Long r) (h2 : touch l = true) (h3 : nested l = true) : Holes l.tail := by
  refine ⟨fun r hr => hl r (List.mem_of_mem_tail hr), ?_⟩
  intro r hr o ho p hw hp h
  cases l with
  | nil => cases hr
  | cons s t =>
    simp only [List.tail_cons] at hr ho
    obtain ⟨i, hi, ei⟩ := List.getElem_of_mem hr
    obtain ⟨j, hj, ej⟩ := List.getElem_of_mem ho
    by_cases hij : i = j
    · subst hij
      have : r = o := ei.symm.trans ej
      rw [this] at hp; rw [hp] at h; omega
    have ra : ∀ {k : Nat} (hk : k < t.length), rAt (s :: t) (k + 1) = t[k] := by
      intro k hk; unfold rAt; rw [List.getD_eq_getElem?_getD, List.getElem?_cons_succ, List.getElem?_eq_getElem hk]; rfl
    have hx : cross r o = false := by
      unfold touch at h2
      rw [Bool.not_eq_true', pairs_eq (f := fun i j => cross (rAt (s :: t) i) (rAt (s :: t) j)) (fun i j => cross_symm _ _)] at h2
      cases c : cross r o with
      | false => rfl
      | true =>
        have : (anyI (s :: t).length fun i => anyI (s :: t).length fun j => decide (j ≠ i) && cross (rAt (s :: t) i) (rAt (s :: t) j)) = true := by
          rw [anyI_iff]
          refine ⟨i + 1, by simp; omega, ?_⟩
          rw [anyI_iff]
          refine ⟨j + 1, by simp; omega, ?_⟩
          rw [ra hi, ra hj, ei, ej, c]
          simp; omega
        rw [h2] at this; cases this
    have hy : lies r o 0 = true := by
      unfold nested at h3
      rw [Bool.not_eq_true'] at h3
      cases c : lies r o 0 with
      | true => rfl
      | false =>
        have : (anyI (s :: t).length fun i => decide (1 ≤ i) && anyI (s :: t).length fun j => decide (i ≠ j) && !(lies (rAt (s :: t) i) (rAt (s :: t) j) (nestW j))) = true := by
          rw [anyI_iff]
          refine ⟨i + 1, by simp; omega, ?_⟩
          rw [Bool.and_eq_true, anyI_iff]
          refine ⟨by simp, j + 1, by simp; omega, ?_⟩
          rw [ra hi, ra hj, ei, ej, show nestW (j + 1) = 0 from rfl, c]
          simp; omega
        rw [h3] at this; cases this
    have := lies_out (hl r (by simp [hr])) (hl o (by simp [ho])) (shut_ends (hs o (by simp [ho]))) hx hy hw hp
    omega
theorem holds_eq {m : Mult} (hg : Good m) (h : least m = 0) {p : Spot} (hw : 0 < p.2) : (m.any fun l => decide (0 ≤ inP l p)) = inSet m p := by
  unfold inSet
  have b1 : badC 1 m = false ∧ badC 2 m = false ∧ badC 3 m = false := by
    unfold least at h
    repeat' split at h
    all_goals first | omega | (simp_all)
  have hl := long_all hg b1.1
  have one : ∀ (c : Nat), badC c m = false → ∀ l ∈ m, holdsC c l = true := by
    intro c hc l hm
    unfold badC at hc
    cases x : holdsC c l with
    | true => rfl
    | false => rw [List.any_eq_true.2 ⟨l, hm, by rw [x]; rfl⟩] at hc; cases hc
  refine any_congr fun l hm => ?_
  have h2 := one 2 b1.2.1 l hm
  have h3 := one 3 b1.2.2 l hm
  have hh := holes_of (hg.shut l hm) (hl l hm) (by simpa [holdsC] using h2) (by simpa [holdsC] using h3)
  cases l with
  | nil => exact absurd rfl (hg.ne [] hm)
  | cons r t => exact in_poly (hl _ hm r (by simp)) hh hw
end Vd
end Go.Proofs.YtcclepohmhdpbaaGreatDoor

/- MOVED, PLAINLY: what is moved lies as it lay. -/
namespace Go.Proofs.YtcclepohmhdpbaaGreatDoor
set_option linter.all false
namespace Vd
def mv (v p : Pnt) : Pnt := (p.1 + v.1, p.2 + v.2)
def mvR (v : Pnt) (r : Ring) : Ring := r.map (mv v)
def mvL (v : Pnt) (l : Poly) : Poly := l.map (mvR v)
def mvM (v : Pnt) (m : Mult) : Mult := m.map (mvL v)
def mvS (v : Pnt) (s : Seg) : Seg := (mv v s.1, mv v s.2)
def mvP (v : Pnt) (p : Spot) : Spot := ((p.1.1 + v.1 * p.2, p.1.2 + v.2 * p.2), p.2)
theorem cr_mv (v a b p : Pnt) (w : Int) : cr (mv v a) (mv v b) (p.1 + v.1 * w, p.2 + v.2 * w) w = cr a b p w := by unfold cr mv; grind
theorem cr_mv1 (v a b p : Pnt) : cr (mv v a) (mv v b) (mv v p) 1 = cr a b p 1 := by unfold cr mv; grind
theorem btw_mv {e m o v w : Int} : btw ((e + v) * w) (m + v * w) ((o + v) * w) ↔ btw (e * w) m (o * w) := by
  have e1 : (e + v) * w = e * w + v * w := by grind
  have e2 : (o + v) * w = o * w + v * w := by grind
  unfold btw
  rw [e1, e2]
  omega
theorem has_mv (v a b p : Pnt) (w : Int) : has (mv v a) (mv v b) (p.1 + v.1 * w, p.2 + v.2 * w) w ↔ has a b p w := by
  unfold has
  rw [cr_mv]
  exact ⟨fun h => ⟨h.1, btw_mv.1 h.2.1, btw_mv.1 h.2.2⟩, fun h => ⟨h.1, btw_mv.2 h.2.1, btw_mv.2 h.2.2⟩⟩
theorem has_mv1 (v a b p : Pnt) : has (mv v a) (mv v b) (mv v p) 1 ↔ has a b p 1 := by
  have := has_mv v a b p 1
  simpa [mv] using this
theorem hasB_mv (v : Pnt) (s : Seg) (p : Spot) : hasB (mvS v s) (mvP v p) = hasB s p := decide_eq_decide.2 (has_mv v s.1 s.2 p.1 p.2)
theorem bef_mv {v p q : Pnt} : bef (mv v p) (mv v q) ↔ bef p q := by unfold bef mv; omega
theorem mv_inj {v p q : Pnt} : mv v p = mv v q ↔ p = q := by
  constructor
  · intro h
    unfold mv at h
    simp only [Prod.mk.injEq] at h
    exact Prod.ext (by omega) (by omega)
  · rintro rfl; rfl
theorem fwd_mv (v a b : Pnt) : fwd (mv v a) (mv v b) = mvS v (fwd a b) := by
  unfold fwd
  by_cases h : bef b a
  · rw [if_pos h, if_pos (bef_mv.2 h)]; rfl
  · rw [if_neg h, if_neg (fun k => h (bef_mv.1 k))]; rfl
theorem ite_mv (v : Pnt) (c : Prop) [Decidable c] (a b : Pnt) : (if c then mv v a else mv v b) = mv v (if c then a else b) := by split <;> rfl
theorem onLine_mv (v : Pnt) (s t : Seg) : onLine (mvS v s) (mvS v t) = onLine s t := by
  unfold onLine mvS
  simp only [bef_mv, ite_mv, mv_inj]
theorem meet_mv (v a b c d : Pnt) : meet (mv v a) (mv v b) (mv v c) (mv v d) = meet a b c d := by
  unfold meet
  simp only [cr_mv1, fwd_mv, onLine_mv]
theorem meetS_mv (v : Pnt) (s t : Seg) : meetS (mvS v s) (mvS v t) = meetS s t := meet_mv _ _ _ _ _
theorem ray_mv (v a b p : Pnt) (w : Int) : ray (mv v a) (mv v b) (p.1 + v.1 * w, p.2 + v.2 * w) w = ray a b p w := by
  have e : ∀ c : Pnt, ((mv v c).2 * w > p.2 + v.2 * w) ↔ (c.2 * w > p.2) := by
    intro c
    have : (mv v c).2 * w = c.2 * w + v.2 * w := by unfold mv; grind
    rw [this]; omega
  unfold ray
  simp only [cr_mv, e]
theorem segs_mv (v : Pnt) (r : Ring) : segs (mvR v r) = (segs r).map (mvS v) := by
  unfold segs mvR
  rw [← List.map_tail, List.zip_map]
  rfl
theorem placeL_mv (v : Pnt) : ∀ (l : List Seg) (i : Bool) (p : Spot), placeL (l.map (mvS v)) i (mvP v p) = placeL l i p := by
  intro l
  induction l with
  | nil => intro i p; rfl
  | cons s t ih =>
    intro i p
    rw [List.map_cons]
    unfold placeL
    rw [hasB_mv, ih, ← ray_mv v s.1 s.2 p.1 p.2]
    rfl
theorem place_mv (v : Pnt) (r : Ring) (p : Spot) : place (mvR v r) (mvP v p) = place r p := by unfold place; rw [segs_mv, placeL_mv]
theorem flat_mv (v : Pnt) (l : Poly) : (mvL v l).flatten = l.flatten.map (mv v) := by unfold mvL mvR; rw [List.map_flatten]
theorem fold_mv (v : Pnt) (s : Seg) (f : Pnt) : ∀ (l : List Pnt) (t : Pnt), (l.map (mv v)).foldl (cutF (mvS v s) (mv v f)) (mv v t) = mv v (l.foldl (cutF s f) t) := by
  intro l
  induction l with
  | nil => intro t; rfl
  | cons p l ih =>
    intro t
    rw [List.map_cons, List.foldl_cons, List.foldl_cons, ← ih]
    congr 1
    unfold cutF
    simp only [bef_mv]
    have : has (mvS v s).1 (mvS v s).2 (mv v p) 1 ↔ has s.1 s.2 p 1 := has_mv1 v s.1 s.2 p
    simp only [this, ite_mv]
theorem nextCut_mv (v : Pnt) (s : Seg) (f : Pnt) (l : Poly) : nextCut (mvS v s) (mv v f) (mvL v l) = mv v (nextCut s f l) := by
  unfold nextCut; rw [flat_mv]; exact fold_mv v s f _ _
theorem midOf_mv (v p q : Pnt) : midOf (mv v p) (mv v q) = mvP v (midOf p q) := by
  unfold midOf mv mvP
  simp only [Prod.mk.injEq, and_true]
  constructor <;> omega
theorem midsF_mv (v : Pnt) (s : Seg) (l : Poly) : ∀ (n : Nat) (f : Pnt), midsF n (mvS v s) (mv v f) (mvL v l) = (midsF n s f l).map (mvP v) := by
  intro n
  induction n with
  | zero => intro f; rfl
  | succ n ih =>
    intro f
    unfold midsF
    by_cases h : f = s.2
    · rw [if_pos h, if_pos (show mv v f = (mvS v s).2 by rw [h]; rfl)]; rfl
    · rw [if_neg h, if_neg (show ¬ mv v f = (mvS v s).2 from fun k => h (mv_inj.1 k)), nextCut_mv, midOf_mv, ih]; rfl
theorem mids_mv (v : Pnt) (s : Seg) (l : Poly) : mids (mvS v s) (mvL v l) = (mids s l).map (mvP v) := by
  unfold mids
  have e : (mvL v l).flatten.length = l.flatten.length := by rw [flat_mv, List.length_map]
  rw [e, show fwd (mvS v s).1 (mvS v s).2 = mvS v (fwd s.1 s.2) from fwd_mv v s.1 s.2]
  exact midsF_mv v _ l _ _
end Vd
end Go.Proofs.YtcclepohmhdpbaaGreatDoor
