import Derived.Test.YtcclepohmhdpbabGreatDoorVdI
namespace Go.Proofs.YtcclepohmhdpbabGreatDoor
set_option linter.all false
namespace Vd
theorem bef_pos' {a b x y : Pnt} (h : bef a b) (hx : cr a b x 1 = 0) (hy : cr a b y 1 = 0) : bef x y ↔ pos a b x < pos a b y := (bef_pos (bef_ne h) hx hy).1 h
theorem fold_cut_eq {a b x : Pnt} (h : bef a b) (hx : cr a b x 1 = 0) : ∀ (l : List Pnt) (t : Pnt), cr a b t 1 = 0 → l.foldl (cutF (a, b) x) t = l.foldl (cutG (pos a b) (fun p => has a b p 1) x) t ∧ cr a b (l.foldl (cutF (a, b) x) t) 1 = 0 := by
  intro l
  induction l with
  | nil => intro t ht; exact ⟨rfl, ht⟩
  | cons p l ih =>
    intro t ht
    rw [List.foldl_cons, List.foldl_cons]
    by_cases hp : has a b p 1
    · have e1 := bef_pos' h hx hp.1
      have e2 := bef_pos' h hp.1 ht
      have e : cutF (a, b) x t p = cutG (pos a b) (fun p => has a b p 1) x t p := by
        unfold cutF cutG
        by_cases c : bef x p ∧ bef p t
        · rw [if_pos ⟨c.1, c.2, hp⟩, if_pos ⟨hp, e1.1 c.1, e2.1 c.2⟩]
        · rw [if_neg (fun q => c ⟨q.1, q.2.1⟩), if_neg (fun q => c ⟨e1.2 q.2.1, e2.2 q.2.2⟩)]
      have ht' : cr a b (cutF (a, b) x t p) 1 = 0 := by unfold cutF; split; exact hp.1; exact ht
      rw [← e]
      exact ih _ ht'
    · rw [show cutF (a, b) x t p = t from if_neg (fun q => hp q.2.2), show cutG (pos a b) (fun p => has a b p 1) x t p = t from if_neg (fun q => hp q.1)]
      exact ih t ht
theorem midsF_eq {a b : Pnt} (h : bef a b) (rings : Poly) : ∀ (n : Nat) (x : Pnt), cr a b x 1 = 0 → midsF n (a, b) x rings = midG (pos a b) (fun p => has a b p 1) rings.flatten b n x := by
  intro n
  induction n with
  | zero => intro x _; rfl
  | succ n ih =>
    intro x hx
    obtain ⟨e, k⟩ := fold_cut_eq h hx rings.flatten b (cr_b a b)
    unfold midsF midG nextCut
    simp only
    rw [← e, ih _ k]
theorem has_swap {a b p : Pnt} {w : Int} : has a b p w ↔ has b a p w := by
 unfold has
 rw [cr_swap a b p w]
 unfold btw
 omega
theorem cut_swap {a b : Pnt} {l : List Pnt} {x : Pnt} : Cut a b l x ↔ Cut b a l x := by
 unfold Cut
 rw [has_swap (a := a)]
 constructor
 ·rintro (h | h | h)
  ·exact .inr (.inl h)
  ·exact .inl h
  ·exact .inr (.inr h)
 ·rintro (h | h | h)
  ·exact .inr (.inl h)
  ·exact .inl h
  ·exact .inr (.inr h)
theorem pos_swap (a b x : Pnt) : pos b a x = kk a b - pos a b x := by unfold pos dt kk; grind
theorem cons_swap {a b : Pnt} {l : List Pnt} {x y : Pnt} (h : Cons (pos a b) (Cut a b l) x y) : Cons (pos b a) (Cut b a l) y x := by
 refine ⟨cut_swap.1 h.cy, cut_swap.1 h.cx, ?_, ?_⟩
 ·rw [pos_swap, pos_swap a b]; have := h.lt; omega
 ·intro c hc
  have := h.no c (cut_swap.2 hc)
  rw [pos_swap, pos_swap a b c, pos_swap a b x]
  omega
theorem mid_swap (x y : Pnt) : midOf x y = midOf y x := by unfold midOf; rw [Int.add_comm, Int.add_comm x.2]
theorem mem_mids {a b : Pnt} (hab : a ≠ b) (rings : Poly) (m : Spot) : m ∈ mids (a, b) rings ↔ ∃ y z, Cons (pos a b) (Cut a b rings.flatten) y z ∧ m = midOf y z := by
 unfold mids fwd
 simp only
 by_cases h : bef b a
 ·rw [if_pos h]
  simp only
  rw [midsF_eq h rings _ _ (cr_a b a), midG_pos (Ne.symm hab) _ (Nat.le_refl _)]
  constructor
  ·rintro ⟨y, z, hc, e⟩; exact ⟨z, y, cons_swap hc, by rw [e, mid_swap]⟩
  ·rintro ⟨y, z, hc, e⟩; exact ⟨z, y, cons_swap hc, by rw [e, mid_swap]⟩
 ·have h' : bef a b := by
   rcases bef_tri a b with k | k | k
   ·exact k
   ·exact absurd k hab
   ·exact absurd k h
  rw [if_neg h]
  simp only
  rw [midsF_eq h' rings _ _ (cr_a a b), midG_pos hab _ (Nat.le_refl _)]
def dotD (a b x y : Pnt) : Int := (y.1 - x.1) * (b.1 - a.1) + (y.2 - x.2) * (b.2 - a.2)
instance (a b p : Pnt) (w : Int) : Decidable (on a b p w) := by unfold on; infer_instance
def cutD (a b x t p : Pnt) : Pnt := if on a b p 1 ∧ dotD a b x p > 0 ∧ dotD a b p t > 0 then p else t
def nextD (a b x : Pnt) (rings : Poly) : Pnt := rings.flatten.foldl (cutD a b x) b
def midsD (a b : Pnt) (rings : Poly) : Nat → Pnt → List Spot
 | 0, _ => []
 | n + 1, x => if x = b then [] else midOf x (nextD a b x rings) :: midsD a b rings n (nextD a b x rings)
def midD (a b : Pnt) (rings : Poly) : List Spot := midsD a b rings (rings.flatten.length + 1) a
end Vd
end Go.Proofs.YtcclepohmhdpbabGreatDoor

namespace Go.Proofs.YtcclepohmhdpbabGreatDoor
set_option linter.all false
namespace Vd
theorem onLine_symm (s t : Seg) : onLine s t = onLine t s := by
 have e1 : (if bef s.1 t.1 then t.1 else s.1) = (if bef t.1 s.1 then s.1 else t.1) := by
  rcases bef_tri s.1 t.1 with h | h | h
  ·rw [if_pos h, if_neg (fun k => bef_irr h k)]
  ·rw [h]
  ·rw [if_neg (fun k => bef_irr h k), if_pos h]
 have e2 : (if bef t.2 s.2 then t.2 else s.2) = (if bef s.2 t.2 then s.2 else t.2) := by
  rcases bef_tri s.2 t.2 with h | h | h
  ·rw [if_pos h, if_neg (fun k => bef_irr h k)]
  ·rw [h]
  ·rw [if_neg (fun k => bef_irr h k), if_pos h]
 unfold onLine
 simp only
 rw [e1, e2]
theorem meet_symm (a b c d : Pnt) : meet a b c d = meet c d a b := by
 unfold meet
 simp only
 generalize sg (cr a b c 1) = x
 generalize sg (cr a b d 1) = y
 generalize sg (cr c d a 1) = z
 generalize sg (cr c d b 1) = u
 rw [onLine_symm (fwd a b)]
 have e1 : (x = 0 ∧ y = 0 ∧ z = 0 ∧ u = 0) ↔ (z = 0 ∧ u = 0 ∧ x = 0 ∧ y = 0) := by omega
 have e2 : (x * y > 0 ∨ z * u > 0) ↔ (z * u > 0 ∨ x * y > 0) := Or.comm
 have e3 : x * y * z * u = z * u * x * y := by grind
 rw [e3]
 simp only [e1, e2]
theorem meetS_symm (s t : Seg) : meetS s t = meetS t s := meet_symm _ _ _ _
def inRingL : List Seg → Bool → Spot → Int
 | [], i, _ => if i then 1 else -1
 | s :: t, i, p => if on s.1 s.2 p.1 p.2 then 0 else inRingL t (if rayD s.1 s.2 p.1 p.2 then !i else i) p
def inRing (r : Ring) (p : Spot) : Int := inRingL (segs r) false p
def pl (k : Int) : Int := if k = 0 then 1 else if k = 1 then 2 else 0
def Long (r : Ring) : Prop := ∀ s ∈ segs r, s.1 ≠ s.2
def inL : Int → List Ring → Spot → Int
 | s, [], _ => s
 | s, r :: t, p => if inRing r p = 0 ∧ 0 ≤ s then 0 else if inRing r p = 1 then -1 else inL s t p
def inP : Poly → Spot → Int
 | [], _ => 0
 | r :: t, p => inL (inRing r p) t p
theorem cr_mid (a b x y : Pnt) : cr a b (midOf x y).1 2 = cr a b x 1 + cr a b y 1 := by unfold cr midOf; grind
theorem placeL_one : ∀ (l : List Seg) (i : Bool) (p : Spot), placeL l i p = 1 ↔ ∃ s ∈ l, has s.1 s.2 p.1 p.2 := by
  intro l
  induction l with
  | nil => intro i p; cases i <;> simp [placeL]
  | cons s t ih =>
    intro i p
    unfold placeL hasB
    by_cases h : has s.1 s.2 p.1 p.2
    · rw [if_pos (decide_eq_true h)]; simp [h]
    · rw [decide_eq_false h]
      simp only [Bool.false_eq_true, if_false]
      rw [ih]
      simp [h]
theorem place_one {r : Ring} {p : Spot} : place r p = 1 ↔ ∃ s ∈ segs r, has s.1 s.2 p.1 p.2 := placeL_one _ _ _
end Vd
end Go.Proofs.YtcclepohmhdpbabGreatDoor

namespace Go.Proofs.YtcclepohmhdpbabGreatDoor
set_option linter.all false
namespace Vd
def Inn (a b m : Pnt) : Prop := has a b m 2 ∧ m ≠ (a.1 * 2, a.2 * 2) ∧ m ≠ (b.1 * 2, b.2 * 2)
theorem inn_pos {a b m : Pnt} (hab : a ≠ b) (h : Inn a b m) : 0 < dt a b m 2 ∧ dt a b m 2 < kk a b * 2 := by
 have hk := kk_pos hab
 obtain ⟨h0, h1, h2⟩ := (has_on hab (by omega)).1 h.1
 have e1 : dt a b m 2 * (b.1 - a.1) = (m.1 - a.1 * 2) * kk a b := by unfold cr at h0; unfold dt kk; grind
 have e2 : dt a b m 2 * (b.2 - a.2) = (m.2 - a.2 * 2) * kk a b := by unfold cr at h0; unfold dt kk; grind
 have z : ∀ t : Int, 0 = t * kk a b → t = 0 := by
  intro t h
  rcases Int.mul_eq_zero.1 h.symm with h | h
  ·exact h
  ·omega
 constructor
 ·rcases Int.lt_or_eq_of_le h1 with g | g
  ·exact g
  ·exfalso
   rw [← g, Int.zero_mul] at e1 e2
   have := z _ e1
   have := z _ e2
   exact h.2.1 (Prod.ext (by simp only; omega) (by simp only; omega))
 ·rcases Int.lt_or_eq_of_le h2 with g | g
  ·exact g
  ·exfalso
   have f1 : 0 = (m.1 - b.1 * 2) * kk a b := by rw [g] at e1; grind
   have f2 : 0 = (m.2 - b.2 * 2) * kk a b := by rw [g] at e2; grind
   have := z _ f1
   have := z _ f2
   exact h.2.2 (Prod.ext (by simp only; omega) (by simp only; omega))
theorem weights {p q X Y : Int} (hp : 0 < p) (hq : 0 < q) (e : p * X + q * Y = 0) : (X = 0 ∧ Y = 0) ∨ (0 < X ∧ Y < 0) ∨ (X < 0 ∧ 0 < Y) := by
 rcases Int.lt_trichotomy X 0 with h | h | h
 ·right; right; refine ⟨h, ?_⟩
  have := Int.mul_neg_of_pos_of_neg hp h
  rcases Int.lt_or_le 0 Y with g | g
  ·exact g
  ·have := Int.mul_nonpos_of_nonneg_of_nonpos (Int.le_of_lt hq) g
   omega
 ·left; refine ⟨h, ?_⟩
  rw [h, Int.mul_zero, Int.zero_add] at e
  rcases Int.mul_eq_zero.1 e with g | g
  ·omega
  ·exact g
 ·right; left; refine ⟨h, ?_⟩
  have := Int.mul_pos hp h
  rcases Int.lt_or_le Y 0 with g | g
  ·exact g
  ·have := Int.mul_nonneg (Int.le_of_lt hq) g
   omega
theorem inn_sides {a b c d m : Pnt} (hcd : c ≠ d) (h1 : cr a b m 2 = 0) (h2 : Inn c d m) : (cr a b c 1 = 0 ∧ cr a b d 1 = 0) ∨ (0 < cr a b c 1 ∧ cr a b d 1 < 0) ∨ (cr a b c 1 < 0 ∧ 0 < cr a b d 1) := by
 obtain ⟨g1, g2⟩ := inn_pos hcd h2
 have h0 := h2.1.1
 have e1 : dt c d m 2 * (d.1 - c.1) = (m.1 - c.1 * 2) * kk c d := by unfold cr at h0; unfold dt kk; grind
 have e2 : dt c d m 2 * (d.2 - c.2) = (m.2 - c.2 * 2) * kk c d := by unfold cr at h0; unfold dt kk; grind
 refine weights (p := kk c d * 2 - dt c d m 2) (q := dt c d m 2) (by omega) g1 ?_
 generalize dt c d m 2 = T at *
 generalize kk c d = K at *
 unfold cr at *
 grind
theorem line_other {a b c d : Pnt} (hab : a ≠ b) (h1 : cr a b c 1 = 0) (h2 : cr a b d 1 = 0) : cr c d a 1 = 0 ∧ cr c d b 1 = 0 := by
 have hk := kk_pos hab
 have z : ∀ t : Int, kk a b * t = 0 → t = 0 := by
  intro t h
  rcases Int.mul_eq_zero.1 h with h | h
  ·omega
  ·exact h
 constructor
 ·apply z; unfold cr at *; unfold kk; grind
 ·apply z; unfold cr at *; unfold kk; grind
theorem dt_two (a b x : Pnt) : dt a b (x.1 * 2, x.2 * 2) 2 = 2 * pos a b x := by unfold dt pos dt; grind
theorem inn_between {a b c d m : Pnt} (hcd : c ≠ d) (h2 : Inn c d m) : (2 * pos a b c < dt a b m 2 ∧ dt a b m 2 < 2 * pos a b d) ∨ (2 * pos a b d < dt a b m 2 ∧ dt a b m 2 < 2 * pos a b c) ∨ pos a b c = pos a b d := by
 obtain ⟨g1, g2⟩ := inn_pos hcd h2
 have h0 := h2.1.1
 have hk := kk_pos hcd
 have e1 : dt c d m 2 * (d.1 - c.1) = (m.1 - c.1 * 2) * kk c d := by unfold cr at h0; unfold dt kk; grind
 have e2 : dt c d m 2 * (d.2 - c.2) = (m.2 - c.2 * 2) * kk c d := by unfold cr at h0; unfold dt kk; grind
 have e : dt c d m 2 * (pos a b d - pos a b c) = kk c d * (dt a b m 2 - 2 * pos a b c) := by
  generalize dt c d m 2 = T at *
  generalize kk c d = K at *
  unfold pos dt; grind
 have e' : (kk c d * 2 - dt c d m 2) * (pos a b d - pos a b c) = kk c d * (2 * pos a b d - dt a b m 2) := by
  have : (kk c d * 2 - dt c d m 2) * (pos a b d - pos a b c) = kk c d * 2 * (pos a b d - pos a b c) - dt c d m 2 * (pos a b d - pos a b c) := by grind
  rw [this, e]; grind
 have g3 : 0 < kk c d * 2 - dt c d m 2 := by omega
 have sgn : ∀ {p q A B : Int}, 0 < p → 0 < q → p * A = q * B → (0 < A → 0 < B) ∧ (A < 0 → B < 0) := by
  intro p q A B hp hq e
  constructor
  ·intro hA
   have := Int.mul_pos hp hA
   rw [e] at this
   exact Int.pos_of_mul_pos_right this hq
  ·intro hA
   have := Int.mul_neg_of_pos_of_neg hp hA
   rw [e] at this
   rcases Int.lt_or_le B 0 with g | g
   ·exact g
   ·have := Int.mul_nonneg (Int.le_of_lt hq) g; omega
 rcases Int.lt_trichotomy (pos a b d - pos a b c) 0 with h | h | h
 ·have k1 := (sgn g1 hk e).2 h
  have k2 := (sgn g3 hk e').2 h
  right; left; omega
 ·right; right; omega
 ·have k1 := (sgn g1 hk e).1 h
  have k2 := (sgn g3 hk e').1 h
  left; omega
theorem inn_cross {a b c d m : Pnt} (hab : a ≠ b) (hcd : c ≠ d) (h1 : Inn a b m) (h2 : Inn c d m) : meet a b c d = 2 ∨ meet a b c d = 3 := by
 have s1 := inn_sides hcd h1.1.1 h2
 have s2 := inn_sides hab h2.1.1 h1
 have l1 := line_other (c := c) (d := d) hab
 have l2 := line_other (c := a) (d := b) hcd
 by_cases hz : cr a b c 1 = 0
 ·have hd : cr a b d 1 = 0 := by omega
  obtain ⟨z1, z2⟩ := l1 hz hd
  right
  have hm : meet a b c d = onLine (fwd a b) (fwd c d) := by
   unfold meet
   simp [hz, hd, z1, z2, sg]
  rw [hm]
  obtain ⟨p1, p2⟩ := inn_pos hab h1
  have hb := inn_between (a := a) (b := b) hcd h2
  have hne : pos a b c ≠ pos a b d := fun e => hcd (pos_inj hab hz hd e)
  rw [onLine_count hab hcd hz hd]
  have : count (kk a b) (min (pos a b c) (pos a b d)) (max (pos a b c) (pos a b d)) = 2 := by
   unfold count
   rw [if_neg (by omega), if_neg (by omega)]
  simp [this]
 ·left
  have t2 : ¬ (cr c d a 1 = 0 ∧ cr c d b 1 = 0) := fun e => hz (l2 e.1 e.2).1
  have sp : ∀ {n : Int}, 0 < n → sg n = 1 := fun h => by unfold sg; rw [if_pos h]
  have sn : ∀ {n : Int}, n < 0 → sg n = -1 := fun h => by unfold sg; rw [if_neg (by omega), if_pos h]
  rcases s1 with e | ⟨x1, y1⟩ | ⟨x1, y1⟩
  ·exact absurd e.1 hz
  ·rcases s2 with e | ⟨z1, u1⟩ | ⟨z1, u1⟩
   ·exact absurd e t2
   ·unfold meet; simp [sp x1, sn y1, sp z1, sn u1]
   ·unfold meet; simp [sp x1, sn y1, sn z1, sp u1]
  ·rcases s2 with e | ⟨z1, u1⟩ | ⟨z1, u1⟩
   ·exact absurd e t2
   ·unfold meet; simp [sn x1, sp y1, sp z1, sn u1]
   ·unfold meet; simp [sn x1, sp y1, sn z1, sp u1]
theorem mid_off {a b : Pnt} (hab : a ≠ b) {rings : Poly} {o : Ring} (ho : o ∈ rings) (hl : Long o) {m : Spot} (hm : m ∈ mids (a, b) rings) (hx : ∀ t ∈ segs o, crossS (a, b) t = false) : place o m ≠ 1 := by
 intro h1
 obtain ⟨y, z, hc, rfl⟩ := (mem_mids hab rings m).1 hm
 obtain ⟨t, ht, hh⟩ := place_one.1 h1
 have hh' : has t.1 t.2 (midOf y z).1 2 := hh
 have py := pos_le hab (cut_has hc.cx)
 have pz := pos_le hab (cut_has hc.cy)
 have hlt := hc.lt
 have ep : dt a b (midOf y z).1 2 = pos a b y + pos a b z := by unfold midOf pos dt; grind
 have hon : has a b (midOf y z).1 2 := by
  rw [has_on hab (by omega)]
  refine ⟨?_, by omega, by omega⟩
  have := cr_mid a b y z
  rw [this, (cut_has hc.cx).1, (cut_has hc.cy).1]; rfl
 have i1 : Inn a b (midOf y z).1 := by
  refine ⟨hon, ?_, ?_⟩
  ·intro e
   have := dt_two a b a
   rw [← e, ep, pos_a] at this
   omega
  ·intro e
   have := dt_two a b b
   rw [← e, ep, pos_b] at this
   omega
 have noCut : ∀ c, c ∈ o → (midOf y z).1 ≠ (c.1 * 2, c.2 * 2) := by
  intro c hco e
  have d2 := dt_two a b c
  rw [← e, ep] at d2
  have hcut : Cut a b rings.flatten c := by
   refine .inr (.inr ⟨List.mem_flatten.2 ⟨o, ho, hco⟩, ?_⟩)
   rw [has_on hab (by omega)]
   have g0 : cr a b (c.1 * 2, c.2 * 2) 2 = 0 := e ▸ hon.1
   refine ⟨?_, ?_, ?_⟩
   ·unfold cr at *; grind
   ·show 0 ≤ pos a b c; omega
   ·show pos a b c ≤ _; omega
  exact hc.no c hcut ⟨by omega, by omega⟩
 have i2 : Inn t.1 t.2 (midOf y z).1 := ⟨hh', noCut _ (segs_mem ht).1, noCut _ (segs_mem ht).2⟩
 have := inn_cross hab (hl t ht) i1 i2
 have hf := hx t ht
 unfold crossS meetS at hf
 simp only [Bool.or_eq_false_iff, decide_eq_false_iff_not] at hf
 rcases this with e | e
 ·exact hf.1 e
 ·exact hf.2 e
end Vd
end Go.Proofs.YtcclepohmhdpbabGreatDoor

namespace Go.Proofs.YtcclepohmhdpbabGreatDoor
set_option linter.all false
namespace Vd
def twiceD (r : Ring) : Bool := anyI (r.length - 1) fun i => anyI i fun j => decide (ptAt r i = ptAt r j)
def nextD2 (n i j : Nat) : Bool := decide (j + 1 = i) || (decide (j = 0) && decide (i + 1 = n))
def badK (next : Bool) (k : Int) : Bool := (next && decide (k ≠ 1)) || (!next && decide (k ≠ 0))
def selfD (r : Ring) : Bool := anyI (r.length - 1) fun i => anyI i fun j => badK (nextD2 (r.length - 1) i j) (common (ptAt r i) (ptAt r (i + 1)) (ptAt r j) (ptAt r (j + 1))).1
def cleanD (r : Ring) : Bool := !(twiceD r || selfD r)
def crossD (s t : Seg) : Bool := decide ((common s.1 s.2 t.1 t.2).1 = 2) || (common s.1 s.2 t.1 t.2).2
def pointsD (a b : Ring) : Bool := !((segs a).any fun s => (segs b).any fun t => crossD s t)
def allD (r : Ring) (q : Poly) (k : Int) : Bool := !((segs r).any fun s => (midD s.1 s.2 q).any fun m => decide (inP q m ≠ k))
structure Shut (r : Ring) : Prop where
 len : 4 ≤ r.length
 eq : ptAt r 0 = ptAt r (r.length - 1)
theorem ptAt_get {r : Ring} {i : Nat} (h : i < r.length) : r[i]? = some (ptAt r i) := by
 unfold ptAt; rw [List.getD_eq_getElem?_getD, List.getElem?_eq_getElem h]; rfl
theorem sAt_get {r : Ring} {i : Nat} (h : i + 1 < r.length) : sAt (segs r) i = (ptAt r i, ptAt r (i + 1)) := by
 unfold sAt; rw [List.getD_eq_getElem?_getD, segs_at (ptAt_get (by omega)) (ptAt_get h)]; rfl
theorem segs_mem_at {r : Ring} {s : Seg} (h : s ∈ segs r) : ∃ i, i + 1 < r.length ∧ s = (ptAt r i, ptAt r (i + 1)) := by
 obtain ⟨i, hi, e⟩ := List.getElem_of_mem h
 rw [segs_len] at hi
 have hi' : i + 1 < r.length := by omega
 refine ⟨i, hi', ?_⟩
 have := segs_at (ptAt_get (show i < r.length by omega)) (ptAt_get hi')
 rw [List.getElem?_eq_getElem (by rw [segs_len]; exact hi)] at this
 rw [← e]; exact Option.some.inj this
theorem twice_iff {r : Ring} : twice r = true ↔ ∃ i j, 1 ≤ i ∧ i < j ∧ j < r.length ∧ ptAt r i = ptAt r j := by
 unfold twice
 rw [anyI_iff]
 constructor
 ·rintro ⟨i, hi, h⟩
  simp only [Bool.and_eq_true, decide_eq_true_eq, anyI_iff] at h
  obtain ⟨h1, j, hj, h2, h3⟩ := h
  rw [ptAt_get hi, ptAt_get hj] at h3
  exact ⟨i, j, h1, h2, hj, Option.some.inj h3⟩
 ·rintro ⟨i, j, h1, h2, h3, h4⟩
  refine ⟨i, by omega, ?_⟩
  simp only [Bool.and_eq_true, decide_eq_true_eq, anyI_iff]
  exact ⟨h1, j, h3, h2, by rw [ptAt_get (show i < r.length by omega), ptAt_get h3, h4]⟩
theorem long_of {r : Ring} (h : Shut r) (ht : twice r = false) : Long r := by
 intro s hs e
 obtain ⟨i, hi, rfl⟩ := segs_mem_at hs
 have h4 := h.len
 have : twice r = true := by
  rw [twice_iff]
  by_cases h0 : i = 0
  ·subst h0
   exact ⟨1, r.length - 1, by omega, by omega, by omega, by rw [← h.eq]; exact e.symm⟩
  ·exact ⟨i, i + 1, by omega, by omega, hi, e⟩
 rw [ht] at this; cases this
theorem meet_shared {a b c d : Pnt} (h : cr a b c 1 = 0 ∨ cr a b d 1 = 0) : meet a b c d ≠ 2 := by
 have hl : ∀ s t, onLine s t ≠ 2 := by
  intro s t
  unfold onLine
  simp only
  split
  ·omega
  ·split <;> omega
 unfold meet
 simp only
 split
 ·exact hl _ _
 ·split
  ·omega
  ·have : sg (cr a b c 1) * sg (cr a b d 1) * sg (cr c d a 1) * sg (cr c d b 1) = 0 := by
    rcases h with h | h
    ·rw [h]; simp [sg]
    ·rw [h]; simp [sg]
   rw [if_pos this]; omega
end Vd
end Go.Proofs.YtcclepohmhdpbabGreatDoor

namespace Go.Proofs.YtcclepohmhdpbabGreatDoor
set_option linter.all false
namespace Vd
def d1 (m : Mult) : Bool := m.any fun l => l.any fun r => !(cleanD r)
def d2 (m : Mult) : Bool := m.any fun l => anyI l.length fun i => anyI l.length fun j => decide (j ≠ i) && !(pointsD (rAt l i) (rAt l j))
def nestD (j : Nat) : Int := if j = 0 then 1 else -1
def d3 (m : Mult) : Bool := m.any fun l => anyI l.length fun i => decide (1 ≤ i) && anyI l.length fun j => decide (j ≠ i) && !(allD (rAt l i) [rAt l j] (nestD j))
structure Good (m : Mult) : Prop where
 ne : ∀ l ∈ m, l ≠ []
 shut : ∀ l ∈ m, ∀ r ∈ l, Shut r
theorem good_of {m : Mult} (h : Pl.wrong m = 0) : Good m := by
  have hb : m.any Pl.badL = false := by
    unfold Pl.wrong at h
    split at h
    · omega
    · split at h
      · omega
      · rename_i k; simpa using k
  have one : ∀ l ∈ m, Pl.badL l = false := by
    intro l hl
    cases hx : Pl.badL l with
    | false => rfl
    | true => rw [List.any_eq_true.2 ⟨l, hl, hx⟩] at hb; cases hb
  refine ⟨fun l hl e => ?_, fun l hl r hr => ?_⟩
  · have := one l hl
    unfold Pl.badL at this
    rw [e] at this
    simp at this
  · have := one l hl
    unfold Pl.badL at this
    simp only [Bool.or_eq_false_iff] at this
    have hr2 : Pl.badR r = false := by
      cases hx : Pl.badR r with
      | false => rfl
      | true =>
        have e : Pl.badRs l = true := List.any_eq_true.2 ⟨r, hr, hx⟩
        rw [e] at this; cases this.2
    unfold Pl.badR at hr2
    simp only [Bool.or_eq_false_iff, decide_eq_false_iff_not, Bool.not_eq_false', decide_eq_true_eq] at hr2
    have h4 : 4 ≤ r.length := by omega
    refine ⟨h4, ?_⟩
    have e := hr2.2
    rw [List.head?_eq_getElem?, List.getLast?_eq_getElem?, ptAt_get (by omega), ptAt_get (by omega)] at e
    exact Option.some.inj e
theorem rAt_mem {l : Poly} {i : Nat} (h : i < l.length) : rAt l i ∈ l := by
 unfold rAt; rw [List.getD_eq_getElem?_getD, List.getElem?_eq_getElem h]; simp
theorem pAt_mem {m : Mult} {i : Nat} (h : i < m.length) : pAt m i ∈ m := by
 unfold pAt; rw [List.getD_eq_getElem?_getD, List.getElem?_eq_getElem h]; simp
theorem any_congr {α : Type} {l : List α} {f g : α → Bool} (h : ∀ x ∈ l, f x = g x) : l.any f = l.any g := by
 induction l with
 | nil => rfl
 | cons a t ih => rw [List.any_cons, List.any_cons, h a (by simp), ih fun x hx => h x (by simp [hx])]
theorem anyI_congr {n : Nat} {f g : Nat → Bool} (h : ∀ i, i < n → f i = g i) : anyI n f = anyI n g := any_congr fun x hx => h x (List.mem_range.1 hx)
def half (a b : Poly) : Bool := a.any fun r => b.any (fun s => !(pointsD r s)) || !(allD r b (-1))
end Vd
end Go.Proofs.YtcclepohmhdpbabGreatDoor

namespace Go.Proofs.YtcclepohmhdpbabGreatDoor
set_option linter.all false
namespace Vd
structure RG (X : Mult) : Prop where
 long : ∀ r ∈ X.flatten, Long r
 from_ : ∀ r ∈ X.flatten, ∀ p ∈ r, ∃ q, (p, q) ∈ segs r
theorem least_of {l : List Pnt} (h : l ≠ []) : ∃ p ∈ l, ∀ q ∈ l, q = p ∨ bef p q := by
  induction l with
  | nil => exact absurd rfl h
  | cons a t ih =>
    by_cases ht : t = []
    · subst ht; exact ⟨a, by simp, by simp⟩
    · obtain ⟨p, hp, hl⟩ := ih ht
      rcases bef_tri a p with k | k | k
      · refine ⟨a, by simp, fun q hq => ?_⟩
        rcases List.mem_cons.1 hq with e | hq
        · exact .inl e
        · rcases hl q hq with e | e
          · rw [e]; exact .inr k
          · exact .inr (bef_trans k e)
      · refine ⟨a, by simp, fun q hq => ?_⟩
        rcases List.mem_cons.1 hq with e | hq
        · exact .inl e
        · rw [k]; exact hl q hq
      · refine ⟨p, by simp [hp], fun q hq => ?_⟩
        rcases List.mem_cons.1 hq with e | hq
        · rw [e]; exact .inr k
        · exact hl q hq
theorem mem_edges {l : Poly} {s : Seg} : s ∈ edges l ↔ ∃ r ∈ l, s ∈ segs r := by unfold edges; rw [List.mem_flatMap]
end Vd
end Go.Proofs.YtcclepohmhdpbabGreatDoor

namespace Go.Proofs.YtcclepohmhdpbabGreatDoor
set_option linter.all false
namespace Vd
structure VR (r : Ring) : Prop where
 shut : Shut r
 tw : twice r = false
 self : selfR r = false
theorem least0 {m : Mult} (h : least m = 0) : badC 1 m = false ∧ badC 2 m = false ∧ badC 3 m = false ∧ badC 4 m = false ∧ overlap m = false := by
 unfold least at h
 cases h1 : badC 1 m <;> cases h2 : badC 2 m <;> cases h3 : badC 3 m <;> cases h4 : badC 4 m <;> cases h5 : overlap m <;> simp_all
theorem vr_of {m : Mult} (hg : Good m) (h : badC 1 m = false) : ∀ l ∈ m, ∀ r ∈ l, VR r := by
  intro l hl r hr
  have : (twice r || selfR r) = false := by
    cases hx : (twice r || selfR r) with
    | false => rfl
    | true =>
      have : badC 1 m = true := by
        unfold badC
        refine List.any_eq_true.2 ⟨l, hl, ?_⟩
        unfold holdsC simple
        simp only [if_true, Bool.not_not]
        exact List.any_eq_true.2 ⟨r, hr, hx⟩
      rw [h] at this; cases this
  rw [Bool.or_eq_false_iff] at this
  exact ⟨hg.shut l hl r hr, this.1, this.2⟩
theorem VR.long {r : Ring} (h : VR r) : Long r := long_of h.shut h.tw
theorem VR.meet {r : Ring} (h : VR r) {i j : Nat} (hij : i < j) (hj : j + 1 < r.length) : meetS (ptAt r i, ptAt r (i + 1)) (ptAt r j, ptAt r (j + 1)) = wantI (r.length - 1) i j := by
  have hs := h.self
  cases hx : decide (meetS (sAt (segs r) i) (sAt (segs r) j) ≠ wantI (segs r).length i j) with
  | true =>
    have : selfR r = true := by
      unfold selfR
      exact anyI_true (i := j) (by rw [segs_len]; omega) (anyI_true (i := i) hij hx)
    rw [hs] at this; cases this
  | false =>
    have := of_decide_eq_false hx
    rw [sAt_get (by omega), sAt_get (by omega), segs_len] at this
    exact Decidable.not_not.1 this
theorem VR.adj {r : Ring} (h : VR r) {i : Nat} (h1 : 1 ≤ i) (hi : i < r.length) : meetS (ptAt r (i - 1), ptAt r i) (ptAt r i, nextI r i) = 1 := by
 have h4 := h.shut.len
 unfold nextI
 by_cases hl : i + 1 < r.length
 ·rw [if_pos hl]
  have := h.meet (i := i - 1) (j := i) (by omega) hl
  rw [show i - 1 + 1 = i by omega] at this
  rw [this]
  unfold wantI
  rw [if_pos (by omega)]
 ·rw [if_neg hl, meetS_symm]
  have := h.meet (i := 0) (j := i - 1) (by omega) (by omega)
  rw [show i - 1 + 1 = i by omega, h.shut.eq, show r.length - 1 = i by omega] at this
  rw [this]
  unfold wantI
  rw [if_pos (by omega)]
theorem nextI_mem {r : Ring} (h : Shut r) {i : Nat} (hi : i < r.length) : nextI r i ∈ r := by
 have h4 := h.len
 unfold nextI
 split
 ·rename_i k; exact List.mem_of_getElem? (ptAt_get k)
 ·exact List.mem_of_getElem? (ptAt_get (by omega))
theorem ptAt_mem {r : Ring} {i : Nat} (hi : i < r.length) : ptAt r i ∈ r := List.mem_of_getElem? (ptAt_get hi)
theorem onLine_same {p x y : Pnt} (hx : bef p x) (hy : bef p y) : onLine (p, x) (p, y) = 3 := by
 unfold onLine
 simp only
 rw [if_neg (fun k => bef_irr k k)]
 split <;> first | rfl | rw [if_pos hy] | rw [if_pos hx]
theorem onLine_same' {p x y : Pnt} (hx : bef x p) (hy : bef y p) : onLine (x, p) (y, p) = 3 := by
 unfold onLine
 simp only
 rw [if_neg (c := bef p p) (fun k => bef_irr k k)]
 split <;> first | rfl | rw [if_pos hy] | rw [if_pos hx]
theorem VR.turns {r : Ring} (h : VR r) {i : Nat} (h1 : 1 ≤ i) (hi : i < r.length) (he : (∀ p ∈ r, p = ptAt r i ∨ bef (ptAt r i) p) ∨ (∀ p ∈ r, p = ptAt r i ∨ bef p (ptAt r i))) : turns r i = true := by
 unfold Vd.turns
 rw [decide_eq_true h1, Bool.true_and, decide_eq_true_eq]
 intro hz
 have hadj := h.adj h1 hi
 have hl := h.long
 have s1 : ptAt r (i - 1) ≠ ptAt r i := by
  have := hl (ptAt r (i - 1), ptAt r (i - 1 + 1)) (List.mem_of_getElem? (segs_at (ptAt_get (by omega)) (ptAt_get (by omega))))
  rw [show i - 1 + 1 = i by omega] at this
  exact this
 have s2 : ptAt r i ≠ nextI r i := by
  have h4 := h.shut.len
  unfold nextI
  split
  ·rename_i k
   exact hl (ptAt r i, ptAt r (i + 1)) (List.mem_of_getElem? (segs_at (ptAt_get (by omega)) (ptAt_get k)))
  ·have := hl (ptAt r 0, ptAt r 1) (List.mem_of_getElem? (segs_at (ptAt_get (by omega)) (ptAt_get (by omega))))
   rw [h.shut.eq, show r.length - 1 = i by omega] at this
   exact this
 have cz : cr (ptAt r (i - 1)) (ptAt r i) (nextI r i) 1 = 0 := (sg_zero _).1 hz
 have hm1 := ptAt_mem (r := r) (i := i - 1) (by omega)
 have hm2 := nextI_mem h.shut hi
 generalize ptAt r (i - 1) = x at *
 generalize nextI r i = y at *
 generalize ptAt r i = p at *
 have z1 := cr_b x p
 obtain ⟨z3, z4⟩ := line_other s1 z1 cz
 have hm : meetS (x, p) (p, y) = onLine (fwd x p) (fwd p y) := by
  unfold meetS Vd.meet
  simp [z1, cz, z3, z4, sg]
 rw [hm] at hadj
 rcases he with he | he
 ·have b1 : bef p x := by rcases he x hm1 with e | e; exact absurd e s1; exact e
  have b2 : bef p y := by rcases he y hm2 with e | e; exact absurd e.symm s2; exact e
  have e1 : fwd x p = (p, x) := by unfold fwd; rw [if_pos b1]
  have e2 : fwd p y = (p, y) := by unfold fwd; rw [if_neg (fun k => bef_irr b2 k)]
  rw [e1, e2, onLine_same b1 b2] at hadj
  omega
 ·have b1 : bef x p := by rcases he x hm1 with e | e; exact absurd e s1; exact e
  have b2 : bef y p := by rcases he y hm2 with e | e; exact absurd e.symm s2; exact e
  have e1 : fwd x p = (x, p) := by unfold fwd; rw [if_neg (fun k => bef_irr b1 k)]
  have e2 : fwd p y = (y, p) := by unfold fwd; rw [if_pos b2]
  rw [e1, e2, onLine_same' b1 b2] at hadj
  omega
theorem greatest_of {l : List Pnt} (h : l ≠ []) : ∃ p ∈ l, ∀ q ∈ l, q = p ∨ bef q p := by
  induction l with
  | nil => exact absurd rfl h
  | cons a t ih =>
    by_cases ht : t = []
    · subst ht; exact ⟨a, by simp, by simp⟩
    · obtain ⟨p, hp, hl⟩ := ih ht
      rcases bef_tri p a with k | k | k
      · refine ⟨a, by simp, fun q hq => ?_⟩
        rcases List.mem_cons.1 hq with e | hq
        · exact .inl e
        · rcases hl q hq with e | e
          · rw [e]; exact .inr k
          · exact .inr (bef_trans e k)
      · refine ⟨a, by simp, fun q hq => ?_⟩
        rcases List.mem_cons.1 hq with e | hq
        · exact .inl e
        · rw [← k]; exact hl q hq
      · refine ⟨p, by simp [hp], fun q hq => ?_⟩
        rcases List.mem_cons.1 hq with e | hq
        · rw [e]; exact .inr k
        · exact hl q hq
theorem place_of {r : Ring} (h : Shut r) {p : Pnt} (hp : p ∈ r) : ∃ i, 1 ≤ i ∧ i < r.length ∧ ptAt r i = p := by
 obtain ⟨i, hi, e⟩ := List.getElem_of_mem hp
 have e' : ptAt r i = p := by
  have := ptAt_get hi
  rw [List.getElem?_eq_getElem hi, e] at this
  exact (Option.some.inj this).symm
 have h4 := h.len
 by_cases h0 : i = 0
 ·exact ⟨r.length - 1, by omega, by omega, by rw [← h.eq, ← h0]; exact e'⟩
 ·exact ⟨i, by omega, hi, e'⟩
theorem mem_corners {r : Ring} {p : Pnt} : p ∈ corners r ↔ ∃ i, i < r.length ∧ Vd.turns r i = true ∧ ptAt r i = p := by
 unfold corners cornersI
 simp only [List.mem_map, List.mem_filter, List.mem_range]
 constructor
 ·rintro ⟨i, ⟨h1, h2⟩, h3⟩; exact ⟨i, h1, h2, h3⟩
 ·rintro ⟨i, h1, h2, h3⟩; exact ⟨i, ⟨h1, h2⟩, h3⟩
theorem map_nodup {f : Nat → Pnt} {l : List Nat} (h : l.Nodup) (hf : ∀ x ∈ l, ∀ y ∈ l, f x = f y → x = y) : (l.map f).Nodup := by
  induction l with
  | nil => exact List.nodup_nil
  | cons a t ih =>
    rw [List.nodup_cons] at h
    rw [List.map_cons, List.nodup_cons]
    refine ⟨?_, ih h.2 fun x hx y hy => hf x (by simp [hx]) y (by simp [hy])⟩
    intro hm
    obtain ⟨b, hb, e⟩ := List.mem_map.1 hm
    have := hf b (by simp [hb]) a (by simp) e
    exact h.1 (this ▸ hb)
theorem VR.corners_nodup {r : Ring} (h : VR r) : (corners r).Nodup := by
 unfold corners cornersI
 refine map_nodup (List.Pairwise.filter _ List.nodup_range) ?_
 intro x hx y hy e
 have hx1 := List.mem_filter.1 hx
 have hy1 := List.mem_filter.1 hy
 have hx2 := List.mem_range.1 hx1.1
 have hy2 := List.mem_range.1 hy1.1
 have hx3 : 1 ≤ x := by have := hx1.2; unfold Vd.turns at this; simp only [Bool.and_eq_true, decide_eq_true_eq] at this; exact this.1
 have hy3 : 1 ≤ y := by have := hy1.2; unfold Vd.turns at this; simp only [Bool.and_eq_true, decide_eq_true_eq] at this; exact this.1
 rcases Nat.lt_trichotomy x y with k | k | k
 ·have : twice r = true := twice_iff.2 ⟨x, y, hx3, k, hy2, e⟩
  rw [h.tw] at this; cases this
 ·exact k
 ·have : twice r = true := twice_iff.2 ⟨y, x, hy3, k, hx2, e.symm⟩
  rw [h.tw] at this; cases this
theorem VR.corners_two {r : Ring} (h : VR r) : 2 ≤ (corners r).length := by
 have hne : r ≠ [] := by intro e; have := h.shut.len; rw [e] at this; simp at this
 obtain ⟨p, hp, hpl⟩ := least_of hne
 obtain ⟨q, hq, hql⟩ := greatest_of hne
 obtain ⟨i, i1, i2, i3⟩ := place_of h.shut hp
 obtain ⟨j, j1, j2, j3⟩ := place_of h.shut hq
 have m1 : p ∈ corners r := mem_corners.2 ⟨i, i2, h.turns i1 i2 (.inl (by rw [i3]; exact hpl)), i3⟩
 have m2 : q ∈ corners r := mem_corners.2 ⟨j, j2, h.turns j1 j2 (.inr (by rw [j3]; exact hql)), j3⟩
 have hpq : p ≠ q := by
  intro e
  have h4 := h.shut.len
  have h0 := ptAt_mem (r := r) (i := 1) (by omega)
  have h2 := ptAt_mem (r := r) (i := 2) (by omega)
  have hl := h.long (ptAt r 1, ptAt r 2) (List.mem_of_getElem? (segs_at (ptAt_get (by omega)) (ptAt_get (by omega))))
  have one : ∀ x ∈ r, x = p := by
   intro x hx
   rcases hpl x hx with k | k
   ·exact k
   ·rcases hql x hx with k2 | k2
    ·rw [k2, e]
    ·rw [← e] at k2; exact (bef_irr k k2).elim
  exact hl (by rw [one _ h0, one _ h2])
 match hc : corners r with
 | [] => rw [hc] at m1; cases m1
 | [x] => rw [hc] at m1 m2; simp at m1 m2; exact absurd (m1.trans m2.symm) hpq
 | x :: y :: t => simp
theorem ringForm_len {r : Ring} (h : 0 < (corners r).length) (b : Bool) : (ringForm r b).length = (corners r).length + 1 := by
 unfold ringForm; rw [if_neg (by omega)]; simp
theorem ringForm_at {r : Ring} (h : 0 < (corners r).length) (b : Bool) {i : Nat} (hi : i < (corners r).length + 1) : ptAt (ringForm r b) i = ptAt (corners r) ((leastI (corners r) + i * stepI (corners r) b) % (corners r).length) := by
 unfold ringForm; rw [if_neg (by omega)]
 unfold ptAt
 rw [List.getD_eq_getElem?_getD, List.getElem?_map, List.getElem?_range hi]
 rfl
theorem step_cases (v : Ring) (b : Bool) : stepI v b = 1 ∨ stepI v b = v.length - 1 := by unfold stepI; split; exact .inl rfl; exact .inr rfl
theorem nodup_at {v : Ring} (h : v.Nodup) {i j : Nat} (hi : i < v.length) (hj : j < v.length) (e : ptAt v i = ptAt v j) : i = j := by
 have h1 := ptAt_get hi
 have h2 := ptAt_get hj
 rw [e, ← h2] at h1
 exact (List.getElem?_inj hi h).1 h1
theorem mod_step {a k s n : Nat} (hn : 2 ≤ n) (hs : s = 1 ∨ s = n - 1) : (a + k * s) % n ≠ (a + (k + 1) * s) % n := by
 have e : a + (k + 1) * s = a + k * s + s := by rw [Nat.add_mul]; omega
 rw [e]
 generalize a + k * s = x
 intro h
 have h1 : (x + s) % n = (x % n + s) % n := (Nat.mod_add_mod x n s).symm
 rw [h1] at h
 have h2 := Nat.mod_lt x (show 0 < n by omega)
 generalize x % n = y at *
 rcases hs with rfl | rfl
 ·by_cases h3 : y + 1 < n
  ·rw [Nat.mod_eq_of_lt h3] at h; omega
  ·rw [show y + 1 = n by omega, Nat.mod_self] at h; omega
 ·by_cases h3 : y = 0
  ·rw [h3, Nat.zero_add, Nat.mod_eq_of_lt (by omega)] at h; omega
  ·rw [Nat.mod_eq_sub_mod (by omega), Nat.mod_eq_of_lt (by omega)] at h; omega
theorem VR.form_long {r : Ring} (h : VR r) (b : Bool) : Long (ringForm r b) := by
 have h2 := h.corners_two
 intro s hs
 obtain ⟨i, hi, rfl⟩ := segs_mem_at hs
 rw [ringForm_len (by omega)] at hi
 rw [ringForm_at (by omega) b (by omega), ringForm_at (by omega) b hi]
 intro e
 have := nodup_at h.corners_nodup (Nat.mod_lt _ (by omega)) (Nat.mod_lt _ (by omega)) e
 exact mod_step h2 (step_cases _ b) this
theorem order_mem (m : Mult) : ∀ (is : List Nat) (o : Mult), (∀ i ∈ is, i < m.length) → ∀ l ∈ is.foldl (orderS m) o, l ∈ m ∨ l ∈ o := by
  intro is
  induction is with
  | nil => intro o _ l hl; exact .inr hl
  | cons i t ih =>
    intro o hi l hl
    rw [List.foldl_cons] at hl
    rcases ih _ (fun x hx => hi x (by simp [hx])) l hl with h | h
    · exact .inl h
    · unfold orderS at h
      rcases List.mem_or_eq_of_mem_set h with h | h
      · exact .inr h
      · exact .inl (h ▸ pAt_mem (hi i (by simp)))
theorem inOrder_mem {m : Mult} {l : Poly} (h : l ∈ inOrder m) : l ∈ m ∨ l = [] := by
 unfold inOrder orderN at h
 rcases order_mem m _ _ (fun i hi => List.mem_range.1 hi) l h with h | h
 ·exact .inl h
 ·exact .inr (List.eq_of_mem_replicate h)
theorem form_rings {m : Mult} {r : Ring} (h : r ∈ (form m).flatten) : ∃ l ∈ m, ∃ o ∈ l, ∃ b, r = ringForm o b := by
  obtain ⟨l, hl, hr⟩ := List.mem_flatten.1 h
  unfold form at hl
  rcases inOrder_mem hl with h1 | h1
  · obtain ⟨l0, h0, rfl⟩ := List.mem_map.1 h1
    refine ⟨l0, h0, ?_⟩
    cases l0 with
    | nil => cases hr
    | cons o t =>
      rcases List.mem_cons.1 hr with e | e
      · exact ⟨o, by simp, true, e⟩
      · obtain ⟨l1, h2, h3⟩ := List.mem_flatten.1 e
        rcases inOrder_mem h2 with h4 | h4
        · obtain ⟨o1, h5, rfl⟩ := List.mem_map.1 h4
          exact ⟨o1, by simp [h5], false, by simpa using h3⟩
        · rw [h4] at h3; cases h3
  · rw [h1] at hr; cases hr
end Vd
end Go.Proofs.YtcclepohmhdpbabGreatDoor

namespace Go.Proofs.YtcclepohmhdpbabGreatDoor
set_option linter.all false
namespace Vd
theorem pp {x y : Int} (hx : 0 < x) (hy : 0 < y) : 0 < x * y := Int.mul_pos hx hy
theorem pn {x y : Int} (hx : 0 < x) (hy : y < 0) : x * y < 0 := Int.mul_neg_of_pos_of_neg hx hy
theorem np {x y : Int} (hx : x < 0) (hy : 0 < y) : x * y < 0 := Int.mul_neg_of_neg_of_pos hx hy
theorem nng {x y : Int} (hx : x < 0) (hy : y < 0) : 0 < x * y := Int.mul_pos_of_neg_of_neg hx hy
theorem p0 {x y : Int} (hx : 0 ≤ x) (hy : 0 ≤ y) : 0 ≤ x * y := Int.mul_nonneg hx hy
theorem m0 {x y : Int} (hx : 0 ≤ x) (hy : y ≤ 0) : x * y ≤ 0 := Int.mul_nonpos_of_nonneg_of_nonpos hx hy
theorem n0 {x y : Int} (hx : x ≤ 0) (hy : 0 ≤ y) : x * y ≤ 0 := Int.mul_nonpos_of_nonpos_of_nonneg hx hy
theorem q0 {x y : Int} (hx : x ≤ 0) (hy : y ≤ 0) : 0 ≤ x * y := Int.mul_nonneg_of_nonpos_of_nonpos hx hy
theorem sgn_of {u P z : Int} (hu : 0 < u) (e : u * P = z) : (0 < P ↔ 0 < z) ∧ (P < 0 ↔ z < 0) ∧ (P = 0 ↔ z = 0) := by
 rcases Int.lt_trichotomy P 0 with h | h | h
 ·have := pn hu h; omega
 ·have : u * P = 0 := by rw [h]; simp
  omega
 ·have := pp hu h; omega
def Opp (A B : Int) : Prop := (A < 0 ∧ 0 < B) ∨ (0 < A ∧ B < 0)
instance (A B : Int) : Decidable (Opp A B) := by unfold Opp; infer_instance
theorem opp_symm {A B : Int} : Opp A B ↔ Opp B A := by unfold Opp; omega
theorem opp_neg {A B : Int} : Opp (-A) (-B) ↔ Opp A B := by unfold Opp; omega
theorem core_le {u A B a b P Q : Int} (hu : 0 < u) (hab : a ≤ b) (e1 : u * P = B * a - A * b) (e2 : u * Q = B * (a - u) - A * (b - u))
    (h1 : 0 < a → a ≤ u → A ≠ 0) (h2 : 0 < b → b ≤ u → B ≠ 0) (h3 : (a ≤ 0 ∧ 0 < b) ∨ (b ≤ 0 ∧ 0 < a) → P ≠ 0) (h4 : (a ≤ u ∧ u < b) ∨ (b ≤ u ∧ u < a) → Q ≠ 0)
    (h5 : a = u → b = u → ¬ Opp A B) :
    (((a ≤ 0 ∧ 0 < b ∧ 0 < P) ∨ (b ≤ 0 ∧ 0 < a ∧ P < 0)) ↔ ((a ≤ u ∧ u < b ∧ 0 < Q) ∨ (b ≤ u ∧ u < a ∧ Q < 0))) ↔
      ¬ ((Opp A B ∧ Opp P Q) ↔ ((0 < a ∧ a ≤ u ∧ A < 0) ↔ (0 < b ∧ b ≤ u ∧ B < 0))) := by
  obtain ⟨P1, P2, P3⟩ := sgn_of hu e1
  obtain ⟨Q1, Q2, Q3⟩ := sgn_of hu e2
  clear e1 e2
  by_cases zb : b ≤ 0
  · -- both below
    have n : ¬ (Opp A B ∧ Opp P Q) := by
      rintro ⟨k | k, k2⟩
      · have := m0 (Int.le_of_lt k.2) (show a ≤ 0 by omega); have := q0 (Int.le_of_lt k.1) zb
        have := m0 (Int.le_of_lt k.2) (show a - u ≤ 0 by omega); have := q0 (Int.le_of_lt k.1) (show b - u ≤ 0 by omega)
        unfold Opp at k2; omega
      · have := q0 (Int.le_of_lt k.2) (show a ≤ 0 by omega); have := m0 (Int.le_of_lt k.1) zb
        have := q0 (Int.le_of_lt k.2) (show a - u ≤ 0 by omega); have := m0 (Int.le_of_lt k.1) (show b - u ≤ 0 by omega)
        unfold Opp at k2; omega
    simp only [n, false_iff]
    clear n h5
    constructor
    · intro _; omega
    · intro _; omega
  by_cases za : u < a
  · have n : ¬ (Opp A B ∧ Opp P Q) := by
      rintro ⟨k | k, k2⟩
      · have := p0 (Int.le_of_lt k.2) (show 0 ≤ a by omega); have := n0 (Int.le_of_lt k.1) (show 0 ≤ b by omega)
        have := p0 (Int.le_of_lt k.2) (show 0 ≤ a - u by omega); have := n0 (Int.le_of_lt k.1) (show 0 ≤ b - u by omega)
        unfold Opp at k2; omega
      · have := n0 (Int.le_of_lt k.2) (show 0 ≤ a by omega); have := p0 (Int.le_of_lt k.1) (show 0 ≤ b by omega)
        have := n0 (Int.le_of_lt k.2) (show 0 ≤ a - u by omega); have := p0 (Int.le_of_lt k.1) (show 0 ≤ b - u by omega)
        unfold Opp at k2; omega
    simp only [n, false_iff]
    clear n h5
    constructor
    · intro _; omega
    · intro _; omega
  by_cases ya : 0 < a
  · have hA := h1 ya (by omega)
    by_cases yb : b ≤ u
    · -- both between
      have hB := h2 (by omega) yb
      have d : Opp A B → Opp P Q := by
        intro k
        have k5 := fun e1 e2 => h5 e1 e2 k
        rcases k with k | k
        · have := pp k.2 ya; have := np k.1 (show 0 < b by omega)
          have : 0 < P := P1.2 (by omega)
          rcases Int.lt_or_eq_of_le (show a ≤ u by omega) with g | g
          · have := pn k.2 (show a - u < 0 by omega); have := q0 (Int.le_of_lt k.1) (show b - u ≤ 0 by omega)
            have : Q < 0 := Q2.2 (by omega)
            unfold Opp; omega
          · exact absurd (show b = u by omega) (k5 g)
        · have := np k.2 ya; have := pp k.1 (show 0 < b by omega)
          have : P < 0 := P2.2 (by omega)
          rcases Int.lt_or_eq_of_le (show a ≤ u by omega) with g | g
          · have := nng k.2 (show a - u < 0 by omega); have := m0 (Int.le_of_lt k.1) (show b - u ≤ 0 by omega)
            have : 0 < Q := Q1.2 (by omega)
            unfold Opp; omega
          · exact absurd (show b = u by omega) (k5 g)
      have e : (Opp A B ∧ Opp P Q) ↔ Opp A B := ⟨fun k => k.1, fun k => ⟨k, d k⟩⟩
      rw [e]
      clear d e h5 P1 P2 P3 Q1 Q2 Q3 h3 h4
      unfold Opp
      omega
    · -- a between, b above
      have hQ := h4 (by omega)
      have e : (Opp A B ∧ Opp P Q) ↔ ((A < 0 ∧ Q < 0) ∨ (0 < A ∧ 0 < Q)) := by
        rcases Int.lt_or_gt_of_ne hA with k | k
        · have t1 := np k (show 0 < b by omega)
          have t2 := np k (show 0 < b - u by omega)
          constructor
          · rintro ⟨o1 | o1, o2⟩
            · have := pp o1.2 ya
              have : 0 < P := P1.2 (by omega)
              unfold Opp at o2; omega
            · omega
          · intro o
            have hq : Q < 0 := by omega
            have hB : 0 < B := by
              rcases Int.lt_or_le 0 B with g | g
              · exact g
              · have := q0 g (show a - u ≤ 0 by omega)
                have := Q2.1 hq; omega
            have := pp hB ya
            have : 0 < P := P1.2 (by omega)
            unfold Opp; omega
        · have t1 := pp k (show 0 < b by omega)
          have t2 := pp k (show 0 < b - u by omega)
          constructor
          · rintro ⟨o1 | o1, o2⟩
            · omega
            · have := np o1.2 ya
              have : P < 0 := P2.2 (by omega)
              unfold Opp at o2; omega
          · intro o
            have hq : 0 < Q := by omega
            have hB : B < 0 := by
              rcases Int.lt_or_le B 0 with g | g
              · exact g
              · have := m0 g (show a - u ≤ 0 by omega)
                have := Q1.1 hq; omega
            have := np hB ya
            have : P < 0 := P2.2 (by omega)
            unfold Opp; omega
      rw [e]
      clear e h5 P1 P2 P3 Q1 Q2 Q3 h3 h4
      omega
  · by_cases yb : b ≤ u
    · -- a below, b between
      have hB := h2 (by omega) yb
      have hP := h3 (by omega)
      have e : (Opp A B ∧ Opp P Q) ↔ ((B < 0 ∧ P < 0) ∨ (0 < B ∧ 0 < P)) := by
        rcases Int.lt_or_gt_of_ne hB with k | k
        · have t1 := q0 (Int.le_of_lt k) (show a ≤ 0 by omega)
          have t2 := nng k (show a - u < 0 by omega)
          constructor
          · rintro ⟨o1 | o1, o2⟩
            · omega
            · have := m0 (Int.le_of_lt o1.1) (show b - u ≤ 0 by omega)
              have : 0 < Q := Q1.2 (by omega)
              unfold Opp at o2; omega
          · intro o
            have hp : P < 0 := by omega
            have hA : 0 < A := by
              rcases Int.lt_or_le 0 A with g | g
              · exact g
              · have := n0 g (show 0 ≤ b by omega)
                have := P2.1 hp; omega
            have := m0 (Int.le_of_lt hA) (show b - u ≤ 0 by omega)
            have : 0 < Q := Q1.2 (by omega)
            unfold Opp; omega
        · have t1 := m0 (Int.le_of_lt k) (show a ≤ 0 by omega)
          have t2 := pn k (show a - u < 0 by omega)
          constructor
          · rintro ⟨o1 | o1, o2⟩
            · have := q0 (Int.le_of_lt o1.1) (show b - u ≤ 0 by omega)
              have : Q < 0 := Q2.2 (by omega)
              unfold Opp at o2; omega
            · omega
          · intro o
            have hp : 0 < P := by omega
            have hA : A < 0 := by
              rcases Int.lt_or_le A 0 with g | g
              · exact g
              · have := p0 g (show 0 ≤ b by omega)
                have := P1.1 hp; omega
            have := q0 (Int.le_of_lt hA) (show b - u ≤ 0 by omega)
            have : Q < 0 := Q2.2 (by omega)
            unfold Opp; omega
      rw [e]
      clear e h5 P1 P2 P3 Q1 Q2 Q3 h3 h4
      omega
    · -- a below, b above
      have hP := h3 (by omega)
      have hQ := h4 (by omega)
      have d : Opp P Q → Opp A B := by
        rintro (k | k)
        · have f1 := P2.1 k.1
          have f2 := Q1.1 k.2
          have hA : 0 < A := by
            rcases Int.lt_or_le 0 A with g | g
            · exact g
            · have := n0 g (show 0 ≤ b by omega)
              have hB : 0 < B := by
                rcases Int.lt_or_le 0 B with g2 | g2
                · exact g2
                · have := q0 g2 (show a ≤ 0 by omega); omega
              have := m0 (Int.le_of_lt hB) (show a - u ≤ 0 by omega)
              have : B * a - B * (a - u) = B * u := by rw [← Int.mul_sub]; congr 1; omega
              have : A * b - A * (b - u) = A * u := by rw [← Int.mul_sub]; congr 1; omega
              have := pp hB hu
              have := n0 g (Int.le_of_lt hu)
              omega
          have := pp hA (show 0 < b by omega)
          have := pp hA (show 0 < b - u by omega)
          have hB : B < 0 := by
            rcases Int.lt_or_le B 0 with g2 | g2
            · exact g2
            · have := m0 g2 (show a - u ≤ 0 by omega); omega
          exact .inr ⟨hA, hB⟩
        · have f1 := P1.1 k.1
          have f2 := Q2.1 k.2
          have hA : A < 0 := by
            rcases Int.lt_or_le A 0 with g | g
            · exact g
            · have := p0 g (show 0 ≤ b by omega)
              have hB : B < 0 := by
                rcases Int.lt_or_le B 0 with g2 | g2
                · exact g2
                · have := m0 g2 (show a ≤ 0 by omega); omega
              have := q0 (Int.le_of_lt hB) (show a - u ≤ 0 by omega)
              have : B * a - B * (a - u) = B * u := by rw [← Int.mul_sub]; congr 1; omega
              have : A * b - A * (b - u) = A * u := by rw [← Int.mul_sub]; congr 1; omega
              have := np hB hu
              have := p0 g (Int.le_of_lt hu)
              omega
          have := np hA (show 0 < b by omega)
          have := np hA (show 0 < b - u by omega)
          have hB : 0 < B := by
            rcases Int.lt_or_le 0 B with g2 | g2
            · exact g2
            · have := q0 g2 (show a - u ≤ 0 by omega); omega
          exact .inl ⟨hA, hB⟩
      have e : (Opp A B ∧ Opp P Q) ↔ Opp P Q := ⟨fun k => k.2, fun k => ⟨d k, k⟩⟩
      rw [e]
      clear d e h5 P1 P2 P3 Q1 Q2 Q3 h3 h4 h1 h2
      unfold Opp
      omega
theorem core_x {u A B a b P Q : Int} (hu : 0 < u) (e1 : u * P = B * a - A * b) (e2 : u * Q = B * (a - u) - A * (b - u))
    (h1 : 0 < a → a ≤ u → A ≠ 0) (h2 : 0 < b → b ≤ u → B ≠ 0) (h3 : (a ≤ 0 ∧ 0 < b) ∨ (b ≤ 0 ∧ 0 < a) → P ≠ 0) (h4 : (a ≤ u ∧ u < b) ∨ (b ≤ u ∧ u < a) → Q ≠ 0)
    (h5 : a = u → b = u → ¬ Opp A B) :
    (((a ≤ 0 ∧ 0 < b ∧ 0 < P) ∨ (b ≤ 0 ∧ 0 < a ∧ P < 0)) ↔ ((a ≤ u ∧ u < b ∧ 0 < Q) ∨ (b ≤ u ∧ u < a ∧ Q < 0))) ↔
      ¬ ((Opp A B ∧ Opp P Q) ↔ ((0 < a ∧ a ≤ u ∧ A < 0) ↔ (0 < b ∧ b ≤ u ∧ B < 0))) := by
  rcases Int.le_total a b with h | h
  · exact core_le hu h e1 e2 h1 h2 h3 h4 h5
  · have := core_le (P := -P) (Q := -Q) (A := B) (B := A) hu h (by rw [Int.mul_neg, e1]; omega) (by rw [Int.mul_neg, e2]; omega) h2 h1
      (fun k => by have := h3 (by omega); omega) (fun k => by have := h4 (by omega); omega) (fun k1 k2 o => h5 k2 k1 (opp_symm.1 o))
    rw [opp_symm (A := B), opp_neg] at this
    have t1 : ((a ≤ 0 ∧ 0 < b ∧ 0 < P) ∨ (b ≤ 0 ∧ 0 < a ∧ P < 0)) ↔ ((b ≤ 0 ∧ 0 < a ∧ 0 < -P) ∨ (a ≤ 0 ∧ 0 < b ∧ -P < 0)) := by omega
    have t2 : ((a ≤ u ∧ u < b ∧ 0 < Q) ∨ (b ≤ u ∧ u < a ∧ Q < 0)) ↔ ((b ≤ u ∧ u < a ∧ 0 < -Q) ∨ (a ≤ u ∧ u < b ∧ -Q < 0)) := by omega
    rw [t1, t2, this, iff_comm (a := (0 < b ∧ b ≤ u ∧ B < 0))]
end Vd
end Go.Proofs.YtcclepohmhdpbabGreatDoor

namespace Go.Proofs.YtcclepohmhdpbabGreatDoor
set_option linter.all false
namespace Vd
def Xs (p q a b : Pnt) : Prop := Opp (cr p q a 1) (cr p q b 1) ∧ Opp (cr a b p 1) (cr a b q 1)
instance (p q a b : Pnt) : Decidable (Xs p q a b) := by unfold Xs; infer_instance
def dR (p q v : Pnt) : Bool := decide (p.2 < v.2 ∧ v.2 ≤ q.2 ∧ cr p q v 1 < 0)
theorem ray_one (a b p : Pnt) : ray a b p 1 = decide ((a.2 - p.2 ≤ 0 ∧ 0 < b.2 - p.2 ∧ 0 < cr a b p 1) ∨ (b.2 - p.2 ≤ 0 ∧ 0 < a.2 - p.2 ∧ cr a b p 1 < 0)) := by
 unfold ray
 simp only [Int.mul_one, sg_pos, sg_neg]
 by_cases h1 : a.2 > p.2 <;> by_cases h2 : b.2 > p.2
 ·rw [if_pos (by simp [h1, h2])]; symm; exact decide_eq_false (by omega)
 ·rw [if_neg (by simp [h1, h2]), if_neg h2]; exact decide_eq_decide.2 (by omega)
 ·rw [if_neg (by simp [h1, h2]), if_pos h2]; exact decide_eq_decide.2 (by omega)
 ·rw [if_pos (by simp [h1, h2])]; symm; exact decide_eq_false (by omega)
theorem line_btw {u U x al : Int} (hu : 0 < u) (h0 : 0 ≤ al) (h1 : al ≤ u) (e : U * al = u * x) : btw 0 x U := by
 rcases Int.le_total 0 U with g | g
 ·left
  have k1 := p0 g h0
  have k2 : U * al ≤ U * u := Int.mul_le_mul_of_nonneg_left h1 g
  rw [e] at k1 k2
  refine ⟨Int.nonneg_of_mul_nonneg_right k1 hu, ?_⟩
  rw [Int.mul_comm U u] at k2
  exact Int.le_of_mul_le_mul_left k2 hu
 ·right
  have k1 := n0 g h0
  have k2 : U * u ≤ U * al := Int.mul_le_mul_of_nonpos_left g h1
  rw [e] at k1 k2
  rw [Int.mul_comm U u] at k2
  refine ⟨Int.le_of_mul_le_mul_left k2 hu, ?_⟩
  rcases Int.lt_or_le 0 x with g2 | g2
  ·have := pp hu g2; omega
  ·exact g2
theorem has_line_y {a b p : Pnt} (h0 : cr a b p 1 = 0) (h : (a.2 ≤ p.2 ∧ p.2 ≤ b.2 ∧ a.2 < b.2) ∨ (b.2 ≤ p.2 ∧ p.2 ≤ a.2 ∧ b.2 < a.2)) : has a b p 1 := by
 refine ⟨h0, ?_, by unfold btw; omega⟩
 unfold cr at h0
 rcases h with ⟨h1, h2, h3⟩ | ⟨h1, h2, h3⟩
 ·have := line_btw (u := b.2 - a.2) (U := b.1 - a.1) (x := p.1 - a.1) (al := p.2 - a.2) (by omega) (by omega) (by omega) (by simp only [Int.mul_one] at h0; omega)
  unfold btw at *; omega
 ·have := line_btw (u := a.2 - b.2) (U := b.1 - a.1) (x := p.1 - a.1) (al := a.2 - p.2) (by omega) (by omega) (by omega) (by
   simp only [Int.mul_one] at h0
   have e1 : (b.1 - a.1) * (a.2 - p.2) = - ((b.1 - a.1) * (p.2 - a.2)) := by grind
   have e2 : (a.2 - b.2) * (p.1 - a.1) = - ((b.2 - a.2) * (p.1 - a.1)) := by grind
   omega)
  unfold btw at *; omega
theorem cr_flat {p q a : Pnt} (h : a.2 = q.2) : cr p q a 1 = (q.2 - p.2) * (q.1 - a.1) := by unfold cr; rw [h]; grind
theorem bxor_of {r1 r2 x d1 d2 : Prop} [Decidable r1] [Decidable r2] [Decidable x] [Decidable d1] [Decidable d2] (h : (r1 ↔ r2) ↔ ¬ (x ↔ (d1 ↔ d2))) : (decide r1 ^^ decide r2) = (decide x ^^ (decide d1 ^^ decide d2)) := by
 by_cases c1 : r1 <;> by_cases c2 : r2 <;> by_cases c3 : x <;> by_cases c4 : d1 <;> by_cases c5 : d2 <;> simp_all
theorem edge_up {p q a b : Pnt} (hpq : p.2 < q.2) (ha : ¬ has p q a 1) (hb : ¬ has p q b 1) (hp : ¬ has a b p 1) (hq : ¬ has a b q 1) :
  (ray a b p 1 ^^ ray a b q 1) = (decide (Xs p q a b) ^^ (dR p q a ^^ dR p q b)) := by
 have key := core_x (u := q.2 - p.2) (A := cr p q a 1) (B := cr p q b 1) (a := a.2 - p.2) (b := b.2 - p.2) (P := cr a b p 1) (Q := cr a b q 1) (by omega)
  (by unfold cr; grind) (by unfold cr; grind)
  (fun h1 h2 e => ha (has_line_y e (by omega))) (fun h1 h2 e => hb (has_line_y e (by omega)))
  (fun h e => hp (has_line_y e (by omega))) (fun h e => hq (has_line_y e (by omega)))
  (fun h1 h2 o => hq (by
   have e1 := cr_flat (p := p) (q := q) (a := a) (by omega)
   have e2 := cr_flat (p := p) (q := q) (a := b) (by omega)
   rw [e1, e2] at o
   have s1 := sgn_of (u := q.2 - p.2) (P := q.1 - a.1) (by omega) rfl
   have s2 := sgn_of (u := q.2 - p.2) (P := q.1 - b.1) (by omega) rfl
   refine ⟨?_, ?_, by unfold btw; omega⟩
   ·unfold cr; rw [show b.2 - a.2 = 0 by omega, show q.2 - a.2 * 1 = 0 by omega]; simp
   ·unfold Opp at o; unfold btw; omega))
 rw [ray_one, ray_one]
 have t : ((a.2 - q.2 ≤ 0 ∧ 0 < b.2 - q.2 ∧ 0 < cr a b q 1) ∨ (b.2 - q.2 ≤ 0 ∧ 0 < a.2 - q.2 ∧ cr a b q 1 < 0)) ↔ ((a.2 - p.2 ≤ q.2 - p.2 ∧ q.2 - p.2 < b.2 - p.2 ∧ 0 < cr a b q 1) ∨ (b.2 - p.2 ≤ q.2 - p.2 ∧ q.2 - p.2 < a.2 - p.2 ∧ cr a b q 1 < 0)) := by omega
 have t1 : (p.2 < a.2 ∧ a.2 ≤ q.2 ∧ cr p q a 1 < 0) ↔ (0 < a.2 - p.2 ∧ a.2 - p.2 ≤ q.2 - p.2 ∧ cr p q a 1 < 0) := by omega
 have t2 : (p.2 < b.2 ∧ b.2 ≤ q.2 ∧ cr p q b 1 < 0) ↔ (0 < b.2 - p.2 ∧ b.2 - p.2 ≤ q.2 - p.2 ∧ cr p q b 1 < 0) := by omega
 unfold dR
 rw [decide_eq_decide.2 t, decide_eq_decide.2 t1, decide_eq_decide.2 t2]
 exact bxor_of key
theorem edge_flat {p q a b : Pnt} (hpq : p.2 = q.2) (ha : ¬ has p q a 1) (hb : ¬ has p q b 1) (hp : ¬ has a b p 1) (hq : ¬ has a b q 1) :
  (ray a b p 1 ^^ ray a b q 1) = decide (Xs p q a b) := by
 have eA : cr p q a 1 = (q.1 - p.1) * (a.2 - p.2) := by unfold cr; rw [hpq]; grind
 have eB : cr p q b 1 = (q.1 - p.1) * (b.2 - p.2) := by unfold cr; rw [hpq]; grind
 rw [ray_one, ray_one]
 unfold Xs
 have hP : (a.2 - p.2 ≤ 0 ∧ 0 < b.2 - p.2) ∨ (b.2 - p.2 ≤ 0 ∧ 0 < a.2 - p.2) → cr a b p 1 ≠ 0 := fun h e => hp (has_line_y e (by omega))
 have hQ : (a.2 - p.2 ≤ 0 ∧ 0 < b.2 - p.2) ∨ (b.2 - p.2 ≤ 0 ∧ 0 < a.2 - p.2) → cr a b q 1 ≠ 0 := fun h e => hq (has_line_y e (by omega))
 have key : Opp (cr a b p 1) (cr a b q 1) → ((a.2 - p.2 ≤ 0 ∧ 0 < b.2 - p.2) ∨ (b.2 - p.2 ≤ 0 ∧ 0 < a.2 - p.2)) → Opp (cr p q a 1) (cr p q b 1) := by
  intro o h
  have hne : q.1 - p.1 ≠ 0 := by
   intro e
   have : p = q := Prod.ext (by omega) hpq
   rw [this] at o; unfold Opp at o; omega
  have ia : a.2 ≠ p.2 := by
   intro e
   have f1 : cr a b p 1 = - ((b.2 - a.2) * (p.1 - a.1)) := by unfold cr; rw [e]; grind
   have f2 : cr a b q 1 = - ((b.2 - a.2) * (q.1 - a.1)) := by unfold cr; rw [e, hpq]; grind
   have s1 := sgn_of (u := b.2 - a.2) (P := p.1 - a.1) (by omega) rfl
   have s2 := sgn_of (u := b.2 - a.2) (P := q.1 - a.1) (by omega) rfl
   rw [f1, f2] at o
   refine ha ⟨by rw [eA, e]; simp, ?_, by unfold btw; omega⟩
   unfold Opp at o; unfold btw; omega
  have ib : b.2 ≠ p.2 := by
   intro e
   have f1 : cr a b p 1 = - ((a.2 - b.2) * (b.1 - p.1)) := by unfold cr; rw [e]; grind
   have f2 : cr a b q 1 = - ((a.2 - b.2) * (b.1 - q.1)) := by unfold cr; rw [e, hpq]; grind
   have s1 := sgn_of (u := a.2 - b.2) (P := b.1 - p.1) (by omega) rfl
   have s2 := sgn_of (u := a.2 - b.2) (P := b.1 - q.1) (by omega) rfl
   rw [f1, f2] at o
   refine hb ⟨by rw [eB, e]; simp, ?_, by unfold btw; omega⟩
   unfold Opp at o; unfold btw; omega
  rw [eA, eB]
  have m1 := Int.lt_or_gt_of_ne hne
  rcases m1 with m | m <;> rcases h with h | h
  ·exact .inr ⟨nng m (by omega), np m (by omega)⟩
  ·exact .inl ⟨np m (by omega), nng m (by omega)⟩
  ·exact .inl ⟨pn m (by omega), pp m (by omega)⟩
  ·exact .inr ⟨pp m (by omega), pn m (by omega)⟩
 have back : Opp (cr p q a 1) (cr p q b 1) → ((a.2 - p.2 ≤ 0 ∧ 0 < b.2 - p.2) ∨ (b.2 - p.2 ≤ 0 ∧ 0 < a.2 - p.2)) := by
  intro o
  rw [eA, eB] at o
  rcases Int.lt_trichotomy (q.1 - p.1) 0 with m | m | m
  ·have s1 := sgn_of (u := -(q.1 - p.1)) (P := a.2 - p.2) (by omega) rfl
   have s2 := sgn_of (u := -(q.1 - p.1)) (P := b.2 - p.2) (by omega) rfl
   rw [Int.neg_mul] at s1 s2
   unfold Opp at o; omega
  ·rw [m] at o; unfold Opp at o; simp at o
  ·have s1 := sgn_of (u := q.1 - p.1) (P := a.2 - p.2) (by omega) rfl
   have s2 := sgn_of (u := q.1 - p.1) (P := b.2 - p.2) (by omega) rfl
   unfold Opp at o; omega
 have k := bxor_of (r1 := (a.2 - p.2 ≤ 0 ∧ 0 < b.2 - p.2 ∧ 0 < cr a b p 1) ∨ (b.2 - p.2 ≤ 0 ∧ 0 < a.2 - p.2 ∧ cr a b p 1 < 0)) (r2 := (a.2 - q.2 ≤ 0 ∧ 0 < b.2 - q.2 ∧ 0 < cr a b q 1) ∨ (b.2 - q.2 ≤ 0 ∧ 0 < a.2 - q.2 ∧ cr a b q 1 < 0))
  (x := Opp (cr p q a 1) (cr p q b 1) ∧ Opp (cr a b p 1) (cr a b q 1)) (d1 := False) (d2 := False) (by
   by_cases h : (a.2 - p.2 ≤ 0 ∧ 0 < b.2 - p.2) ∨ (b.2 - p.2 ≤ 0 ∧ 0 < a.2 - p.2)
   ·have g1 := hP h
    have g2 := hQ h
    have g3 := fun o => key o h
    have e : (Opp (cr p q a 1) (cr p q b 1) ∧ Opp (cr a b p 1) (cr a b q 1)) ↔ Opp (cr a b p 1) (cr a b q 1) := ⟨fun x => x.2, fun x => ⟨g3 x, x⟩⟩
    rw [e]
    clear e g3 key back hP hQ eA eB
    simp only [iff_self, iff_true]
    unfold Opp
    omega
   ·have e : ¬ (Opp (cr p q a 1) (cr p q b 1) ∧ Opp (cr a b p 1) (cr a b q 1)) := fun x => h (back x.1)
    have r1 : ¬ ((a.2 - p.2 ≤ 0 ∧ 0 < b.2 - p.2 ∧ 0 < cr a b p 1) ∨ (b.2 - p.2 ≤ 0 ∧ 0 < a.2 - p.2 ∧ cr a b p 1 < 0)) := by omega
    have r2 : ¬ ((a.2 - q.2 ≤ 0 ∧ 0 < b.2 - q.2 ∧ 0 < cr a b q 1) ∨ (b.2 - q.2 ≤ 0 ∧ 0 < a.2 - q.2 ∧ cr a b q 1 < 0)) := by omega
    simp only [e, r1, r2]
    simp)
 rw [k]
 rw [show (decide False ^^ decide False) = false from rfl, Bool.xor_false]
theorem xs_swap {p q a b : Pnt} : Xs q p a b ↔ Xs p q a b := by
 unfold Xs
 rw [cr_swap p q a 1, cr_swap p q b 1, opp_neg, opp_symm (A := cr a b q 1)]
def dRs (p q v : Pnt) : Bool := if p.2 < q.2 then dR p q v else if q.2 < p.2 then dR q p v else false
theorem edge_any {p q a b : Pnt} (ha : ¬ has p q a 1) (hb : ¬ has p q b 1) (hp : ¬ has a b p 1) (hq : ¬ has a b q 1) :
  (ray a b p 1 ^^ ray a b q 1) = (decide (Xs p q a b) ^^ (dRs p q a ^^ dRs p q b)) := by
 unfold dRs
 rcases Int.lt_trichotomy p.2 q.2 with h | h | h
 ·rw [if_pos h, if_pos h]; exact edge_up h ha hb hp hq
 ·rw [if_neg (by omega), if_neg (by omega), if_neg (by omega), if_neg (by omega), edge_flat h ha hb hp hq]; simp
 ·rw [if_neg (by omega), if_pos h, if_neg (by omega), if_pos h]
  rw [Bool.xor_comm, edge_up h (fun k => ha (has_swap.1 k)) (fun k => hb (has_swap.1 k)) hq hp, decide_eq_decide.2 xs_swap]
end Vd
end Go.Proofs.YtcclepohmhdpbabGreatDoor

namespace Go.Proofs.YtcclepohmhdpbabGreatDoor
set_option linter.all false
namespace Vd
def raysS (l : List Seg) (p : Spot) : Bool := l.foldr (fun s b => ray s.1 s.2 p.1 p.2 ^^ b) false
def xsL (l : List Seg) (p q : Pnt) : Bool := l.foldr (fun s b => decide (Xs p q s.1 s.2) ^^ b) false
theorem raysS_cons (s : Seg) (l : List Seg) (p : Spot) : raysS (s :: l) p = (ray s.1 s.2 p.1 p.2 ^^ raysS l p) := rfl
theorem xsL_cons (s : Seg) (l : List Seg) (p q : Pnt) : xsL (s :: l) p q = (decide (Xs p q s.1 s.2) ^^ xsL l p q) := rfl
theorem raysS_append (a b : List Seg) (p : Spot) : raysS (a ++ b) p = (raysS a p ^^ raysS b p) := by
 induction a with
 | nil => simp [raysS]
 | cons s a ih => rw [List.cons_append, raysS_cons, raysS_cons, ih, Bool.xor_assoc]
theorem segs_cons2 (a b : Pnt) (t : Ring) : segs (a :: b :: t) = (a, b) :: segs (b :: t) := rfl
theorem segs_one (a : Pnt) : segs [a] = [] := rfl
structure Off (p q a b : Pnt) : Prop where
 ha : ¬ has p q a 1
 hb : ¬ has p q b 1
 hp : ¬ has a b p 1
 hq : ¬ has a b q 1
theorem rays_chain (p q : Pnt) : ∀ (t : Ring) (a : Pnt), (∀ s ∈ segs (a :: t), Off p q s.1 s.2) →
    (raysS (segs (a :: t)) (p, 1) ^^ raysS (segs (a :: t)) (q, 1)) = (xsL (segs (a :: t)) p q ^^ (dRs p q a ^^ dRs p q ((a :: t).getLast (by simp)))) := by
  intro t
  induction t with
  | nil => intro a _; simp [segs_one, raysS, xsL]
  | cons b t ih =>
    intro a h
    rw [segs_cons2] at h
    have h1 := h (a, b) (by simp)
    have k := ih b fun s hs => h s (by simp [hs])
    have e := edge_any h1.ha h1.hb h1.hp h1.hq
    rw [segs_cons2, raysS_cons, raysS_cons, xsL_cons, List.getLast_cons (by simp)]
    simp only at e ⊢
    revert e k
    generalize ray a b p 1 = x1
    generalize ray a b q 1 = x2
    generalize raysS (segs (b :: t)) (p, 1) = x3
    generalize raysS (segs (b :: t)) (q, 1) = x4
    generalize xsL (segs (b :: t)) p q = x5
    generalize decide (Xs p q a b) = x6
    generalize dRs p q a = x7
    generalize dRs p q b = x8
    generalize dRs p q ((b :: t).getLast (by simp)) = x9
    revert x1 x2 x3 x4 x5 x6 x7 x8 x9
    decide
def Ends (r : Ring) : Prop := r.head? = r.getLast?
theorem shut_ends {r : Ring} (h : Shut r) : Ends r := by
 have h4 := h.len
 unfold Ends
 rw [List.head?_eq_getElem?, List.getLast?_eq_getElem?, ptAt_get (by omega), ptAt_get (by omega), h.eq]
theorem rays_ring {r : Ring} (hr : Ends r) {p q : Pnt} (h : ∀ s ∈ segs r, Off p q s.1 s.2) : (raysS (segs r) (p, 1) ^^ raysS (segs r) (q, 1)) = xsL (segs r) p q := by
  cases r with
  | nil => rfl
  | cons a t =>
    have k := rays_chain p q t a h
    have e : a = (a :: t).getLast (by simp) := by
      unfold Ends at hr
      rw [List.getLast?_eq_some_getLast (by simp)] at hr
      simpa using hr
    rw [k, ← e]; simp
theorem placeL_rays : ∀ (l : List Seg) (i : Bool) (p : Spot), (∀ s ∈ l, ¬ has s.1 s.2 p.1 p.2) → placeL l i p = if (i ^^ raysS l p) = true then 2 else 0 := by
  intro l
  induction l with
  | nil => intro i p _; simp [placeL, raysS]
  | cons s l ih =>
    intro i p h
    have h1 := h s (by simp)
    unfold placeL
    rw [if_neg (by unfold hasB; simpa using h1), ih _ p fun t ht => h t (by simp [ht]), raysS_cons]
    cases ray s.1 s.2 p.1 p.2 <;> cases i <;> simp
theorem place_rays {r : Ring} {p : Spot} (h : ∀ s ∈ segs r, ¬ has s.1 s.2 p.1 p.2) : place r p = if raysS (segs r) p = true then 2 else 0 := by
 unfold place; rw [placeL_rays _ _ _ h]; simp
theorem xsL_none {l : List Seg} {p q : Pnt} (h : ∀ s ∈ l, ¬ Xs p q s.1 s.2) : xsL l p q = false := by
 induction l with
 | nil => rfl
 | cons s l ih => rw [xsL_cons, ih fun t ht => h t (by simp [ht]), decide_eq_false (h s (by simp))]; rfl
theorem place_same {r : Ring} (hr : Ends r) {p q : Pnt} (h : ∀ s ∈ segs r, Off p q s.1 s.2) (hx : ∀ s ∈ segs r, ¬ Xs p q s.1 s.2) : place r (p, 1) = place r (q, 1) := by
 have k := rays_ring hr h
 rw [xsL_none hx] at k
 rw [place_rays (p := (p, 1)) fun s hs => (h s hs).hp, place_rays (p := (q, 1)) fun s hs => (h s hs).hq]
 have : raysS (segs r) (p, 1) = raysS (segs r) (q, 1) := by
  revert k
  generalize raysS (segs r) (p, 1) = x
  generalize raysS (segs r) (q, 1) = y
  cases x <;> cases y <;> simp
 rw [this]
def sc (k : Int) (p : Pnt) : Pnt := (k * p.1, k * p.2)
def scR (k : Int) (r : Ring) : Ring := r.map (sc k)
def scS (k : Int) (s : Seg) : Seg := (sc k s.1, sc k s.2)
theorem cr_sc (k : Int) (a b p : Pnt) (w : Int) : cr (sc k a) (sc k b) p w = k * cr a b p (k * w) := by unfold cr sc; grind
theorem sg_mul {k : Int} (hk : 0 < k) (n : Int) : sg (k * n) = sg n := by
 have s := sgn_of hk (rfl : k * n = k * n)
 rcases sg_cases n with ⟨h, e⟩ | ⟨h, e⟩ | ⟨h, e⟩ <;> rcases sg_cases (k * n) with ⟨h', e'⟩ | ⟨h', e'⟩ | ⟨h', e'⟩ <;> first | omega | (rw [e, e'])
theorem has_sc {k : Int} (hk : 0 < k) (a b p : Pnt) (w : Int) : has (sc k a) (sc k b) p w ↔ has a b p (k * w) := by
 have s := sgn_of hk (rfl : k * cr a b p (k * w) = _)
 have e : ∀ x : Int, k * x * w = x * (k * w) := fun x => by grind
 unfold has
 rw [cr_sc]
 unfold sc
 simp only [e]
 constructor
 ·rintro ⟨h1, h2⟩; exact ⟨s.2.2.2 h1, h2⟩
 ·rintro ⟨h1, h2⟩; exact ⟨s.2.2.1 h1, h2⟩
theorem ray_sc {k : Int} (hk : 0 < k) (a b p : Pnt) (w : Int) : ray (sc k a) (sc k b) p w = ray a b p (k * w) := by
 have e : ∀ x : Int, k * x * w = x * (k * w) := fun x => by grind
 unfold ray
 rw [cr_sc, sg_mul hk]
 unfold sc
 simp only [e]
theorem segs_sc (k : Int) (r : Ring) : segs (scR k r) = (segs r).map (scS k) := by
 unfold segs scR
 rw [← List.map_tail, List.zip_map]
 rfl
theorem placeL_sc {k : Int} (hk : 0 < k) : ∀ (l : List Seg) (i : Bool) (p : Pnt) (w : Int), placeL (l.map (scS k)) i (p, w) = placeL l i (p, k * w) := by
  intro l
  induction l with
  | nil => intro i p w; rfl
  | cons s l ih =>
    intro i p w
    rw [List.map_cons]
    unfold placeL
    have e1 : hasB (scS k s) (p, w) = hasB s (p, k * w) := decide_eq_decide.2 (has_sc hk s.1 s.2 p w)
    have e2 : ray (scS k s).1 (scS k s).2 p w = ray s.1 s.2 p (k * w) := ray_sc hk s.1 s.2 p w
    rw [e1, ih]
    simp only [e2]
theorem place_sc {k : Int} (hk : 0 < k) (r : Ring) (p : Pnt) (w : Int) : place (scR k r) (p, w) = place r (p, k * w) := by
 unfold place; rw [segs_sc, placeL_sc hk]
theorem ends_sc {k : Int} {r : Ring} (h : Ends r) : Ends (scR k r) := by
 unfold Ends scR at *; rw [List.head?_map, List.getLast?_map, h]
theorem cr_spot (k : Int) (a b p : Pnt) (w : Int) : cr a b (sc k p) (k * w) = k * cr a b p w := by unfold cr sc; grind
theorem btw_mul {k : Int} (hk : 0 < k) {a p b : Int} : btw (k * a) (k * p) (k * b) ↔ btw a p b := by
 have e1 : ∀ {x y : Int}, k * x ≤ k * y ↔ x ≤ y := fun {x y} => ⟨fun h => Int.le_of_mul_le_mul_left h hk, fun h => Int.mul_le_mul_of_nonneg_left h (by omega)⟩
 unfold btw
 simp only [e1]
theorem has_spot {k : Int} (hk : 0 < k) (a b p : Pnt) (w : Int) : has a b (sc k p) (k * w) ↔ has a b p w := by
 have s := sgn_of hk (rfl : k * cr a b p w = _)
 have e : ∀ x : Int, x * (k * w) = k * (x * w) := fun x => by grind
 unfold has
 rw [cr_spot]
 unfold sc
 simp only [e, btw_mul hk]
 constructor
 ·rintro ⟨h1, h2⟩; exact ⟨s.2.2.2 h1, h2⟩
 ·rintro ⟨h1, h2⟩; exact ⟨s.2.2.1 h1, h2⟩
theorem ray_spot {k : Int} (hk : 0 < k) (a b p : Pnt) (w : Int) : ray a b (sc k p) (k * w) = ray a b p w := by
 have e : ∀ x : Int, x * (k * w) = k * (x * w) := fun x => by grind
 have e1 : ∀ {x y : Int}, k * x > k * y ↔ x > y := fun {x y} => ⟨fun h => Int.lt_of_mul_lt_mul_left h (by omega), fun h => Int.mul_lt_mul_of_pos_left h hk⟩
 unfold ray
 rw [cr_spot, sg_mul hk]
 unfold sc
 simp only [e, e1]
theorem placeL_spot {k : Int} (hk : 0 < k) (p : Pnt) (w : Int) : ∀ (l : List Seg) (i : Bool), placeL l i (sc k p, k * w) = placeL l i (p, w) := by
  intro l
  induction l with
  | nil => intro i; rfl
  | cons s l ih =>
    intro i
    unfold placeL
    have e1 : hasB s (sc k p, k * w) = hasB s (p, w) := decide_eq_decide.2 (has_spot hk s.1 s.2 p w)
    rw [e1, ih]
    simp only [ray_spot hk]
theorem place_spot {k : Int} (hk : 0 < k) (r : Ring) (p : Pnt) (w : Int) : place r (sc k p, k * w) = place r (p, w) := by
 unfold place; rw [placeL_spot hk]
theorem place_whole {r : Ring} {p : Spot} (hp : 0 < p.2) {k : Int} (hk : 0 < k) : place r p = place (scR (k * p.2) r) (sc k p.1, 1) := by
 rw [place_sc (pp hk hp), Int.mul_one, place_spot hk]
end Vd
end Go.Proofs.YtcclepohmhdpbabGreatDoor

namespace Go.Proofs.YtcclepohmhdpbabGreatDoor
set_option linter.all false
namespace Vd
theorem ex_max {α : Type} (f : α → Int) (P : α → Prop) : ∀ (l : List α), (∃ x ∈ l, P x) → ∃ x ∈ l, P x ∧ ∀ y ∈ l, P y → f y ≤ f x := by
  intro l
  induction l with
  | nil => rintro ⟨x, hx, _⟩; cases hx
  | cons a t ih =>
    rintro ⟨x, hx, hp⟩
    by_cases ht : ∃ y ∈ t, P y
    · obtain ⟨y, hy, py, my⟩ := ih ht
      by_cases ha : P a ∧ f y < f a
      · refine ⟨a, by simp, ha.1, fun z hz pz => ?_⟩
        rcases List.mem_cons.1 hz with rfl | hz
        · exact Int.le_refl _
        · have := my z hz pz; omega
      · refine ⟨y, by simp [hy], py, fun z hz pz => ?_⟩
        rcases List.mem_cons.1 hz with rfl | hz
        · by_cases c : f y < f z
          · exact absurd ⟨pz, c⟩ ha
          · omega
        · exact my z hz pz
    · rcases List.mem_cons.1 hx with rfl | hx
      · refine ⟨x, by simp, hp, fun z hz pz => ?_⟩
        rcases List.mem_cons.1 hz with rfl | hz
        · exact Int.le_refl _
        · exact absurd ⟨z, hz, pz⟩ ht
      · exact absurd ⟨x, hx, hp⟩ ht
theorem ex_min {α : Type} (f : α → Int) (P : α → Prop) (l : List α) (h : ∃ x ∈ l, P x) : ∃ x ∈ l, P x ∧ ∀ y ∈ l, P y → f x ≤ f y := by
 obtain ⟨x, hx, hp, m⟩ := ex_max (fun x => - f x) P l h
 exact ⟨x, hx, hp, fun y hy py => by have := m y hy py; omega⟩
theorem cut_list {a b : Pnt} {l : List Pnt} {x : Pnt} : Cut a b l x ↔ x ∈ a :: b :: l ∧ (x = a ∨ x = b ∨ (x ∈ l ∧ has a b x 1)) := by
 unfold Cut
 constructor
 ·intro h
  refine ⟨?_, h⟩
  rcases h with rfl | rfl | h
  ·simp
  ·simp
  ·simp [h.1]
 ·exact fun h => h.2
theorem on_line {a b p : Pnt} (h0 : cr a b p 1 = 0) : kk a b * p.1 = kk a b * a.1 + pos a b p * (b.1 - a.1) ∧ kk a b * p.2 = kk a b * a.2 + pos a b p * (b.2 - a.2) := by
 unfold cr at h0; unfold pos dt kk; constructor <;> grind
theorem lin_cr {k D a1 a2 b1 b2 p1 p2 c1 c2 d1 d2 : Int} (e1 : k * p1 = k * a1 + D * (b1 - a1)) (e2 : k * p2 = k * a2 + D * (b2 - a2)) :
  k * ((d1 - c1) * (p2 - c2) - (d2 - c2) * (p1 - c1)) = (k - D) * ((d1 - c1) * (a2 - c2) - (d2 - c2) * (a1 - c1)) + D * ((d1 - c1) * (b2 - c2) - (d2 - c2) * (b1 - c1)) := by grind
theorem cr_on {a b p : Pnt} (h0 : cr a b p 1 = 0) (c d : Pnt) : kk a b * cr c d p 1 = (kk a b - pos a b p) * cr c d a 1 + pos a b p * cr c d b 1 := by
 obtain ⟨e1, e2⟩ := on_line h0
 have := lin_cr (c1 := c.1) (c2 := c.2) (d1 := d.1) (d2 := d.2) e1 e2
 unfold cr
 simpa only [Int.mul_one] using this
theorem lin_dir {k D E a1 a2 b1 b2 p1 p2 q1 q2 : Int} (e1 : k * p1 = k * a1 + D * (b1 - a1)) (e2 : k * p2 = k * a2 + D * (b2 - a2)) (f1 : k * q1 = k * a1 + E * (b1 - a1)) (f2 : k * q2 = k * a2 + E * (b2 - a2)) :
  k * (q1 - p1) = (E - D) * (b1 - a1) ∧ k * (q2 - p2) = (E - D) * (b2 - a2) := by constructor <;> grind
theorem dir_lin {a b p q : Pnt} (hp : cr a b p 1 = 0) (hq : cr a b q 1 = 0) : kk a b * (q.1 - p.1) = (pos a b q - pos a b p) * (b.1 - a.1) ∧ kk a b * (q.2 - p.2) = (pos a b q - pos a b p) * (b.2 - a.2) := by
 obtain ⟨e1, e2⟩ := on_line hp
 obtain ⟨f1, f2⟩ := on_line hq
 exact lin_dir e1 e2 f1 f2
theorem lin_cr2 {k L u1 u2 v1 v2 x1 x2 : Int} (e1 : k * v1 = L * u1) (e2 : k * v2 = L * u2) : k * (v1 * x2 - v2 * x1) = L * (u1 * x2 - u2 * x1) ∧ k * (x1 * v1 + x2 * v2) = L * (x1 * u1 + x2 * u2) := by constructor <;> grind
theorem cr_from {a b p : Pnt} (hp : cr a b p 1 = 0) (c : Pnt) : (b.1 - a.1) * (c.2 - p.2) - (b.2 - a.2) * (c.1 - p.1) = cr a b c 1 := by unfold cr at *; grind
theorem cr_dir {a b p q : Pnt} (hp : cr a b p 1 = 0) (hq : cr a b q 1 = 0) (c : Pnt) : kk a b * cr p q c 1 = (pos a b q - pos a b p) * cr a b c 1 := by
 obtain ⟨e1, e2⟩ := dir_lin hp hq
 have := (lin_cr2 (x1 := c.1 - p.1) (x2 := c.2 - p.2) e1 e2).1
 rw [cr_from hp] at this
 rw [← this]
 unfold cr; simp only [Int.mul_one]
theorem pos_from (a b p c : Pnt) : (c.1 - p.1) * (b.1 - a.1) + (c.2 - p.2) * (b.2 - a.2) = pos a b c - pos a b p := by unfold pos dt; grind
theorem dt_dir {a b p q : Pnt} (hp : cr a b p 1 = 0) (hq : cr a b q 1 = 0) (c : Pnt) : kk a b * dt p q c 1 = (pos a b q - pos a b p) * (pos a b c - pos a b p) := by
 obtain ⟨e1, e2⟩ := dir_lin hp hq
 have := (lin_cr2 (x1 := c.1 - p.1) (x2 := c.2 - p.2) e1 e2).2
 rw [pos_from a b p c] at this
 rw [← this]
 unfold dt; simp only [Int.mul_one]
theorem kk_dt (p q : Pnt) : kk p q = dt p q q 1 := by unfold kk dt; simp
theorem has_dir {a b p q c : Pnt} (hab : a ≠ b) (hpq : p ≠ q) (hp : cr a b p 1 = 0) (hq : cr a b q 1 = 0) (h : has p q c 1) : cr a b c 1 = 0 ∧ btw (pos a b p) (pos a b c) (pos a b q) := by
 have hk := kk_pos hab
 obtain ⟨h0, h1, h2⟩ := (has_on hpq (by omega)).1 h
 have hne : pos a b q - pos a b p ≠ 0 := fun e => hpq (pos_inj hab hp hq (by omega))
 have e := cr_dir hp hq c
 rw [h0, Int.mul_zero] at e
 have e1 := dt_dir hp hq c
 have e2 := dt_dir hp hq q
 rw [Int.mul_one, kk_dt] at h2
 have m1 := p0 (Int.le_of_lt hk) h1
 have m2 := Int.mul_le_mul_of_nonneg_left h2 (Int.le_of_lt hk)
 rw [e1] at m1
 rw [e1, e2] at m2
 refine ⟨?_, ?_⟩
 ·rcases Int.mul_eq_zero.1 e.symm with g | g
  ·exact absurd g hne
  ·exact g
 ·unfold btw
  rcases Int.lt_or_gt_of_ne hne with g | g
  ·right
   constructor
   ·rcases Int.lt_or_le (pos a b c) (pos a b q) with q' | q'
    ·have := Int.mul_lt_mul_of_neg_left (show pos a b c - pos a b p < pos a b q - pos a b p by omega) g
     omega
    ·exact q'
   ·rcases Int.lt_or_le (pos a b p) (pos a b c) with q | q
    ·have := np g (show 0 < pos a b c - pos a b p by omega); omega
    ·exact q
  ·left
   constructor
   ·rcases Int.lt_or_le (pos a b c) (pos a b p) with q | q
    ·have := pn g (show pos a b c - pos a b p < 0 by omega); omega
    ·exact q
   ·have := Int.le_of_mul_le_mul_left m2 g
    omega
theorem opp_comb {x y s t s' t' X Y : Int} (hs : 0 ≤ s) (ht : 0 ≤ t) (hs' : 0 ≤ s') (ht' : 0 ≤ t') {k : Int} (hk : 0 < k) (e1 : k * X = s * x + t * y) (e2 : k * Y = s' * x + t' * y) (o : Opp X Y) : Opp x y := by
 obtain ⟨P1, P2, -⟩ := sgn_of hk e1
 obtain ⟨Q1, Q2, -⟩ := sgn_of hk e2
 have both : ¬ (0 ≤ x ∧ 0 ≤ y) := by
  rintro ⟨hx, hy⟩
  have := p0 hs hx; have := p0 ht hy; have := p0 hs' hx; have := p0 ht' hy
  unfold Opp at o; omega
 have none : ¬ (x ≤ 0 ∧ y ≤ 0) := by
  rintro ⟨hx, hy⟩
  have := m0 hs hx; have := m0 ht hy; have := m0 hs' hx; have := m0 ht' hy
  unfold Opp at o; omega
 unfold Opp; omega
theorem meet_opp {a b c d : Pnt} (h1 : Opp (cr a b c 1) (cr a b d 1)) (h2 : Opp (cr c d a 1) (cr c d b 1)) : meet a b c d = 2 := by
 unfold meet Opp at *
 rcases sg_cases (cr a b c 1) with ⟨g1, k1⟩ | ⟨g1, k1⟩ | ⟨g1, k1⟩ <;> rcases sg_cases (cr a b d 1) with ⟨g2, k2⟩ | ⟨g2, k2⟩ | ⟨g2, k2⟩ <;>
 rcases sg_cases (cr c d a 1) with ⟨g3, k3⟩ | ⟨g3, k3⟩ | ⟨g3, k3⟩ <;> rcases sg_cases (cr c d b 1) with ⟨g4, k4⟩ | ⟨g4, k4⟩ | ⟨g4, k4⟩ <;>
 first | (exfalso; omega) | (simp [k1, k2, k3, k4])
theorem mulc' (x y : Int) : (x * y < 0 → (0 < x ∧ y < 0) ∨ (x < 0 ∧ 0 < y)) ∧ (0 < x * y → (0 < x ∧ 0 < y) ∨ (x < 0 ∧ y < 0)) := by
 rcases Int.lt_trichotomy x 0 with h | h | h <;> rcases Int.lt_trichotomy y 0 with k | k | k
 ·have := nng h k; omega
 ·rw [k]; simp
 ·have := np h k; omega
 ·rw [h]; simp
 ·rw [h]; simp
 ·rw [h]; simp
 ·have := pn h k; omega
 ·rw [k]; simp
 ·have := pp h k; omega
theorem line_same {a b : Pnt} (hab : a ≠ b) {o : Ring} (he : Ends o) {p q : Pnt} (hp : cr a b p 1 = 0) (hq : cr a b q 1 = 0) (np : place o (p, 1) ≠ 1) (nq : place o (q, 1) ≠ 1)
  (hv : ∀ t ∈ segs o, ∀ c, c = t.1 ∨ c = t.2 → cr a b c 1 = 0 → ¬ btw (pos a b p) (pos a b c) (pos a b q))
  (hx : ∀ t ∈ segs o, ¬ (Opp (cr a b t.1 1) (cr a b t.2 1) ∧ Opp (cr t.1 t.2 p 1) (cr t.1 t.2 q 1))) : place o (p, 1) = place o (q, 1) := by
 by_cases hpq : p = q
 ·rw [hpq]
 have hk := kk_pos hab
 refine place_same he (fun t ht => ⟨fun h => ?_, fun h => ?_, fun h => np (place_one.2 ⟨t, ht, h⟩), fun h => nq (place_one.2 ⟨t, ht, h⟩)⟩) (fun t ht h => ?_)
 ·obtain ⟨k1, k2⟩ := has_dir hab hpq hp hq h
  exact hv t ht _ (.inl rfl) k1 k2
 ·obtain ⟨k1, k2⟩ := has_dir hab hpq hp hq h
  exact hv t ht _ (.inr rfl) k1 k2
 ·refine hx t ht ⟨?_, h.2⟩
  have e1 := cr_dir hp hq t.1
  have e2 := cr_dir hp hq t.2
  have s1 := sgn_of hk e1
  have s2 := sgn_of hk e2
  have o := h.1
  have m1 := mulc' (pos a b q - pos a b p) (cr a b t.1 1)
  have m2 := mulc' (pos a b q - pos a b p) (cr a b t.2 1)
  unfold Opp at o ⊢
  omega
theorem cuts_about {a b p : Pnt} (hab : a ≠ b) (hp : has a b p 1) (l : List Pnt) :
  ∃ y z, Cons (pos a b) (Cut a b l) y z ∧ pos a b y ≤ pos a b p ∧ pos a b p ≤ pos a b z := by
 obtain ⟨d0, d1⟩ := pos_le hab hp
 have hk := kk_pos hab
 obtain ⟨y, hy, ⟨cy, ly, ny⟩, my⟩ := ex_max (pos a b) (fun x => Cut a b l x ∧ pos a b x ≤ pos a b p ∧ pos a b x < kk a b) (a :: b :: l) ⟨a, by simp, .inl rfl, by rw [pos_a]; exact d0, by rw [pos_a]; exact hk⟩
 obtain ⟨z, hz, ⟨cz, lz⟩, mz⟩ := ex_min (pos a b) (fun x => Cut a b l x ∧ pos a b y < pos a b x) (a :: b :: l) ⟨b, by simp, .inr (.inl rfl), by rw [pos_b]; exact ny⟩
 refine ⟨y, z, ⟨cy, cz, lz, fun c hc ⟨h1, h2⟩ => ?_⟩, ly, ?_⟩
 ·have := mz c (cut_list.1 hc).1 ⟨hc, h1⟩; omega
 ·rcases Int.le_total (pos a b p) (pos a b z) with g | g
  ·exact g
  ·by_cases e : pos a b z < kk a b
   ·have := my z hz ⟨cz, g, e⟩; omega
   ·have h1 := (pos_le hab (cut_has cz)).2
    omega
end Vd
end Go.Proofs.YtcclepohmhdpbabGreatDoor

namespace Go.Proofs.YtcclepohmhdpbabGreatDoor
set_option linter.all false
namespace Vd
theorem has_pos {a b p : Pnt} (hab : a ≠ b) (h0 : cr a b p 1 = 0) (h1 : 0 ≤ pos a b p) (h2 : pos a b p ≤ kk a b) : has a b p 1 := (has_on hab (by omega)).2 ⟨h0, h1, by rw [Int.mul_one]; exact h2⟩
theorem vert_on {o : Ring} {t : Seg} (ht : t ∈ segs o) {c : Pnt} (hc : c = t.1 ∨ c = t.2) : place o (c, 1) = 1 := by
 refine place_one.2 ⟨t, ht, ?_⟩
 rcases hc with rfl | rfl
 ·exact has_a _ _
 ·exact has_b _ _
theorem mid_off_int {a b : Pnt} (hab : a ≠ b) {o : Ring} (hl : Long o) (hx : ∀ t ∈ segs o, crossS (a, b) t = false) {y z M : Pnt} (hc : Cons (pos a b) (Cut a b o) y z) (hM : has a b M 1) (h1 : pos a b y < pos a b M) (h2 : pos a b M < pos a b z) : place o (M, 1) ≠ 1 := by
 intro h
 obtain ⟨t, ht, hh⟩ := place_one.1 h
 simp only at hh
 obtain ⟨y0, -⟩ := pos_le hab (cut_has hc.cx)
 obtain ⟨-, z1⟩ := pos_le hab (cut_has hc.cy)
 have nocut : ¬ Cut a b o M := fun c => hc.no M c ⟨h1, h2⟩
 have nv : ∀ c, c = t.1 ∨ c = t.2 → M ≠ c := by
  rintro c hc' rfl
  have := segs_mem ht
  exact nocut (.inr (.inr ⟨by rcases hc' with e | e <;> rw [e]; exact this.1; exact this.2, hM⟩))
 have two : ∀ c : Pnt, M ≠ c → sc 2 M ≠ (c.1 * 2, c.2 * 2) := by
  intro c hne e
  unfold sc at e
  simp only [Prod.mk.injEq] at e
  exact hne (Prod.ext (by omega) (by omega))
 have i1 : Inn a b (sc 2 M) := by
  refine ⟨?_, two a ?_, two b ?_⟩
  ·have := (has_spot (k := 2) (by omega) a b M 1).2 hM; simpa using this
  ·rintro rfl; rw [pos_a] at h1; omega
  ·rintro rfl; rw [pos_b] at h2; omega
 have i2 : Inn t.1 t.2 (sc 2 M) := by
  refine ⟨?_, two _ (nv _ (.inl rfl)), two _ (nv _ (.inr rfl))⟩
  have := (has_spot (k := 2) (by omega) t.1 t.2 M 1).2 hh; simpa using this
 have k := inn_cross hab (hl t ht) i1 i2
 have := hx t ht
 unfold crossS meetS at this
 rcases k with k | k <;> simp [k] at this
theorem on_place_int {a b : Pnt} (hab : a ≠ b) {o : Ring} (he : Ends o) (hl : Long o) (hx : ∀ t ∈ segs o, crossS (a, b) t = false) {y z p M : Pnt} (hc : Cons (pos a b) (Cut a b o) y z) (hp : has a b p 1) (p1 : pos a b y ≤ pos a b p) (p2 : pos a b p ≤ pos a b z) (hM : has a b M 1) (h1 : pos a b y < pos a b M) (h2 : pos a b M < pos a b z) (hn : place o (p, 1) ≠ 1) : place o (p, 1) = place o (M, 1) := by
 have hk := kk_pos hab
 obtain ⟨y0, -⟩ := pos_le hab (cut_has hc.cx)
 obtain ⟨-, z1⟩ := pos_le hab (cut_has hc.cy)
 obtain ⟨q0', q1⟩ := pos_le hab hp
 obtain ⟨m0', m1⟩ := pos_le hab hM
 refine line_same hab he hp.1 hM.1 hn (mid_off_int hab hl hx hc hM h1 h2) ?_ ?_
 ·intro t ht c hc' hcr hb
  have hcut : Cut a b o c := by
   refine .inr (.inr ⟨?_, has_pos hab hcr (by unfold btw at hb; omega) (by unfold btw at hb; omega)⟩)
   have := segs_mem ht
   rcases hc' with e | e <;> rw [e]
   ·exact this.1
   ·exact this.2
  have := hc.no c hcut
  have e : pos a b c = pos a b p := by unfold btw at hb; omega
  have := pos_inj hab hcr hp.1 e
  rw [← this] at hn
  exact hn (vert_on ht hc')
 ·rintro t ht ⟨o1, o2⟩
  have e1 := cr_on hp.1 t.1 t.2
  have e2 := cr_on hM.1 t.1 t.2
  have o3 := opp_comb (by omega) q0' (by omega) m0' hk e1 e2 o2
  have := hx t ht
  unfold crossS meetS at this
  rw [meet_opp o1 o3] at this
  simp at this
theorem sc_inj {k : Int} (hk : 0 < k) {p q : Pnt} : sc k p = sc k q ↔ p = q := by
 constructor
 ·intro h
  unfold sc at h
  simp only [Prod.mk.injEq] at h
  exact Prod.ext (Int.eq_of_mul_eq_mul_left (by omega) h.1) (Int.eq_of_mul_eq_mul_left (by omega) h.2)
 ·rintro rfl; rfl
theorem bef_sc {k : Int} (hk : 0 < k) {p q : Pnt} : bef (sc k p) (sc k q) ↔ bef p q := by
 have e1 : ∀ {x y : Int}, k * x < k * y ↔ x < y := fun {x y} => ⟨fun h => Int.lt_of_mul_lt_mul_left h (by omega), fun h => Int.mul_lt_mul_of_pos_left h hk⟩
 have e2 : ∀ {x y : Int}, k * x = k * y ↔ x = y := fun {x y} => ⟨fun h => Int.eq_of_mul_eq_mul_left (by omega) h, fun h => by rw [h]⟩
 unfold bef sc
 simp only [e1, e2]
theorem fwd_sc {k : Int} (hk : 0 < k) (a b : Pnt) : fwd (sc k a) (sc k b) = scS k (fwd a b) := by
 unfold fwd
 by_cases h : bef b a
 ·rw [if_pos h, if_pos ((bef_sc hk).2 h)]; rfl
 ·rw [if_neg h, if_neg (fun g => h ((bef_sc hk).1 g))]; rfl
theorem ite_sc (k : Int) (c : Prop) [Decidable c] (a b : Pnt) : (if c then sc k a else sc k b) = sc k (if c then a else b) := by split <;> rfl
theorem onLine_sc {k : Int} (hk : 0 < k) (s t : Seg) : onLine (scS k s) (scS k t) = onLine s t := by
 unfold onLine scS
 simp only [bef_sc hk, ite_sc, sc_inj hk]
theorem cr_sc1 (k : Int) (a b p : Pnt) : cr (sc k a) (sc k b) (sc k p) 1 = k * k * cr a b p 1 := by unfold cr sc; grind
theorem meet_sc {k : Int} (hk : 0 < k) (a b c d : Pnt) : meet (sc k a) (sc k b) (sc k c) (sc k d) = meet a b c d := by
 unfold meet
 simp only [cr_sc1, sg_mul (pp hk hk), fwd_sc hk, onLine_sc hk]
theorem crossS_sc {k : Int} (hk : 0 < k) (s t : Seg) : crossS (scS k s) (scS k t) = crossS s t := by
 unfold crossS meetS scS
 simp only [meet_sc hk]
theorem pos_sc (k : Int) (a b p : Pnt) : pos (sc k a) (sc k b) (sc k p) = k * k * pos a b p := by unfold pos dt sc; grind
theorem has_sc1 {k : Int} (hk : 0 < k) (a b p : Pnt) : has (sc k a) (sc k b) (sc k p) 1 ↔ has a b p 1 := by
 rw [has_sc hk, has_spot hk]
theorem cut_sc {k : Int} (hk : 0 < k) {a b : Pnt} {l : List Pnt} {x : Pnt} : Cut (sc k a) (sc k b) (l.map (sc k)) x ↔ ∃ x', x = sc k x' ∧ Cut a b l x' := by
 unfold Cut
 constructor
 ·rintro (rfl | rfl | ⟨h1, h2⟩)
  ·exact ⟨a, rfl, .inl rfl⟩
  ·exact ⟨b, rfl, .inr (.inl rfl)⟩
  ·obtain ⟨x', hx', rfl⟩ := List.mem_map.1 h1
   exact ⟨x', rfl, .inr (.inr ⟨hx', (has_sc1 hk _ _ _).1 h2⟩)⟩
 ·rintro ⟨x', rfl, rfl | rfl | ⟨h1, h2⟩⟩
  ·exact .inl rfl
  ·exact .inr (.inl rfl)
  ·exact .inr (.inr ⟨List.mem_map.2 ⟨x', h1, rfl⟩, (has_sc1 hk _ _ _).2 h2⟩)
theorem cons_sc {k : Int} (hk : 0 < k) {a b : Pnt} {l : List Pnt} {y z : Pnt} (h : Cons (pos (sc k a) (sc k b)) (Cut (sc k a) (sc k b) (l.map (sc k))) y z) : ∃ y' z', y = sc k y' ∧ z = sc k z' ∧ Cons (pos a b) (Cut a b l) y' z' := by
 obtain ⟨y', rfl, cy⟩ := (cut_sc hk).1 h.cx
 obtain ⟨z', rfl, cz⟩ := (cut_sc hk).1 h.cy
 have kk2 := pp hk hk
 have e1 : ∀ {x y : Int}, k * k * x < k * k * y ↔ x < y := fun {x y} => ⟨fun h => Int.lt_of_mul_lt_mul_left h (by omega), fun h => Int.mul_lt_mul_of_pos_left h kk2⟩
 refine ⟨y', z', rfl, rfl, cy, cz, ?_, ?_⟩
 ·have := h.lt; rw [pos_sc, pos_sc] at this; exact e1.1 this
 ·rintro c hc ⟨h1, h2⟩
  refine h.no (sc k c) ((cut_sc hk).2 ⟨c, rfl, hc⟩) ?_
  rw [pos_sc, pos_sc, pos_sc]
  exact ⟨e1.2 h1, e1.2 h2⟩
theorem long_sc {k : Int} (hk : 0 < k) {r : Ring} (h : Long r) : Long (scR k r) := by
 intro s hs
 rw [segs_sc] at hs
 obtain ⟨t, ht, rfl⟩ := List.mem_map.1 hs
 intro e
 exact h t ht ((sc_inj hk).1 e)
theorem on_place {a b : Pnt} (hab : a ≠ b) {o : Ring} (he : Ends o) (hl : Long o) (hx : ∀ t ∈ segs o, crossS (a, b) t = false) {p : Spot} (hw : 0 < p.2) (hp : has a b p.1 p.2) (hn : place o p ≠ 1) :
  ∃ m ∈ mids (a, b) [o], place o p = place o m := by
 obtain ⟨P, w⟩ := p
 simp only at hw hp
 have hK : (0 : Int) < 2 * w := by omega
 have hab' : sc (2 * w) a ≠ sc (2 * w) b := fun e => hab ((sc_inj hK).1 e)
 have hp' : has (sc (2 * w) a) (sc (2 * w) b) (sc 2 P) 1 := by
  rw [has_sc hK, Int.mul_one]
  exact (has_spot (by omega) a b P w).2 hp
 obtain ⟨y', z', hc', l1, l2⟩ := cuts_about hab' hp' (scR (2 * w) o)
 obtain ⟨y, z, rfl, rfl, hc⟩ := cons_sc hK (l := o) hc'
 have hm : midOf y z ∈ mids (a, b) [o] := (mem_mids hab [o] _).2 ⟨y, z, by simpa using hc, rfl⟩
 refine ⟨_, hm, ?_⟩
 have e1 : place o (P, w) = place (scR (2 * w) o) (sc 2 P, 1) := place_whole (p := (P, w)) hw (k := 2) (by omega)
 have e2 : place o (midOf y z) = place (scR (2 * w) o) (sc w (midOf y z).1, 1) := by
  have := place_whole (r := o) (p := midOf y z) (show (0 : Int) < 2 by omega) (k := w) hw
  rw [show w * (midOf y z).2 = 2 * w by show w * 2 = 2 * w; omega] at this
  exact this
 rw [e1, e2]
 have c0y := (cut_has hc.cx).1
 have c0z := (cut_has hc.cy).1
 have f1 : 2 * pos (sc (2 * w) a) (sc (2 * w) b) (sc w (midOf y z).1) = pos (sc (2 * w) a) (sc (2 * w) b) (sc (2 * w) y) + pos (sc (2 * w) a) (sc (2 * w) b) (sc (2 * w) z) := by unfold pos dt sc midOf; grind
 have f2 : 2 * cr (sc (2 * w) a) (sc (2 * w) b) (sc w (midOf y z).1) 1 = cr (sc (2 * w) a) (sc (2 * w) b) (sc (2 * w) y) 1 + cr (sc (2 * w) a) (sc (2 * w) b) (sc (2 * w) z) 1 := by unfold cr sc midOf; grind
 rw [cr_sc1, cr_sc1, c0y, c0z, Int.mul_zero, Int.add_zero] at f2
 have hlt := hc'.lt
 obtain ⟨y0, y1⟩ := pos_le hab' (cut_has hc'.cx)
 obtain ⟨z0, z1⟩ := pos_le hab' (cut_has hc'.cy)
 refine on_place_int hab' (ends_sc he) (long_sc hK hl) ?_ hc' hp' l1 l2 (has_pos hab' (by omega) (by omega) (by omega)) (by omega) (by omega) ?_
 ·intro t ht
  rw [segs_sc] at ht
  obtain ⟨t', ht', rfl⟩ := List.mem_map.1 ht
  have := hx t' ht'
  rw [← crossS_sc hK] at this
  exact this
 ·rw [← e1]; exact hn
theorem lies_out {r o : Ring} (hr : Long r) (ho : Long o) (he : Ends o) (hx : cross r o = false) {k : Int} (hk : lies r o k = true) {p : Spot} (hw : 0 < p.2) (hp : place r p = 1) : place o p = 1 ∨ place o p = k := by
  obtain ⟨s, hs, h⟩ := place_one.1 hp
  by_cases h1 : place o p = 1
  · exact .inl h1
  right
  obtain ⟨m, hm, e⟩ := on_place (hr s hs) he ho (fun t ht => by
    cases c : crossS (s.1, s.2) t with
    | false => rfl
    | true =>
      have : cross r o = true := by
        unfold cross
        exact List.any_eq_true.2 ⟨s, hs, List.any_eq_true.2 ⟨t, ht, c⟩⟩
      rw [hx] at this; cases this) hw h h1
  rw [e]
  unfold lies at hk
  rw [Bool.not_eq_true'] at hk
  by_cases g : place o m = k
  · exact g
  · have : ((segs r).any fun s => (mids s [o]).any fun m => decide (place o m ≠ k)) = true := List.any_eq_true.2 ⟨s, hs, List.any_eq_true.2 ⟨m, hm, decide_eq_true g⟩⟩
    rw [hk] at this; cases this
end Vd
end Go.Proofs.YtcclepohmhdpbabGreatDoor

namespace Go.Proofs.YtcclepohmhdpbabGreatDoor
set_option linter.all false
namespace Vd
end Vd
end Go.Proofs.YtcclepohmhdpbabGreatDoor

namespace Go.Proofs.YtcclepohmhdpbabGreatDoor
set_option linter.all false
namespace Vd
theorem has_fwd {a b z : Pnt} (h : has a b z 1) : ¬ bef z (fwd a b).1 ∧ ¬ bef (fwd a b).2 z := by
 obtain ⟨h0, h1, h2⟩ := h
 have key : ∀ {a b : Pnt}, ¬ bef b a → cr a b z 1 = 0 → btw (a.1 * 1) z.1 (b.1 * 1) → btw (a.2 * 1) z.2 (b.2 * 1) → ¬ bef z a ∧ ¬ bef b z := by
  intro a b hab h0 h1 h2
  unfold cr at h0
  unfold btw at h1 h2
  unfold bef at *
  simp only [Int.mul_one] at h0 h1 h2
  by_cases e : a.1 = b.1
  ·omega
  ·have hlt : a.1 < b.1 := by omega
   constructor
   ·rintro (g | ⟨g1, g2⟩)
    ·omega
    ·rw [g1, Int.sub_self, Int.mul_zero, Int.sub_zero] at h0
     rcases Int.mul_eq_zero.1 h0 with q | q <;> omega
   ·rintro (g | ⟨g1, g2⟩)
    ·omega
    ·have : (b.1 - a.1) * (z.2 - b.2) = 0 := by
      have : (b.1 - a.1) * (z.2 - b.2) = (b.1 - a.1) * (z.2 - a.2) - (b.2 - a.2) * (z.1 - a.1) := by rw [← g1]; grind
      omega
     rcases Int.mul_eq_zero.1 this with q | q <;> omega
 unfold fwd
 by_cases hb : bef b a
 ·rw [if_pos hb]
  exact key (a := b) (b := a) (fun h => bef_irr hb h) (by rw [cr_swap, h0]; rfl) (by unfold btw at *; omega) (by unfold btw at *; omega)
 ·rw [if_neg hb]; exact key hb h0 h1 h2
theorem onLine_pt {s t : Seg} {z : Pnt} (h1 : ¬ bef z s.1) (h2 : ¬ bef s.2 z) (h3 : ¬ bef z t.1) (h4 : ¬ bef t.2 z) : onLine s t ≠ 0 := by
 unfold onLine
 have f : ¬ bef z (if bef s.1 t.1 then t.1 else s.1) := by split <;> assumption
 have l : ¬ bef (if bef t.2 s.2 then t.2 else s.2) z := by split <;> assumption
 generalize (if bef s.1 t.1 then t.1 else s.1) = F at *
 generalize (if bef t.2 s.2 then t.2 else s.2) = L at *
 by_cases c1 : bef F L
 ·simp [c1]
 ·by_cases c2 : F = L
  ·subst c2; simp [c1]
  ·exfalso
   rcases bef_tri F L with g | g | g
   ·exact c1 g
   ·exact c2 g
   ·unfold bef at *; omega
theorem onLine_two {s t : Seg} {z z' : Pnt} (hz : bef z z') (h1 : ¬ bef z s.1) (h4 : ¬ bef z t.1) (k2 : ¬ bef s.2 z') (k4 : ¬ bef t.2 z') : onLine s t = 3 := by
 unfold onLine
 have f : ¬ bef z (if bef s.1 t.1 then t.1 else s.1) := by split <;> assumption
 have l : ¬ bef (if bef t.2 s.2 then t.2 else s.2) z' := by split <;> assumption
 generalize (if bef s.1 t.1 then t.1 else s.1) = F at *
 generalize (if bef t.2 s.2 then t.2 else s.2) = L at *
 have : bef F L := by unfold bef at *; omega
 simp [this]
theorem same_side {x y p q k z : Int} (hk : 0 < k) (hp : 0 ≤ p) (hq : 0 ≤ q) (hs : 0 < p + q) (e : k * z = p * x + q * y) (hz : z = 0) : ¬ (0 < x * y) := by
 intro h
 rw [hz, Int.mul_zero] at e
 rcases (mulc' x y).2 h with ⟨g1, g2⟩ | ⟨g1, g2⟩
 ·by_cases p1 : 0 < p
  ·have := pp p1 g1; have := p0 hq (Int.le_of_lt g2); omega
  ·have := p0 hp (Int.le_of_lt g1); have := pp (show 0 < q by omega) g2; omega
 ·by_cases p1 : 0 < p
  ·have := pn p1 g1; have := m0 hq (Int.le_of_lt g2); omega
  ·have := m0 hp (Int.le_of_lt g1); have := pn (show 0 < q by omega) g2; omega
theorem sg_prod (x y : Int) : sg x * sg y > 0 ↔ 0 < x * y := by
 rcases sg_cases x with ⟨h, e⟩ | ⟨h, e⟩ | ⟨h, e⟩ <;> rcases sg_cases y with ⟨k, f⟩ | ⟨k, f⟩ | ⟨k, f⟩ <;> rw [e, f]
 ·have := pp h k; omega
 ·rw [k]; simp
 ·have := pn h k; omega
 ·rw [h]; simp
 ·rw [h]; simp
 ·rw [h]; simp
 ·have := np h k; omega
 ·rw [k]; simp
 ·have := nng h k; omega
theorem meet_pt {a b c d z : Pnt} (hab : a ≠ b) (hcd : c ≠ d) (h1 : has a b z 1) (h2 : has c d z 1) : meet a b c d ≠ 0 := by
 have k1 := kk_pos hab
 have k2 := kk_pos hcd
 obtain ⟨p1, p2⟩ := pos_le hab h1
 obtain ⟨q1, q2⟩ := pos_le hcd h2
 have e1 := cr_on h2.1 a b
 have e2 := cr_on h1.1 c d
 have n1 := same_side k2 (by omega) q1 (by omega) e1 h1.1
 have n2 := same_side k1 (by omega) p1 (by omega) e2 h2.1
 unfold meet
 simp only
 split
 ·obtain ⟨f1, f2⟩ := has_fwd h1
  obtain ⟨f3, f4⟩ := has_fwd h2
  exact onLine_pt f1 f2 f3 f4
 ·rw [if_neg (by rw [sg_prod, sg_prod]; omega)]
  split <;> omega
theorem cr_two {a b z z' : Pnt} (hz : z ≠ z') (h1 : cr a b z 1 = 0) (h2 : cr a b z' 1 = 0) {c : Pnt} (h3 : cr z z' c 1 = 0) (hab : a ≠ b) : cr a b c 1 = 0 := by
 have hk := kk_pos hab
 have e := cr_dir h1 h2 c
 rw [h3, Int.mul_zero] at e
 rcases Int.mul_eq_zero.1 e.symm with q | q
 ·exact absurd (pos_inj hab h1 h2 (by omega)) hz
 ·exact q
theorem cr_back {a b z z' : Pnt} (hz : z ≠ z') (hab : a ≠ b) (h1 : cr a b z 1 = 0) (h2 : cr a b z' 1 = 0) : cr z z' a 1 = 0 ∧ cr z z' b 1 = 0 := by
 have hk := kk_pos hab
 have e1 := cr_dir h1 h2 a
 have e2 := cr_dir h1 h2 b
 rw [cr_a, Int.mul_zero] at e1
 rw [cr_b, Int.mul_zero] at e2
 constructor
 ·rcases Int.mul_eq_zero.1 e1 with q | q <;> omega
 ·rcases Int.mul_eq_zero.1 e2 with q | q <;> omega
theorem meet_two {a b c d z z' : Pnt} (hab : a ≠ b) (hcd : c ≠ d) (hz : z ≠ z') (h1 : has a b z 1) (h2 : has c d z 1) (h3 : has a b z' 1) (h4 : has c d z' 1) : meet a b c d = 3 := by
 obtain ⟨x1, x2⟩ := cr_back hz hab h1.1 h3.1
 obtain ⟨y1, y2⟩ := cr_back hz hcd h2.1 h4.1
 have z1 : cr a b c 1 = 0 := cr_two hz h1.1 h3.1 y1 hab
 have z2 : cr a b d 1 = 0 := cr_two hz h1.1 h3.1 y2 hab
 have z3 : cr c d a 1 = 0 := cr_two hz h2.1 h4.1 x1 hcd
 have z4 : cr c d b 1 = 0 := cr_two hz h2.1 h4.1 x2 hcd
 unfold meet
 simp only [z1, z2, z3, z4]
 rw [if_pos (by simp [sg])]
 obtain ⟨f1, f2⟩ := has_fwd h1
 obtain ⟨f3, f4⟩ := has_fwd h2
 obtain ⟨g1, g2⟩ := has_fwd h3
 obtain ⟨g3, g4⟩ := has_fwd h4
 rcases bef_tri z z' with h | h | h
 ·exact onLine_two h f1 f3 g2 g4
 ·exact absurd h hz
 ·exact onLine_two h g1 g3 f2 f4
theorem segs_split (p1 : Ring) (a b : Pnt) (p2 : Ring) : segs (p1 ++ a :: b :: p2) = segs (p1 ++ [a]) ++ (a, b) :: segs (b :: p2) := by
  induction p1 with
  | nil => rfl
  | cons x p1 ih =>
    cases p1 with
    | nil => rfl
    | cons y p1 =>
      rw [List.cons_append, List.cons_append, segs_cons2, List.cons_append, List.cons_append, segs_cons2]
      rw [List.cons_append, List.cons_append] at ih
      rw [ih]; rfl
def oth (p1 : Ring) (a b : Pnt) (p2 : Ring) : List Seg := segs (p1 ++ [a]) ++ segs (b :: p2)
theorem mem_oth {p1 : Ring} {a b : Pnt} {p2 : Ring} {s : Seg} : s ∈ segs (p1 ++ a :: b :: p2) ↔ s = (a, b) ∨ s ∈ oth p1 a b p2 := by
 rw [segs_split]; unfold oth
 simp only [List.mem_append, List.mem_cons]
 constructor
 ·rintro (h | h | h)
  ·exact .inr (.inl h)
  ·exact .inl h
  ·exact .inr (.inr h)
 ·rintro (h | h | h)
  ·exact .inr (.inl h)
  ·exact .inl h
  ·exact .inr (.inr h)
theorem rays_oth (p1 : Ring) (a b : Pnt) (p2 : Ring) (x : Spot) : raysS (segs (p1 ++ a :: b :: p2)) x = (ray a b x.1 x.2 ^^ raysS (oth p1 a b p2) x) := by
 rw [segs_split, raysS_append, raysS_cons]; unfold oth; rw [raysS_append]
 generalize raysS (segs (p1 ++ [a])) x = u
 generalize raysS (segs (b :: p2)) x = v
 generalize ray a b x.1 x.2 = w
 cases u <;> cases v <;> cases w <;> rfl
theorem oth_chain {p1 : Ring} {a b : Pnt} {p2 : Ring} (hr : Ends (p1 ++ a :: b :: p2)) {x m : Pnt} (h : ∀ s ∈ oth p1 a b p2, Off x m s.1 s.2) (hx : ∀ s ∈ oth p1 a b p2, ¬ Xs x m s.1 s.2) :
  (raysS (oth p1 a b p2) (x, 1) ^^ raysS (oth p1 a b p2) (m, 1)) = (dRs x m a ^^ dRs x m b) := by
 unfold oth at *
 obtain ⟨u, t, e⟩ : ∃ u t, p1 ++ [a] = u :: t := by
  cases p1 with
  | nil => exact ⟨a, [], rfl⟩
  | cons y p1 => exact ⟨y, p1 ++ [a], rfl⟩
 have k1 := rays_chain x m t u (fun s hs => h s (by rw [List.mem_append, e]; exact .inl hs))
 have k2 := rays_chain x m p2 b (fun s hs => h s (by rw [List.mem_append]; exact .inr hs))
 have l1 : (u :: t).getLast (by simp) = a := by
  have : (p1 ++ [a]).getLast (by simp) = a := by simp
  simpa only [e] using this
 have l2 : u = (b :: p2).getLast (by simp) := by
  unfold Ends at hr
  have h1 : (p1 ++ a :: b :: p2).head? = some u := by
   have : p1 ++ a :: b :: p2 = (p1 ++ [a]) ++ b :: p2 := by simp
   rw [this, e]; rfl
  have h2 : (p1 ++ a :: b :: p2).getLast? = some ((b :: p2).getLast (by simp)) := by
   rw [List.getLast?_append, List.getLast?_cons_cons, List.getLast?_eq_some_getLast (by simp)]; rfl
  rw [h1, h2] at hr
  exact Option.some.inj hr
 rw [xsL_none (fun s hs => hx s (by rw [List.mem_append, e]; exact .inl hs)), l1] at k1
 rw [xsL_none (fun s hs => hx s (by rw [List.mem_append]; exact .inr hs)), ← l2] at k2
 rw [raysS_append, raysS_append, e]
 revert k1 k2
 generalize raysS (segs (u :: t)) (x, 1) = x1
 generalize raysS (segs (u :: t)) (m, 1) = x2
 generalize raysS (segs (b :: p2)) (x, 1) = x3
 generalize raysS (segs (b :: p2)) (m, 1) = x4
 generalize dRs x m u = x5
 generalize dRs x m a = x6
 generalize dRs x m b = x7
 revert x1 x2 x3 x4 x5 x6 x7
 decide
def upS (a b : Pnt) : Bool := decide (a.2 < b.2 ∨ (a.2 = b.2 ∧ b.1 < a.1))
theorem upS_swap {a b : Pnt} (h : a ≠ b) : upS b a = !upS a b := by
 unfold upS
 by_cases c : a.2 < b.2 ∨ (a.2 = b.2 ∧ b.1 < a.1)
 ·rw [decide_eq_true c, decide_eq_false (by omega)]; rfl
 ·rw [decide_eq_false c, decide_eq_true]
  ·rfl
  ·by_cases e : a.2 = b.2
   ·have : a.1 ≠ b.1 := fun q => h (Prod.ext q e)
    omega
   ·omega
structure Ins (a b m : Pnt) : Prop where
 on : has a b m 1
 na : m ≠ a
 nb : m ≠ b
theorem ins_pos {a b m : Pnt} (hab : a ≠ b) (h : Ins a b m) : 0 < pos a b m ∧ pos a b m < kk a b := by
 obtain ⟨h1, h2⟩ := pos_le hab h.on
 constructor
 ·rcases Int.lt_or_eq_of_le h1 with g | g
  ·exact g
  ·exact absurd (pos_inj hab h.on.1 (cr_a a b) (by rw [pos_a]; omega)) h.na
 ·rcases Int.lt_or_eq_of_le h2 with g | g
  ·exact g
  ·exact absurd (pos_inj hab h.on.1 (cr_b a b) (by rw [pos_b]; omega)) h.nb
theorem ins_hand {a b m x : Pnt} (hab : a ≠ b) (h : Ins a b m) : kk a b * cr x m a 1 = - (pos a b m) * cr a b x 1 ∧ kk a b * cr x m b 1 = (kk a b - pos a b m) * cr a b x 1 := by
 obtain ⟨e1, e2⟩ := on_line h.on.1
 have h0 := h.on.1
 have f : cr a b x 1 = (m.1 - x.1) * (b.2 - a.2) - (m.2 - x.2) * (b.1 - a.1) := by
  have := cr_from h0 x
  rw [← this]; grind
 have g1 : cr x m a 1 = (m.1 - x.1) * (a.2 - m.2) - (m.2 - x.2) * (a.1 - m.1) := by unfold cr; grind
 have g2 : cr x m b 1 = (m.1 - x.1) * (b.2 - m.2) - (m.2 - x.2) * (b.1 - m.1) := by unfold cr; grind
 have i1 : kk a b * (a.2 - m.2) = - (pos a b m) * (b.2 - a.2) := by grind
 have i2 : kk a b * (a.1 - m.1) = - (pos a b m) * (b.1 - a.1) := by grind
 have i3 : kk a b * (b.2 - m.2) = (kk a b - pos a b m) * (b.2 - a.2) := by grind
 have i4 : kk a b * (b.1 - m.1) = (kk a b - pos a b m) * (b.1 - a.1) := by grind
 rw [f, g1, g2]
 generalize kk a b = K at *
 generalize pos a b m = D at *
 generalize m.1 - x.1 = u at *
 generalize m.2 - x.2 = v at *
 constructor
 ·have : K * (u * (a.2 - m.2) - v * (a.1 - m.1)) = u * (K * (a.2 - m.2)) - v * (K * (a.1 - m.1)) := by grind
  rw [this, i1, i2]; grind
 ·have : K * (u * (b.2 - m.2) - v * (b.1 - m.1)) = u * (K * (b.2 - m.2)) - v * (K * (b.1 - m.1)) := by grind
  rw [this, i3, i4]; grind
theorem ins_y {a b m : Pnt} (hab : a ≠ b) (h : Ins a b m) : (a.2 < m.2 ∧ m.2 < b.2) ∨ (b.2 < m.2 ∧ m.2 < a.2) ∨ (a.2 = m.2 ∧ m.2 = b.2) := by
 have hk := kk_pos hab
 obtain ⟨p1, p2⟩ := ins_pos hab h
 obtain ⟨e1, e2⟩ := on_line h.on.1
 have i1 : kk a b * (m.2 - a.2) = pos a b m * (b.2 - a.2) := by grind
 have i3 : kk a b * (b.2 - m.2) = (kk a b - pos a b m) * (b.2 - a.2) := by grind
 have s1 := sgn_of hk i1
 have s2 := sgn_of hk i3
 have t1 := sgn_of p1 (rfl : pos a b m * (b.2 - a.2) = _)
 have t2 := sgn_of (show 0 < kk a b - pos a b m by omega) (rfl : (kk a b - pos a b m) * (b.2 - a.2) = _)
 omega
theorem local_left {a b m x : Pnt} (hab : a ≠ b) (h : Ins a b m) (hx : 0 < cr a b x 1) : (ray a b x 1 ^^ (dRs x m a ^^ dRs x m b)) = upS a b := by
 have hk := kk_pos hab
 obtain ⟨p1, p2⟩ := ins_pos hab h
 obtain ⟨e1, e2⟩ := ins_hand (x := x) hab h
 have s1 := sgn_of hk e1
 have s2 := sgn_of hk e2
 have t1 : - (pos a b m) * cr a b x 1 < 0 := np (by omega) hx
 have t2 : 0 < (kk a b - pos a b m) * cr a b x 1 := pp (by omega) hx
 have ca : cr x m a 1 < 0 := s1.2.1.2 t1
 have cb : 0 < cr x m b 1 := s2.1.2 t2
 have ca' : cr m x a 1 = - cr x m a 1 := cr_swap x m a 1
 have cb' : cr m x b 1 = - cr x m b 1 := cr_swap x m b 1
 have hy := ins_y hab h
 rw [ray_one]
 unfold dRs dR upS
 have flat : a.2 = b.2 → cr a b x 1 = (b.1 - a.1) * (x.2 - a.2) := by intro e; unfold cr; rw [e]; simp
 have hf : a.2 = b.2 → (b.1 < a.1 ↔ x.2 < a.2) ∧ x.2 ≠ a.2 := by
  intro e
  have := flat e
  rw [this] at hx
  have := (mulc' (b.1 - a.1) (x.2 - a.2)).2 hx
  omega
 clear e1 e2 s1 s2 t1 t2 flat
 rcases Int.lt_trichotomy x.2 m.2 with g | g | g
 ·rw [if_pos g, if_pos g]
  by_cases c1 : a.2 - x.2 ≤ 0 ∧ 0 < b.2 - x.2 ∧ 0 < cr a b x 1 ∨ b.2 - x.2 ≤ 0 ∧ 0 < a.2 - x.2 ∧ cr a b x 1 < 0 <;>
  by_cases c2 : x.2 < a.2 ∧ a.2 ≤ m.2 ∧ cr x m a 1 < 0 <;>
  by_cases c3 : x.2 < b.2 ∧ b.2 ≤ m.2 ∧ cr x m b 1 < 0 <;>
  by_cases c4 : a.2 < b.2 ∨ (a.2 = b.2 ∧ b.1 < a.1) <;>
  first | (simp only [c1, c2, c3, c4, decide_true, decide_false]; rfl) | (exfalso; omega)
 ·rw [if_neg (by omega), if_neg (by omega), if_neg (by omega), if_neg (by omega)]
  by_cases c1 : a.2 - x.2 ≤ 0 ∧ 0 < b.2 - x.2 ∧ 0 < cr a b x 1 ∨ b.2 - x.2 ≤ 0 ∧ 0 < a.2 - x.2 ∧ cr a b x 1 < 0 <;>
  by_cases c4 : a.2 < b.2 ∨ (a.2 = b.2 ∧ b.1 < a.1) <;>
  first | (simp only [c1, c4, decide_true, decide_false]; rfl) | (exfalso; omega)
 ·rw [if_neg (by omega), if_pos g, if_neg (by omega), if_pos g]
  by_cases c1 : a.2 - x.2 ≤ 0 ∧ 0 < b.2 - x.2 ∧ 0 < cr a b x 1 ∨ b.2 - x.2 ≤ 0 ∧ 0 < a.2 - x.2 ∧ cr a b x 1 < 0 <;>
  by_cases c2 : m.2 < a.2 ∧ a.2 ≤ x.2 ∧ cr m x a 1 < 0 <;>
  by_cases c3 : m.2 < b.2 ∧ b.2 ≤ x.2 ∧ cr m x b 1 < 0 <;>
  by_cases c4 : a.2 < b.2 ∨ (a.2 = b.2 ∧ b.1 < a.1) <;>
  first | (simp only [c1, c2, c3, c4, decide_true, decide_false]; rfl) | (exfalso; omega)
theorem ray_swap (a b x : Pnt) : ray a b x 1 = ray b a x 1 := by
 rw [ray_one, ray_one, cr_swap a b x 1]
 exact decide_eq_decide.2 (by omega)
theorem local_right {a b m x : Pnt} (hab : a ≠ b) (h : Ins a b m) (hx : cr a b x 1 < 0) : (ray a b x 1 ^^ (dRs x m a ^^ dRs x m b)) = !upS a b := by
 have := local_left (a := b) (b := a) (m := m) (x := x) (Ne.symm hab) ⟨has_swap.1 h.on, h.nb, h.na⟩ (by rw [cr_swap]; omega)
 rw [← upS_swap hab, ← this, ray_swap, Bool.xor_comm (dRs x m a)]
end Vd
end Go.Proofs.YtcclepohmhdpbabGreatDoor

namespace Go.Proofs.YtcclepohmhdpbabGreatDoor
set_option linter.all false
namespace Vd
theorem ptAt_app1 {p1 p2 : Ring} {i : Nat} (h : i < p1.length) : ptAt (p1 ++ p2) i = ptAt p1 i := by
 unfold ptAt; rw [List.getD_eq_getElem?_getD, List.getD_eq_getElem?_getD, List.getElem?_append_left h]
theorem ptAt_app2 {p1 p2 : Ring} (i : Nat) : ptAt (p1 ++ p2) (p1.length + i) = ptAt p2 i := by
 unfold ptAt; rw [List.getD_eq_getElem?_getD, List.getD_eq_getElem?_getD, List.getElem?_append_right (by omega), show p1.length + i - p1.length = i by omega]
theorem oth_at {p1 : Ring} {a b : Pnt} {p2 : Ring} {s : Seg} (h : s ∈ oth p1 a b p2) : ∃ j, j ≠ p1.length ∧ j + 1 < (p1 ++ a :: b :: p2).length ∧ s = (ptAt (p1 ++ a :: b :: p2) j, ptAt (p1 ++ a :: b :: p2) (j + 1)) := by
 unfold oth at h
 rcases List.mem_append.1 h with h | h
 ·obtain ⟨j, hj, e⟩ := segs_mem_at h
  have hj' : j + 1 < p1.length + 1 := by simpa using hj
  refine ⟨j, by omega, by simp; omega, ?_⟩
  have e2 : p1 ++ a :: b :: p2 = (p1 ++ [a]) ++ b :: p2 := by simp
  rw [e2, ptAt_app1 (p1 := p1 ++ [a]) (i := j) (by simp; omega), ptAt_app1 (p1 := p1 ++ [a]) (i := j + 1) (by simp; omega)]
  exact e
 ·obtain ⟨j, hj, e⟩ := segs_mem_at h
  refine ⟨p1.length + (1 + j), by omega, by simp at hj ⊢; omega, ?_⟩
  have e2 : p1 ++ a :: b :: p2 = (p1 ++ [a]) ++ b :: p2 := by simp
  have l1 : p1.length + (1 + j) = (p1 ++ [a]).length + j := by simp; omega
  rw [e2, l1, ptAt_app2, show (p1 ++ [a]).length + j + 1 = (p1 ++ [a]).length + (j + 1) by omega, ptAt_app2]
  exact e
theorem at_here (p1 : Ring) (a b : Pnt) (p2 : Ring) : ptAt (p1 ++ a :: b :: p2) p1.length = a ∧ ptAt (p1 ++ a :: b :: p2) (p1.length + 1) = b := by
 constructor
 ·have := ptAt_app2 (p1 := p1) (p2 := a :: b :: p2) 0
  simpa [ptAt] using this
 ·rw [ptAt_app2 1]; rfl
theorem VR.other {p1 : Ring} {a b : Pnt} {p2 : Ring} (h : VR (p1 ++ a :: b :: p2)) {s : Seg} (hs : s ∈ oth p1 a b p2) : Vd.meet a b s.1 s.2 = 0 ∨ (Vd.meet a b s.1 s.2 = 1 ∧ (s.1 = b ∨ s.2 = a)) := by
 obtain ⟨j, hj, hl, rfl⟩ := oth_at hs
 obtain ⟨ha, hb⟩ := at_here p1 a b p2
 have hlen : (p1 ++ a :: b :: p2).length = p1.length + 2 + p2.length := by simp; omega
 have heq := h.shut.eq
 rcases Nat.lt_or_ge j p1.length with g | g
 ·have k := h.meet (i := j) (j := p1.length) g (by omega)
  rw [ha, hb] at k
  unfold meetS at k
  simp only at k
  rw [meet_symm]
  simp only
  rw [k]
  unfold wantI
  by_cases c : j + 1 = p1.length ∨ (j = 0 ∧ p1.length + 1 = (p1 ++ a :: b :: p2).length - 1)
  ·rw [if_pos c]
   refine .inr ⟨rfl, ?_⟩
   rcases c with c | ⟨c, c'⟩
   ·right; rw [c]; exact ha
   ·left; rw [c, heq, ← c']; exact hb
  ·rw [if_neg c]; exact .inl rfl
 ·have k := h.meet (i := p1.length) (j := j) (by omega) hl
  rw [ha, hb] at k
  unfold meetS at k
  simp only at k ⊢
  rw [k]
  unfold wantI
  by_cases c : p1.length + 1 = j ∨ (p1.length = 0 ∧ j + 1 = (p1 ++ a :: b :: p2).length - 1)
  ·rw [if_pos c]
   refine .inr ⟨rfl, ?_⟩
   rcases c with c | ⟨c, c'⟩
   ·left; rw [← c]; exact hb
   ·right; rw [c', ← heq, ← c]; exact ha
  ·rw [if_neg c]; exact .inl rfl
theorem VR.here {p1 : Ring} {a b : Pnt} {p2 : Ring} (h : VR (p1 ++ a :: b :: p2)) : a ≠ b := h.long (a, b) (mem_oth.2 (.inl rfl))
theorem VR.oth_long {p1 : Ring} {a b : Pnt} {p2 : Ring} (h : VR (p1 ++ a :: b :: p2)) {s : Seg} (hs : s ∈ oth p1 a b p2) : s.1 ≠ s.2 := h.long s (mem_oth.2 (.inr hs))
theorem VR.off {p1 : Ring} {a b : Pnt} {p2 : Ring} (h : VR (p1 ++ a :: b :: p2)) {s : Seg} (hs : s ∈ oth p1 a b p2) {m : Pnt} (hm : Ins a b m) : ¬ has s.1 s.2 m 1 := by
 intro hh
 rcases h.other hs with e | ⟨e, c⟩
 ·exact meet_pt h.here (h.oth_long hs) hm.on hh e
 ·rcases c with c | c
  ·have := meet_two h.here (h.oth_long hs) hm.nb hm.on hh (has_b a b) (by rw [← c]; exact has_a _ _)
   omega
  ·have := meet_two h.here (h.oth_long hs) hm.na hm.on hh (has_a a b) (by rw [← c]; exact has_b _ _)
   omega
theorem ins_of {a b m m' c : Pnt} (hab : a ≠ b) (hm : Ins a b m) (hm' : Ins a b m') (h : has m m' c 1) : Ins a b c := by
 by_cases e : m = m'
 ·subst e
  have : c = m := by
   have h1 := h.2.1
   have h2 := h.2.2
   unfold btw at h1 h2
   exact Prod.ext (by omega) (by omega)
  rw [this]; exact hm
 ·obtain ⟨h0, hb⟩ := has_dir hab e hm.on.1 hm'.on.1 h
  obtain ⟨a1, a2⟩ := ins_pos hab hm
  obtain ⟨b1, b2⟩ := ins_pos hab hm'
  have q1 : 0 < pos a b c ∧ pos a b c < kk a b := by unfold btw at hb; omega
  refine ⟨has_pos hab h0 (by omega) (by omega), ?_, ?_⟩
  ·rintro rfl; rw [pos_a] at q1; omega
  ·rintro rfl; rw [pos_b] at q1; omega
theorem VR.along {p1 : Ring} {a b : Pnt} {p2 : Ring} (h : VR (p1 ++ a :: b :: p2)) {m m' : Pnt} (hm : Ins a b m) (hm' : Ins a b m') {s : Seg} (hs : s ∈ oth p1 a b p2) : Off m m' s.1 s.2 ∧ ¬ Xs m m' s.1 s.2 := by
 have hab := h.here
 have hk := kk_pos hab
 refine ⟨⟨fun k => h.off hs (ins_of hab hm hm' k) (has_a _ _), fun k => h.off hs (ins_of hab hm hm' k) (has_b _ _), h.off hs hm, h.off hs hm'⟩, ?_⟩
 rintro ⟨o1, o2⟩
 obtain ⟨a1, a2⟩ := ins_pos hab hm
 obtain ⟨b1, b2⟩ := ins_pos hab hm'
 have e1 := cr_on hm.on.1 s.1 s.2
 have e2 := cr_on hm'.on.1 s.1 s.2
 have o3 := opp_comb (by omega) (by omega) (by omega) (by omega) hk e1 e2 o2
 have d1 := cr_dir hm.on.1 hm'.on.1 s.1
 have d2 := cr_dir hm.on.1 hm'.on.1 s.2
 have s1 := sgn_of hk d1
 have s2 := sgn_of hk d2
 have m1 := mulc' (pos a b m' - pos a b m) (cr a b s.1 1)
 have m2 := mulc' (pos a b m' - pos a b m) (cr a b s.2 1)
 have o4 : Opp (cr a b s.1 1) (cr a b s.2 1) := by unfold Opp at o1 ⊢; omega
 have := meet_opp o4 o3
 rcases h.other hs with e | ⟨e, -⟩ <;> omega
theorem dRs_zero {p q v : Pnt} (h : cr p q v 1 = 0) : dRs p q v = false := by
 unfold dRs dR
 rw [cr_swap p q v 1, h]
 simp
def Lh (p1 : Ring) (a b : Pnt) (p2 : Ring) (m : Spot) : Bool := raysS (oth p1 a b p2) m ^^ upS a b
theorem VR.lh_same {p1 : Ring} {a b : Pnt} {p2 : Ring} (h : VR (p1 ++ a :: b :: p2)) {m m' : Pnt} (hm : Ins a b m) (hm' : Ins a b m') : Lh p1 a b p2 (m, 1) = Lh p1 a b p2 (m', 1) := by
 have k := oth_chain (shut_ends h.shut) (x := m) (m := m') (fun s hs => (h.along hm hm' hs).1) (fun s hs => (h.along hm hm' hs).2)
 have hab := h.here
 have hk := kk_pos hab
 have z1 : cr m m' a 1 = 0 := by
  have := cr_dir hm.on.1 hm'.on.1 a
  rw [cr_a, Int.mul_zero] at this
  rcases Int.mul_eq_zero.1 this with q | q <;> omega
 have z2 : cr m m' b 1 = 0 := by
  have := cr_dir hm.on.1 hm'.on.1 b
  rw [cr_b, Int.mul_zero] at this
  rcases Int.mul_eq_zero.1 this with q | q <;> omega
 rw [dRs_zero z1, dRs_zero z2] at k
 unfold Lh
 revert k
 generalize raysS (oth p1 a b p2) (m, 1) = x
 generalize raysS (oth p1 a b p2) (m', 1) = y
 generalize upS a b = z
 cases x <;> cases y <;> cases z <;> simp
structure Bes (p1 : Ring) (a b : Pnt) (p2 : Ring) (m x : Pnt) : Prop where
 ins : Ins a b m
 off : ∀ s ∈ oth p1 a b p2, Off x m s.1 s.2
 nx : ∀ s ∈ oth p1 a b p2, ¬ Xs x m s.1 s.2
theorem beside {p1 : Ring} {a b : Pnt} {p2 : Ring} (hr : Ends (p1 ++ a :: b :: p2)) (hab : a ≠ b) {m x : Pnt} (h : Bes p1 a b p2 m x) (hx : cr a b x 1 ≠ 0) :
  place (p1 ++ a :: b :: p2) (x, 1) = if (0 < cr a b x 1 ↔ Lh p1 a b p2 (m, 1) = true) then 2 else 0 := by
 have k := oth_chain hr h.off h.nx
 have hn : ∀ s ∈ segs (p1 ++ a :: b :: p2), ¬ has s.1 s.2 x 1 := by
  intro s hs
  rcases mem_oth.1 hs with rfl | hs
  ·exact fun q => hx q.1
  ·exact (h.off s hs).hp
 rw [place_rays (p := (x, 1)) hn, rays_oth]
 unfold Lh
 rcases Int.lt_or_gt_of_ne hx with g | g
 ·have l := local_right hab h.ins g
  have ng : ¬ 0 < cr a b x 1 := by omega
  simp only [ng, false_iff]
  revert k l
  generalize raysS (oth p1 a b p2) (x, 1) = x1
  generalize raysS (oth p1 a b p2) (m, 1) = x2
  generalize dRs x m a = x3
  generalize dRs x m b = x4
  generalize ray a b x 1 = x5
  generalize upS a b = x6
  revert x1 x2 x3 x4 x5 x6
  decide
 ·have l := local_left hab h.ins g
  simp only [g, true_iff]
  revert k l
  generalize raysS (oth p1 a b p2) (x, 1) = x1
  generalize raysS (oth p1 a b p2) (m, 1) = x2
  generalize dRs x m a = x3
  generalize dRs x m b = x4
  generalize ray a b x 1 = x5
  generalize upS a b = x6
  revert x1 x2 x3 x4 x5 x6
  decide
end Vd
end Go.Proofs.YtcclepohmhdpbabGreatDoor

namespace Go.Proofs.YtcclepohmhdpbabGreatDoor
set_option linter.all false
namespace Vd
theorem turn_hand {a b c m m' : Pnt} (hab : a ≠ b) (hbc : b ≠ c) (hm : Ins a b m) (hm' : Ins b c m') (hs : 0 < cr a b c 1) : 0 < cr b c m 1 ∧ 0 < cr a b m' 1 ∧ 0 < cr m m' a 1 ∧ 0 < cr m m' c 1 := by
 have k1 := kk_pos hab
 have k2 := kk_pos hbc
 obtain ⟨a1, a2⟩ := ins_pos hab hm
 obtain ⟨b1, b2⟩ := ins_pos hbc hm'
 have e1 := cr_on hm.on.1 b c
 have e2 := cr_on hm'.on.1 a b
 have r1 : cr b c a 1 = cr a b c 1 := by unfold cr; grind
 rw [cr_a, Int.mul_zero, Int.add_zero, r1] at e1
 rw [cr_b, Int.mul_zero, Int.zero_add] at e2
 have q1 : 0 < cr b c m 1 := (sgn_of k1 e1).1.2 (pp (by omega) hs)
 have q2 : 0 < cr a b m' 1 := (sgn_of k2 e2).1.2 (pp (by omega) hs)
 refine ⟨q1, q2, ?_, ?_⟩
 · -- m m' a, by the line from a to b
  have f := (ins_hand (x := m') hab hm).1
  rw [cr_swap m m' a 1] at f
  have : kk a b * cr m m' a 1 = pos a b m * cr a b m' 1 := by
   have e : kk a b * cr m m' a 1 = - (kk a b * -cr m m' a 1) := by grind
   rw [e, f]; grind
  exact (sgn_of k1 this).1.2 (pp a1 q2)
 ·have f := (ins_hand (x := m) hbc hm').2
  exact (sgn_of k2 f).1.2 (pp (by omega) q1)
theorem loc_left {a b c m m' : Pnt} (hab : a ≠ b) (hbc : b ≠ c) (hm : Ins a b m) (hm' : Ins b c m') (hs : 0 < cr a b c 1) :
  ((ray b c m 1 ^^ ray a b m' 1) ^^ ((dRs m m' a ^^ dRs m m' c) ^^ (upS a b ^^ upS b c))) = false := by
 obtain ⟨s1, s2, s3, s4⟩ := turn_hand hab hbc hm hm' hs
 have y1 := ins_y hab hm
 have y2 := ins_y hbc hm'
 have c3 : cr m' m a 1 = - cr m m' a 1 := cr_swap m m' a 1
 have c4 : cr m' m c 1 = - cr m m' c 1 := cr_swap m m' c 1
 have f1 : a.2 = b.2 → (a.1 < b.1 ↔ b.2 < c.2) ∧ b.2 ≠ c.2 ∧ a.1 ≠ b.1 := by
  intro e
  have : cr a b c 1 = (b.1 - a.1) * (c.2 - b.2) := by unfold cr; rw [e]; grind
  rw [this] at hs
  have := (mulc' (b.1 - a.1) (c.2 - b.2)).2 hs
  omega
 have f2 : b.2 = c.2 → (c.1 < b.1 ↔ a.2 < b.2) ∧ a.2 ≠ b.2 ∧ c.1 ≠ b.1 := by
  intro e
  have : cr a b c 1 = (b.2 - a.2) * (b.1 - c.1) := by unfold cr; rw [← e]; grind
  rw [this] at hs
  have := (mulc' (b.2 - a.2) (b.1 - c.1)).2 hs
  omega
 rw [ray_one, ray_one]
 unfold dRs dR upS
 have t1 : (b.2 - m.2 ≤ 0 ∧ 0 < c.2 - m.2 ∧ 0 < cr b c m 1 ∨ c.2 - m.2 ≤ 0 ∧ 0 < b.2 - m.2 ∧ cr b c m 1 < 0) ↔ (b.2 ≤ m.2 ∧ m.2 < c.2) := by omega
 have t2 : (a.2 - m'.2 ≤ 0 ∧ 0 < b.2 - m'.2 ∧ 0 < cr a b m' 1 ∨ b.2 - m'.2 ≤ 0 ∧ 0 < a.2 - m'.2 ∧ cr a b m' 1 < 0) ↔ (a.2 ≤ m'.2 ∧ m'.2 < b.2) := by omega
 have t3 : ¬ (m.2 < a.2 ∧ a.2 ≤ m'.2 ∧ cr m m' a 1 < 0) := by omega
 have t4 : ¬ (m.2 < c.2 ∧ c.2 ≤ m'.2 ∧ cr m m' c 1 < 0) := by omega
 have t5 : (m'.2 < a.2 ∧ a.2 ≤ m.2 ∧ cr m' m a 1 < 0) ↔ (m'.2 < a.2 ∧ a.2 ≤ m.2) := by omega
 have t6 : (m'.2 < c.2 ∧ c.2 ≤ m.2 ∧ cr m' m c 1 < 0) ↔ (m'.2 < c.2 ∧ c.2 ≤ m.2) := by omega
 simp only [t1, t2, t3, t4, t5, t6]
 clear t1 t2 t3 t4 t5 t6 s1 s2 s3 s4 c3 c4 hs
 rcases Int.lt_trichotomy m.2 m'.2 with g | g | g
 ·rw [if_pos g, if_pos g]
  by_cases c1 : b.2 ≤ m.2 ∧ m.2 < c.2 <;> by_cases c2 : a.2 ≤ m'.2 ∧ m'.2 < b.2 <;>
  by_cases c5 : a.2 < b.2 ∨ (a.2 = b.2 ∧ b.1 < a.1) <;> by_cases c6 : b.2 < c.2 ∨ (b.2 = c.2 ∧ c.1 < b.1) <;>
  first | (simp only [c1, c2, c5, c6, decide_true, decide_false]; rfl) | (exfalso; omega)
 ·rw [if_neg (by omega), if_neg (by omega), if_neg (by omega), if_neg (by omega)]
  by_cases c1 : b.2 ≤ m.2 ∧ m.2 < c.2 <;> by_cases c2 : a.2 ≤ m'.2 ∧ m'.2 < b.2 <;>
  by_cases c5 : a.2 < b.2 ∨ (a.2 = b.2 ∧ b.1 < a.1) <;> by_cases c6 : b.2 < c.2 ∨ (b.2 = c.2 ∧ c.1 < b.1) <;>
  first | (simp only [c1, c2, c5, c6, decide_true, decide_false]; rfl) | (exfalso; omega)
 ·rw [if_neg (by omega), if_pos g, if_neg (by omega), if_pos g]
  by_cases c1 : b.2 ≤ m.2 ∧ m.2 < c.2 <;> by_cases c2 : a.2 ≤ m'.2 ∧ m'.2 < b.2 <;>
  by_cases c3 : m'.2 < a.2 ∧ a.2 ≤ m.2 <;> by_cases c4 : m'.2 < c.2 ∧ c.2 ≤ m.2 <;>
  by_cases c5 : a.2 < b.2 ∨ (a.2 = b.2 ∧ b.1 < a.1) <;> by_cases c6 : b.2 < c.2 ∨ (b.2 = c.2 ∧ c.1 < b.1) <;>
  first | (simp only [c1, c2, c3, c4, c5, c6, decide_true, decide_false]; rfl) | (exfalso; omega)
theorem dRs_swap (p q v : Pnt) : dRs p q v = dRs q p v := by
 unfold dRs
 rcases Int.lt_trichotomy p.2 q.2 with h | h | h
 ·rw [if_pos h, if_neg (by omega), if_pos h]
 ·rw [if_neg (by omega), if_neg (by omega), if_neg (by omega), if_neg (by omega)]
 ·rw [if_neg (by omega), if_pos h, if_pos h]
theorem ins_swap {a b m : Pnt} (h : Ins a b m) : Ins b a m := ⟨has_swap.1 h.on, h.nb, h.na⟩
theorem ray_zero {a b x : Pnt} (h : cr a b x 1 = 0) : ray a b x 1 = false := by rw [ray_one, h]; simp
theorem up_line {a b c : Pnt} (hab : a ≠ b) (hbc : b ≠ c) (h : has a c b 1) : upS a b = upS b c := by
 obtain ⟨h0, h1, h2⟩ := h
 unfold btw at h1 h2
 simp only [Int.mul_one] at h1 h2
 unfold upS
 have n1 : a.1 = b.1 → a.2 ≠ b.2 := fun e q => hab (Prod.ext e q)
 have n2 : b.1 = c.1 → b.2 ≠ c.2 := fun e q => hbc (Prod.ext e q)
 have l1 : a.2 = b.2 → b.2 ≠ c.2 → a.1 = b.1 := by
  intro e hne
  have : cr a c b 1 = (a.2 - c.2) * (b.1 - a.1) := by unfold cr; rw [e]; grind
  rw [this] at h0
  rcases Int.mul_eq_zero.1 h0 with q | q <;> omega
 have l2 : b.2 = c.2 → a.2 ≠ b.2 → b.1 = c.1 := by
  intro e hne
  have : cr a c b 1 = (c.2 - a.2) * (c.1 - b.1) := by unfold cr; rw [e]; grind
  rw [this] at h0
  rcases Int.mul_eq_zero.1 h0 with q | q <;> omega
 exact decide_eq_decide.2 (by omega)
theorem loc_any {a b c m m' : Pnt} (hab : a ≠ b) (hbc : b ≠ c) (hm : Ins a b m) (hm' : Ins b c m') (hs : cr a b c 1 ≠ 0 ∨ has a c b 1) :
  ((ray b c m 1 ^^ ray a b m' 1) ^^ ((dRs m m' a ^^ dRs m m' c) ^^ (upS a b ^^ upS b c))) = false := by
 by_cases h0 : cr a b c 1 = 0
 ·have h : has a c b 1 := by
   rcases hs with q | q
   ·exact absurd h0 q
   ·exact q
  have k1 := kk_pos hab
  have k2 := kk_pos hbc
  have e1 := cr_on hm.on.1 b c
  have e2 := cr_on hm'.on.1 a b
  have r1 : cr b c a 1 = cr a b c 1 := by unfold cr; grind
  rw [cr_a, r1, h0, Int.mul_zero, Int.mul_zero, Int.add_zero] at e1
  rw [cr_b, h0, Int.mul_zero, Int.mul_zero, Int.add_zero] at e2
  have z1 : cr b c m 1 = 0 := by rcases Int.mul_eq_zero.1 e1 with q | q <;> omega
  have z2 : cr a b m' 1 = 0 := by rcases Int.mul_eq_zero.1 e2 with q | q <;> omega
  have z3 : cr m m' a 1 = 0 := by
   have f := cr_dir hm.on.1 z2 a
   rw [cr_a, Int.mul_zero] at f
   rcases Int.mul_eq_zero.1 f with q | q <;> omega
  have z4 : cr m m' c 1 = 0 := by
   have f := cr_dir hm.on.1 z2 c
   rw [h0, Int.mul_zero] at f
   rcases Int.mul_eq_zero.1 f with q | q <;> omega
  rw [ray_zero z1, ray_zero z2, dRs_zero z3, dRs_zero z4, up_line hab hbc h]
  simp
 ·rcases Int.lt_or_gt_of_ne h0 with g | g
  ·have := loc_left (a := c) (b := b) (c := a) (Ne.symm hbc) (Ne.symm hab) (ins_swap hm') (ins_swap hm) (by
    have : cr c b a 1 = - cr a b c 1 := by unfold cr; grind
    omega)
   rw [ray_swap b a m', ray_swap c b m, dRs_swap m' m, dRs_swap m' m, upS_swap hab, upS_swap hbc] at this
   revert this
   generalize ray b c m 1 = x1
   generalize ray a b m' 1 = x2
   generalize dRs m m' a = x3
   generalize dRs m m' c = x4
   generalize upS a b = x5
   generalize upS b c = x6
   revert x1 x2 x3 x4 x5 x6
   decide
  ·exact loc_left hab hbc hm hm' g
def oth2 (p1 : Ring) (a c : Pnt) (p2 : Ring) : List Seg := segs (p1 ++ [a]) ++ segs (c :: p2)
theorem oth_fst (p1 : Ring) (a b c : Pnt) (p2 : Ring) (x : Spot) : raysS (oth p1 a b (c :: p2)) x = (ray b c x.1 x.2 ^^ raysS (oth2 p1 a c p2) x) := by
 unfold oth oth2
 rw [segs_cons2, raysS_append, raysS_append, raysS_cons]
 generalize raysS (segs (p1 ++ [a])) x = u
 generalize raysS (segs (c :: p2)) x = v
 generalize ray (b, c).1 (b, c).2 x.1 x.2 = w
 cases u <;> cases v <;> cases w <;> rfl
theorem oth_snd (p1 : Ring) (a b c : Pnt) (p2 : Ring) (x : Spot) : raysS (oth (p1 ++ [a]) b c p2) x = (ray a b x.1 x.2 ^^ raysS (oth2 p1 a c p2) x) := by
 unfold oth oth2
 have e : segs (p1 ++ [a] ++ [b]) = segs (p1 ++ [a]) ++ [(a, b)] := by
  have := segs_split p1 a b []
  simpa [segs_one] using this
 rw [e, raysS_append, raysS_append, raysS_append, raysS_cons]
 show ((raysS (segs (p1 ++ [a])) x ^^ (ray a b x.1 x.2 ^^ false)) ^^ raysS (segs (c :: p2)) x) = _
 generalize raysS (segs (p1 ++ [a])) x = u
 generalize raysS (segs (c :: p2)) x = v
 generalize ray a b x.1 x.2 = w
 cases u <;> cases v <;> cases w <;> rfl
theorem oth2_chain {p1 : Ring} {a b c : Pnt} {p2 : Ring} (hr : Ends (p1 ++ a :: b :: c :: p2)) {x m : Pnt} (h : ∀ s ∈ oth2 p1 a c p2, Off x m s.1 s.2) (hx : ∀ s ∈ oth2 p1 a c p2, ¬ Xs x m s.1 s.2) :
  (raysS (oth2 p1 a c p2) (x, 1) ^^ raysS (oth2 p1 a c p2) (m, 1)) = (dRs x m a ^^ dRs x m c) := by
 have hr' : Ends (p1 ++ a :: c :: p2) := by
  unfold Ends at *
  rw [List.getLast?_append, List.getLast?_cons_cons] at hr ⊢
  rw [List.getLast?_cons_cons] at hr
  rw [← hr]
  cases p1 <;> rfl
 exact oth_chain hr' h hx
theorem lh_next {p1 : Ring} {a b c : Pnt} {p2 : Ring} (hr : Ends (p1 ++ a :: b :: c :: p2)) (hab : a ≠ b) (hbc : b ≠ c) (hs : cr a b c 1 ≠ 0 ∨ has a c b 1) {m m' : Pnt} (hm : Ins a b m) (hm' : Ins b c m')
  (h : ∀ s ∈ oth2 p1 a c p2, Off m m' s.1 s.2) (hx : ∀ s ∈ oth2 p1 a c p2, ¬ Xs m m' s.1 s.2) : Lh p1 a b (c :: p2) (m, 1) = Lh (p1 ++ [a]) b c p2 (m', 1) := by
 have k := oth2_chain hr h hx
 have l := loc_any hab hbc hm hm' hs
 unfold Lh
 rw [oth_fst, oth_snd]
 simp only
 revert k l
 generalize raysS (oth2 p1 a c p2) (m, 1) = x1
 generalize raysS (oth2 p1 a c p2) (m', 1) = x2
 generalize ray b c m 1 = x3
 generalize ray a b m' 1 = x4
 generalize dRs m m' a = x5
 generalize dRs m m' c = x6
 generalize upS a b = x7
 generalize upS b c = x8
 revert x1 x2 x3 x4 x5 x6 x7 x8
 decide
theorem xs_box {x y p q : Pnt} (h : Xs x y p q) : ∃ al be ga de : Int, 0 < al ∧ 0 < be ∧ 0 < ga ∧ 0 < de ∧ al + be = ga + de ∧ al * x.1 + be * y.1 = ga * p.1 + de * q.1 ∧ al * x.2 + be * y.2 = ga * p.2 + de * q.2 := by
 have i1 : cr x y q 1 - cr x y p 1 = cr p q x 1 - cr p q y 1 := by unfold cr; grind
 have i2 : cr p q y 1 * x.1 - cr p q x 1 * y.1 = cr x y p 1 * q.1 - cr x y q 1 * p.1 := by unfold cr; grind
 have i3 : cr p q y 1 * x.2 - cr p q x 1 * y.2 = cr x y p 1 * q.2 - cr x y q 1 * p.2 := by unfold cr; grind
 obtain ⟨o1, o2⟩ := h
 generalize cr x y q 1 = B at *
 generalize cr x y p 1 = A at *
 generalize cr p q x 1 = P at *
 generalize cr p q y 1 = Q at *
 unfold Opp at o1 o2
 rcases o2 with o2 | o2
 ·have hB : A > 0 ∧ B < 0 := by omega
  exact ⟨Q, -P, -B, A, by omega, by omega, by omega, by omega, by omega, by grind, by grind⟩
 ·have hB : A < 0 ∧ 0 < B := by omega
  exact ⟨-Q, P, B, -A, by omega, by omega, by omega, by omega, by omega, by grind, by grind⟩
theorem box_no {al be ga de x y p q : Int} (h1 : 0 < al) (h2 : 0 < be) (h3 : 0 < ga) (h4 : 0 < de) (e : al + be = ga + de) (f : al * x + be * y = ga * p + de * q) {t : Int} (hx : x < t) (hy : y < t) (hp : t ≤ p) (hq : t ≤ q) : False := by
 have a1 := Int.mul_lt_mul_of_pos_left hx h1
 have a2 := Int.mul_lt_mul_of_pos_left hy h2
 have a3 := Int.mul_le_mul_of_nonneg_left hp (Int.le_of_lt h3)
 have a4 := Int.mul_le_mul_of_nonneg_left hq (Int.le_of_lt h4)
 have : al * t + be * t = ga * t + de * t := by rw [← Int.add_mul, ← Int.add_mul, e]
 omega
theorem box_no' {al be ga de x y p q : Int} (h1 : 0 < al) (h2 : 0 < be) (h3 : 0 < ga) (h4 : 0 < de) (e : al + be = ga + de) (f : al * x + be * y = ga * p + de * q) {t : Int} (hx : t < x) (hy : t < y) (hp : p ≤ t) (hq : q ≤ t) : False :=
 box_no h1 h2 h3 h4 e (x := -x) (y := -y) (p := -p) (q := -q) (by grind) (t := -t) (by omega) (by omega) (by omega) (by omega)
def nrP (k : Int) (b u : Pnt) : Pnt := (k * b.1 + u.1, k * b.2 + u.2)
theorem cr_nr (k : Int) (g1 g2 b u : Pnt) : cr (sc k g1) (sc k g2) (nrP k b u) 1 = k * (k * cr g1 g2 b 1 + ((g2.1 - g1.1) * u.2 - (g2.2 - g1.2) * u.1)) := by unfold cr sc nrP; grind
def big (g : Seg) (u v : Pnt) : Nat := u.1.natAbs + u.2.natAbs + v.1.natAbs + v.2.natAbs + ((g.2.1 - g.1.1) * u.2 - (g.2.2 - g.1.2) * u.1).natAbs + ((g.2.1 - g.1.1) * v.2 - (g.2.2 - g.1.2) * v.1).natAbs
theorem mul_small {k x : Int} (hk : 0 < k) (h : -k < k * x ∧ k * x < k) : x = 0 := by
 rcases Int.lt_trichotomy x 0 with g | g | g
 ·have := Int.mul_le_mul_of_nonneg_left (show x ≤ -1 by omega) (Int.le_of_lt hk); omega
 ·exact g
 ·have := Int.mul_le_mul_of_nonneg_left (show 1 ≤ x by omega) (Int.le_of_lt hk); omega
theorem big_bd {g : Seg} {u v : Pnt} {k : Int} (hk : (big g u v : Int) < k) : 0 < k ∧ (-k < u.1 ∧ u.1 < k) ∧ (-k < u.2 ∧ u.2 < k) ∧ (-k < v.1 ∧ v.1 < k) ∧ (-k < v.2 ∧ v.2 < k) ∧
  (-k < (g.2.1 - g.1.1) * u.2 - (g.2.2 - g.1.2) * u.1 ∧ (g.2.1 - g.1.1) * u.2 - (g.2.2 - g.1.2) * u.1 < k) ∧ (-k < (g.2.1 - g.1.1) * v.2 - (g.2.2 - g.1.2) * v.1 ∧ (g.2.1 - g.1.1) * v.2 - (g.2.2 - g.1.2) * v.1 < k) := by
 unfold big at hk
 generalize (g.2.1 - g.1.1) * u.2 - (g.2.2 - g.1.2) * u.1 = U at *
 generalize (g.2.1 - g.1.1) * v.2 - (g.2.2 - g.1.2) * v.1 = V at *
 generalize u.1 = u1 at *
 generalize u.2 = u2 at *
 generalize v.1 = v1 at *
 generalize v.2 = v2 at *
 clear g
 refine ⟨by omega, ⟨by omega, by omega⟩, ⟨by omega, by omega⟩, ⟨by omega, by omega⟩, ⟨by omega, by omega⟩, ⟨by omega, by omega⟩, ⟨by omega, by omega⟩⟩
theorem near_vert {b u v c : Pnt} {k : Int} (hk0 : 0 < k) (hu1 : -k < u.1 ∧ u.1 < k) (hu2 : -k < u.2 ∧ u.2 < k) (hv1 : -k < v.1 ∧ v.1 < k) (hv2 : -k < v.2 ∧ v.2 < k) (hc : c ≠ b) : ¬ has (nrP k b u) (nrP k b v) (sc k c) 1 := by
 intro h
 have h1 := h.2.1
 have h2 := h.2.2
 unfold nrP sc btw at h1 h2
 simp only [Int.mul_one] at h1 h2
 have e1 : k * (c.1 - b.1) = k * c.1 - k * b.1 := by grind
 have e2 : k * (c.2 - b.2) = k * c.2 - k * b.2 := by grind
 have z1 := mul_small hk0 (x := c.1 - b.1) (by rw [e1]; omega)
 have z2 := mul_small hk0 (x := c.2 - b.2) (by rw [e2]; omega)
 exact hc (Prod.ext (by omega) (by omega))
theorem k_step {k x y : Int} (hk0 : 0 < k) (h : x < y) : k * x + k ≤ k * y := by
 have := Int.mul_le_mul_of_nonneg_left (show x + 1 ≤ y by omega) (Int.le_of_lt hk0)
 rw [Int.mul_add, Int.mul_one] at this
 exact this
theorem near_pt {g : Seg} {b t : Pnt} {k : Int} (hk0 : 0 < k) (h1 : -k < t.1 ∧ t.1 < k) (h2 : -k < t.2 ∧ t.2 < k)
  (hbe : (b.1 < g.1.1 ∧ b.1 < g.2.1) ∨ (g.1.1 < b.1 ∧ g.2.1 < b.1) ∨ (b.2 < g.1.2 ∧ b.2 < g.2.2) ∨ (g.1.2 < b.2 ∧ g.2.2 < b.2)) : ¬ has (sc k g.1) (sc k g.2) (nrP k b t) 1 := by
 intro h
 have f1 := h.2.1
 have f2 := h.2.2
 unfold nrP sc btw at f1 f2
 simp only [Int.mul_one] at f1 f2
 rcases hbe with ⟨q1, q2⟩ | ⟨q1, q2⟩ | ⟨q1, q2⟩ | ⟨q1, q2⟩
 ·have := k_step hk0 q1; have := k_step hk0 q2; clear f2 h2; omega
 ·have := k_step hk0 q1; have := k_step hk0 q2; clear f2 h2; omega
 ·have := k_step hk0 q1; have := k_step hk0 q2; clear f1 h1; omega
 ·have := k_step hk0 q1; have := k_step hk0 q2; clear f1 h1; omega
theorem near_xs {g : Seg} {b u v : Pnt} {k : Int} (hk0 : 0 < k) (hu1 : -k < u.1 ∧ u.1 < k) (hu2 : -k < u.2 ∧ u.2 < k) (hv1 : -k < v.1 ∧ v.1 < k) (hv2 : -k < v.2 ∧ v.2 < k)
  (hbe : (b.1 < g.1.1 ∧ b.1 < g.2.1) ∨ (g.1.1 < b.1 ∧ g.2.1 < b.1) ∨ (b.2 < g.1.2 ∧ b.2 < g.2.2) ∨ (g.1.2 < b.2 ∧ g.2.2 < b.2)) : ¬ Xs (nrP k b u) (nrP k b v) (sc k g.1) (sc k g.2) := by
 intro h
 obtain ⟨al, be, ga, de, p1, p2, p3, p4, e, f1, f2⟩ := xs_box h
 unfold nrP sc at f1 f2
 simp only at f1 f2
 rcases hbe with ⟨q1, q2⟩ | ⟨q1, q2⟩ | ⟨q1, q2⟩ | ⟨q1, q2⟩
 ·have := k_step hk0 q1; have := k_step hk0 q2
  exact box_no p1 p2 p3 p4 e f1 (t := k * b.1 + k) (by omega) (by omega) (by omega) (by omega)
 ·have := k_step hk0 q1; have := k_step hk0 q2
  exact box_no' p1 p2 p3 p4 e f1 (t := k * b.1 - k) (by omega) (by omega) (by omega) (by omega)
 ·have := k_step hk0 q1; have := k_step hk0 q2
  exact box_no p1 p2 p3 p4 e f2 (t := k * b.2 + k) (by omega) (by omega) (by omega) (by omega)
 ·have := k_step hk0 q1; have := k_step hk0 q2
  exact box_no' p1 p2 p3 p4 e f2 (t := k * b.2 - k) (by omega) (by omega) (by omega) (by omega)
theorem beyond {g : Seg} {b : Pnt} (hb : ¬ has g.1 g.2 b 1) (h0 : cr g.1 g.2 b 1 = 0) : (b.1 < g.1.1 ∧ b.1 < g.2.1) ∨ (g.1.1 < b.1 ∧ g.2.1 < b.1) ∨ (b.2 < g.1.2 ∧ b.2 < g.2.2) ∨ (g.1.2 < b.2 ∧ g.2.2 < b.2) := by
 by_cases c1 : btw (g.1.1 * 1) b.1 (g.2.1 * 1)
 ·by_cases c2 : btw (g.1.2 * 1) b.2 (g.2.2 * 1)
  ·exact absurd ⟨h0, c1, c2⟩ hb
  ·unfold btw at c2; omega
 ·unfold btw at c1; omega
theorem near_off {g : Seg} {b u v : Pnt} (hb : ¬ has g.1 g.2 b 1) {k : Int} (hk : (big g u v : Int) < k) : Off (nrP k b u) (nrP k b v) (sc k g.1) (sc k g.2) ∧ ¬ Xs (nrP k b u) (nrP k b v) (sc k g.1) (sc k g.2) := by
 obtain ⟨hk0, hu1, hu2, hv1, hv2, hU, hV⟩ := big_bd hk
 clear hk
 have n1 : g.1 ≠ b := fun e => hb (by rw [← e]; exact has_a _ _)
 have n2 : g.2 ≠ b := fun e => hb (by rw [← e]; exact has_b _ _)
 by_cases h0 : cr g.1 g.2 b 1 = 0
 ·have hbe := beyond hb h0
  exact ⟨⟨near_vert hk0 hu1 hu2 hv1 hv2 n1, near_vert hk0 hu1 hu2 hv1 hv2 n2, near_pt hk0 hu1 hu2 hbe, near_pt hk0 hv1 hv2 hbe⟩, near_xs hk0 hu1 hu2 hv1 hv2 hbe⟩
 ·have c1 := cr_nr k g.1 g.2 b u
  have c2 := cr_nr k g.1 g.2 b v
  generalize (g.2.1 - g.1.1) * u.2 - (g.2.2 - g.1.2) * u.1 = U at *
  generalize (g.2.1 - g.1.1) * v.2 - (g.2.2 - g.1.2) * v.1 = V at *
  have s1 := sgn_of hk0 (rfl : k * (k * cr g.1 g.2 b 1 + U) = _)
  have s2 := sgn_of hk0 (rfl : k * (k * cr g.1 g.2 b 1 + V) = _)
  rw [← c1] at s1
  rw [← c2] at s2
  have dom : (0 < cr g.1 g.2 b 1 → k ≤ k * cr g.1 g.2 b 1) ∧ (cr g.1 g.2 b 1 < 0 → k * cr g.1 g.2 b 1 ≤ -k) := by
   constructor
   ·intro q
    have := Int.mul_le_mul_of_nonneg_left (show 1 ≤ cr g.1 g.2 b 1 by omega) (Int.le_of_lt hk0)
    omega
   ·intro q
    have := Int.mul_le_mul_of_nonneg_left (show cr g.1 g.2 b 1 ≤ -1 by omega) (Int.le_of_lt hk0)
    omega
  clear c1 c2
  refine ⟨⟨near_vert hk0 hu1 hu2 hv1 hv2 n1, near_vert hk0 hu1 hu2 hv1 hv2 n2, fun h => ?_, fun h => ?_⟩, fun h => ?_⟩
  ·have := h.1
   clear hu1 hu2 hv1 hv2 s2
   omega
  ·have := h.1
   clear hu1 hu2 hv1 hv2 s1
   omega
  ·have o := h.2
   clear hu1 hu2 hv1 hv2
   unfold Opp at o; omega
end Vd
end Go.Proofs.YtcclepohmhdpbabGreatDoor

namespace Go.Proofs.YtcclepohmhdpbabGreatDoor
set_option linter.all false
namespace Vd
theorem upS_sc {k : Int} (hk : 0 < k) (a b : Pnt) : upS (sc k a) (sc k b) = upS a b := by
 have e1 : ∀ {x y : Int}, k * x < k * y ↔ x < y := fun {x y} => ⟨fun h => Int.lt_of_mul_lt_mul_left h (by omega), fun h => Int.mul_lt_mul_of_pos_left h hk⟩
 have e2 : ∀ {x y : Int}, k * x = k * y ↔ x = y := fun {x y} => ⟨fun h => Int.eq_of_mul_eq_mul_left (by omega) h, fun h => by rw [h]⟩
 unfold upS sc
 simp only [e1, e2]
theorem raysS_sc {k : Int} (hk : 0 < k) (x : Pnt) (w : Int) : ∀ l : List Seg, raysS (l.map (scS k)) (x, w) = raysS l (x, k * w) := by
  intro l
  induction l with
  | nil => rfl
  | cons s l ih =>
    rw [List.map_cons, raysS_cons, raysS_cons, ih]
    have : ray (scS k s).1 (scS k s).2 x w = ray s.1 s.2 x (k * w) := ray_sc hk s.1 s.2 x w
    simp only
    rw [this]
theorem raysS_spot {k : Int} (hk : 0 < k) (x : Pnt) (w : Int) : ∀ l : List Seg, raysS l (sc k x, k * w) = raysS l (x, w) := by
  intro l
  induction l with
  | nil => rfl
  | cons s l ih =>
    rw [raysS_cons, raysS_cons, ih]
    simp only
    rw [ray_spot hk]
theorem scR_append (k : Int) (p q : Ring) : scR k (p ++ q) = scR k p ++ scR k q := by simp [scR]
theorem scR_cons (k : Int) (a : Pnt) (q : Ring) : scR k (a :: q) = sc k a :: scR k q := rfl
theorem oth_sc (k : Int) (p1 : Ring) (a b : Pnt) (p2 : Ring) : oth (scR k p1) (sc k a) (sc k b) (scR k p2) = (oth p1 a b p2).map (scS k) := by
 unfold oth
 rw [List.map_append, ← segs_sc, ← segs_sc, scR_append]; rfl
theorem oth2_sc (k : Int) (p1 : Ring) (a b : Pnt) (p2 : Ring) : oth2 (scR k p1) (sc k a) (sc k b) (scR k p2) = (oth2 p1 a b p2).map (scS k) := oth_sc k p1 a b p2
theorem lh_sc {k : Int} (hk : 0 < k) (p1 : Ring) (a b : Pnt) (p2 : Ring) (x : Pnt) (w : Int) : Lh (scR k p1) (sc k a) (sc k b) (scR k p2) (x, w) = Lh p1 a b p2 (x, k * w) := by
 unfold Lh; rw [oth_sc, raysS_sc hk, upS_sc hk]
theorem lh_spot {k : Int} (hk : 0 < k) (p1 : Ring) (a b : Pnt) (p2 : Ring) (x : Pnt) (w : Int) : Lh p1 a b p2 (sc k x, k * w) = Lh p1 a b p2 (x, w) := by
 unfold Lh; rw [raysS_spot hk]
theorem ptAt_sc (k : Int) (r : Ring) {i : Nat} (h : i < r.length) : ptAt (scR k r) i = sc k (ptAt r i) := by
 unfold ptAt scR
 rw [List.getD_eq_getElem?_getD, List.getD_eq_getElem?_getD, List.getElem?_map, List.getElem?_eq_getElem h]; rfl
theorem vr_sc {k : Int} (hk : 0 < k) {r : Ring} (h : VR r) : VR (scR k r) := by
  have hl : (scR k r).length = r.length := by simp [scR]
  have h4 := h.shut.len
  refine ⟨⟨by rw [hl]; exact h4, ?_⟩, ?_, ?_⟩
  · rw [hl, ptAt_sc k r (by omega), ptAt_sc k r (by omega), h.shut.eq]
  · cases c : twice (scR k r) with
    | false => rfl
    | true =>
      obtain ⟨i, j, h1, h2, h3, e⟩ := twice_iff.1 c
      rw [hl] at h3
      rw [ptAt_sc k r (by omega), ptAt_sc k r (by omega)] at e
      have := twice_iff.2 ⟨i, j, h1, h2, h3, (sc_inj hk).1 e⟩
      rw [h.tw] at this; cases this
  · have e := h.self
    unfold selfR at e ⊢
    rw [segs_sc, List.length_map]
    rw [← e]
    refine anyI_congr fun j hj => anyI_congr fun i hi => ?_
    have at_ : ∀ {i : Nat}, i < (segs r).length → sAt ((segs r).map (scS k)) i = scS k (sAt (segs r) i) := by
      intro i hi
      unfold sAt
      rw [List.getD_eq_getElem?_getD, List.getD_eq_getElem?_getD, List.getElem?_map, List.getElem?_eq_getElem hi]; rfl
    rw [at_ (by omega), at_ hj]
    have : meetS (scS k (sAt (segs r) i)) (scS k (sAt (segs r) j)) = meetS (sAt (segs r) i) (sAt (segs r) j) := meet_sc hk _ _ _ _
    rw [this]
structure InsS (a b : Pnt) (m : Spot) : Prop where
 w : 0 < m.2
 on : has a b m.1 m.2
 na : m.1 ≠ sc m.2 a
 nb : m.1 ≠ sc m.2 b
theorem InsS.int {a b : Pnt} {m : Spot} (h : InsS a b m) {k : Int} (hk : 0 < k) : Ins (sc (k * m.2) a) (sc (k * m.2) b) (sc k m.1) := by
 have hkw := pp hk h.w
 have e : ∀ c : Pnt, sc (k * m.2) c = sc k (sc m.2 c) := by
  intro c; unfold sc; exact Prod.ext (by simp only; grind) (by simp only; grind)
 refine ⟨?_, ?_, ?_⟩
 ·rw [has_sc hkw, Int.mul_one]
  exact (has_spot hk a b m.1 m.2).2 h.on
 ·rw [e]; exact fun q => h.na ((sc_inj hk).1 q)
 ·rw [e]; exact fun q => h.nb ((sc_inj hk).1 q)
theorem VR.lh_spots {p1 : Ring} {a b : Pnt} {p2 : Ring} (h : VR (p1 ++ a :: b :: p2)) {m m' : Spot} (hm : InsS a b m) (hm' : InsS a b m') : Lh p1 a b p2 m = Lh p1 a b p2 m' := by
 have hk := pp hm.w hm'.w
 have h' := vr_sc hk h
 rw [scR_append, scR_cons, scR_cons] at h'
 have i1 := hm.int hm'.w
 have i2 := hm'.int hm.w
 rw [Int.mul_comm m'.2 m.2] at i1
 have key := h'.lh_same i1 i2
 rw [lh_sc hk, lh_sc hk, Int.mul_one] at key
 have e1 := lh_spot hm'.w p1 a b p2 m.1 m.2
 have e2 := lh_spot hm.w p1 a b p2 m'.1 m'.2
 rw [Int.mul_comm m'.2 m.2] at e1
 rw [← e1, ← e2, key]
theorem mid_ins {a b : Pnt} (hab : a ≠ b) : InsS a b (midOf a b) := by
 have ne : a.1 ≠ b.1 ∨ a.2 ≠ b.2 := by
  by_cases c : a.1 = b.1
  ·right; exact fun e => hab (Prod.ext c e)
  ·exact .inl c
 refine ⟨by show (0 : Int) < 2; omega, ⟨by rw [show (midOf a b).2 = 2 from rfl, cr_mid, cr_a, cr_b]; rfl, ?_, ?_⟩, ?_, ?_⟩
 ·unfold btw midOf; simp only; omega
 ·unfold btw midOf; simp only; omega
 ·intro e; unfold midOf sc at e; simp only [Prod.mk.injEq] at e; omega
 ·intro e; unfold midOf sc at e; simp only [Prod.mk.injEq] at e; omega
theorem near_ins {a b : Pnt} (hab : a ≠ b) {k : Int} (hk : 2 ≤ k) : Ins (sc k a) (sc k b) (nrP k b (a.1 - b.1, a.2 - b.2)) := by
 have hk0 : 0 < k := by omega
 have ne : a.1 - b.1 ≠ 0 ∨ a.2 - b.2 ≠ 0 := by
  by_cases c : a.1 - b.1 = 0
  ·right; exact fun e => hab (Prod.ext (by omega) (by omega))
  ·exact .inl c
 have bt : ∀ x y : Int, btw (x * k) (k * y + (x - y)) (y * k) := by
  intro x y
  have e1 : k * y = y * k := Int.mul_comm _ _
  have e2 : x * k - y * k = (x - y) * k := by grind
  unfold btw
  rcases Int.le_total 0 (x - y) with g | g
  ·have := Int.mul_le_mul_of_nonneg_left (show 1 ≤ k by omega) g
   right; omega
  ·have := Int.mul_le_mul_of_nonpos_left g (show 1 ≤ k by omega)
   left; omega
 have ow : ∀ {x : Int}, x ≠ 0 → k * x ≠ x := by
  intro x hx e
  have : (k - 1) * x = 0 := by grind
  rcases Int.mul_eq_zero.1 this with q | q <;> omega
 refine ⟨?_, ?_, ?_⟩
 ·rw [has_sc hk0, Int.mul_one]
  refine ⟨by unfold cr nrP; grind, ?_, ?_⟩
  ·exact bt a.1 b.1
  ·exact bt a.2 b.2
 ·intro e
  unfold nrP sc at e
  simp only [Prod.mk.injEq] at e
  have e1 : k * (a.1 - b.1) = a.1 - b.1 := by grind
  have e2 : k * (a.2 - b.2) = a.2 - b.2 := by grind
  rcases ne with q | q
  ·exact ow q e1
  ·exact ow q e2
 ·intro e
  unfold nrP sc at e
  simp only [Prod.mk.injEq] at e
  omega
theorem near_insS {a b : Pnt} (hab : a ≠ b) {k : Int} (hk : 2 ≤ k) : InsS a b (nrP k b (a.1 - b.1, a.2 - b.2), k) := by
 have h := near_ins hab hk
 have hk0 : 0 < k := by omega
 have := h.on
 rw [has_sc hk0, Int.mul_one] at this
 exact ⟨hk0, this, h.na, h.nb⟩
theorem no_back {a b c : Pnt} (hab : a ≠ b) (hbc : b ≠ c) (h : meet a b b c = 1) : cr a b c 1 ≠ 0 ∨ has a c b 1 := by
 by_cases h0 : cr a b c 1 = 0
 ·right
  have hk := kk_pos hab
  have three : ∀ z, z ≠ b → has a b z 1 → has b c z 1 → False := by
   intro z hz h1 h2
   have := meet_two hab hbc hz h1 h2 (has_b a b) (has_a b c)
   omega
  have pb := pos_b a b
  have pa := pos_a a b
  rcases Int.lt_or_le (kk a b) (pos a b c) with g | g
  · -- beyond
   have hac : a ≠ c := by rintro rfl; rw [pa] at g; omega
   refine (has_on hac (by omega)).2 ⟨by unfold cr at *; grind, ?_, ?_⟩
   ·have : dt a c b 1 = pos a b c := by unfold pos dt; grind
    omega
   ·have e1 : dt a c b 1 = pos a b c := by unfold pos dt; grind
    have e2 := dt_dir (cr_a a b) h0 c
    rw [pa, Int.sub_zero, ← kk_dt] at e2
    rw [e1, Int.mul_one]
    have : kk a b * pos a b c ≤ pos a b c * pos a b c := Int.mul_le_mul_of_nonneg_right (by omega) (by omega)
    rw [← e2] at this
    exact Int.le_of_mul_le_mul_left this hk
  ·exfalso
   rcases Int.lt_or_le (pos a b c) 0 with q | q
   · -- a between c and b
    refine three a hab (has_a a b) ?_
    refine (has_on hbc (by omega)).2 ⟨by unfold cr at *; grind, ?_, ?_⟩
    ·have e := dt_dir (cr_b a b) h0 a
     rw [pa, pb] at e
     have : 0 < kk a b * dt b c a 1 := by rw [e]; exact nng (by omega) (by omega)
     exact Int.le_of_lt ((sgn_of hk rfl).1.2 this)
    ·have e := dt_dir (cr_b a b) h0 a
     have e2 := dt_dir (cr_b a b) h0 c
     rw [pa, pb] at e
     rw [pb, ← kk_dt] at e2
     rw [Int.mul_one]
     have : kk a b * dt b c a 1 ≤ kk a b * kk b c := by
      rw [e, e2]; exact Int.mul_le_mul_of_nonpos_left (by omega) (by omega)
     exact Int.le_of_mul_le_mul_left this hk
   ·exact three c (Ne.symm hbc) (has_pos hab h0 q g) (has_b b c)
 ·exact .inl h0
theorem ex_big (f : Seg → Nat) : ∀ l : List Seg, ∃ k : Int, 2 ≤ k ∧ ∀ s ∈ l, (f s : Int) < k := by
  intro l
  induction l with
  | nil => exact ⟨2, by omega, by simp⟩
  | cons a t ih =>
    obtain ⟨k, h1, h2⟩ := ih
    refine ⟨k + f a + 1, by omega, fun s hs => ?_⟩
    rcases List.mem_cons.1 hs with rfl | hs
    · omega
    · have := h2 s hs; omega
theorem VR.vert {p1 : Ring} {a b c : Pnt} {p2 : Ring} (h : VR (p1 ++ a :: b :: c :: p2)) {s : Seg} (hs : s ∈ oth2 p1 a c p2) : ¬ has s.1 s.2 b 1 := by
 intro hh
 have hlen : (p1 ++ a :: b :: c :: p2).length = p1.length + 3 + p2.length := by simp; omega
 have hso : s ∈ oth p1 a b (c :: p2) := by
  unfold oth oth2 at *
  rw [segs_cons2]
  rcases List.mem_append.1 hs with q | q
  ·exact List.mem_append.2 (.inl q)
  ·exact List.mem_append.2 (.inr (by simp [q]))
 have hne : s.1 ≠ b := by
  intro e
  have hb : ptAt (p1 ++ a :: b :: c :: p2) (p1.length + 1) = b := (at_here p1 a b (c :: p2)).2
  have two : ∀ j, 1 ≤ j → j ≠ p1.length + 1 → j < (p1 ++ a :: b :: c :: p2).length → ptAt (p1 ++ a :: b :: c :: p2) j ≠ b := by
   intro j h1 h2 h3 e
   have : twice (p1 ++ a :: b :: c :: p2) = true := by
    rcases Nat.lt_or_ge j (p1.length + 1) with g | g
    ·exact twice_iff.2 ⟨j, p1.length + 1, h1, g, by omega, by rw [e, hb]⟩
    ·exact twice_iff.2 ⟨p1.length + 1, j, by omega, by omega, h3, by rw [e, hb]⟩
   rw [h.tw] at this; cases this
  have zero : ptAt (p1 ++ a :: b :: c :: p2) 0 ≠ b := by
   rw [h.shut.eq]
   exact two _ (by omega) (by omega) (by omega)
  unfold oth2 at hs
  rcases List.mem_append.1 hs with q | q
  ·obtain ⟨j, hj, rfl⟩ := segs_mem_at q
   have e2 : p1 ++ a :: b :: c :: p2 = (p1 ++ [a]) ++ b :: c :: p2 := by simp
   have hj' : j + 1 < p1.length + 1 := by simpa using hj
   simp only at e
   rw [← ptAt_app1 (p1 := p1 ++ [a]) (p2 := b :: c :: p2) (by omega), ← e2] at e
   rcases Nat.eq_zero_or_pos j with g | g
   ·rw [g] at e; exact zero e
   ·exact two j g (by omega) (by omega) e
  ·obtain ⟨j, hj, rfl⟩ := segs_mem_at q
   have e2 : p1 ++ a :: b :: c :: p2 = (p1 ++ [a, b]) ++ c :: p2 := by simp
   simp only at e
   rw [← ptAt_app2 (p1 := p1 ++ [a, b]) (p2 := c :: p2) j, ← e2] at e
   have hj' : j + 1 < p2.length + 1 := by simpa using hj
   exact two _ (by simp; omega) (by simp; omega) (by simp; omega) e
 rcases h.other hso with e | ⟨e, q | q⟩
 ·exact meet_pt h.here (h.oth_long hso) (has_b a b) hh e
 ·exact hne q
 ·have := meet_two h.here (h.oth_long hso) (Ne.symm h.here) (has_b a b) hh (has_a a b) (by rw [← q]; exact has_b _ _)
  omega
theorem VR.next_long {p1 : Ring} {a b c : Pnt} {p2 : Ring} (h : VR (p1 ++ a :: b :: c :: p2)) : b ≠ c := by
 refine h.long (b, c) (mem_oth.2 (.inr ?_))
 unfold oth; rw [segs_cons2]; simp
theorem VR.back {p1 : Ring} {a b c : Pnt} {p2 : Ring} (h : VR (p1 ++ a :: b :: c :: p2)) : cr a b c 1 ≠ 0 ∨ has a c b 1 := by
 have hso : (b, c) ∈ oth p1 a b (c :: p2) := by unfold oth; rw [segs_cons2]; simp
 rcases h.other hso with e | ⟨e, -⟩
 ·exact absurd e (meet_pt h.here h.next_long (has_b a b) (has_a b c))
 ·exact no_back h.here h.next_long e
theorem VR.lh_next {p1 : Ring} {a b c : Pnt} {p2 : Ring} (h : VR (p1 ++ a :: b :: c :: p2)) : Lh p1 a b (c :: p2) (midOf a b) = Lh (p1 ++ [a]) b c p2 (midOf b c) := by
 have hab := h.here
 have hbc := h.next_long
 obtain ⟨k, hk, hbig⟩ := ex_big (fun s => big s (a.1 - b.1, a.2 - b.2) (c.1 - b.1, c.2 - b.2)) (oth2 p1 a c p2)
 have hk0 : 0 < k := by omega
 have i1 := near_ins hab hk
 have i2 := ins_swap (near_ins (Ne.symm hbc) hk)
 have key := Vd.lh_next (p1 := scR k p1) (a := sc k a) (b := sc k b) (c := sc k c) (p2 := scR k p2) (by
   have := ends_sc (k := k) (shut_ends h.shut)
   rw [scR_append, scR_cons, scR_cons, scR_cons] at this
   exact this) (fun e => hab ((sc_inj hk0).1 e)) (fun e => hbc ((sc_inj hk0).1 e)) (by
   rcases h.back with q | q
   ·left
    rw [cr_sc1]
    intro e
    rcases Int.mul_eq_zero.1 e with z | z
    ·have := pp hk0 hk0; omega
    ·exact q z
   ·right; exact (has_sc1 hk0 a c b).2 q) i1 i2 (by
   intro s hs
   rw [oth2_sc] at hs
   obtain ⟨g, hg, rfl⟩ := List.mem_map.1 hs
   exact (near_off (h.vert hg) (hbig g hg)).1) (by
   intro s hs
   rw [oth2_sc] at hs
   obtain ⟨g, hg, rfl⟩ := List.mem_map.1 hs
   exact (near_off (h.vert hg) (hbig g hg)).2)
 have h2 : VR ((p1 ++ [a]) ++ b :: c :: p2) := by simpa using h
 rw [h.lh_spots (mid_ins hab) (near_insS hab hk)]
 have n2 := near_insS (Ne.symm hbc) hk
 rw [h2.lh_spots (mid_ins hbc) (m' := (nrP k b (c.1 - b.1, c.2 - b.2), k)) ⟨n2.w, has_swap.1 n2.on, n2.nb, n2.na⟩]
 have e1 := lh_sc hk0 p1 a b (c :: p2) (nrP k b (a.1 - b.1, a.2 - b.2)) 1
 have e2 := lh_sc hk0 (p1 ++ [a]) b c p2 (nrP k b (c.1 - b.1, c.2 - b.2)) 1
 rw [Int.mul_one] at e1 e2
 rw [← e1, ← e2]
 rw [scR_append, scR_cons]
 exact key
def LhI (r : Ring) (i : Nat) : Bool := Lh (r.take i) (ptAt r i) (ptAt r (i + 1)) (r.drop (i + 2)) (midOf (ptAt r i) (ptAt r (i + 1)))
theorem split_at {r : Ring} {i : Nat} (h : i + 1 < r.length) : r = r.take i ++ ptAt r i :: ptAt r (i + 1) :: r.drop (i + 2) := by
 have e1 : r.drop i = r[i] :: r.drop (i + 1) := List.drop_eq_getElem_cons (by omega)
 have e2 : r.drop (i + 1) = r[i + 1] :: r.drop (i + 2) := List.drop_eq_getElem_cons h
 have p1 : ptAt r i = r[i] := by unfold ptAt; rw [List.getD_eq_getElem?_getD, List.getElem?_eq_getElem (by omega)]; rfl
 have p2 : ptAt r (i + 1) = r[i + 1] := by unfold ptAt; rw [List.getD_eq_getElem?_getD, List.getElem?_eq_getElem h]; rfl
 conv => lhs; rw [← List.take_append_drop i r, e1, e2]
 rw [p1, p2]
theorem VR.lhI_next {r : Ring} (h : VR r) {i : Nat} (hi : i + 2 < r.length) : LhI r i = LhI r (i + 1) := by
 have e := split_at (r := r) (i := i) (by omega)
 have e2 : r.drop (i + 2) = ptAt r (i + 2) :: r.drop (i + 3) := by
  have : r.drop (i + 2) = r[i + 2] :: r.drop (i + 3) := List.drop_eq_getElem_cons hi
  rw [this]
  congr 1
  unfold ptAt; rw [List.getD_eq_getElem?_getD, List.getElem?_eq_getElem hi]; rfl
 have h' : VR (r.take i ++ ptAt r i :: ptAt r (i + 1) :: ptAt r (i + 2) :: r.drop (i + 3)) := by rw [← e2, ← e]; exact h
 have key := h'.lh_next
 unfold LhI
 rw [e2, key]
 congr 1
 have : r.take (i + 1) = r.take i ++ [ptAt r i] := by
  rw [List.take_succ, ptAt_get (by omega)]; rfl
 rw [this]
theorem VR.lhI_all {r : Ring} (h : VR r) : ∀ i, i + 1 < r.length → LhI r i = LhI r 0 := by
 intro i
 induction i with
 | zero => intro _; rfl
 | succ i ih => intro hi; rw [← h.lhI_next hi, ih (by omega)]
end Vd
end Go.Proofs.YtcclepohmhdpbabGreatDoor

namespace Go.Proofs.YtcclepohmhdpbabGreatDoor
set_option linter.all false
namespace Vd
def xx (u v : Pnt) : Int := u.1 * v.2 - u.2 * v.1
def dd (u v : Pnt) : Int := u.1 * v.1 + u.2 * v.2
def Par (u v : Pnt) : Prop := xx u v = 0 ∧ 0 < dd u v
def Bt (u w a : Pnt) : Prop := (xx u a < 0 ∧ 0 < xx w a ∧ xx u w < 0) ∨ (0 < xx u a ∧ xx w a < 0 ∧ 0 < xx u w)
def Lt (a1 a2 u : Pnt) : Prop := if 0 < xx a2 a1 then 0 < xx u a1 ∧ 0 < xx a2 u else 0 < xx u a1 ∨ 0 < xx a2 u
instance (u w a : Pnt) : Decidable (Bt u w a) := by unfold Bt; infer_instance
instance (a b u : Pnt) : Decidable (Lt a b u) := by unfold Lt; infer_instance
theorem xx_swap (u v : Pnt) : xx u v = - xx v u := by unfold xx; grind
def S3 : List Int := [-1, 0, 1]
theorem sg_in (x : Int) : sg x ∈ S3 := by unfold sg S3; split <;> (try split) <;> simp
theorem sg_p (x : Int) : 0 < sg x ↔ 0 < x := by unfold sg; split <;> (try split) <;> omega
theorem sg_n (x : Int) : sg x < 0 ↔ x < 0 := by unfold sg; split <;> (try split) <;> omega
theorem sgm (x : Int) : sg (-x) = - sg x := by unfold sg; split <;> split <;> (try split) <;> (try split) <;> omega
theorem sg_1 {x : Int} (h : 0 < x) : sg x = 1 := by unfold sg; rw [if_pos h]
theorem sg_m1 {x : Int} (h : x < 0) : sg x = -1 := by unfold sg; rw [if_neg (by omega), if_pos h]
theorem sg_0 : sg 0 = 0 := rfl
theorem sg_mul2 (x y : Int) : sg (x * y) = sg x * sg y := by
 rcases Int.lt_trichotomy x 0 with h | h | h
 ·rcases Int.lt_trichotomy y 0 with k | k | k
  ·rw [sg_1 (nng h k), sg_m1 h, sg_m1 k]; rfl
  ·rw [k, Int.mul_zero, sg_0, Int.mul_zero]
  ·rw [sg_m1 (np h k), sg_m1 h, sg_1 k]; rfl
 ·rw [h, Int.zero_mul, sg_0, Int.zero_mul]
 ·rcases Int.lt_trichotomy y 0 with k | k | k
  ·rw [sg_m1 (pn h k), sg_1 h, sg_m1 k]; rfl
  ·rw [k, Int.mul_zero, sg_0, Int.mul_zero]
  ·rw [sg_1 (pp h k), sg_1 h, sg_1 k]; rfl
def okP (s p q : Int) : Bool := (!(decide (0 < p ∧ q ≤ 0)) || decide (0 < s)) && (!(decide (0 ≤ p ∧ q < 0)) || decide (0 < s)) && (!(decide (p < 0 ∧ 0 ≤ q)) || decide (s < 0)) && (!(decide (p ≤ 0 ∧ 0 < q)) || decide (s < 0)) && (!(decide (p = 0 ∧ q = 0)) || decide (s = 0))
def okZ (al om p1 q1 p2 q2 : Int) : Bool := (!(decide (p1 = 0)) || decide (p2 = -al ∧ om = q1)) && (!(decide (p2 = 0)) || decide (p1 = -al ∧ om = -q2)) && (!(decide (q1 = 0)) || decide (q2 = -al ∧ om = -p1)) && (!(decide (q2 = 0)) || decide (q1 = -al ∧ om = p2)) && (!(decide (al = 0)) || decide (p1 = p2 ∧ q1 = q2)) && (!(decide (om = 0)) || decide (p1 = -q1 ∧ p2 = -q2))
def sL (al p1 p2 : Int) : Bool := if 0 < al then decide (0 < p1) && decide (0 < p2) else decide (0 < p1) || decide (0 < p2)
def sB (p q om : Int) : Bool := (decide (p < 0) && decide (0 < q) && decide (om < 0)) || (decide (0 < p) && decide (q < 0) && decide (0 < om))
def chk (al om p1 q1 p2 q2 : Int) : Bool := !(okP (al * om) (p1 * q2) (q1 * p2) && okZ al om p1 q1 p2 q2) ||
 ((decide (om = 0) || ((sB p1 q1 om ^^ sB (-p2) (-q2) om) == (sL al p1 p2 ^^ sL al q1 q2))) && ((sL al p1 p2 ^^ sL al q1 q2) == (sL (-om) (-p1) q1 ^^ sL (-om) p2 (-q2))))
theorem chk_all : (S3.all fun al => S3.all fun om => S3.all fun p1 => S3.all fun q1 => S3.all fun p2 => S3.all fun q2 => chk al om p1 q1 p2 q2) = true := by decide +kernel
theorem chk_of {al om p1 q1 p2 q2 : Int} (h1 : al ∈ S3) (h2 : om ∈ S3) (h3 : p1 ∈ S3) (h4 : q1 ∈ S3) (h5 : p2 ∈ S3) (h6 : q2 ∈ S3) : chk al om p1 q1 p2 q2 = true :=
 List.all_eq_true.1 (List.all_eq_true.1 (List.all_eq_true.1 (List.all_eq_true.1 (List.all_eq_true.1 (List.all_eq_true.1 chk_all al h1) om h2) p1 h3) q1 h4) p2 h5) q2 h6
theorem okP_of {s p q : Int} (e : s = p - q) : okP (sg s) (sg p) (sg q) = true := by
 unfold okP
 have a1 := sg_p s; have a2 := sg_n s; have b1 := sg_p p; have b2 := sg_n p; have c1 := sg_p q; have c2 := sg_n q
 simp only [Bool.and_eq_true, Bool.or_eq_true, Bool.not_eq_true', decide_eq_false_iff_not, decide_eq_true_eq]
 omega
theorem dd_pos {u : Pnt} (h : u ≠ (0, 0)) : 0 < dd u u := by
 unfold dd
 have h1 := sq_nn u.1
 have h2 := sq_nn u.2
 rcases Int.lt_or_eq_of_le (Int.add_nonneg h1 h2) with g | g
 ·exact g
 ·exfalso
  apply h
  have e1 : u.1 * u.1 = 0 := by omega
  have e2 : u.2 * u.2 = 0 := by omega
  exact Prod.ext ((Int.mul_eq_zero.1 e1).elim id id) ((Int.mul_eq_zero.1 e2).elim id id)
theorem anti_dd {u a : Pnt} (hu : u ≠ (0, 0)) (ha : a ≠ (0, 0)) (h0 : xx u a = 0) (hn : ¬ Par u a) : dd u a < 0 := by
 have e : dd u a * dd u a = dd u u * dd a a := by unfold dd xx at *; grind
 have := pp (dd_pos hu) (dd_pos ha)
 rcases Int.lt_trichotomy (dd u a) 0 with g | g | g
 ·exact g
 ·rw [g] at e; omega
 ·exact absurd ⟨h0, g⟩ hn
theorem anti_x {u a : Pnt} (hu : u ≠ (0, 0)) (ha : a ≠ (0, 0)) (h0 : xx u a = 0) (hn : ¬ Par u a) (v : Pnt) : sg (xx v u) = - sg (xx v a) := by
 have hd := anti_dd hu ha h0 hn
 have hp := dd_pos ha
 have e : dd a a * xx v u = dd u a * xx v a := by unfold dd xx at *; grind
 have k : sg (dd a a * xx v u) = sg (dd u a * xx v a) := by rw [e]
 rw [sg_mul2, sg_mul2] at k
 have k1 : sg (dd a a) = 1 := sg_1 hp
 have k2 : sg (dd u a) = -1 := sg_m1 hd
 rw [k1, k2] at k
 omega
structure Four (a1 a2 u w : Pnt) : Prop where
 n1 : a1 ≠ (0, 0)
 n2 : a2 ≠ (0, 0)
 nu : u ≠ (0, 0)
 nw : w ≠ (0, 0)
 aa : ¬ Par a1 a2
 u1 : ¬ Par u a1
 u2 : ¬ Par u a2
 w1 : ¬ Par w a1
 w2 : ¬ Par w a2
theorem Par.symm {u v : Pnt} (h : Par u v) : Par v u := ⟨by rw [xx_swap, h.1]; rfl, by have := h.2; unfold dd at *; grind⟩
theorem four_chk {a1 a2 u w : Pnt} (h : Four a1 a2 u w) (huw : ¬ Par u w) : chk (sg (xx a2 a1)) (sg (xx u w)) (sg (xx u a1)) (sg (xx w a1)) (sg (xx a2 u)) (sg (xx a2 w)) = true ∧ okP (sg (xx a2 a1) * sg (xx u w)) (sg (xx u a1) * sg (xx a2 w)) (sg (xx w a1) * sg (xx a2 u)) = true ∧ okZ (sg (xx a2 a1)) (sg (xx u w)) (sg (xx u a1)) (sg (xx w a1)) (sg (xx a2 u)) (sg (xx a2 w)) = true := by
 refine ⟨chk_of (sg_in _) (sg_in _) (sg_in _) (sg_in _) (sg_in _) (sg_in _), ?_, ?_⟩
 ·rw [← sg_mul2, ← sg_mul2, ← sg_mul2]
  exact okP_of (by unfold xx; grind)
 ·have z : ∀ x : Int, sg x = 0 → x = 0 := fun x hx => (sg_zero x).1 hx
  have sw : ∀ p q : Pnt, sg (xx p q) = - sg (xx q p) := fun p q => by rw [xx_swap, sgm]
  unfold okZ
  simp only [Bool.and_eq_true, Bool.or_eq_true, Bool.not_eq_true', decide_eq_false_iff_not, decide_eq_true_eq]
  refine ⟨⟨⟨⟨⟨?_, ?_⟩, ?_⟩, ?_⟩, ?_⟩, ?_⟩
  ·by_cases e : sg (xx u a1) = 0
   ·right
    have k := anti_x h.nu h.n1 (z _ e) h.u1
    have k1 := k a2
    have k2 := k w
    have s1 := sw u w
    exact ⟨k1, by omega⟩
   ·exact .inl e
  ·by_cases e : sg (xx a2 u) = 0
   ·right
    have k := anti_x h.nu h.n2 (by rw [xx_swap, z _ e]; rfl) h.u2
    have k1 := k a1
    have k2 := k w
    have s1 := sw u a1
    have s2 := sw a2 a1
    have s3 := sw u w
    have s4 := sw a2 w
    exact ⟨by omega, by omega⟩
   ·exact .inl e
  ·by_cases e : sg (xx w a1) = 0
   ·right
    have k := anti_x h.nw h.n1 (z _ e) h.w1
    have k1 := k a2
    have k2 := k u
    exact ⟨by omega, by omega⟩
   ·exact .inl e
  ·by_cases e : sg (xx a2 w) = 0
   ·right
    have k := anti_x h.nw h.n2 (by rw [xx_swap, z _ e]; rfl) h.w2
    have k1 := k a1
    have k2 := k u
    have s1 := sw w a1
    have s2 := sw a2 a1
    have s3 := sw a2 u
    exact ⟨by omega, by omega⟩
   ·exact .inl e
  ·by_cases e : sg (xx a2 a1) = 0
   ·right
    have k := anti_x h.n1 h.n2 (by rw [xx_swap, z _ e]; rfl) h.aa
    have k1 := k u
    have k2 := k w
    have s1 := sw a2 u
    have s2 := sw a2 w
    exact ⟨by omega, by omega⟩
   ·exact .inl e
  ·by_cases e : sg (xx u w) = 0
   ·right
    have k := anti_x h.nu h.nw (z _ e) huw
    have k1 := k a1
    have k2 := k a2
    have s1 := sw u a1
    have s2 := sw w a1
    exact ⟨by omega, by omega⟩
   ·exact .inl e
theorem sL_lt (a1 a2 u : Pnt) : sL (sg (xx a2 a1)) (sg (xx u a1)) (sg (xx a2 u)) = decide (Lt a1 a2 u) := by
 apply Bool.eq_iff_iff.2
 rw [decide_eq_true_eq]
 unfold sL Lt
 have h1 := sg_p (xx a2 a1); have h2 := sg_p (xx u a1); have h3 := sg_p (xx a2 u)
 by_cases e : 0 < xx a2 a1
 ·rw [if_pos (h1.2 e), if_pos e]
  simp only [h2, h3, Bool.and_eq_true, decide_eq_true_eq]
 ·rw [if_neg (fun k => e (h1.1 k)), if_neg e]
  simp only [h2, h3, Bool.or_eq_true, decide_eq_true_eq]
theorem sB_bt (u w a : Pnt) : sB (sg (xx u a)) (sg (xx w a)) (sg (xx u w)) = decide (Bt u w a) := by
 apply Bool.eq_iff_iff.2
 rw [decide_eq_true_eq]
 unfold sB Bt
 simp only [sg_p, sg_n, Bool.or_eq_true, Bool.and_eq_true, decide_eq_true_eq, and_assoc]
theorem left_bt {a1 a2 u w : Pnt} (h : Four a1 a2 u w) (hx : xx u w ≠ 0) : (decide (Bt u w a1) ^^ decide (Bt u w a2)) = (decide (Lt a1 a2 u) ^^ decide (Lt a1 a2 w)) := by
 obtain ⟨h1, h2, h3⟩ := four_chk h (fun p => hx p.1)
 unfold chk at h1
 rw [h2, h3] at h1
 have hz : ¬ sg (xx u w) = 0 := fun e => hx ((sg_zero _).1 e)
 simp only [Bool.and_true, Bool.not_true, Bool.false_or, Bool.and_eq_true, Bool.or_eq_true, decide_eq_true_eq, beq_iff_eq, hz, false_or] at h1
 have k := h1.1
 rw [← sgm, ← sgm, ← xx_swap u a2, ← xx_swap w a2, sB_bt, sB_bt, sL_lt, sL_lt] at k
 exact k
theorem left_sym {a1 a2 u w : Pnt} (h : Four a1 a2 u w) (huw : ¬ Par u w) : (decide (Lt a1 a2 u) ^^ decide (Lt a1 a2 w)) = (decide (Lt u w a1) ^^ decide (Lt u w a2)) := by
 obtain ⟨h1, h2, h3⟩ := four_chk h huw
 unfold chk at h1
 rw [h2, h3] at h1
 simp only [Bool.and_true, Bool.not_true, Bool.false_or, Bool.and_eq_true, beq_iff_eq] at h1
 have k := h1.2
 rw [← sgm, ← sgm, ← sgm, ← xx_swap w u, ← xx_swap a1 u, ← xx_swap w a2, sL_lt, sL_lt, sL_lt, sL_lt] at k
 exact k
end Vd
end Go.Proofs.YtcclepohmhdpbabGreatDoor
