import Derived.Test.YtcclepohmhdpbabVdK
import Derived.Test.YtcclepohmhdpbabPlD
/- VALIDITY, PLAINLY: a spot within two segments: they cross or lie along each other (G6). -/
namespace Go.Proofs.Ytcclepohmhdpbab
set_option linter.all false
namespace Vd
/-- Strictly within: neither end. -/
def Inn (a b m : Pnt) : Prop := has a b m 2 ∧ m ≠ (a.1 * 2, a.2 * 2) ∧ m ≠ (b.1 * 2, b.2 * 2)
theorem inn_pos {a b m : Pnt} (hab : a ≠ b) (h : Inn a b m) : 0 < dt a b m 2 ∧ dt a b m 2 < kk a b * 2 := by
  have hk := kk_pos hab
  obtain ⟨h0, h1, h2⟩ := (has_on hab (by omega)).1 h.1
  have e1 : dt a b m 2 * (b.1 - a.1) = (m.1 - a.1 * 2) * kk a b := by unfold cr at h0; unfold dt kk; grind
  have e2 : dt a b m 2 * (b.2 - a.2) = (m.2 - a.2 * 2) * kk a b := by unfold cr at h0; unfold dt kk; grind
  have z : ∀ t : Int, 0 = t * kk a b → t = 0 := by
    intro t h
    rcases Int.mul_eq_zero.1 h.symm with h | h
    · exact h
    · omega
  constructor
  · rcases Int.lt_or_eq_of_le h1 with g | g
    · exact g
    · exfalso
      rw [← g, Int.zero_mul] at e1 e2
      have := z _ e1
      have := z _ e2
      exact h.2.1 (Prod.ext (by simp only; omega) (by simp only; omega))
  · rcases Int.lt_or_eq_of_le h2 with g | g
    · exact g
    · exfalso
      have f1 : 0 = (m.1 - b.1 * 2) * kk a b := by rw [g] at e1; grind
      have f2 : 0 = (m.2 - b.2 * 2) * kk a b := by rw [g] at e2; grind
      have := z _ f1
      have := z _ f2
      exact h.2.2 (Prod.ext (by simp only; omega) (by simp only; omega))
/-- Two weights above 0. -/
theorem weights {p q X Y : Int} (hp : 0 < p) (hq : 0 < q) (e : p * X + q * Y = 0) : (X = 0 ∧ Y = 0) ∨ (0 < X ∧ Y < 0) ∨ (X < 0 ∧ 0 < Y) := by
  rcases Int.lt_trichotomy X 0 with h | h | h
  · right; right; refine ⟨h, ?_⟩
    have := Int.mul_neg_of_pos_of_neg hp h
    rcases Int.lt_or_le 0 Y with g | g
    · exact g
    · have := Int.mul_nonpos_of_nonneg_of_nonpos (Int.le_of_lt hq) g
      omega
  · left; refine ⟨h, ?_⟩
    rw [h, Int.mul_zero, Int.zero_add] at e
    rcases Int.mul_eq_zero.1 e with g | g
    · omega
    · exact g
  · right; left; refine ⟨h, ?_⟩
    have := Int.mul_pos hp h
    rcases Int.lt_or_le Y 0 with g | g
    · exact g
    · have := Int.mul_nonneg (Int.le_of_lt hq) g
      omega
theorem inn_sides {a b c d m : Pnt} (hcd : c ≠ d) (h1 : cr a b m 2 = 0) (h2 : Inn c d m) : (cr a b c 1 = 0 ∧ cr a b d 1 = 0) ∨ (0 < cr a b c 1 ∧ cr a b d 1 < 0) ∨ (cr a b c 1 < 0 ∧ 0 < cr a b d 1) := by
  obtain ⟨g1, g2⟩ := inn_pos hcd h2
  have h0 := h2.1.1
  have e1 : dt c d m 2 * (d.1 - c.1) = (m.1 - c.1 * 2) * kk c d := by unfold cr at h0; unfold dt kk; grind
  have e2 : dt c d m 2 * (d.2 - c.2) = (m.2 - c.2 * 2) * kk c d := by unfold cr at h0; unfold dt kk; grind
  refine weights (p := kk c d * 2 - dt c d m 2) (q := dt c d m 2) (by omega) g1 ?_
  generalize dt c d m 2 = T at *
  generalize kk c d = K at *
  unfold cr at *
  grind
theorem line_other {a b c d : Pnt} (hab : a ≠ b) (h1 : cr a b c 1 = 0) (h2 : cr a b d 1 = 0) : cr c d a 1 = 0 ∧ cr c d b 1 = 0 := by
  have hk := kk_pos hab
  have z : ∀ t : Int, kk a b * t = 0 → t = 0 := by
    intro t h
    rcases Int.mul_eq_zero.1 h with h | h
    · omega
    · exact h
  constructor
  · apply z; unfold cr at *; unfold kk; grind
  · apply z; unfold cr at *; unfold kk; grind
theorem dt_two (a b x : Pnt) : dt a b (x.1 * 2, x.2 * 2) 2 = 2 * pos a b x := by unfold dt pos dt; grind
theorem inn_between {a b c d m : Pnt} (hcd : c ≠ d) (h2 : Inn c d m) : (2 * pos a b c < dt a b m 2 ∧ dt a b m 2 < 2 * pos a b d) ∨ (2 * pos a b d < dt a b m 2 ∧ dt a b m 2 < 2 * pos a b c) ∨ pos a b c = pos a b d := by
  obtain ⟨g1, g2⟩ := inn_pos hcd h2
  have h0 := h2.1.1
  have hk := kk_pos hcd
  have e1 : dt c d m 2 * (d.1 - c.1) = (m.1 - c.1 * 2) * kk c d := by unfold cr at h0; unfold dt kk; grind
  have e2 : dt c d m 2 * (d.2 - c.2) = (m.2 - c.2 * 2) * kk c d := by unfold cr at h0; unfold dt kk; grind
  have e : dt c d m 2 * (pos a b d - pos a b c) = kk c d * (dt a b m 2 - 2 * pos a b c) := by
    generalize dt c d m 2 = T at *
    generalize kk c d = K at *
    unfold pos dt; grind
  have e' : (kk c d * 2 - dt c d m 2) * (pos a b d - pos a b c) = kk c d * (2 * pos a b d - dt a b m 2) := by
    have : (kk c d * 2 - dt c d m 2) * (pos a b d - pos a b c) = kk c d * 2 * (pos a b d - pos a b c) - dt c d m 2 * (pos a b d - pos a b c) := by grind
    rw [this, e]; grind
  have g3 : 0 < kk c d * 2 - dt c d m 2 := by omega
  have sgn : ∀ {p q A B : Int}, 0 < p → 0 < q → p * A = q * B → (0 < A → 0 < B) ∧ (A < 0 → B < 0) := by
    intro p q A B hp hq e
    constructor
    · intro hA
      have := Int.mul_pos hp hA
      rw [e] at this
      exact Int.pos_of_mul_pos_right this hq
    · intro hA
      have := Int.mul_neg_of_pos_of_neg hp hA
      rw [e] at this
      rcases Int.lt_or_le B 0 with g | g
      · exact g
      · have := Int.mul_nonneg (Int.le_of_lt hq) g; omega
  rcases Int.lt_trichotomy (pos a b d - pos a b c) 0 with h | h | h
  · have k1 := (sgn g1 hk e).2 h
    have k2 := (sgn g3 hk e').2 h
    right; left; omega
  · right; right; omega
  · have k1 := (sgn g1 hk e).1 h
    have k2 := (sgn g3 hk e').1 h
    left; omega
theorem inn_cross {a b c d m : Pnt} (hab : a ≠ b) (hcd : c ≠ d) (h1 : Inn a b m) (h2 : Inn c d m) : meet a b c d = 2 ∨ meet a b c d = 3 := by
  have s1 := inn_sides hcd h1.1.1 h2
  have s2 := inn_sides hab h2.1.1 h1
  have l1 := line_other (c := c) (d := d) hab
  have l2 := line_other (c := a) (d := b) hcd
  by_cases hz : cr a b c 1 = 0
  · have hd : cr a b d 1 = 0 := by omega
    obtain ⟨z1, z2⟩ := l1 hz hd
    right
    have hm : meet a b c d = onLine (fwd a b) (fwd c d) := by
      unfold meet
      simp [hz, hd, z1, z2, sg]
    rw [hm]
    obtain ⟨p1, p2⟩ := inn_pos hab h1
    have hb := inn_between (a := a) (b := b) hcd h2
    have hne : pos a b c ≠ pos a b d := fun e => hcd (pos_inj hab hz hd e)
    rw [onLine_count hab hcd hz hd]
    have : count (kk a b) (min (pos a b c) (pos a b d)) (max (pos a b c) (pos a b d)) = 2 := by
      unfold count
      rw [if_neg (by omega), if_neg (by omega)]
    simp [this]
  · left
    have t2 : ¬ (cr c d a 1 = 0 ∧ cr c d b 1 = 0) := fun e => hz (l2 e.1 e.2).1
    have sp : ∀ {n : Int}, 0 < n → sg n = 1 := fun h => by unfold sg; rw [if_pos h]
    have sn : ∀ {n : Int}, n < 0 → sg n = -1 := fun h => by unfold sg; rw [if_neg (by omega), if_pos h]
    rcases s1 with e | ⟨x1, y1⟩ | ⟨x1, y1⟩
    · exact absurd e.1 hz
    · rcases s2 with e | ⟨z1, u1⟩ | ⟨z1, u1⟩
      · exact absurd e t2
      · unfold meet; simp [sp x1, sn y1, sp z1, sn u1]
      · unfold meet; simp [sp x1, sn y1, sn z1, sp u1]
    · rcases s2 with e | ⟨z1, u1⟩ | ⟨z1, u1⟩
      · exact absurd e t2
      · unfold meet; simp [sn x1, sp y1, sp z1, sn u1]
      · unfold meet; simp [sn x1, sp y1, sn z1, sp u1]
/-- A middle lies on no ring at whose vertices the segment was cut, unless they cross. -/
theorem mid_off {a b : Pnt} (hab : a ≠ b) {rings : Poly} {o : Ring} (ho : o ∈ rings) (hl : Long o) {m : Spot} (hm : m ∈ mids (a, b) rings) (hx : ∀ t ∈ segs o, crossS (a, b) t = false) : place o m ≠ 1 := by
  intro h1
  obtain ⟨y, z, hc, rfl⟩ := (mem_mids hab rings m).1 hm
  obtain ⟨t, ht, hh⟩ := place_one.1 h1
  have hh' : has t.1 t.2 (midOf y z).1 2 := hh
  have py := pos_le hab (cut_has hc.cx)
  have pz := pos_le hab (cut_has hc.cy)
  have hlt := hc.lt
  have ep : dt a b (midOf y z).1 2 = pos a b y + pos a b z := by unfold midOf pos dt; grind
  have hon : has a b (midOf y z).1 2 := by
    rw [has_on hab (by omega)]
    refine ⟨?_, by omega, by omega⟩
    have := cr_mid a b y z
    rw [this, (cut_has hc.cx).1, (cut_has hc.cy).1]; rfl
  have i1 : Inn a b (midOf y z).1 := by
    refine ⟨hon, ?_, ?_⟩
    · intro e
      have := dt_two a b a
      rw [← e, ep, pos_a] at this
      omega
    · intro e
      have := dt_two a b b
      rw [← e, ep, pos_b] at this
      omega
  have noCut : ∀ c, c ∈ o → (midOf y z).1 ≠ (c.1 * 2, c.2 * 2) := by
    intro c hco e
    have d2 := dt_two a b c
    rw [← e, ep] at d2
    have hcut : Cut a b rings.flatten c := by
      refine .inr (.inr ⟨List.mem_flatten.2 ⟨o, ho, hco⟩, ?_⟩)
      rw [has_on hab (by omega)]
      have g0 : cr a b (c.1 * 2, c.2 * 2) 2 = 0 := e ▸ hon.1
      refine ⟨?_, ?_, ?_⟩
      · unfold cr at *; grind
      · show 0 ≤ pos a b c; omega
      · show pos a b c ≤ _; omega
    exact hc.no c hcut ⟨by omega, by omega⟩
  have i2 : Inn t.1 t.2 (midOf y z).1 := ⟨hh', noCut _ (segs_mem ht).1, noCut _ (segs_mem ht).2⟩
  have := inn_cross hab (hl t ht) i1 i2
  have hf := hx t ht
  unfold crossS meetS at hf
  simp only [Bool.or_eq_false_iff, decide_eq_false_iff_not] at hf
  rcases this with e | e
  · exact hf.1 e
  · exact hf.2 e
end Vd
end Go.Proofs.Ytcclepohmhdpbab

/- VALIDITY, PLAINLY: the document's clauses, and that the least is the program's. -/
namespace Go.Proofs.Ytcclepohmhdpbab
set_option linter.all false
namespace Vd
def twiceD (r : Ring) : Bool := anyI (r.length - 1) fun i => anyI i fun j => decide (ptAt r i = ptAt r j)
def nextD2 (n i j : Nat) : Bool := decide (j + 1 = i) || (decide (j = 0) && decide (i + 1 = n))
def badK (next : Bool) (k : Int) : Bool := (next && decide (k ≠ 1)) || (!next && decide (k ≠ 0))
def selfD (r : Ring) : Bool := anyI (r.length - 1) fun i => anyI i fun j => badK (nextD2 (r.length - 1) i j) (common (ptAt r i) (ptAt r (i + 1)) (ptAt r j) (ptAt r (j + 1))).1
def cleanD (r : Ring) : Bool := !(twiceD r || selfD r)
def crossD (s t : Seg) : Bool := decide ((common s.1 s.2 t.1 t.2).1 = 2) || (common s.1 s.2 t.1 t.2).2
def pointsD (a b : Ring) : Bool := !((segs a).any fun s => (segs b).any fun t => crossD s t)
def allD (r : Ring) (q : Poly) (k : Int) : Bool := !((segs r).any fun s => (midD s.1 s.2 q).any fun m => decide (inP q m ≠ k))

/-- What Make lets pass: closed, four points or more. -/
structure Shut (r : Ring) : Prop where
  len : 4 ≤ r.length
  eq : ptAt r 0 = ptAt r (r.length - 1)

theorem ptAt_get {r : Ring} {i : Nat} (h : i < r.length) : r[i]? = some (ptAt r i) := by
  unfold ptAt; rw [List.getD_eq_getElem?_getD, List.getElem?_eq_getElem h]; rfl
theorem sAt_get {r : Ring} {i : Nat} (h : i + 1 < r.length) : sAt (segs r) i = (ptAt r i, ptAt r (i + 1)) := by
  unfold sAt; rw [List.getD_eq_getElem?_getD, segs_at (ptAt_get (by omega)) (ptAt_get h)]; rfl
theorem segs_mem_at {r : Ring} {s : Seg} (h : s ∈ segs r) : ∃ i, i + 1 < r.length ∧ s = (ptAt r i, ptAt r (i + 1)) := by
  obtain ⟨i, hi, e⟩ := List.getElem_of_mem h
  rw [segs_len] at hi
  have hi' : i + 1 < r.length := by omega
  refine ⟨i, hi', ?_⟩
  have := segs_at (ptAt_get (show i < r.length by omega)) (ptAt_get hi')
  rw [List.getElem?_eq_getElem (by rw [segs_len]; exact hi)] at this
  rw [← e]; exact Option.some.inj this

theorem twice_iff {r : Ring} : twice r = true ↔ ∃ i j, 1 ≤ i ∧ i < j ∧ j < r.length ∧ ptAt r i = ptAt r j := by
  unfold twice
  rw [anyI_iff]
  constructor
  · rintro ⟨i, hi, h⟩
    simp only [Bool.and_eq_true, decide_eq_true_eq, anyI_iff] at h
    obtain ⟨h1, j, hj, h2, h3⟩ := h
    rw [ptAt_get hi, ptAt_get hj] at h3
    exact ⟨i, j, h1, h2, hj, Option.some.inj h3⟩
  · rintro ⟨i, j, h1, h2, h3, h4⟩
    refine ⟨i, by omega, ?_⟩
    simp only [Bool.and_eq_true, decide_eq_true_eq, anyI_iff]
    exact ⟨h1, j, h3, h2, by rw [ptAt_get (show i < r.length by omega), ptAt_get h3, h4]⟩
theorem twiceD_iff {r : Ring} : twiceD r = true ↔ ∃ i j, j < i ∧ i < r.length - 1 ∧ ptAt r i = ptAt r j := by
  unfold twiceD
  rw [anyI_iff]
  constructor
  · rintro ⟨i, hi, h⟩
    simp only [anyI_iff, decide_eq_true_eq] at h
    obtain ⟨j, hj, e⟩ := h
    exact ⟨i, j, hj, hi, e⟩
  · rintro ⟨i, j, h1, h2, h3⟩
    refine ⟨i, h2, ?_⟩
    simp only [anyI_iff, decide_eq_true_eq]
    exact ⟨j, h1, h3⟩
theorem bool_iff {a b : Bool} (h : a = true ↔ b = true) : a = b := by cases a <;> cases b <;> simp_all
theorem twice_eq {r : Ring} (h : Shut r) : twice r = twiceD r := by
  apply bool_iff
  rw [twice_iff, twiceD_iff]
  have h4 := h.len
  constructor
  · rintro ⟨i, j, h1, h2, h3, e⟩
    by_cases hj : j = r.length - 1
    · exact ⟨i, 0, by omega, by omega, by rw [h.eq, e, hj]⟩
    · exact ⟨j, i, h2, by omega, e.symm⟩
  · rintro ⟨i, j, h1, h2, e⟩
    by_cases hj : j = 0
    · exact ⟨i, r.length - 1, by omega, by omega, by omega, by rw [e, hj, h.eq]⟩
    · exact ⟨j, i, by omega, h1, by omega, e.symm⟩
theorem long_of {r : Ring} (h : Shut r) (ht : twice r = false) : Long r := by
  intro s hs e
  obtain ⟨i, hi, rfl⟩ := segs_mem_at hs
  have h4 := h.len
  have : twice r = true := by
    rw [twice_iff]
    by_cases h0 : i = 0
    · subst h0
      exact ⟨1, r.length - 1, by omega, by omega, by omega, by rw [← h.eq]; exact e.symm⟩
    · exact ⟨i, i + 1, by omega, by omega, hi, e⟩
  rw [ht] at this; cases this

theorem shape1 {A B C : Prop} [Decidable A] [Decidable B] [Decidable C] {k : Int} {d : Bool} (h : (if A then (if B then ((0 : Int), false) else (k, false)) else if C then (0, false) else (1, d)).2 = true) :
    (if A then (if B then ((0 : Int), false) else (k, false)) else if C then (0, false) else (1, d)).1 = 1 := by
  by_cases hA : A <;> by_cases hB : B <;> by_cases hC : C <;> simp_all
theorem shape2 {A B C : Prop} [Decidable A] [Decidable B] [Decidable C] {k : Int} {d : Bool} (hk : k = 0 ∨ k = 1 ∨ k = 2) :
    (if A then (if B then ((0 : Int), false) else (k, false)) else if C then (0, false) else (1, d)).1 = 0 ∨ (if A then (if B then ((0 : Int), false) else (k, false)) else if C then (0, false) else (1, d)).1 = 1 ∨ (if A then (if B then ((0 : Int), false) else (k, false)) else if C then (0, false) else (1, d)).1 = 2 := by
  by_cases hA : A <;> by_cases hB : B <;> by_cases hC : C <;> simp_all
theorem common_cross {a b c d : Pnt} (h : (common a b c d).2 = true) : (common a b c d).1 = 1 := shape1 h
theorem count_range (k p q : Int) : count k p q = 0 ∨ count k p q = 1 ∨ count k p q = 2 := by
  unfold count
  split
  · simp
  · split <;> simp
theorem common_range (a b c d : Pnt) : (common a b c d).1 = 0 ∨ (common a b c d).1 = 1 ∨ (common a b c d).1 = 2 := shape2 (count_range _ _ _)
theorem meet_shared {a b c d : Pnt} (h : cr a b c 1 = 0 ∨ cr a b d 1 = 0) : meet a b c d ≠ 2 := by
  have hl : ∀ s t, onLine s t ≠ 2 := by
    intro s t
    unfold onLine
    simp only
    split
    · omega
    · split <;> omega
  unfold meet
  simp only
  split
  · exact hl _ _
  · split
    · omega
    · have : sg (cr a b c 1) * sg (cr a b d 1) * sg (cr c d a 1) * sg (cr c d b 1) = 0 := by
        rcases h with h | h
        · rw [h]; simp [sg]
        · rw [h]; simp [sg]
      rw [if_pos this]; omega
theorem cross_eq {s t : Seg} (hs : s.1 ≠ s.2) (ht : t.1 ≠ t.2) : crossS s t = crossD s t := by
  unfold crossS crossD meetS
  rw [meet_common hs ht]
  have hr := common_range s.1 s.2 t.1 t.2
  have hc := common_cross (a := s.1) (b := s.2) (c := t.1) (d := t.2)
  unfold how
  cases h2 : (common s.1 s.2 t.1 t.2).2 with
  | true => rw [hc h2]; simp
  | false =>
    rcases hr with e | e | e <;> rw [e] <;> simp
theorem bad_eq {a b c d : Pnt} (hab : a ≠ b) (hcd : c ≠ d) {next : Bool} (hn : next = true → cr a b c 1 = 0 ∨ cr a b d 1 = 0) :
    badK next (common a b c d).1 = decide (meet a b c d ≠ if next then 1 else 0) := by
  have hm := meet_common hab hcd
  have hr := common_range a b c d
  have hc := common_cross (a := a) (b := b) (c := c) (d := d)
  have hs := meet_shared (a := a) (b := b) (c := c) (d := d)
  unfold badK
  cases h2 : (common a b c d).2 with
  | true =>
    have e := hc h2
    have hm2 : meet a b c d = 2 := by rw [hm]; unfold how; rw [h2, e]; simp
    cases next with
    | true => exact absurd hm2 (hs (hn rfl))
    | false => rw [hm2, e]; simp
  | false =>
    rcases hr with e | e | e
    · have hm2 : meet a b c d = 0 := by rw [hm]; unfold how; rw [h2, e]; simp
      cases next <;> simp [hm2, e]
    · have hm2 : meet a b c d = 1 := by rw [hm]; unfold how; rw [h2, e]; simp
      cases next <;> simp [hm2, e]
    · have hm2 : meet a b c d = 3 := by rw [hm]; unfold how; rw [h2, e]; simp
      cases next <;> simp [hm2, e]
theorem self_eq {r : Ring} (h : Shut r) (hl : Long r) : selfR r = selfD r := by
  have h4 := h.len
  have key : ∀ i j, j < i → i < r.length - 1 → badK (nextD2 (r.length - 1) i j) (common (ptAt r i) (ptAt r (i + 1)) (ptAt r j) (ptAt r (j + 1))).1 = decide (meetS (sAt (segs r) j) (sAt (segs r) i) ≠ wantI (segs r).length j i) := by
    intro i j hji hi
    have e1 := sAt_get (r := r) (i := i) (by omega)
    have e2 := sAt_get (r := r) (i := j) (by omega)
    have l1 : ptAt r i ≠ ptAt r (i + 1) := hl (ptAt r i, ptAt r (i + 1)) (List.mem_of_getElem? (segs_at (ptAt_get (by omega)) (ptAt_get (by omega))))
    have l2 : ptAt r j ≠ ptAt r (j + 1) := hl (ptAt r j, ptAt r (j + 1)) (List.mem_of_getElem? (segs_at (ptAt_get (by omega)) (ptAt_get (by omega))))
    rw [e1, e2, meetS_symm]
    unfold meetS
    simp only
    rw [bad_eq l1 l2 ?_]
    · have ew : (if nextD2 (r.length - 1) i j = true then (1 : Int) else 0) = wantI (segs r).length j i := by
        unfold nextD2 wantI
        rw [segs_len]
        by_cases c : j + 1 = i ∨ (j = 0 ∧ i + 1 = r.length - 1)
        · rw [if_pos c, if_pos]; simpa using c
        · rw [if_neg c, if_neg]; simpa using c
      rw [ew]
    · intro hn
      unfold nextD2 at hn
      simp only [Bool.or_eq_true, Bool.and_eq_true, decide_eq_true_eq] at hn
      rcases hn with e | ⟨e, e'⟩
      · right; rw [e]; exact cr_a _ _
      · left; subst e; rw [h.eq, show r.length - 1 = i + 1 by omega]; exact cr_b _ _
  apply bool_iff
  unfold selfR selfD
  rw [anyI_iff, anyI_iff, segs_len]
  constructor
  · rintro ⟨j, hj, k⟩
    rw [anyI_iff] at k
    obtain ⟨i, hi, k⟩ := k
    refine ⟨j, hj, ?_⟩
    rw [anyI_iff]
    refine ⟨i, hi, ?_⟩
    rw [key j i hi hj, segs_len]
    exact k
  · rintro ⟨j, hj, k⟩
    rw [anyI_iff] at k
    obtain ⟨i, hi, k⟩ := k
    refine ⟨j, hj, ?_⟩
    rw [anyI_iff]
    refine ⟨i, hi, ?_⟩
    rw [key j i hi hj, segs_len] at k
    exact k
theorem clean_eq {r : Ring} (h : Shut r) : (twice r || selfR r) = (twiceD r || selfD r) := by
  rw [twice_eq h]
  cases ht : twiceD r with
  | true => rfl
  | false => rw [self_eq h (long_of h (by rw [twice_eq h]; exact ht))]
end Vd
end Go.Proofs.Ytcclepohmhdpbab

/- VALIDITY, PLAINLY: clause by clause, the program's and the document's. -/
namespace Go.Proofs.Ytcclepohmhdpbab
set_option linter.all false
namespace Vd
def d1 (m : Mult) : Bool := m.any fun l => l.any fun r => !(cleanD r)
def d2 (m : Mult) : Bool := m.any fun l => anyI l.length fun i => anyI l.length fun j => decide (j ≠ i) && !(pointsD (rAt l i) (rAt l j))
def nestD (j : Nat) : Int := if j = 0 then 1 else -1
def d3 (m : Mult) : Bool := m.any fun l => anyI l.length fun i => decide (1 ≤ i) && anyI l.length fun j => decide (j ≠ i) && !(allD (rAt l i) [rAt l j] (nestD j))
def d5 (m : Mult) : Bool := anyI m.length fun p => (pAt m p).any fun r => anyI m.length fun k => decide (k ≠ p) && ((pAt m k).any (fun s => !(pointsD r s)) || !(allD r (pAt m k) (-1)))
def docCore (l : Poly) : Prop := ∃ F : Inc, (∀ r q, F r q → r < l.length ∧ inRing (rAt l r) (at1 q) = 0 ∧ q ∈ l.flatten) ∧ Core F ∧ ∃ r q, F r q

/-- What Make lets pass. -/
structure Good (m : Mult) : Prop where
  ne : ∀ l ∈ m, l ≠ []
  shut : ∀ l ∈ m, ∀ r ∈ l, Shut r
theorem good_of {m : Mult} (h : Pl.wrong m = 0) : Good m := by
  have hb : m.any Pl.badL = false := by
    unfold Pl.wrong at h
    split at h
    · omega
    · split at h
      · omega
      · rename_i k; simpa using k
  have one : ∀ l ∈ m, Pl.badL l = false := by
    intro l hl
    cases hx : Pl.badL l with
    | false => rfl
    | true => rw [List.any_eq_true.2 ⟨l, hl, hx⟩] at hb; cases hb
  refine ⟨fun l hl e => ?_, fun l hl r hr => ?_⟩
  · have := one l hl
    unfold Pl.badL at this
    rw [e] at this
    simp at this
  · have := one l hl
    unfold Pl.badL at this
    simp only [Bool.or_eq_false_iff] at this
    have hr2 : Pl.badR r = false := by
      cases hx : Pl.badR r with
      | false => rfl
      | true =>
        have e : Pl.badRs l = true := List.any_eq_true.2 ⟨r, hr, hx⟩
        rw [e] at this; cases this.2
    unfold Pl.badR at hr2
    simp only [Bool.or_eq_false_iff, decide_eq_false_iff_not, Bool.not_eq_false', decide_eq_true_eq] at hr2
    have h4 : 4 ≤ r.length := by omega
    refine ⟨h4, ?_⟩
    have e := hr2.2
    rw [List.head?_eq_getElem?, List.getLast?_eq_getElem?, ptAt_get (by omega), ptAt_get (by omega)] at e
    exact Option.some.inj e
theorem rAt_mem {l : Poly} {i : Nat} (h : i < l.length) : rAt l i ∈ l := by
  unfold rAt; rw [List.getD_eq_getElem?_getD, List.getElem?_eq_getElem h]; simp
theorem pAt_mem {m : Mult} {i : Nat} (h : i < m.length) : pAt m i ∈ m := by
  unfold pAt; rw [List.getD_eq_getElem?_getD, List.getElem?_eq_getElem h]; simp
theorem any_congr {α : Type} {l : List α} {f g : α → Bool} (h : ∀ x ∈ l, f x = g x) : l.any f = l.any g := by
  induction l with
  | nil => rfl
  | cons a t ih => rw [List.any_cons, List.any_cons, h a (by simp), ih fun x hx => h x (by simp [hx])]
theorem anyI_congr {n : Nat} {f g : Nat → Bool} (h : ∀ i, i < n → f i = g i) : anyI n f = anyI n g := any_congr fun x hx => h x (List.mem_range.1 hx)

theorem c1_eq {m : Mult} (h : Good m) : badC 1 m = d1 m := by
  unfold badC d1
  refine any_congr fun l hl => ?_
  unfold holdsC simple
  simp only [if_true, Bool.not_not]
  refine any_congr fun r hr => ?_
  rw [clean_eq (h.shut l hl r hr)]
  unfold cleanD
  simp
/-- The first clause holds: no segment without length. -/
theorem long_all {m : Mult} (h : Good m) (h1 : badC 1 m = false) : ∀ l ∈ m, ∀ r ∈ l, Long r := by
  intro l hl r hr
  have : (twice r || selfR r) = false := by
    cases hx : (twice r || selfR r) with
    | false => rfl
    | true =>
      have : badC 1 m = true := by
        unfold badC
        refine List.any_eq_true.2 ⟨l, hl, ?_⟩
        unfold holdsC simple
        simp only [if_true, Bool.not_not]
        exact List.any_eq_true.2 ⟨r, hr, hx⟩
      rw [h1] at this; cases this
  rw [Bool.or_eq_false_iff] at this
  exact long_of (h.shut l hl r hr) this.1
theorem points_eq {a b : Ring} (ha : Long a) (hb : Long b) : pointsD a b = !(cross a b) := by
  unfold pointsD cross
  congr 1
  refine any_congr fun s hs => any_congr fun t ht => ?_
  rw [cross_eq (ha s hs) (hb t ht)]
theorem cross_symm (a b : Ring) : cross a b = cross b a := by
  apply bool_iff
  unfold cross
  simp only [List.any_eq_true]
  constructor
  · rintro ⟨s, hs, t, ht, h⟩; exact ⟨t, ht, s, hs, by rw [crossS_symm]; exact h⟩
  · rintro ⟨s, hs, t, ht, h⟩; exact ⟨t, ht, s, hs, by rw [crossS_symm]; exact h⟩
/-- Pairs, either way round. -/
theorem pairs_eq {n : Nat} {f : Nat → Nat → Bool} (hs : ∀ i j, f i j = f j i) : (anyI n fun j => anyI j fun i => f i j) = anyI n fun i => anyI n fun j => decide (j ≠ i) && f i j := by
  apply bool_iff
  simp only [anyI_iff, Bool.and_eq_true, decide_eq_true_eq]
  constructor
  · rintro ⟨j, hj, i, hi, h⟩; exact ⟨i, by omega, j, hj, by omega, h⟩
  · rintro ⟨i, hi, j, hj, hne, h⟩
    rcases Nat.lt_or_ge i j with k | k
    · exact ⟨j, hj, i, k, h⟩
    · exact ⟨i, hi, j, by omega, by rw [hs]; exact h⟩
theorem c2_eq {m : Mult} (hl : ∀ l ∈ m, ∀ r ∈ l, Long r) : badC 2 m = d2 m := by
  unfold badC d2
  refine any_congr fun l h => ?_
  unfold holdsC touch
  simp only [Bool.not_not, if_true]
  rw [if_neg (by decide), Bool.not_not, pairs_eq (f := fun i j => cross (rAt l i) (rAt l j)) (fun i j => cross_symm _ _)]
  refine anyI_congr fun i hi => anyI_congr fun j hj => ?_
  rw [points_eq (hl l h _ (rAt_mem hi)) (hl l h _ (rAt_mem hj)), Bool.not_not]
theorem mid_w {s : Seg} {q : Poly} {m : Spot} (hs : s.1 ≠ s.2) (h : m ∈ mids s q) : m.2 = 2 := by
  obtain ⟨y, z, -, rfl⟩ := (mem_mids hs q m).1 h
  rfl
theorem lies_eq {r o : Ring} (hr : Long r) (ho : Long o) {k k' : Int} (hk : (k = 1 ∧ k' = 2) ∨ (k = -1 ∧ k' = 0)) : lies r o k' = allD r [o] k := by
  unfold lies allD
  congr 1
  refine any_congr fun s hs => ?_
  apply bool_iff
  simp only [List.any_eq_true, decide_eq_true_eq]
  have hsl := hr s hs
  have one : ∀ m : Spot, m ∈ mids s [o] → (place o m ≠ k' ↔ inP [o] m ≠ k) := by
    intro m hm
    have hw := mid_w hsl hm
    obtain ⟨e1, e2⟩ := place_eq (p := m) ho (by omega)
    show place o m ≠ k' ↔ inRing o m ≠ k
    rw [e1]
    unfold pl
    rcases e2 with e | e | e <;> rw [e] <;> rcases hk with ⟨rfl, rfl⟩ | ⟨rfl, rfl⟩ <;> simp
  constructor
  · rintro ⟨m, hm, h⟩; exact ⟨m, (mids_midD hsl _ m).1 hm, (one m hm).1 h⟩
  · rintro ⟨m, hm, h⟩
    have hm' := (mids_midD hsl _ m).2 hm
    exact ⟨m, hm', (one m hm').2 h⟩
theorem c3_eq {m : Mult} (hl : ∀ l ∈ m, ∀ r ∈ l, Long r) : badC 3 m = d3 m := by
  unfold badC d3
  refine any_congr fun l h => ?_
  unfold holdsC nested
  rw [if_neg (by decide), if_neg (by decide), if_pos rfl, Bool.not_not]
  refine anyI_congr fun i hi => ?_
  congr 1
  refine anyI_congr fun j hj => ?_
  rw [lies_eq (hl l h _ (rAt_mem hi)) (hl l h _ (rAt_mem hj)) (k := nestD j) (k' := nestW j) (by unfold nestD nestW; split <;> simp)]
  congr 1
  exact decide_eq_decide.2 ⟨fun e => Ne.symm e, fun e => Ne.symm e⟩
theorem core_eq {l : Poly} (hl : ∀ r ∈ l, Long r) : way l = true ↔ docCore l := by
  rw [way_core]
  have e : ∀ r p, r < l.length → (incL l r p ↔ inRing (rAt l r) (at1 p) = 0) := by
    intro r p hr
    obtain ⟨e1, e2⟩ := place_eq (r := rAt l r) (p := at1 p) (hl _ (rAt_mem hr)) (by show (0 : Int) < 1; omega)
    unfold incL
    rw [e1]
    unfold pl
    rcases e2 with e | e | e <;> rw [e] <;> simp
  constructor
  · rintro ⟨F, h1, h2⟩; exact ⟨F, fun r q t => ⟨(h1 r q t).1, (e r q (h1 r q t).1).1 (h1 r q t).2.1, (h1 r q t).2.2⟩, h2⟩
  · rintro ⟨F, h1, h2⟩; exact ⟨F, fun r q t => ⟨(h1 r q t).1, (e r q (h1 r q t).1).2 (h1 r q t).2.1, (h1 r q t).2.2⟩, h2⟩
theorem enters_eq {a b : Poly} (hb0 : b ≠ []) (ha : ∀ r ∈ a, Long r) (hb : ∀ r ∈ b, Long r) (hx : boundsX a b = false) : enters a b = a.any fun r => !(allD r b (-1)) := by
  unfold enters
  refine any_congr fun r hr => ?_
  unfold allD
  rw [Bool.not_not]
  refine any_congr fun s hs => ?_
  have hsl := ha r hr s hs
  have off : ∀ m ∈ mids s b, ∀ o ∈ b, place o m ≠ 1 := by
    intro m hm o ho
    refine mid_off hsl ho (hb o ho) hm fun t ht => ?_
    cases hc : crossS (s.1, s.2) t with
    | false => rfl
    | true =>
      have : boundsX a b = true := by
        unfold boundsX
        refine List.any_eq_true.2 ⟨r, hr, List.any_eq_true.2 ⟨o, ho, ?_⟩⟩
        unfold cross
        exact List.any_eq_true.2 ⟨s, hs, List.any_eq_true.2 ⟨t, ht, hc⟩⟩
      rw [hx] at this; cases this
  have one : ∀ m ∈ mids s b, (free b m = false ↔ inP b m ≠ -1) := by
    intro m hm
    have hw := mid_w hsl hm
    have := free_in (l := b) (p := m) (by omega) hb0 fun r hr => ⟨hb r hr, off m hm r hr⟩
    constructor
    · intro e e2; rw [this.2 e2] at e; cases e
    · intro e
      cases hf : free b m with
      | false => rfl
      | true => exact absurd (this.1 hf) e
  apply bool_iff
  simp only [List.any_eq_true, Bool.not_eq_true', decide_eq_true_eq]
  constructor
  · rintro ⟨m, hm, h⟩; exact ⟨m, (mids_midD hsl _ m).1 hm, (one m hm).1 h⟩
  · rintro ⟨m, hm, h⟩
    have hm' := (mids_midD hsl _ m).2 hm
    exact ⟨m, hm', (one m hm').2 h⟩
/-- Two polygons, the one against the other. -/
def half (a b : Poly) : Bool := a.any fun r => b.any (fun s => !(pointsD r s)) || !(allD r b (-1))
theorem half_eq {a b : Poly} (ha0 : a ≠ []) (hb0 : b ≠ []) (ha : ∀ r ∈ a, Long r) (hb : ∀ r ∈ b, Long r) : (boundsX a b || enters a b || enters b a) = (half a b || half b a) := by
  have hs : boundsX a b = boundsX b a := by
    apply bool_iff
    unfold boundsX
    simp only [List.any_eq_true]
    constructor
    · rintro ⟨r, hr, o, ho, h⟩; exact ⟨o, ho, r, hr, by rw [cross_symm]; exact h⟩
    · rintro ⟨r, hr, o, ho, h⟩; exact ⟨o, ho, r, hr, by rw [cross_symm]; exact h⟩
  have pt : ∀ {a b : Poly}, (∀ r ∈ a, Long r) → (∀ r ∈ b, Long r) → half a b = (boundsX a b || a.any fun r => !(allD r b (-1))) := by
    intro a b ha hb
    apply bool_iff
    unfold half boundsX
    simp only [List.any_eq_true, Bool.or_eq_true]
    constructor
    · rintro ⟨r, hr, ⟨s, hs, h⟩ | h⟩
      · rw [points_eq (ha r hr) (hb s hs), Bool.not_not] at h
        exact .inl ⟨r, hr, s, hs, h⟩
      · exact .inr ⟨r, hr, h⟩
    · rintro (⟨r, hr, s, hs, h⟩ | ⟨r, hr, h⟩)
      · exact ⟨r, hr, .inl ⟨s, hs, by rw [points_eq (ha r hr) (hb s hs), Bool.not_not]; exact h⟩⟩
      · exact ⟨r, hr, .inr h⟩
  rw [pt ha hb, pt hb ha, ← hs]
  cases hx : boundsX a b with
  | true => rfl
  | false =>
    rw [enters_eq hb0 ha hb hx, enters_eq ha0 hb ha (hs ▸ hx)]
    simp
theorem c5_eq {m : Mult} (hg : Good m) (hl : ∀ l ∈ m, ∀ r ∈ l, Long r) : overlap m = d5 m := by
  have e1 : overlap m = anyI m.length fun j => anyI j fun i => (half (pAt m i) (pAt m j) || half (pAt m j) (pAt m i)) := by
    unfold overlap
    refine anyI_congr fun j hj => anyI_congr fun i hi => ?_
    exact half_eq (hg.ne _ (pAt_mem (by omega))) (hg.ne _ (pAt_mem hj)) (hl _ (pAt_mem (by omega))) (hl _ (pAt_mem hj))
  rw [e1]
  apply bool_iff
  unfold d5 half
  simp only [anyI_iff, List.any_eq_true, Bool.and_eq_true, decide_eq_true_eq, Bool.or_eq_true]
  constructor
  · rintro ⟨j, hj, i, hi, ⟨r, hr, h⟩ | ⟨r, hr, h⟩⟩
    · exact ⟨i, by omega, r, hr, j, hj, by omega, h⟩
    · exact ⟨j, hj, r, hr, i, by omega, by omega, h⟩
  · rintro ⟨p, hp, r, hr, k, hk, hne, h⟩
    rcases Nat.lt_or_ge p k with g | g
    · exact ⟨k, hk, p, g, .inl ⟨r, hr, h⟩⟩
    · exact ⟨p, hp, k, by omega, .inr ⟨r, hr, h⟩⟩
end Vd
end Go.Proofs.Ytcclepohmhdpbab

/- THE DOCUMENT's WAY ROUND, PLAINLY: a table of rings and points, thinned out. -/
namespace Go.Proofs.Ytcclepohmhdpbab
set_option linter.all false
namespace Vd

/-- F is a part of the table M in which no one stands alone. -/
structure IC (M : Nat → Nat → Bool) (F : Nat → Nat → Prop) : Prop where
  le : ∀ r k, F r k → M r k = true
  pt : ∀ r k, F r k → ∃ s, s ≠ r ∧ F s k
  ring : ∀ r k, F r k → ∃ j, j ≠ k ∧ F r j
/-- a table with one place struck. -/
def strike (M : Nat → Nat → Bool) (r k : Nat) : Nat → Nat → Bool := fun s j => if s = r ∧ j = k then false else M s j
theorem strike_le {M : Nat → Nat → Bool} {r k s j : Nat} (h : strike M r k s j = true) : M s j = true := by
  unfold strike at h; split at h
  · cases h
  · exact h
theorem strike_at (M : Nat → Nat → Bool) (r k : Nat) : strike M r k r k = false := by unfold strike; rw [if_pos ⟨rfl, rfl⟩]
theorem strike_ne {M : Nat → Nat → Bool} {r k s j : Nat} (h : ¬ (s = r ∧ j = k)) : strike M r k s j = M s j := by unfold strike; rw [if_neg h]
/-- a point of one ring alone goes. -/
theorem IC.strike_pt {M : Nat → Nat → Bool} {F : Nat → Nat → Prop} (h : IC M F) {r k : Nat} (hk : ∀ s, s ≠ r → M s k = false) : IC (strike M r k) F := by
  have no : ¬ F r k := fun hf => by
    obtain ⟨s, hs, hf2⟩ := h.pt r k hf
    have := h.le s k hf2
    rw [hk s hs] at this
    cases this
  refine ⟨fun s j hf => ?_, h.pt, h.ring⟩
  rw [strike_ne (fun e => no (by rw [← e.1, ← e.2]; exact hf))]
  exact h.le s j hf
/-- a ring with one point goes. -/
theorem IC.strike_ring {M : Nat → Nat → Bool} {F : Nat → Nat → Prop} (h : IC M F) {r k : Nat} (hk : ∀ j, j ≠ k → M r j = false) : IC (strike M r k) F := by
  have no : ¬ F r k := fun hf => by
    obtain ⟨j, hj, hf2⟩ := h.ring r k hf
    have := h.le r j hf2
    rw [hk j hj] at this
    cases this
  refine ⟨fun s j hf => ?_, h.pt, h.ring⟩
  rw [strike_ne (fun e => no (by rw [← e.1, ← e.2]; exact hf))]
  exact h.le s j hf

/-- The table at the beginning. -/
def tab0 (l : Poly) (pts : List Pnt) (r k : Nat) : Bool := match pts[k]? with
  | some p => decide (r < l.length) && decide (inRing (rAt l r) (at1 p) = 0)
  | none => false
theorem tab0_some {l : Poly} {pts : List Pnt} {r k : Nat} (h : tab0 l pts r k = true) : ∃ p, pts[k]? = some p ∧ r < l.length ∧ inRing (rAt l r) (at1 p) = 0 := by
  unfold tab0 at h
  split at h
  · rename_i p e
    rw [Bool.and_eq_true] at h
    exact ⟨p, e, of_decide_eq_true h.1, of_decide_eq_true h.2⟩
  · cases h
theorem tab0_of {l : Poly} {pts : List Pnt} {r k : Nat} {p : Pnt} (e : pts[k]? = some p) (h1 : r < l.length) (h2 : inRing (rAt l r) (at1 p) = 0) : tab0 l pts r k = true := by
  unfold tab0; rw [e]; simp [h1, h2]
theorem nodupR_at {pts : List Pnt} (h : pts.Nodup) {i j : Nat} {p : Pnt} (hi : pts[i]? = some p) (hj : pts[j]? = some p) : i = j := by
  obtain ⟨h1, e1⟩ := List.getElem?_eq_some_iff.1 hi
  obtain ⟨h2, e2⟩ := List.getElem?_eq_some_iff.1 hj
  rcases Nat.lt_trichotomy i j with q | q | q
  · exact absurd (e1.trans e2.symm) (List.pairwise_iff_getElem.1 h i j h1 h2 q)
  · exact q
  · exact absurd (e2.trans e1.symm) (List.pairwise_iff_getElem.1 h j i h2 h1 q)
theorem docCore_tab {l : Poly} {pts : List Pnt} (hn : pts.Nodup) (hm : ∀ p, p ∈ pts ↔ p ∈ l.flatten) : docCore l ↔ ∃ F, IC (tab0 l pts) F ∧ ∃ r k, F r k := by
  constructor
  · rintro ⟨F, h1, h2, r, q, hf⟩
    have at_ : ∀ r q, F r q → ∃ k, pts[k]? = some q := fun r q hf => by
      obtain ⟨k, hk, e⟩ := List.getElem_of_mem ((hm q).2 (h1 r q hf).2.2)
      exact ⟨k, by rw [List.getElem?_eq_getElem hk, e]⟩
    refine ⟨fun r k => ∃ p, pts[k]? = some p ∧ F r p, ⟨?_, ?_, ?_⟩, ?_⟩
    · rintro r k ⟨p, e, hf⟩
      exact tab0_of e (h1 r p hf).1 (h1 r p hf).2.1
    · rintro r k ⟨p, e, hf⟩
      obtain ⟨s, hs, hf2⟩ := h2.pt r p hf
      exact ⟨s, hs, p, e, hf2⟩
    · rintro r k ⟨p, e, hf⟩
      obtain ⟨p', hp, hf2⟩ := h2.ring r p hf
      obtain ⟨j, ej⟩ := at_ r p' hf2
      exact ⟨j, fun e2 => hp (by rw [e2, e] at ej; exact (Option.some.inj ej).symm), p', ej, hf2⟩
    · obtain ⟨k, e⟩ := at_ r q hf
      exact ⟨r, k, q, e, hf⟩
  · rintro ⟨F, h, r, k, hf⟩
    refine ⟨fun r p => ∃ k, pts[k]? = some p ∧ F r k, ?_, ⟨?_, ?_⟩, ?_⟩
    · rintro r q ⟨k, e, hf⟩
      obtain ⟨p, e1, e2, e3⟩ := tab0_some (h.le r k hf)
      obtain rfl := Option.some.inj (e.symm.trans e1)
      exact ⟨e2, e3, (hm q).1 (List.mem_of_getElem? e)⟩
    · rintro r p ⟨k, e, hf⟩
      obtain ⟨s, hs, hf2⟩ := h.pt r k hf
      exact ⟨s, hs, k, e, hf2⟩
    · rintro r p ⟨k, e, hf⟩
      obtain ⟨j, hj, hf2⟩ := h.ring r k hf
      obtain ⟨p', e1, -, -⟩ := tab0_some (h.le r j hf2)
      exact ⟨p', fun e2 => hj (nodupR_at hn (by rw [e2] at e1; exact e1) e), j, e1, hf2⟩
    · obtain ⟨p, e1, -, -⟩ := tab0_some (h.le r k hf)
      exact ⟨r, p, k, e1, hf⟩
/-- What the thinning keeps: M is a part of M0, and every part that stands is still in M. -/
structure Thin (M0 M : Nat → Nat → Bool) : Prop where
  le : ∀ r k, M r k = true → M0 r k = true
  all : ∀ F, IC M0 F → IC M F
theorem Thin.refl (M : Nat → Nat → Bool) : Thin M M := ⟨fun _ _ h => h, fun _ h => h⟩
theorem Thin.pt {M0 M : Nat → Nat → Bool} (h : Thin M0 M) {r k : Nat} (hk : ∀ s, s ≠ r → M s k = false) : Thin M0 (strike M r k) := ⟨fun s j hs => h.le s j (strike_le hs), fun F hF => (h.all F hF).strike_pt hk⟩
theorem Thin.ring {M0 M : Nat → Nat → Bool} (h : Thin M0 M) {r k : Nat} (hk : ∀ j, j ≠ k → M r j = false) : Thin M0 (strike M r k) := ⟨fun s j hs => h.le s j (strike_le hs), fun F hF => (h.all F hF).strike_ring hk⟩
/-- At the end: nobody stands alone in M: is anything left? -/
theorem Thin.done {M0 M : Nat → Nat → Bool} (h : Thin M0 M) (hp : ∀ r k, M r k = true → ∃ s, s ≠ r ∧ M s k = true) (hr : ∀ r k, M r k = true → ∃ j, j ≠ k ∧ M r j = true) : (∃ r k, M r k = true) ↔ ∃ F, IC M0 F ∧ ∃ r k, F r k := by
  constructor
  · rintro ⟨r, k, hm⟩
    exact ⟨fun r k => M r k = true, ⟨h.le, hp, hr⟩, r, k, hm⟩
  · rintro ⟨F, hF, r, k, hf⟩
    exact ⟨r, k, (h.all F hF).le r k hf⟩
end Vd
end Go.Proofs.Ytcclepohmhdpbab

/- GEOMETRY, PLAINLY: a segment between two points, and how often a ring crosses it. -/
namespace Go.Proofs.Ytcclepohmhdpbab
set_option linter.all false
namespace Vd
theorem pp {x y : Int} (hx : 0 < x) (hy : 0 < y) : 0 < x * y := Int.mul_pos hx hy
theorem pn {x y : Int} (hx : 0 < x) (hy : y < 0) : x * y < 0 := Int.mul_neg_of_pos_of_neg hx hy
theorem np {x y : Int} (hx : x < 0) (hy : 0 < y) : x * y < 0 := Int.mul_neg_of_neg_of_pos hx hy
theorem nng {x y : Int} (hx : x < 0) (hy : y < 0) : 0 < x * y := Int.mul_pos_of_neg_of_neg hx hy
theorem p0 {x y : Int} (hx : 0 ≤ x) (hy : 0 ≤ y) : 0 ≤ x * y := Int.mul_nonneg hx hy
theorem m0 {x y : Int} (hx : 0 ≤ x) (hy : y ≤ 0) : x * y ≤ 0 := Int.mul_nonpos_of_nonneg_of_nonpos hx hy
theorem n0 {x y : Int} (hx : x ≤ 0) (hy : 0 ≤ y) : x * y ≤ 0 := Int.mul_nonpos_of_nonpos_of_nonneg hx hy
theorem q0 {x y : Int} (hx : x ≤ 0) (hy : y ≤ 0) : 0 ≤ x * y := Int.mul_nonneg_of_nonpos_of_nonpos hx hy
theorem sgn_of {u P z : Int} (hu : 0 < u) (e : u * P = z) : (0 < P ↔ 0 < z) ∧ (P < 0 ↔ z < 0) ∧ (P = 0 ↔ z = 0) := by
  rcases Int.lt_trichotomy P 0 with h | h | h
  · have := pn hu h; omega
  · have : u * P = 0 := by rw [h]; simp
    omega
  · have := pp hu h; omega
def Opp (A B : Int) : Prop := (A < 0 ∧ 0 < B) ∨ (0 < A ∧ B < 0)
instance (A B : Int) : Decidable (Opp A B) := by unfold Opp; infer_instance
theorem opp_symm {A B : Int} : Opp A B ↔ Opp B A := by unfold Opp; omega
theorem opp_neg {A B : Int} : Opp (-A) (-B) ↔ Opp A B := by unfold Opp; omega
theorem core_le {u A B a b P Q : Int} (hu : 0 < u) (hab : a ≤ b) (e1 : u * P = B * a - A * b) (e2 : u * Q = B * (a - u) - A * (b - u))
    (h1 : 0 < a → a ≤ u → A ≠ 0) (h2 : 0 < b → b ≤ u → B ≠ 0) (h3 : (a ≤ 0 ∧ 0 < b) ∨ (b ≤ 0 ∧ 0 < a) → P ≠ 0) (h4 : (a ≤ u ∧ u < b) ∨ (b ≤ u ∧ u < a) → Q ≠ 0)
    (h5 : a = u → b = u → ¬ Opp A B) :
    (((a ≤ 0 ∧ 0 < b ∧ 0 < P) ∨ (b ≤ 0 ∧ 0 < a ∧ P < 0)) ↔ ((a ≤ u ∧ u < b ∧ 0 < Q) ∨ (b ≤ u ∧ u < a ∧ Q < 0))) ↔
      ¬ ((Opp A B ∧ Opp P Q) ↔ ((0 < a ∧ a ≤ u ∧ A < 0) ↔ (0 < b ∧ b ≤ u ∧ B < 0))) := by
  obtain ⟨P1, P2, P3⟩ := sgn_of hu e1
  obtain ⟨Q1, Q2, Q3⟩ := sgn_of hu e2
  clear e1 e2
  by_cases zb : b ≤ 0
  · -- both below
    have n : ¬ (Opp A B ∧ Opp P Q) := by
      rintro ⟨k | k, k2⟩
      · have := m0 (Int.le_of_lt k.2) (show a ≤ 0 by omega); have := q0 (Int.le_of_lt k.1) zb
        have := m0 (Int.le_of_lt k.2) (show a - u ≤ 0 by omega); have := q0 (Int.le_of_lt k.1) (show b - u ≤ 0 by omega)
        unfold Opp at k2; omega
      · have := q0 (Int.le_of_lt k.2) (show a ≤ 0 by omega); have := m0 (Int.le_of_lt k.1) zb
        have := q0 (Int.le_of_lt k.2) (show a - u ≤ 0 by omega); have := m0 (Int.le_of_lt k.1) (show b - u ≤ 0 by omega)
        unfold Opp at k2; omega
    simp only [n, false_iff]
    clear n h5
    constructor
    · intro _; omega
    · intro _; omega
  by_cases za : u < a
  · have n : ¬ (Opp A B ∧ Opp P Q) := by
      rintro ⟨k | k, k2⟩
      · have := p0 (Int.le_of_lt k.2) (show 0 ≤ a by omega); have := n0 (Int.le_of_lt k.1) (show 0 ≤ b by omega)
        have := p0 (Int.le_of_lt k.2) (show 0 ≤ a - u by omega); have := n0 (Int.le_of_lt k.1) (show 0 ≤ b - u by omega)
        unfold Opp at k2; omega
      · have := n0 (Int.le_of_lt k.2) (show 0 ≤ a by omega); have := p0 (Int.le_of_lt k.1) (show 0 ≤ b by omega)
        have := n0 (Int.le_of_lt k.2) (show 0 ≤ a - u by omega); have := p0 (Int.le_of_lt k.1) (show 0 ≤ b - u by omega)
        unfold Opp at k2; omega
    simp only [n, false_iff]
    clear n h5
    constructor
    · intro _; omega
    · intro _; omega
  by_cases ya : 0 < a
  · have hA := h1 ya (by omega)
    by_cases yb : b ≤ u
    · -- both between
      have hB := h2 (by omega) yb
      have d : Opp A B → Opp P Q := by
        intro k
        have k5 := fun e1 e2 => h5 e1 e2 k
        rcases k with k | k
        · have := pp k.2 ya; have := np k.1 (show 0 < b by omega)
          have : 0 < P := P1.2 (by omega)
          rcases Int.lt_or_eq_of_le (show a ≤ u by omega) with g | g
          · have := pn k.2 (show a - u < 0 by omega); have := q0 (Int.le_of_lt k.1) (show b - u ≤ 0 by omega)
            have : Q < 0 := Q2.2 (by omega)
            unfold Opp; omega
          · exact absurd (show b = u by omega) (k5 g)
        · have := np k.2 ya; have := pp k.1 (show 0 < b by omega)
          have : P < 0 := P2.2 (by omega)
          rcases Int.lt_or_eq_of_le (show a ≤ u by omega) with g | g
          · have := nng k.2 (show a - u < 0 by omega); have := m0 (Int.le_of_lt k.1) (show b - u ≤ 0 by omega)
            have : 0 < Q := Q1.2 (by omega)
            unfold Opp; omega
          · exact absurd (show b = u by omega) (k5 g)
      have e : (Opp A B ∧ Opp P Q) ↔ Opp A B := ⟨fun k => k.1, fun k => ⟨k, d k⟩⟩
      rw [e]
      clear d e h5 P1 P2 P3 Q1 Q2 Q3 h3 h4
      unfold Opp
      omega
    · -- a between, b above
      have hQ := h4 (by omega)
      have e : (Opp A B ∧ Opp P Q) ↔ ((A < 0 ∧ Q < 0) ∨ (0 < A ∧ 0 < Q)) := by
        rcases Int.lt_or_gt_of_ne hA with k | k
        · have t1 := np k (show 0 < b by omega)
          have t2 := np k (show 0 < b - u by omega)
          constructor
          · rintro ⟨o1 | o1, o2⟩
            · have := pp o1.2 ya
              have : 0 < P := P1.2 (by omega)
              unfold Opp at o2; omega
            · omega
          · intro o
            have hq : Q < 0 := by omega
            have hB : 0 < B := by
              rcases Int.lt_or_le 0 B with g | g
              · exact g
              · have := q0 g (show a - u ≤ 0 by omega)
                have := Q2.1 hq; omega
            have := pp hB ya
            have : 0 < P := P1.2 (by omega)
            unfold Opp; omega
        · have t1 := pp k (show 0 < b by omega)
          have t2 := pp k (show 0 < b - u by omega)
          constructor
          · rintro ⟨o1 | o1, o2⟩
            · omega
            · have := np o1.2 ya
              have : P < 0 := P2.2 (by omega)
              unfold Opp at o2; omega
          · intro o
            have hq : 0 < Q := by omega
            have hB : B < 0 := by
              rcases Int.lt_or_le B 0 with g | g
              · exact g
              · have := m0 g (show a - u ≤ 0 by omega)
                have := Q1.1 hq; omega
            have := np hB ya
            have : P < 0 := P2.2 (by omega)
            unfold Opp; omega
      rw [e]
      clear e h5 P1 P2 P3 Q1 Q2 Q3 h3 h4
      omega
  · by_cases yb : b ≤ u
    · -- a below, b between
      have hB := h2 (by omega) yb
      have hP := h3 (by omega)
      have e : (Opp A B ∧ Opp P Q) ↔ ((B < 0 ∧ P < 0) ∨ (0 < B ∧ 0 < P)) := by
        rcases Int.lt_or_gt_of_ne hB with k | k
        · have t1 := q0 (Int.le_of_lt k) (show a ≤ 0 by omega)
          have t2 := nng k (show a - u < 0 by omega)
          constructor
          · rintro ⟨o1 | o1, o2⟩
            · omega
            · have := m0 (Int.le_of_lt o1.1) (show b - u ≤ 0 by omega)
              have : 0 < Q := Q1.2 (by omega)
              unfold Opp at o2; omega
          · intro o
            have hp : P < 0 := by omega
            have hA : 0 < A := by
              rcases Int.lt_or_le 0 A with g | g
              · exact g
              · have := n0 g (show 0 ≤ b by omega)
                have := P2.1 hp; omega
            have := m0 (Int.le_of_lt hA) (show b - u ≤ 0 by omega)
            have : 0 < Q := Q1.2 (by omega)
            unfold Opp; omega
        · have t1 := m0 (Int.le_of_lt k) (show a ≤ 0 by omega)
          have t2 := pn k (show a - u < 0 by omega)
          constructor
          · rintro ⟨o1 | o1, o2⟩
            · have := q0 (Int.le_of_lt o1.1) (show b - u ≤ 0 by omega)
              have : Q < 0 := Q2.2 (by omega)
              unfold Opp at o2; omega
            · omega
          · intro o
            have hp : 0 < P := by omega
            have hA : A < 0 := by
              rcases Int.lt_or_le A 0 with g | g
              · exact g
              · have := p0 g (show 0 ≤ b by omega)
                have := P1.1 hp; omega
            have := q0 (Int.le_of_lt hA) (show b - u ≤ 0 by omega)
            have : Q < 0 := Q2.2 (by omega)
            unfold Opp; omega
      rw [e]
      clear e h5 P1 P2 P3 Q1 Q2 Q3 h3 h4
      omega
    · -- a below, b above
      have hP := h3 (by omega)
      have hQ := h4 (by omega)
      have d : Opp P Q → Opp A B := by
        rintro (k | k)
        · have f1 := P2.1 k.1
          have f2 := Q1.1 k.2
          have hA : 0 < A := by
            rcases Int.lt_or_le 0 A with g | g
            · exact g
            · have := n0 g (show 0 ≤ b by omega)
              have hB : 0 < B := by
                rcases Int.lt_or_le 0 B with g2 | g2
                · exact g2
                · have := q0 g2 (show a ≤ 0 by omega); omega
              have := m0 (Int.le_of_lt hB) (show a - u ≤ 0 by omega)
              have : B * a - B * (a - u) = B * u := by rw [← Int.mul_sub]; congr 1; omega
              have : A * b - A * (b - u) = A * u := by rw [← Int.mul_sub]; congr 1; omega
              have := pp hB hu
              have := n0 g (Int.le_of_lt hu)
              omega
          have := pp hA (show 0 < b by omega)
          have := pp hA (show 0 < b - u by omega)
          have hB : B < 0 := by
            rcases Int.lt_or_le B 0 with g2 | g2
            · exact g2
            · have := m0 g2 (show a - u ≤ 0 by omega); omega
          exact .inr ⟨hA, hB⟩
        · have f1 := P1.1 k.1
          have f2 := Q2.1 k.2
          have hA : A < 0 := by
            rcases Int.lt_or_le A 0 with g | g
            · exact g
            · have := p0 g (show 0 ≤ b by omega)
              have hB : B < 0 := by
                rcases Int.lt_or_le B 0 with g2 | g2
                · exact g2
                · have := m0 g2 (show a ≤ 0 by omega); omega
              have := q0 (Int.le_of_lt hB) (show a - u ≤ 0 by omega)
              have : B * a - B * (a - u) = B * u := by rw [← Int.mul_sub]; congr 1; omega
              have : A * b - A * (b - u) = A * u := by rw [← Int.mul_sub]; congr 1; omega
              have := np hB hu
              have := p0 g (Int.le_of_lt hu)
              omega
          have := np hA (show 0 < b by omega)
          have := np hA (show 0 < b - u by omega)
          have hB : 0 < B := by
            rcases Int.lt_or_le 0 B with g2 | g2
            · exact g2
            · have := q0 g2 (show a - u ≤ 0 by omega); omega
          exact .inl ⟨hA, hB⟩
      have e : (Opp A B ∧ Opp P Q) ↔ Opp P Q := ⟨fun k => k.2, fun k => ⟨d k, k⟩⟩
      rw [e]
      clear d e h5 P1 P2 P3 Q1 Q2 Q3 h3 h4 h1 h2
      unfold Opp
      omega
theorem core_x {u A B a b P Q : Int} (hu : 0 < u) (e1 : u * P = B * a - A * b) (e2 : u * Q = B * (a - u) - A * (b - u))
    (h1 : 0 < a → a ≤ u → A ≠ 0) (h2 : 0 < b → b ≤ u → B ≠ 0) (h3 : (a ≤ 0 ∧ 0 < b) ∨ (b ≤ 0 ∧ 0 < a) → P ≠ 0) (h4 : (a ≤ u ∧ u < b) ∨ (b ≤ u ∧ u < a) → Q ≠ 0)
    (h5 : a = u → b = u → ¬ Opp A B) :
    (((a ≤ 0 ∧ 0 < b ∧ 0 < P) ∨ (b ≤ 0 ∧ 0 < a ∧ P < 0)) ↔ ((a ≤ u ∧ u < b ∧ 0 < Q) ∨ (b ≤ u ∧ u < a ∧ Q < 0))) ↔
      ¬ ((Opp A B ∧ Opp P Q) ↔ ((0 < a ∧ a ≤ u ∧ A < 0) ↔ (0 < b ∧ b ≤ u ∧ B < 0))) := by
  rcases Int.le_total a b with h | h
  · exact core_le hu h e1 e2 h1 h2 h3 h4 h5
  · have := core_le (P := -P) (Q := -Q) (A := B) (B := A) hu h (by rw [Int.mul_neg, e1]; omega) (by rw [Int.mul_neg, e2]; omega) h2 h1
      (fun k => by have := h3 (by omega); omega) (fun k => by have := h4 (by omega); omega) (fun k1 k2 o => h5 k2 k1 (opp_symm.1 o))
    rw [opp_symm (A := B), opp_neg] at this
    have t1 : ((a ≤ 0 ∧ 0 < b ∧ 0 < P) ∨ (b ≤ 0 ∧ 0 < a ∧ P < 0)) ↔ ((b ≤ 0 ∧ 0 < a ∧ 0 < -P) ∨ (a ≤ 0 ∧ 0 < b ∧ -P < 0)) := by omega
    have t2 : ((a ≤ u ∧ u < b ∧ 0 < Q) ∨ (b ≤ u ∧ u < a ∧ Q < 0)) ↔ ((b ≤ u ∧ u < a ∧ 0 < -Q) ∨ (a ≤ u ∧ u < b ∧ -Q < 0)) := by omega
    rw [t1, t2, this, iff_comm (a := (0 < b ∧ b ≤ u ∧ B < 0))]
end Vd
end Go.Proofs.Ytcclepohmhdpbab

/- GEOMETRY, PLAINLY: an edge, and two points: rays against crossings. -/
namespace Go.Proofs.Ytcclepohmhdpbab
set_option linter.all false
namespace Vd
/-- The segment from p to q is crossed by the one from a to b, within both. -/
def Xs (p q a b : Pnt) : Prop := Opp (cr p q a 1) (cr p q b 1) ∧ Opp (cr a b p 1) (cr a b q 1)
instance (p q a b : Pnt) : Decidable (Xs p q a b) := by unfold Xs; infer_instance
def dR (p q v : Pnt) : Bool := decide (p.2 < v.2 ∧ v.2 ≤ q.2 ∧ cr p q v 1 < 0)
theorem ray_one (a b p : Pnt) : ray a b p 1 = decide ((a.2 - p.2 ≤ 0 ∧ 0 < b.2 - p.2 ∧ 0 < cr a b p 1) ∨ (b.2 - p.2 ≤ 0 ∧ 0 < a.2 - p.2 ∧ cr a b p 1 < 0)) := by
  unfold ray
  simp only [Int.mul_one, sg_pos, sg_neg]
  by_cases h1 : a.2 > p.2 <;> by_cases h2 : b.2 > p.2
  · rw [if_pos (by simp [h1, h2])]; symm; exact decide_eq_false (by omega)
  · rw [if_neg (by simp [h1, h2]), if_neg h2]; exact decide_eq_decide.2 (by omega)
  · rw [if_neg (by simp [h1, h2]), if_pos h2]; exact decide_eq_decide.2 (by omega)
  · rw [if_pos (by simp [h1, h2])]; symm; exact decide_eq_false (by omega)
/-- On a line, what lies between by height lies between by width. -/
theorem line_btw {u U x al : Int} (hu : 0 < u) (h0 : 0 ≤ al) (h1 : al ≤ u) (e : U * al = u * x) : btw 0 x U := by
  rcases Int.le_total 0 U with g | g
  · left
    have k1 := p0 g h0
    have k2 : U * al ≤ U * u := Int.mul_le_mul_of_nonneg_left h1 g
    rw [e] at k1 k2
    refine ⟨Int.nonneg_of_mul_nonneg_right k1 hu, ?_⟩
    rw [Int.mul_comm U u] at k2
    exact Int.le_of_mul_le_mul_left k2 hu
  · right
    have k1 := n0 g h0
    have k2 : U * u ≤ U * al := Int.mul_le_mul_of_nonpos_left g h1
    rw [e] at k1 k2
    rw [Int.mul_comm U u] at k2
    refine ⟨Int.le_of_mul_le_mul_left k2 hu, ?_⟩
    rcases Int.lt_or_le 0 x with g2 | g2
    · have := pp hu g2; omega
    · exact g2
/-- On the line from a to b, between their heights: on the segment. -/
theorem has_line_y {a b p : Pnt} (h0 : cr a b p 1 = 0) (h : (a.2 ≤ p.2 ∧ p.2 ≤ b.2 ∧ a.2 < b.2) ∨ (b.2 ≤ p.2 ∧ p.2 ≤ a.2 ∧ b.2 < a.2)) : has a b p 1 := by
  refine ⟨h0, ?_, by unfold btw; omega⟩
  unfold cr at h0
  rcases h with ⟨h1, h2, h3⟩ | ⟨h1, h2, h3⟩
  · have := line_btw (u := b.2 - a.2) (U := b.1 - a.1) (x := p.1 - a.1) (al := p.2 - a.2) (by omega) (by omega) (by omega) (by simp only [Int.mul_one] at h0; omega)
    unfold btw at *; omega
  · have := line_btw (u := a.2 - b.2) (U := b.1 - a.1) (x := p.1 - a.1) (al := a.2 - p.2) (by omega) (by omega) (by omega) (by
      simp only [Int.mul_one] at h0
      have e1 : (b.1 - a.1) * (a.2 - p.2) = - ((b.1 - a.1) * (p.2 - a.2)) := by grind
      have e2 : (a.2 - b.2) * (p.1 - a.1) = - ((b.2 - a.2) * (p.1 - a.1)) := by grind
      omega)
    unfold btw at *; omega
theorem cr_flat {p q a : Pnt} (h : a.2 = q.2) : cr p q a 1 = (q.2 - p.2) * (q.1 - a.1) := by unfold cr; rw [h]; grind
theorem bxor_of {r1 r2 x d1 d2 : Prop} [Decidable r1] [Decidable r2] [Decidable x] [Decidable d1] [Decidable d2] (h : (r1 ↔ r2) ↔ ¬ (x ↔ (d1 ↔ d2))) : (decide r1 ^^ decide r2) = (decide x ^^ (decide d1 ^^ decide d2)) := by
  by_cases c1 : r1 <;> by_cases c2 : r2 <;> by_cases c3 : x <;> by_cases c4 : d1 <;> by_cases c5 : d2 <;> simp_all
theorem edge_up {p q a b : Pnt} (hpq : p.2 < q.2) (ha : ¬ has p q a 1) (hb : ¬ has p q b 1) (hp : ¬ has a b p 1) (hq : ¬ has a b q 1) :
    (ray a b p 1 ^^ ray a b q 1) = (decide (Xs p q a b) ^^ (dR p q a ^^ dR p q b)) := by
  have key := core_x (u := q.2 - p.2) (A := cr p q a 1) (B := cr p q b 1) (a := a.2 - p.2) (b := b.2 - p.2) (P := cr a b p 1) (Q := cr a b q 1) (by omega)
    (by unfold cr; grind) (by unfold cr; grind)
    (fun h1 h2 e => ha (has_line_y e (by omega))) (fun h1 h2 e => hb (has_line_y e (by omega)))
    (fun h e => hp (has_line_y e (by omega))) (fun h e => hq (has_line_y e (by omega)))
    (fun h1 h2 o => hq (by
      have e1 := cr_flat (p := p) (q := q) (a := a) (by omega)
      have e2 := cr_flat (p := p) (q := q) (a := b) (by omega)
      rw [e1, e2] at o
      have s1 := sgn_of (u := q.2 - p.2) (P := q.1 - a.1) (by omega) rfl
      have s2 := sgn_of (u := q.2 - p.2) (P := q.1 - b.1) (by omega) rfl
      refine ⟨?_, ?_, by unfold btw; omega⟩
      · unfold cr; rw [show b.2 - a.2 = 0 by omega, show q.2 - a.2 * 1 = 0 by omega]; simp
      · unfold Opp at o; unfold btw; omega))
  rw [ray_one, ray_one]
  have t : ((a.2 - q.2 ≤ 0 ∧ 0 < b.2 - q.2 ∧ 0 < cr a b q 1) ∨ (b.2 - q.2 ≤ 0 ∧ 0 < a.2 - q.2 ∧ cr a b q 1 < 0)) ↔ ((a.2 - p.2 ≤ q.2 - p.2 ∧ q.2 - p.2 < b.2 - p.2 ∧ 0 < cr a b q 1) ∨ (b.2 - p.2 ≤ q.2 - p.2 ∧ q.2 - p.2 < a.2 - p.2 ∧ cr a b q 1 < 0)) := by omega
  have t1 : (p.2 < a.2 ∧ a.2 ≤ q.2 ∧ cr p q a 1 < 0) ↔ (0 < a.2 - p.2 ∧ a.2 - p.2 ≤ q.2 - p.2 ∧ cr p q a 1 < 0) := by omega
  have t2 : (p.2 < b.2 ∧ b.2 ≤ q.2 ∧ cr p q b 1 < 0) ↔ (0 < b.2 - p.2 ∧ b.2 - p.2 ≤ q.2 - p.2 ∧ cr p q b 1 < 0) := by omega
  unfold dR
  rw [decide_eq_decide.2 t, decide_eq_decide.2 t1, decide_eq_decide.2 t2]
  exact bxor_of key
theorem edge_flat {p q a b : Pnt} (hpq : p.2 = q.2) (ha : ¬ has p q a 1) (hb : ¬ has p q b 1) (hp : ¬ has a b p 1) (hq : ¬ has a b q 1) :
    (ray a b p 1 ^^ ray a b q 1) = decide (Xs p q a b) := by
  have eA : cr p q a 1 = (q.1 - p.1) * (a.2 - p.2) := by unfold cr; rw [hpq]; grind
  have eB : cr p q b 1 = (q.1 - p.1) * (b.2 - p.2) := by unfold cr; rw [hpq]; grind
  rw [ray_one, ray_one]
  unfold Xs
  have hP : (a.2 - p.2 ≤ 0 ∧ 0 < b.2 - p.2) ∨ (b.2 - p.2 ≤ 0 ∧ 0 < a.2 - p.2) → cr a b p 1 ≠ 0 := fun h e => hp (has_line_y e (by omega))
  have hQ : (a.2 - p.2 ≤ 0 ∧ 0 < b.2 - p.2) ∨ (b.2 - p.2 ≤ 0 ∧ 0 < a.2 - p.2) → cr a b q 1 ≠ 0 := fun h e => hq (has_line_y e (by omega))
  have key : Opp (cr a b p 1) (cr a b q 1) → ((a.2 - p.2 ≤ 0 ∧ 0 < b.2 - p.2) ∨ (b.2 - p.2 ≤ 0 ∧ 0 < a.2 - p.2)) → Opp (cr p q a 1) (cr p q b 1) := by
    intro o h
    have hne : q.1 - p.1 ≠ 0 := by
      intro e
      have : p = q := Prod.ext (by omega) hpq
      rw [this] at o; unfold Opp at o; omega
    -- neither end is at the height of p
    have ia : a.2 ≠ p.2 := by
      intro e
      have f1 : cr a b p 1 = - ((b.2 - a.2) * (p.1 - a.1)) := by unfold cr; rw [e]; grind
      have f2 : cr a b q 1 = - ((b.2 - a.2) * (q.1 - a.1)) := by unfold cr; rw [e, hpq]; grind
      have s1 := sgn_of (u := b.2 - a.2) (P := p.1 - a.1) (by omega) rfl
      have s2 := sgn_of (u := b.2 - a.2) (P := q.1 - a.1) (by omega) rfl
      rw [f1, f2] at o
      refine ha ⟨by rw [eA, e]; simp, ?_, by unfold btw; omega⟩
      unfold Opp at o; unfold btw; omega
    have ib : b.2 ≠ p.2 := by
      intro e
      have f1 : cr a b p 1 = - ((a.2 - b.2) * (b.1 - p.1)) := by unfold cr; rw [e]; grind
      have f2 : cr a b q 1 = - ((a.2 - b.2) * (b.1 - q.1)) := by unfold cr; rw [e, hpq]; grind
      have s1 := sgn_of (u := a.2 - b.2) (P := b.1 - p.1) (by omega) rfl
      have s2 := sgn_of (u := a.2 - b.2) (P := b.1 - q.1) (by omega) rfl
      rw [f1, f2] at o
      refine hb ⟨by rw [eB, e]; simp, ?_, by unfold btw; omega⟩
      unfold Opp at o; unfold btw; omega
    rw [eA, eB]
    have m1 := Int.lt_or_gt_of_ne hne
    rcases m1 with m | m <;> rcases h with h | h
    · exact .inr ⟨nng m (by omega), np m (by omega)⟩
    · exact .inl ⟨np m (by omega), nng m (by omega)⟩
    · exact .inl ⟨pn m (by omega), pp m (by omega)⟩
    · exact .inr ⟨pp m (by omega), pn m (by omega)⟩
  have back : Opp (cr p q a 1) (cr p q b 1) → ((a.2 - p.2 ≤ 0 ∧ 0 < b.2 - p.2) ∨ (b.2 - p.2 ≤ 0 ∧ 0 < a.2 - p.2)) := by
    intro o
    rw [eA, eB] at o
    rcases Int.lt_trichotomy (q.1 - p.1) 0 with m | m | m
    · have s1 := sgn_of (u := -(q.1 - p.1)) (P := a.2 - p.2) (by omega) rfl
      have s2 := sgn_of (u := -(q.1 - p.1)) (P := b.2 - p.2) (by omega) rfl
      rw [Int.neg_mul] at s1 s2
      unfold Opp at o; omega
    · rw [m] at o; unfold Opp at o; simp at o
    · have s1 := sgn_of (u := q.1 - p.1) (P := a.2 - p.2) (by omega) rfl
      have s2 := sgn_of (u := q.1 - p.1) (P := b.2 - p.2) (by omega) rfl
      unfold Opp at o; omega
  have k := bxor_of (r1 := (a.2 - p.2 ≤ 0 ∧ 0 < b.2 - p.2 ∧ 0 < cr a b p 1) ∨ (b.2 - p.2 ≤ 0 ∧ 0 < a.2 - p.2 ∧ cr a b p 1 < 0)) (r2 := (a.2 - q.2 ≤ 0 ∧ 0 < b.2 - q.2 ∧ 0 < cr a b q 1) ∨ (b.2 - q.2 ≤ 0 ∧ 0 < a.2 - q.2 ∧ cr a b q 1 < 0))
    (x := Opp (cr p q a 1) (cr p q b 1) ∧ Opp (cr a b p 1) (cr a b q 1)) (d1 := False) (d2 := False) (by
      by_cases h : (a.2 - p.2 ≤ 0 ∧ 0 < b.2 - p.2) ∨ (b.2 - p.2 ≤ 0 ∧ 0 < a.2 - p.2)
      · have g1 := hP h
        have g2 := hQ h
        have g3 := fun o => key o h
        have e : (Opp (cr p q a 1) (cr p q b 1) ∧ Opp (cr a b p 1) (cr a b q 1)) ↔ Opp (cr a b p 1) (cr a b q 1) := ⟨fun x => x.2, fun x => ⟨g3 x, x⟩⟩
        rw [e]
        clear e g3 key back hP hQ eA eB
        simp only [iff_self, iff_true]
        unfold Opp
        omega
      · have e : ¬ (Opp (cr p q a 1) (cr p q b 1) ∧ Opp (cr a b p 1) (cr a b q 1)) := fun x => h (back x.1)
        have r1 : ¬ ((a.2 - p.2 ≤ 0 ∧ 0 < b.2 - p.2 ∧ 0 < cr a b p 1) ∨ (b.2 - p.2 ≤ 0 ∧ 0 < a.2 - p.2 ∧ cr a b p 1 < 0)) := by omega
        have r2 : ¬ ((a.2 - q.2 ≤ 0 ∧ 0 < b.2 - q.2 ∧ 0 < cr a b q 1) ∨ (b.2 - q.2 ≤ 0 ∧ 0 < a.2 - q.2 ∧ cr a b q 1 < 0)) := by omega
        simp only [e, r1, r2]
        simp)
  rw [k]
  rw [show (decide False ^^ decide False) = false from rfl, Bool.xor_false]
theorem xs_swap {p q a b : Pnt} : Xs q p a b ↔ Xs p q a b := by
  unfold Xs
  rw [cr_swap p q a 1, cr_swap p q b 1, opp_neg, opp_symm (A := cr a b q 1)]
/-- From a ring's fold: the bits that run round. -/
def dRs (p q v : Pnt) : Bool := if p.2 < q.2 then dR p q v else if q.2 < p.2 then dR q p v else false
theorem edge_any {p q a b : Pnt} (ha : ¬ has p q a 1) (hb : ¬ has p q b 1) (hp : ¬ has a b p 1) (hq : ¬ has a b q 1) :
    (ray a b p 1 ^^ ray a b q 1) = (decide (Xs p q a b) ^^ (dRs p q a ^^ dRs p q b)) := by
  unfold dRs
  rcases Int.lt_trichotomy p.2 q.2 with h | h | h
  · rw [if_pos h, if_pos h]; exact edge_up h ha hb hp hq
  · rw [if_neg (by omega), if_neg (by omega), if_neg (by omega), if_neg (by omega), edge_flat h ha hb hp hq]; simp
  · rw [if_neg (by omega), if_pos h, if_neg (by omega), if_pos h]
    rw [Bool.xor_comm, edge_up h (fun k => ha (has_swap.1 k)) (fun k => hb (has_swap.1 k)) hq hp, decide_eq_decide.2 xs_swap]
end Vd
end Go.Proofs.Ytcclepohmhdpbab
