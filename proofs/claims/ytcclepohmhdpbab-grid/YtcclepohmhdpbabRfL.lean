/- THE DOCUMENT's WAY ROUND: the steps of the thinning, plainly. -/
import Derived.Test.YtcclepohmhdpbabRfK
namespace Go.Proofs.Ytcclepohmhdpbab
set_option linter.all false
namespace Vd
/-- rings below r stand, in both ways. -/
def Upto (M : Nat → Nat → Bool) (r : Nat) : Prop := ∀ s, s < r → (∀ k, M s k = true → ∃ s', s' ≠ s ∧ M s' k = true) ∧ (∀ k, M s k = true → ∃ j, j ≠ k ∧ M s j = true)
/-- points below k of ring r are shared. -/
def Shared (M : Nat → Nat → Bool) (r k : Nat) : Prop := ∀ j, j < k → M r j = true → ∃ s, s ≠ r ∧ M s j = true
theorem shared_zero (M : Nat → Nat → Bool) (r : Nat) : Shared M r 0 := fun j h => absurd h (by omega)
theorem Shared.step {M : Nat → Nat → Bool} {r k : Nat} (h : Shared M r k) (hk : M r k = true → ∃ s, s ≠ r ∧ M s k = true) : Shared M r (k + 1) := fun j hj hm => by
  by_cases e : j = k
  · subst e; exact hk hm
  · exact h j (by omega) hm
/-- how many of the first k places of a row are true (0, 1, more), and the last of them. -/
structure NA (f : Nat → Bool) (k n at_ : Nat) : Prop where
  le : n ≤ k
  zero : n = 0 → ∀ j, j < k → f j = false
  one : n = 1 → ∀ j, j < k → j ≠ at_ → f j = false
  pos : 1 ≤ n → at_ < k ∧ f at_ = true
  two : 2 ≤ n → ∃ i j, i ≠ j ∧ i < k ∧ j < k ∧ f i = true ∧ f j = true
theorem NA.start (f : Nat → Bool) : NA f 0 0 0 := ⟨Nat.le_refl _, fun _ j h => absurd h (by omega), fun h => absurd h (by omega), fun h => absurd h (by omega), fun h => absurd h (by omega)⟩
theorem NA.yes {f : Nat → Bool} {k n a : Nat} (h : NA f k n a) (hk : f k = true) : NA f (k + 1) (n + 1) k := by
  refine ⟨by have := h.le; omega, fun e => absurd e (by omega), ?_, fun _ => ⟨by omega, hk⟩, ?_⟩
  · intro e j hj hne
    exact h.zero (by omega) j (by omega)
  · intro e
    obtain ⟨h1, h2⟩ := h.pos (by omega)
    exact ⟨a, k, by omega, by omega, by omega, h2, hk⟩
theorem NA.no {f : Nat → Bool} {k n a : Nat} (h : NA f k n a) (hk : f k = false) : NA f (k + 1) n a := by
  refine ⟨by have := h.le; omega, ?_, ?_, fun e => ⟨by have := (h.pos e).1; omega, (h.pos e).2⟩, ?_⟩
  · intro e j hj
    by_cases q : j = k
    · rw [q]; exact hk
    · exact h.zero e j (by omega)
  · intro e j hj hne
    by_cases q : j = k
    · rw [q]; exact hk
    · exact h.one e j (by omega) hne
  · intro e
    obtain ⟨i, j, q1, q2, q3, q4, q5⟩ := h.two e
    exact ⟨i, j, q1, by omega, by omega, q4, q5⟩
/-- the count looks at the first k places only. -/
theorem NA.congr {f g : Nat → Bool} {k n a : Nat} (h : NA f k n a) (e : ∀ j, j < k → g j = f j) : NA g k n a := by
  refine ⟨h.le, fun q j hj => by rw [e j hj]; exact h.zero q j hj, fun q j hj hne => by rw [e j hj]; exact h.one q j hj hne, fun q => ⟨(h.pos q).1, by rw [e _ (h.pos q).1]; exact (h.pos q).2⟩, fun q => ?_⟩
  obtain ⟨i, j, q1, q2, q3, q4, q5⟩ := h.two q
  exact ⟨i, j, q1, q2, q3, by rw [e i q2]; exact q4, by rw [e j q3]; exact q5⟩
/-- the whole row, not with one: each has another. -/
theorem NA.ring {f : Nat → Bool} {k n a : Nat} (h : NA f k n a) (hn : n ≠ 1) (hf : ∀ j, k ≤ j → f j = false) : ∀ j, f j = true → ∃ i, i ≠ j ∧ f i = true := by
  intro j hj
  have hjk : j < k := by
    rcases Nat.lt_or_ge j k with q | q
    · exact q
    · rw [hf j q] at hj; cases hj
  rcases Nat.lt_or_ge n 2 with q | q
  · rw [h.zero (by omega) j hjk] at hj; cases hj
  · obtain ⟨x, y, q1, q2, q3, q4, q5⟩ := h.two q
    by_cases e : x = j
    · exact ⟨y, by rw [← e]; exact fun q => q1 q.symm, q5⟩
    · exact ⟨x, e, q4⟩
theorem Upto.step {M : Nat → Nat → Bool} {r : Nat} (h : Upto M r) (h1 : ∀ k, M r k = true → ∃ s, s ≠ r ∧ M s k = true) (h2 : ∀ k, M r k = true → ∃ j, j ≠ k ∧ M r j = true) : Upto M (r + 1) := fun s hs => by
  by_cases e : s = r
  · subst e; exact ⟨h1, h2⟩
  · exact h s (by omega)
end Vd
/-! ### fewer stand -/
theorem countP_set_lt : ∀ (m : List Bool) (k : Nat), m[k]? = some true → (m.set k false).countP id < m.countP id
  | [], k, h => by simp at h
  | x :: m, 0, h => by
    simp only [List.getElem?_cons_zero, Option.some.injEq] at h
    subst h
    simp [List.countP_cons]
  | x :: m, k + 1, h => by
    have := countP_set_lt m k (by simpa using h)
    simp only [List.set_cons_succ, List.countP_cons]
    omega
theorem cnt_strike : ∀ (M : List (List Bool)) (r k : Nat) (m : List Bool), M[r]? = some m → m[k]? = some true → cnt (M.set r (m.set k false)) < cnt M
  | [], r, k, m, h, _ => by simp at h
  | x :: M, 0, k, m, h, hk => by
    simp only [List.getElem?_cons_zero, Option.some.injEq] at h
    subst h
    have := countP_set_lt x k hk
    simp only [cnt, List.set_cons_zero, List.map_cons, List.sum_cons]
    omega
  | x :: M, r + 1, k, m, h, hk => by
    have := cnt_strike M r k m (by simpa using h) hk
    simp only [cnt, List.set_cons_succ, List.map_cons, List.sum_cons] at *
    omega
theorem tabM_row {M : List (List Bool)} {r k : Nat} (h : tabM M r k = true) : ∃ m, M[r]? = some m ∧ m[k]? = some true := by
  unfold tabM at h
  cases hm : M[r]? with
  | none => rw [hm] at h; simp at h
  | some m =>
    rw [hm] at h
    simp only [Option.bind_some] at h
    cases hk : m[k]? with
    | none => rw [hk] at h; simp at h
    | some b => rw [hk] at h; simp at h; subst h; exact ⟨m, rfl, hk⟩
/-- what stands of a point k in another ring than r. -/
def touchT (M : List (List Bool)) (r k t : Nat) : Bool := Vd.anyI t fun s => decide (s ≠ r) && tabM M s k
theorem touchT_succ (M : List (List Bool)) (r k t : Nat) : touchT M r k (t + 1) = (touchT M r k t || (decide (t ≠ r) && tabM M t k)) := by unfold touchT; rw [Vd.anyI_succ]
end Go.Proofs.Ytcclepohmhdpbab
