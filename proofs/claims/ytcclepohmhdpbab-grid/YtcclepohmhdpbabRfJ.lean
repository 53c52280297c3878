/- THE DOCUMENT's WALKS: cut. -/
import Derived.Test.YtcclepohmhdpbabRfL
namespace Go.Proofs.Ytcclepohmhdpbab
set_option linter.all false
open Go.RowKit Go.Deep

theorem dropLast_at {r : Ring} {q : Nat} {p : Pnt} (h : q + 1 < r.length) (hp : r[q]? = some p) : r.dropLast[q]? = some p := by
  rw [List.getElem?_dropLast, if_pos (by omega)]; exact hp
theorem in_take {T : List Pnt} {t : Nat} {a : Pnt} {p : Pnt} (h : T[t]? = some a) : decide (p ∈ T.take (t + 1)) = (decide (p ∈ T.take t) || decide (a = p)) := by
  rw [Pl.take_one h]
  apply Bool.eq_iff_iff.2
  simp only [decide_eq_true_eq, Bool.or_eq_true, List.mem_append, List.mem_singleton]
  constructor
  · rintro (h | h); exact .inl h; exact .inr h.symm
  · rintro (h | h); exact .inl h; exact .inr h.symm

theorem tabM_out {M : List (List Bool)} {r k : Nat} (h : M.length ≤ r) : tabM M r k = false := by unfold tabM; rw [List.getElem?_eq_none h]; rfl
theorem tabM_far {M : List (List Bool)} {r k n : Nat} (hr : ∀ (i : Nat) (m : List Bool), M[i]? = some m → m.length = n) (h : n ≤ k) : tabM M r k = false := by
  unfold tabM
  cases hm : M[r]? with
  | none => rfl
  | some m => simp [List.getElem?_eq_none (show m.length ≤ k by rw [hr r m hm]; exact h)]
theorem touchT_no {M : List (List Bool)} {r k t : Nat} (h : touchT M r k t = false) (ht : M.length ≤ t) : ∀ s, s ≠ r → tabM M s k = false := by
  intro s hs
  by_cases c : s < t
  · cases q : tabM M s k with
    | false => rfl
    | true =>
      have := Vd.anyI_true (f := fun s => decide (s ≠ r) && tabM M s k) c (by simp [hs, q])
      unfold touchT at h
      rw [h] at this; cases this
  · exact tabM_out (by omega)
theorem touchT_yes {M : List (List Bool)} {r k : Nat} : ∀ {t : Nat}, touchT M r k t = true → ∃ s, s ≠ r ∧ tabM M s k = true
  | 0, h => by cases h
  | t + 1, h => by
    rw [touchT_succ, Bool.or_eq_true, Bool.and_eq_true] at h
    rcases h with h | ⟨h1, h2⟩
    · exact touchT_yes h
    · exact ⟨t, of_decide_eq_true h1, h2⟩

end Go.Proofs.Ytcclepohmhdpbab
