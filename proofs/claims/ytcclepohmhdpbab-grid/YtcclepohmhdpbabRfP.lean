/- THE DOCUMENT's WALKS: Clause, Valid. -/
import Derived.Test.YtcclepohmhdpbabRfO
import Derived.Test.YtcclepohmhdpbabClL
namespace Go.Proofs.Ytcclepohmhdpbab
set_option linter.all false
open Go.RowKit Go.Deep

theorem pAt_get {m : Mult} {p : Nat} (h : p < m.length) : m[p]? = some (Vd.pAt m p) := by
  obtain ⟨l, hl⟩ := Pl.some_of_lt h
  rw [hl, pAt_some hl]
theorem any_pAt (m : Mult) (f : Poly → Bool) : m.any f = Vd.anyI m.length fun i => f (Vd.pAt m i) := by
  apply Vd.bool_iff
  rw [List.any_eq_true, Vd.anyI_iff]
  constructor
  · rintro ⟨r, hr, h⟩
    obtain ⟨i, hi⟩ := List.getElem?_of_mem hr
    exact ⟨i, Pl.lt_of_some hi, by rw [pAt_some hi]; exact h⟩
  · rintro ⟨i, hi, h⟩; exact ⟨_, Vd.pAt_mem hi, h⟩
theorem pz_of {m : Mult} (hz : Sz m) (hg : Vd.Good m) : ∀ l ∈ m, PZ l := fun l hl => ⟨hz.poly l hl, hz.ring l hl, hz.flat l hl, hz.cd l hl, hg.shut l hl, hg.ne l hl⟩

/-- What a clause asks, by its number. -/
def badK (m : Mult) (k : Nat) : Bool := if k = 5 then Vd.overlap m else Vd.badC k m
theorem c4_eq {m : Mult} (hl : ∀ l ∈ m, ∀ r ∈ l, Vd.Long r) : Vd.badC 4 m = m.any partD := by
  unfold Vd.badC
  refine Vd.any_congr fun l h => ?_
  unfold Vd.holdsC
  rw [if_neg (by decide), if_neg (by decide), if_neg (by decide), Bool.not_not]
  exact Vd.bool_iff ((Vd.core_eq (hl l h)).trans (partD_iff l).symm)
theorem least_bad {m : Mult} {k : Nat} (hk : k < 5) (h : ∀ j, 1 ≤ j → j ≤ k → badK m j = false) (hb : badK m (k + 1) = true) : Vd.least m = (k : Int) + 1 := by
  have e : ∀ j, j ≤ k → badK m j = Vd.badC j m := fun j hj => by unfold badK; rw [if_neg (by omega)]
  rcases Nat.lt_or_ge k 4 with h4 | h4
  · refine least_at h4 (fun j h1 h2 => by rw [← e j h2]; exact h j h1 h2) ?_
    unfold badK at hb; rw [if_neg (by omega)] at hb; exact hb
  · have hk4 : k = 4 := by omega
    subst hk4
    rw [least_last fun j h1 h2 => by rw [← e j h2]; exact h j h1 h2]
    have : Vd.overlap m = true := hb
    rw [if_pos this]; rfl
theorem least_none {m : Mult} (h : ∀ j, 1 ≤ j → j ≤ 5 → badK m j = false) : Vd.least m = 0 := by
  rw [least_last fun j h1 h2 => by have := h j h1 (by omega); unfold badK at this; rw [if_neg (by omega)] at this; exact this]
  have : Vd.overlap m = false := h 5 (by omega) (by omega)
  rw [this]; rfl

end Go.Proofs.Ytcclepohmhdpbab
