/- THE DOCUMENT's WALKS: poly, the clauses of the rings. -/
import Derived.Test.YtcclepohmhdpbabRfG
import Derived.Test.YtcclepohmhdpbabRfJ
import Derived.Test.YtcclepohmhdpbabClJ
import Derived.Test.YtcclepohmhdpbabRcx
namespace Go.Proofs.Ytcclepohmhdpbab
set_option linter.all false
open Go.RowKit Go.Deep

theorem Rc2.one {w : World} {b : Nat} {l : Poly} (h : ∀ i r, l[i]? = some r → ∃ b' u, some (⟨b, 0, none⟩ : Addr) = some ⟨b', 0, none⟩ ∧ w.cell? ⟨b', i, none⟩ = some u ∧ Rd1 w u r) {i : Nat} {r : Ring} (hi : l[i]? = some r) (c : Nat) : Rdo i w (.slice (some ⟨b, i, none⟩) 1 c) [r] := by
  refine ⟨_, c, rfl, fun j x hx => ?_⟩
  cases j with
  | zero =>
    simp at hx; subst hx
    obtain ⟨b', u, e, cu, q⟩ := h i r hi
    cases e
    exact ⟨b, u, rfl, cu, q⟩
  | succ j => simp at hx
/-- What a polygon of a set is, for poly. -/
structure PZ (l : Poly) : Prop where
  len : l.length ≤ 1048576
  ring : ∀ r ∈ l, r.length ≤ 1048575
  flat : l.flatten.length ≤ 1048575
  cd : Vd.CdL l
  shut : ∀ r ∈ l, Vd.Shut r
  ne : l ≠ []
def dcF (l : Poly) (i : Nat) : Bool := !(Vd.cleanD (Vd.rAt l i))
theorem any_rAt (l : Poly) (f : Ring → Bool) : l.any f = Vd.anyI l.length fun i => f (Vd.rAt l i) := by
  apply Vd.bool_iff
  rw [List.any_eq_true, Vd.anyI_iff]
  constructor
  · rintro ⟨r, hr, h⟩
    obtain ⟨i, hi⟩ := List.getElem?_of_mem hr
    exact ⟨i, Pl.lt_of_some hi, by rw [rAt_some hi]; exact h⟩
  · rintro ⟨i, hi, h⟩; exact ⟨_, Vd.rAt_mem hi, h⟩

/-! ### two rings -/
def dpG (l : Poly) (i j : Nat) : Bool := decide (j ≠ i) && !(Vd.pointsD (Vd.rAt l i) (Vd.rAt l j))
def dpF (l : Poly) (i : Nat) : Bool := Vd.anyI l.length (dpG l i)
theorem dpG_same (l : Poly) (i : Nat) : dpG l i i = false := by unfold dpG; simp
theorem dpG_at {l : Poly} {i j : Nat} (h : j ≠ i) {r o : Ring} (hr : l[i]? = some r) (ho : l[j]? = some o) : dpG l i j = !(Vd.pointsD r o) := by unfold dpG; rw [decide_eq_true h, rAt_some hr, rAt_some ho]; rfl
theorem anyI_more {n q : Nat} {f : Nat → Bool} (h : Vd.anyI q f = true) (hq : q ≤ n) : Vd.anyI n f = true := by
  obtain ⟨i, hi, hf⟩ := Vd.anyI_iff.1 h
  exact Vd.anyI_true (by omega) hf
end Go.Proofs.Ytcclepohmhdpbab
