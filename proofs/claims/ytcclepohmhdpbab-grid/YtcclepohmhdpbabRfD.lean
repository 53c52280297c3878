/- THE DOCUMENT's WALKS: clean. -/
import Derived.Test.YtcclepohmhdpbabRfC
import Derived.Test.YtcclepohmhdpbabClB
namespace Go.Proofs.Ytcclepohmhdpbab
set_option linter.all false
open Go.RowKit Go.Deep

def tdG (r : Ring) (i j : Nat) : Bool := decide (Vd.ptAt r i = Vd.ptAt r j)
def tdF (r : Ring) (i : Nat) : Bool := Vd.anyI i (tdG r i)
theorem twiceD_F {r : Ring} {n : Nat} (h : r.length = n + 1) : Vd.twiceD r = Vd.anyI n (tdF r) := by unfold Vd.twiceD; rw [h]; rfl
def sdG (r : Ring) (n i j : Nat) : Bool := Vd.badK (Vd.nextD2 n i j) (Vd.common (Vd.ptAt r i) (Vd.ptAt r (i + 1)) (Vd.ptAt r j) (Vd.ptAt r (j + 1))).1
def sdF (r : Ring) (n i : Nat) : Bool := Vd.anyI i (sdG r n i)
theorem selfD_F {r : Ring} {n : Nat} (h : r.length = n + 1) : Vd.selfD r = Vd.anyI n (sdF r n) := by unfold Vd.selfD; rw [h]; rfl
theorem ptAt_of {r : Ring} {i : Nat} {p : Pnt} (h : r[i]? = some p) : Vd.ptAt r i = p := by unfold Vd.ptAt; rw [List.getD_eq_getElem?_getD, h]; rfl
theorem tdG_at {r : Ring} {i j : Nat} {a b c d : Int} (hi : r[i]? = some (a, b)) (hj : r[j]? = some (c, d)) : tdG r i j = (decide (a = c) && decide (b = d)) := by
  unfold tdG
  rw [ptAt_of hi, ptAt_of hj]
  by_cases h1 : a = c <;> by_cases h2 : b = d <;> simp [h1, h2]
theorem next_cases (n i j : Nat) : (j + 1 = i ∧ Vd.nextD2 n i j = true) ∨ (j + 1 ≠ i ∧ j = 0 ∧ i + 1 = n ∧ Vd.nextD2 n i j = true) ∨ (j + 1 ≠ i ∧ j = 0 ∧ i + 1 ≠ n ∧ Vd.nextD2 n i j = false) ∨ (j + 1 ≠ i ∧ j ≠ 0 ∧ Vd.nextD2 n i j = false) := by
  unfold Vd.nextD2
  by_cases h1 : j + 1 = i <;> by_cases h2 : j = 0 <;> by_cases h3 : i + 1 = n <;> simp [h1, h2, h3] <;> omega

end Go.Proofs.Ytcclepohmhdpbab
