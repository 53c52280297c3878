/- THE DOCUMENT's WALKS: poly, the clause of the holes. -/
import Derived.Test.YtcclepohmhdpbabRfM
namespace Go.Proofs.Ytcclepohmhdpbab
set_option linter.all false
open Go.RowKit Go.Deep

def dnG (l : Poly) (i j : Nat) : Bool := decide (j ≠ i) && !(Vd.allD (Vd.rAt l i) [Vd.rAt l j] (Vd.nestD j))
def dnF (l : Poly) (i : Nat) : Bool := decide (1 ≤ i) && Vd.anyI l.length (dnG l i)
theorem dnG_same (l : Poly) (i : Nat) : dnG l i i = false := by unfold dnG; simp
theorem dnG_zero {l : Poly} {i : Nat} (h : 0 ≠ i) {r o : Ring} (hr : l[i]? = some r) (ho : l[0]? = some o) : dnG l i 0 = !(Vd.allD r [o] 1) := by unfold dnG; rw [decide_eq_true h, rAt_some hr, rAt_some ho]; rfl
theorem dnG_at {l : Poly} {i j : Nat} (h : j ≠ i) (h0 : j ≠ 0) {r o : Ring} (hr : l[i]? = some r) (ho : l[j]? = some o) : dnG l i j = !(Vd.allD r [o] (-1)) := by unfold dnG Vd.nestD; rw [decide_eq_true h, rAt_some hr, rAt_some ho, if_neg h0]; rfl
end Go.Proofs.Ytcclepohmhdpbab
