/- THE DOCUMENT's WALKS: ways, products, on. -/
import Derived.Test.YtcclepohmhdpbabPnF
import Derived.Test.YtcclepohmhdpbabGeB
namespace Go.Proofs.Ytcclepohmhdpbab
set_option linter.all false
open Go.RowKit Go.Deep

def Bdd (A : Int) (u : Pnt) : Prop := (-A ≤ u.1 ∧ u.1 ≤ A) ∧ -A ≤ u.2 ∧ u.2 ≤ A
def subP (a b : Pnt) : Pnt := (b.1 - a.1, b.2 - a.2)
def timesP (u v : Pnt) : Int := u.1 * v.2 - u.2 * v.1
def dotP (u v : Pnt) : Int := u.1 * v.1 + u.2 * v.2
theorem cd_bdd {p : Pnt} (h : Vd.Cd p) : Bdd 32768 p := by unfold Vd.Cd at h; unfold Bdd; omega
theorem sub_bdd {p q : Pnt} (h : Vd.Cd p) (k : Vd.Cd q) : Bdd 65536 (subP p q) := by unfold Vd.Cd at h k; unfold Bdd subP; simp only; omega
theorem bdd_mono {A B : Int} {u : Pnt} (h : Bdd A u) (k : A ≤ B) : Bdd B u := by unfold Bdd at *; omega

/-! ### on -/
def onB (a b : Pnt) (p : Vd.Spot) : Bool := decide (Vd.on a b p.1 p.2)
theorem on_of (a b : Pnt) (p : Vd.Spot) : onB a b p = (decide (timesP (subP a b) (p.1.1 - a.1 * p.2, p.1.2 - a.2 * p.2) = 0) && (decide (0 ≤ dotP (p.1.1 - a.1 * p.2, p.1.2 - a.2 * p.2) (subP a b)) && decide (dotP (p.1.1 - a.1 * p.2, p.1.2 - a.2 * p.2) (subP a b) ≤ dotP (subP a b) (subP a b) * p.2))) := by
  unfold onB
  apply Bool.eq_iff_iff.2
  simp only [Bool.and_eq_true, decide_eq_true_eq]
  exact Iff.rfl

end Go.Proofs.Ytcclepohmhdpbab
