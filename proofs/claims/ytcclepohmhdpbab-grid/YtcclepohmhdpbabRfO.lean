/- THE DOCUMENT's WALKS: poly, the clause of the polygons, and of the cut. -/
import Derived.Test.YtcclepohmhdpbabRfN
namespace Go.Proofs.Ytcclepohmhdpbab
set_option linter.all false
open Go.RowKit Go.Deep

def dqP (r : Ring) (s : Ring) : Bool := !(Vd.pointsD r s)
def dqX (r : Ring) (l : Poly) : Bool := l.any (dqP r) || !(Vd.allD r l (-1))
def dqH (m : Mult) (p : Nat) (r : Ring) (k : Nat) : Bool := decide (k ≠ p) && dqX r (Vd.pAt m k)
def dqF (m : Mult) (p : Nat) (l : Poly) (i : Nat) : Bool := Vd.anyI m.length (dqH m p (Vd.rAt l i))
theorem dqH_same (m : Mult) (p : Nat) (r : Ring) : dqH m p r p = false := by unfold dqH; simp
theorem dqH_at {m : Mult} {p k : Nat} (h : k ≠ p) {r : Ring} {l : Poly} (hl : m[k]? = some l) : dqH m p r k = dqX r l := by unfold dqH; rw [decide_eq_true h, pAt_some hl]; rfl
theorem any_more {α : Type} {f : α → Bool} {l : List α} {q : Nat} (h : (l.take q).any f = true) : l.any f = true := by
  obtain ⟨x, hx, hf⟩ := List.any_eq_true.1 h
  exact List.any_eq_true.2 ⟨x, List.mem_of_mem_take hx, hf⟩
/-- Is a polygon in one piece? -/
noncomputable def partD (l : Poly) : Bool := @decide (Vd.docCore l) (Classical.propDecidable _)
theorem partD_iff (l : Poly) : partD l = true ↔ Vd.docCore l := @decide_eq_true_iff _ (Classical.propDecidable _)
end Go.Proofs.Ytcclepohmhdpbab
