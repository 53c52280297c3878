/- THE DOCUMENT's WALKS: points, In. -/
import Derived.Test.YtcclepohmhdpbabRfD
import Derived.Test.YtcclepohmhdpbabClK
namespace Go.Proofs.Ytcclepohmhdpbab
set_option linter.all false
open Go.RowKit Go.Deep

theorem any_drop {α : Type} {f : α → Bool} {l : List α} {k : Nat} {x : α} (h : l[k]? = some x) : (l.drop k).any f = (f x || (l.drop (k + 1)).any f) := by rw [drop_at h, List.any_cons]
theorem any_done {α : Type} {f : α → Bool} {l : List α} {k : Nat} (h : l.length ≤ k) : (l.drop k).any f = false := by rw [List.drop_eq_nil_of_le h]; rfl
theorem crossD_of {s t : Vd.Seg} {M : Int} {X : Bool} (h : Vd.common s.1 s.2 t.1 t.2 = (M, X)) : Vd.crossD s t = (decide (M = 2) || X) := by unfold Vd.crossD; rw [h]

/-! ### In -/
theorem inL_zero {s : Int} {r : Ring} {t : List Ring} {p : Vd.Spot} (h : Vd.inRing r p = 0) (hs : 0 ≤ s) : Vd.inL s (r :: t) p = 0 := by unfold Vd.inL; rw [if_pos ⟨h, hs⟩]
theorem inL_one {s : Int} {r : Ring} {t : List Ring} {p : Vd.Spot} (h : Vd.inRing r p = 1) : Vd.inL s (r :: t) p = -1 := by unfold Vd.inL; rw [if_neg (by rw [h]; omega), if_pos h]
theorem inL_go {s : Int} {r : Ring} {t : List Ring} {p : Vd.Spot} (h : ¬ (Vd.inRing r p = 0 ∧ 0 ≤ s)) (h1 : Vd.inRing r p ≠ 1) : Vd.inL s (r :: t) p = Vd.inL s t p := by conv => lhs; unfold Vd.inL; rw [if_neg h, if_neg h1]
/-- Lists of rings that lie from a place of their block on. -/
def Rdo (o : Nat) (w : World) (v : Value) (l : Poly) : Prop :=
  ∃ ao cap, v = .slice ao l.length cap ∧ ∀ i r, l[i]? = some r → ∃ b u, ao = some ⟨b, o, none⟩ ∧ w.cell? ⟨b, o + i, none⟩ = some u ∧ Rd1 w u r
theorem Rdo.up {o : Nat} {w w' : World} {v : Value} {l : Poly} (h : Rdo o w v l) (k : Up w w') : Rdo o w' v l := by
  obtain ⟨ao, cap, e, h⟩ := h
  exact ⟨ao, cap, e, fun i p hp => by obtain ⟨b, u, e1, c, q⟩ := h i p hp; exact ⟨b, u, e1, k.cell c, q.up k⟩⟩
theorem Rd2.o {w : World} {v : Value} {l : Poly} (h : Rd2 w v l) : Rdo 0 w v l := by
  obtain ⟨ao, cap, e, h⟩ := h
  exact ⟨ao, cap, e, fun i p hp => by obtain ⟨b, u, e1, c, q⟩ := h i p hp; exact ⟨b, u, e1, by rw [Nat.zero_add]; exact c, q⟩⟩
end Go.Proofs.Ytcclepohmhdpbab
