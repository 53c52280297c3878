/- THE DOCUMENT's WALKS: inRing. -/
import Derived.Test.YtcclepohmhdpbabRfA
namespace Go.Proofs.Ytcclepohmhdpbab
set_option linter.all false
open Go.RowKit Go.Deep

theorem inRingL_on {s : Vd.Seg} {l : List Vd.Seg} {i : Bool} {p : Vd.Spot} (h : onB s.1 s.2 p = true) : Vd.inRingL (s :: l) i p = 0 := by unfold Vd.inRingL; rw [if_pos (of_decide_eq_true h)]
theorem inRingL_go {s : Vd.Seg} {l : List Vd.Seg} {i : Bool} {p : Vd.Spot} (h : onB s.1 s.2 p = false) : Vd.inRingL (s :: l) i p = Vd.inRingL l (if Vd.rayD s.1 s.2 p.1 p.2 = true then !i else i) p := by conv => lhs; unfold Vd.inRingL; rw [if_neg (of_decide_eq_false h)]
theorem two_set {w : World} {g : Nat} {p : Addr} {v x y : Value} (h : w.cell? p = some v) (hg : p.block ≠ g) : ((w.setCell ⟨g, 0, none⟩ x).setCell ⟨g, 1, none⟩ y).cell? p = some v := by
  rw [World.cell?_of_block (Below.heap_setCell _ _ _ _ hg), World.cell?_of_block (Below.heap_setCell _ _ _ _ hg)]; exact h
theorem rayD_at {a b p : Pnt} {w : Int} {lo hi : Pnt} (hlo : lo = if a.2 > b.2 then b else a) (hhi : hi = if a.2 > b.2 then a else b) : Vd.rayD a b p w = (decide (lo.2 * w ≤ p.2 ∧ p.2 < hi.2 * w) && decide (Vd.cr lo hi p w > 0)) := by subst hlo hhi; rfl

end Go.Proofs.Ytcclepohmhdpbab
