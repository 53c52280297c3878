/- THE WALKS: the document's side: less of the same. -/
import Derived.Test.YtcclepohmhdpbaaWalkC
import Derived.Deep.DeepCutAuto
namespace Go.Proofs.Ytcclepohmhdpbaa
set_option linter.all false
open Go.RowKit Go.Deep

/-- The points are a set's, without spare room. -/
theorem OK2.header {w : World} {d : D2} (h : OK2 w d) (hb : d.bare) {i : Nat} {x : D1} (hx : d.rs[i]? = some x) : w.cell? ⟨d.b, i, none⟩ = some (.slice (some ⟨x.b, 0, none⟩) x.r.length x.r.length) := by
  have hx' : (d.rs ++ d.s)[i]? = some x := by rw [List.getElem?_append_left (Pl.lt_of_some hx)]; exact hx
  have := h.row.cell (i := i) (v := x.v) (by simp only [List.getElem?_map, hx']; rfl)
  rw [this, D1.v, hb.2 x (Pl.mem_of_some hx)]; rfl
theorem OK3.header {w : World} {d : D3} (h : OK3 w d) (hb : d.bare) {i : Nat} {x : D2} (hx : d.ps[i]? = some x) : w.cell? ⟨d.b, i, none⟩ = some (.slice (some ⟨x.b, 0, none⟩) x.rs.length x.rs.length) := by
  have hx' : (d.ps ++ d.s)[i]? = some x := by rw [List.getElem?_append_left (Pl.lt_of_some hx)]; exact hx
  have := h.row.cell (i := i) (v := x.v) (by simp only [List.getElem?_map, hx']; rfl)
  rw [this, D2.v, (hb.2 x (Pl.mem_of_some hx)).1]; rfl
theorem OK3.subp {w : World} {d : D3} (h : OK3 w d) {i : Nat} {x : D2} (hx : d.ps[i]? = some x) : OK2 w x := h.sub x (List.mem_append_left _ (Pl.mem_of_some hx))
theorem OK2.subr {w : World} {d : D2} (h : OK2 w d) {i : Nat} {x : D1} (hx : d.rs[i]? = some x) : OK1 w x := h.sub x (List.mem_append_left _ (Pl.mem_of_some hx))

end Go.Proofs.Ytcclepohmhdpbaa
