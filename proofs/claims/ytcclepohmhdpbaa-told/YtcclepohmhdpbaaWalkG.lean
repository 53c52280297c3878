/- THE WALKS: polygonslaw.marked. -/
import Derived.Test.YtcclepohmhdpbaaWalkF
namespace Go.Proofs.Ytcclepohmhdpbaa
set_option linter.all false
open Go.RowKit Go.Deep

theorem OK2.hdr {w : World} {d : D2} (h : OK2 w d) {i : Nat} {x : D1} (hx : d.rs[i]? = some x) : w.cell? ⟨d.b, i, none⟩ = some (.slice (some ⟨x.b, 0, none⟩) x.r.length (x.r.length + x.s.length)) := by
  have hx' : (d.rs ++ d.s)[i]? = some x := by rw [List.getElem?_append_left (Pl.lt_of_some hx)]; exact hx
  exact h.row.cell (i := i) (v := x.v) (by simp only [List.getElem?_map, hx']; rfl)
theorem OK3.hdr {w : World} {d : D3} (h : OK3 w d) {i : Nat} {x : D2} (hx : d.ps[i]? = some x) : w.cell? ⟨d.b, i, none⟩ = some (.slice (some ⟨x.b, 0, none⟩) x.rs.length (x.rs.length + x.s.length)) := by
  have hx' : (d.ps ++ d.s)[i]? = some x := by rw [List.getElem?_append_left (Pl.lt_of_some hx)]; exact hx
  exact h.row.cell (i := i) (v := x.v) (by simp only [List.getElem?_map, hx']; rfl)

/-- What marked reads of a ring. -/
theorem ring_marks {w : World} {x : D1} (h : OK1 w x) (hs : x.s = mk1) :
    w.cell? ⟨x.b, x.r.length * 2, none⟩ = some (.int .i64 91) ∧ w.cell? ⟨x.b, x.r.length * 2 + 1, none⟩ = some (.int .i64 (-91)) ∧ w.cell? ⟨x.b, (x.r.length + 1) * 2, none⟩ = some (.int .i64 92) ∧ w.cell? ⟨x.b, (x.r.length + 1) * 2 + 1, none⟩ = some (.int .i64 (-92)) := by
  have h' : PRow w x.b (x.r ++ mk1) := by rw [← hs]; exact h
  have h1 := h'.cells (i := x.r.length) (p := (91, -91)) (by rw [List.getElem?_append_right (Nat.le_refl _), Nat.sub_self]; rfl)
  have h2 := h'.cells (i := x.r.length + 1) (p := (92, -92)) (by rw [List.getElem?_append_right (by omega), show x.r.length + 1 - x.r.length = 1 by omega]; rfl)
  exact ⟨h1.1, h1.2, h2.1, h2.2⟩

theorem poly_marks {w : World} {x : D2} (h : OK2 w x) (hs : x.marked) :
    ∃ c, w.cell? ⟨x.b, x.rs.length, none⟩ = some (.slice (some ⟨c, 0, none⟩) 1 1) ∧ w.cell? ⟨c, 0, none⟩ = some (.int .i64 93) ∧ w.cell? ⟨c, 1, none⟩ = some (.int .i64 (-93)) := by
  obtain ⟨⟨c, e⟩, _⟩ := hs
  have h1 := h.row.cell (i := x.rs.length) (v := .slice (some ⟨c, 0, none⟩) 1 1) (by rw [e, List.map_append, List.getElem?_append_right (by simp), List.length_map, Nat.sub_self]; rfl)
  have h2 := h.sub ⟨c, [(93, -93)], []⟩ (by rw [e]; simp)
  have h3 := PRow.cells h2 (i := 0) (p := (93, -93)) rfl
  exact ⟨c, h1, h3.1, h3.2⟩

theorem set_marks {w : World} {x : D3} (h : OK3 w x) (hs : x.marked) :
    ∃ b c, w.cell? ⟨x.b, x.ps.length, none⟩ = some (.slice (some ⟨b, 0, none⟩) 1 1) ∧ w.cell? ⟨b, 0, none⟩ = some (.slice (some ⟨c, 0, none⟩) 1 1) ∧ w.cell? ⟨c, 0, none⟩ = some (.int .i64 94) ∧ w.cell? ⟨c, 1, none⟩ = some (.int .i64 (-94)) := by
  obtain ⟨⟨b, c, e⟩, _⟩ := hs
  have h1 := h.row.cell (i := x.ps.length) (v := .slice (some ⟨b, 0, none⟩) 1 1) (by rw [e, List.map_append, List.getElem?_append_right (by simp), List.length_map, Nat.sub_self]; rfl)
  have h2 := h.sub ⟨b, [⟨c, [(94, -94)], []⟩], []⟩ (by rw [e]; simp)
  have h2' := h2.row.cell (i := 0) (v := .slice (some ⟨c, 0, none⟩) 1 1) rfl
  have h3 := PRow.cells (h2.sub ⟨c, [(94, -94)], []⟩ (by simp)) (i := 0) (p := (94, -94)) rfl
  exact ⟨b, c, h1, h2', h3.1, h3.2⟩

end Go.Proofs.Ytcclepohmhdpbaa
