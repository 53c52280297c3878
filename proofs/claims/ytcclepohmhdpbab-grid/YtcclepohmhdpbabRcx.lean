/- A SET AS IT IS READ, with the room of its lists. -/
import Derived.Test.YtcclepohmhdpbabPnC
namespace Go.Proofs.Ytcclepohmhdpbab
set_option linter.all false
open Go.RowKit Go.Deep

/-- A document's set, as it is read, with the room of its lists. -/
def Rc2 (w : World) (v : Value) (l : Poly) : Prop :=
  ∃ ao cap, v = .slice ao l.length cap ∧ l.length ≤ cap ∧ ∀ i r, l[i]? = some r → ∃ b u, ao = some ⟨b, 0, none⟩ ∧ w.cell? ⟨b, i, none⟩ = some u ∧ Rd1 w u r
def Rc3 (w : World) (v : Value) (m : Mult) : Prop :=
  ∃ ao cap, v = .slice ao m.length cap ∧ ∀ i l, m[i]? = some l → ∃ b u, ao = some ⟨b, 0, none⟩ ∧ w.cell? ⟨b, i, none⟩ = some u ∧ Rc2 w u l
theorem Rc2.up {w w' : World} {v : Value} {l : Poly} (h : Rc2 w v l) (k : Up w w') : Rc2 w' v l := by
  obtain ⟨ao, cap, e, hc, h⟩ := h
  exact ⟨ao, cap, e, hc, fun i r hr => by obtain ⟨b, u, eb, c, q⟩ := h i r hr; exact ⟨b, u, eb, k.cell c, q.up k⟩⟩
theorem Rc3.up {w w' : World} {v : Value} {m : Mult} (h : Rc3 w v m) (k : Up w w') : Rc3 w' v m := by
  obtain ⟨ao, cap, e, h⟩ := h
  exact ⟨ao, cap, e, fun i r hr => by obtain ⟨b, u, eb, c, q⟩ := h i r hr; exact ⟨b, u, eb, k.cell c, q.up k⟩⟩
theorem Rc2.rd {w : World} {v : Value} {l : Poly} (h : Rc2 w v l) : Rd2 w v l := by
  obtain ⟨ao, cap, e, -, h⟩ := h
  exact ⟨ao, cap, e, h⟩
theorem Rc3.rd {w : World} {v : Value} {m : Mult} (h : Rc3 w v m) : Rd3 w v m := by
  obtain ⟨ao, cap, e, h⟩ := h
  exact ⟨ao, cap, e, fun i r hr => by obtain ⟨b, u, eb, c, q⟩ := h i r hr; exact ⟨b, u, eb, c, q.rd⟩⟩
theorem OK2.rc {w : World} {d : D2} (h : OK2 w d) : Rc2 w d.v d.pts := by
  refine ⟨some ⟨d.b, 0, none⟩, _, by unfold D2.v D2.pts; rw [List.length_map], by unfold D2.pts; rw [List.length_map]; exact Nat.le_add_right _ _, fun i r hr => ?_⟩
  unfold D2.pts at hr
  rw [List.getElem?_map, Option.map_eq_some_iff] at hr
  obtain ⟨y, hy, rfl⟩ := hr
  have hy2 : (d.rs ++ d.s)[i]? = some y := by rw [List.getElem?_append_left (Pl.lt_of_some hy)]; exact hy
  exact ⟨d.b, y.v, rfl, h.row.cell (by rw [List.getElem?_map, hy2]; rfl), (h.sub y (Pl.mem_of_some hy2)).rd⟩
theorem OK3.rc {w : World} {d : D3} (h : OK3 w d) : Rc3 w d.v d.m := by
  refine ⟨some ⟨d.b, 0, none⟩, _, by unfold D3.v D3.m; rw [List.length_map], fun i r hr => ?_⟩
  unfold D3.m at hr
  rw [List.getElem?_map, Option.map_eq_some_iff] at hr
  obtain ⟨y, hy, rfl⟩ := hr
  have hy2 : (d.ps ++ d.s)[i]? = some y := by rw [List.getElem?_append_left (Pl.lt_of_some hy)]; exact hy
  exact ⟨d.b, y.v, rfl, h.row.cell (by rw [List.getElem?_map, hy2]; rfl), (h.sub y (Pl.mem_of_some hy2)).rc⟩

end Go.Proofs.Ytcclepohmhdpbab
