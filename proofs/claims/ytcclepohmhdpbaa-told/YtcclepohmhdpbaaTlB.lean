/- Told: list(). -/
import Derived.Test.YtcclepohmhdpbaaTlE
import Derived.Great.BuildSlice
import Derived.KernelRfl
namespace Go.Proofs.Ytcclepohmhdpbaa
set_option linter.all false
open Go.RowKit Go.Deep

namespace Tl
theorem und : Try.prog.underlying 23 = some (.slice 27) := by kernel_rfl
theorem isI : (Try.prog.info? 27).isSome = true := by kernel_rfl
noncomputable def ie : TypeInfo := (Try.prog.info? 27).get isI
theorem hie : Try.prog.info? 27 = some ie := (Option.some_get isI).symm
theorem isZ : ie.zero.isSome = true := by kernel_rfl
noncomputable def z : Value := ie.zero.get isZ
theorem hz : ie.zero = some z := (Option.some_get isZ).symm
theorem size : ie.size = 4 := by kernel_rfl
theorem small : ¬ 47 * ie.size > 2 ^ 24 := by rw [size]; decide
theorem pos : ¬ 47 * ie.size = 0 := by rw [size]; decide
def vals : List Value := tab.map fun w => .agg #[.string (bs w.s), .int .i64 w.f, .int .i64 w.e, .int .i64 w.x]
def cells : List Value := tab.flatMap fun w => [.string (bs w.s), .int .i64 w.f, .int .i64 w.e, .int .i64 w.x]
theorem vsize : ∀ v ∈ vals, v.cells.size = 4 := by
  intro v hv
  obtain ⟨w, -, rfl⟩ := List.mem_map.1 hv
  rfl
theorem vcells : (vals.flatMap fun v => v.cells.toList) = cells := by
  unfold vals cells
  rw [List.flatMap_map]
  rfl
theorem fillT (a : Act) (parts : Array (Nat × Operand)) (h : (parts.toList.map fun (i, x) => (i, a.eval x)) = (vals.zipIdx 0).map fun x => (x.2, x.1)) :
    Instr.fill (fun i => some (i * ie.size, ie.size)) ((Array.range (47 * ie.size)).map (z.cells[· % z.cells.size]!)) (parts.map fun (i, x) => (i, a.eval x)).toList = some cells.toArray := by
  rw [Array.toList_map, h, size]
  have := Go.Great.fill_whole (s := 4) (by decide) vals ((Array.range (47 * 4)).map (z.cells[· % z.cells.size]!)) vsize (by simp [vals, len])
  rw [vcells] at this
  exact this
end Tl

/-- The whole of the last operation, for the walk: what goes on behind it is `K`. -/
theorem list_build {o : Oper} {a : Act} {w : World} {K : Act → World → Prop} {Q : Exit → Act → World → Prop} (parts : Array (Nat × Operand)) (ho : o.op = .buildSlice 23 47 parts)
    (h : (parts.toList.map fun (i, x) => (i, a.eval x)) = (Tl.vals.zipIdx 0).map fun x => (x.2, x.1))
    (hK : K (a.put o.dst (.slice (some ⟨w.heap.size, 0, none⟩) 47 47)) (w.alloc (.cells Tl.cells.toArray 27))) : o.wp Try.prog a w K Q :=
  Go.wp_buildSlice 23 27 47 parts ho Tl.cells.toArray Tl.ie Tl.z Tl.und Tl.hie Tl.hz Tl.small Tl.pos (Tl.fillT a parts h) hK

theorem list_post (w : World) : LP w (.returned (.slice (some ⟨w.heap.size, 0, none⟩) 47 47)) (w.alloc (.cells Tl.cells.toArray 27)) := by
  refine ⟨_, rfl, fun i W hW => ?_, (Up.refl w).alloc _⟩
  obtain ⟨h0, h1, h2, h3⟩ := Tl.flat4 (fun w : Tl.W => Value.string (bs w.s)) (fun w => .int .i64 w.f) (fun w => .int .i64 w.e) (fun w => .int .i64 w.x) _ i W hW
  have hr := VRow.new w Tl.cells 27
  exact ⟨VRow.cell hr h0, VRow.cell hr h1, VRow.cell hr h2, VRow.cell hr h3⟩
end Go.Proofs.Ytcclepohmhdpbaa
