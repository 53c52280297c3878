/- Known: sets(). -/
import Derived.Test.YtcclepohmhdpbabGreatKnB
import Derived.Great.BuildSlice
import Derived.KernelRfl
namespace Go.Proofs.YtcclepohmhdpbabGreat
set_option linter.all false
open Go.RowKit Go.Deep

namespace Kn
theorem und : Tryz.prog.underlying 23 = some (.slice 27) := by kernel_rfl
theorem isI : (Tryz.prog.info? 27).isSome = true := by kernel_rfl
noncomputable def ie : TypeInfo := (Tryz.prog.info? 27).get isI
theorem hie : Tryz.prog.info? 27 = some ie := (Option.some_get isI).symm
theorem isZ : ie.zero.isSome = true := by kernel_rfl
noncomputable def z : Value := ie.zero.get isZ
theorem hz : ie.zero = some z := (Option.some_get isZ).symm
theorem size : ie.size = 2 := by kernel_rfl
theorem small : ¬ 36 * ie.size > 2 ^ 24 := by rw [size]; decide
theorem pos : ¬ 36 * ie.size = 0 := by rw [size]; decide
/-- the list of a set's texts: the first has none. -/
def ptr (h : Nat) (s : S) : Value := if s.rs.length = 0 then .slice .none 0 0 else .slice (some ⟨h, 0, .none⟩) s.rs.length s.rs.length
def row (s : S) : List Value := s.rs.map fun r => .string (bs r)
/-- the worlds that grow. -/
def objs : List Obj := tab.tail.map fun s => .cells (row s).toArray 9
def grow (w : World) : List Obj → World
  | [] => w
  | o :: t => grow (w.alloc o) t
/-- each set with the block of its texts. -/
def at_ (h : Nat) : List (S × Value) := (tab.zipIdx).map fun x => (x.1, ptr (h + (x.2 - 1)) x.1)
def vals (h : Nat) : List Value := (at_ h).map fun x => .agg #[x.2, .int .i64 x.1.c]
def cells (h : Nat) : List Value := (at_ h).flatMap fun x => [x.2, .int .i64 x.1.c]
theorem vsize (h : Nat) : ∀ v ∈ vals h, v.cells.size = 2 := by
  intro v hv
  obtain ⟨w, -, rfl⟩ := List.mem_map.1 hv
  rfl
theorem vcells (h : Nat) : ((vals h).flatMap fun v => v.cells.toList) = cells h := by
  unfold vals cells
  rw [List.flatMap_map]
  rfl
theorem vlen (h : Nat) : (vals h).length = 36 := by simp [vals, at_, len]
theorem fillT (h : Nat) (a : Act) (parts : Array (Nat × Operand)) (hp : (parts.toList.map fun (i, x) => (i, a.eval x)) = ((vals h).zipIdx 0).map fun x => (x.2, x.1)) :
    Instr.fill (fun i => some (i * ie.size, ie.size)) ((Array.range (36 * ie.size)).map (z.cells[· % z.cells.size]!)) (parts.map fun (i, x) => (i, a.eval x)).toList = some (cells h).toArray := by
  rw [Array.toList_map, hp, size]
  have := Go.Great.fill_whole (s := 2) (by decide) (vals h) ((Array.range (36 * 2)).map (z.cells[· % z.cells.size]!)) (vsize h) (by simp [vlen])
  rw [vcells] at this
  exact this
theorem flat2 {α β : Type} (f0 f1 : α → β) (l : List α) (i : Nat) (x : α) (h : l[i]? = some x) :
    (l.flatMap fun w => [f0 w, f1 w])[i * 2]? = some (f0 x) ∧ (l.flatMap fun w => [f0 w, f1 w])[i * 2 + 1]? = some (f1 x) := by
  induction l generalizing i with
  | nil => simp at h
  | cons a l ih =>
    cases i with
    | zero => simp at h; subst h; simp
    | succ i =>
      have := ih i (by simpa using h)
      rw [show (i + 1) * 2 = i * 2 + 2 by omega]
      simpa [List.flatMap_cons] using this
theorem grow_up (w : World) : ∀ l, Up w (grow w l) := by
  intro l
  induction l generalizing w with
  | nil => exact Up.refl _
  | cons o t ih => exact ((Up.refl w).alloc o).trans (ih _)
theorem grow_at (w : World) : ∀ (l : List Obj) (i : Nat) (o : Obj), l[i]? = some o → (grow w l).heap[w.heap.size + i]? = some o := by
  intro l
  induction l generalizing w with
  | nil => intro i o h; simp at h
  | cons a t ih =>
    intro i o h
    cases i with
    | zero =>
      simp at h; subst h
      have h1 : (w.alloc a).heap[w.heap.size]? = some a := heap_alloc_new w a
      have := (grow_up (w.alloc a) t).block w.heap.size (by simp)
      exact this.trans h1
    | succ i =>
      have := ih (w.alloc a) i o (by simpa using h)
      rw [show (w.alloc a).heap.size + i = w.heap.size + (i + 1) by simp; omega] at this
      exact this
def SetsP (w : World) (e : Ending) (w' : World) : Prop := ∃ b, e = .returned (.slice (some ⟨b, 0, .none⟩) 36 36) ∧
  (∀ (i : Nat) s, tab[i]? = some s → ∃ v, w'.cell? ⟨b, i * 2, .none⟩ = some v ∧ w'.cell? ⟨b, i * 2 + 1, .none⟩ = some (.int .i64 s.c) ∧ RdS w' v s.rs) ∧ Up w w'
theorem grow_size (w : World) : ∀ l, (grow w l).heap.size = w.heap.size + l.length := by
  intro l
  induction l generalizing w with
  | nil => rfl
  | cons o t ih => rw [grow, ih]; simp; omega
theorem first : tab[0]? = some ⟨[], 0⟩ := rfl
theorem sets_post (w : World) : SetsP w (.returned (.slice (some ⟨w.heap.size + 35, 0, .none⟩) 36 36)) ((grow w objs).alloc (.cells (cells w.heap.size).toArray 27)) := by
  refine ⟨_, rfl, fun i s hs => ?_, (grow_up w objs).trans ((Up.refl _).alloc _)⟩
  have hsz : (grow w objs).heap.size = w.heap.size + 35 := by rw [grow_size]; rfl
  have ha : (at_ w.heap.size)[i]? = some (s, ptr (w.heap.size + (i - 1)) s) := by
    unfold at_
    rw [List.getElem?_map, List.getElem?_zipIdx, hs]; simp
  obtain ⟨h0, h1⟩ := flat2 (fun x : S × Value => x.2) (fun x => Value.int .i64 x.1.c) _ i _ ha
  have hr := VRow.new (grow w objs) (cells w.heap.size) 27
  rw [hsz] at hr
  refine ⟨_, VRow.cell hr h0, VRow.cell hr h1, ?_⟩
  by_cases hz : s.rs.length = 0
  · have e : s.rs = [] := List.eq_nil_of_length_eq_zero hz
    exact ⟨.none, 0, by unfold ptr; rw [if_pos hz, hz], fun j r hj => by rw [e] at hj; simp at hj⟩
  · refine ⟨some ⟨w.heap.size + (i - 1), 0, .none⟩, s.rs.length, by unfold ptr; rw [if_neg hz], fun j r hj => ⟨_, rfl, ?_⟩⟩
    have hi : i ≠ 0 := fun e => by rw [e, first] at hs; cases hs; simp at hz
    have ho : objs[i - 1]? = some (.cells (row s).toArray 9) := by
      unfold objs
      rw [List.getElem?_map, List.getElem?_tail, show i - 1 + 1 = i by omega, hs]; rfl
    have hb := grow_at w objs (i - 1) _ ho
    have hv : VRow (grow w objs) (w.heap.size + (i - 1)) 9 (row s) := hb
    exact (hv.up ((Up.refl _).alloc _)).cell (by unfold row; rw [List.getElem?_map, hj]; rfl)
end Kn
/-- The whole of the last operation, for the walk: what goes on behind it is `K`. -/
theorem sets_build {o : Oper} {a : Act} {w : World} {K : Act → World → Prop} {Q : Exit → Act → World → Prop} (h : Nat) (parts : Array (Nat × Operand)) (ho : o.op = .buildSlice 23 36 parts)
    (hp : (parts.toList.map fun (i, x) => (i, a.eval x)) = ((Kn.vals h).zipIdx 0).map fun x => (x.2, x.1))
    (hK : K (a.put o.dst (.slice (some ⟨w.heap.size, 0, none⟩) 36 36)) (w.alloc (.cells (Kn.cells h).toArray 27))) : o.wp Tryz.prog a w K Q :=
  Go.wp_buildSlice 23 27 36 parts ho (Kn.cells h).toArray Kn.ie Kn.z Kn.und Kn.hie Kn.hz Kn.small Kn.pos (Kn.fillT h a parts hp) hK
end Go.Proofs.YtcclepohmhdpbabGreat
