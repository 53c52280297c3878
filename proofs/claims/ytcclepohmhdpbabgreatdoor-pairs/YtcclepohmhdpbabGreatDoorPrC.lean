/- THE KNOWN PAIRS: what unlike() lays (written by wip/tool/pr.py). -/
import Derived.Test.YtcclepohmhdpbabGreatDoorPrA
import Derived.KernelRfl
namespace Go.Proofs.YtcclepohmhdpbabGreatDoor
set_option linter.all false
open Go.RowKit Go.Deep
namespace Pr
def row (l : List (List UInt8)) : List Value := l.map fun r => .string (bs r)
def objs (h : Nat) : List Obj := [.cells (row a0).toArray 9,
  .cells (row b0).toArray 9,
  .cells #[.slice (some ⟨h + 0, 0, .none⟩) 1 1, .slice (some ⟨h + 1, 0, .none⟩) 1 1] 57,
  .cells (row a1).toArray 9,
  .cells (row b1).toArray 9,
  .cells #[.slice (some ⟨h + 3, 0, .none⟩) 1 1, .slice (some ⟨h + 4, 0, .none⟩) 1 1] 57,
  .cells (row a2).toArray 9,
  .cells (row b2).toArray 9,
  .cells #[.slice (some ⟨h + 6, 0, .none⟩) 1 1, .slice (some ⟨h + 7, 0, .none⟩) 1 1] 57,
  .cells (row a3).toArray 9,
  .cells (row b3).toArray 9,
  .cells #[.slice (some ⟨h + 9, 0, .none⟩) 1 1, .slice (some ⟨h + 10, 0, .none⟩) 2 2] 57,
  .cells (row a4).toArray 9,
  .cells (row b4).toArray 9,
  .cells #[.slice (some ⟨h + 12, 0, .none⟩) 1 1, .slice (some ⟨h + 13, 0, .none⟩) 2 2] 57,
  .cells (row a5).toArray 9,
  .cells (row b5).toArray 9,
  .cells #[.slice (some ⟨h + 15, 0, .none⟩) 2 2, .slice (some ⟨h + 16, 0, .none⟩) 2 2] 57,
  .cells (row b6).toArray 9,
  .cells #[.slice .none 0 0, .slice (some ⟨h + 18, 0, .none⟩) 1 1] 57,
  .cells (row a7).toArray 9,
  .cells (row b7).toArray 9,
  .cells #[.slice (some ⟨h + 20, 0, .none⟩) 1 1, .slice (some ⟨h + 21, 0, .none⟩) 1 1] 57,
  .cells (row a8).toArray 9,
  .cells (row b8).toArray 9,
  .cells #[.slice (some ⟨h + 23, 0, .none⟩) 1 1, .slice (some ⟨h + 24, 0, .none⟩) 1 1] 57,
  .cells #[.slice (some ⟨h + 2, 0, .none⟩) 2 2, .slice (some ⟨h + 5, 0, .none⟩) 2 2, .slice (some ⟨h + 8, 0, .none⟩) 2 2, .slice (some ⟨h + 11, 0, .none⟩) 2 2, .slice (some ⟨h + 14, 0, .none⟩) 2 2, .slice (some ⟨h + 17, 0, .none⟩) 2 2, .slice (some ⟨h + 19, 0, .none⟩) 2 2, .slice (some ⟨h + 22, 0, .none⟩) 2 2, .slice (some ⟨h + 25, 0, .none⟩) 2 2] 55]
def grow (w : World) : List Obj → World
  | [] => w
  | o :: t => grow (w.alloc o) t
theorem grow_up (w : World) : ∀ l, Up w (grow w l) := by
  intro l
  induction l generalizing w with
  | nil => exact Up.refl _
  | cons o t ih => exact ((Up.refl w).alloc o).trans (ih _)
theorem grow_at (w : World) : ∀ (l : List Obj) (i : Nat) (o : Obj), l[i]? = some o → (grow w l).heap[w.heap.size + i]? = some o := by
  intro l
  induction l generalizing w with
  | nil => intro i o h; simp at h
  | cons a t ih =>
    intro i o h
    cases i with
    | zero =>
      simp at h; subst h
      have h1 : (w.alloc a).heap[w.heap.size]? = some a := heap_alloc_new w a
      have := (grow_up (w.alloc a) t).block w.heap.size (by simp)
      exact this.trans h1
    | succ i =>
      have := ih (w.alloc a) i o (by simpa using h)
      rw [show (w.alloc a).heap.size + i = w.heap.size + (i + 1) by simp; omega] at this
      exact this
def W (w : World) : World := grow w (objs w.heap.size)
def UnP (w : World) (e : Ending) (w' : World) : Prop := ∃ B, e = .returned (.slice (some ⟨B, 0, .none⟩) 9 9) ∧
  (∀ (i : Nat) p, tab[i]? = some p → ∃ P va vb, w'.cell? ⟨B, i, .none⟩ = some (.slice (some ⟨P, 0, .none⟩) 2 2) ∧ w'.cell? ⟨P, 0, .none⟩ = some va ∧ w'.cell? ⟨P, 1, .none⟩ = some vb ∧ Kn.RdS w' va p.1 ∧ Kn.RdS w' vb p.2) ∧ Up w w'
theorem rds_of {w : World} {b : Nat} {l : List (List UInt8)} (h : VRow w b 9 (row l)) : Kn.RdS w (.slice (some ⟨b, 0, .none⟩) l.length l.length) l :=
  ⟨_, _, rfl, fun i r hr => ⟨b, rfl, h.cell (by unfold row; rw [List.getElem?_map, hr]; rfl)⟩⟩
theorem rds_nil (w : World) : Kn.RdS w (.slice .none 0 0) [] := ⟨_, _, rfl, fun i r hr => by simp at hr⟩
theorem at_ (w : World) (k : Nat) (vs : List Value) (t : TypeId) (h : (objs w.heap.size)[k]? = some (.cells vs.toArray t)) : VRow (W w) (w.heap.size + k) t vs := grow_at w _ k _ h
theorem post (w : World) : UnP w (.returned (.slice (some ⟨w.heap.size + 26, 0, .none⟩) 9 9)) (W w) := by
  refine ⟨_, rfl, fun i p hp => ?_, grow_up w _⟩
  have ho := at_ w 26 _ _ rfl
  have hi : i < 9 := by have := Pl.lt_of_some hp; rwa [len] at this
  match i, hi, hp with
  | 0, _, hp => cases hp; exact ⟨_, _, _, ho.cell rfl, (at_ w 2 _ _ rfl).cell (i := 0) rfl, (at_ w 2 _ _ rfl).cell (i := 1) rfl, rds_of (at_ w 0 (row a0) _ rfl), rds_of (at_ w 1 (row b0) _ rfl)⟩
  | 1, _, hp => cases hp; exact ⟨_, _, _, ho.cell rfl, (at_ w 5 _ _ rfl).cell (i := 0) rfl, (at_ w 5 _ _ rfl).cell (i := 1) rfl, rds_of (at_ w 3 (row a1) _ rfl), rds_of (at_ w 4 (row b1) _ rfl)⟩
  | 2, _, hp => cases hp; exact ⟨_, _, _, ho.cell rfl, (at_ w 8 _ _ rfl).cell (i := 0) rfl, (at_ w 8 _ _ rfl).cell (i := 1) rfl, rds_of (at_ w 6 (row a2) _ rfl), rds_of (at_ w 7 (row b2) _ rfl)⟩
  | 3, _, hp => cases hp; exact ⟨_, _, _, ho.cell rfl, (at_ w 11 _ _ rfl).cell (i := 0) rfl, (at_ w 11 _ _ rfl).cell (i := 1) rfl, rds_of (at_ w 9 (row a3) _ rfl), rds_of (at_ w 10 (row b3) _ rfl)⟩
  | 4, _, hp => cases hp; exact ⟨_, _, _, ho.cell rfl, (at_ w 14 _ _ rfl).cell (i := 0) rfl, (at_ w 14 _ _ rfl).cell (i := 1) rfl, rds_of (at_ w 12 (row a4) _ rfl), rds_of (at_ w 13 (row b4) _ rfl)⟩
  | 5, _, hp => cases hp; exact ⟨_, _, _, ho.cell rfl, (at_ w 17 _ _ rfl).cell (i := 0) rfl, (at_ w 17 _ _ rfl).cell (i := 1) rfl, rds_of (at_ w 15 (row a5) _ rfl), rds_of (at_ w 16 (row b5) _ rfl)⟩
  | 6, _, hp => cases hp; exact ⟨_, _, _, ho.cell rfl, (at_ w 19 _ _ rfl).cell (i := 0) rfl, (at_ w 19 _ _ rfl).cell (i := 1) rfl, rds_nil _, rds_of (at_ w 18 (row b6) _ rfl)⟩
  | 7, _, hp => cases hp; exact ⟨_, _, _, ho.cell rfl, (at_ w 22 _ _ rfl).cell (i := 0) rfl, (at_ w 22 _ _ rfl).cell (i := 1) rfl, rds_of (at_ w 20 (row a7) _ rfl), rds_of (at_ w 21 (row b7) _ rfl)⟩
  | 8, _, hp => cases hp; exact ⟨_, _, _, ho.cell rfl, (at_ w 25 _ _ rfl).cell (i := 0) rfl, (at_ w 25 _ _ rfl).cell (i := 1) rfl, rds_of (at_ w 23 (row a8) _ rfl), rds_of (at_ w 24 (row b8) _ rfl)⟩
  | i + 9, hi, _ => omega
end Pr
end Go.Proofs.YtcclepohmhdpbabGreatDoor
