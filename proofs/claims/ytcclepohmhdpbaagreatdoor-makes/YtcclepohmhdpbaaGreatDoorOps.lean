/- THE SCRIPT: its steps in memory. -/
import Derived.Test.YtcclepohmhdpbaaGreatDoorAppend
namespace Go.Proofs.YtcclepohmhdpbaaGreatDoor
set_option linter.all false
open Go.RowKit Go.Deep

structure OpD where
  kd : Int
  a : Int
  b : Int
  c : Int
  s : ByteArray
def OpD.cells (o : OpD) : List Value := [.int .i64 o.kd, .int .i64 o.a, .int .i64 o.b, .int .i64 o.c, .string o.s]
def OpD.v (o : OpD) : Value := .agg #[.int .i64 o.kd, .int .i64 o.a, .int .i64 o.b, .int .i64 o.c, .string o.s]
def cellsP (P : List OpD) : List Value := P.flatMap OpD.cells
theorem cellsP_length (P : List OpD) : (cellsP P).length = P.length * 5 := by
  induction P with
  | nil => rfl
  | cons o t ih => show (o.cells ++ cellsP t).length = _; rw [List.length_append, ih]; simp [OpD.cells]; omega
theorem cellsP_snoc (P : List OpD) (o : OpD) : cellsP (P ++ [o]) = cellsP P ++ o.cells := by simp [cellsP]
theorem cellsP_at (P : List OpD) : ∀ (i : Nat) (o : OpD) (c : Nat) (v : Value), P[i]? = some o → o.cells[c]? = some v → (cellsP P)[i * 5 + c]? = some v := by
  induction P with
  | nil => intro i o c v h; simp at h
  | cons a t ih =>
    intro i o c v h hc
    have hc6 : c < 5 := by have := Pl.lt_of_some hc; simpa [OpD.cells] using this
    show (a.cells ++ cellsP t)[i * 5 + c]? = some v
    cases i with
    | zero => simp at h; subst h; rw [List.getElem?_append_left (by simp [OpD.cells]; omega)]; simpa using hc
    | succ i =>
      have := ih i o c v (by simpa using h) hc
      rw [List.getElem?_append_right (by simp [OpD.cells]; omega)]
      rw [show (i + 1) * 5 + c - a.cells.length = i * 5 + c by simp [OpD.cells]; omega]
      exact this
theorem cellsP_one (P : List OpD) : ∀ v ∈ cellsP P, v.oneCell' = true := by
  intro v hv
  obtain ⟨o, _, ho⟩ := List.mem_flatMap.1 hv
  simp [OpD.cells] at ho
  rcases ho with rfl | rfl | rfl | rfl | rfl <;> rfl

/-- A script that is read: the caller's. -/
def RdP (w : World) (v : Value) (P : List OpD) : Prop :=
  ∃ ao cap, v = .slice ao P.length cap ∧ ∀ i o, P[i]? = some o → ∃ b off, ao = some ⟨b, off, none⟩ ∧ w.cell? ⟨b, off + i * 5, none⟩ = some (.int .i64 o.kd) ∧ w.cell? ⟨b, off + i * 5 + 1, none⟩ = some (.int .i64 o.a) ∧ w.cell? ⟨b, off + i * 5 + 2, none⟩ = some (.int .i64 o.b) ∧ w.cell? ⟨b, off + i * 5 + 3, none⟩ = some (.int .i64 o.c) ∧ w.cell? ⟨b, off + i * 5 + 4, none⟩ = some (.string o.s)

structure OpOK (o : OpD) : Prop where
  a0 : -9223372036854775808 ≤ o.a
  a1 : o.a ≤ 9223372036854775807

end Go.Proofs.YtcclepohmhdpbaaGreatDoor
