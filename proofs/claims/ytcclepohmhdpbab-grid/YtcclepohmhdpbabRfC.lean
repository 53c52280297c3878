/- THE DOCUMENT's WALKS: common. -/
import Derived.Test.YtcclepohmhdpbabRfB
namespace Go.Proofs.Ytcclepohmhdpbab
set_option linter.all false
open Go.RowKit Go.Deep

/-- Rows that a world keeps. -/
def Rw (w : World) (l : List (Nat × TypeId × List Value)) : Prop := ∀ x ∈ l, VRow w x.1 x.2.1 x.2.2
theorem Rw.nil (w : World) : Rw w [] := fun _ h => by simp at h
theorem Rw.up {w w' : World} {l : List (Nat × TypeId × List Value)} (h : Rw w l) (u : Up w w') : Rw w' l := fun x hx => (h x hx).up u
theorem Rw.alloc {w : World} {l : List (Nat × TypeId × List Value)} (h : Rw w l) (o : Obj) : Rw (w.alloc o) l := fun x hx => (h x hx).alloc o
theorem Rw.new {w : World} {l : List (Nat × TypeId × List Value)} (h : Rw w l) {o : Obj} {t : TypeId} {vs : List Value} (e : o = .cells vs.toArray t (0, 0)) : Rw (w.alloc o) ((w.heap.size, t, vs) :: l) := fun x hx => by
  rcases List.mem_cons.1 hx with rfl | hx
  · exact new_row e
  · exact (h x hx).alloc o
theorem Rw.newv {w : World} {l : List (Nat × TypeId × List Value)} (h : Rw w l) (x y : Int) (t : TypeId) : Rw (w.alloc (.cells #[.int .i64 x, .int .i64 y] t)) ((w.heap.size, t, [.int .i64 x, .int .i64 y]) :: l) := h.new rfl
theorem Rw.get {w : World} {l : List (Nat × TypeId × List Value)} (h : Rw w l) (k : Nat) {b : Nat} {t : TypeId} {vs : List Value} (hk : l[k]? = some (b, t, vs)) (i : Nat) {v : Value} (hi : vs[i]? = some v) : w.cell? ⟨b, i, none⟩ = some v := (h _ (Pl.mem_of_some hk)).cell hi

/-- The document's common, of the products. -/
def comF (n s t p q k : Int) : Int × Bool :=
  if n = 0 then
    if t ≠ 0 then (0, false) else (Vd.count k (min p q) (max p q), false)
  else
    let n' := if n < 0 then -n else n
    let s' := if n < 0 then -s else s
    let t' := if n < 0 then -t else t
    if s' < 0 ∨ n' < s' ∨ t' < 0 ∨ n' < t' then (0, false) else (1, decide (0 < s' ∧ s' < n' ∧ 0 < t' ∧ t' < n'))
theorem dt_one (a b c : Pnt) : Vd.pos a b c = dotP (subP a c) (subP a b) := by unfold Vd.pos Vd.dt dotP subP; simp only [Int.mul_one]
theorem common_of (a b c d : Pnt) : Vd.common a b c d = comF (timesP (subP a b) (subP c d)) (timesP (subP a c) (subP c d)) (timesP (subP a c) (subP a b)) (dotP (subP a c) (subP a b)) (dotP (subP a d) (subP a b)) (dotP (subP a b) (subP a b)) := by
  rw [← dt_one, ← dt_one]; rfl
def comT (n s t : Int) : Int × Bool := if s < 0 ∨ n < s ∨ t < 0 ∨ n < t then (0, false) else (1, decide (0 < s ∧ s < n ∧ 0 < t ∧ t < n))
theorem comT_cases (n s t : Int) : (s < 0 ∧ comT n s t = (0, false)) ∨ (n < s ∧ comT n s t = (0, false)) ∨ (¬ s < 0 ∧ ¬ n < s ∧ t < 0 ∧ comT n s t = (0, false)) ∨ (¬ s < 0 ∧ ¬ n < s ∧ ¬ t < 0 ∧ n < t ∧ comT n s t = (0, false)) ∨
    (¬ s < 0 ∧ ¬ n < s ∧ ¬ t < 0 ∧ ¬ n < t ∧ ¬ 0 < s ∧ comT n s t = (1, false)) ∨ (¬ s < 0 ∧ ¬ n < s ∧ ¬ t < 0 ∧ ¬ n < t ∧ 0 < s ∧ ¬ s < n ∧ comT n s t = (1, false)) ∨ (¬ s < 0 ∧ ¬ n < s ∧ ¬ t < 0 ∧ ¬ n < t ∧ 0 < s ∧ s < n ∧ ¬ 0 < t ∧ comT n s t = (1, false)) ∨
    (¬ s < 0 ∧ ¬ n < s ∧ ¬ t < 0 ∧ ¬ n < t ∧ 0 < s ∧ s < n ∧ 0 < t ∧ comT n s t = (1, decide (t < n))) := by
  unfold comT
  by_cases h1 : s < 0
  · exact .inl ⟨h1, if_pos (.inl h1)⟩
  by_cases h2 : n < s
  · exact .inr (.inl ⟨h2, if_pos (.inr (.inl h2))⟩)
  by_cases h3 : t < 0
  · exact .inr (.inr (.inl ⟨h1, h2, h3, if_pos (.inr (.inr (.inl h3)))⟩))
  by_cases h4 : n < t
  · exact .inr (.inr (.inr (.inl ⟨h1, h2, h3, h4, if_pos (.inr (.inr (.inr h4)))⟩)))
  rw [if_neg (by omega)]
  by_cases f1 : 0 < s <;> by_cases f2 : s < n <;> by_cases f3 : 0 < t <;> by_cases f4 : t < n <;> simp [h1, h2, h3, h4, f1, f2, f3, f4]
theorem ret_ib {a b : Int} {c d : Bool} (h : (a, c) = (b, d)) : Ending.returned (.tuple #[.int .i64 a, .bool c]) = .returned (.tuple #[.int .i64 b, .bool d]) := by cases h; rfl
def ibV (x : Int × Bool) : Value := .tuple #[.int .i64 x.1, .bool x.2]
theorem ret_ibV {x y : Int × Bool} (h : x = y) : Ending.returned (.tuple #[.int .i64 x.1, .bool x.2]) = .returned (ibV y) := by rw [h]; rfl
theorem times_bdd {u v : Pnt} (hu : Bdd 65536 u) (hv : Bdd 65536 v) : -8589934592 ≤ timesP u v ∧ timesP u v ≤ 8589934592 := by
  unfold Bdd at hu hv
  have m1 := mul_bd (a := u.1) (b := v.2) (A := 65536) (B := 65536) (by omega) (by omega) (by omega) (by omega)
  have m2 := mul_bd (a := u.2) (b := v.1) (A := 65536) (B := 65536) (by omega) (by omega) (by omega) (by omega)
  unfold timesP
  omega
theorem dot_bdd {u v : Pnt} (hu : Bdd 65536 u) (hv : Bdd 65536 v) : -8589934592 ≤ dotP u v ∧ dotP u v ≤ 8589934592 := by
  unfold Bdd at hu hv
  have m1 := mul_bd (a := u.1) (b := v.1) (A := 65536) (B := 65536) (by omega) (by omega) (by omega) (by omega)
  have m2 := mul_bd (a := u.2) (b := v.2) (A := 65536) (B := 65536) (by omega) (by omega) (by omega) (by omega)
  unfold dotP
  omega

end Go.Proofs.Ytcclepohmhdpbab
