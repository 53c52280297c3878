/- THE PLAIN MATHEMATICS: sets of polygons as lists; which are wrong. Nothing of the dump. -/
import Derived.WalkKit
namespace Go.Proofs.YtcclepohmhdpbaaGreatDoor
set_option linter.all false

abbrev Pnt := Int × Int
abbrev Ring := List Pnt
abbrev Poly := List Ring
abbrev Mult := List Poly

namespace Pl

def farC (x : Int) : Bool := decide (32768 < x) || decide (x < -32768)
def wideP (p : Pnt) : Bool := farC p.1 || farC p.2
def wideR (r : Ring) : Bool := r.any wideP
def wideL (l : Poly) : Bool := l.any wideR
def badR (r : Ring) : Bool := decide (r.length < 4) || !(decide (r.head? = r.getLast?))
def badRs (l : Poly) : Bool := l.any badR
def badL (l : Poly) : Bool := l.isEmpty || badRs l
def nR (m : Mult) : Nat := (m.map List.length).sum
def nPl (l : Poly) : Nat := (l.map List.length).sum
def nP (m : Mult) : Nat := (m.map nPl).sum
def many (m : Mult) : Bool := decide (8 < m.length) || decide (12 < nR m) || decide (100 < nP m)
def wrong (m : Mult) : Int := if many m = true then 6 else if m.any badL = true then 5 else if m.any wideL = true then 4 else 0

/-- the sizes that a script can bring about. -/
structure Bd (m : Mult) : Prop where
  len : m.length ≤ 1048576
  poly : ∀ l ∈ m, l.length ≤ 1048576
  ring : ∀ l ∈ m, ∀ r ∈ l, r.length ≤ 1048576

theorem take_one {α : Type} {l : List α} {k : Nat} {x : α} (h : l[k]? = some x) : l.take (k + 1) = l.take k ++ [x] := by
  rw [List.take_succ, h]; rfl

theorem lt_of_some {α : Type} {l : List α} {k : Nat} {x : α} (h : l[k]? = some x) : k < l.length := by
  rcases Nat.lt_or_ge k l.length with g | g
  · exact g
  · rw [List.getElem?_eq_none g] at h; cases h

theorem mem_of_some {α : Type} {l : List α} {k : Nat} {x : α} (h : l[k]? = some x) : x ∈ l := List.mem_of_getElem? h

theorem some_of_lt {α : Type} {l : List α} {k : Nat} (h : k < l.length) : ∃ x, l[k]? = some x := ⟨l[k], List.getElem?_eq_getElem h⟩

theorem any_take_succ {α : Type} {l : List α} {k : Nat} {x : α} (p : α → Bool) (h : l[k]? = some x) : (l.take (k + 1)).any p = ((l.take k).any p || p x) := by
  rw [take_one h]; simp

theorem any_true_of {α : Type} {l : List α} {k : Nat} {x : α} (p : α → Bool) (h : l[k]? = some x) (hp : p x = true) : l.any p = true :=
  List.any_eq_true.2 ⟨x, mem_of_some h, hp⟩

theorem sum_take_le (l : List Nat) (k : Nat) : (l.take k).sum ≤ l.sum := by
  conv => rhs; rw [← List.take_append_drop k l, List.sum_append]
  omega

theorem nR_take {m : Mult} {k : Nat} {l : Poly} (h : m[k]? = some l) : nR (m.take (k + 1)) = nR (m.take k) + l.length := by
  unfold nR; rw [take_one h]; simp

theorem nP_take {m : Mult} {k : Nat} {l : Poly} (h : m[k]? = some l) : nP (m.take (k + 1)) = nP (m.take k) + nPl l := by
  unfold nP; rw [take_one h]; simp

theorem nPl_take {l : Poly} {k : Nat} {r : Ring} (h : l[k]? = some r) : nPl (l.take (k + 1)) = nPl (l.take k) + r.length := by
  unfold nPl; rw [take_one h]; simp

theorem nR_le (m : Mult) (k : Nat) : nR (m.take k) ≤ nR m := by
  unfold nR; rw [List.map_take]; exact sum_take_le _ _
theorem nP_le (m : Mult) (k : Nat) : nP (m.take k) ≤ nP m := by
  unfold nP; rw [List.map_take]; exact sum_take_le _ _
theorem nPl_le (l : Poly) (k : Nat) : nPl (l.take k) ≤ nPl l := by
  unfold nPl; rw [List.map_take]; exact sum_take_le _ _

theorem sum_le_mul {l : List Nat} {b : Nat} (h : ∀ x ∈ l, x ≤ b) : l.sum ≤ l.length * b := by
  induction l with
  | nil => simp
  | cons a t ih =>
    have h1 := h a (by simp)
    have h2 := ih (fun x hx => h x (by simp [hx]))
    rw [List.sum_cons, List.length_cons, Nat.add_mul]; omega

theorem nPl_bd {m : Mult} (hb : Bd m) {l : Poly} (hl : l ∈ m) (k : Nat) : nPl (l.take k) ≤ k * 1048576 := by
  unfold nPl
  refine Nat.le_trans (sum_le_mul (b := 1048576) ?_) ?_
  · intro x hx
    obtain ⟨r, hr, rfl⟩ := List.mem_map.1 hx
    exact hb.ring l hl r (List.mem_of_mem_take hr)
  · rw [List.length_map, List.length_take]; exact Nat.mul_le_mul_right _ (Nat.min_le_left _ _)

theorem nP_bd {m : Mult} (hb : Bd m) (k : Nat) : nP (m.take k) ≤ k * 1099511627776 := by
  unfold nP
  refine Nat.le_trans (sum_le_mul (b := 1099511627776) ?_) ?_
  · intro x hx
    obtain ⟨l, hl, rfl⟩ := List.mem_map.1 hx
    have hl' := List.mem_of_mem_take hl
    have h1 := nPl_bd hb hl' l.length
    have h2 := hb.poly l hl'
    rw [List.take_length] at h1; omega
  · rw [List.length_map, List.length_take]; exact Nat.mul_le_mul_right _ (Nat.min_le_left _ _)

theorem nR_bd {m : Mult} (hb : Bd m) (k : Nat) : nR (m.take k) ≤ k * 1048576 := by
  unfold nR
  refine Nat.le_trans (sum_le_mul (b := 1048576) ?_) ?_
  · intro x hx
    obtain ⟨l, hl, rfl⟩ := List.mem_map.1 hx
    exact hb.poly l (List.mem_of_mem_take hl)
  · rw [List.length_map, List.length_take]; exact Nat.mul_le_mul_right _ (Nat.min_le_left _ _)

theorem badR_long {r : Ring} {p q : Pnt} (h4 : ¬ r.length < 4) (h0 : r[0]? = some p) (h1 : r[r.length - 1]? = some q) : badR r = !(decide (p = q)) := by
  unfold badR
  rw [List.head?_eq_getElem?, List.getLast?_eq_getElem?, h0, h1]
  simp [h4]

end Pl
end Go.Proofs.YtcclepohmhdpbaaGreatDoor
