/- THE DOCUMENT's WAY ROUND ON THE HEAP: rows of yes and no. -/
import Derived.Test.YtcclepohmhdpbabRfI
namespace Go.Proofs.Ytcclepohmhdpbab
set_option linter.all false
open Go.RowKit Go.Deep

theorem info_bool : (Try.prog.info? 4).map (fun i => (i.zero, i.size, i.bytes)) = some (some (.bool false), 1, 1) := by kernel_rfl
def bools (m : List Bool) : List Value := m.map Value.bool
theorem bools_set (m : List Bool) (i : Nat) (b : Bool) : bools (m.set i b) = (bools m).set i (.bool b) := by simp [bools]
theorem bools_at {m : List Bool} {i : Nat} {b : Bool} (h : m[i]? = some b) : (bools m)[i]? = some (.bool b) := by simp [bools, h]
/-- a row's slice. -/
def rowV (n : Nat) (b : Nat) : List Value := [.slice (some ⟨b, 0, none⟩) n n]
/-- The table, as a function. -/
def tabM (M : List (List Bool)) (r k : Nat) : Bool := ((M[r]?).bind fun m => m[k]?).getD false
theorem tabM_at {M : List (List Bool)} {r k : Nat} {m : List Bool} {b : Bool} (hm : M[r]? = some m) (hb : m[k]? = some b) : tabM M r k = b := by unfold tabM; rw [hm]; simp [hb]
theorem tabM_strike {M : List (List Bool)} {r k : Nat} {m : List Bool} (hm : M[r]? = some m) : tabM (M.set r (m.set k false)) = Vd.strike (tabM M) r k := by
  funext s j
  unfold Vd.strike
  by_cases e : s = r
  · subst e
    unfold tabM
    rw [List.getElem?_set_self (Pl.lt_of_some hm), hm]
    by_cases e2 : j = k
    · subst e2
      rw [if_pos ⟨rfl, rfl⟩]
      by_cases c : j < m.length
      · simp [List.getElem?_set_self c]
      · have e3 : (m.set j false)[j]? = none := List.getElem?_eq_none (by rw [List.length_set]; omega)
        simp [e3]
    · rw [if_neg (fun q => e2 q.2)]
      simp [List.getElem?_set_ne (fun q => e2 q.symm)]
  · rw [if_neg (fun q => e q.1)]
    unfold tabM
    rw [List.getElem?_set_ne (fun q => e q.symm)]
/-- how many stand. -/
def cnt (M : List (List Bool)) : Nat := (M.map fun m => m.countP id).sum
/-- a ring's row. -/
def rowOf (T : List Pnt) (r : Ring) : List Bool := T.map fun p => decide (Vd.inRing r (Vd.at1 p) = 0)
theorem rowOf_at {T : List Pnt} {r : Ring} {t : Nat} {p : Pnt} (h : T[t]? = some p) : (rowOf T r)[t]? = some (decide (Vd.inRing r (Vd.at1 p) = 0)) := by unfold rowOf; rw [List.getElem?_map, h]; rfl
def fillR (m : List Bool) (t : Nat) : List Bool := m.take t ++ List.replicate (m.length - t) false
theorem fillR_zero (m : List Bool) : fillR m 0 = List.replicate m.length false := by simp [fillR]
theorem fillR_all (m : List Bool) : fillR m m.length = m := by simp [fillR]
theorem fillR_at {m : List Bool} {t : Nat} (h : t < m.length) : (fillR m t)[t]? = some false := by
  unfold fillR
  rw [List.getElem?_append_right (by rw [List.length_take]; omega), List.length_take, show t - min t m.length = 0 by omega, show m.length - t = m.length - (t + 1) + 1 by omega, List.replicate_succ]; rfl
theorem fillR_set {m : List Bool} {t : Nat} {x : Bool} (h : m[t]? = some x) : (fillR m t).set t x = fillR m (t + 1) := by
  have hl := Pl.lt_of_some h
  unfold fillR
  rw [List.set_append_right _ _ (by rw [List.length_take]; omega), List.length_take, show t - min t m.length = 0 by omega, show m.length - t = m.length - (t + 1) + 1 by omega, List.replicate_succ, List.set_cons_zero, Pl.take_one h, List.append_assoc]; rfl
end Go.Proofs.Ytcclepohmhdpbab
