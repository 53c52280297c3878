/- THE DOCUMENT's WALKS: cut. -/
import Derived.Test.YtcclepohmhdpbabRfG
import Derived.Test.YtcclepohmhdpbabGeB
namespace Go.Proofs.Ytcclepohmhdpbab
set_option linter.all false
open Go.RowKit Go.Deep

/-- each point once. -/
def onceF (acc : List Pnt) (p : Pnt) : List Pnt := if p ∈ acc then acc else acc ++ [p]
def onceL (l : List Pnt) : List Pnt := l.foldl onceF []
theorem onceL_snoc (l : List Pnt) (p : Pnt) : onceL (l ++ [p]) = onceF (onceL l) p := by unfold onceL; rw [List.foldl_append]; rfl
theorem once_facts : ∀ (l acc : List Pnt), acc.Nodup → (l.foldl onceF acc).Nodup ∧ (∀ p, p ∈ l.foldl onceF acc ↔ p ∈ acc ∨ p ∈ l) ∧ (l.foldl onceF acc).length ≤ acc.length + l.length := by
  intro l
  induction l with
  | nil => intro acc h; exact ⟨h, fun p => by simp, by simp⟩
  | cons x l ih =>
    intro acc h
    rw [List.foldl_cons]
    by_cases hx : x ∈ acc
    · rw [show onceF acc x = acc from if_pos hx]
      obtain ⟨h1, h2, h3⟩ := ih acc h
      refine ⟨h1, fun p => ?_, by simp only [List.length_cons]; omega⟩
      rw [h2, List.mem_cons]
      constructor
      · rintro (a | a); exact .inl a; exact .inr (.inr a)
      · rintro (a | rfl | a); exact .inl a; exact .inl hx; exact .inr a
    · rw [show onceF acc x = acc ++ [x] from if_neg hx]
      obtain ⟨h1, h2, h3⟩ := ih (acc ++ [x]) (by
        rw [List.nodup_append]
        refine ⟨h, by simp, ?_⟩
        intro a ha b hb
        rw [List.mem_singleton] at hb
        subst hb
        exact fun e => hx (e ▸ ha))
      refine ⟨h1, fun p => ?_, by simp only [List.length_cons, List.length_append, List.length_nil] at *; omega⟩
      rw [h2, List.mem_append, List.mem_singleton, List.mem_cons]
      constructor
      · rintro ((a | a) | a); exact .inl a; exact .inr (.inl a); exact .inr (.inr a)
      · rintro (a | a | a); exact .inl (.inl a); exact .inl (.inr a); exact .inr a
theorem onceL_nodup (l : List Pnt) : (onceL l).Nodup := (once_facts l [] List.nodup_nil).1
theorem mem_onceL {l : List Pnt} {p : Pnt} : p ∈ onceL l ↔ p ∈ l := by have := (once_facts l [] List.nodup_nil).2.1 p; unfold onceL; rw [this]; simp
theorem onceL_len (l : List Pnt) : (onceL l).length ≤ l.length := by have := (once_facts l [] List.nodup_nil).2.2; unfold onceL; simp at this; omega
/-- the points of a polygon, but for the last of each ring. -/
def heads (l : Poly) : List Pnt := (l.map List.dropLast).flatten
theorem mem_dropLast {r : Ring} (h : Vd.Shut r) (p : Pnt) : p ∈ r.dropLast ↔ p ∈ r := by
  constructor
  · exact fun k => List.dropLast_subset r k
  · intro k
    obtain ⟨i, hi, e⟩ := List.getElem_of_mem k
    have hl := h.len
    by_cases c : i < r.length - 1
    · have : r.dropLast[i]'(by rw [List.length_dropLast]; exact c) = r[i] := List.getElem_dropLast _
      exact List.mem_of_getElem (this.trans e)
    · have e0 : r[0]'(by omega) = p := by
        have h1 := Vd.ptAt_get (r := r) (i := 0) (by omega)
        have h2 := Vd.ptAt_get (r := r) (i := r.length - 1) (by omega)
        have e3 : i = r.length - 1 := by omega
        subst e3
        rw [List.getElem?_eq_getElem (by omega)] at h1 h2
        rw [Option.some.inj h1, h.eq, ← Option.some.inj h2]
        exact e
      have : r.dropLast[0]'(by rw [List.length_dropLast]; omega) = r[0]'(by omega) := List.getElem_dropLast _
      exact List.mem_of_getElem (this.trans e0)
theorem mem_heads {l : Poly} (h : ∀ r ∈ l, Vd.Shut r) (p : Pnt) : p ∈ heads l ↔ p ∈ l.flatten := by
  unfold heads
  simp only [List.mem_flatten, List.mem_map]
  constructor
  · rintro ⟨_, ⟨r, hr, rfl⟩, hp⟩; exact ⟨r, hr, (mem_dropLast (h r hr) p).1 hp⟩
  · rintro ⟨r, hr, hp⟩; exact ⟨_, ⟨r, hr, rfl⟩, (mem_dropLast (h r hr) p).2 hp⟩
theorem heads_take {l : Poly} {k : Nat} {r : Ring} (h : l[k]? = some r) : heads (l.take (k + 1)) = heads (l.take k) ++ r.dropLast := by unfold heads; rw [Pl.take_one h, List.map_append, List.flatten_append]; simp
theorem heads_len (l : Poly) : (heads l).length ≤ l.flatten.length := by
  unfold heads
  induction l with
  | nil => simp
  | cons r l ih => simp only [List.map_cons, List.flatten_cons, List.length_append, List.length_dropLast]; omega
end Go.Proofs.Ytcclepohmhdpbab
