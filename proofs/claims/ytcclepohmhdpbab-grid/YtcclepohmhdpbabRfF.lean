/- THE DOCUMENT's WALKS: middles. -/
import Derived.Test.YtcclepohmhdpbabRfE
namespace Go.Proofs.Ytcclepohmhdpbab
set_option linter.all false
open Go.RowKit Go.Deep

namespace Vd
theorem fold_drop (f : Pnt → Int) (ok : Pnt → Prop) [DecidablePred ok] (x : Pnt) : ∀ (l : List Pnt) (t : Pnt), l.foldl (cutG f ok x) t = t ∨ f (l.foldl (cutG f ok x) t) < f t := by
  intro l
  induction l with
  | nil => intro t; exact .inl rfl
  | cons p l ih =>
    intro t
    rw [List.foldl_cons]
    by_cases k : ok p ∧ f x < f p ∧ f p < f t
    · rw [show cutG f ok x t p = p from if_pos k]
      rcases ih p with h | h
      · rw [h]; exact .inr k.2.2
      · exact .inr (by omega)
    · rw [show cutG f ok x t p = t from if_neg k]; exact ih t
/-- the way goes on. -/
def Wy (a b : Pnt) (rings : Poly) (x : Pnt) (n : Nat) : Prop := x = b ∨ (a ≠ b ∧ pos a b x < pos a b b ∧ fuel (pos a b) rings.flatten b x ≤ n)
theorem wy_start (a b : Pnt) (rings : Poly) : Wy a b rings a (rings.flatten.length + 1) := by
  by_cases h : a = b
  · exact .inl h
  · refine .inr ⟨h, ?_, ?_⟩
    · have h1 : pos a b a = 0 := by unfold pos dt; grind
      have h2 : pos a b b = kk a b := by unfold pos dt kk; grind
      rw [h1, h2]
      exact kk_pos h
    · unfold fuel
      rw [if_neg h]
      have := List.countP_le_length (p := fun p => decide (pos a b a < pos a b p)) (l := rings.flatten)
      omega
theorem wy_step {a b x : Pnt} {rings : Poly} {n : Nat} (h : Wy a b rings x n) (hx : x ≠ b) :
    ∃ n', n = n' + 1 ∧ midsD a b rings n x = midOf x (nextD a b x rings) :: midsD a b rings n' (nextD a b x rings) ∧ Wy a b rings (nextD a b x rings) n' := by
  rcases h with h | ⟨hab, hlt, hf⟩
  · exact absurd h hx
  · have s := fuel_step (f := pos a b) (ok := fun p => has a b p 1) (l := rings.flatten) hx hlt
    rw [← nextD_eq hab] at s
    cases n with
    | zero => omega
    | succ n =>
      refine ⟨n, rfl, by rw [midsD, if_neg hx], ?_⟩
      rcases fold_drop (pos a b) (fun p => has a b p 1) x rings.flatten b with e | e
      · rw [← nextD_eq hab] at e; exact .inl e
      · rw [← nextD_eq hab] at e; exact .inr ⟨hab, e, by omega⟩
theorem midsD_end {a b : Pnt} {rings : Poly} (n : Nat) : midsD a b rings n b = [] := by cases n <;> simp [midsD]
theorem cutD_pos {a b x t p : Pnt} (h1 : on a b p 1) (h2 : dotD a b x p > 0) (h3 : dotD a b p t > 0) : cutD a b x t p = p := if_pos ⟨h1, h2, h3⟩
theorem cutD_neg {a b x t p : Pnt} (h : ¬ (on a b p 1 ∧ dotD a b x p > 0 ∧ dotD a b p t > 0)) : cutD a b x t p = t := if_neg h
end Vd
theorem foldD_snoc {a b x t0 : Pnt} {l : List Pnt} {p : Pnt} : (l ++ [p]).foldl (Vd.cutD a b x) t0 = Vd.cutD a b x (l.foldl (Vd.cutD a b x) t0) p := by rw [List.foldl_append]; rfl
theorem dotD_is (a b x y : Pnt) : Vd.dotD a b x y = dotP (subP x y) (subP a b) := rfl
theorem Rw.grown {w w2 : World} {l : List (Nat × TypeId × List Value)} (h : Rw w l) {v : Value} (hg : w.grownBy w2 v.ownBlock) (hn : ∀ x ∈ l, v.ownBlock ≠ some x.1) : Rw w2 l := fun x hx => (h x hx).grown hg (hn x hx)
theorem Rw.tail {w : World} {x : Nat × TypeId × List Value} {l : List (Nat × TypeId × List Value)} (h : Rw w (x :: l)) : Rw w l := fun y hy => h y (List.mem_cons_of_mem _ hy)
theorem Rw.head {w : World} {x : Nat × TypeId × List Value} {l : List (Nat × TypeId × List Value)} (h : Rw w (x :: l)) : VRow w x.1 x.2.1 x.2.2 := h x (by simp)
theorem Rw.cons {w : World} {x : Nat × TypeId × List Value} {l : List (Nat × TypeId × List Value)} (k : VRow w x.1 x.2.1 x.2.2) (h : Rw w l) : Rw w (x :: l) := fun y hy => by
  rcases List.mem_cons.1 hy with rfl | hy
  · exact k
  · exact h y hy
theorem Vd.nextD_cd {a b x : Pnt} {rings : Poly} (hb : Vd.Cd b) (hc : Vd.CdL rings) : Vd.Cd (Vd.nextD a b x rings) := by
  unfold Vd.nextD
  have key : ∀ (l : List Pnt) (t : Pnt), (∀ p ∈ l, Vd.Cd p) → Vd.Cd t → Vd.Cd (l.foldl (Vd.cutD a b x) t) := by
    intro l
    induction l with
    | nil => intro t _ h; exact h
    | cons p l ih =>
      intro t hp ht
      rw [List.foldl_cons]
      refine ih _ (fun q hq => hp q (by simp [hq])) ?_
      unfold Vd.cutD
      split
      · exact hp p (by simp)
      · exact ht
  refine key _ _ (fun p hp => ?_) hb
  obtain ⟨r, hr, hpr⟩ := List.mem_flatten.1 hp
  exact hc r hr p hpr
end Go.Proofs.Ytcclepohmhdpbab
