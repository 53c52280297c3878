import Derived.Test.YtcclepohmhdpbabGrA
import Derived.Test.YtcclepohmhdpbabPlD
/- GRID, PLAINLY: whichever cells have holes. -/
namespace Go.Proofs.Ytcclepohmhdpbab
set_option linter.all false
namespace Vd

def gJ (K : List Nat) : List (Option Nat) := none :: K.map some
def gL (w h : Nat) (K : List Nat) : Poly := (gJ K).map (gR w h)
structure GK (w h : Nat) (K : List Nat) : Prop where
  w1 : 1 ≤ w
  w4 : w ≤ 4
  h1 : 1 ≤ h
  h3 : h ≤ 3
  nd : K.Nodup
  lt : ∀ k ∈ K, k < w * h
  len : K.length ≤ 11
theorem gJ_nodup {K : List Nat} (h : K.Nodup) : (gJ K).Nodup := by
  unfold gJ
  refine List.nodup_cons.2 ⟨by simp, ?_⟩
  exact List.Pairwise.map some (fun a b hab e => hab (Option.some.inj e)) h
theorem GK.dom {w h : Nat} {K : List Nat} (g : GK w h K) {a : Option Nat} (ha : a ∈ gJ K) : a ∈ gD w h := by
  unfold gJ at ha
  unfold gD
  rcases List.mem_cons.1 ha with rfl | ha
  · simp
  · obtain ⟨k, hk, rfl⟩ := List.mem_map.1 ha
    exact List.mem_cons_of_mem _ (List.mem_map_of_mem (List.mem_range.2 (g.lt k hk)))
theorem GK.all {w h : Nat} {K : List Nat} (g : GK w h K) : (∀ a ∈ gJ K, gOne (gR w h a) = true) ∧ (∀ a ∈ gJ K, ∀ b ∈ gJ K, a ≠ b → cross (gR w h a) (gR w h b) = false ∧ (∀ p ∈ gR w h a, place (gR w h b) (at1 p) ≠ 1) ∧ (a ≠ none → lies (gR w h a) (gR w h b) (gNest b) = true)) ∧ (∀ k, k < w * h → gPt w h k = true) ∧ gOut w h = true := by
  have := gall g.w1 g.w4 g.h1 g.h3
  unfold gAll at this
  simp only [Bool.and_eq_true] at this
  obtain ⟨⟨⟨h1, h2⟩, h3⟩, h4⟩ := this
  refine ⟨fun a ha => List.all_eq_true.1 h1 a (g.dom ha), fun a ha b hb hab => ?_, fun k hk => List.all_eq_true.1 h3 k (List.mem_range.2 hk), h4⟩
  have := List.all_eq_true.1 (List.all_eq_true.1 h2 a (g.dom ha)) b (g.dom hb)
  unfold gTwo at this
  rw [decide_eq_false hab, Bool.false_or] at this
  simp only [Bool.and_eq_true] at this
  obtain ⟨⟨t1, t2⟩, t3⟩ := this
  refine ⟨by simpa using t1, fun p hp => of_decide_eq_true (List.all_eq_true.1 t2 p hp), fun hn => ?_⟩
  cases a with
  | none => exact absurd rfl hn
  | some k => simpa using t3
theorem gL_len (w h : Nat) (K : List Nat) : (gL w h K).length = K.length + 1 := by unfold gL gJ; simp
theorem gL_at {w h : Nat} {K : List Nat} {i : Nat} (hi : i < (gL w h K).length) : ∃ a, (gJ K)[i]? = some a ∧ a ∈ gJ K ∧ rAt (gL w h K) i = gR w h a := by
  have hi2 : i < (gJ K).length := by unfold gL at hi; rwa [List.length_map] at hi
  obtain ⟨a, ha⟩ := Pl.some_of_lt hi2
  refine ⟨a, ha, Pl.mem_of_some ha, ?_⟩
  unfold rAt gL
  rw [List.getD_eq_getElem?_getD, List.getElem?_map, ha]; rfl
theorem gJ_ne {K : List Nat} (h : K.Nodup) {i j : Nat} {a b : Option Nat} (hij : i ≠ j) (hi : (gJ K)[i]? = some a) (hj : (gJ K)[j]? = some b) : a ≠ b := by
  intro e
  subst e
  exact hij ((List.getElem?_inj (Pl.lt_of_some hi) (gJ_nodup h)).1 (hi.trans hj.symm))
theorem gJ_zero {K : List Nat} {j : Nat} {b : Option Nat} (hj : (gJ K)[j]? = some b) : nestW j = gNest b ∧ (1 ≤ j → b ≠ none) := by
  cases j with
  | zero =>
    have : b = none := by unfold gJ at hj; simpa using hj.symm
    subst this
    exact ⟨rfl, fun h => absurd h (by omega)⟩
  | succ j =>
    unfold gJ at hj
    rw [List.getElem?_cons_succ, List.getElem?_map, Option.map_eq_some_iff] at hj
    obtain ⟨k, _, rfl⟩ := hj
    exact ⟨rfl, fun _ e => by cases e⟩
theorem bool_no {b : Bool} (h : b = true → False) : b = false := by cases b <;> simp_all
theorem GK.simple {w h : Nat} {K : List Nat} (g : GK w h K) : simple (gL w h K) = true := by
  have hA := g.all.1
  unfold Vd.simple
  rw [Bool.not_eq_true', List.any_eq_false]
  intro r hr
  obtain ⟨a, ha, rfl⟩ := List.mem_map.1 hr
  have := hA a ha
  unfold gOne at this
  simp only [Bool.and_eq_true, Bool.not_eq_true'] at this
  rw [this.1.1]; simp
theorem GK.touch {w h : Nat} {K : List Nat} (g : GK w h K) : touch (gL w h K) = true := by
  unfold Vd.touch
  rw [Bool.not_eq_true']
  refine bool_no fun e => ?_
  obtain ⟨j, hj, e⟩ := anyI_iff.1 e
  obtain ⟨i, hi, e⟩ := anyI_iff.1 e
  obtain ⟨a, a1, a2, a3⟩ := gL_at (w := w) (h := h) (show i < (gL w h K).length by omega)
  obtain ⟨b, b1, b2, b3⟩ := gL_at (w := w) (h := h) hj
  rw [a3, b3, (g.all.2.1 a a2 b b2 (gJ_ne g.nd (by omega) a1 b1)).1] at e
  cases e
theorem GK.nested {w h : Nat} {K : List Nat} (g : GK w h K) : nested (gL w h K) = true := by
  unfold Vd.nested
  rw [Bool.not_eq_true']
  refine bool_no fun e => ?_
  obtain ⟨i, hi, e⟩ := anyI_iff.1 e
  simp only [Bool.and_eq_true, decide_eq_true_eq] at e
  obtain ⟨i1, e⟩ := e
  obtain ⟨j, hj, e⟩ := anyI_iff.1 e
  simp only [Bool.and_eq_true, decide_eq_true_eq] at e
  obtain ⟨hij, e⟩ := e
  obtain ⟨a, a1, a2, a3⟩ := gL_at (w := w) (h := h) hi
  obtain ⟨b, b1, b2, b3⟩ := gL_at (w := w) (h := h) hj
  rw [a3, b3, (gJ_zero b1).1, (g.all.2.1 a a2 b b2 (gJ_ne g.nd hij a1 b1)).2.2 ((gJ_zero a1).2 i1)] at e
  cases e
theorem one_at_most {l : List Nat} (hn : l.Nodup) {x : Nat} (h : ∀ y ∈ l, y = x) : l.length ≤ 1 := by
  match l, hn, h with
  | [], _, _ => simp
  | [a], _, _ => simp
  | a :: b :: t, hn, h =>
    have e : a = b := (h a (by simp)).trans (h b (by simp)).symm
    rw [List.nodup_cons] at hn
    exact absurd (by rw [e]; simp) hn.1
theorem GK.way {w h : Nat} {K : List Nat} (g : GK w h K) : way (gL w h K) = false := by
  have hr : ∀ p ∈ (gL w h K).flatten, (ringsAt (gL w h K) p).length ≤ 1 := fun p hp => by
    obtain ⟨r, hr, hp⟩ := List.mem_flatten.1 hp
    obtain ⟨i0, hi0⟩ := List.getElem?_of_mem hr
    have hl0 := Pl.lt_of_some hi0
    obtain ⟨a, a1, a2, a3⟩ := gL_at (w := w) (h := h) hl0
    have er : r = gR w h a := by
      rw [← a3]; unfold rAt; rw [List.getD_eq_getElem?_getD, hi0]; rfl
    refine one_at_most (x := i0) (List.nodup_range.filter _) fun i hi => ?_
    obtain ⟨h1, h2⟩ := List.mem_filter.1 hi
    have h2 := of_decide_eq_true h2
    obtain ⟨b, b1, b2, b3⟩ := gL_at (w := w) (h := h) (List.mem_range.1 h1)
    rcases Nat.decEq i i0 with hne | he
    · rw [b3] at h2
      exact absurd h2 ((g.all.2.1 a a2 b b2 (gJ_ne g.nd (fun e => hne e.symm) a1 b1)).2.1 p (er ▸ hp))
    · exact he
  have ht : ∀ ps : List Pnt, (∀ p ∈ ps, p ∈ (gL w h K).flatten) → ps.foldl (touchF (gL w h K)) [] = [] := by
    intro ps
    induction ps with
    | nil => intro _; rfl
    | cons p t ih =>
      intro hp
      have e : touchF (gL w h K) [] p = [] := by
        unfold touchF
        rw [if_neg]
        intro k
        have := hr p (hp p (by simp))
        omega
      rw [List.foldl_cons, e]
      exact ih fun q hq => hp q (by simp [hq])
  unfold Vd.way touchPts
  rw [ht _ fun p hp => hp]; rfl
theorem GK.least {w h : Nat} {K : List Nat} (g : GK w h K) : least [gL w h K] = 0 := by
  have h1 : badC 1 [gL w h K] = false := by unfold badC holdsC; simp [g.simple]
  have h2 : badC 2 [gL w h K] = false := by unfold badC holdsC; simp [g.touch]
  have h3 : badC 3 [gL w h K] = false := by unfold badC holdsC; simp [g.nested]
  have h4 : badC 4 [gL w h K] = false := by unfold badC holdsC; simp [g.way]
  have h5 : overlap [gL w h K] = false := by unfold overlap; simp [anyI, List.range_succ]
  unfold Vd.least
  rw [h1, h2, h3, h4, h5]; rfl
theorem gR_len (w h : Nat) (a : Option Nat) : (gR w h a).length = 5 := by cases a <;> rfl
theorem GK.wrong {w h : Nat} {K : List Nat} (g : GK w h K) : Pl.wrong [gL w h K] = 0 := by
  have hl := g.len
  have k1 : Pl.many [gL w h K] = false := by
    have e1 : Pl.nR [gL w h K] = K.length + 1 := by unfold Pl.nR; simp [gL_len]
    have e2 : Pl.nP [gL w h K] = (K.length + 1) * 5 := by
      unfold Pl.nP Pl.nPl gL
      simp only [List.map_cons, List.map_nil, List.sum_cons, List.sum_nil, Nat.add_zero, List.map_map]
      have : (gJ K).map (List.length ∘ gR w h) = List.replicate (gJ K).length 5 := by
        rw [List.eq_replicate_iff]
        exact ⟨by simp, fun x hx => by obtain ⟨a, _, rfl⟩ := List.mem_map.1 hx; exact gR_len w h a⟩
      rw [this, List.sum_replicate_nat]
      unfold gJ; simp
    unfold Pl.many
    rw [e1, e2]
    simp only [Bool.or_eq_false_iff, decide_eq_false_iff_not, List.length_cons, List.length_nil]
    omega
  have one : ∀ r ∈ gL w h K, Pl.badR r = false ∧ Pl.wideR r = false := fun r hr => by
    obtain ⟨a, ha, rfl⟩ := List.mem_map.1 hr
    have := g.all.1 a ha
    unfold gOne at this
    simp only [Bool.and_eq_true, Bool.not_eq_true'] at this
    exact ⟨this.1.2, this.2⟩
  have k2 : [gL w h K].any Pl.badL = false := by
    rw [List.any_eq_false]
    intro l hl
    rw [List.mem_singleton.1 hl]
    unfold Pl.badL Pl.badRs
    simp only [Bool.or_eq_true, not_or, Bool.not_eq_true]
    refine ⟨rfl, ?_⟩
    rw [List.any_eq_false]
    intro r hr
    rw [(one r hr).1]; simp
  have k3 : [gL w h K].any Pl.wideL = false := by
    rw [List.any_eq_false]
    intro l hl
    rw [List.mem_singleton.1 hl]
    unfold Pl.wideL
    rw [Bool.not_eq_true, List.any_eq_false]
    intro r hr
    rw [(one r hr).2]; simp
  unfold Pl.wrong
  rw [k1, k2, k3]; rfl
/-! ### which points it has -/
theorem inPolyL_no : ∀ (t : List Ring) (p : Spot), inPolyL t false p = t.all fun r => !decide (place r p = 2)
  | [], _ => rfl
  | r :: t, p => by
    rw [inPolyL, inPolyL_no t p, List.all_cons]
    cases decide (place r p = 2) <;> rfl
theorem gIn (w h : Nat) (K : List Nat) (p : Spot) : inSet [gL w h K] p = (!decide (place (gR w h none) p = 0) && K.all fun k => !decide (place (gR w h (some k)) p = 2)) := by
  have e : gL w h K = gR w h none :: K.map fun k => gR w h (some k) := by unfold gL gJ; simp
  unfold inSet inPoly
  rw [e]
  simp only [List.any_cons, List.any_nil, Bool.or_false, List.length_cons]
  rw [inPolyL, inPolyL_no, List.all_map]
  cases decide (place (gR w h none) p = 0)
  · simp
    rfl
  · simp
theorem GK.pt {w h : Nat} {K : List Nat} (g : GK w h K) {k : Nat} (hk : k < w * h) : inSet [gL w h K] (gC w k) = !decide (k ∈ K) ∧ inSet [gL w h K] (gE w k) = true ∧ inSet [gL w h K] (gN w k) = true := by
  have := g.all.2.2.1 k hk
  unfold gPt at this
  simp only [Bool.and_eq_true, decide_eq_true_eq] at this
  obtain ⟨⟨⟨a1, a2⟩, a3⟩, a4⟩ := this
  have a4 : ∀ j, j < w * h → place (gR w h (some j)) (gC w k) = (if j = k then 2 else 0) ∧ place (gR w h (some j)) (gE w k) ≠ 2 ∧ place (gR w h (some j)) (gN w k) ≠ 2 := fun j hj => by
    have := List.all_eq_true.1 a4 j (List.mem_range.2 hj)
    simp only [Bool.and_eq_true, decide_eq_true_eq] at this
    exact ⟨this.1.1, this.1.2, this.2⟩
  rw [gIn, gIn, gIn, a1, a2, a3]
  refine ⟨?_, ?_, ?_⟩
  · show (K.all fun j => !decide (place (gR w h (some j)) (gC w k) = 2)) = _
    by_cases hm : k ∈ K
    · rw [decide_eq_true hm]
      refine bool_no fun e => ?_
      have := List.all_eq_true.1 e k hm
      rw [(a4 k hk).1, if_pos rfl] at this
      cases this
    · rw [decide_eq_false hm]
      refine List.all_eq_true.2 fun j hj => ?_
      rw [(a4 j (g.lt j hj)).1, if_neg (fun (e : j = k) => hm (e ▸ hj))]; rfl
  · show (K.all fun j => !decide (place (gR w h (some j)) (gE w k) = 2)) = _
    refine List.all_eq_true.2 fun j hj => ?_
    rw [decide_eq_false (a4 j (g.lt j hj)).2.1]; rfl
  · show (K.all fun j => !decide (place (gR w h (some j)) (gN w k) = 2)) = _
    refine List.all_eq_true.2 fun j hj => ?_
    rw [decide_eq_false (a4 j (g.lt j hj)).2.2]; rfl
theorem GK.out {w h : Nat} {K : List Nat} (g : GK w h K) : inSet [gL w h K] ((-1, 1), 7) = false ∧ inSet [gL w h K] ((0, 0), 1) = true ∧ inSet [gL w h K] (gB w) = false := by
  have := g.all.2.2.2
  unfold gOut at this
  simp only [Bool.and_eq_true, decide_eq_true_eq] at this
  obtain ⟨⟨⟨a1, a2⟩, a3⟩, a4⟩ := this
  rw [gIn, gIn, gIn, a1, a3, decide_eq_false a2]
  refine ⟨rfl, ?_, rfl⟩
  show (K.all fun j => !decide (place (gR w h (some j)) ((0, 0), 1) = 2)) = _
  refine List.all_eq_true.2 fun j hj => ?_
  rw [decide_eq_false (of_decide_eq_true (List.all_eq_true.1 a4 j (List.mem_range.2 (g.lt j hj))))]; rfl
/-! ### which cells -/
def gK (f : Nat → Bool) : Nat → List Nat
  | 0 => []
  | k + 1 => if f k && decide ((gK f k).length < 11) then gK f k ++ [k] else gK f k
theorem gK_mem (f : Nat → Bool) : ∀ (n k : Nat), k ∈ gK f n → k < n
  | 0, k, h => by cases h
  | n + 1, k, h => by
    rw [gK] at h
    split at h
    · rcases List.mem_append.1 h with h | h
      · have := gK_mem f n k h; omega
      · rw [List.mem_singleton.1 h]; omega
    · have := gK_mem f n k h; omega
theorem gK_nodup (f : Nat → Bool) : ∀ n, (gK f n).Nodup
  | 0 => List.nodup_nil
  | n + 1 => by
    rw [gK]
    split
    · refine List.nodup_append.2 ⟨gK_nodup f n, by simp, fun a ha b hb => ?_⟩
      rw [List.mem_singleton.1 hb]
      have := gK_mem f n a ha; omega
    · exact gK_nodup f n
theorem gK_len (f : Nat → Bool) : ∀ n, (gK f n).length ≤ 11
  | 0 => by simp [gK]
  | n + 1 => by
    rw [gK]
    split
    · rename_i h
      simp only [Bool.and_eq_true, decide_eq_true_eq] at h
      rw [List.length_append, List.length_singleton]; omega
    · exact gK_len f n
theorem gK_full (f : Nat → Bool) {k : Nat} (h : 11 ≤ (gK f k).length) : ∀ n, k ≤ n → gK f n = gK f k := by
  intro n hn
  obtain ⟨d, rfl⟩ : ∃ d, n = k + d := ⟨n - k, by omega⟩
  clear hn
  induction d with
  | zero => rfl
  | succ d ih =>
    show gK f (k + d + 1) = _
    rw [gK, ih, decide_eq_false (by omega), Bool.and_false]; rfl
theorem gK_has (f : Nat → Bool) {k n : Nat} (h : k < n) : decide (k ∈ gK f n) = (f k && decide ((gK f k).length < 11)) := by
  obtain ⟨d, rfl⟩ : ∃ d, n = k + 1 + d := ⟨n - k - 1, by omega⟩
  clear h
  have key : k ∈ gK f (k + 1 + d) ↔ k ∈ gK f (k + 1) := by
    induction d with
    | zero => exact Iff.rfl
    | succ d ih =>
      show k ∈ gK f (k + 1 + d + 1) ↔ _
      rw [gK]
      split
      · rw [List.mem_append, ih]
        constructor
        · rintro (h | h)
          · exact h
          · have := List.mem_singleton.1 h; omega
        · exact .inl
      · exact ih
  have k2 : k ∈ gK f (k + 1) ↔ (f k && decide ((gK f k).length < 11)) = true := by
    rw [gK]
    split
    · rename_i h; simp [h]
    · rename_i h
      constructor
      · intro e; have := gK_mem f k k e; omega
      · intro e; exact absurd e h
  cases hb : (f k && decide ((gK f k).length < 11)) with
  | true => exact decide_eq_true (key.2 (k2.2 hb))
  | false => exact decide_eq_false fun e => by have := k2.1 (key.1 e); rw [hb] at this; cases this
theorem gK_ok {w h : Nat} (h1 : 1 ≤ w) (h2 : w ≤ 4) (h3 : 1 ≤ h) (h4 : h ≤ 3) (f : Nat → Bool) : GK w h (gK f (w * h)) := ⟨h1, h2, h3, h4, gK_nodup f _, gK_mem f _, gK_len f _⟩
end Vd
end Go.Proofs.Ytcclepohmhdpbab

/- VALIDITY, PLAINLY: the parts of a segment (G4): the program's and the document's have the same middles. -/
namespace Go.Proofs.Ytcclepohmhdpbab
set_option linter.all false
namespace Vd
/-- the points that cut a segment: its ends, and what lies on it. -/
def Cut (a b : Pnt) (l : List Pnt) (x : Pnt) : Prop := x = a ∨ x = b ∨ (x ∈ l ∧ has a b x 1)
/-- two cuts that follow each other, by their places. -/
structure Cons (f : Pnt → Int) (C : Pnt → Prop) (x y : Pnt) : Prop where
  cx : C x
  cy : C y
  lt : f x < f y
  no : ∀ c, C c → ¬ (f x < f c ∧ f c < f y)

/-- The fold: the nearest behind. -/
def cutG (f : Pnt → Int) (ok : Pnt → Prop) [DecidablePred ok] (from_ to p : Pnt) : Pnt := if ok p ∧ f from_ < f p ∧ f p < f to then p else to
theorem fold_near (f : Pnt → Int) (ok : Pnt → Prop) [DecidablePred ok] (x : Pnt) : ∀ (l : List Pnt) (t : Pnt), f x < f t →
    (l.foldl (cutG f ok x) t = t ∨ (l.foldl (cutG f ok x) t ∈ l ∧ ok (l.foldl (cutG f ok x) t))) ∧ f x < f (l.foldl (cutG f ok x) t) ∧ f (l.foldl (cutG f ok x) t) ≤ f t ∧ ∀ c ∈ l, ok c → ¬ (f x < f c ∧ f c < f (l.foldl (cutG f ok x) t)) := by
  intro l
  induction l with
  | nil => intro t h; exact ⟨.inl rfl, h, Int.le_refl _, by simp⟩
  | cons p l ih =>
    intro t h
    rw [List.foldl_cons]
    by_cases k : ok p ∧ f x < f p ∧ f p < f t
    · rw [show cutG f ok x t p = p from if_pos k]
      obtain ⟨h1, h2, h3, h4⟩ := ih p k.2.1
      refine ⟨?_, h2, by omega, ?_⟩
      · rcases h1 with e | ⟨e1, e2⟩
        · rw [e]; exact .inr ⟨by simp, k.1⟩
        · exact .inr ⟨by simp [e1], e2⟩
      · intro c hc hok
        rcases List.mem_cons.1 hc with rfl | hc
        · omega
        · exact h4 c hc hok
    · rw [show cutG f ok x t p = t from if_neg k]
      obtain ⟨h1, h2, h3, h4⟩ := ih t h
      refine ⟨?_, h2, h3, ?_⟩
      · rcases h1 with e | ⟨e1, e2⟩
        · exact .inl e
        · exact .inr ⟨by simp [e1], e2⟩
      · intro c hc hok
        rcases List.mem_cons.1 hc with rfl | hc
        · intro ⟨q1, q2⟩; exact k ⟨hok, q1, by omega⟩
        · exact h4 c hc hok
/-- The list of middles, from x on to b. -/
def midG (f : Pnt → Int) (ok : Pnt → Prop) [DecidablePred ok] (l : List Pnt) (b : Pnt) : Nat → Pnt → List Spot
  | 0, _ => []
  | n + 1, x => if x = b then [] else midOf x (l.foldl (cutG f ok x) b) :: midG f ok l b n (l.foldl (cutG f ok x) b)
/-- enough rounds. -/
def fuel (f : Pnt → Int) (l : List Pnt) (b x : Pnt) : Nat := if x = b then 0 else 1 + l.countP fun p => decide (f x < f p)
theorem fuel_step {f : Pnt → Int} {ok : Pnt → Prop} [DecidablePred ok] {l : List Pnt} {b x : Pnt} (hx : x ≠ b) (h : f x < f b) : fuel f l b (l.foldl (cutG f ok x) b) < fuel f l b x := by
  obtain ⟨h1, h2, -, -⟩ := fold_near f ok x l b h
  unfold fuel
  rw [if_neg hx]
  split
  · omega
  · rename_i g
    rcases h1 with e | ⟨e1, e2⟩
    · exact absurd e g
    · generalize l.foldl (cutG f ok x) b = y at *
      obtain ⟨l1, l2, e⟩ := List.append_of_mem e1
      have mono : ∀ l : List Pnt, l.countP (fun p => decide (f y < f p)) ≤ l.countP (fun p => decide (f x < f p)) := by
        intro l
        apply List.countP_mono_left
        intro z _ hz
        have := of_decide_eq_true hz
        exact decide_eq_true (by omega)
      have m1 := mono l1
      have m2 := mono l2
      rw [e, List.countP_append, List.countP_append, List.countP_cons, List.countP_cons]
      simp [h2]
      omega
theorem mem_midG {f : Pnt → Int} {C ok : Pnt → Prop} [DecidablePred ok] {l : List Pnt} {a b : Pnt} (hC : ∀ x, C x ↔ x = a ∨ x = b ∨ (x ∈ l ∧ ok x)) (inj : ∀ x y, C x → C y → f x = f y → x = y) (top : ∀ x, C x → f x ≤ f b) :
    ∀ (n : Nat) (x : Pnt), C x → fuel f l b x ≤ n → f a ≤ f x → ∀ m, m ∈ midG f ok l b n x ↔ ∃ y z, Cons f C y z ∧ f x ≤ f y ∧ m = midOf y z := by
  intro n
  induction n with
  | zero =>
    intro x hx hn ha m
    have : x = b := by unfold fuel at hn; split at hn <;> first | assumption | omega
    subst this
    constructor
    · intro h; cases h
    · rintro ⟨y, z, hc, h1, -⟩
      have := top z hc.cy
      have := hc.lt
      omega
  | succ n ih =>
    intro x hx hn ha m
    unfold midG
    by_cases hb : x = b
    · rw [if_pos hb]
      constructor
      · intro h; cases h
      · rintro ⟨y, z, hc, h1, -⟩
        have := top z hc.cy
        have := hc.lt
        rw [hb] at h1
        omega
    · rw [if_neg hb]
      have hlt : f x < f b := by
        have := top x hx
        rcases Int.lt_or_eq_of_le this with h | h
        · exact h
        · exact absurd (inj x b hx ((hC b).2 (.inr (.inl rfl))) h) hb
      have hf := fuel_step (ok := ok) (l := l) hb hlt
      obtain ⟨h1, h2, h3, h4⟩ := fold_near f ok x l b hlt
      generalize hy : l.foldl (cutG f ok x) b = y at *
      have cy : C y := by
        rw [hC]
        rcases h1 with e | ⟨e1, e2⟩
        · exact .inr (.inl e)
        · exact .inr (.inr ⟨e1, e2⟩)
      have hno : ∀ c, C c → ¬ (f x < f c ∧ f c < f y) := by
        intro c hc
        rcases (hC c).1 hc with rfl | rfl | ⟨e1, e2⟩
        · omega
        · omega
        · exact h4 c e1 e2
      have key := ih y cy (by omega) (by omega) m
      rw [List.mem_cons, key]
      constructor
      · rintro (rfl | ⟨u, v, hc, k1, k2⟩)
        · exact ⟨x, y, ⟨hx, cy, h2, hno⟩, Int.le_refl _, rfl⟩
        · exact ⟨u, v, hc, by omega, k2⟩
      · rintro ⟨u, v, hc, k1, k2⟩
        by_cases hu : f y ≤ f u
        · exact .inr ⟨u, v, hc, hu, k2⟩
        · left
          have e1 : u = x := by
            refine inj u x hc.cx hx ?_
            have := hno u hc.cx
            omega
          subst e1
          have e2 : v = y := by
            refine inj v y hc.cy cy ?_
            have g1 := hno v hc.cy
            have g2 := hc.no y cy
            have g3 := hc.lt
            omega
          rw [k2, e2]

/-! ### the program's -/
theorem has_line {a b x : Pnt} (h : has a b x 1) : cr a b x 1 = 0 := h.1
theorem has_a (a b : Pnt) : has a b a 1 := ⟨cr_a a b, by unfold btw; omega, by unfold btw; omega⟩
theorem has_b (a b : Pnt) : has a b b 1 := ⟨cr_b a b, by unfold btw; omega, by unfold btw; omega⟩
theorem cut_has {a b : Pnt} {l : List Pnt} {x : Pnt} (h : Cut a b l x) : has a b x 1 := by
  rcases h with rfl | rfl | h
  · exact has_a _ _
  · exact has_b _ _
  · exact h.2
theorem pos_le {a b x : Pnt} (hab : a ≠ b) (h : has a b x 1) : 0 ≤ pos a b x ∧ pos a b x ≤ kk a b := by
  have := (has_on hab (by omega)).1 h
  exact ⟨this.2.1, by have := this.2.2; unfold pos; omega⟩
theorem pos_inj {a b x y : Pnt} (hab : a ≠ b) (hx : cr a b x 1 = 0) (hy : cr a b y 1 = 0) (e : pos a b x = pos a b y) : x = y := by
  have hk := kk_pos hab
  have e1 : (pos a b y - pos a b x) * (b.1 - a.1) = (y.1 - x.1) * kk a b := by unfold cr at hx hy; unfold pos dt kk; grind
  have e2 : (pos a b y - pos a b x) * (b.2 - a.2) = (y.2 - x.2) * kk a b := by unfold cr at hx hy; unfold pos dt kk; grind
  rw [e, Int.sub_self, Int.zero_mul] at e1 e2
  have z : ∀ t : Int, 0 = t * kk a b → t = 0 := by
    intro t h
    rcases Int.mul_eq_zero.1 h.symm with h | h
    · exact h
    · omega
  have := z _ e1
  have := z _ e2
  exact Prod.ext (by omega) (by omega)

/-- Whichever order it is asked in: the middles are those of cuts that follow each other. -/
theorem midG_pos {a b : Pnt} (hab : a ≠ b) (l : List Pnt) {n : Nat} (hn : l.length + 1 ≤ n) (m : Spot) :
    m ∈ midG (pos a b) (fun x => has a b x 1) l b n a ↔ ∃ y z, Cons (pos a b) (Cut a b l) y z ∧ m = midOf y z := by
  have hk := kk_pos hab
  have := mem_midG (f := pos a b) (C := Cut a b l) (ok := fun x => has a b x 1) (l := l) (a := a) (b := b) (fun x => Iff.rfl)
    (fun x y hx hy e => pos_inj hab (cut_has hx).1 (cut_has hy).1 e) (fun x hx => by rw [pos_b]; exact (pos_le hab (cut_has hx)).2) n a (.inl rfl)
    (by unfold fuel; split
        · omega
        · have := List.countP_le_length (p := fun p => decide (pos a b a < pos a b p)) (l := l); omega) (Int.le_refl _) m
  rw [this]
  constructor
  · rintro ⟨y, z, hc, -, e⟩; exact ⟨y, z, hc, e⟩
  · rintro ⟨y, z, hc, e⟩; exact ⟨y, z, hc, by rw [pos_a]; exact (pos_le hab (cut_has hc.cx)).1, e⟩
end Vd
end Go.Proofs.Ytcclepohmhdpbab

/- VALIDITY, PLAINLY: the program's middles and the document's (G4). -/
namespace Go.Proofs.Ytcclepohmhdpbab
set_option linter.all false
namespace Vd
theorem bef_pos' {a b x y : Pnt} (h : bef a b) (hx : cr a b x 1 = 0) (hy : cr a b y 1 = 0) : bef x y ↔ pos a b x < pos a b y := (bef_pos (bef_ne h) hx hy).1 h
theorem fold_cut_eq {a b x : Pnt} (h : bef a b) (hx : cr a b x 1 = 0) : ∀ (l : List Pnt) (t : Pnt), cr a b t 1 = 0 → l.foldl (cutF (a, b) x) t = l.foldl (cutG (pos a b) (fun p => has a b p 1) x) t ∧ cr a b (l.foldl (cutF (a, b) x) t) 1 = 0 := by
  intro l
  induction l with
  | nil => intro t ht; exact ⟨rfl, ht⟩
  | cons p l ih =>
    intro t ht
    rw [List.foldl_cons, List.foldl_cons]
    by_cases hp : has a b p 1
    · have e1 := bef_pos' h hx hp.1
      have e2 := bef_pos' h hp.1 ht
      have e : cutF (a, b) x t p = cutG (pos a b) (fun p => has a b p 1) x t p := by
        unfold cutF cutG
        by_cases c : bef x p ∧ bef p t
        · rw [if_pos ⟨c.1, c.2, hp⟩, if_pos ⟨hp, e1.1 c.1, e2.1 c.2⟩]
        · rw [if_neg (fun q => c ⟨q.1, q.2.1⟩), if_neg (fun q => c ⟨e1.2 q.2.1, e2.2 q.2.2⟩)]
      have ht' : cr a b (cutF (a, b) x t p) 1 = 0 := by unfold cutF; split; exact hp.1; exact ht
      rw [← e]
      exact ih _ ht'
    · rw [show cutF (a, b) x t p = t from if_neg (fun q => hp q.2.2), show cutG (pos a b) (fun p => has a b p 1) x t p = t from if_neg (fun q => hp q.1)]
      exact ih t ht
theorem midsF_eq {a b : Pnt} (h : bef a b) (rings : Poly) : ∀ (n : Nat) (x : Pnt), cr a b x 1 = 0 → midsF n (a, b) x rings = midG (pos a b) (fun p => has a b p 1) rings.flatten b n x := by
  intro n
  induction n with
  | zero => intro x _; rfl
  | succ n ih =>
    intro x hx
    obtain ⟨e, k⟩ := fold_cut_eq h hx rings.flatten b (cr_b a b)
    unfold midsF midG nextCut
    simp only
    rw [← e, ih _ k]
theorem has_swap {a b p : Pnt} {w : Int} : has a b p w ↔ has b a p w := by
  unfold has
  rw [cr_swap a b p w]
  unfold btw
  omega
theorem cut_swap {a b : Pnt} {l : List Pnt} {x : Pnt} : Cut a b l x ↔ Cut b a l x := by
  unfold Cut
  rw [has_swap (a := a)]
  constructor
  · rintro (h | h | h)
    · exact .inr (.inl h)
    · exact .inl h
    · exact .inr (.inr h)
  · rintro (h | h | h)
    · exact .inr (.inl h)
    · exact .inl h
    · exact .inr (.inr h)
theorem pos_swap (a b x : Pnt) : pos b a x = kk a b - pos a b x := by unfold pos dt kk; grind
theorem cons_swap {a b : Pnt} {l : List Pnt} {x y : Pnt} (h : Cons (pos a b) (Cut a b l) x y) : Cons (pos b a) (Cut b a l) y x := by
  refine ⟨cut_swap.1 h.cy, cut_swap.1 h.cx, ?_, ?_⟩
  · rw [pos_swap, pos_swap a b]; have := h.lt; omega
  · intro c hc
    have := h.no c (cut_swap.2 hc)
    rw [pos_swap, pos_swap a b c, pos_swap a b x]
    omega
theorem mid_swap (x y : Pnt) : midOf x y = midOf y x := by unfold midOf; rw [Int.add_comm, Int.add_comm x.2]
/-- G4: what the program's middles are. -/
theorem mem_mids {a b : Pnt} (hab : a ≠ b) (rings : Poly) (m : Spot) : m ∈ mids (a, b) rings ↔ ∃ y z, Cons (pos a b) (Cut a b rings.flatten) y z ∧ m = midOf y z := by
  unfold mids fwd
  simp only
  by_cases h : bef b a
  · rw [if_pos h]
    simp only
    rw [midsF_eq h rings _ _ (cr_a b a), midG_pos (Ne.symm hab) _ (Nat.le_refl _)]
    constructor
    · rintro ⟨y, z, hc, e⟩; exact ⟨z, y, cons_swap hc, by rw [e, mid_swap]⟩
    · rintro ⟨y, z, hc, e⟩; exact ⟨z, y, cons_swap hc, by rw [e, mid_swap]⟩
  · have h' : bef a b := by
      rcases bef_tri a b with k | k | k
      · exact k
      · exact absurd k hab
      · exact absurd k h
    rw [if_neg h]
    simp only
    rw [midsF_eq h' rings _ _ (cr_a a b), midG_pos hab _ (Nat.le_refl _)]
/-- a segment of no length has no parts. -/
theorem mids_nil (a : Pnt) (rings : Poly) : mids (a, a) rings = [] := by
  unfold mids fwd
  simp only
  rw [if_neg (fun h => bef_irr h h)]
  exact midsF_end rfl _

/-! ### the document's: from a to b, by the dot product -/
def dotD (a b x y : Pnt) : Int := (y.1 - x.1) * (b.1 - a.1) + (y.2 - x.2) * (b.2 - a.2)
theorem dotD_pos (a b x y : Pnt) : dotD a b x y = pos a b y - pos a b x := by unfold dotD pos dt; grind
instance (a b p : Pnt) (w : Int) : Decidable (on a b p w) := by unfold on; infer_instance
def cutD (a b x t p : Pnt) : Pnt := if on a b p 1 ∧ dotD a b x p > 0 ∧ dotD a b p t > 0 then p else t
def nextD (a b x : Pnt) (rings : Poly) : Pnt := rings.flatten.foldl (cutD a b x) b
def midsD (a b : Pnt) (rings : Poly) : Nat → Pnt → List Spot
  | 0, _ => []
  | n + 1, x => if x = b then [] else midOf x (nextD a b x rings) :: midsD a b rings n (nextD a b x rings)
theorem cutD_eq {a b : Pnt} (hab : a ≠ b) (x t p : Pnt) : cutD a b x t p = cutG (pos a b) (fun p => has a b p 1) x t p := by
  unfold cutD cutG
  have e := has_on (p := p) (w := 1) hab (by omega)
  rw [dotD_pos, dotD_pos]
  by_cases c : has a b p 1 ∧ pos a b x < pos a b p ∧ pos a b p < pos a b t
  · rw [if_pos c, if_pos ⟨e.1 c.1, by omega, by omega⟩]
  · rw [if_neg c, if_neg (fun q => c ⟨e.2 q.1, by omega, by omega⟩)]
theorem nextD_eq {a b : Pnt} (hab : a ≠ b) (x : Pnt) (rings : Poly) : nextD a b x rings = rings.flatten.foldl (cutG (pos a b) (fun p => has a b p 1) x) b := by
  unfold nextD
  congr 1
  funext t p
  exact cutD_eq hab x t p
theorem midsD_eq {a b : Pnt} (hab : a ≠ b) (rings : Poly) : ∀ (n : Nat) (x : Pnt), midsD a b rings n x = midG (pos a b) (fun p => has a b p 1) rings.flatten b n x := by
  intro n
  induction n with
  | zero => intro x; rfl
  | succ n ih =>
    intro x
    unfold midsD midG
    rw [nextD_eq hab, ih]
/-- The document's list, for good. -/
def midD (a b : Pnt) (rings : Poly) : List Spot := midsD a b rings (rings.flatten.length + 1) a
theorem mem_midD {a b : Pnt} (hab : a ≠ b) (rings : Poly) (m : Spot) : m ∈ midD a b rings ↔ ∃ y z, Cons (pos a b) (Cut a b rings.flatten) y z ∧ m = midOf y z := by
  unfold midD
  rw [midsD_eq hab, midG_pos hab _ (Nat.le_refl _)]
theorem mids_midD {a b : Pnt} (hab : a ≠ b) (rings : Poly) (m : Spot) : m ∈ mids (a, b) rings ↔ m ∈ midD a b rings := by rw [mem_mids hab, mem_midD hab]
end Vd
end Go.Proofs.Ytcclepohmhdpbab

/- VALIDITY, PLAINLY: a way round, just if something is left (G5): the program's side. -/
namespace Go.Proofs.Ytcclepohmhdpbab
set_option linter.all false
namespace Vd

theorem nAt_map {g : List Nat} {f : Nat → Nat} {i : Nat} (h : i < g.length) : nAt (g.map f) i = f (nAt g i) := by
  unfold nAt; simp [List.getD_eq_getElem?_getD, List.getElem?_eq_getElem h]

/-- labels that were turned: which were the same. -/
theorem turn_eq {o f x y : Nat} (h : turnG o f x = turnG o f y) : x = y ∨ ((x = o ∨ x = f) ∧ (y = o ∨ y = f)) := by
  unfold turnG at h; split at h <;> split at h <;> omega

theorem joinL_ok : ∀ (js : List Nat) (g : List Nat) (a : Nat) (g' : List Nat), a < g.length → (∀ j ∈ js, j < g.length) → joinL g a js = some g' →
    g'.length = g.length ∧ (∀ x y, x < g.length → y < g.length → nAt g x = nAt g y → nAt g' x = nAt g' y) ∧ (∀ j ∈ js, nAt g' j = nAt g' a) ∧ (∀ j ∈ js, nAt g j ≠ nAt g a) ∧ js.Pairwise (fun i j => nAt g i ≠ nAt g j) := by
  intro js
  induction js with
  | nil =>
    intro g a g' _ _ h
    simp only [joinL, Option.some.injEq] at h
    subst h
    exact ⟨rfl, fun _ _ _ _ e => e, by simp, by simp, List.Pairwise.nil⟩
  | cons j t ih =>
    intro g a g' ha hj h
    unfold joinL at h
    split at h
    · cases h
    · rename_i hne
      have hjl := hj j (by simp)
      have key := ih _ a g' (by simpa using ha) (by intro x hx; simpa using hj x (by simp [hx])) h
      obtain ⟨k1, k2, k3, k4, k5⟩ := key
      simp only [List.length_map] at k1 k2
      have m : ∀ x, x < g.length → nAt (g.map (turnG (nAt g j) (nAt g a))) x = turnG (nAt g j) (nAt g a) (nAt g x) := fun x hx => nAt_map hx
      have ma : turnG (nAt g j) (nAt g a) (nAt g a) = nAt g a := by unfold turnG; rw [if_neg (Ne.symm hne)]
      have mj : turnG (nAt g j) (nAt g a) (nAt g j) = nAt g a := by unfold turnG; rw [if_pos rfl]
      have kt : ∀ i ∈ t, nAt g i ≠ nAt g a ∧ nAt g i ≠ nAt g j := by
        intro i hi
        have hil := hj i (by simp [hi])
        have := k4 i hi
        rw [m i hil, m a ha, ma] at this
        constructor
        · intro e; rw [e, ma] at this; exact this rfl
        · intro e; rw [e, mj] at this; exact this rfl
      refine ⟨k1, ?_, ?_, ?_, ?_⟩
      · intro x y hx hy e
        refine k2 x y hx hy ?_
        rw [m x hx, m y hy, e]
      · intro i hi
        rcases List.mem_cons.1 hi with rfl | hi
        · refine k2 _ _ hjl ha ?_
          rw [m _ hjl, m a ha, mj, ma]
        · exact k3 i hi
      · intro i hi
        rcases List.mem_cons.1 hi with rfl | hi
        · exact hne
        · exact (kt i hi).1
      · refine List.Pairwise.cons (fun i hi => Ne.symm (kt i hi).2) ?_
        refine List.Pairwise.imp_of_mem ?_ k5
        intro x y hx hy e e2
        rw [m x (hj x (by simp [hx])), m y (hj y (by simp [hy])), e2] at e
        exact e rfl

theorem joinL_back : ∀ (js : List Nat) (g : List Nat) (a : Nat) (g' : List Nat), a < g.length → (∀ j ∈ js, j < g.length) → joinL g a js = some g' →
    ∀ x y, x < g.length → y < g.length → nAt g' x = nAt g' y → nAt g x = nAt g y ∨ ∃ u ∈ a :: js, ∃ v ∈ a :: js, nAt g u = nAt g x ∧ nAt g v = nAt g y := by
  intro js
  induction js with
  | nil =>
    intro g a g' _ _ h x y _ _ e
    simp only [joinL, Option.some.injEq] at h
    subst h
    exact .inl e
  | cons j t ih =>
    intro g a g' ha hj h x y hx hy e
    unfold joinL at h
    split at h
    · cases h
    · rename_i hne
      have hjl := hj j (by simp)
      have m : ∀ x, x < g.length → nAt (g.map (turnG (nAt g j) (nAt g a))) x = turnG (nAt g j) (nAt g a) (nAt g x) := fun x hx => nAt_map hx
      have key := ih _ a g' (by simpa using ha) (by intro x hx; simpa using hj x (by simp [hx])) h x y (by simpa using hx) (by simpa using hy) e
      have up : ∀ u ∈ a :: t, ∀ z, z < g.length → nAt (g.map (turnG (nAt g j) (nAt g a))) u = nAt (g.map (turnG (nAt g j) (nAt g a))) z → ∃ u' ∈ a :: j :: t, nAt g u' = nAt g z := by
        intro u hu z hz e
        have hul : u < g.length := by
          rcases List.mem_cons.1 hu with rfl | hu
          · exact ha
          · exact hj u (by simp [hu])
        rw [m u hul, m z hz] at e
        rcases turn_eq e with e | ⟨_, e | e⟩
        · refine ⟨u, ?_, e⟩
          rcases List.mem_cons.1 hu with rfl | hu
          · simp
          · simp [hu]
        · exact ⟨j, by simp, e.symm⟩
        · exact ⟨a, by simp, e.symm⟩
      rcases key with k | ⟨u, hu, v, hv, k1, k2⟩
      · rw [m x hx, m y hy] at k
        rcases turn_eq k with k | ⟨k1, k2⟩
        · exact .inl k
        · right
          have one : ∀ z, (nAt g z = nAt g j ∨ nAt g z = nAt g a) → ∃ u ∈ a :: j :: t, nAt g u = nAt g z := by
            rintro z (e | e)
            · exact ⟨j, by simp, e.symm⟩
            · exact ⟨a, by simp, e.symm⟩
          obtain ⟨u, hu, e1⟩ := one x k1
          obtain ⟨v, hv, e2⟩ := one y k2
          exact ⟨u, hu, v, hv, e1, e2⟩
      · right
        obtain ⟨u', hu', e1⟩ := up u hu x hx k1
        obtain ⟨v', hv', e2⟩ := up v hv y hy k2
        exact ⟨u', hu', v', hv', e1, e2⟩

theorem joinL_none : ∀ (js : List Nat) (g : List Nat) (a : Nat), a < g.length → (∀ j ∈ js, j < g.length) → (a :: js).Nodup → joinL g a js = none →
    ∃ u ∈ a :: js, ∃ v ∈ a :: js, u ≠ v ∧ nAt g u = nAt g v := by
  intro js
  induction js with
  | nil => intro g a _ _ _ h; cases h
  | cons j t ih =>
    intro g a ha hj hnd h
    have hjl := hj j (by simp)
    have haj : a ≠ j := fun e => (List.nodup_cons.1 hnd).1 (by simp [e])
    have hjt : j ∉ t := (List.nodup_cons.1 (List.nodup_cons.1 hnd).2).1
    unfold joinL at h
    split at h
    · rename_i e
      exact ⟨j, by simp, a, by simp, Ne.symm haj, e⟩
    · rename_i hne
      have m : ∀ x, x < g.length → nAt (g.map (turnG (nAt g j) (nAt g a))) x = turnG (nAt g j) (nAt g a) (nAt g x) := fun x hx => nAt_map hx
      have hnd' : (a :: t).Nodup := by
        rw [List.nodup_cons] at hnd ⊢
        exact ⟨fun e => hnd.1 (by simp [e]), (List.nodup_cons.1 hnd.2).2⟩
      obtain ⟨u, hu, v, hv, huv, e⟩ := ih _ a (by simpa using ha) (by intro x hx; simpa using hj x (by simp [hx])) hnd' h
      have lt : ∀ x ∈ a :: t, x < g.length := by
        intro x hx
        rcases List.mem_cons.1 hx with rfl | hx
        · exact ha
        · exact hj x (by simp [hx])
      have inn : ∀ x ∈ a :: t, x ∈ a :: j :: t := by
        intro x hx
        rcases List.mem_cons.1 hx with rfl | hx
        · simp
        · simp [hx]
      have far : ∀ x ∈ a :: t, nAt g x = nAt g j → ∃ u ∈ a :: j :: t, ∃ v ∈ a :: j :: t, u ≠ v ∧ nAt g u = nAt g v := by
        intro x hx e
        refine ⟨x, inn x hx, j, by simp, ?_, e⟩
        rintro rfl
        rcases List.mem_cons.1 hx with e | e
        · exact haj e.symm
        · exact hjt e
      rw [m u (lt u hu), m v (lt v hv)] at e
      rcases turn_eq e with e | ⟨e1 | e1, e2 | e2⟩
      · exact ⟨u, inn u hu, v, inn v hv, huv, e⟩
      · exact far u hu e1
      · exact far u hu e1
      · exact far v hv e2
      · exact ⟨u, inn u hu, v, inn v hv, huv, by rw [e1, e2]⟩

/-! ### Cores -/
abbrev Inc := Nat → Pnt → Prop
/-- Each point of F has another ring, and each ring but x and y another point. -/
structure Near (F : Inc) (x y : Nat) : Prop where
  pt : ∀ r p, F r p → ∃ r', r' ≠ r ∧ F r' p
  ring : ∀ r p, F r p → r ≠ x → r ≠ y → ∃ p', p' ≠ p ∧ F r p'
structure Core (F : Inc) : Prop where
  pt : ∀ r p, F r p → ∃ r', r' ≠ r ∧ F r' p
  ring : ∀ r p, F r p → ∃ p', p' ≠ p ∧ F r p'

structure At (n : Nat) (E : Inc) (at_ : Pnt → List Nat) : Prop where
  mem : ∀ r p, r ∈ at_ p ↔ r < n ∧ E r p
  nd : ∀ p, (at_ p).Nodup

theorem pw_all {f : Nat → Nat} {l : List Nat} (h : l.Pairwise (fun i j => f i ≠ f j)) : ∀ x y, x ∈ l → y ∈ l → x ≠ y → f x ≠ f y := by
  induction h with
  | nil => intro x y hx; cases hx
  | cons h1 _ ih =>
    intro x y hx hy hxy
    rcases List.mem_cons.1 hx with e1 | e1 <;> rcases List.mem_cons.1 hy with e2 | e2
    · exact absurd (e1.trans e2.symm) hxy
    · rw [e1]; exact h1 y e2
    · rw [e2]; exact Ne.symm (h1 x e1)
    · exact ih x y e1 e2 hxy

theorem join_cases {n : Nat} {E : Inc} {at_ : Pnt → List Nat} (hA : At n E at_) (p : Pnt) (g : List Nat) (hg : g.length = n) :
    (∀ g', join g (at_ p) = some g' → g'.length = n ∧ (∀ x y, x < n → y < n → nAt g x = nAt g y → nAt g' x = nAt g' y) ∧ (∀ a b, a ∈ at_ p → b ∈ at_ p → nAt g' a = nAt g' b) ∧
      (∀ a b, a ∈ at_ p → b ∈ at_ p → a ≠ b → nAt g a ≠ nAt g b) ∧ (∀ x y, x < n → y < n → nAt g' x = nAt g' y → nAt g x = nAt g y ∨ ∃ u ∈ at_ p, ∃ v ∈ at_ p, nAt g u = nAt g x ∧ nAt g v = nAt g y)) ∧
    (join g (at_ p) = none → ∃ u ∈ at_ p, ∃ v ∈ at_ p, u ≠ v ∧ nAt g u = nAt g v) := by
  have hnd := hA.nd p
  have hlt : ∀ j ∈ at_ p, j < g.length := fun j hj => by rw [hg]; exact ((hA.mem j p).1 hj).1
  cases hp : at_ p with
  | nil =>
    refine ⟨fun g' h => ?_, fun h => by cases h⟩
    simp only [join, Option.some.injEq] at h
    subst h
    exact ⟨hg, fun _ _ _ _ e => e, by simp, by simp, fun _ _ _ _ e => .inl e⟩
  | cons a t =>
    rw [hp] at hnd hlt
    have ha := hlt a (by simp)
    have ht : ∀ j ∈ t, j < g.length := fun j hj => hlt j (by simp [hj])
    refine ⟨fun g' h => ?_, fun h => joinL_none t g a ha ht hnd h⟩
    obtain ⟨k1, k2, k3, k4, k5⟩ := joinL_ok t g a g' ha ht h
    have k6 := joinL_back t g a g' ha ht h
    rw [hg] at k1 k2 k6
    refine ⟨k1, k2, ?_, ?_, k6⟩
    · have one : ∀ x ∈ a :: t, nAt g' x = nAt g' a := by
        intro x hx
        rcases List.mem_cons.1 hx with rfl | hx
        · rfl
        · exact k3 x hx
      intro x y hx hy
      rw [one x hx, one y hy]
    · intro x y hx hy hxy
      rcases List.mem_cons.1 hx with h1 | h1 <;> rcases List.mem_cons.1 hy with h2 | h2
      · exact absurd (h1.trans h2.symm) hxy
      · rw [h1]; exact Ne.symm (k4 y h2)
      · rw [h2]; exact k4 x h1
      · exact pw_all k5 x y h1 h2 hxy

/-- What is known once the points of Q are joined. -/
structure Jd (n : Nat) (E : Inc) (Q : Pnt → Prop) (g : List Nat) : Prop where
  len : g.length = n
  one : ∀ p, Q p → ∀ a b, a < n → b < n → E a p → E b p → nAt g a = nAt g b
  no : ∀ F : Inc, (∀ r p, F r p → r < n ∧ E r p ∧ Q p) → ∀ x, Near F x x → ∀ r p, ¬ F r p
  good : ∀ a b, a < n → b < n → a ≠ b → nAt g a = nAt g b → ∃ F : Inc, (∀ r p, F r p → r < n ∧ E r p ∧ Q p) ∧ Near F a b ∧ (∃ p, F a p) ∧ (∃ p, F b p)

theorem Jd.step {n : Nat} {E : Inc} {at_ : Pnt → List Nat} (hA : At n E at_) {Q : Pnt → Prop} {g g' : List Nat} (h : Jd n E Q g) {p : Pnt} (hp : ¬ Q p) (hj : join g (at_ p) = some g') :
    Jd n E (fun q => Q q ∨ q = p) g' := by
  obtain ⟨k1, k2, k3, k4, k5⟩ := (join_cases hA p g h.len).1 g' hj
  refine ⟨k1, ?_, ?_, ?_⟩
  · rintro q (hq | rfl) a b ha hb ea eb
    · exact k2 a b ha hb (h.one q hq a b ha hb ea eb)
    · exact k3 a b ((hA.mem a q).2 ⟨ha, ea⟩) ((hA.mem b q).2 ⟨hb, eb⟩)
  · intro F hF x hN r0 p0 h0
    by_cases hu : ∃ r, F r p
    · obtain ⟨a, ha⟩ := hu
      obtain ⟨b, hba, hb⟩ := hN.pt a p ha
      have ea := hF a p ha
      have eb := hF b p hb
      have hne := k4 a b ((hA.mem a p).2 ⟨ea.1, ea.2.1⟩) ((hA.mem b p).2 ⟨eb.1, eb.2.1⟩) (Ne.symm hba)
      have key : ∀ c, F c p → nAt g c ≠ nAt g x → False := by
        intro c hc hcx
        have ec := hF c p hc
        have hcx' : c ≠ x := fun e => hcx (by rw [e])
        obtain ⟨q, hq, hcq⟩ := hN.ring c p hc hcx' hcx'
        refine h.no (fun r q => F r q ∧ q ≠ p ∧ nAt g r = nAt g c) ?_ c ⟨?_, ?_⟩ c q ⟨hcq, hq, rfl⟩
        · rintro r q ⟨h1, h2, -⟩
          obtain ⟨g1, g2, g3⟩ := hF r q h1
          rcases g3 with g3 | g3
          · exact ⟨g1, g2, g3⟩
          · exact absurd g3 h2
        · rintro r q ⟨h1, h2, h3⟩
          obtain ⟨r', e, h4⟩ := hN.pt r q h1
          have a1 := hF r q h1
          have a2 := hF r' q h4
          have hQ : Q q := by rcases a1.2.2 with t | t; exact t; exact absurd t h2
          exact ⟨r', e, h4, h2, by rw [← h3]; exact h.one q hQ r' r a2.1 a1.1 a2.2.1 a1.2.1⟩
        · rintro r q ⟨h1, h2, h3⟩ hr _
          have hrx : r ≠ x := fun e => hcx (by rw [← e, h3])
          obtain ⟨q', e, h4⟩ := hN.ring r q h1 hrx hrx
          refine ⟨q', e, h4, ?_, h3⟩
          rintro rfl
          have a1 := hF r q' h4
          exact k4 r c ((hA.mem r q').2 ⟨a1.1, a1.2.1⟩) ((hA.mem c q').2 ⟨ec.1, ec.2.1⟩) hr h3
      by_cases hax : nAt g a = nAt g x
      · exact key b hb (fun e => hne (by rw [hax, e]))
      · exact key a ha hax
    · refine h.no F ?_ x hN r0 p0 h0
      intro r q hq
      obtain ⟨g1, g2, g3⟩ := hF r q hq
      rcases g3 with g3 | rfl
      · exact ⟨g1, g2, g3⟩
      · exact absurd ⟨r, hq⟩ hu
  · intro a b ha hb hab e
    have wide : ∀ F : Inc, (∀ r p, F r p → r < n ∧ E r p ∧ Q p) → ∀ r q, F r q → r < n ∧ E r q ∧ (Q q ∨ q = p) := fun F hF r q hq => ⟨(hF r q hq).1, (hF r q hq).2.1, .inl (hF r q hq).2.2⟩
    by_cases e0 : nAt g a = nAt g b
    · obtain ⟨F, h1, h2, h3, h4⟩ := h.good a b ha hb hab e0
      exact ⟨F, wide F h1, h2, h3, h4⟩
    · rcases k5 a b ha hb e with e1 | ⟨u, hu, v, hv, e1, e2⟩
      · exact absurd e1 e0
      have eu := (hA.mem u p).1 hu
      have ev := (hA.mem v p).1 hv
      have huv : u ≠ v := by rintro rfl; exact e0 (e1.symm.trans e2)
      -- what joins c to its ring z at p
      have arm : ∀ z c, z < n → c < n → nAt g z = nAt g c → ∃ F : Inc, (∀ r q, F r q → r < n ∧ E r q ∧ Q q) ∧ (∀ r q, F r q → ∃ r', r' ≠ r ∧ F r' q) ∧ (∀ r q, F r q → r ≠ z → r ≠ c → ∃ q', q' ≠ q ∧ F r q') ∧ (z ≠ c → (∃ q, F z q) ∧ (∃ q, F c q)) := by
        intro z c hz hc ezc
        by_cases zc : z = c
        · exact ⟨fun _ _ => False, by simp, by simp, by simp, fun t => absurd zc t⟩
        · obtain ⟨F, h1, h2, h3, h4⟩ := h.good z c hz hc zc ezc
          exact ⟨F, h1, h2.pt, h2.ring, fun _ => ⟨h3, h4⟩⟩
      obtain ⟨F, f1, f2, f3, f4⟩ := arm u a eu.1 ha e1
      obtain ⟨G, g1, g2, g3, g4⟩ := arm v b ev.1 hb e2
      refine ⟨fun r q => F r q ∨ G r q ∨ (q = p ∧ (r = u ∨ r = v)), ?_, ⟨?_, ?_⟩, ?_, ?_⟩
      · rintro r q (t | t | ⟨rfl, rfl | rfl⟩)
        · exact wide F f1 r q t
        · exact wide G g1 r q t
        · exact ⟨eu.1, eu.2, .inr rfl⟩
        · exact ⟨ev.1, ev.2, .inr rfl⟩
      · rintro r q (t | t | ⟨rfl, rfl | rfl⟩)
        · obtain ⟨r', e, t'⟩ := f2 r q t; exact ⟨r', e, .inl t'⟩
        · obtain ⟨r', e, t'⟩ := g2 r q t; exact ⟨r', e, .inr (.inl t')⟩
        · exact ⟨v, Ne.symm huv, .inr (.inr ⟨rfl, .inr rfl⟩)⟩
        · exact ⟨u, huv, .inr (.inr ⟨rfl, .inl rfl⟩)⟩
      · have atU : ∀ q, q ≠ p → ∃ q', q' ≠ q ∧ (F u q' ∨ G u q' ∨ (q' = p ∧ (u = u ∨ u = v))) := fun q hq => ⟨p, Ne.symm hq, .inr (.inr ⟨rfl, .inl rfl⟩)⟩
        have atV : ∀ q, q ≠ p → ∃ q', q' ≠ q ∧ (F v q' ∨ G v q' ∨ (q' = p ∧ (v = u ∨ v = v))) := fun q hq => ⟨p, Ne.symm hq, .inr (.inr ⟨rfl, .inr rfl⟩)⟩
        rintro r q (t | t | ⟨rfl, rfl | rfl⟩) hra hrb
        · have hq : q ≠ p := fun e => hp (e ▸ (f1 r q t).2.2)
          by_cases ru : r = u
          · subst ru; exact atU q hq
          · obtain ⟨q', e, t'⟩ := f3 r q t ru hra; exact ⟨q', e, .inl t'⟩
        · have hq : q ≠ p := fun e => hp (e ▸ (g1 r q t).2.2)
          by_cases rv : r = v
          · subst rv; exact atV q hq
          · obtain ⟨q', e, t'⟩ := g3 r q t rv hrb; exact ⟨q', e, .inr (.inl t')⟩
        · obtain ⟨q', t'⟩ := (f4 hra).1
          exact ⟨q', fun e => hp (e ▸ (f1 r q' t').2.2), .inl t'⟩
        · obtain ⟨q', t'⟩ := (g4 hrb).1
          exact ⟨q', fun e => hp (e ▸ (g1 r q' t').2.2), .inr (.inl t')⟩
      · by_cases ua : u = a
        · exact ⟨p, .inr (.inr ⟨rfl, .inl ua.symm⟩)⟩
        · obtain ⟨q, t⟩ := (f4 ua).2; exact ⟨q, .inl t⟩
      · by_cases vb : v = b
        · exact ⟨p, .inr (.inr ⟨rfl, .inr vb.symm⟩)⟩
        · obtain ⟨q, t⟩ := (g4 vb).2; exact ⟨q, .inr (.inl t)⟩

/-- Joined at a point that lies on two of one group: a core. -/
theorem Jd.core {n : Nat} {E : Inc} {at_ : Pnt → List Nat} (hA : At n E at_) {Q : Pnt → Prop} {g : List Nat} (h : Jd n E Q g) {p : Pnt} (hp : ¬ Q p) (hj : join g (at_ p) = none) :
    ∃ F : Inc, (∀ r q, F r q → r < n ∧ E r q ∧ (Q q ∨ q = p)) ∧ Core F ∧ ∃ r q, F r q := by
  obtain ⟨u, hu, v, hv, huv, e⟩ := (join_cases hA p g h.len).2 hj
  have eu := (hA.mem u p).1 hu
  have ev := (hA.mem v p).1 hv
  obtain ⟨F, h1, h2, ⟨qu, h3⟩, ⟨qv, h4⟩⟩ := h.good u v eu.1 ev.1 huv e
  have np : ∀ r q, F r q → q ≠ p := fun r q t e => hp (e ▸ (h1 r q t).2.2)
  refine ⟨fun r q => F r q ∨ (q = p ∧ (r = u ∨ r = v)), ?_, ⟨?_, ?_⟩, u, p, .inr ⟨rfl, .inl rfl⟩⟩
  · rintro r q (t | ⟨rfl, rfl | rfl⟩)
    · exact ⟨(h1 r q t).1, (h1 r q t).2.1, .inl (h1 r q t).2.2⟩
    · exact ⟨eu.1, eu.2, .inr rfl⟩
    · exact ⟨ev.1, ev.2, .inr rfl⟩
  · rintro r q (t | ⟨rfl, rfl | rfl⟩)
    · obtain ⟨r', e, t'⟩ := h2.pt r q t; exact ⟨r', e, .inl t'⟩
    · exact ⟨v, Ne.symm huv, .inr ⟨rfl, .inr rfl⟩⟩
    · exact ⟨u, huv, .inr ⟨rfl, .inl rfl⟩⟩
  · rintro r q (t | ⟨rfl, rfl | rfl⟩)
    · by_cases ru : r = u
      · exact ⟨p, Ne.symm (np r q t), .inr ⟨rfl, .inl ru⟩⟩
      · by_cases rv : r = v
        · exact ⟨p, Ne.symm (np r q t), .inr ⟨rfl, .inr rv⟩⟩
        · obtain ⟨q', e, t'⟩ := h2.ring r q t ru rv; exact ⟨q', e, .inl t'⟩
    · exact ⟨qu, np _ qu h3, .inl h3⟩
    · exact ⟨qv, np _ qv h4, .inl h4⟩
end Vd
end Go.Proofs.Ytcclepohmhdpbab

/- VALIDITY, PLAINLY: a way round, just if there is a core (G5): the program's whole. -/
namespace Go.Proofs.Ytcclepohmhdpbab
set_option linter.all false
namespace Vd
def incL (l : Poly) : Inc := fun r p => place (rAt l r) (at1 p) = 1
theorem at_ringsAt (l : Poly) : At l.length (incL l) (ringsAt l) where
  mem := by
    intro r p
    unfold ringsAt incL
    simp
  nd := by
    intro p
    unfold ringsAt
    exact List.Pairwise.filter _ (List.nodup_range)
theorem Jd.mono {n : Nat} {E : Inc} {Q Q' : Pnt → Prop} {g : List Nat} (h : Jd n E Q g) (k : ∀ p, Q p ↔ Q' p) : Jd n E Q' g := by
  have e : Q = Q' := funext fun p => propext (k p)
  rw [← e]; exact h
theorem wayL_cases (l : Poly) : ∀ (ps : List Pnt) (Q : Pnt → Prop) (g : List Nat), Jd l.length (incL l) Q g → (∀ p ∈ ps, ¬ Q p) → ps.Nodup →
    (wayL l ps g = true → ∃ F : Inc, (∀ r q, F r q → r < l.length ∧ incL l r q ∧ (Q q ∨ q ∈ ps)) ∧ Core F ∧ ∃ r q, F r q) ∧
    (wayL l ps g = false → ∃ g', Jd l.length (incL l) (fun q => Q q ∨ q ∈ ps) g') := by
  intro ps
  induction ps with
  | nil =>
    intro Q g h _ _
    refine ⟨fun e => ?_, fun _ => ⟨g, h.mono (by simp)⟩⟩
    simp [wayL] at e
  | cons p t ih =>
    intro Q g h hq hnd
    have hp := hq p (by simp)
    rw [List.nodup_cons] at hnd
    cases hj : join g (ringsAt l p) with
    | none =>
      refine ⟨fun _ => ?_, fun e => by simp [wayL, hj] at e⟩
      obtain ⟨F, h1, h2, h3⟩ := h.core (at_ringsAt l) hp hj
      refine ⟨F, fun r q t => ⟨(h1 r q t).1, (h1 r q t).2.1, ?_⟩, h2, h3⟩
      rcases (h1 r q t).2.2 with k | k
      · exact .inl k
      · exact .inr (by simp [k])
    | some g' =>
      have h' := h.step (at_ringsAt l) hp hj
      have := ih _ g' h' (by
        rintro q hq' (k | rfl)
        · exact hq q (by simp [hq']) k
        · exact hnd.1 hq') hnd.2
      have ew : wayL l (p :: t) g = wayL l t g' := by simp [wayL, hj]
      rw [ew]
      refine ⟨fun e => ?_, fun e => ?_⟩
      · obtain ⟨F, h1, h2, h3⟩ := this.1 e
        refine ⟨F, fun r q t => ⟨(h1 r q t).1, (h1 r q t).2.1, ?_⟩, h2, h3⟩
        rcases (h1 r q t).2.2 with (k | k) | k
        · exact .inl k
        · exact .inr (by simp [k])
        · exact .inr (by simp [k])
      · obtain ⟨g'', k⟩ := this.2 e
        exact ⟨g'', k.mono (by intro q; simp [or_assoc])⟩
theorem touch_fold (l : Poly) : ∀ (ps : List Pnt) (a : List Pnt), a.Nodup → (∀ p ∈ a, 1 < (ringsAt l p).length) →
    (ps.foldl (touchF l) a).Nodup ∧ ∀ q, q ∈ ps.foldl (touchF l) a ↔ q ∈ a ∨ (q ∈ ps ∧ 1 < (ringsAt l q).length) := by
  intro ps
  induction ps with
  | nil => intro a h _; exact ⟨h, by simp⟩
  | cons p t ih =>
    intro a h h1
    rw [List.foldl_cons]
    by_cases c : ¬ (p ∈ a) ∧ 1 < (ringsAt l p).length
    · rw [show touchF l a p = a ++ [p] from if_pos c]
      have := ih (a ++ [p]) (by rw [List.nodup_append]; exact ⟨h, by simp, by intro x hx y hy; simp at hy; subst hy; rintro rfl; exact c.1 hx⟩) (by
        intro q hq
        rcases List.mem_append.1 hq with hq | hq
        · exact h1 q hq
        · simp at hq; subst hq; exact c.2)
      refine ⟨this.1, fun q => ?_⟩
      rw [this.2 q]
      simp only [List.mem_append, List.mem_cons, List.mem_singleton, List.not_mem_nil, or_false]
      constructor
      · rintro ((k | rfl) | k)
        · exact .inl k
        · exact .inr ⟨.inl rfl, c.2⟩
        · exact .inr ⟨.inr k.1, k.2⟩
      · rintro (k | ⟨rfl | k, k2⟩)
        · exact .inl (.inl k)
        · exact .inl (.inr rfl)
        · exact .inr ⟨k, k2⟩
    · rw [show touchF l a p = a from if_neg c]
      have := ih a h h1
      refine ⟨this.1, fun q => ?_⟩
      rw [this.2 q]
      simp only [List.mem_cons]
      constructor
      · rintro (k | k)
        · exact .inl k
        · exact .inr ⟨.inr k.1, k.2⟩
      · rintro (k | ⟨rfl | k, k2⟩)
        · exact .inl k
        · by_cases hq : q ∈ a
          · exact .inl hq
          · exact absurd ⟨hq, k2⟩ c
        · exact .inr ⟨k, k2⟩
theorem two_at {n : Nat} {E : Inc} {f : Pnt → List Nat} (hA : At n E f) {p : Pnt} {a b : Nat} (ha : a ∈ f p) (hb : b ∈ f p) (hab : a ≠ b) : 1 < (f p).length := by
  match hf : f p with
  | [] => rw [hf] at ha; cases ha
  | [x] => rw [hf] at ha hb; simp at ha hb; exact absurd (ha.trans hb.symm) hab
  | x :: y :: t => simp
theorem nAt_range {n a : Nat} (h : a < n) : nAt (List.range n) a = a := by
  unfold nAt; simp [List.getD_eq_getElem?_getD, List.getElem?_range h]
theorem way_core (l : Poly) : way l = true ↔ ∃ F : Inc, (∀ r q, F r q → r < l.length ∧ incL l r q ∧ q ∈ l.flatten) ∧ Core F ∧ ∃ r q, F r q := by
  have ht := touch_fold l l.flatten [] List.nodup_nil (by simp)
  have h0 : Jd l.length (incL l) (fun _ => False) (List.range l.length) := by
    refine ⟨by simp, by simp, ?_, ?_⟩
    · intro F hF x _ r p h; exact (hF r p h).2.2
    · intro a b ha hb hab e
      rw [nAt_range ha, nAt_range hb] at e
      exact absurd e hab
  have key := wayL_cases l (touchPts l) _ _ h0 (by simp) ht.1
  constructor
  · intro h
    obtain ⟨F, h1, h2, h3⟩ := key.1 h
    refine ⟨F, fun r q t => ⟨(h1 r q t).1, (h1 r q t).2.1, ?_⟩, h2, h3⟩
    rcases (h1 r q t).2.2 with k | k
    · exact k.elim
    · have := (ht.2 q).1 k
      simp only [List.not_mem_nil, false_or] at this
      exact this.1
  · rintro ⟨F, h1, h2, r, q, h3⟩
    cases hw : way l with
    | true => rfl
    | false =>
      exfalso
      obtain ⟨g, hg⟩ := key.2 hw
      refine hg.no F ?_ 0 ⟨h2.pt, fun r p t _ _ => h2.ring r p t⟩ r q h3
      intro r p t
      obtain ⟨r', e, t'⟩ := h2.pt r p t
      have a1 := h1 r p t
      have a2 := h1 r' p t'
      refine ⟨a1.1, a1.2.1, .inr ?_⟩
      refine (ht.2 p).2 (.inr ⟨a1.2.2, ?_⟩)
      exact two_at (at_ringsAt l) (((at_ringsAt l).mem r p).2 ⟨a1.1, a1.2.1⟩) (((at_ringsAt l).mem r' p).2 ⟨a2.1, a2.2.1⟩) (Ne.symm e)
end Vd
end Go.Proofs.Ytcclepohmhdpbab

/- VALIDITY, PLAINLY: Meet either way round; where a spot lies, the document's; what lies within two segments (G2, G6). -/
namespace Go.Proofs.Ytcclepohmhdpbab
set_option linter.all false
namespace Vd
theorem onLine_symm (s t : Seg) : onLine s t = onLine t s := by
  have e1 : (if bef s.1 t.1 then t.1 else s.1) = (if bef t.1 s.1 then s.1 else t.1) := by
    rcases bef_tri s.1 t.1 with h | h | h
    · rw [if_pos h, if_neg (fun k => bef_irr h k)]
    · rw [h]
    · rw [if_neg (fun k => bef_irr h k), if_pos h]
  have e2 : (if bef t.2 s.2 then t.2 else s.2) = (if bef s.2 t.2 then s.2 else t.2) := by
    rcases bef_tri s.2 t.2 with h | h | h
    · rw [if_pos h, if_neg (fun k => bef_irr h k)]
    · rw [h]
    · rw [if_neg (fun k => bef_irr h k), if_pos h]
  unfold onLine
  simp only
  rw [e1, e2]
theorem meet_symm (a b c d : Pnt) : meet a b c d = meet c d a b := by
  unfold meet
  simp only
  generalize sg (cr a b c 1) = x
  generalize sg (cr a b d 1) = y
  generalize sg (cr c d a 1) = z
  generalize sg (cr c d b 1) = u
  rw [onLine_symm (fwd a b)]
  have e1 : (x = 0 ∧ y = 0 ∧ z = 0 ∧ u = 0) ↔ (z = 0 ∧ u = 0 ∧ x = 0 ∧ y = 0) := by omega
  have e2 : (x * y > 0 ∨ z * u > 0) ↔ (z * u > 0 ∨ x * y > 0) := Or.comm
  have e3 : x * y * z * u = z * u * x * y := by grind
  rw [e3]
  simp only [e1, e2]
theorem meetS_symm (s t : Seg) : meetS s t = meetS t s := meet_symm _ _ _ _
theorem crossS_symm (s t : Seg) : crossS s t = crossS t s := by unfold crossS; rw [meetS_symm]

/-! ### the document's: where a spot lies -/
def inRingL : List Seg → Bool → Spot → Int
  | [], i, _ => if i then 1 else -1
  | s :: t, i, p => if on s.1 s.2 p.1 p.2 then 0 else inRingL t (if rayD s.1 s.2 p.1 p.2 then !i else i) p
def inRing (r : Ring) (p : Spot) : Int := inRingL (segs r) false p
def pl (k : Int) : Int := if k = 0 then 1 else if k = 1 then 2 else 0
theorem placeL_eq : ∀ (l : List Seg) (i : Bool) (p : Spot), 0 < p.2 → (∀ s ∈ l, s.1 ≠ s.2) → placeL l i p = pl (inRingL l i p) ∧ (inRingL l i p = 0 ∨ inRingL l i p = 1 ∨ inRingL l i p = -1) := by
  intro l
  induction l with
  | nil => intro i p _ _; cases i <;> simp [placeL, inRingL, pl]
  | cons s t ih =>
    intro i p hp hl
    have hs := hl s (by simp)
    have e := has_on (p := p.1) (w := p.2) hs hp
    unfold placeL inRingL hasB
    by_cases h : has s.1 s.2 p.1 p.2
    · rw [if_pos (decide_eq_true h), if_pos (e.1 h)]
      simp [pl]
    · rw [decide_eq_false h, if_neg (fun k => h (e.2 k)), ray_eq hp]
      simp only [Bool.false_eq_true, if_false]
      exact ih _ p hp fun x hx => hl x (by simp [hx])
/-- No segment without length. -/
def Long (r : Ring) : Prop := ∀ s ∈ segs r, s.1 ≠ s.2
theorem place_eq {r : Ring} {p : Spot} (hr : Long r) (hp : 0 < p.2) : place r p = pl (inRing r p) ∧ (inRing r p = 0 ∨ inRing r p = 1 ∨ inRing r p = -1) := placeL_eq _ _ _ hp hr
def inL : Int → List Ring → Spot → Int
  | s, [], _ => s
  | s, r :: t, p => if inRing r p = 0 ∧ 0 ≤ s then 0 else if inRing r p = 1 then -1 else inL s t p
def inP : Poly → Spot → Int
  | [], _ => 0
  | r :: t, p => inL (inRing r p) t p

theorem inL_free : ∀ (t : List Ring) (s : Int) (f : Bool) (p : Spot), 0 < p.2 → (∀ r ∈ t, Long r ∧ place r p ≠ 1) → (s = 1 ∨ s = -1) → (f = true ↔ s = -1) →
    (freeL t false f p = true ↔ inL s t p = -1) := by
  intro t
  induction t with
  | nil => intro s f p _ _ _ hf; exact hf
  | cons r t ih =>
    intro s f p hp hr hs hf
    obtain ⟨hl, hp1⟩ := hr r (by simp)
    obtain ⟨e1, e2⟩ := place_eq hl hp
    have ht : ∀ r ∈ t, Long r ∧ place r p ≠ 1 := fun x hx => hr x (by simp [hx])
    unfold freeL inL
    rw [if_neg hp1]
    rcases e2 with e | e | e
    · exfalso; rw [e] at e1; exact hp1 e1
    · rw [e] at e1
      rw [if_neg (by omega), if_pos e]
      have e3 : place r p = 2 := e1
      simp only [e3]
      -- once free, always free
      have : ∀ (t : List Ring), (∀ r ∈ t, Long r ∧ place r p ≠ 1) → freeL t false true p = true := by
        intro t
        induction t with
        | nil => intro _; rfl
        | cons r t ih =>
          intro h
          unfold freeL
          rw [if_neg (h r (by simp)).2]
          simp only [Bool.true_or]
          exact ih fun x hx => h x (by simp [hx])
      simp [this t ht]
    · rw [e] at e1
      rw [if_neg (by omega), if_neg (by omega)]
      have e3 : place r p = 0 := e1
      simp only [e3]
      have := ih s f p hp ht hs hf
      simpa using this
/-- G6: on no ring, what is free is outside. -/
theorem free_in {l : Poly} {p : Spot} (hp : 0 < p.2) (hne : l ≠ []) (hr : ∀ r ∈ l, Long r ∧ place r p ≠ 1) : free l p = true ↔ inP l p = -1 := by
  cases l with
  | nil => exact absurd rfl hne
  | cons r t =>
    obtain ⟨hl, hp1⟩ := hr r (by simp)
    obtain ⟨e1, e2⟩ := place_eq hl hp
    unfold free freeL inP
    rw [if_neg hp1]
    rcases e2 with e | e | e
    · exfalso; rw [e] at e1; exact hp1 e1
    · rw [e] at e1
      have e3 : place r p = 2 := e1
      simp only [e3, e]
      exact inL_free t 1 _ p hp (fun x hx => hr x (by simp [hx])) (.inl rfl) (by simp)
    · rw [e] at e1
      have e3 : place r p = 0 := e1
      simp only [e3, e]
      exact inL_free t (-1) _ p hp (fun x hx => hr x (by simp [hx])) (.inr rfl) (by simp)

/-! ### a spot within both -/
/-- where a spot m (over 2) stands along a to b, over 2. -/
theorem cr_mid (a b x y : Pnt) : cr a b (midOf x y).1 2 = cr a b x 1 + cr a b y 1 := by unfold cr midOf; grind
theorem placeL_one : ∀ (l : List Seg) (i : Bool) (p : Spot), placeL l i p = 1 ↔ ∃ s ∈ l, has s.1 s.2 p.1 p.2 := by
  intro l
  induction l with
  | nil => intro i p; cases i <;> simp [placeL]
  | cons s t ih =>
    intro i p
    unfold placeL hasB
    by_cases h : has s.1 s.2 p.1 p.2
    · rw [if_pos (decide_eq_true h)]; simp [h]
    · rw [decide_eq_false h]
      simp only [Bool.false_eq_true, if_false]
      rw [ih]
      simp [h]
theorem place_one {r : Ring} {p : Spot} : place r p = 1 ↔ ∃ s ∈ segs r, has s.1 s.2 p.1 p.2 := placeL_one _ _ _
end Vd
end Go.Proofs.Ytcclepohmhdpbab
