import Derived.Test.YtcclepohmhdpbaaGreatDoorPlD
/- VALIDITY, PLAINLY: the parts of a segment (G4): the program's and the document's have the same middles. -/
namespace Go.Proofs.YtcclepohmhdpbaaGreatDoor
set_option linter.all false
namespace Vd
/-- the points that cut a segment: its ends, and what lies on it. -/
def Cut (a b : Pnt) (l : List Pnt) (x : Pnt) : Prop := x = a ∨ x = b ∨ (x ∈ l ∧ has a b x 1)
/-- two cuts that follow each other, by their places. -/
structure Cons (f : Pnt → Int) (C : Pnt → Prop) (x y : Pnt) : Prop where
  cx : C x
  cy : C y
  lt : f x < f y
  no : ∀ c, C c → ¬ (f x < f c ∧ f c < f y)

/-- The fold: the nearest behind. -/
def cutG (f : Pnt → Int) (ok : Pnt → Prop) [DecidablePred ok] (from_ to p : Pnt) : Pnt := if ok p ∧ f from_ < f p ∧ f p < f to then p else to
theorem fold_near (f : Pnt → Int) (ok : Pnt → Prop) [DecidablePred ok] (x : Pnt) : ∀ (l : List Pnt) (t : Pnt), f x < f t →
    (l.foldl (cutG f ok x) t = t ∨ (l.foldl (cutG f ok x) t ∈ l ∧ ok (l.foldl (cutG f ok x) t))) ∧ f x < f (l.foldl (cutG f ok x) t) ∧ f (l.foldl (cutG f ok x) t) ≤ f t ∧ ∀ c ∈ l, ok c → ¬ (f x < f c ∧ f c < f (l.foldl (cutG f ok x) t)) := by
  intro l
  induction l with
  | nil => intro t h; exact ⟨.inl rfl, h, Int.le_refl _, by simp⟩
  | cons p l ih =>
    intro t h
    rw [List.foldl_cons]
    by_cases k : ok p ∧ f x < f p ∧ f p < f t
    · rw [show cutG f ok x t p = p from if_pos k]
      obtain ⟨h1, h2, h3, h4⟩ := ih p k.2.1
      refine ⟨?_, h2, by omega, ?_⟩
      · rcases h1 with e | ⟨e1, e2⟩
        · rw [e]; exact .inr ⟨by simp, k.1⟩
        · exact .inr ⟨by simp [e1], e2⟩
      · intro c hc hok
        rcases List.mem_cons.1 hc with rfl | hc
        · omega
        · exact h4 c hc hok
    · rw [show cutG f ok x t p = t from if_neg k]
      obtain ⟨h1, h2, h3, h4⟩ := ih t h
      refine ⟨?_, h2, h3, ?_⟩
      · rcases h1 with e | ⟨e1, e2⟩
        · exact .inl e
        · exact .inr ⟨by simp [e1], e2⟩
      · intro c hc hok
        rcases List.mem_cons.1 hc with rfl | hc
        · intro ⟨q1, q2⟩; exact k ⟨hok, q1, by omega⟩
        · exact h4 c hc hok
/-- The list of middles, from x on to b. -/
def midG (f : Pnt → Int) (ok : Pnt → Prop) [DecidablePred ok] (l : List Pnt) (b : Pnt) : Nat → Pnt → List Spot
  | 0, _ => []
  | n + 1, x => if x = b then [] else midOf x (l.foldl (cutG f ok x) b) :: midG f ok l b n (l.foldl (cutG f ok x) b)
/-- enough rounds. -/
def fuel (f : Pnt → Int) (l : List Pnt) (b x : Pnt) : Nat := if x = b then 0 else 1 + l.countP fun p => decide (f x < f p)
theorem fuel_step {f : Pnt → Int} {ok : Pnt → Prop} [DecidablePred ok] {l : List Pnt} {b x : Pnt} (hx : x ≠ b) (h : f x < f b) : fuel f l b (l.foldl (cutG f ok x) b) < fuel f l b x := by
  obtain ⟨h1, h2, -, -⟩ := fold_near f ok x l b h
  unfold fuel
  rw [if_neg hx]
  split
  · omega
  · rename_i g
    rcases h1 with e | ⟨e1, e2⟩
    · exact absurd e g
    · generalize l.foldl (cutG f ok x) b = y at *
      obtain ⟨l1, l2, e⟩ := List.append_of_mem e1
      have mono : ∀ l : List Pnt, l.countP (fun p => decide (f y < f p)) ≤ l.countP (fun p => decide (f x < f p)) := by
        intro l
        apply List.countP_mono_left
        intro z _ hz
        have := of_decide_eq_true hz
        exact decide_eq_true (by omega)
      have m1 := mono l1
      have m2 := mono l2
      rw [e, List.countP_append, List.countP_append, List.countP_cons, List.countP_cons]
      simp [h2]
      omega
theorem mem_midG {f : Pnt → Int} {C ok : Pnt → Prop} [DecidablePred ok] {l : List Pnt} {a b : Pnt} (hC : ∀ x, C x ↔ x = a ∨ x = b ∨ (x ∈ l ∧ ok x)) (inj : ∀ x y, C x → C y → f x = f y → x = y) (top : ∀ x, C x → f x ≤ f b) :
    ∀ (n : Nat) (x : Pnt), C x → fuel f l b x ≤ n → f a ≤ f x → ∀ m, m ∈ midG f ok l b n x ↔ ∃ y z, Cons f C y z ∧ f x ≤ f y ∧ m = midOf y z := by
  intro n
  induction n with
  | zero =>
    intro x hx hn ha m
    have : x = b := by unfold fuel at hn; split at hn <;> first | assumption | omega
    subst this
    constructor
    · intro h; cases h
    · rintro ⟨y, z, hc, h1, -⟩
      have := top z hc.cy
      have := hc.lt
      omega
  | succ n ih =>
    intro x hx hn ha m
    unfold midG
    by_cases hb : x = b
    · rw [if_pos hb]
      constructor
      · intro h; cases h
      · rintro ⟨y, z, hc, h1, -⟩
        have := top z hc.cy
        have := hc.lt
        rw [hb] at h1
        omega
    · rw [if_neg hb]
      have hlt : f x < f b := by
        have := top x hx
        rcases Int.lt_or_eq_of_le this with h | h
        · exact h
        · exact absurd (inj x b hx ((hC b).2 (.inr (.inl rfl))) h) hb
      have hf := fuel_step (ok := ok) (l := l) hb hlt
      obtain ⟨h1, h2, h3, h4⟩ := fold_near f ok x l b hlt
      generalize hy : l.foldl (cutG f ok x) b = y at *
      have cy : C y := by
        rw [hC]
        rcases h1 with e | ⟨e1, e2⟩
        · exact .inr (.inl e)
        · exact .inr (.inr ⟨e1, e2⟩)
      have hno : ∀ c, C c → ¬ (f x < f c ∧ f c < f y) := by
        intro c hc
        rcases (hC c).1 hc with rfl | rfl | ⟨e1, e2⟩
        · omega
        · omega
        · exact h4 c e1 e2
      have key := ih y cy (by omega) (by omega) m
      rw [List.mem_cons, key]
      constructor
      · rintro (rfl | ⟨u, v, hc, k1, k2⟩)
        · exact ⟨x, y, ⟨hx, cy, h2, hno⟩, Int.le_refl _, rfl⟩
        · exact ⟨u, v, hc, by omega, k2⟩
      · rintro ⟨u, v, hc, k1, k2⟩
        by_cases hu : f y ≤ f u
        · exact .inr ⟨u, v, hc, hu, k2⟩
        · left
          have e1 : u = x := by
            refine inj u x hc.cx hx ?_
            have := hno u hc.cx
            omega
          subst e1
          have e2 : v = y := by
            refine inj v y hc.cy cy ?_
            have g1 := hno v hc.cy
            have g2 := hc.no y cy
            have g3 := hc.lt
            omega
          rw [k2, e2]

/-! ### the program's -/
theorem has_line {a b x : Pnt} (h : has a b x 1) : cr a b x 1 = 0 := h.1
theorem has_a (a b : Pnt) : has a b a 1 := ⟨cr_a a b, by unfold btw; omega, by unfold btw; omega⟩
theorem has_b (a b : Pnt) : has a b b 1 := ⟨cr_b a b, by unfold btw; omega, by unfold btw; omega⟩
theorem cut_has {a b : Pnt} {l : List Pnt} {x : Pnt} (h : Cut a b l x) : has a b x 1 := by
  rcases h with rfl | rfl | h
  · exact has_a _ _
  · exact has_b _ _
  · exact h.2
theorem pos_le {a b x : Pnt} (hab : a ≠ b) (h : has a b x 1) : 0 ≤ pos a b x ∧ pos a b x ≤ kk a b := by
  have := (has_on hab (by omega)).1 h
  exact ⟨this.2.1, by have := this.2.2; unfold pos; omega⟩
theorem pos_inj {a b x y : Pnt} (hab : a ≠ b) (hx : cr a b x 1 = 0) (hy : cr a b y 1 = 0) (e : pos a b x = pos a b y) : x = y := by
  have hk := kk_pos hab
  have e1 : (pos a b y - pos a b x) * (b.1 - a.1) = (y.1 - x.1) * kk a b := by unfold cr at hx hy; unfold pos dt kk; grind
  have e2 : (pos a b y - pos a b x) * (b.2 - a.2) = (y.2 - x.2) * kk a b := by unfold cr at hx hy; unfold pos dt kk; grind
  rw [e, Int.sub_self, Int.zero_mul] at e1 e2
  have z : ∀ t : Int, 0 = t * kk a b → t = 0 := by
    intro t h
    rcases Int.mul_eq_zero.1 h.symm with h | h
    · exact h
    · omega
  have := z _ e1
  have := z _ e2
  exact Prod.ext (by omega) (by omega)

/-- Whichever order it is asked in: the middles are those of cuts that follow each other. -/
theorem midG_pos {a b : Pnt} (hab : a ≠ b) (l : List Pnt) {n : Nat} (hn : l.length + 1 ≤ n) (m : Spot) :
    m ∈ midG (pos a b) (fun x => has a b x 1) l b n a ↔ ∃ y z, Cons (pos a b) (Cut a b l) y z ∧ m = midOf y z := by
  have hk := kk_pos hab
  have := mem_midG (f := pos a b) (C := Cut a b l) (ok := fun x => has a b x 1) (l := l) (a := a) (b := b) (fun x => Iff.rfl)
    (fun x y hx hy e => pos_inj hab (cut_has hx).1 (cut_has hy).1 e) (fun x hx => by rw [pos_b]; exact (pos_le hab (cut_has hx)).2) n a (.inl rfl)
    (by unfold fuel; split
        · omega
        · have := List.countP_le_length (p := fun p => decide (pos a b a < pos a b p)) (l := l); omega) (Int.le_refl _) m
  rw [this]
  constructor
  · rintro ⟨y, z, hc, -, e⟩; exact ⟨y, z, hc, e⟩
  · rintro ⟨y, z, hc, e⟩; exact ⟨y, z, hc, by rw [pos_a]; exact (pos_le hab (cut_has hc.cx)).1, e⟩
end Vd
end Go.Proofs.YtcclepohmhdpbaaGreatDoor

/- VALIDITY, PLAINLY: the program's middles and the document's (G4). -/
namespace Go.Proofs.YtcclepohmhdpbaaGreatDoor
set_option linter.all false
namespace Vd
theorem bef_pos' {a b x y : Pnt} (h : bef a b) (hx : cr a b x 1 = 0) (hy : cr a b y 1 = 0) : bef x y ↔ pos a b x < pos a b y := (bef_pos (bef_ne h) hx hy).1 h
theorem fold_cut_eq {a b x : Pnt} (h : bef a b) (hx : cr a b x 1 = 0) : ∀ (l : List Pnt) (t : Pnt), cr a b t 1 = 0 → l.foldl (cutF (a, b) x) t = l.foldl (cutG (pos a b) (fun p => has a b p 1) x) t ∧ cr a b (l.foldl (cutF (a, b) x) t) 1 = 0 := by
  intro l
  induction l with
  | nil => intro t ht; exact ⟨rfl, ht⟩
  | cons p l ih =>
    intro t ht
    rw [List.foldl_cons, List.foldl_cons]
    by_cases hp : has a b p 1
    · have e1 := bef_pos' h hx hp.1
      have e2 := bef_pos' h hp.1 ht
      have e : cutF (a, b) x t p = cutG (pos a b) (fun p => has a b p 1) x t p := by
        unfold cutF cutG
        by_cases c : bef x p ∧ bef p t
        · rw [if_pos ⟨c.1, c.2, hp⟩, if_pos ⟨hp, e1.1 c.1, e2.1 c.2⟩]
        · rw [if_neg (fun q => c ⟨q.1, q.2.1⟩), if_neg (fun q => c ⟨e1.2 q.2.1, e2.2 q.2.2⟩)]
      have ht' : cr a b (cutF (a, b) x t p) 1 = 0 := by unfold cutF; split; exact hp.1; exact ht
      rw [← e]
      exact ih _ ht'
    · rw [show cutF (a, b) x t p = t from if_neg (fun q => hp q.2.2), show cutG (pos a b) (fun p => has a b p 1) x t p = t from if_neg (fun q => hp q.1)]
      exact ih t ht
theorem midsF_eq {a b : Pnt} (h : bef a b) (rings : Poly) : ∀ (n : Nat) (x : Pnt), cr a b x 1 = 0 → midsF n (a, b) x rings = midG (pos a b) (fun p => has a b p 1) rings.flatten b n x := by
  intro n
  induction n with
  | zero => intro x _; rfl
  | succ n ih =>
    intro x hx
    obtain ⟨e, k⟩ := fold_cut_eq h hx rings.flatten b (cr_b a b)
    unfold midsF midG nextCut
    simp only
    rw [← e, ih _ k]
theorem has_swap {a b p : Pnt} {w : Int} : has a b p w ↔ has b a p w := by
  unfold has
  rw [cr_swap a b p w]
  unfold btw
  omega
theorem cut_swap {a b : Pnt} {l : List Pnt} {x : Pnt} : Cut a b l x ↔ Cut b a l x := by
  unfold Cut
  rw [has_swap (a := a)]
  constructor
  · rintro (h | h | h)
    · exact .inr (.inl h)
    · exact .inl h
    · exact .inr (.inr h)
  · rintro (h | h | h)
    · exact .inr (.inl h)
    · exact .inl h
    · exact .inr (.inr h)
theorem pos_swap (a b x : Pnt) : pos b a x = kk a b - pos a b x := by unfold pos dt kk; grind
theorem cons_swap {a b : Pnt} {l : List Pnt} {x y : Pnt} (h : Cons (pos a b) (Cut a b l) x y) : Cons (pos b a) (Cut b a l) y x := by
  refine ⟨cut_swap.1 h.cy, cut_swap.1 h.cx, ?_, ?_⟩
  · rw [pos_swap, pos_swap a b]; have := h.lt; omega
  · intro c hc
    have := h.no c (cut_swap.2 hc)
    rw [pos_swap, pos_swap a b c, pos_swap a b x]
    omega
theorem mid_swap (x y : Pnt) : midOf x y = midOf y x := by unfold midOf; rw [Int.add_comm, Int.add_comm x.2]
/-- G4: what the program's middles are. -/
theorem mem_mids {a b : Pnt} (hab : a ≠ b) (rings : Poly) (m : Spot) : m ∈ mids (a, b) rings ↔ ∃ y z, Cons (pos a b) (Cut a b rings.flatten) y z ∧ m = midOf y z := by
  unfold mids fwd
  simp only
  by_cases h : bef b a
  · rw [if_pos h]
    simp only
    rw [midsF_eq h rings _ _ (cr_a b a), midG_pos (Ne.symm hab) _ (Nat.le_refl _)]
    constructor
    · rintro ⟨y, z, hc, e⟩; exact ⟨z, y, cons_swap hc, by rw [e, mid_swap]⟩
    · rintro ⟨y, z, hc, e⟩; exact ⟨z, y, cons_swap hc, by rw [e, mid_swap]⟩
  · have h' : bef a b := by
      rcases bef_tri a b with k | k | k
      · exact k
      · exact absurd k hab
      · exact absurd k h
    rw [if_neg h]
    simp only
    rw [midsF_eq h' rings _ _ (cr_a a b), midG_pos hab _ (Nat.le_refl _)]
/-- a segment of no length has no parts. -/
theorem mids_nil (a : Pnt) (rings : Poly) : mids (a, a) rings = [] := by
  unfold mids fwd
  simp only
  rw [if_neg (fun h => bef_irr h h)]
  exact midsF_end rfl _

/-! ### the document's: from a to b, by the dot product -/
def dotD (a b x y : Pnt) : Int := (y.1 - x.1) * (b.1 - a.1) + (y.2 - x.2) * (b.2 - a.2)
theorem dotD_pos (a b x y : Pnt) : dotD a b x y = pos a b y - pos a b x := by unfold dotD pos dt; grind
instance (a b p : Pnt) (w : Int) : Decidable (on a b p w) := by unfold on; infer_instance
def cutD (a b x t p : Pnt) : Pnt := if on a b p 1 ∧ dotD a b x p > 0 ∧ dotD a b p t > 0 then p else t
def nextD (a b x : Pnt) (rings : Poly) : Pnt := rings.flatten.foldl (cutD a b x) b
def midsD (a b : Pnt) (rings : Poly) : Nat → Pnt → List Spot
  | 0, _ => []
  | n + 1, x => if x = b then [] else midOf x (nextD a b x rings) :: midsD a b rings n (nextD a b x rings)
theorem cutD_eq {a b : Pnt} (hab : a ≠ b) (x t p : Pnt) : cutD a b x t p = cutG (pos a b) (fun p => has a b p 1) x t p := by
  unfold cutD cutG
  have e := has_on (p := p) (w := 1) hab (by omega)
  rw [dotD_pos, dotD_pos]
  by_cases c : has a b p 1 ∧ pos a b x < pos a b p ∧ pos a b p < pos a b t
  · rw [if_pos c, if_pos ⟨e.1 c.1, by omega, by omega⟩]
  · rw [if_neg c, if_neg (fun q => c ⟨e.2 q.1, by omega, by omega⟩)]
theorem nextD_eq {a b : Pnt} (hab : a ≠ b) (x : Pnt) (rings : Poly) : nextD a b x rings = rings.flatten.foldl (cutG (pos a b) (fun p => has a b p 1) x) b := by
  unfold nextD
  congr 1
  funext t p
  exact cutD_eq hab x t p
theorem midsD_eq {a b : Pnt} (hab : a ≠ b) (rings : Poly) : ∀ (n : Nat) (x : Pnt), midsD a b rings n x = midG (pos a b) (fun p => has a b p 1) rings.flatten b n x := by
  intro n
  induction n with
  | zero => intro x; rfl
  | succ n ih =>
    intro x
    unfold midsD midG
    rw [nextD_eq hab, ih]
/-- The document's list, for good. -/
def midD (a b : Pnt) (rings : Poly) : List Spot := midsD a b rings (rings.flatten.length + 1) a
theorem mem_midD {a b : Pnt} (hab : a ≠ b) (rings : Poly) (m : Spot) : m ∈ midD a b rings ↔ ∃ y z, Cons (pos a b) (Cut a b rings.flatten) y z ∧ m = midOf y z := by
  unfold midD
  rw [midsD_eq hab, midG_pos hab _ (Nat.le_refl _)]
theorem mids_midD {a b : Pnt} (hab : a ≠ b) (rings : Poly) (m : Spot) : m ∈ mids (a, b) rings ↔ m ∈ midD a b rings := by rw [mem_mids hab, mem_midD hab]
end Vd
end Go.Proofs.YtcclepohmhdpbaaGreatDoor

/- VALIDITY, PLAINLY: a way round, just if something is left (G5): the program's side. -/
namespace Go.Proofs.YtcclepohmhdpbaaGreatDoor
set_option linter.all false
namespace Vd

theorem nAt_map {g : List Nat} {f : Nat → Nat} {i : Nat} (h : i < g.length) : nAt (g.map f) i = f (nAt g i) := by
  unfold nAt; simp [List.getD_eq_getElem?_getD, List.getElem?_eq_getElem h]

/-- labels that were turned: which were the same. -/
theorem turn_eq {o f x y : Nat} (h : turnG o f x = turnG o f y) : x = y ∨ ((x = o ∨ x = f) ∧ (y = o ∨ y = f)) := by
  unfold turnG at h; split at h <;> split at h <;> omega

theorem joinL_ok : ∀ (js : List Nat) (g : List Nat) (a : Nat) (g' : List Nat), a < g.length → (∀ j ∈ js, j < g.length) → joinL g a js = some g' →
    g'.length = g.length ∧ (∀ x y, x < g.length → y < g.length → nAt g x = nAt g y → nAt g' x = nAt g' y) ∧ (∀ j ∈ js, nAt g' j = nAt g' a) ∧ (∀ j ∈ js, nAt g j ≠ nAt g a) ∧ js.Pairwise (fun i j => nAt g i ≠ nAt g j) := by
  intro js
  induction js with
  | nil =>
    intro g a g' _ _ h
    simp only [joinL, Option.some.injEq] at h
    subst h
    exact ⟨rfl, fun _ _ _ _ e => e, by simp, by simp, List.Pairwise.nil⟩
  | cons j t ih =>
    intro g a g' ha hj h
    unfold joinL at h
    split at h
    · cases h
    · rename_i hne
      have hjl := hj j (by simp)
      have key := ih _ a g' (by simpa using ha) (by intro x hx; simpa using hj x (by simp [hx])) h
      obtain ⟨k1, k2, k3, k4, k5⟩ := key
      simp only [List.length_map] at k1 k2
      have m : ∀ x, x < g.length → nAt (g.map (turnG (nAt g j) (nAt g a))) x = turnG (nAt g j) (nAt g a) (nAt g x) := fun x hx => nAt_map hx
      have ma : turnG (nAt g j) (nAt g a) (nAt g a) = nAt g a := by unfold turnG; rw [if_neg (Ne.symm hne)]
      have mj : turnG (nAt g j) (nAt g a) (nAt g j) = nAt g a := by unfold turnG; rw [if_pos rfl]
      have kt : ∀ i ∈ t, nAt g i ≠ nAt g a ∧ nAt g i ≠ nAt g j := by
        intro i hi
        have hil := hj i (by simp [hi])
        have := k4 i hi
        rw [m i hil, m a ha, ma] at this
        constructor
        · intro e; rw [e, ma] at this; exact this rfl
        · intro e; rw [e, mj] at this; exact this rfl
      refine ⟨k1, ?_, ?_, ?_, ?_⟩
      · intro x y hx hy e
        refine k2 x y hx hy ?_
        rw [m x hx, m y hy, e]
      · intro i hi
        rcases List.mem_cons.1 hi with rfl | hi
        · refine k2 _ _ hjl ha ?_
          rw [m _ hjl, m a ha, mj, ma]
        · exact k3 i hi
      · intro i hi
        rcases List.mem_cons.1 hi with rfl | hi
        · exact hne
        · exact (kt i hi).1
      · refine List.Pairwise.cons (fun i hi => Ne.symm (kt i hi).2) ?_
        refine List.Pairwise.imp_of_mem ?_ k5
        intro x y hx hy e e2
        rw [m x (hj x (by simp [hx])), m y (hj y (by simp [hy])), e2] at e
        exact e rfl

theorem joinL_back : ∀ (js : List Nat) (g : List Nat) (a : Nat) (g' : List Nat), a < g.length → (∀ j ∈ js, j < g.length) → joinL g a js = some g' →
    ∀ x y, x < g.length → y < g.length → nAt g' x = nAt g' y → nAt g x = nAt g y ∨ ∃ u ∈ a :: js, ∃ v ∈ a :: js, nAt g u = nAt g x ∧ nAt g v = nAt g y := by
  intro js
  induction js with
  | nil =>
    intro g a g' _ _ h x y _ _ e
    simp only [joinL, Option.some.injEq] at h
    subst h
    exact .inl e
  | cons j t ih =>
    intro g a g' ha hj h x y hx hy e
    unfold joinL at h
    split at h
    · cases h
    · rename_i hne
      have hjl := hj j (by simp)
      have m : ∀ x, x < g.length → nAt (g.map (turnG (nAt g j) (nAt g a))) x = turnG (nAt g j) (nAt g a) (nAt g x) := fun x hx => nAt_map hx
      have key := ih _ a g' (by simpa using ha) (by intro x hx; simpa using hj x (by simp [hx])) h x y (by simpa using hx) (by simpa using hy) e
      have up : ∀ u ∈ a :: t, ∀ z, z < g.length → nAt (g.map (turnG (nAt g j) (nAt g a))) u = nAt (g.map (turnG (nAt g j) (nAt g a))) z → ∃ u' ∈ a :: j :: t, nAt g u' = nAt g z := by
        intro u hu z hz e
        have hul : u < g.length := by
          rcases List.mem_cons.1 hu with rfl | hu
          · exact ha
          · exact hj u (by simp [hu])
        rw [m u hul, m z hz] at e
        rcases turn_eq e with e | ⟨_, e | e⟩
        · refine ⟨u, ?_, e⟩
          rcases List.mem_cons.1 hu with rfl | hu
          · simp
          · simp [hu]
        · exact ⟨j, by simp, e.symm⟩
        · exact ⟨a, by simp, e.symm⟩
      rcases key with k | ⟨u, hu, v, hv, k1, k2⟩
      · rw [m x hx, m y hy] at k
        rcases turn_eq k with k | ⟨k1, k2⟩
        · exact .inl k
        · right
          have one : ∀ z, (nAt g z = nAt g j ∨ nAt g z = nAt g a) → ∃ u ∈ a :: j :: t, nAt g u = nAt g z := by
            rintro z (e | e)
            · exact ⟨j, by simp, e.symm⟩
            · exact ⟨a, by simp, e.symm⟩
          obtain ⟨u, hu, e1⟩ := one x k1
          obtain ⟨v, hv, e2⟩ := one y k2
          exact ⟨u, hu, v, hv, e1, e2⟩
      · right
        obtain ⟨u', hu', e1⟩ := up u hu x hx k1
        obtain ⟨v', hv', e2⟩ := up v hv y hy k2
        exact ⟨u', hu', v', hv', e1, e2⟩

theorem joinL_none : ∀ (js : List Nat) (g : List Nat) (a : Nat), a < g.length → (∀ j ∈ js, j < g.length) → (a :: js).Nodup → joinL g a js = none →
    ∃ u ∈ a :: js, ∃ v ∈ a :: js, u ≠ v ∧ nAt g u = nAt g v := by
  intro js
  induction js with
  | nil => intro g a _ _ _ h; cases h
  | cons j t ih =>
    intro g a ha hj hnd h
    have hjl := hj j (by simp)
    have haj : a ≠ j := fun e => (List.nodup_cons.1 hnd).1 (by simp [e])
    have hjt : j ∉ t := (List.nodup_cons.1 (List.nodup_cons.1 hnd).2).1
    unfold joinL at h
    split at h
    · rename_i e
      exact ⟨j, by simp, a, by simp, Ne.symm haj, e⟩
    · rename_i hne
      have m : ∀ x, x < g.length → nAt (g.map (turnG (nAt g j) (nAt g a))) x = turnG (nAt g j) (nAt g a) (nAt g x) := fun x hx => nAt_map hx
      have hnd' : (a :: t).Nodup := by
        rw [List.nodup_cons] at hnd ⊢
        exact ⟨fun e => hnd.1 (by simp [e]), (List.nodup_cons.1 hnd.2).2⟩
      obtain ⟨u, hu, v, hv, huv, e⟩ := ih _ a (by simpa using ha) (by intro x hx; simpa using hj x (by simp [hx])) hnd' h
      have lt : ∀ x ∈ a :: t, x < g.length := by
        intro x hx
        rcases List.mem_cons.1 hx with rfl | hx
        · exact ha
        · exact hj x (by simp [hx])
      have inn : ∀ x ∈ a :: t, x ∈ a :: j :: t := by
        intro x hx
        rcases List.mem_cons.1 hx with rfl | hx
        · simp
        · simp [hx]
      have far : ∀ x ∈ a :: t, nAt g x = nAt g j → ∃ u ∈ a :: j :: t, ∃ v ∈ a :: j :: t, u ≠ v ∧ nAt g u = nAt g v := by
        intro x hx e
        refine ⟨x, inn x hx, j, by simp, ?_, e⟩
        rintro rfl
        rcases List.mem_cons.1 hx with e | e
        · exact haj e.symm
        · exact hjt e
      rw [m u (lt u hu), m v (lt v hv)] at e
      rcases turn_eq e with e | ⟨e1 | e1, e2 | e2⟩
      · exact ⟨u, inn u hu, v, inn v hv, huv, e⟩
      · exact far u hu e1
      · exact far u hu e1
      · exact far v hv e2
      · exact ⟨u, inn u hu, v, inn v hv, huv, by rw [e1, e2]⟩

/-! ### Cores -/
abbrev Inc := Nat → Pnt → Prop
/-- Each point of F has another ring, and each ring but x and y another point. -/
structure Near (F : Inc) (x y : Nat) : Prop where
  pt : ∀ r p, F r p → ∃ r', r' ≠ r ∧ F r' p
  ring : ∀ r p, F r p → r ≠ x → r ≠ y → ∃ p', p' ≠ p ∧ F r p'
structure Core (F : Inc) : Prop where
  pt : ∀ r p, F r p → ∃ r', r' ≠ r ∧ F r' p
  ring : ∀ r p, F r p → ∃ p', p' ≠ p ∧ F r p'

structure At (n : Nat) (E : Inc) (at_ : Pnt → List Nat) : Prop where
  mem : ∀ r p, r ∈ at_ p ↔ r < n ∧ E r p
  nd : ∀ p, (at_ p).Nodup

theorem pw_all {f : Nat → Nat} {l : List Nat} (h : l.Pairwise (fun i j => f i ≠ f j)) : ∀ x y, x ∈ l → y ∈ l → x ≠ y → f x ≠ f y := by
  induction h with
  | nil => intro x y hx; cases hx
  | cons h1 _ ih =>
    intro x y hx hy hxy
    rcases List.mem_cons.1 hx with e1 | e1 <;> rcases List.mem_cons.1 hy with e2 | e2
    · exact absurd (e1.trans e2.symm) hxy
    · rw [e1]; exact h1 y e2
    · rw [e2]; exact Ne.symm (h1 x e1)
    · exact ih x y e1 e2 hxy

theorem join_cases {n : Nat} {E : Inc} {at_ : Pnt → List Nat} (hA : At n E at_) (p : Pnt) (g : List Nat) (hg : g.length = n) :
    (∀ g', join g (at_ p) = some g' → g'.length = n ∧ (∀ x y, x < n → y < n → nAt g x = nAt g y → nAt g' x = nAt g' y) ∧ (∀ a b, a ∈ at_ p → b ∈ at_ p → nAt g' a = nAt g' b) ∧
      (∀ a b, a ∈ at_ p → b ∈ at_ p → a ≠ b → nAt g a ≠ nAt g b) ∧ (∀ x y, x < n → y < n → nAt g' x = nAt g' y → nAt g x = nAt g y ∨ ∃ u ∈ at_ p, ∃ v ∈ at_ p, nAt g u = nAt g x ∧ nAt g v = nAt g y)) ∧
    (join g (at_ p) = none → ∃ u ∈ at_ p, ∃ v ∈ at_ p, u ≠ v ∧ nAt g u = nAt g v) := by
  have hnd := hA.nd p
  have hlt : ∀ j ∈ at_ p, j < g.length := fun j hj => by rw [hg]; exact ((hA.mem j p).1 hj).1
  cases hp : at_ p with
  | nil =>
    refine ⟨fun g' h => ?_, fun h => by cases h⟩
    simp only [join, Option.some.injEq] at h
    subst h
    exact ⟨hg, fun _ _ _ _ e => e, by simp, by simp, fun _ _ _ _ e => .inl e⟩
  | cons a t =>
    rw [hp] at hnd hlt
    have ha := hlt a (by simp)
    have ht : ∀ j ∈ t, j < g.length := fun j hj => hlt j (by simp [hj])
    refine ⟨fun g' h => ?_, fun h => joinL_none t g a ha ht hnd h⟩
    obtain ⟨k1, k2, k3, k4, k5⟩ := joinL_ok t g a g' ha ht h
    have k6 := joinL_back t g a g' ha ht h
    rw [hg] at k1 k2 k6
    refine ⟨k1, k2, ?_, ?_, k6⟩
    · have one : ∀ x ∈ a :: t, nAt g' x = nAt g' a := by
        intro x hx
        rcases List.mem_cons.1 hx with rfl | hx
        · rfl
        · exact k3 x hx
      intro x y hx hy
      rw [one x hx, one y hy]
    · intro x y hx hy hxy
      rcases List.mem_cons.1 hx with h1 | h1 <;> rcases List.mem_cons.1 hy with h2 | h2
      · exact absurd (h1.trans h2.symm) hxy
      · rw [h1]; exact Ne.symm (k4 y h2)
      · rw [h2]; exact k4 x h1
      · exact pw_all k5 x y h1 h2 hxy

/-- What is known once the points of Q are joined. -/
structure Jd (n : Nat) (E : Inc) (Q : Pnt → Prop) (g : List Nat) : Prop where
  len : g.length = n
  one : ∀ p, Q p → ∀ a b, a < n → b < n → E a p → E b p → nAt g a = nAt g b
  no : ∀ F : Inc, (∀ r p, F r p → r < n ∧ E r p ∧ Q p) → ∀ x, Near F x x → ∀ r p, ¬ F r p
  good : ∀ a b, a < n → b < n → a ≠ b → nAt g a = nAt g b → ∃ F : Inc, (∀ r p, F r p → r < n ∧ E r p ∧ Q p) ∧ Near F a b ∧ (∃ p, F a p) ∧ (∃ p, F b p)

theorem Jd.step {n : Nat} {E : Inc} {at_ : Pnt → List Nat} (hA : At n E at_) {Q : Pnt → Prop} {g g' : List Nat} (h : Jd n E Q g) {p : Pnt} (hp : ¬ Q p) (hj : join g (at_ p) = some g') :
    Jd n E (fun q => Q q ∨ q = p) g' := by
  obtain ⟨k1, k2, k3, k4, k5⟩ := (join_cases hA p g h.len).1 g' hj
  refine ⟨k1, ?_, ?_, ?_⟩
  · rintro q (hq | rfl) a b ha hb ea eb
    · exact k2 a b ha hb (h.one q hq a b ha hb ea eb)
    · exact k3 a b ((hA.mem a q).2 ⟨ha, ea⟩) ((hA.mem b q).2 ⟨hb, eb⟩)
  · intro F hF x hN r0 p0 h0
    by_cases hu : ∃ r, F r p
    · obtain ⟨a, ha⟩ := hu
      obtain ⟨b, hba, hb⟩ := hN.pt a p ha
      have ea := hF a p ha
      have eb := hF b p hb
      have hne := k4 a b ((hA.mem a p).2 ⟨ea.1, ea.2.1⟩) ((hA.mem b p).2 ⟨eb.1, eb.2.1⟩) (Ne.symm hba)
      have key : ∀ c, F c p → nAt g c ≠ nAt g x → False := by
        intro c hc hcx
        have ec := hF c p hc
        have hcx' : c ≠ x := fun e => hcx (by rw [e])
        obtain ⟨q, hq, hcq⟩ := hN.ring c p hc hcx' hcx'
        refine h.no (fun r q => F r q ∧ q ≠ p ∧ nAt g r = nAt g c) ?_ c ⟨?_, ?_⟩ c q ⟨hcq, hq, rfl⟩
        · rintro r q ⟨h1, h2, -⟩
          obtain ⟨g1, g2, g3⟩ := hF r q h1
          rcases g3 with g3 | g3
          · exact ⟨g1, g2, g3⟩
          · exact absurd g3 h2
        · rintro r q ⟨h1, h2, h3⟩
          obtain ⟨r', e, h4⟩ := hN.pt r q h1
          have a1 := hF r q h1
          have a2 := hF r' q h4
          have hQ : Q q := by rcases a1.2.2 with t | t; exact t; exact absurd t h2
          exact ⟨r', e, h4, h2, by rw [← h3]; exact h.one q hQ r' r a2.1 a1.1 a2.2.1 a1.2.1⟩
        · rintro r q ⟨h1, h2, h3⟩ hr _
          have hrx : r ≠ x := fun e => hcx (by rw [← e, h3])
          obtain ⟨q', e, h4⟩ := hN.ring r q h1 hrx hrx
          refine ⟨q', e, h4, ?_, h3⟩
          rintro rfl
          have a1 := hF r q' h4
          exact k4 r c ((hA.mem r q').2 ⟨a1.1, a1.2.1⟩) ((hA.mem c q').2 ⟨ec.1, ec.2.1⟩) hr h3
      by_cases hax : nAt g a = nAt g x
      · exact key b hb (fun e => hne (by rw [hax, e]))
      · exact key a ha hax
    · refine h.no F ?_ x hN r0 p0 h0
      intro r q hq
      obtain ⟨g1, g2, g3⟩ := hF r q hq
      rcases g3 with g3 | rfl
      · exact ⟨g1, g2, g3⟩
      · exact absurd ⟨r, hq⟩ hu
  · intro a b ha hb hab e
    have wide : ∀ F : Inc, (∀ r p, F r p → r < n ∧ E r p ∧ Q p) → ∀ r q, F r q → r < n ∧ E r q ∧ (Q q ∨ q = p) := fun F hF r q hq => ⟨(hF r q hq).1, (hF r q hq).2.1, .inl (hF r q hq).2.2⟩
    by_cases e0 : nAt g a = nAt g b
    · obtain ⟨F, h1, h2, h3, h4⟩ := h.good a b ha hb hab e0
      exact ⟨F, wide F h1, h2, h3, h4⟩
    · rcases k5 a b ha hb e with e1 | ⟨u, hu, v, hv, e1, e2⟩
      · exact absurd e1 e0
      have eu := (hA.mem u p).1 hu
      have ev := (hA.mem v p).1 hv
      have huv : u ≠ v := by rintro rfl; exact e0 (e1.symm.trans e2)
      -- what joins c to its ring z at p
      have arm : ∀ z c, z < n → c < n → nAt g z = nAt g c → ∃ F : Inc, (∀ r q, F r q → r < n ∧ E r q ∧ Q q) ∧ (∀ r q, F r q → ∃ r', r' ≠ r ∧ F r' q) ∧ (∀ r q, F r q → r ≠ z → r ≠ c → ∃ q', q' ≠ q ∧ F r q') ∧ (z ≠ c → (∃ q, F z q) ∧ (∃ q, F c q)) := by
        intro z c hz hc ezc
        by_cases zc : z = c
        · exact ⟨fun _ _ => False, by simp, by simp, by simp, fun t => absurd zc t⟩
        · obtain ⟨F, h1, h2, h3, h4⟩ := h.good z c hz hc zc ezc
          exact ⟨F, h1, h2.pt, h2.ring, fun _ => ⟨h3, h4⟩⟩
      obtain ⟨F, f1, f2, f3, f4⟩ := arm u a eu.1 ha e1
      obtain ⟨G, g1, g2, g3, g4⟩ := arm v b ev.1 hb e2
      refine ⟨fun r q => F r q ∨ G r q ∨ (q = p ∧ (r = u ∨ r = v)), ?_, ⟨?_, ?_⟩, ?_, ?_⟩
      · rintro r q (t | t | ⟨rfl, rfl | rfl⟩)
        · exact wide F f1 r q t
        · exact wide G g1 r q t
        · exact ⟨eu.1, eu.2, .inr rfl⟩
        · exact ⟨ev.1, ev.2, .inr rfl⟩
      · rintro r q (t | t | ⟨rfl, rfl | rfl⟩)
        · obtain ⟨r', e, t'⟩ := f2 r q t; exact ⟨r', e, .inl t'⟩
        · obtain ⟨r', e, t'⟩ := g2 r q t; exact ⟨r', e, .inr (.inl t')⟩
        · exact ⟨v, Ne.symm huv, .inr (.inr ⟨rfl, .inr rfl⟩)⟩
        · exact ⟨u, huv, .inr (.inr ⟨rfl, .inl rfl⟩)⟩
      · have atU : ∀ q, q ≠ p → ∃ q', q' ≠ q ∧ (F u q' ∨ G u q' ∨ (q' = p ∧ (u = u ∨ u = v))) := fun q hq => ⟨p, Ne.symm hq, .inr (.inr ⟨rfl, .inl rfl⟩)⟩
        have atV : ∀ q, q ≠ p → ∃ q', q' ≠ q ∧ (F v q' ∨ G v q' ∨ (q' = p ∧ (v = u ∨ v = v))) := fun q hq => ⟨p, Ne.symm hq, .inr (.inr ⟨rfl, .inr rfl⟩)⟩
        rintro r q (t | t | ⟨rfl, rfl | rfl⟩) hra hrb
        · have hq : q ≠ p := fun e => hp (e ▸ (f1 r q t).2.2)
          by_cases ru : r = u
          · subst ru; exact atU q hq
          · obtain ⟨q', e, t'⟩ := f3 r q t ru hra; exact ⟨q', e, .inl t'⟩
        · have hq : q ≠ p := fun e => hp (e ▸ (g1 r q t).2.2)
          by_cases rv : r = v
          · subst rv; exact atV q hq
          · obtain ⟨q', e, t'⟩ := g3 r q t rv hrb; exact ⟨q', e, .inr (.inl t')⟩
        · obtain ⟨q', t'⟩ := (f4 hra).1
          exact ⟨q', fun e => hp (e ▸ (f1 r q' t').2.2), .inl t'⟩
        · obtain ⟨q', t'⟩ := (g4 hrb).1
          exact ⟨q', fun e => hp (e ▸ (g1 r q' t').2.2), .inr (.inl t')⟩
      · by_cases ua : u = a
        · exact ⟨p, .inr (.inr ⟨rfl, .inl ua.symm⟩)⟩
        · obtain ⟨q, t⟩ := (f4 ua).2; exact ⟨q, .inl t⟩
      · by_cases vb : v = b
        · exact ⟨p, .inr (.inr ⟨rfl, .inr vb.symm⟩)⟩
        · obtain ⟨q, t⟩ := (g4 vb).2; exact ⟨q, .inr (.inl t)⟩

/-- Joined at a point that lies on two of one group: a core. -/
theorem Jd.core {n : Nat} {E : Inc} {at_ : Pnt → List Nat} (hA : At n E at_) {Q : Pnt → Prop} {g : List Nat} (h : Jd n E Q g) {p : Pnt} (hp : ¬ Q p) (hj : join g (at_ p) = none) :
    ∃ F : Inc, (∀ r q, F r q → r < n ∧ E r q ∧ (Q q ∨ q = p)) ∧ Core F ∧ ∃ r q, F r q := by
  obtain ⟨u, hu, v, hv, huv, e⟩ := (join_cases hA p g h.len).2 hj
  have eu := (hA.mem u p).1 hu
  have ev := (hA.mem v p).1 hv
  obtain ⟨F, h1, h2, ⟨qu, h3⟩, ⟨qv, h4⟩⟩ := h.good u v eu.1 ev.1 huv e
  have np : ∀ r q, F r q → q ≠ p := fun r q t e => hp (e ▸ (h1 r q t).2.2)
  refine ⟨fun r q => F r q ∨ (q = p ∧ (r = u ∨ r = v)), ?_, ⟨?_, ?_⟩, u, p, .inr ⟨rfl, .inl rfl⟩⟩
  · rintro r q (t | ⟨rfl, rfl | rfl⟩)
    · exact ⟨(h1 r q t).1, (h1 r q t).2.1, .inl (h1 r q t).2.2⟩
    · exact ⟨eu.1, eu.2, .inr rfl⟩
    · exact ⟨ev.1, ev.2, .inr rfl⟩
  · rintro r q (t | ⟨rfl, rfl | rfl⟩)
    · obtain ⟨r', e, t'⟩ := h2.pt r q t; exact ⟨r', e, .inl t'⟩
    · exact ⟨v, Ne.symm huv, .inr ⟨rfl, .inr rfl⟩⟩
    · exact ⟨u, huv, .inr ⟨rfl, .inl rfl⟩⟩
  · rintro r q (t | ⟨rfl, rfl | rfl⟩)
    · by_cases ru : r = u
      · exact ⟨p, Ne.symm (np r q t), .inr ⟨rfl, .inl ru⟩⟩
      · by_cases rv : r = v
        · exact ⟨p, Ne.symm (np r q t), .inr ⟨rfl, .inr rv⟩⟩
        · obtain ⟨q', e, t'⟩ := h2.ring r q t ru rv; exact ⟨q', e, .inl t'⟩
    · exact ⟨qu, np _ qu h3, .inl h3⟩
    · exact ⟨qv, np _ qv h4, .inl h4⟩
end Vd
end Go.Proofs.YtcclepohmhdpbaaGreatDoor

/- VALIDITY, PLAINLY: a way round, just if there is a core (G5): the program's whole. -/
namespace Go.Proofs.YtcclepohmhdpbaaGreatDoor
set_option linter.all false
namespace Vd
def incL (l : Poly) : Inc := fun r p => place (rAt l r) (at1 p) = 1
theorem at_ringsAt (l : Poly) : At l.length (incL l) (ringsAt l) where
  mem := by
    intro r p
    unfold ringsAt incL
    simp
  nd := by
    intro p
    unfold ringsAt
    exact List.Pairwise.filter _ (List.nodup_range)
theorem Jd.mono {n : Nat} {E : Inc} {Q Q' : Pnt → Prop} {g : List Nat} (h : Jd n E Q g) (k : ∀ p, Q p ↔ Q' p) : Jd n E Q' g := by
  have e : Q = Q' := funext fun p => propext (k p)
  rw [← e]; exact h
theorem wayL_cases (l : Poly) : ∀ (ps : List Pnt) (Q : Pnt → Prop) (g : List Nat), Jd l.length (incL l) Q g → (∀ p ∈ ps, ¬ Q p) → ps.Nodup →
    (wayL l ps g = true → ∃ F : Inc, (∀ r q, F r q → r < l.length ∧ incL l r q ∧ (Q q ∨ q ∈ ps)) ∧ Core F ∧ ∃ r q, F r q) ∧
    (wayL l ps g = false → ∃ g', Jd l.length (incL l) (fun q => Q q ∨ q ∈ ps) g') := by
  intro ps
  induction ps with
  | nil =>
    intro Q g h _ _
    refine ⟨fun e => ?_, fun _ => ⟨g, h.mono (by simp)⟩⟩
    simp [wayL] at e
  | cons p t ih =>
    intro Q g h hq hnd
    have hp := hq p (by simp)
    rw [List.nodup_cons] at hnd
    cases hj : join g (ringsAt l p) with
    | none =>
      refine ⟨fun _ => ?_, fun e => by simp [wayL, hj] at e⟩
      obtain ⟨F, h1, h2, h3⟩ := h.core (at_ringsAt l) hp hj
      refine ⟨F, fun r q t => ⟨(h1 r q t).1, (h1 r q t).2.1, ?_⟩, h2, h3⟩
      rcases (h1 r q t).2.2 with k | k
      · exact .inl k
      · exact .inr (by simp [k])
    | some g' =>
      have h' := h.step (at_ringsAt l) hp hj
      have := ih _ g' h' (by
        rintro q hq' (k | rfl)
        · exact hq q (by simp [hq']) k
        · exact hnd.1 hq') hnd.2
      have ew : wayL l (p :: t) g = wayL l t g' := by simp [wayL, hj]
      rw [ew]
      refine ⟨fun e => ?_, fun e => ?_⟩
      · obtain ⟨F, h1, h2, h3⟩ := this.1 e
        refine ⟨F, fun r q t => ⟨(h1 r q t).1, (h1 r q t).2.1, ?_⟩, h2, h3⟩
        rcases (h1 r q t).2.2 with (k | k) | k
        · exact .inl k
        · exact .inr (by simp [k])
        · exact .inr (by simp [k])
      · obtain ⟨g'', k⟩ := this.2 e
        exact ⟨g'', k.mono (by intro q; simp [or_assoc])⟩
theorem touch_fold (l : Poly) : ∀ (ps : List Pnt) (a : List Pnt), a.Nodup → (∀ p ∈ a, 1 < (ringsAt l p).length) →
    (ps.foldl (touchF l) a).Nodup ∧ ∀ q, q ∈ ps.foldl (touchF l) a ↔ q ∈ a ∨ (q ∈ ps ∧ 1 < (ringsAt l q).length) := by
  intro ps
  induction ps with
  | nil => intro a h _; exact ⟨h, by simp⟩
  | cons p t ih =>
    intro a h h1
    rw [List.foldl_cons]
    by_cases c : ¬ (p ∈ a) ∧ 1 < (ringsAt l p).length
    · rw [show touchF l a p = a ++ [p] from if_pos c]
      have := ih (a ++ [p]) (by rw [List.nodup_append]; exact ⟨h, by simp, by intro x hx y hy; simp at hy; subst hy; rintro rfl; exact c.1 hx⟩) (by
        intro q hq
        rcases List.mem_append.1 hq with hq | hq
        · exact h1 q hq
        · simp at hq; subst hq; exact c.2)
      refine ⟨this.1, fun q => ?_⟩
      rw [this.2 q]
      simp only [List.mem_append, List.mem_cons, List.mem_singleton, List.not_mem_nil, or_false]
      constructor
      · rintro ((k | rfl) | k)
        · exact .inl k
        · exact .inr ⟨.inl rfl, c.2⟩
        · exact .inr ⟨.inr k.1, k.2⟩
      · rintro (k | ⟨rfl | k, k2⟩)
        · exact .inl (.inl k)
        · exact .inl (.inr rfl)
        · exact .inr ⟨k, k2⟩
    · rw [show touchF l a p = a from if_neg c]
      have := ih a h h1
      refine ⟨this.1, fun q => ?_⟩
      rw [this.2 q]
      simp only [List.mem_cons]
      constructor
      · rintro (k | k)
        · exact .inl k
        · exact .inr ⟨.inr k.1, k.2⟩
      · rintro (k | ⟨rfl | k, k2⟩)
        · exact .inl k
        · by_cases hq : q ∈ a
          · exact .inl hq
          · exact absurd ⟨hq, k2⟩ c
        · exact .inr ⟨k, k2⟩
theorem two_at {n : Nat} {E : Inc} {f : Pnt → List Nat} (hA : At n E f) {p : Pnt} {a b : Nat} (ha : a ∈ f p) (hb : b ∈ f p) (hab : a ≠ b) : 1 < (f p).length := by
  match hf : f p with
  | [] => rw [hf] at ha; cases ha
  | [x] => rw [hf] at ha hb; simp at ha hb; exact absurd (ha.trans hb.symm) hab
  | x :: y :: t => simp
theorem nAt_range {n a : Nat} (h : a < n) : nAt (List.range n) a = a := by
  unfold nAt; simp [List.getD_eq_getElem?_getD, List.getElem?_range h]
theorem way_core (l : Poly) : way l = true ↔ ∃ F : Inc, (∀ r q, F r q → r < l.length ∧ incL l r q ∧ q ∈ l.flatten) ∧ Core F ∧ ∃ r q, F r q := by
  have ht := touch_fold l l.flatten [] List.nodup_nil (by simp)
  have h0 : Jd l.length (incL l) (fun _ => False) (List.range l.length) := by
    refine ⟨by simp, by simp, ?_, ?_⟩
    · intro F hF x _ r p h; exact (hF r p h).2.2
    · intro a b ha hb hab e
      rw [nAt_range ha, nAt_range hb] at e
      exact absurd e hab
  have key := wayL_cases l (touchPts l) _ _ h0 (by simp) ht.1
  constructor
  · intro h
    obtain ⟨F, h1, h2, h3⟩ := key.1 h
    refine ⟨F, fun r q t => ⟨(h1 r q t).1, (h1 r q t).2.1, ?_⟩, h2, h3⟩
    rcases (h1 r q t).2.2 with k | k
    · exact k.elim
    · have := (ht.2 q).1 k
      simp only [List.not_mem_nil, false_or] at this
      exact this.1
  · rintro ⟨F, h1, h2, r, q, h3⟩
    cases hw : way l with
    | true => rfl
    | false =>
      exfalso
      obtain ⟨g, hg⟩ := key.2 hw
      refine hg.no F ?_ 0 ⟨h2.pt, fun r p t _ _ => h2.ring r p t⟩ r q h3
      intro r p t
      obtain ⟨r', e, t'⟩ := h2.pt r p t
      have a1 := h1 r p t
      have a2 := h1 r' p t'
      refine ⟨a1.1, a1.2.1, .inr ?_⟩
      refine (ht.2 p).2 (.inr ⟨a1.2.2, ?_⟩)
      exact two_at (at_ringsAt l) (((at_ringsAt l).mem r p).2 ⟨a1.1, a1.2.1⟩) (((at_ringsAt l).mem r' p).2 ⟨a2.1, a2.2.1⟩) (Ne.symm e)
end Vd
end Go.Proofs.YtcclepohmhdpbaaGreatDoor

/- VALIDITY, PLAINLY: Meet either way round; where a spot lies, the document's; what lies within two segments (G2, G6). -/
namespace Go.Proofs.YtcclepohmhdpbaaGreatDoor
set_option linter.all false
namespace Vd
theorem onLine_symm (s t : Seg) : onLine s t = onLine t s := by
  have e1 : (if bef s.1 t.1 then t.1 else s.1) = (if bef t.1 s.1 then s.1 else t.1) := by
    rcases bef_tri s.1 t.1 with h | h | h
    · rw [if_pos h, if_neg (fun k => bef_irr h k)]
    · rw [h]
    · rw [if_neg (fun k => bef_irr h k), if_pos h]
  have e2 : (if bef t.2 s.2 then t.2 else s.2) = (if bef s.2 t.2 then s.2 else t.2) := by
    rcases bef_tri s.2 t.2 with h | h | h
    · rw [if_pos h, if_neg (fun k => bef_irr h k)]
    · rw [h]
    · rw [if_neg (fun k => bef_irr h k), if_pos h]
  unfold onLine
  simp only
  rw [e1, e2]
theorem meet_symm (a b c d : Pnt) : meet a b c d = meet c d a b := by
  unfold meet
  simp only
  generalize sg (cr a b c 1) = x
  generalize sg (cr a b d 1) = y
  generalize sg (cr c d a 1) = z
  generalize sg (cr c d b 1) = u
  rw [onLine_symm (fwd a b)]
  have e1 : (x = 0 ∧ y = 0 ∧ z = 0 ∧ u = 0) ↔ (z = 0 ∧ u = 0 ∧ x = 0 ∧ y = 0) := by omega
  have e2 : (x * y > 0 ∨ z * u > 0) ↔ (z * u > 0 ∨ x * y > 0) := Or.comm
  have e3 : x * y * z * u = z * u * x * y := by grind
  rw [e3]
  simp only [e1, e2]
theorem meetS_symm (s t : Seg) : meetS s t = meetS t s := meet_symm _ _ _ _
theorem crossS_symm (s t : Seg) : crossS s t = crossS t s := by unfold crossS; rw [meetS_symm]

/-! ### the document's: where a spot lies -/
def inRingL : List Seg → Bool → Spot → Int
  | [], i, _ => if i then 1 else -1
  | s :: t, i, p => if on s.1 s.2 p.1 p.2 then 0 else inRingL t (if rayD s.1 s.2 p.1 p.2 then !i else i) p
def inRing (r : Ring) (p : Spot) : Int := inRingL (segs r) false p
def pl (k : Int) : Int := if k = 0 then 1 else if k = 1 then 2 else 0
theorem placeL_eq : ∀ (l : List Seg) (i : Bool) (p : Spot), 0 < p.2 → (∀ s ∈ l, s.1 ≠ s.2) → placeL l i p = pl (inRingL l i p) ∧ (inRingL l i p = 0 ∨ inRingL l i p = 1 ∨ inRingL l i p = -1) := by
  intro l
  induction l with
  | nil => intro i p _ _; cases i <;> simp [placeL, inRingL, pl]
  | cons s t ih =>
    intro i p hp hl
    have hs := hl s (by simp)
    have e := has_on (p := p.1) (w := p.2) hs hp
    unfold placeL inRingL hasB
    by_cases h : has s.1 s.2 p.1 p.2
    · rw [if_pos (decide_eq_true h), if_pos (e.1 h)]
      simp [pl]
    · rw [decide_eq_false h, if_neg (fun k => h (e.2 k)), ray_eq hp]
      simp only [Bool.false_eq_true, if_false]
      exact ih _ p hp fun x hx => hl x (by simp [hx])
/-- No segment without length. -/
def Long (r : Ring) : Prop := ∀ s ∈ segs r, s.1 ≠ s.2
theorem place_eq {r : Ring} {p : Spot} (hr : Long r) (hp : 0 < p.2) : place r p = pl (inRing r p) ∧ (inRing r p = 0 ∨ inRing r p = 1 ∨ inRing r p = -1) := placeL_eq _ _ _ hp hr
def inL : Int → List Ring → Spot → Int
  | s, [], _ => s
  | s, r :: t, p => if inRing r p = 0 ∧ 0 ≤ s then 0 else if inRing r p = 1 then -1 else inL s t p
def inP : Poly → Spot → Int
  | [], _ => 0
  | r :: t, p => inL (inRing r p) t p

theorem inL_free : ∀ (t : List Ring) (s : Int) (f : Bool) (p : Spot), 0 < p.2 → (∀ r ∈ t, Long r ∧ place r p ≠ 1) → (s = 1 ∨ s = -1) → (f = true ↔ s = -1) →
    (freeL t false f p = true ↔ inL s t p = -1) := by
  intro t
  induction t with
  | nil => intro s f p _ _ _ hf; exact hf
  | cons r t ih =>
    intro s f p hp hr hs hf
    obtain ⟨hl, hp1⟩ := hr r (by simp)
    obtain ⟨e1, e2⟩ := place_eq hl hp
    have ht : ∀ r ∈ t, Long r ∧ place r p ≠ 1 := fun x hx => hr x (by simp [hx])
    unfold freeL inL
    rw [if_neg hp1]
    rcases e2 with e | e | e
    · exfalso; rw [e] at e1; exact hp1 e1
    · rw [e] at e1
      rw [if_neg (by omega), if_pos e]
      have e3 : place r p = 2 := e1
      simp only [e3]
      -- once free, always free
      have : ∀ (t : List Ring), (∀ r ∈ t, Long r ∧ place r p ≠ 1) → freeL t false true p = true := by
        intro t
        induction t with
        | nil => intro _; rfl
        | cons r t ih =>
          intro h
          unfold freeL
          rw [if_neg (h r (by simp)).2]
          simp only [Bool.true_or]
          exact ih fun x hx => h x (by simp [hx])
      simp [this t ht]
    · rw [e] at e1
      rw [if_neg (by omega), if_neg (by omega)]
      have e3 : place r p = 0 := e1
      simp only [e3]
      have := ih s f p hp ht hs hf
      simpa using this
/-- G6: on no ring, what is free is outside. -/
theorem free_in {l : Poly} {p : Spot} (hp : 0 < p.2) (hne : l ≠ []) (hr : ∀ r ∈ l, Long r ∧ place r p ≠ 1) : free l p = true ↔ inP l p = -1 := by
  cases l with
  | nil => exact absurd rfl hne
  | cons r t =>
    obtain ⟨hl, hp1⟩ := hr r (by simp)
    obtain ⟨e1, e2⟩ := place_eq hl hp
    unfold free freeL inP
    rw [if_neg hp1]
    rcases e2 with e | e | e
    · exfalso; rw [e] at e1; exact hp1 e1
    · rw [e] at e1
      have e3 : place r p = 2 := e1
      simp only [e3, e]
      exact inL_free t 1 _ p hp (fun x hx => hr x (by simp [hx])) (.inl rfl) (by simp)
    · rw [e] at e1
      have e3 : place r p = 0 := e1
      simp only [e3, e]
      exact inL_free t (-1) _ p hp (fun x hx => hr x (by simp [hx])) (.inr rfl) (by simp)

/-! ### a spot within both -/
/-- where a spot m (over 2) stands along a to b, over 2. -/
theorem cr_mid (a b x y : Pnt) : cr a b (midOf x y).1 2 = cr a b x 1 + cr a b y 1 := by unfold cr midOf; grind
theorem placeL_one : ∀ (l : List Seg) (i : Bool) (p : Spot), placeL l i p = 1 ↔ ∃ s ∈ l, has s.1 s.2 p.1 p.2 := by
  intro l
  induction l with
  | nil => intro i p; cases i <;> simp [placeL]
  | cons s t ih =>
    intro i p
    unfold placeL hasB
    by_cases h : has s.1 s.2 p.1 p.2
    · rw [if_pos (decide_eq_true h)]; simp [h]
    · rw [decide_eq_false h]
      simp only [Bool.false_eq_true, if_false]
      rw [ih]
      simp [h]
theorem place_one {r : Ring} {p : Spot} : place r p = 1 ↔ ∃ s ∈ segs r, has s.1 s.2 p.1 p.2 := placeL_one _ _ _
end Vd
end Go.Proofs.YtcclepohmhdpbaaGreatDoor

/- VALIDITY, PLAINLY: a spot within two segments: they cross or lie along each other (G6). -/
namespace Go.Proofs.YtcclepohmhdpbaaGreatDoor
set_option linter.all false
namespace Vd
/-- Strictly within: neither end. -/
def Inn (a b m : Pnt) : Prop := has a b m 2 ∧ m ≠ (a.1 * 2, a.2 * 2) ∧ m ≠ (b.1 * 2, b.2 * 2)
theorem inn_pos {a b m : Pnt} (hab : a ≠ b) (h : Inn a b m) : 0 < dt a b m 2 ∧ dt a b m 2 < kk a b * 2 := by
  have hk := kk_pos hab
  obtain ⟨h0, h1, h2⟩ := (has_on hab (by omega)).1 h.1
  have e1 : dt a b m 2 * (b.1 - a.1) = (m.1 - a.1 * 2) * kk a b := by unfold cr at h0; unfold dt kk; grind
  have e2 : dt a b m 2 * (b.2 - a.2) = (m.2 - a.2 * 2) * kk a b := by unfold cr at h0; unfold dt kk; grind
  have z : ∀ t : Int, 0 = t * kk a b → t = 0 := by
    intro t h
    rcases Int.mul_eq_zero.1 h.symm with h | h
    · exact h
    · omega
  constructor
  · rcases Int.lt_or_eq_of_le h1 with g | g
    · exact g
    · exfalso
      rw [← g, Int.zero_mul] at e1 e2
      have := z _ e1
      have := z _ e2
      exact h.2.1 (Prod.ext (by simp only; omega) (by simp only; omega))
  · rcases Int.lt_or_eq_of_le h2 with g | g
    · exact g
    · exfalso
      have f1 : 0 = (m.1 - b.1 * 2) * kk a b := by rw [g] at e1; grind
      have f2 : 0 = (m.2 - b.2 * 2) * kk a b := by rw [g] at e2; grind
      have := z _ f1
      have := z _ f2
      exact h.2.2 (Prod.ext (by simp only; omega) (by simp only; omega))
/-- Two weights above 0. -/
theorem weights {p q X Y : Int} (hp : 0 < p) (hq : 0 < q) (e : p * X + q * Y = 0) : (X = 0 ∧ Y = 0) ∨ (0 < X ∧ Y < 0) ∨ (X < 0 ∧ 0 < Y) := by
  rcases Int.lt_trichotomy X 0 with h | h | h
  · right; right; refine ⟨h, ?_⟩
    have := Int.mul_neg_of_pos_of_neg hp h
    rcases Int.lt_or_le 0 Y with g | g
    · exact g
    · have := Int.mul_nonpos_of_nonneg_of_nonpos (Int.le_of_lt hq) g
      omega
  · left; refine ⟨h, ?_⟩
    rw [h, Int.mul_zero, Int.zero_add] at e
    rcases Int.mul_eq_zero.1 e with g | g
    · omega
    · exact g
  · right; left; refine ⟨h, ?_⟩
    have := Int.mul_pos hp h
    rcases Int.lt_or_le Y 0 with g | g
    · exact g
    · have := Int.mul_nonneg (Int.le_of_lt hq) g
      omega
theorem inn_sides {a b c d m : Pnt} (hcd : c ≠ d) (h1 : cr a b m 2 = 0) (h2 : Inn c d m) : (cr a b c 1 = 0 ∧ cr a b d 1 = 0) ∨ (0 < cr a b c 1 ∧ cr a b d 1 < 0) ∨ (cr a b c 1 < 0 ∧ 0 < cr a b d 1) := by
  obtain ⟨g1, g2⟩ := inn_pos hcd h2
  have h0 := h2.1.1
  have e1 : dt c d m 2 * (d.1 - c.1) = (m.1 - c.1 * 2) * kk c d := by unfold cr at h0; unfold dt kk; grind
  have e2 : dt c d m 2 * (d.2 - c.2) = (m.2 - c.2 * 2) * kk c d := by unfold cr at h0; unfold dt kk; grind
  refine weights (p := kk c d * 2 - dt c d m 2) (q := dt c d m 2) (by omega) g1 ?_
  generalize dt c d m 2 = T at *
  generalize kk c d = K at *
  unfold cr at *
  grind
theorem line_other {a b c d : Pnt} (hab : a ≠ b) (h1 : cr a b c 1 = 0) (h2 : cr a b d 1 = 0) : cr c d a 1 = 0 ∧ cr c d b 1 = 0 := by
  have hk := kk_pos hab
  have z : ∀ t : Int, kk a b * t = 0 → t = 0 := by
    intro t h
    rcases Int.mul_eq_zero.1 h with h | h
    · omega
    · exact h
  constructor
  · apply z; unfold cr at *; unfold kk; grind
  · apply z; unfold cr at *; unfold kk; grind
theorem dt_two (a b x : Pnt) : dt a b (x.1 * 2, x.2 * 2) 2 = 2 * pos a b x := by unfold dt pos dt; grind
theorem inn_between {a b c d m : Pnt} (hcd : c ≠ d) (h2 : Inn c d m) : (2 * pos a b c < dt a b m 2 ∧ dt a b m 2 < 2 * pos a b d) ∨ (2 * pos a b d < dt a b m 2 ∧ dt a b m 2 < 2 * pos a b c) ∨ pos a b c = pos a b d := by
  obtain ⟨g1, g2⟩ := inn_pos hcd h2
  have h0 := h2.1.1
  have hk := kk_pos hcd
  have e1 : dt c d m 2 * (d.1 - c.1) = (m.1 - c.1 * 2) * kk c d := by unfold cr at h0; unfold dt kk; grind
  have e2 : dt c d m 2 * (d.2 - c.2) = (m.2 - c.2 * 2) * kk c d := by unfold cr at h0; unfold dt kk; grind
  have e : dt c d m 2 * (pos a b d - pos a b c) = kk c d * (dt a b m 2 - 2 * pos a b c) := by
    generalize dt c d m 2 = T at *
    generalize kk c d = K at *
    unfold pos dt; grind
  have e' : (kk c d * 2 - dt c d m 2) * (pos a b d - pos a b c) = kk c d * (2 * pos a b d - dt a b m 2) := by
    have : (kk c d * 2 - dt c d m 2) * (pos a b d - pos a b c) = kk c d * 2 * (pos a b d - pos a b c) - dt c d m 2 * (pos a b d - pos a b c) := by grind
    rw [this, e]; grind
  have g3 : 0 < kk c d * 2 - dt c d m 2 := by omega
  have sgn : ∀ {p q A B : Int}, 0 < p → 0 < q → p * A = q * B → (0 < A → 0 < B) ∧ (A < 0 → B < 0) := by
    intro p q A B hp hq e
    constructor
    · intro hA
      have := Int.mul_pos hp hA
      rw [e] at this
      exact Int.pos_of_mul_pos_right this hq
    · intro hA
      have := Int.mul_neg_of_pos_of_neg hp hA
      rw [e] at this
      rcases Int.lt_or_le B 0 with g | g
      · exact g
      · have := Int.mul_nonneg (Int.le_of_lt hq) g; omega
  rcases Int.lt_trichotomy (pos a b d - pos a b c) 0 with h | h | h
  · have k1 := (sgn g1 hk e).2 h
    have k2 := (sgn g3 hk e').2 h
    right; left; omega
  · right; right; omega
  · have k1 := (sgn g1 hk e).1 h
    have k2 := (sgn g3 hk e').1 h
    left; omega
theorem inn_cross {a b c d m : Pnt} (hab : a ≠ b) (hcd : c ≠ d) (h1 : Inn a b m) (h2 : Inn c d m) : meet a b c d = 2 ∨ meet a b c d = 3 := by
  have s1 := inn_sides hcd h1.1.1 h2
  have s2 := inn_sides hab h2.1.1 h1
  have l1 := line_other (c := c) (d := d) hab
  have l2 := line_other (c := a) (d := b) hcd
  by_cases hz : cr a b c 1 = 0
  · have hd : cr a b d 1 = 0 := by omega
    obtain ⟨z1, z2⟩ := l1 hz hd
    right
    have hm : meet a b c d = onLine (fwd a b) (fwd c d) := by
      unfold meet
      simp [hz, hd, z1, z2, sg]
    rw [hm]
    obtain ⟨p1, p2⟩ := inn_pos hab h1
    have hb := inn_between (a := a) (b := b) hcd h2
    have hne : pos a b c ≠ pos a b d := fun e => hcd (pos_inj hab hz hd e)
    rw [onLine_count hab hcd hz hd]
    have : count (kk a b) (min (pos a b c) (pos a b d)) (max (pos a b c) (pos a b d)) = 2 := by
      unfold count
      rw [if_neg (by omega), if_neg (by omega)]
    simp [this]
  · left
    have t2 : ¬ (cr c d a 1 = 0 ∧ cr c d b 1 = 0) := fun e => hz (l2 e.1 e.2).1
    have sp : ∀ {n : Int}, 0 < n → sg n = 1 := fun h => by unfold sg; rw [if_pos h]
    have sn : ∀ {n : Int}, n < 0 → sg n = -1 := fun h => by unfold sg; rw [if_neg (by omega), if_pos h]
    rcases s1 with e | ⟨x1, y1⟩ | ⟨x1, y1⟩
    · exact absurd e.1 hz
    · rcases s2 with e | ⟨z1, u1⟩ | ⟨z1, u1⟩
      · exact absurd e t2
      · unfold meet; simp [sp x1, sn y1, sp z1, sn u1]
      · unfold meet; simp [sp x1, sn y1, sn z1, sp u1]
    · rcases s2 with e | ⟨z1, u1⟩ | ⟨z1, u1⟩
      · exact absurd e t2
      · unfold meet; simp [sn x1, sp y1, sp z1, sn u1]
      · unfold meet; simp [sn x1, sp y1, sn z1, sp u1]
/-- A middle lies on no ring at whose vertices the segment was cut, unless they cross. -/
theorem mid_off {a b : Pnt} (hab : a ≠ b) {rings : Poly} {o : Ring} (ho : o ∈ rings) (hl : Long o) {m : Spot} (hm : m ∈ mids (a, b) rings) (hx : ∀ t ∈ segs o, crossS (a, b) t = false) : place o m ≠ 1 := by
  intro h1
  obtain ⟨y, z, hc, rfl⟩ := (mem_mids hab rings m).1 hm
  obtain ⟨t, ht, hh⟩ := place_one.1 h1
  have hh' : has t.1 t.2 (midOf y z).1 2 := hh
  have py := pos_le hab (cut_has hc.cx)
  have pz := pos_le hab (cut_has hc.cy)
  have hlt := hc.lt
  have ep : dt a b (midOf y z).1 2 = pos a b y + pos a b z := by unfold midOf pos dt; grind
  have hon : has a b (midOf y z).1 2 := by
    rw [has_on hab (by omega)]
    refine ⟨?_, by omega, by omega⟩
    have := cr_mid a b y z
    rw [this, (cut_has hc.cx).1, (cut_has hc.cy).1]; rfl
  have i1 : Inn a b (midOf y z).1 := by
    refine ⟨hon, ?_, ?_⟩
    · intro e
      have := dt_two a b a
      rw [← e, ep, pos_a] at this
      omega
    · intro e
      have := dt_two a b b
      rw [← e, ep, pos_b] at this
      omega
  have noCut : ∀ c, c ∈ o → (midOf y z).1 ≠ (c.1 * 2, c.2 * 2) := by
    intro c hco e
    have d2 := dt_two a b c
    rw [← e, ep] at d2
    have hcut : Cut a b rings.flatten c := by
      refine .inr (.inr ⟨List.mem_flatten.2 ⟨o, ho, hco⟩, ?_⟩)
      rw [has_on hab (by omega)]
      have g0 : cr a b (c.1 * 2, c.2 * 2) 2 = 0 := e ▸ hon.1
      refine ⟨?_, ?_, ?_⟩
      · unfold cr at *; grind
      · show 0 ≤ pos a b c; omega
      · show pos a b c ≤ _; omega
    exact hc.no c hcut ⟨by omega, by omega⟩
  have i2 : Inn t.1 t.2 (midOf y z).1 := ⟨hh', noCut _ (segs_mem ht).1, noCut _ (segs_mem ht).2⟩
  have := inn_cross hab (hl t ht) i1 i2
  have hf := hx t ht
  unfold crossS meetS at hf
  simp only [Bool.or_eq_false_iff, decide_eq_false_iff_not] at hf
  rcases this with e | e
  · exact hf.1 e
  · exact hf.2 e
end Vd
end Go.Proofs.YtcclepohmhdpbaaGreatDoor

/- VALIDITY, PLAINLY: the document's clauses, and that the least is the program's. -/
namespace Go.Proofs.YtcclepohmhdpbaaGreatDoor
set_option linter.all false
namespace Vd
def twiceD (r : Ring) : Bool := anyI (r.length - 1) fun i => anyI i fun j => decide (ptAt r i = ptAt r j)
def nextD2 (n i j : Nat) : Bool := decide (j + 1 = i) || (decide (j = 0) && decide (i + 1 = n))
def badK (next : Bool) (k : Int) : Bool := (next && decide (k ≠ 1)) || (!next && decide (k ≠ 0))
def selfD (r : Ring) : Bool := anyI (r.length - 1) fun i => anyI i fun j => badK (nextD2 (r.length - 1) i j) (common (ptAt r i) (ptAt r (i + 1)) (ptAt r j) (ptAt r (j + 1))).1
def cleanD (r : Ring) : Bool := !(twiceD r || selfD r)
def crossD (s t : Seg) : Bool := decide ((common s.1 s.2 t.1 t.2).1 = 2) || (common s.1 s.2 t.1 t.2).2
def pointsD (a b : Ring) : Bool := !((segs a).any fun s => (segs b).any fun t => crossD s t)
def allD (r : Ring) (q : Poly) (k : Int) : Bool := !((segs r).any fun s => (midD s.1 s.2 q).any fun m => decide (inP q m ≠ k))

/-- What Make lets pass: closed, four points or more. -/
structure Shut (r : Ring) : Prop where
  len : 4 ≤ r.length
  eq : ptAt r 0 = ptAt r (r.length - 1)

theorem ptAt_get {r : Ring} {i : Nat} (h : i < r.length) : r[i]? = some (ptAt r i) := by
  unfold ptAt; rw [List.getD_eq_getElem?_getD, List.getElem?_eq_getElem h]; rfl
theorem sAt_get {r : Ring} {i : Nat} (h : i + 1 < r.length) : sAt (segs r) i = (ptAt r i, ptAt r (i + 1)) := by
  unfold sAt; rw [List.getD_eq_getElem?_getD, segs_at (ptAt_get (by omega)) (ptAt_get h)]; rfl
theorem segs_mem_at {r : Ring} {s : Seg} (h : s ∈ segs r) : ∃ i, i + 1 < r.length ∧ s = (ptAt r i, ptAt r (i + 1)) := by
  obtain ⟨i, hi, e⟩ := List.getElem_of_mem h
  rw [segs_len] at hi
  have hi' : i + 1 < r.length := by omega
  refine ⟨i, hi', ?_⟩
  have := segs_at (ptAt_get (show i < r.length by omega)) (ptAt_get hi')
  rw [List.getElem?_eq_getElem (by rw [segs_len]; exact hi)] at this
  rw [← e]; exact Option.some.inj this

theorem twice_iff {r : Ring} : twice r = true ↔ ∃ i j, 1 ≤ i ∧ i < j ∧ j < r.length ∧ ptAt r i = ptAt r j := by
  unfold twice
  rw [anyI_iff]
  constructor
  · rintro ⟨i, hi, h⟩
    simp only [Bool.and_eq_true, decide_eq_true_eq, anyI_iff] at h
    obtain ⟨h1, j, hj, h2, h3⟩ := h
    rw [ptAt_get hi, ptAt_get hj] at h3
    exact ⟨i, j, h1, h2, hj, Option.some.inj h3⟩
  · rintro ⟨i, j, h1, h2, h3, h4⟩
    refine ⟨i, by omega, ?_⟩
    simp only [Bool.and_eq_true, decide_eq_true_eq, anyI_iff]
    exact ⟨h1, j, h3, h2, by rw [ptAt_get (show i < r.length by omega), ptAt_get h3, h4]⟩
theorem twiceD_iff {r : Ring} : twiceD r = true ↔ ∃ i j, j < i ∧ i < r.length - 1 ∧ ptAt r i = ptAt r j := by
  unfold twiceD
  rw [anyI_iff]
  constructor
  · rintro ⟨i, hi, h⟩
    simp only [anyI_iff, decide_eq_true_eq] at h
    obtain ⟨j, hj, e⟩ := h
    exact ⟨i, j, hj, hi, e⟩
  · rintro ⟨i, j, h1, h2, h3⟩
    refine ⟨i, h2, ?_⟩
    simp only [anyI_iff, decide_eq_true_eq]
    exact ⟨j, h1, h3⟩
theorem bool_iff {a b : Bool} (h : a = true ↔ b = true) : a = b := by cases a <;> cases b <;> simp_all
theorem twice_eq {r : Ring} (h : Shut r) : twice r = twiceD r := by
  apply bool_iff
  rw [twice_iff, twiceD_iff]
  have h4 := h.len
  constructor
  · rintro ⟨i, j, h1, h2, h3, e⟩
    by_cases hj : j = r.length - 1
    · exact ⟨i, 0, by omega, by omega, by rw [h.eq, e, hj]⟩
    · exact ⟨j, i, h2, by omega, e.symm⟩
  · rintro ⟨i, j, h1, h2, e⟩
    by_cases hj : j = 0
    · exact ⟨i, r.length - 1, by omega, by omega, by omega, by rw [e, hj, h.eq]⟩
    · exact ⟨j, i, by omega, h1, by omega, e.symm⟩
theorem long_of {r : Ring} (h : Shut r) (ht : twice r = false) : Long r := by
  intro s hs e
  obtain ⟨i, hi, rfl⟩ := segs_mem_at hs
  have h4 := h.len
  have : twice r = true := by
    rw [twice_iff]
    by_cases h0 : i = 0
    · subst h0
      exact ⟨1, r.length - 1, by omega, by omega, by omega, by rw [← h.eq]; exact e.symm⟩
    · exact ⟨i, i + 1, by omega, by omega, hi, e⟩
  rw [ht] at this; cases this

theorem shape1 {A B C : Prop} [Decidable A] [Decidable B] [Decidable C] {k : Int} {d : Bool} (h : (if A then (if B then ((0 : Int), false) else (k, false)) else if C then (0, false) else (1, d)).2 = true) :
    (if A then (if B then ((0 : Int), false) else (k, false)) else if C then (0, false) else (1, d)).1 = 1 := by
  by_cases hA : A <;> by_cases hB : B <;> by_cases hC : C <;> simp_all
theorem shape2 {A B C : Prop} [Decidable A] [Decidable B] [Decidable C] {k : Int} {d : Bool} (hk : k = 0 ∨ k = 1 ∨ k = 2) :
    (if A then (if B then ((0 : Int), false) else (k, false)) else if C then (0, false) else (1, d)).1 = 0 ∨ (if A then (if B then ((0 : Int), false) else (k, false)) else if C then (0, false) else (1, d)).1 = 1 ∨ (if A then (if B then ((0 : Int), false) else (k, false)) else if C then (0, false) else (1, d)).1 = 2 := by
  by_cases hA : A <;> by_cases hB : B <;> by_cases hC : C <;> simp_all
theorem common_cross {a b c d : Pnt} (h : (common a b c d).2 = true) : (common a b c d).1 = 1 := shape1 h
theorem count_range (k p q : Int) : count k p q = 0 ∨ count k p q = 1 ∨ count k p q = 2 := by
  unfold count
  split
  · simp
  · split <;> simp
theorem common_range (a b c d : Pnt) : (common a b c d).1 = 0 ∨ (common a b c d).1 = 1 ∨ (common a b c d).1 = 2 := shape2 (count_range _ _ _)
theorem meet_shared {a b c d : Pnt} (h : cr a b c 1 = 0 ∨ cr a b d 1 = 0) : meet a b c d ≠ 2 := by
  have hl : ∀ s t, onLine s t ≠ 2 := by
    intro s t
    unfold onLine
    simp only
    split
    · omega
    · split <;> omega
  unfold meet
  simp only
  split
  · exact hl _ _
  · split
    · omega
    · have : sg (cr a b c 1) * sg (cr a b d 1) * sg (cr c d a 1) * sg (cr c d b 1) = 0 := by
        rcases h with h | h
        · rw [h]; simp [sg]
        · rw [h]; simp [sg]
      rw [if_pos this]; omega
theorem cross_eq {s t : Seg} (hs : s.1 ≠ s.2) (ht : t.1 ≠ t.2) : crossS s t = crossD s t := by
  unfold crossS crossD meetS
  rw [meet_common hs ht]
  have hr := common_range s.1 s.2 t.1 t.2
  have hc := common_cross (a := s.1) (b := s.2) (c := t.1) (d := t.2)
  unfold how
  cases h2 : (common s.1 s.2 t.1 t.2).2 with
  | true => rw [hc h2]; simp
  | false =>
    rcases hr with e | e | e <;> rw [e] <;> simp
theorem bad_eq {a b c d : Pnt} (hab : a ≠ b) (hcd : c ≠ d) {next : Bool} (hn : next = true → cr a b c 1 = 0 ∨ cr a b d 1 = 0) :
    badK next (common a b c d).1 = decide (meet a b c d ≠ if next then 1 else 0) := by
  have hm := meet_common hab hcd
  have hr := common_range a b c d
  have hc := common_cross (a := a) (b := b) (c := c) (d := d)
  have hs := meet_shared (a := a) (b := b) (c := c) (d := d)
  unfold badK
  cases h2 : (common a b c d).2 with
  | true =>
    have e := hc h2
    have hm2 : meet a b c d = 2 := by rw [hm]; unfold how; rw [h2, e]; simp
    cases next with
    | true => exact absurd hm2 (hs (hn rfl))
    | false => rw [hm2, e]; simp
  | false =>
    rcases hr with e | e | e
    · have hm2 : meet a b c d = 0 := by rw [hm]; unfold how; rw [h2, e]; simp
      cases next <;> simp [hm2, e]
    · have hm2 : meet a b c d = 1 := by rw [hm]; unfold how; rw [h2, e]; simp
      cases next <;> simp [hm2, e]
    · have hm2 : meet a b c d = 3 := by rw [hm]; unfold how; rw [h2, e]; simp
      cases next <;> simp [hm2, e]
theorem self_eq {r : Ring} (h : Shut r) (hl : Long r) : selfR r = selfD r := by
  have h4 := h.len
  have key : ∀ i j, j < i → i < r.length - 1 → badK (nextD2 (r.length - 1) i j) (common (ptAt r i) (ptAt r (i + 1)) (ptAt r j) (ptAt r (j + 1))).1 = decide (meetS (sAt (segs r) j) (sAt (segs r) i) ≠ wantI (segs r).length j i) := by
    intro i j hji hi
    have e1 := sAt_get (r := r) (i := i) (by omega)
    have e2 := sAt_get (r := r) (i := j) (by omega)
    have l1 : ptAt r i ≠ ptAt r (i + 1) := hl (ptAt r i, ptAt r (i + 1)) (List.mem_of_getElem? (segs_at (ptAt_get (by omega)) (ptAt_get (by omega))))
    have l2 : ptAt r j ≠ ptAt r (j + 1) := hl (ptAt r j, ptAt r (j + 1)) (List.mem_of_getElem? (segs_at (ptAt_get (by omega)) (ptAt_get (by omega))))
    rw [e1, e2, meetS_symm]
    unfold meetS
    simp only
    rw [bad_eq l1 l2 ?_]
    · have ew : (if nextD2 (r.length - 1) i j = true then (1 : Int) else 0) = wantI (segs r).length j i := by
        unfold nextD2 wantI
        rw [segs_len]
        by_cases c : j + 1 = i ∨ (j = 0 ∧ i + 1 = r.length - 1)
        · rw [if_pos c, if_pos]; simpa using c
        · rw [if_neg c, if_neg]; simpa using c
      rw [ew]
    · intro hn
      unfold nextD2 at hn
      simp only [Bool.or_eq_true, Bool.and_eq_true, decide_eq_true_eq] at hn
      rcases hn with e | ⟨e, e'⟩
      · right; rw [e]; exact cr_a _ _
      · left; subst e; rw [h.eq, show r.length - 1 = i + 1 by omega]; exact cr_b _ _
  apply bool_iff
  unfold selfR selfD
  rw [anyI_iff, anyI_iff, segs_len]
  constructor
  · rintro ⟨j, hj, k⟩
    rw [anyI_iff] at k
    obtain ⟨i, hi, k⟩ := k
    refine ⟨j, hj, ?_⟩
    rw [anyI_iff]
    refine ⟨i, hi, ?_⟩
    rw [key j i hi hj, segs_len]
    exact k
  · rintro ⟨j, hj, k⟩
    rw [anyI_iff] at k
    obtain ⟨i, hi, k⟩ := k
    refine ⟨j, hj, ?_⟩
    rw [anyI_iff]
    refine ⟨i, hi, ?_⟩
    rw [key j i hi hj, segs_len] at k
    exact k
theorem clean_eq {r : Ring} (h : Shut r) : (twice r || selfR r) = (twiceD r || selfD r) := by
  rw [twice_eq h]
  cases ht : twiceD r with
  | true => rfl
  | false => rw [self_eq h (long_of h (by rw [twice_eq h]; exact ht))]
end Vd
end Go.Proofs.YtcclepohmhdpbaaGreatDoor

/- VALIDITY, PLAINLY: clause by clause, the program's and the document's. -/
namespace Go.Proofs.YtcclepohmhdpbaaGreatDoor
set_option linter.all false
namespace Vd
def d1 (m : Mult) : Bool := m.any fun l => l.any fun r => !(cleanD r)
def d2 (m : Mult) : Bool := m.any fun l => anyI l.length fun i => anyI l.length fun j => decide (j ≠ i) && !(pointsD (rAt l i) (rAt l j))
def nestD (j : Nat) : Int := if j = 0 then 1 else -1
def d3 (m : Mult) : Bool := m.any fun l => anyI l.length fun i => decide (1 ≤ i) && anyI l.length fun j => decide (j ≠ i) && !(allD (rAt l i) [rAt l j] (nestD j))
def d5 (m : Mult) : Bool := anyI m.length fun p => (pAt m p).any fun r => anyI m.length fun k => decide (k ≠ p) && ((pAt m k).any (fun s => !(pointsD r s)) || !(allD r (pAt m k) (-1)))
def docCore (l : Poly) : Prop := ∃ F : Inc, (∀ r q, F r q → r < l.length ∧ inRing (rAt l r) (at1 q) = 0 ∧ q ∈ l.flatten) ∧ Core F ∧ ∃ r q, F r q

/-- What Make lets pass. -/
structure Good (m : Mult) : Prop where
  ne : ∀ l ∈ m, l ≠ []
  shut : ∀ l ∈ m, ∀ r ∈ l, Shut r
theorem good_of {m : Mult} (h : Pl.wrong m = 0) : Good m := by
  have hb : m.any Pl.badL = false := by
    unfold Pl.wrong at h
    split at h
    · omega
    · split at h
      · omega
      · rename_i k; simpa using k
  have one : ∀ l ∈ m, Pl.badL l = false := by
    intro l hl
    cases hx : Pl.badL l with
    | false => rfl
    | true => rw [List.any_eq_true.2 ⟨l, hl, hx⟩] at hb; cases hb
  refine ⟨fun l hl e => ?_, fun l hl r hr => ?_⟩
  · have := one l hl
    unfold Pl.badL at this
    rw [e] at this
    simp at this
  · have := one l hl
    unfold Pl.badL at this
    simp only [Bool.or_eq_false_iff] at this
    have hr2 : Pl.badR r = false := by
      cases hx : Pl.badR r with
      | false => rfl
      | true =>
        have e : Pl.badRs l = true := List.any_eq_true.2 ⟨r, hr, hx⟩
        rw [e] at this; cases this.2
    unfold Pl.badR at hr2
    simp only [Bool.or_eq_false_iff, decide_eq_false_iff_not, Bool.not_eq_false', decide_eq_true_eq] at hr2
    have h4 : 4 ≤ r.length := by omega
    refine ⟨h4, ?_⟩
    have e := hr2.2
    rw [List.head?_eq_getElem?, List.getLast?_eq_getElem?, ptAt_get (by omega), ptAt_get (by omega)] at e
    exact Option.some.inj e
theorem rAt_mem {l : Poly} {i : Nat} (h : i < l.length) : rAt l i ∈ l := by
  unfold rAt; rw [List.getD_eq_getElem?_getD, List.getElem?_eq_getElem h]; simp
theorem pAt_mem {m : Mult} {i : Nat} (h : i < m.length) : pAt m i ∈ m := by
  unfold pAt; rw [List.getD_eq_getElem?_getD, List.getElem?_eq_getElem h]; simp
theorem any_congr {α : Type} {l : List α} {f g : α → Bool} (h : ∀ x ∈ l, f x = g x) : l.any f = l.any g := by
  induction l with
  | nil => rfl
  | cons a t ih => rw [List.any_cons, List.any_cons, h a (by simp), ih fun x hx => h x (by simp [hx])]
theorem anyI_congr {n : Nat} {f g : Nat → Bool} (h : ∀ i, i < n → f i = g i) : anyI n f = anyI n g := any_congr fun x hx => h x (List.mem_range.1 hx)

theorem c1_eq {m : Mult} (h : Good m) : badC 1 m = d1 m := by
  unfold badC d1
  refine any_congr fun l hl => ?_
  unfold holdsC simple
  simp only [if_true, Bool.not_not]
  refine any_congr fun r hr => ?_
  rw [clean_eq (h.shut l hl r hr)]
  unfold cleanD
  simp
/-- The first clause holds: no segment without length. -/
theorem long_all {m : Mult} (h : Good m) (h1 : badC 1 m = false) : ∀ l ∈ m, ∀ r ∈ l, Long r := by
  intro l hl r hr
  have : (twice r || selfR r) = false := by
    cases hx : (twice r || selfR r) with
    | false => rfl
    | true =>
      have : badC 1 m = true := by
        unfold badC
        refine List.any_eq_true.2 ⟨l, hl, ?_⟩
        unfold holdsC simple
        simp only [if_true, Bool.not_not]
        exact List.any_eq_true.2 ⟨r, hr, hx⟩
      rw [h1] at this; cases this
  rw [Bool.or_eq_false_iff] at this
  exact long_of (h.shut l hl r hr) this.1
theorem points_eq {a b : Ring} (ha : Long a) (hb : Long b) : pointsD a b = !(cross a b) := by
  unfold pointsD cross
  congr 1
  refine any_congr fun s hs => any_congr fun t ht => ?_
  rw [cross_eq (ha s hs) (hb t ht)]
theorem cross_symm (a b : Ring) : cross a b = cross b a := by
  apply bool_iff
  unfold cross
  simp only [List.any_eq_true]
  constructor
  · rintro ⟨s, hs, t, ht, h⟩; exact ⟨t, ht, s, hs, by rw [crossS_symm]; exact h⟩
  · rintro ⟨s, hs, t, ht, h⟩; exact ⟨t, ht, s, hs, by rw [crossS_symm]; exact h⟩
/-- Pairs, either way round. -/
theorem pairs_eq {n : Nat} {f : Nat → Nat → Bool} (hs : ∀ i j, f i j = f j i) : (anyI n fun j => anyI j fun i => f i j) = anyI n fun i => anyI n fun j => decide (j ≠ i) && f i j := by
  apply bool_iff
  simp only [anyI_iff, Bool.and_eq_true, decide_eq_true_eq]
  constructor
  · rintro ⟨j, hj, i, hi, h⟩; exact ⟨i, by omega, j, hj, by omega, h⟩
  · rintro ⟨i, hi, j, hj, hne, h⟩
    rcases Nat.lt_or_ge i j with k | k
    · exact ⟨j, hj, i, k, h⟩
    · exact ⟨i, hi, j, by omega, by rw [hs]; exact h⟩
theorem c2_eq {m : Mult} (hl : ∀ l ∈ m, ∀ r ∈ l, Long r) : badC 2 m = d2 m := by
  unfold badC d2
  refine any_congr fun l h => ?_
  unfold holdsC touch
  simp only [Bool.not_not, if_true]
  rw [if_neg (by decide), Bool.not_not, pairs_eq (f := fun i j => cross (rAt l i) (rAt l j)) (fun i j => cross_symm _ _)]
  refine anyI_congr fun i hi => anyI_congr fun j hj => ?_
  rw [points_eq (hl l h _ (rAt_mem hi)) (hl l h _ (rAt_mem hj)), Bool.not_not]
theorem mid_w {s : Seg} {q : Poly} {m : Spot} (hs : s.1 ≠ s.2) (h : m ∈ mids s q) : m.2 = 2 := by
  obtain ⟨y, z, -, rfl⟩ := (mem_mids hs q m).1 h
  rfl
theorem lies_eq {r o : Ring} (hr : Long r) (ho : Long o) {k k' : Int} (hk : (k = 1 ∧ k' = 2) ∨ (k = -1 ∧ k' = 0)) : lies r o k' = allD r [o] k := by
  unfold lies allD
  congr 1
  refine any_congr fun s hs => ?_
  apply bool_iff
  simp only [List.any_eq_true, decide_eq_true_eq]
  have hsl := hr s hs
  have one : ∀ m : Spot, m ∈ mids s [o] → (place o m ≠ k' ↔ inP [o] m ≠ k) := by
    intro m hm
    have hw := mid_w hsl hm
    obtain ⟨e1, e2⟩ := place_eq (p := m) ho (by omega)
    show place o m ≠ k' ↔ inRing o m ≠ k
    rw [e1]
    unfold pl
    rcases e2 with e | e | e <;> rw [e] <;> rcases hk with ⟨rfl, rfl⟩ | ⟨rfl, rfl⟩ <;> simp
  constructor
  · rintro ⟨m, hm, h⟩; exact ⟨m, (mids_midD hsl _ m).1 hm, (one m hm).1 h⟩
  · rintro ⟨m, hm, h⟩
    have hm' := (mids_midD hsl _ m).2 hm
    exact ⟨m, hm', (one m hm').2 h⟩
theorem c3_eq {m : Mult} (hl : ∀ l ∈ m, ∀ r ∈ l, Long r) : badC 3 m = d3 m := by
  unfold badC d3
  refine any_congr fun l h => ?_
  unfold holdsC nested
  rw [if_neg (by decide), if_neg (by decide), if_pos rfl, Bool.not_not]
  refine anyI_congr fun i hi => ?_
  congr 1
  refine anyI_congr fun j hj => ?_
  rw [lies_eq (hl l h _ (rAt_mem hi)) (hl l h _ (rAt_mem hj)) (k := nestD j) (k' := nestW j) (by unfold nestD nestW; split <;> simp)]
  congr 1
  exact decide_eq_decide.2 ⟨fun e => Ne.symm e, fun e => Ne.symm e⟩
theorem core_eq {l : Poly} (hl : ∀ r ∈ l, Long r) : way l = true ↔ docCore l := by
  rw [way_core]
  have e : ∀ r p, r < l.length → (incL l r p ↔ inRing (rAt l r) (at1 p) = 0) := by
    intro r p hr
    obtain ⟨e1, e2⟩ := place_eq (r := rAt l r) (p := at1 p) (hl _ (rAt_mem hr)) (by show (0 : Int) < 1; omega)
    unfold incL
    rw [e1]
    unfold pl
    rcases e2 with e | e | e <;> rw [e] <;> simp
  constructor
  · rintro ⟨F, h1, h2⟩; exact ⟨F, fun r q t => ⟨(h1 r q t).1, (e r q (h1 r q t).1).1 (h1 r q t).2.1, (h1 r q t).2.2⟩, h2⟩
  · rintro ⟨F, h1, h2⟩; exact ⟨F, fun r q t => ⟨(h1 r q t).1, (e r q (h1 r q t).1).2 (h1 r q t).2.1, (h1 r q t).2.2⟩, h2⟩
theorem enters_eq {a b : Poly} (hb0 : b ≠ []) (ha : ∀ r ∈ a, Long r) (hb : ∀ r ∈ b, Long r) (hx : boundsX a b = false) : enters a b = a.any fun r => !(allD r b (-1)) := by
  unfold enters
  refine any_congr fun r hr => ?_
  unfold allD
  rw [Bool.not_not]
  refine any_congr fun s hs => ?_
  have hsl := ha r hr s hs
  have off : ∀ m ∈ mids s b, ∀ o ∈ b, place o m ≠ 1 := by
    intro m hm o ho
    refine mid_off hsl ho (hb o ho) hm fun t ht => ?_
    cases hc : crossS (s.1, s.2) t with
    | false => rfl
    | true =>
      have : boundsX a b = true := by
        unfold boundsX
        refine List.any_eq_true.2 ⟨r, hr, List.any_eq_true.2 ⟨o, ho, ?_⟩⟩
        unfold cross
        exact List.any_eq_true.2 ⟨s, hs, List.any_eq_true.2 ⟨t, ht, hc⟩⟩
      rw [hx] at this; cases this
  have one : ∀ m ∈ mids s b, (free b m = false ↔ inP b m ≠ -1) := by
    intro m hm
    have hw := mid_w hsl hm
    have := free_in (l := b) (p := m) (by omega) hb0 fun r hr => ⟨hb r hr, off m hm r hr⟩
    constructor
    · intro e e2; rw [this.2 e2] at e; cases e
    · intro e
      cases hf : free b m with
      | false => rfl
      | true => exact absurd (this.1 hf) e
  apply bool_iff
  simp only [List.any_eq_true, Bool.not_eq_true', decide_eq_true_eq]
  constructor
  · rintro ⟨m, hm, h⟩; exact ⟨m, (mids_midD hsl _ m).1 hm, (one m hm).1 h⟩
  · rintro ⟨m, hm, h⟩
    have hm' := (mids_midD hsl _ m).2 hm
    exact ⟨m, hm', (one m hm').2 h⟩
/-- Two polygons, the one against the other. -/
def half (a b : Poly) : Bool := a.any fun r => b.any (fun s => !(pointsD r s)) || !(allD r b (-1))
theorem half_eq {a b : Poly} (ha0 : a ≠ []) (hb0 : b ≠ []) (ha : ∀ r ∈ a, Long r) (hb : ∀ r ∈ b, Long r) : (boundsX a b || enters a b || enters b a) = (half a b || half b a) := by
  have hs : boundsX a b = boundsX b a := by
    apply bool_iff
    unfold boundsX
    simp only [List.any_eq_true]
    constructor
    · rintro ⟨r, hr, o, ho, h⟩; exact ⟨o, ho, r, hr, by rw [cross_symm]; exact h⟩
    · rintro ⟨r, hr, o, ho, h⟩; exact ⟨o, ho, r, hr, by rw [cross_symm]; exact h⟩
  have pt : ∀ {a b : Poly}, (∀ r ∈ a, Long r) → (∀ r ∈ b, Long r) → half a b = (boundsX a b || a.any fun r => !(allD r b (-1))) := by
    intro a b ha hb
    apply bool_iff
    unfold half boundsX
    simp only [List.any_eq_true, Bool.or_eq_true]
    constructor
    · rintro ⟨r, hr, ⟨s, hs, h⟩ | h⟩
      · rw [points_eq (ha r hr) (hb s hs), Bool.not_not] at h
        exact .inl ⟨r, hr, s, hs, h⟩
      · exact .inr ⟨r, hr, h⟩
    · rintro (⟨r, hr, s, hs, h⟩ | ⟨r, hr, h⟩)
      · exact ⟨r, hr, .inl ⟨s, hs, by rw [points_eq (ha r hr) (hb s hs), Bool.not_not]; exact h⟩⟩
      · exact ⟨r, hr, .inr h⟩
  rw [pt ha hb, pt hb ha, ← hs]
  cases hx : boundsX a b with
  | true => rfl
  | false =>
    rw [enters_eq hb0 ha hb hx, enters_eq ha0 hb ha (hs ▸ hx)]
    simp
theorem c5_eq {m : Mult} (hg : Good m) (hl : ∀ l ∈ m, ∀ r ∈ l, Long r) : overlap m = d5 m := by
  have e1 : overlap m = anyI m.length fun j => anyI j fun i => (half (pAt m i) (pAt m j) || half (pAt m j) (pAt m i)) := by
    unfold overlap
    refine anyI_congr fun j hj => anyI_congr fun i hi => ?_
    exact half_eq (hg.ne _ (pAt_mem (by omega))) (hg.ne _ (pAt_mem hj)) (hl _ (pAt_mem (by omega))) (hl _ (pAt_mem hj))
  rw [e1]
  apply bool_iff
  unfold d5 half
  simp only [anyI_iff, List.any_eq_true, Bool.and_eq_true, decide_eq_true_eq, Bool.or_eq_true]
  constructor
  · rintro ⟨j, hj, i, hi, ⟨r, hr, h⟩ | ⟨r, hr, h⟩⟩
    · exact ⟨i, by omega, r, hr, j, hj, by omega, h⟩
    · exact ⟨j, hj, r, hr, i, by omega, by omega, h⟩
  · rintro ⟨p, hp, r, hr, k, hk, hne, h⟩
    rcases Nat.lt_or_ge p k with g | g
    · exact ⟨k, hk, p, g, .inl ⟨r, hr, h⟩⟩
    · exact ⟨p, hp, k, by omega, .inr ⟨r, hr, h⟩⟩
end Vd
end Go.Proofs.YtcclepohmhdpbaaGreatDoor
