import Derived.Test.YtcclepohmhdpbabGreatDoorVdE
/- THE PROGRAM, PLAINLY: how points, segments and rings lie; the clauses. -/
namespace Go.Proofs.YtcclepohmhdpbabGreatDoor
set_option linter.all false
namespace Vd
abbrev Seg := Pnt × Pnt
abbrev Spot := Pnt × Int
instance (a b c : Int) : Decidable (btw a b c) := by unfold btw; infer_instance
instance (a b p : Pnt) (w : Int) : Decidable (has a b p w) := by unfold has; infer_instance
def hasB (s : Seg) (p : Spot) : Bool := decide (has s.1 s.2 p.1 p.2)
def side (s : Seg) (p : Spot) : Int := sg (cr s.1 s.2 p.1 p.2)
def at1 (p : Pnt) : Spot := (p, 1)
def midOf (p q : Pnt) : Spot := ((p.1 + q.1, p.2 + q.2), 2)
def meetS (s t : Seg) : Int := meet s.1 s.2 t.1 t.2
def segs (r : Ring) : List Seg := r.zip r.tail
def placeL : List Seg → Bool → Spot → Int
  | [], i, _ => if i then 2 else 0
  | s :: t, i, p => if hasB s p then 1 else placeL t (if ray s.1 s.2 p.1 p.2 then !i else i) p
def place (r : Ring) (p : Spot) : Int := placeL (segs r) false p
def cutF (s : Seg) (f : Pnt) (to p : Pnt) : Pnt := if bef f p ∧ bef p to ∧ has s.1 s.2 p 1 then p else to
def nextCut (s : Seg) (f : Pnt) (rings : Poly) : Pnt := rings.flatten.foldl (cutF s f) s.2
def midsF : Nat → Seg → Pnt → Poly → List Spot
  | 0, _, _, _ => []
  | n + 1, s, f, rings => if f = s.2 then [] else midOf f (nextCut s f rings) :: midsF n s (nextCut s f rings) rings
def mids (s : Seg) (rings : Poly) : List Spot := midsF (rings.flatten.length + 1) (fwd s.1 s.2) (fwd s.1 s.2).1 rings

/-! ### the clauses -/
def anyI (n : Nat) (f : Nat → Bool) : Bool := (List.range n).any f
theorem anyI_zero (f : Nat → Bool) : anyI 0 f = false := rfl
theorem anyI_succ (n : Nat) (f : Nat → Bool) : anyI (n + 1) f = (anyI n f || f n) := by simp [anyI, List.range_succ]
theorem anyI_true {n : Nat} {f : Nat → Bool} {i : Nat} (h : i < n) (hf : f i = true) : anyI n f = true := by
  simp only [anyI, List.any_eq_true, List.mem_range]; exact ⟨i, h, hf⟩
theorem anyI_iff {n : Nat} {f : Nat → Bool} : anyI n f = true ↔ ∃ i, i < n ∧ f i = true := by
  simp only [anyI, List.any_eq_true, List.mem_range]
def twice (r : Ring) : Bool := anyI r.length fun i => decide (1 ≤ i) && anyI r.length fun j => decide (i < j) && decide (r[i]? = r[j]?)
def wantI (n i j : Nat) : Int := if i + 1 = j ∨ (i = 0 ∧ j + 1 = n) then 1 else 0
def sAt (l : List Seg) (i : Nat) : Seg := l.getD i ((0, 0), (0, 0))
def selfR (r : Ring) : Bool := anyI (segs r).length fun j => anyI j fun i => decide (meetS (sAt (segs r) i) (sAt (segs r) j) ≠ wantI (segs r).length i j)
def simple (l : Poly) : Bool := !(l.any fun r => twice r || selfR r)
def crossS (s t : Seg) : Bool := decide (meetS s t = 2) || decide (meetS s t = 3)
def cross (r o : Ring) : Bool := (segs r).any fun s => (segs o).any fun t => crossS s t
def rAt (l : Poly) (i : Nat) : Ring := l.getD i []
def touch (l : Poly) : Bool := !(anyI l.length fun j => anyI j fun i => cross (rAt l i) (rAt l j))
def lies (r o : Ring) (k : Int) : Bool := !((segs r).any fun s => (mids s [o]).any fun m => decide (place o m ≠ k))
def nestW (j : Nat) : Int := if j = 0 then 2 else 0
def nested (l : Poly) : Bool := !(anyI l.length fun i => decide (1 ≤ i) && anyI l.length fun j => decide (i ≠ j) && !(lies (rAt l i) (rAt l j) (nestW j)))
def ringsAt (l : Poly) (p : Pnt) : List Nat := (List.range l.length).filter fun i => decide (place (rAt l i) (at1 p) = 1)
def touchF (l : Poly) (a : List Pnt) (p : Pnt) : List Pnt := if ¬ (p ∈ a) ∧ 1 < (ringsAt l p).length then a ++ [p] else a
def touchPts (l : Poly) : List Pnt := l.flatten.foldl (touchF l) []
def turnG (old first : Nat) (g : Nat) : Nat := if g = old then first else g
def nAt (l : List Nat) (i : Nat) : Nat := l.getD i 0
def joinL : List Nat → Nat → List Nat → Option (List Nat)
  | g, _, [] => some g
  | g, a, j :: t => if nAt g j = nAt g a then none else joinL (g.map (turnG (nAt g j) (nAt g a))) a t
def join (g : List Nat) : List Nat → Option (List Nat)
  | [] => some g
  | a :: t => joinL g a t
def wayL (l : Poly) : List Pnt → List Nat → Bool
  | [], _ => false
  | p :: t, g => match join g (ringsAt l p) with
    | none => true
    | some g' => wayL l t g'
def way (l : Poly) : Bool := wayL l (touchPts l) (List.range l.length)
def holdsC (c : Nat) (l : Poly) : Bool := if c = 1 then simple l else if c = 2 then touch l else if c = 3 then nested l else !(way l)
def boundsX (a b : Poly) : Bool := a.any fun r => b.any fun o => cross r o
def freeL : List Ring → Bool → Bool → Spot → Bool
  | [], _, f, _ => f
  | r :: t, first, f, p => if place r p = 1 then false else freeL t false (f || (first && decide (place r p = 0)) || (!first && decide (place r p = 2))) p
def free (l : Poly) (p : Spot) : Bool := freeL l true false p
def enters (a b : Poly) : Bool := a.any fun r => (segs r).any fun s => (mids s b).any fun m => !(free b m)
def pAt (m : Mult) (i : Nat) : Poly := m.getD i []
def overlap (m : Mult) : Bool := anyI m.length fun j => anyI j fun i => boundsX (pAt m i) (pAt m j) || enters (pAt m i) (pAt m j) || enters (pAt m j) (pAt m i)
def badC (c : Nat) (m : Mult) : Bool := m.any fun l => !(holdsC c l)
def least (m : Mult) : Int := if badC 1 m then 1 else if badC 2 m then 2 else if badC 3 m then 3 else if badC 4 m then 4 else if overlap m then 5 else 0

/-! ### the parts come to an end -/
theorem bef_trans {p q r : Pnt} (h : bef p q) (k : bef q r) : bef p r := by unfold bef at *; omega
theorem fold_cut (s : Seg) (f : Pnt) : ∀ (l : List Pnt) (t : Pnt), l.foldl (cutF s f) t = t ∨ (l.foldl (cutF s f) t ∈ l ∧ bef f (l.foldl (cutF s f) t)) := by
  intro l
  induction l with
  | nil => intro t; exact .inl rfl
  | cons p l ih =>
    intro t
    rw [List.foldl_cons]
    by_cases h : bef f p ∧ bef p t ∧ has s.1 s.2 p 1
    · have e : cutF s f t p = p := if_pos h
      rw [e]
      rcases ih p with k | ⟨k1, k2⟩
      · rw [k]; exact .inr ⟨by simp, h.1⟩
      · exact .inr ⟨by simp [k1], k2⟩
    · have e : cutF s f t p = t := if_neg h
      rw [e]
      rcases ih t with k | ⟨k1, k2⟩
      · exact .inl k
      · exact .inr ⟨by simp [k1], k2⟩
/-- How many parts are to come, at most. -/
def ahead (s : Seg) (f : Pnt) (rings : Poly) : Nat := if f = s.2 then 0 else 1 + rings.flatten.countP fun p => decide (bef f p)
theorem ahead_le (s : Seg) (f : Pnt) (rings : Poly) : ahead s f rings ≤ rings.flatten.length + 1 := by
  unfold ahead
  split
  · omega
  · have := List.countP_le_length (p := fun p => decide (bef f p)) (l := rings.flatten); omega
theorem ahead_step {s : Seg} {f : Pnt} {rings : Poly} (h : f ≠ s.2) : ahead s (nextCut s f rings) rings < ahead s f rings := by
  unfold ahead
  rw [if_neg h]
  split
  · omega
  · rename_i g
    rcases fold_cut s f rings.flatten s.2 with k | ⟨k1, k2⟩
    · exact absurd k g
    · have : rings.flatten.countP (fun p => decide (bef (nextCut s f rings) p)) < rings.flatten.countP (fun p => decide (bef f p)) := by
        obtain ⟨l1, l2, e⟩ := List.append_of_mem k1
        have mono : ∀ l : List Pnt, l.countP (fun p => decide (bef (nextCut s f rings) p)) ≤ l.countP (fun p => decide (bef f p)) := by
          intro l
          apply List.countP_mono_left
          intro x _ hx
          exact decide_eq_true (bef_trans k2 (of_decide_eq_true hx))
        have m1 := mono l1
        have m2 := mono l2
        have e' : rings.flatten = l1 ++ nextCut s f rings :: l2 := e
        generalize hx : nextCut s f rings = x at *
        have k2' : bef f x := by rw [← hx]; exact k2
        rw [e', List.countP_append, List.countP_append, List.countP_cons, List.countP_cons]
        have d1 : decide (bef x x) = false := decide_eq_false fun q => bef_irr q q
        have d2 : decide (bef f x) = true := decide_eq_true k2'
        simp only [d1, d2, if_true]
        simp
        omega
      omega
theorem midsF_end {s : Seg} {f : Pnt} {rings : Poly} (h : f = s.2) (n : Nat) : midsF n s f rings = [] := by
  cases n with
  | zero => rfl
  | succ n => unfold midsF; rw [if_pos h]
theorem midsF_step {s : Seg} {f : Pnt} {rings : Poly} (h : f ≠ s.2) {n : Nat} (hn : ahead s f rings ≤ n) :
    ∃ n', midsF n s f rings = midOf f (nextCut s f rings) :: midsF n' s (nextCut s f rings) rings ∧ ahead s (nextCut s f rings) rings ≤ n' := by
  have := ahead_step (rings := rings) h
  cases n with
  | zero => omega
  | succ n => exact ⟨n, by rw [midsF, if_neg h], by omega⟩
theorem midsF_len : ∀ (n : Nat) (s : Seg) (f : Pnt) (rings : Poly), (midsF n s f rings).length ≤ n := by
  intro n
  induction n with
  | zero => intro s f rings; exact Nat.le_refl _
  | succ n ih =>
    intro s f rings
    unfold midsF
    split
    · simp
    · have := ih s (nextCut s f rings) rings
      simp; omega
theorem mids_len (s : Seg) (rings : Poly) : (mids s rings).length ≤ rings.flatten.length + 1 := midsF_len _ _ _ _
theorem segs_len (r : Ring) : (segs r).length = r.length - 1 := by simp [segs]
theorem segs_at {r : Ring} {i : Nat} {p q : Pnt} (hp : r[i]? = some p) (hq : r[i + 1]? = some q) : (segs r)[i]? = some (p, q) := by
  have hq' : r.tail[i]? = some q := by simpa using hq
  simp [segs, List.getElem?_zip_eq_some, hp, hq']
theorem segs_mem {r : Ring} {s : Seg} (h : s ∈ segs r) : s.1 ∈ r ∧ s.2 ∈ r := by
  have := List.of_mem_zip (a := s.1) (b := s.2) (show (s.1, s.2) ∈ r.zip r.tail from h)
  exact ⟨this.1, List.mem_of_mem_tail this.2⟩
theorem nextCut_mem (s : Seg) (f : Pnt) (rings : Poly) : nextCut s f rings = s.2 ∨ nextCut s f rings ∈ rings.flatten := by
  rcases fold_cut s f rings.flatten s.2 with k | ⟨k1, _⟩
  · exact .inl k
  · exact .inr k1

/-! ### sizes -/
def Cd (p : Pnt) : Prop := -32768 ≤ p.1 ∧ p.1 ≤ 32768 ∧ -32768 ≤ p.2 ∧ p.2 ≤ 32768
def CdS (s : Seg) : Prop := Cd s.1 ∧ Cd s.2
def CdR (r : Ring) : Prop := ∀ p ∈ r, Cd p
def CdL (l : Poly) : Prop := ∀ r ∈ l, CdR r
def Sp (p : Spot) : Prop := -1048576 ≤ p.1.1 ∧ p.1.1 ≤ 1048576 ∧ -1048576 ≤ p.1.2 ∧ p.1.2 ≤ 1048576 ∧ 1 ≤ p.2 ∧ p.2 ≤ 1048576
theorem at1_sp {p : Pnt} (h : Cd p) : Sp (at1 p) := by unfold Cd at h; unfold Sp at1; simp only; omega
theorem mid_sp {p q : Pnt} (h : Cd p) (k : Cd q) : Sp (midOf p q) := by unfold Cd at h k; unfold Sp midOf; simp only; omega
theorem segs_cd {r : Ring} (h : CdR r) {s : Seg} (hs : s ∈ segs r) : CdS s := ⟨h _ (segs_mem hs).1, h _ (segs_mem hs).2⟩
theorem fwd_cd {s : Seg} (h : CdS s) : CdS (fwd s.1 s.2) := by
  unfold fwd; split
  · exact ⟨h.2, h.1⟩
  · exact h
theorem nextCut_cd {s : Seg} {f : Pnt} {rings : Poly} (hs : CdS s) (hr : CdL rings) : Cd (nextCut s f rings) := by
  rcases nextCut_mem s f rings with k | k
  · rw [k]; exact hs.2
  · obtain ⟨r, h1, h2⟩ := List.mem_flatten.1 k
    exact hr r h1 _ h2
theorem midsF_sp {s : Seg} {rings : Poly} (hs : CdS s) (hr : CdL rings) : ∀ (n : Nat) (f : Pnt), Cd f → ∀ m ∈ midsF n s f rings, Sp m := by
  intro n
  induction n with
  | zero => intro f _ m hm; cases hm
  | succ n ih =>
    intro f hf m hm
    unfold midsF at hm
    split at hm
    · cases hm
    · rcases List.mem_cons.1 hm with rfl | hm
      · exact mid_sp hf (nextCut_cd hs hr)
      · exact ih _ (nextCut_cd hs hr) m hm
theorem mids_sp {s : Seg} {rings : Poly} (hs : CdS s) (hr : CdL rings) : ∀ m ∈ mids s rings, Sp m := midsF_sp (fwd_cd hs) hr _ _ (fwd_cd hs).1
/-- Of a set that is none that is refused, all coordinates are small. -/
theorem cd_of {m : Mult} (h : Pl.wrong m = 0) : ∀ l ∈ m, CdL l := by
  have h4 : m.any Pl.wideL = false := by
    unfold Pl.wrong at h
    split at h
    · omega
    · split at h
      · omega
      · split at h
        · omega
        · rename_i k; simpa using k
  intro l hl r hr p hp
  have h1 : Pl.wideP p = false := by
    cases hw : Pl.wideP p with
    | false => rfl
    | true =>
      have : m.any Pl.wideL = true := List.any_eq_true.2 ⟨l, hl, List.any_eq_true.2 ⟨r, hr, List.any_eq_true.2 ⟨p, hp, hw⟩⟩⟩
      rw [h4] at this; cases this
  unfold Pl.wideP Pl.farC at h1
  simp at h1
  unfold Cd; omega
end Vd
end Go.Proofs.YtcclepohmhdpbabGreatDoor

/- THE PROGRAM, PLAINLY: the one way to write a set. -/
namespace Go.Proofs.YtcclepohmhdpbabGreatDoor
set_option linter.all false
namespace Vd
def ptAt (r : Ring) (i : Nat) : Pnt := r.getD i (0, 0)
def nextI (r : Ring) (i : Nat) : Pnt := if i + 1 < r.length then ptAt r (i + 1) else ptAt r 1
def turns (r : Ring) (i : Nat) : Bool := decide (1 ≤ i) && decide (side (ptAt r (i - 1), ptAt r i) (at1 (nextI r i)) ≠ 0)
def cornersI (r : Ring) (n : Nat) : Ring := ((List.range n).filter (turns r)).map (ptAt r)
def corners (r : Ring) : Ring := cornersI r r.length
def leastS (v : Ring) (f i : Nat) : Nat := if bef (ptAt v i) (ptAt v f) then i else f
def leastN (v : Ring) (n : Nat) : Nat := (List.range n).foldl (leastS v) 0
def leastI (v : Ring) : Nat := leastN v v.length
def lefts (v : Ring) (k : Nat) : Bool := decide (0 < side (ptAt v ((k + v.length - 1) % v.length), ptAt v k) (at1 (ptAt v ((k + 1) % v.length))))
def stepI (v : Ring) (l : Bool) : Nat := if lefts v (leastI v) = l then 1 else v.length - 1
def ringForm (r : Ring) (l : Bool) : Ring :=
  if (corners r).length = 0 then [] else (List.range ((corners r).length + 1)).map fun i => ptAt (corners r) ((leastI (corners r) + i * stepI (corners r) l) % (corners r).length)
def cmpR : Ring → Ring → Int
  | [], [] => 0
  | [], _ :: _ => -1
  | _ :: _, [] => 1
  | p :: t, q :: u => if bef q p then 1 else if bef p q then -1 else cmpR t u
def cmpP : Poly → Poly → Int
  | [], [] => 0
  | [], _ :: _ => -1
  | _ :: _, [] => 1
  | p :: t, q :: u => if cmpR p q ≠ 0 then cmpR p q else cmpP t u
def isA (m : Mult) (a i : Nat) : Bool := decide (cmpP (pAt m i) (pAt m a) < 0) || (decide (cmpP (pAt m i) (pAt m a) = 0) && decide (i < a))
def cntA (m : Mult) (a n : Nat) : Nat := (List.range n).countP (isA m a)
def orderS (m : Mult) (o : Mult) (i : Nat) : Mult := o.set (cntA m i m.length) (pAt m i)
def orderN (m : Mult) (n : Nat) : Mult := (List.range n).foldl (orderS m) (List.replicate m.length [])
def inOrder (m : Mult) : Mult := orderN m m.length
def holesF (l : Poly) : Mult := l.map fun r => [ringForm r false]
def polyForm : Poly → Poly
  | [] => []
  | r :: l => ringForm r true :: (inOrder (holesF l)).flatten
def form (m : Mult) : Mult := inOrder (m.map polyForm)
end Vd
end Go.Proofs.YtcclepohmhdpbabGreatDoor

/- THE PROGRAM, PLAINLY: a point that parts two sets. -/
namespace Go.Proofs.YtcclepohmhdpbabGreatDoor
set_option linter.all false
namespace Vd
def inPolyL : List Ring → Bool → Spot → Bool
  | [], _, _ => true
  | r :: t, first, p => if (first && decide (place r p = 0)) || (!first && decide (place r p = 2)) then false else inPolyL t false p
def inPoly (l : Poly) (p : Spot) : Bool := inPolyL l true p && decide (0 < l.length)
def inSet (m : Mult) (p : Spot) : Bool := m.any fun l => inPoly l p
def along (s : Seg) : Pnt := (s.2.1 - s.1.1, s.2.2 - s.1.2)
def turnW (w o : Pnt) : Int := w.1 * o.2 - w.2 * o.1
def amt (n : Int) : Int := if n < 0 then -n else n
def gapW (p : Spot) (s : Seg) : Pnt := (s.1.1 * p.2 - p.1.1, s.1.2 * p.2 - p.1.2)
def partsTo (p : Spot) (w : Pnt) (s : Seg) : Int :=
  if amt (turnW (gapW p s) (along s)) = 0 then 1 else (amt (p.2 * turnW w (along s))).tdiv (amt (turnW (gapW p s) (along s))) + 1
def partF (p : Spot) (w : Pnt) (n : Int) (s : Seg) : Int := if n < partsTo p w s then partsTo p w s else n
def nearS (p : Spot) (w : Pnt) (n : Int) : Spot := ((p.1.1 * n + p.2 * w.1, p.1.2 * n + p.2 * w.2), p.2 * n)
def near (both : List Seg) (p : Spot) (w : Pnt) : Spot := nearS p w (both.foldl (partF p w) 1)
def atBoth (both : List Seg) (s t : Seg) (m : Spot) : Option Spot :=
  if turnW (along s) (along t) < 0 then some (near both m (along t))
  else if 0 < turnW (along s) (along t) then some (near both m (-(along t).1, -(along t).2)) else none
def lookL (other : Mult) (both : List Seg) (s : Seg) (m : Spot) : List Seg → Option Spot
  | [] => if inSet other m then some (near both m ((along s).2, -(along s).1)) else some m
  | t :: l => if hasB t m then atBoth both s t m else lookL other both s m l
def edges (l : Poly) : List Seg := l.flatMap segs
def atBounds (a b : Mult) : Option Spot :=
  (edges a.flatten).findSome? fun s => (mids s (a.flatten ++ b.flatten)).findSome? fun m => lookL b (edges (a.flatten ++ b.flatten)) s m (edges b.flatten)
def spot (a b : Mult) : Option Spot := match atBounds a b with
  | some p => some p
  | none => atBounds b a
end Vd
end Go.Proofs.YtcclepohmhdpbabGreatDoor

/- VALIDITY, PLAINLY: a way round, just if something is left (G5): the program's side. -/
namespace Go.Proofs.YtcclepohmhdpbabGreatDoor
set_option linter.all false
namespace Vd

theorem nAt_map {g : List Nat} {f : Nat → Nat} {i : Nat} (h : i < g.length) : nAt (g.map f) i = f (nAt g i) := by
  unfold nAt; simp [List.getD_eq_getElem?_getD, List.getElem?_eq_getElem h]

/-- labels that were turned: which were the same. -/
theorem turn_eq {o f x y : Nat} (h : turnG o f x = turnG o f y) : x = y ∨ ((x = o ∨ x = f) ∧ (y = o ∨ y = f)) := by
  unfold turnG at h; split at h <;> split at h <;> omega

theorem joinL_ok : ∀ (js : List Nat) (g : List Nat) (a : Nat) (g' : List Nat), a < g.length → (∀ j ∈ js, j < g.length) → joinL g a js = some g' →
    g'.length = g.length ∧ (∀ x y, x < g.length → y < g.length → nAt g x = nAt g y → nAt g' x = nAt g' y) ∧ (∀ j ∈ js, nAt g' j = nAt g' a) ∧ (∀ j ∈ js, nAt g j ≠ nAt g a) ∧ js.Pairwise (fun i j => nAt g i ≠ nAt g j) := by
  intro js
  induction js with
  | nil =>
    intro g a g' _ _ h
    simp only [joinL, Option.some.injEq] at h
    subst h
    exact ⟨rfl, fun _ _ _ _ e => e, by simp, by simp, List.Pairwise.nil⟩
  | cons j t ih =>
    intro g a g' ha hj h
    unfold joinL at h
    split at h
    · cases h
    · rename_i hne
      have hjl := hj j (by simp)
      have key := ih _ a g' (by simpa using ha) (by intro x hx; simpa using hj x (by simp [hx])) h
      obtain ⟨k1, k2, k3, k4, k5⟩ := key
      simp only [List.length_map] at k1 k2
      have m : ∀ x, x < g.length → nAt (g.map (turnG (nAt g j) (nAt g a))) x = turnG (nAt g j) (nAt g a) (nAt g x) := fun x hx => nAt_map hx
      have ma : turnG (nAt g j) (nAt g a) (nAt g a) = nAt g a := by unfold turnG; rw [if_neg (Ne.symm hne)]
      have mj : turnG (nAt g j) (nAt g a) (nAt g j) = nAt g a := by unfold turnG; rw [if_pos rfl]
      have kt : ∀ i ∈ t, nAt g i ≠ nAt g a ∧ nAt g i ≠ nAt g j := by
        intro i hi
        have hil := hj i (by simp [hi])
        have := k4 i hi
        rw [m i hil, m a ha, ma] at this
        constructor
        · intro e; rw [e, ma] at this; exact this rfl
        · intro e; rw [e, mj] at this; exact this rfl
      refine ⟨k1, ?_, ?_, ?_, ?_⟩
      · intro x y hx hy e
        refine k2 x y hx hy ?_
        rw [m x hx, m y hy, e]
      · intro i hi
        rcases List.mem_cons.1 hi with rfl | hi
        · refine k2 _ _ hjl ha ?_
          rw [m _ hjl, m a ha, mj, ma]
        · exact k3 i hi
      · intro i hi
        rcases List.mem_cons.1 hi with rfl | hi
        · exact hne
        · exact (kt i hi).1
      · refine List.Pairwise.cons (fun i hi => Ne.symm (kt i hi).2) ?_
        refine List.Pairwise.imp_of_mem ?_ k5
        intro x y hx hy e e2
        rw [m x (hj x (by simp [hx])), m y (hj y (by simp [hy])), e2] at e
        exact e rfl

theorem joinL_back : ∀ (js : List Nat) (g : List Nat) (a : Nat) (g' : List Nat), a < g.length → (∀ j ∈ js, j < g.length) → joinL g a js = some g' →
    ∀ x y, x < g.length → y < g.length → nAt g' x = nAt g' y → nAt g x = nAt g y ∨ ∃ u ∈ a :: js, ∃ v ∈ a :: js, nAt g u = nAt g x ∧ nAt g v = nAt g y := by
  intro js
  induction js with
  | nil =>
    intro g a g' _ _ h x y _ _ e
    simp only [joinL, Option.some.injEq] at h
    subst h
    exact .inl e
  | cons j t ih =>
    intro g a g' ha hj h x y hx hy e
    unfold joinL at h
    split at h
    · cases h
    · rename_i hne
      have hjl := hj j (by simp)
      have m : ∀ x, x < g.length → nAt (g.map (turnG (nAt g j) (nAt g a))) x = turnG (nAt g j) (nAt g a) (nAt g x) := fun x hx => nAt_map hx
      have key := ih _ a g' (by simpa using ha) (by intro x hx; simpa using hj x (by simp [hx])) h x y (by simpa using hx) (by simpa using hy) e
      have up : ∀ u ∈ a :: t, ∀ z, z < g.length → nAt (g.map (turnG (nAt g j) (nAt g a))) u = nAt (g.map (turnG (nAt g j) (nAt g a))) z → ∃ u' ∈ a :: j :: t, nAt g u' = nAt g z := by
        intro u hu z hz e
        have hul : u < g.length := by
          rcases List.mem_cons.1 hu with rfl | hu
          · exact ha
          · exact hj u (by simp [hu])
        rw [m u hul, m z hz] at e
        rcases turn_eq e with e | ⟨_, e | e⟩
        · refine ⟨u, ?_, e⟩
          rcases List.mem_cons.1 hu with rfl | hu
          · simp
          · simp [hu]
        · exact ⟨j, by simp, e.symm⟩
        · exact ⟨a, by simp, e.symm⟩
      rcases key with k | ⟨u, hu, v, hv, k1, k2⟩
      · rw [m x hx, m y hy] at k
        rcases turn_eq k with k | ⟨k1, k2⟩
        · exact .inl k
        · right
          have one : ∀ z, (nAt g z = nAt g j ∨ nAt g z = nAt g a) → ∃ u ∈ a :: j :: t, nAt g u = nAt g z := by
            rintro z (e | e)
            · exact ⟨j, by simp, e.symm⟩
            · exact ⟨a, by simp, e.symm⟩
          obtain ⟨u, hu, e1⟩ := one x k1
          obtain ⟨v, hv, e2⟩ := one y k2
          exact ⟨u, hu, v, hv, e1, e2⟩
      · right
        obtain ⟨u', hu', e1⟩ := up u hu x hx k1
        obtain ⟨v', hv', e2⟩ := up v hv y hy k2
        exact ⟨u', hu', v', hv', e1, e2⟩

theorem joinL_none : ∀ (js : List Nat) (g : List Nat) (a : Nat), a < g.length → (∀ j ∈ js, j < g.length) → (a :: js).Nodup → joinL g a js = none →
    ∃ u ∈ a :: js, ∃ v ∈ a :: js, u ≠ v ∧ nAt g u = nAt g v := by
  intro js
  induction js with
  | nil => intro g a _ _ _ h; cases h
  | cons j t ih =>
    intro g a ha hj hnd h
    have hjl := hj j (by simp)
    have haj : a ≠ j := fun e => (List.nodup_cons.1 hnd).1 (by simp [e])
    have hjt : j ∉ t := (List.nodup_cons.1 (List.nodup_cons.1 hnd).2).1
    unfold joinL at h
    split at h
    · rename_i e
      exact ⟨j, by simp, a, by simp, Ne.symm haj, e⟩
    · rename_i hne
      have m : ∀ x, x < g.length → nAt (g.map (turnG (nAt g j) (nAt g a))) x = turnG (nAt g j) (nAt g a) (nAt g x) := fun x hx => nAt_map hx
      have hnd' : (a :: t).Nodup := by
        rw [List.nodup_cons] at hnd ⊢
        exact ⟨fun e => hnd.1 (by simp [e]), (List.nodup_cons.1 hnd.2).2⟩
      obtain ⟨u, hu, v, hv, huv, e⟩ := ih _ a (by simpa using ha) (by intro x hx; simpa using hj x (by simp [hx])) hnd' h
      have lt : ∀ x ∈ a :: t, x < g.length := by
        intro x hx
        rcases List.mem_cons.1 hx with rfl | hx
        · exact ha
        · exact hj x (by simp [hx])
      have inn : ∀ x ∈ a :: t, x ∈ a :: j :: t := by
        intro x hx
        rcases List.mem_cons.1 hx with rfl | hx
        · simp
        · simp [hx]
      have far : ∀ x ∈ a :: t, nAt g x = nAt g j → ∃ u ∈ a :: j :: t, ∃ v ∈ a :: j :: t, u ≠ v ∧ nAt g u = nAt g v := by
        intro x hx e
        refine ⟨x, inn x hx, j, by simp, ?_, e⟩
        rintro rfl
        rcases List.mem_cons.1 hx with e | e
        · exact haj e.symm
        · exact hjt e
      rw [m u (lt u hu), m v (lt v hv)] at e
      rcases turn_eq e with e | ⟨e1 | e1, e2 | e2⟩
      · exact ⟨u, inn u hu, v, inn v hv, huv, e⟩
      · exact far u hu e1
      · exact far u hu e1
      · exact far v hv e2
      · exact ⟨u, inn u hu, v, inn v hv, huv, by rw [e1, e2]⟩

/-! ### Cores -/
abbrev Inc := Nat → Pnt → Prop
/-- Each point of F has another ring, and each ring but x and y another point. -/
structure Near (F : Inc) (x y : Nat) : Prop where
  pt : ∀ r p, F r p → ∃ r', r' ≠ r ∧ F r' p
  ring : ∀ r p, F r p → r ≠ x → r ≠ y → ∃ p', p' ≠ p ∧ F r p'
structure Core (F : Inc) : Prop where
  pt : ∀ r p, F r p → ∃ r', r' ≠ r ∧ F r' p
  ring : ∀ r p, F r p → ∃ p', p' ≠ p ∧ F r p'

structure At (n : Nat) (E : Inc) (at_ : Pnt → List Nat) : Prop where
  mem : ∀ r p, r ∈ at_ p ↔ r < n ∧ E r p
  nd : ∀ p, (at_ p).Nodup

theorem pw_all {f : Nat → Nat} {l : List Nat} (h : l.Pairwise (fun i j => f i ≠ f j)) : ∀ x y, x ∈ l → y ∈ l → x ≠ y → f x ≠ f y := by
  induction h with
  | nil => intro x y hx; cases hx
  | cons h1 _ ih =>
    intro x y hx hy hxy
    rcases List.mem_cons.1 hx with e1 | e1 <;> rcases List.mem_cons.1 hy with e2 | e2
    · exact absurd (e1.trans e2.symm) hxy
    · rw [e1]; exact h1 y e2
    · rw [e2]; exact Ne.symm (h1 x e1)
    · exact ih x y e1 e2 hxy

theorem join_cases {n : Nat} {E : Inc} {at_ : Pnt → List Nat} (hA : At n E at_) (p : Pnt) (g : List Nat) (hg : g.length = n) :
    (∀ g', join g (at_ p) = some g' → g'.length = n ∧ (∀ x y, x < n → y < n → nAt g x = nAt g y → nAt g' x = nAt g' y) ∧ (∀ a b, a ∈ at_ p → b ∈ at_ p → nAt g' a = nAt g' b) ∧
      (∀ a b, a ∈ at_ p → b ∈ at_ p → a ≠ b → nAt g a ≠ nAt g b) ∧ (∀ x y, x < n → y < n → nAt g' x = nAt g' y → nAt g x = nAt g y ∨ ∃ u ∈ at_ p, ∃ v ∈ at_ p, nAt g u = nAt g x ∧ nAt g v = nAt g y)) ∧
    (join g (at_ p) = none → ∃ u ∈ at_ p, ∃ v ∈ at_ p, u ≠ v ∧ nAt g u = nAt g v) := by
  have hnd := hA.nd p
  have hlt : ∀ j ∈ at_ p, j < g.length := fun j hj => by rw [hg]; exact ((hA.mem j p).1 hj).1
  cases hp : at_ p with
  | nil =>
    refine ⟨fun g' h => ?_, fun h => by cases h⟩
    simp only [join, Option.some.injEq] at h
    subst h
    exact ⟨hg, fun _ _ _ _ e => e, by simp, by simp, fun _ _ _ _ e => .inl e⟩
  | cons a t =>
    rw [hp] at hnd hlt
    have ha := hlt a (by simp)
    have ht : ∀ j ∈ t, j < g.length := fun j hj => hlt j (by simp [hj])
    refine ⟨fun g' h => ?_, fun h => joinL_none t g a ha ht hnd h⟩
    obtain ⟨k1, k2, k3, k4, k5⟩ := joinL_ok t g a g' ha ht h
    have k6 := joinL_back t g a g' ha ht h
    rw [hg] at k1 k2 k6
    refine ⟨k1, k2, ?_, ?_, k6⟩
    · have one : ∀ x ∈ a :: t, nAt g' x = nAt g' a := by
        intro x hx
        rcases List.mem_cons.1 hx with rfl | hx
        · rfl
        · exact k3 x hx
      intro x y hx hy
      rw [one x hx, one y hy]
    · intro x y hx hy hxy
      rcases List.mem_cons.1 hx with h1 | h1 <;> rcases List.mem_cons.1 hy with h2 | h2
      · exact absurd (h1.trans h2.symm) hxy
      · rw [h1]; exact Ne.symm (k4 y h2)
      · rw [h2]; exact k4 x h1
      · exact pw_all k5 x y h1 h2 hxy

/-- What is known once the points of Q are joined. -/
structure Jd (n : Nat) (E : Inc) (Q : Pnt → Prop) (g : List Nat) : Prop where
  len : g.length = n
  one : ∀ p, Q p → ∀ a b, a < n → b < n → E a p → E b p → nAt g a = nAt g b
  no : ∀ F : Inc, (∀ r p, F r p → r < n ∧ E r p ∧ Q p) → ∀ x, Near F x x → ∀ r p, ¬ F r p
  good : ∀ a b, a < n → b < n → a ≠ b → nAt g a = nAt g b → ∃ F : Inc, (∀ r p, F r p → r < n ∧ E r p ∧ Q p) ∧ Near F a b ∧ (∃ p, F a p) ∧ (∃ p, F b p)

theorem Jd.step {n : Nat} {E : Inc} {at_ : Pnt → List Nat} (hA : At n E at_) {Q : Pnt → Prop} {g g' : List Nat} (h : Jd n E Q g) {p : Pnt} (hp : ¬ Q p) (hj : join g (at_ p) = some g') :
    Jd n E (fun q => Q q ∨ q = p) g' := by
  obtain ⟨k1, k2, k3, k4, k5⟩ := (join_cases hA p g h.len).1 g' hj
  refine ⟨k1, ?_, ?_, ?_⟩
  · rintro q (hq | rfl) a b ha hb ea eb
    · exact k2 a b ha hb (h.one q hq a b ha hb ea eb)
    · exact k3 a b ((hA.mem a q).2 ⟨ha, ea⟩) ((hA.mem b q).2 ⟨hb, eb⟩)
  · intro F hF x hN r0 p0 h0
    by_cases hu : ∃ r, F r p
    · obtain ⟨a, ha⟩ := hu
      obtain ⟨b, hba, hb⟩ := hN.pt a p ha
      have ea := hF a p ha
      have eb := hF b p hb
      have hne := k4 a b ((hA.mem a p).2 ⟨ea.1, ea.2.1⟩) ((hA.mem b p).2 ⟨eb.1, eb.2.1⟩) (Ne.symm hba)
      have key : ∀ c, F c p → nAt g c ≠ nAt g x → False := by
        intro c hc hcx
        have ec := hF c p hc
        have hcx' : c ≠ x := fun e => hcx (by rw [e])
        obtain ⟨q, hq, hcq⟩ := hN.ring c p hc hcx' hcx'
        refine h.no (fun r q => F r q ∧ q ≠ p ∧ nAt g r = nAt g c) ?_ c ⟨?_, ?_⟩ c q ⟨hcq, hq, rfl⟩
        · rintro r q ⟨h1, h2, -⟩
          obtain ⟨g1, g2, g3⟩ := hF r q h1
          rcases g3 with g3 | g3
          · exact ⟨g1, g2, g3⟩
          · exact absurd g3 h2
        · rintro r q ⟨h1, h2, h3⟩
          obtain ⟨r', e, h4⟩ := hN.pt r q h1
          have a1 := hF r q h1
          have a2 := hF r' q h4
          have hQ : Q q := by rcases a1.2.2 with t | t; exact t; exact absurd t h2
          exact ⟨r', e, h4, h2, by rw [← h3]; exact h.one q hQ r' r a2.1 a1.1 a2.2.1 a1.2.1⟩
        · rintro r q ⟨h1, h2, h3⟩ hr _
          have hrx : r ≠ x := fun e => hcx (by rw [← e, h3])
          obtain ⟨q', e, h4⟩ := hN.ring r q h1 hrx hrx
          refine ⟨q', e, h4, ?_, h3⟩
          rintro rfl
          have a1 := hF r q' h4
          exact k4 r c ((hA.mem r q').2 ⟨a1.1, a1.2.1⟩) ((hA.mem c q').2 ⟨ec.1, ec.2.1⟩) hr h3
      by_cases hax : nAt g a = nAt g x
      · exact key b hb (fun e => hne (by rw [hax, e]))
      · exact key a ha hax
    · refine h.no F ?_ x hN r0 p0 h0
      intro r q hq
      obtain ⟨g1, g2, g3⟩ := hF r q hq
      rcases g3 with g3 | rfl
      · exact ⟨g1, g2, g3⟩
      · exact absurd ⟨r, hq⟩ hu
  · intro a b ha hb hab e
    have wide : ∀ F : Inc, (∀ r p, F r p → r < n ∧ E r p ∧ Q p) → ∀ r q, F r q → r < n ∧ E r q ∧ (Q q ∨ q = p) := fun F hF r q hq => ⟨(hF r q hq).1, (hF r q hq).2.1, .inl (hF r q hq).2.2⟩
    by_cases e0 : nAt g a = nAt g b
    · obtain ⟨F, h1, h2, h3, h4⟩ := h.good a b ha hb hab e0
      exact ⟨F, wide F h1, h2, h3, h4⟩
    · rcases k5 a b ha hb e with e1 | ⟨u, hu, v, hv, e1, e2⟩
      · exact absurd e1 e0
      have eu := (hA.mem u p).1 hu
      have ev := (hA.mem v p).1 hv
      have huv : u ≠ v := by rintro rfl; exact e0 (e1.symm.trans e2)
      -- what joins c to its ring z at p
      have arm : ∀ z c, z < n → c < n → nAt g z = nAt g c → ∃ F : Inc, (∀ r q, F r q → r < n ∧ E r q ∧ Q q) ∧ (∀ r q, F r q → ∃ r', r' ≠ r ∧ F r' q) ∧ (∀ r q, F r q → r ≠ z → r ≠ c → ∃ q', q' ≠ q ∧ F r q') ∧ (z ≠ c → (∃ q, F z q) ∧ (∃ q, F c q)) := by
        intro z c hz hc ezc
        by_cases zc : z = c
        · exact ⟨fun _ _ => False, by simp, by simp, by simp, fun t => absurd zc t⟩
        · obtain ⟨F, h1, h2, h3, h4⟩ := h.good z c hz hc zc ezc
          exact ⟨F, h1, h2.pt, h2.ring, fun _ => ⟨h3, h4⟩⟩
      obtain ⟨F, f1, f2, f3, f4⟩ := arm u a eu.1 ha e1
      obtain ⟨G, g1, g2, g3, g4⟩ := arm v b ev.1 hb e2
      refine ⟨fun r q => F r q ∨ G r q ∨ (q = p ∧ (r = u ∨ r = v)), ?_, ⟨?_, ?_⟩, ?_, ?_⟩
      · rintro r q (t | t | ⟨rfl, rfl | rfl⟩)
        · exact wide F f1 r q t
        · exact wide G g1 r q t
        · exact ⟨eu.1, eu.2, .inr rfl⟩
        · exact ⟨ev.1, ev.2, .inr rfl⟩
      · rintro r q (t | t | ⟨rfl, rfl | rfl⟩)
        · obtain ⟨r', e, t'⟩ := f2 r q t; exact ⟨r', e, .inl t'⟩
        · obtain ⟨r', e, t'⟩ := g2 r q t; exact ⟨r', e, .inr (.inl t')⟩
        · exact ⟨v, Ne.symm huv, .inr (.inr ⟨rfl, .inr rfl⟩)⟩
        · exact ⟨u, huv, .inr (.inr ⟨rfl, .inl rfl⟩)⟩
      · have atU : ∀ q, q ≠ p → ∃ q', q' ≠ q ∧ (F u q' ∨ G u q' ∨ (q' = p ∧ (u = u ∨ u = v))) := fun q hq => ⟨p, Ne.symm hq, .inr (.inr ⟨rfl, .inl rfl⟩)⟩
        have atV : ∀ q, q ≠ p → ∃ q', q' ≠ q ∧ (F v q' ∨ G v q' ∨ (q' = p ∧ (v = u ∨ v = v))) := fun q hq => ⟨p, Ne.symm hq, .inr (.inr ⟨rfl, .inr rfl⟩)⟩
        rintro r q (t | t | ⟨rfl, rfl | rfl⟩) hra hrb
        · have hq : q ≠ p := fun e => hp (e ▸ (f1 r q t).2.2)
          by_cases ru : r = u
          · subst ru; exact atU q hq
          · obtain ⟨q', e, t'⟩ := f3 r q t ru hra; exact ⟨q', e, .inl t'⟩
        · have hq : q ≠ p := fun e => hp (e ▸ (g1 r q t).2.2)
          by_cases rv : r = v
          · subst rv; exact atV q hq
          · obtain ⟨q', e, t'⟩ := g3 r q t rv hrb; exact ⟨q', e, .inr (.inl t')⟩
        · obtain ⟨q', t'⟩ := (f4 hra).1
          exact ⟨q', fun e => hp (e ▸ (f1 r q' t').2.2), .inl t'⟩
        · obtain ⟨q', t'⟩ := (g4 hrb).1
          exact ⟨q', fun e => hp (e ▸ (g1 r q' t').2.2), .inr (.inl t')⟩
      · by_cases ua : u = a
        · exact ⟨p, .inr (.inr ⟨rfl, .inl ua.symm⟩)⟩
        · obtain ⟨q, t⟩ := (f4 ua).2; exact ⟨q, .inl t⟩
      · by_cases vb : v = b
        · exact ⟨p, .inr (.inr ⟨rfl, .inr vb.symm⟩)⟩
        · obtain ⟨q, t⟩ := (g4 vb).2; exact ⟨q, .inr (.inl t)⟩

/-- Joined at a point that lies on two of one group: a core. -/
theorem Jd.core {n : Nat} {E : Inc} {at_ : Pnt → List Nat} (hA : At n E at_) {Q : Pnt → Prop} {g : List Nat} (h : Jd n E Q g) {p : Pnt} (hp : ¬ Q p) (hj : join g (at_ p) = none) :
    ∃ F : Inc, (∀ r q, F r q → r < n ∧ E r q ∧ (Q q ∨ q = p)) ∧ Core F ∧ ∃ r q, F r q := by
  obtain ⟨u, hu, v, hv, huv, e⟩ := (join_cases hA p g h.len).2 hj
  have eu := (hA.mem u p).1 hu
  have ev := (hA.mem v p).1 hv
  obtain ⟨F, h1, h2, ⟨qu, h3⟩, ⟨qv, h4⟩⟩ := h.good u v eu.1 ev.1 huv e
  have np : ∀ r q, F r q → q ≠ p := fun r q t e => hp (e ▸ (h1 r q t).2.2)
  refine ⟨fun r q => F r q ∨ (q = p ∧ (r = u ∨ r = v)), ?_, ⟨?_, ?_⟩, u, p, .inr ⟨rfl, .inl rfl⟩⟩
  · rintro r q (t | ⟨rfl, rfl | rfl⟩)
    · exact ⟨(h1 r q t).1, (h1 r q t).2.1, .inl (h1 r q t).2.2⟩
    · exact ⟨eu.1, eu.2, .inr rfl⟩
    · exact ⟨ev.1, ev.2, .inr rfl⟩
  · rintro r q (t | ⟨rfl, rfl | rfl⟩)
    · obtain ⟨r', e, t'⟩ := h2.pt r q t; exact ⟨r', e, .inl t'⟩
    · exact ⟨v, Ne.symm huv, .inr ⟨rfl, .inr rfl⟩⟩
    · exact ⟨u, huv, .inr ⟨rfl, .inl rfl⟩⟩
  · rintro r q (t | ⟨rfl, rfl | rfl⟩)
    · by_cases ru : r = u
      · exact ⟨p, Ne.symm (np r q t), .inr ⟨rfl, .inl ru⟩⟩
      · by_cases rv : r = v
        · exact ⟨p, Ne.symm (np r q t), .inr ⟨rfl, .inr rv⟩⟩
        · obtain ⟨q', e, t'⟩ := h2.ring r q t ru rv; exact ⟨q', e, .inl t'⟩
    · exact ⟨qu, np _ qu h3, .inl h3⟩
    · exact ⟨qv, np _ qv h4, .inl h4⟩
end Vd
end Go.Proofs.YtcclepohmhdpbabGreatDoor

/- VALIDITY, PLAINLY: a way round, just if there is a core (G5): the program's whole. -/
namespace Go.Proofs.YtcclepohmhdpbabGreatDoor
set_option linter.all false
namespace Vd
def incL (l : Poly) : Inc := fun r p => place (rAt l r) (at1 p) = 1
theorem at_ringsAt (l : Poly) : At l.length (incL l) (ringsAt l) where
  mem := by
    intro r p
    unfold ringsAt incL
    simp
  nd := by
    intro p
    unfold ringsAt
    exact List.Pairwise.filter _ (List.nodup_range)
theorem Jd.mono {n : Nat} {E : Inc} {Q Q' : Pnt → Prop} {g : List Nat} (h : Jd n E Q g) (k : ∀ p, Q p ↔ Q' p) : Jd n E Q' g := by
  have e : Q = Q' := funext fun p => propext (k p)
  rw [← e]; exact h
theorem wayL_cases (l : Poly) : ∀ (ps : List Pnt) (Q : Pnt → Prop) (g : List Nat), Jd l.length (incL l) Q g → (∀ p ∈ ps, ¬ Q p) → ps.Nodup →
    (wayL l ps g = true → ∃ F : Inc, (∀ r q, F r q → r < l.length ∧ incL l r q ∧ (Q q ∨ q ∈ ps)) ∧ Core F ∧ ∃ r q, F r q) ∧
    (wayL l ps g = false → ∃ g', Jd l.length (incL l) (fun q => Q q ∨ q ∈ ps) g') := by
  intro ps
  induction ps with
  | nil =>
    intro Q g h _ _
    refine ⟨fun e => ?_, fun _ => ⟨g, h.mono (by simp)⟩⟩
    simp [wayL] at e
  | cons p t ih =>
    intro Q g h hq hnd
    have hp := hq p (by simp)
    rw [List.nodup_cons] at hnd
    cases hj : join g (ringsAt l p) with
    | none =>
      refine ⟨fun _ => ?_, fun e => by simp [wayL, hj] at e⟩
      obtain ⟨F, h1, h2, h3⟩ := h.core (at_ringsAt l) hp hj
      refine ⟨F, fun r q t => ⟨(h1 r q t).1, (h1 r q t).2.1, ?_⟩, h2, h3⟩
      rcases (h1 r q t).2.2 with k | k
      · exact .inl k
      · exact .inr (by simp [k])
    | some g' =>
      have h' := h.step (at_ringsAt l) hp hj
      have := ih _ g' h' (by
        rintro q hq' (k | rfl)
        · exact hq q (by simp [hq']) k
        · exact hnd.1 hq') hnd.2
      have ew : wayL l (p :: t) g = wayL l t g' := by simp [wayL, hj]
      rw [ew]
      refine ⟨fun e => ?_, fun e => ?_⟩
      · obtain ⟨F, h1, h2, h3⟩ := this.1 e
        refine ⟨F, fun r q t => ⟨(h1 r q t).1, (h1 r q t).2.1, ?_⟩, h2, h3⟩
        rcases (h1 r q t).2.2 with (k | k) | k
        · exact .inl k
        · exact .inr (by simp [k])
        · exact .inr (by simp [k])
      · obtain ⟨g'', k⟩ := this.2 e
        exact ⟨g'', k.mono (by intro q; simp [or_assoc])⟩
theorem touch_fold (l : Poly) : ∀ (ps : List Pnt) (a : List Pnt), a.Nodup → (∀ p ∈ a, 1 < (ringsAt l p).length) →
    (ps.foldl (touchF l) a).Nodup ∧ ∀ q, q ∈ ps.foldl (touchF l) a ↔ q ∈ a ∨ (q ∈ ps ∧ 1 < (ringsAt l q).length) := by
  intro ps
  induction ps with
  | nil => intro a h _; exact ⟨h, by simp⟩
  | cons p t ih =>
    intro a h h1
    rw [List.foldl_cons]
    by_cases c : ¬ (p ∈ a) ∧ 1 < (ringsAt l p).length
    · rw [show touchF l a p = a ++ [p] from if_pos c]
      have := ih (a ++ [p]) (by rw [List.nodup_append]; exact ⟨h, by simp, by intro x hx y hy; simp at hy; subst hy; rintro rfl; exact c.1 hx⟩) (by
        intro q hq
        rcases List.mem_append.1 hq with hq | hq
        · exact h1 q hq
        · simp at hq; subst hq; exact c.2)
      refine ⟨this.1, fun q => ?_⟩
      rw [this.2 q]
      simp only [List.mem_append, List.mem_cons, List.mem_singleton, List.not_mem_nil, or_false]
      constructor
      · rintro ((k | rfl) | k)
        · exact .inl k
        · exact .inr ⟨.inl rfl, c.2⟩
        · exact .inr ⟨.inr k.1, k.2⟩
      · rintro (k | ⟨rfl | k, k2⟩)
        · exact .inl (.inl k)
        · exact .inl (.inr rfl)
        · exact .inr ⟨k, k2⟩
    · rw [show touchF l a p = a from if_neg c]
      have := ih a h h1
      refine ⟨this.1, fun q => ?_⟩
      rw [this.2 q]
      simp only [List.mem_cons]
      constructor
      · rintro (k | k)
        · exact .inl k
        · exact .inr ⟨.inr k.1, k.2⟩
      · rintro (k | ⟨rfl | k, k2⟩)
        · exact .inl k
        · by_cases hq : q ∈ a
          · exact .inl hq
          · exact absurd ⟨hq, k2⟩ c
        · exact .inr ⟨k, k2⟩
theorem two_at {n : Nat} {E : Inc} {f : Pnt → List Nat} (hA : At n E f) {p : Pnt} {a b : Nat} (ha : a ∈ f p) (hb : b ∈ f p) (hab : a ≠ b) : 1 < (f p).length := by
  match hf : f p with
  | [] => rw [hf] at ha; cases ha
  | [x] => rw [hf] at ha hb; simp at ha hb; exact absurd (ha.trans hb.symm) hab
  | x :: y :: t => simp
theorem nAt_range {n a : Nat} (h : a < n) : nAt (List.range n) a = a := by
  unfold nAt; simp [List.getD_eq_getElem?_getD, List.getElem?_range h]
theorem way_core (l : Poly) : way l = true ↔ ∃ F : Inc, (∀ r q, F r q → r < l.length ∧ incL l r q ∧ q ∈ l.flatten) ∧ Core F ∧ ∃ r q, F r q := by
  have ht := touch_fold l l.flatten [] List.nodup_nil (by simp)
  have h0 : Jd l.length (incL l) (fun _ => False) (List.range l.length) := by
    refine ⟨by simp, by simp, ?_, ?_⟩
    · intro F hF x _ r p h; exact (hF r p h).2.2
    · intro a b ha hb hab e
      rw [nAt_range ha, nAt_range hb] at e
      exact absurd e hab
  have key := wayL_cases l (touchPts l) _ _ h0 (by simp) ht.1
  constructor
  · intro h
    obtain ⟨F, h1, h2, h3⟩ := key.1 h
    refine ⟨F, fun r q t => ⟨(h1 r q t).1, (h1 r q t).2.1, ?_⟩, h2, h3⟩
    rcases (h1 r q t).2.2 with k | k
    · exact k.elim
    · have := (ht.2 q).1 k
      simp only [List.not_mem_nil, false_or] at this
      exact this.1
  · rintro ⟨F, h1, h2, r, q, h3⟩
    cases hw : way l with
    | true => rfl
    | false =>
      exfalso
      obtain ⟨g, hg⟩ := key.2 hw
      refine hg.no F ?_ 0 ⟨h2.pt, fun r p t _ _ => h2.ring r p t⟩ r q h3
      intro r p t
      obtain ⟨r', e, t'⟩ := h2.pt r p t
      have a1 := h1 r p t
      have a2 := h1 r' p t'
      refine ⟨a1.1, a1.2.1, .inr ?_⟩
      refine (ht.2 p).2 (.inr ⟨a1.2.2, ?_⟩)
      exact two_at (at_ringsAt l) (((at_ringsAt l).mem r p).2 ⟨a1.1, a1.2.1⟩) (((at_ringsAt l).mem r' p).2 ⟨a2.1, a2.2.1⟩) (Ne.symm e)
end Vd
end Go.Proofs.YtcclepohmhdpbabGreatDoor

/- THE ONE WAY, PLAINLY: the order is an order, each has a place of its own. -/
namespace Go.Proofs.YtcclepohmhdpbabGreatDoor
set_option linter.all false
namespace Vd

/-! ### comparing, one behind the other -/
structure Cmp {α : Type} (c : α → α → Int) : Prop where
  anti : ∀ x y, c x y = -(c y x)
  eq : ∀ x y, c x y = 0 → x = y
  trans : ∀ x y z, c x y < 0 → c y z < 0 → c x z < 0
theorem Cmp.self {α : Type} {c : α → α → Int} (h : Cmp c) (x : α) : c x x = 0 := by have := h.anti x x; omega
def lexC {α : Type} (c : α → α → Int) : List α → List α → Int
  | [], [] => 0
  | [], _ :: _ => -1
  | _ :: _, [] => 1
  | p :: t, q :: u => if c p q ≠ 0 then c p q else lexC c t u
theorem lexC_anti {α : Type} {c : α → α → Int} (h : Cmp c) : ∀ a b, lexC c a b = -(lexC c b a) := by
  intro a
  induction a with
  | nil => intro b; cases b <;> simp [lexC]
  | cons p t ih =>
    intro b
    cases b with
    | nil => simp [lexC]
    | cons q u =>
      simp only [lexC]
      rw [h.anti p q]
      by_cases k : c q p = 0
      · rw [if_neg (by omega), if_neg (by omega)]; exact ih u
      · rw [if_pos (by omega), if_pos k]
theorem lexC_eq {α : Type} {c : α → α → Int} (h : Cmp c) : ∀ a b, lexC c a b = 0 → a = b := by
  intro a
  induction a with
  | nil => intro b; cases b <;> simp [lexC]
  | cons p t ih =>
    intro b
    cases b with
    | nil => simp [lexC]
    | cons q u =>
      simp only [lexC]
      intro e
      by_cases k : c p q = 0
      · rw [if_neg (by omega)] at e; rw [h.eq p q k, ih u e]
      · rw [if_pos k] at e; exact absurd e k
theorem lexC_trans {α : Type} {c : α → α → Int} (h : Cmp c) : ∀ a b d, lexC c a b < 0 → lexC c b d < 0 → lexC c a d < 0 := by
  intro a
  induction a with
  | nil =>
    intro b d h1 h2
    cases b with
    | nil => simp [lexC] at h1
    | cons q u =>
      cases d with
      | nil => simp [lexC] at h2
      | cons r v => simp [lexC]
  | cons p t ih =>
    intro b d h1 h2
    cases b with
    | nil => simp [lexC] at h1
    | cons q u =>
      cases d with
      | nil => simp [lexC] at h2
      | cons r v =>
        simp only [lexC] at *
        by_cases k1 : c p q = 0
        · rw [if_neg (by omega)] at h1
          obtain rfl := h.eq p q k1
          by_cases k2 : c p r = 0
          · rw [if_neg (by omega)] at h2 ⊢; exact ih u v h1 h2
          · rw [if_pos k2] at h2 ⊢; exact h2
        · rw [if_pos k1] at h1
          by_cases k2 : c q r = 0
          · obtain rfl := h.eq q r k2
            rw [if_pos k1]; exact h1
          · rw [if_pos k2] at h2
            have := h.trans p q r h1 h2
            rw [if_pos (by omega)]; exact this
theorem lexC_cmp {α : Type} {c : α → α → Int} (h : Cmp c) : Cmp (lexC c) := ⟨lexC_anti h, lexC_eq h, lexC_trans h⟩
def cP (p q : Pnt) : Int := if bef q p then 1 else if bef p q then -1 else 0
theorem cP_cmp : Cmp cP := by
  refine ⟨fun p q => ?_, fun p q => ?_, fun p q r => ?_⟩
  · unfold cP bef; repeat' split
    all_goals omega
  · unfold cP bef
    obtain ⟨a, b⟩ := p; obtain ⟨c, d⟩ := q
    simp only [Prod.mk.injEq]
    repeat' split
    all_goals omega
  · unfold cP bef; repeat' split
    all_goals omega
theorem cmpR_lex : ∀ a b, cmpR a b = lexC cP a b := by
  intro a
  induction a with
  | nil => intro b; cases b <;> simp [lexC, cmpR]
  | cons p t ih =>
    intro b
    cases b with
    | nil => simp [lexC, cmpR]
    | cons q u =>
      simp only [lexC, cmpR, ih u]
      unfold cP
      by_cases k : bef q p
      · rw [if_pos k, if_pos k, if_pos (by omega)]
      · rw [if_neg k, if_neg k]
        by_cases k2 : bef p q
        · rw [if_pos k2, if_pos k2, if_pos (by omega)]
        · rw [if_neg k2, if_neg k2, if_neg (by omega)]
theorem cmpR_cmp : Cmp cmpR := by
  have := lexC_cmp cP_cmp
  rwa [show lexC cP = cmpR from funext fun a => funext fun b => (cmpR_lex a b).symm] at this
theorem cmpP_lex : ∀ a b, cmpP a b = lexC cmpR a b := by
  intro a
  induction a with
  | nil => intro b; cases b <;> simp [lexC, cmpP]
  | cons p t ih =>
    intro b
    cases b with
    | nil => simp [lexC, cmpP]
    | cons q u => simp only [lexC, cmpP, ih u]
theorem cmpP_cmp : Cmp cmpP := by
  have := lexC_cmp cmpR_cmp
  rwa [show lexC cmpR = cmpP from funext fun a => funext fun b => (cmpP_lex a b).symm] at this

/-! ### who stands ahead of whom -/
def aheadM (m : Mult) (i k : Nat) : Prop := cmpP (pAt m i) (pAt m k) < 0 ∨ (cmpP (pAt m i) (pAt m k) = 0 ∧ i < k)
theorem isA_iff (m : Mult) (a i : Nat) : isA m a i = true ↔ aheadM m i a := by unfold isA aheadM; simp
theorem aheadM_irr (m : Mult) (i : Nat) : ¬ aheadM m i i := by unfold aheadM; have := cmpP_cmp.self (pAt m i); omega
theorem aheadM_tot (m : Mult) {i k : Nat} (h : i ≠ k) : aheadM m i k ∨ aheadM m k i := by unfold aheadM; have := cmpP_cmp.anti (pAt m i) (pAt m k); omega
theorem aheadM_trans (m : Mult) {i j k : Nat} (h1 : aheadM m i j) (h2 : aheadM m j k) : aheadM m i k := by
  unfold aheadM at *
  rcases h1 with h1 | ⟨h1, l1⟩
  · rcases h2 with h2 | ⟨h2, l2⟩
    · exact .inl (cmpP_cmp.trans _ _ _ h1 h2)
    · rw [← cmpP_cmp.eq _ _ h2]; exact .inl h1
  · rw [cmpP_cmp.eq _ _ h1]
    rcases h2 with h2 | ⟨h2, l2⟩
    · exact .inl h2
    · exact .inr ⟨h2, by omega⟩
theorem countP_lt {α : Type} {p q : α → Bool} : ∀ {l : List α}, (∀ x ∈ l, p x = true → q x = true) → (∃ x ∈ l, q x = true ∧ p x = false) → l.countP p < l.countP q := by
  intro l
  induction l with
  | nil => rintro _ ⟨x, hx, _⟩; simp at hx
  | cons a t ih =>
    rintro h ⟨x, hx, hq, hp⟩
    have mono : ∀ s : List α, (∀ x ∈ s, p x = true → q x = true) → s.countP p ≤ s.countP q := fun s hs => List.countP_mono_left hs
    rw [List.countP_cons, List.countP_cons]
    have hm := mono t fun y hy => h y (List.mem_cons_of_mem _ hy)
    rcases List.mem_cons.1 hx with rfl | hx
    · rw [if_pos hq, if_neg (by rw [hp]; decide)]; omega
    · have := ih (fun y hy => h y (List.mem_cons_of_mem _ hy)) ⟨x, hx, hq, hp⟩
      have h1 : (if p a = true then 1 else 0) ≤ (if q a = true then 1 else 0) := by
        by_cases k : p a = true
        · rw [if_pos k, if_pos (h a (by simp) k)]; exact Nat.le_refl _
        · rw [if_neg k]; exact Nat.zero_le _
      omega
theorem cnt_lt {m : Mult} {n i k : Nat} (hi : i < n) (h : aheadM m i k) : cntA m i n < cntA m k n := by
  unfold cntA
  refine countP_lt (fun x _ hx => ?_) ⟨i, List.mem_range.2 hi, (isA_iff m k i).2 h, ?_⟩
  · exact (isA_iff m k x).2 (aheadM_trans m ((isA_iff m i x).1 hx) h)
  · cases e : isA m i i with
    | false => rfl
    | true => exact absurd ((isA_iff m i i).1 e) (aheadM_irr m i)
theorem cnt_inj {m : Mult} {n i k : Nat} (hi : i < n) (hk : k < n) (h : cntA m i n = cntA m k n) : i = k := by
  by_cases e : i = k
  · exact e
  · rcases aheadM_tot m e with a | a
    · have := cnt_lt hi a; omega
    · have := cnt_lt hk a; omega
theorem cnt_small {m : Mult} {n i : Nat} (hi : i < n) : cntA m i n < n := by
  have : cntA m i n < (List.range n).countP fun _ => true := by
    unfold cntA
    refine countP_lt (fun _ _ _ => rfl) ⟨i, List.mem_range.2 hi, rfl, ?_⟩
    cases e : isA m i i with
    | false => rfl
    | true => exact absurd ((isA_iff m i i).1 e) (aheadM_irr m i)
  simpa using this
/-! ### pigeons -/
theorem len_sub {α : Type} [DecidableEq α] : ∀ (l r : List α), l.Nodup → (∀ x ∈ l, x ∈ r) → l.length ≤ r.length := by
  intro l
  induction l with
  | nil => intro r _ _; exact Nat.zero_le _
  | cons a t ih =>
    intro r hn hs
    have ha := hs a (by simp)
    have hn' := List.nodup_cons.1 hn
    have := ih (r.erase a) hn'.2 fun x hx => by
      have hne : x ≠ a := fun e => hn'.1 (e ▸ hx)
      exact (List.mem_erase_of_ne hne).2 (hs x (List.mem_cons_of_mem _ hx))
    rw [List.length_erase_of_mem ha] at this
    have hp : 0 < r.length := List.length_pos_of_mem ha
    simp only [List.length_cons]; omega
theorem nodup_map {n : Nat} {f : Nat → Nat} (hf : ∀ i k, i < n → k < n → f i = f k → i = k) : ∀ s, s ≤ n → ((List.range s).map f).Nodup := by
  intro s
  induction s with
  | zero => intro _; exact List.nodup_nil
  | succ s ih =>
    intro hs
    rw [List.range_succ, List.map_append, List.nodup_append]
    refine ⟨ih (by omega), by simp, ?_⟩
    intro a ha b hb e
    simp only [List.map_cons, List.map_nil, List.mem_singleton] at hb
    obtain ⟨i, hi, rfl⟩ := List.mem_map.1 ha
    have := List.mem_range.1 hi
    have := hf i s (by omega) (by omega) (by rw [e, hb])
    omega
theorem surj_of {n : Nat} {f : Nat → Nat} (h1 : ∀ i, i < n → f i < n) (hf : ∀ i k, i < n → k < n → f i = f k → i = k) {j : Nat} (hj : j < n) : ∃ i, i < n ∧ f i = j := by
  refine Classical.byContradiction fun hno => ?_
  have hno' : ∀ i, i < n → f i ≠ j := fun i hi e => hno ⟨i, hi, e⟩
  have hnd : (j :: (List.range n).map f).Nodup := by
    refine List.nodup_cons.2 ⟨fun hm => ?_, nodup_map hf n (Nat.le_refl _)⟩
    obtain ⟨i, hi, e⟩ := List.mem_map.1 hm
    exact hno' i (List.mem_range.1 hi) e
  have := len_sub _ (List.range n) hnd fun x hx => by
    rcases List.mem_cons.1 hx with rfl | hx
    · exact List.mem_range.2 hj
    · obtain ⟨i, hi, rfl⟩ := List.mem_map.1 hx
      exact List.mem_range.2 (h1 i (List.mem_range.1 hi))
  simp at this
  omega
theorem cnt_surj {m : Mult} {n j : Nat} (hj : j < n) : ∃ i, i < n ∧ cntA m i n = j := surj_of (f := fun i => cntA m i n) (fun i hi => cnt_small hi) (fun i k hi hk => cnt_inj hi hk) hj

/-! ### laying each at its place: any values -/
def layS {α : Type} (f : Nat → Nat) (g : Nat → α) (o : List α) (i : Nat) : List α := o.set (f i) (g i)
def layN {α : Type} (f : Nat → Nat) (g : Nat → α) (z : List α) (n : Nat) : List α := (List.range n).foldl (layS f g) z
theorem layN_succ {α : Type} (f : Nat → Nat) (g : Nat → α) (z : List α) (n : Nat) : layN f g z (n + 1) = (layN f g z n).set (f n) (g n) := by
  unfold layN; rw [List.range_succ, List.foldl_append]; rfl
theorem layN_len {α : Type} (f : Nat → Nat) (g : Nat → α) (z : List α) : ∀ n, (layN f g z n).length = z.length
  | 0 => rfl
  | n + 1 => by rw [layN_succ, List.length_set]; exact layN_len f g z n
theorem layN_at {α : Type} {f : Nat → Nat} {g : Nat → α} {z : List α} {N : Nat} (h1 : ∀ i, i < N → f i < z.length) (hf : ∀ i k, i < N → k < N → f i = f k → i = k) : ∀ n, n ≤ N → ∀ i, i < n → (layN f g z n)[f i]? = some (g i) := by
  intro n
  induction n with
  | zero => intro _ i hi; omega
  | succ n ih =>
    intro hn i hi
    rw [layN_succ]
    by_cases e : i = n
    · subst e; rw [List.getElem?_set_self (by rw [layN_len]; exact h1 i (by omega))]
    · rw [List.getElem?_set_ne (fun e2 => e (hf i n (by omega) (by omega) e2.symm))]
      exact ih (by omega) i (by omega)
theorem inOrder_lay (m : Mult) : inOrder m = layN (fun i => cntA m i m.length) (pAt m) (List.replicate m.length []) m.length := rfl
theorem inOrder_len (m : Mult) : (inOrder m).length = m.length := by rw [inOrder_lay, layN_len]; simp
theorem inOrder_at (m : Mult) {i : Nat} (hi : i < m.length) : (inOrder m)[cntA m i m.length]? = some (pAt m i) := by
  rw [inOrder_lay]
  exact layN_at (N := m.length) (fun i h => by simpa using cnt_small h) (fun i k h1 h2 => cnt_inj h1 h2) m.length (Nat.le_refl _) i hi
end Vd
end Go.Proofs.YtcclepohmhdpbabGreatDoor
