import Derived.Test.YtcclepohmhdpbabVdE
/- THE PROGRAM, PLAINLY: how points, segments and rings lie; the clauses. -/
namespace Go.Proofs.Ytcclepohmhdpbab
set_option linter.all false
namespace Vd
abbrev Seg := Pnt × Pnt
abbrev Spot := Pnt × Int
instance (a b c : Int) : Decidable (btw a b c) := by unfold btw; infer_instance
instance (a b p : Pnt) (w : Int) : Decidable (has a b p w) := by unfold has; infer_instance
def hasB (s : Seg) (p : Spot) : Bool := decide (has s.1 s.2 p.1 p.2)
def side (s : Seg) (p : Spot) : Int := sg (cr s.1 s.2 p.1 p.2)
def at1 (p : Pnt) : Spot := (p, 1)
def midOf (p q : Pnt) : Spot := ((p.1 + q.1, p.2 + q.2), 2)
def meetS (s t : Seg) : Int := meet s.1 s.2 t.1 t.2
def segs (r : Ring) : List Seg := r.zip r.tail
def placeL : List Seg → Bool → Spot → Int
  | [], i, _ => if i then 2 else 0
  | s :: t, i, p => if hasB s p then 1 else placeL t (if ray s.1 s.2 p.1 p.2 then !i else i) p
def place (r : Ring) (p : Spot) : Int := placeL (segs r) false p
def cutF (s : Seg) (f : Pnt) (to p : Pnt) : Pnt := if bef f p ∧ bef p to ∧ has s.1 s.2 p 1 then p else to
def nextCut (s : Seg) (f : Pnt) (rings : Poly) : Pnt := rings.flatten.foldl (cutF s f) s.2
def midsF : Nat → Seg → Pnt → Poly → List Spot
  | 0, _, _, _ => []
  | n + 1, s, f, rings => if f = s.2 then [] else midOf f (nextCut s f rings) :: midsF n s (nextCut s f rings) rings
def mids (s : Seg) (rings : Poly) : List Spot := midsF (rings.flatten.length + 1) (fwd s.1 s.2) (fwd s.1 s.2).1 rings

/-! ### the clauses -/
def anyI (n : Nat) (f : Nat → Bool) : Bool := (List.range n).any f
theorem anyI_zero (f : Nat → Bool) : anyI 0 f = false := rfl
theorem anyI_succ (n : Nat) (f : Nat → Bool) : anyI (n + 1) f = (anyI n f || f n) := by simp [anyI, List.range_succ]
theorem anyI_true {n : Nat} {f : Nat → Bool} {i : Nat} (h : i < n) (hf : f i = true) : anyI n f = true := by
  simp only [anyI, List.any_eq_true, List.mem_range]; exact ⟨i, h, hf⟩
theorem anyI_iff {n : Nat} {f : Nat → Bool} : anyI n f = true ↔ ∃ i, i < n ∧ f i = true := by
  simp only [anyI, List.any_eq_true, List.mem_range]
def twice (r : Ring) : Bool := anyI r.length fun i => decide (1 ≤ i) && anyI r.length fun j => decide (i < j) && decide (r[i]? = r[j]?)
def wantI (n i j : Nat) : Int := if i + 1 = j ∨ (i = 0 ∧ j + 1 = n) then 1 else 0
def sAt (l : List Seg) (i : Nat) : Seg := l.getD i ((0, 0), (0, 0))
def selfR (r : Ring) : Bool := anyI (segs r).length fun j => anyI j fun i => decide (meetS (sAt (segs r) i) (sAt (segs r) j) ≠ wantI (segs r).length i j)
def simple (l : Poly) : Bool := !(l.any fun r => twice r || selfR r)
def crossS (s t : Seg) : Bool := decide (meetS s t = 2) || decide (meetS s t = 3)
def cross (r o : Ring) : Bool := (segs r).any fun s => (segs o).any fun t => crossS s t
def rAt (l : Poly) (i : Nat) : Ring := l.getD i []
def touch (l : Poly) : Bool := !(anyI l.length fun j => anyI j fun i => cross (rAt l i) (rAt l j))
def lies (r o : Ring) (k : Int) : Bool := !((segs r).any fun s => (mids s [o]).any fun m => decide (place o m ≠ k))
def nestW (j : Nat) : Int := if j = 0 then 2 else 0
def nested (l : Poly) : Bool := !(anyI l.length fun i => decide (1 ≤ i) && anyI l.length fun j => decide (i ≠ j) && !(lies (rAt l i) (rAt l j) (nestW j)))
def ringsAt (l : Poly) (p : Pnt) : List Nat := (List.range l.length).filter fun i => decide (place (rAt l i) (at1 p) = 1)
def touchF (l : Poly) (a : List Pnt) (p : Pnt) : List Pnt := if ¬ (p ∈ a) ∧ 1 < (ringsAt l p).length then a ++ [p] else a
def touchPts (l : Poly) : List Pnt := l.flatten.foldl (touchF l) []
def turnG (old first : Nat) (g : Nat) : Nat := if g = old then first else g
def nAt (l : List Nat) (i : Nat) : Nat := l.getD i 0
def joinL : List Nat → Nat → List Nat → Option (List Nat)
  | g, _, [] => some g
  | g, a, j :: t => if nAt g j = nAt g a then none else joinL (g.map (turnG (nAt g j) (nAt g a))) a t
def join (g : List Nat) : List Nat → Option (List Nat)
  | [] => some g
  | a :: t => joinL g a t
def wayL (l : Poly) : List Pnt → List Nat → Bool
  | [], _ => false
  | p :: t, g => match join g (ringsAt l p) with
    | none => true
    | some g' => wayL l t g'
def way (l : Poly) : Bool := wayL l (touchPts l) (List.range l.length)
def holdsC (c : Nat) (l : Poly) : Bool := if c = 1 then simple l else if c = 2 then touch l else if c = 3 then nested l else !(way l)
def boundsX (a b : Poly) : Bool := a.any fun r => b.any fun o => cross r o
def freeL : List Ring → Bool → Bool → Spot → Bool
  | [], _, f, _ => f
  | r :: t, first, f, p => if place r p = 1 then false else freeL t false (f || (first && decide (place r p = 0)) || (!first && decide (place r p = 2))) p
def free (l : Poly) (p : Spot) : Bool := freeL l true false p
def enters (a b : Poly) : Bool := a.any fun r => (segs r).any fun s => (mids s b).any fun m => !(free b m)
def pAt (m : Mult) (i : Nat) : Poly := m.getD i []
def overlap (m : Mult) : Bool := anyI m.length fun j => anyI j fun i => boundsX (pAt m i) (pAt m j) || enters (pAt m i) (pAt m j) || enters (pAt m j) (pAt m i)
def badC (c : Nat) (m : Mult) : Bool := m.any fun l => !(holdsC c l)
def least (m : Mult) : Int := if badC 1 m then 1 else if badC 2 m then 2 else if badC 3 m then 3 else if badC 4 m then 4 else if overlap m then 5 else 0

/-! ### the parts come to an end -/
theorem bef_trans {p q r : Pnt} (h : bef p q) (k : bef q r) : bef p r := by unfold bef at *; omega
theorem fold_cut (s : Seg) (f : Pnt) : ∀ (l : List Pnt) (t : Pnt), l.foldl (cutF s f) t = t ∨ (l.foldl (cutF s f) t ∈ l ∧ bef f (l.foldl (cutF s f) t)) := by
  intro l
  induction l with
  | nil => intro t; exact .inl rfl
  | cons p l ih =>
    intro t
    rw [List.foldl_cons]
    by_cases h : bef f p ∧ bef p t ∧ has s.1 s.2 p 1
    · have e : cutF s f t p = p := if_pos h
      rw [e]
      rcases ih p with k | ⟨k1, k2⟩
      · rw [k]; exact .inr ⟨by simp, h.1⟩
      · exact .inr ⟨by simp [k1], k2⟩
    · have e : cutF s f t p = t := if_neg h
      rw [e]
      rcases ih t with k | ⟨k1, k2⟩
      · exact .inl k
      · exact .inr ⟨by simp [k1], k2⟩
/-- How many parts are to come, at most. -/
def ahead (s : Seg) (f : Pnt) (rings : Poly) : Nat := if f = s.2 then 0 else 1 + rings.flatten.countP fun p => decide (bef f p)
theorem ahead_le (s : Seg) (f : Pnt) (rings : Poly) : ahead s f rings ≤ rings.flatten.length + 1 := by
  unfold ahead
  split
  · omega
  · have := List.countP_le_length (p := fun p => decide (bef f p)) (l := rings.flatten); omega
theorem ahead_step {s : Seg} {f : Pnt} {rings : Poly} (h : f ≠ s.2) : ahead s (nextCut s f rings) rings < ahead s f rings := by
  unfold ahead
  rw [if_neg h]
  split
  · omega
  · rename_i g
    rcases fold_cut s f rings.flatten s.2 with k | ⟨k1, k2⟩
    · exact absurd k g
    · have : rings.flatten.countP (fun p => decide (bef (nextCut s f rings) p)) < rings.flatten.countP (fun p => decide (bef f p)) := by
        obtain ⟨l1, l2, e⟩ := List.append_of_mem k1
        have mono : ∀ l : List Pnt, l.countP (fun p => decide (bef (nextCut s f rings) p)) ≤ l.countP (fun p => decide (bef f p)) := by
          intro l
          apply List.countP_mono_left
          intro x _ hx
          exact decide_eq_true (bef_trans k2 (of_decide_eq_true hx))
        have m1 := mono l1
        have m2 := mono l2
        have e' : rings.flatten = l1 ++ nextCut s f rings :: l2 := e
        generalize hx : nextCut s f rings = x at *
        have k2' : bef f x := by rw [← hx]; exact k2
        rw [e', List.countP_append, List.countP_append, List.countP_cons, List.countP_cons]
        have d1 : decide (bef x x) = false := decide_eq_false fun q => bef_irr q q
        have d2 : decide (bef f x) = true := decide_eq_true k2'
        simp only [d1, d2, if_true]
        simp
        omega
      omega
theorem midsF_end {s : Seg} {f : Pnt} {rings : Poly} (h : f = s.2) (n : Nat) : midsF n s f rings = [] := by
  cases n with
  | zero => rfl
  | succ n => unfold midsF; rw [if_pos h]
theorem midsF_step {s : Seg} {f : Pnt} {rings : Poly} (h : f ≠ s.2) {n : Nat} (hn : ahead s f rings ≤ n) :
    ∃ n', midsF n s f rings = midOf f (nextCut s f rings) :: midsF n' s (nextCut s f rings) rings ∧ ahead s (nextCut s f rings) rings ≤ n' := by
  have := ahead_step (rings := rings) h
  cases n with
  | zero => omega
  | succ n => exact ⟨n, by rw [midsF, if_neg h], by omega⟩
theorem midsF_len : ∀ (n : Nat) (s : Seg) (f : Pnt) (rings : Poly), (midsF n s f rings).length ≤ n := by
  intro n
  induction n with
  | zero => intro s f rings; exact Nat.le_refl _
  | succ n ih =>
    intro s f rings
    unfold midsF
    split
    · simp
    · have := ih s (nextCut s f rings) rings
      simp; omega
theorem mids_len (s : Seg) (rings : Poly) : (mids s rings).length ≤ rings.flatten.length + 1 := midsF_len _ _ _ _
theorem segs_len (r : Ring) : (segs r).length = r.length - 1 := by simp [segs]
theorem segs_at {r : Ring} {i : Nat} {p q : Pnt} (hp : r[i]? = some p) (hq : r[i + 1]? = some q) : (segs r)[i]? = some (p, q) := by
  have hq' : r.tail[i]? = some q := by simpa using hq
  simp [segs, List.getElem?_zip_eq_some, hp, hq']
theorem segs_mem {r : Ring} {s : Seg} (h : s ∈ segs r) : s.1 ∈ r ∧ s.2 ∈ r := by
  have := List.of_mem_zip (a := s.1) (b := s.2) (show (s.1, s.2) ∈ r.zip r.tail from h)
  exact ⟨this.1, List.mem_of_mem_tail this.2⟩
theorem nextCut_mem (s : Seg) (f : Pnt) (rings : Poly) : nextCut s f rings = s.2 ∨ nextCut s f rings ∈ rings.flatten := by
  rcases fold_cut s f rings.flatten s.2 with k | ⟨k1, _⟩
  · exact .inl k
  · exact .inr k1

/-! ### sizes -/
def Cd (p : Pnt) : Prop := -32768 ≤ p.1 ∧ p.1 ≤ 32768 ∧ -32768 ≤ p.2 ∧ p.2 ≤ 32768
def CdS (s : Seg) : Prop := Cd s.1 ∧ Cd s.2
def CdR (r : Ring) : Prop := ∀ p ∈ r, Cd p
def CdL (l : Poly) : Prop := ∀ r ∈ l, CdR r
def Sp (p : Spot) : Prop := -1048576 ≤ p.1.1 ∧ p.1.1 ≤ 1048576 ∧ -1048576 ≤ p.1.2 ∧ p.1.2 ≤ 1048576 ∧ 1 ≤ p.2 ∧ p.2 ≤ 1048576
theorem at1_sp {p : Pnt} (h : Cd p) : Sp (at1 p) := by unfold Cd at h; unfold Sp at1; simp only; omega
theorem mid_sp {p q : Pnt} (h : Cd p) (k : Cd q) : Sp (midOf p q) := by unfold Cd at h k; unfold Sp midOf; simp only; omega
theorem segs_cd {r : Ring} (h : CdR r) {s : Seg} (hs : s ∈ segs r) : CdS s := ⟨h _ (segs_mem hs).1, h _ (segs_mem hs).2⟩
theorem fwd_cd {s : Seg} (h : CdS s) : CdS (fwd s.1 s.2) := by
  unfold fwd; split
  · exact ⟨h.2, h.1⟩
  · exact h
theorem nextCut_cd {s : Seg} {f : Pnt} {rings : Poly} (hs : CdS s) (hr : CdL rings) : Cd (nextCut s f rings) := by
  rcases nextCut_mem s f rings with k | k
  · rw [k]; exact hs.2
  · obtain ⟨r, h1, h2⟩ := List.mem_flatten.1 k
    exact hr r h1 _ h2
theorem midsF_sp {s : Seg} {rings : Poly} (hs : CdS s) (hr : CdL rings) : ∀ (n : Nat) (f : Pnt), Cd f → ∀ m ∈ midsF n s f rings, Sp m := by
  intro n
  induction n with
  | zero => intro f _ m hm; cases hm
  | succ n ih =>
    intro f hf m hm
    unfold midsF at hm
    split at hm
    · cases hm
    · rcases List.mem_cons.1 hm with rfl | hm
      · exact mid_sp hf (nextCut_cd hs hr)
      · exact ih _ (nextCut_cd hs hr) m hm
theorem mids_sp {s : Seg} {rings : Poly} (hs : CdS s) (hr : CdL rings) : ∀ m ∈ mids s rings, Sp m := midsF_sp (fwd_cd hs) hr _ _ (fwd_cd hs).1
/-- Of a set that is none that is refused, all coordinates are small. -/
theorem cd_of {m : Mult} (h : Pl.wrong m = 0) : ∀ l ∈ m, CdL l := by
  have h4 : m.any Pl.wideL = false := by
    unfold Pl.wrong at h
    split at h
    · omega
    · split at h
      · omega
      · split at h
        · omega
        · rename_i k; simpa using k
  intro l hl r hr p hp
  have h1 : Pl.wideP p = false := by
    cases hw : Pl.wideP p with
    | false => rfl
    | true =>
      have : m.any Pl.wideL = true := List.any_eq_true.2 ⟨l, hl, List.any_eq_true.2 ⟨r, hr, List.any_eq_true.2 ⟨p, hp, hw⟩⟩⟩
      rw [h4] at this; cases this
  unfold Pl.wideP Pl.farC at h1
  simp at h1
  unfold Cd; omega
end Vd
end Go.Proofs.Ytcclepohmhdpbab

/- THE PROGRAM, PLAINLY: the one way to write a set. -/
namespace Go.Proofs.Ytcclepohmhdpbab
set_option linter.all false
namespace Vd
def ptAt (r : Ring) (i : Nat) : Pnt := r.getD i (0, 0)
def nextI (r : Ring) (i : Nat) : Pnt := if i + 1 < r.length then ptAt r (i + 1) else ptAt r 1
def turns (r : Ring) (i : Nat) : Bool := decide (1 ≤ i) && decide (side (ptAt r (i - 1), ptAt r i) (at1 (nextI r i)) ≠ 0)
def cornersI (r : Ring) (n : Nat) : Ring := ((List.range n).filter (turns r)).map (ptAt r)
def corners (r : Ring) : Ring := cornersI r r.length
def leastS (v : Ring) (f i : Nat) : Nat := if bef (ptAt v i) (ptAt v f) then i else f
def leastN (v : Ring) (n : Nat) : Nat := (List.range n).foldl (leastS v) 0
def leastI (v : Ring) : Nat := leastN v v.length
def lefts (v : Ring) (k : Nat) : Bool := decide (0 < side (ptAt v ((k + v.length - 1) % v.length), ptAt v k) (at1 (ptAt v ((k + 1) % v.length))))
def stepI (v : Ring) (l : Bool) : Nat := if lefts v (leastI v) = l then 1 else v.length - 1
def ringForm (r : Ring) (l : Bool) : Ring :=
  if (corners r).length = 0 then [] else (List.range ((corners r).length + 1)).map fun i => ptAt (corners r) ((leastI (corners r) + i * stepI (corners r) l) % (corners r).length)
def cmpR : Ring → Ring → Int
  | [], [] => 0
  | [], _ :: _ => -1
  | _ :: _, [] => 1
  | p :: t, q :: u => if bef q p then 1 else if bef p q then -1 else cmpR t u
def cmpP : Poly → Poly → Int
  | [], [] => 0
  | [], _ :: _ => -1
  | _ :: _, [] => 1
  | p :: t, q :: u => if cmpR p q ≠ 0 then cmpR p q else cmpP t u
def isA (m : Mult) (a i : Nat) : Bool := decide (cmpP (pAt m i) (pAt m a) < 0) || (decide (cmpP (pAt m i) (pAt m a) = 0) && decide (i < a))
def cntA (m : Mult) (a n : Nat) : Nat := (List.range n).countP (isA m a)
def orderS (m : Mult) (o : Mult) (i : Nat) : Mult := o.set (cntA m i m.length) (pAt m i)
def orderN (m : Mult) (n : Nat) : Mult := (List.range n).foldl (orderS m) (List.replicate m.length [])
def inOrder (m : Mult) : Mult := orderN m m.length
def holesF (l : Poly) : Mult := l.map fun r => [ringForm r false]
def polyForm : Poly → Poly
  | [] => []
  | r :: l => ringForm r true :: (inOrder (holesF l)).flatten
def form (m : Mult) : Mult := inOrder (m.map polyForm)
end Vd
end Go.Proofs.Ytcclepohmhdpbab

/- THE PROGRAM, PLAINLY: a point that parts two sets. -/
namespace Go.Proofs.Ytcclepohmhdpbab
set_option linter.all false
namespace Vd
def inPolyL : List Ring → Bool → Spot → Bool
  | [], _, _ => true
  | r :: t, first, p => if (first && decide (place r p = 0)) || (!first && decide (place r p = 2)) then false else inPolyL t false p
def inPoly (l : Poly) (p : Spot) : Bool := inPolyL l true p && decide (0 < l.length)
def inSet (m : Mult) (p : Spot) : Bool := m.any fun l => inPoly l p
def along (s : Seg) : Pnt := (s.2.1 - s.1.1, s.2.2 - s.1.2)
def turnW (w o : Pnt) : Int := w.1 * o.2 - w.2 * o.1
def amt (n : Int) : Int := if n < 0 then -n else n
def gapW (p : Spot) (s : Seg) : Pnt := (s.1.1 * p.2 - p.1.1, s.1.2 * p.2 - p.1.2)
def partsTo (p : Spot) (w : Pnt) (s : Seg) : Int :=
  if amt (turnW (gapW p s) (along s)) = 0 then 1 else (amt (p.2 * turnW w (along s))).tdiv (amt (turnW (gapW p s) (along s))) + 1
def partF (p : Spot) (w : Pnt) (n : Int) (s : Seg) : Int := if n < partsTo p w s then partsTo p w s else n
def nearS (p : Spot) (w : Pnt) (n : Int) : Spot := ((p.1.1 * n + p.2 * w.1, p.1.2 * n + p.2 * w.2), p.2 * n)
def near (both : List Seg) (p : Spot) (w : Pnt) : Spot := nearS p w (both.foldl (partF p w) 1)
def atBoth (both : List Seg) (s t : Seg) (m : Spot) : Option Spot :=
  if turnW (along s) (along t) < 0 then some (near both m (along t))
  else if 0 < turnW (along s) (along t) then some (near both m (-(along t).1, -(along t).2)) else none
def lookL (other : Mult) (both : List Seg) (s : Seg) (m : Spot) : List Seg → Option Spot
  | [] => if inSet other m then some (near both m ((along s).2, -(along s).1)) else some m
  | t :: l => if hasB t m then atBoth both s t m else lookL other both s m l
def edges (l : Poly) : List Seg := l.flatMap segs
def atBounds (a b : Mult) : Option Spot :=
  (edges a.flatten).findSome? fun s => (mids s (a.flatten ++ b.flatten)).findSome? fun m => lookL b (edges (a.flatten ++ b.flatten)) s m (edges b.flatten)
def spot (a b : Mult) : Option Spot := match atBounds a b with
  | some p => some p
  | none => atBounds b a
end Vd
end Go.Proofs.Ytcclepohmhdpbab
