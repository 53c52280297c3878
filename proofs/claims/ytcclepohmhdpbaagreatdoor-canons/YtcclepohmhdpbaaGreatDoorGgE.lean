import Derived.Test.YtcclepohmhdpbaaGreatDoorVsA
/- MOVED, PLAINLY: the clause is the same. -/
namespace Go.Proofs.YtcclepohmhdpbaaGreatDoor
set_option linter.all false
namespace Vd
theorem mvR_len (v : Pnt) (r : Ring) : (mvR v r).length = r.length := by simp [mvR]
theorem mvL_len (v : Pnt) (l : Poly) : (mvL v l).length = l.length := by simp [mvL]
theorem mvM_len (v : Pnt) (m : Mult) : (mvM v m).length = m.length := by simp [mvM]
theorem anyI_cong {n : Nat} {f g : Nat → Bool} (h : ∀ i, i < n → f i = g i) : anyI n f = anyI n g := by
  unfold anyI
  apply Bool.eq_iff_iff.2
  simp only [List.any_eq_true, List.mem_range]
  constructor
  · rintro ⟨i, hi, e⟩; exact ⟨i, hi, by rw [← h i hi]; exact e⟩
  · rintro ⟨i, hi, e⟩; exact ⟨i, hi, by rw [h i hi]; exact e⟩
theorem any_map' {α β : Type} (f : α → β) (p : β → Bool) (l : List α) : (l.map f).any p = l.any fun x => p (f x) := by
  rw [List.any_map]; rfl
theorem rAt_mv (v : Pnt) (l : Poly) (i : Nat) : rAt (mvL v l) i = mvR v (rAt l i) := by
  unfold rAt mvL
  rw [List.getD_eq_getElem?_getD, List.getD_eq_getElem?_getD, List.getElem?_map]
  cases l[i]? <;> rfl
theorem pAt_mv (v : Pnt) (m : Mult) (i : Nat) : pAt (mvM v m) i = mvL v (pAt m i) := by
  unfold pAt mvM
  rw [List.getD_eq_getElem?_getD, List.getD_eq_getElem?_getD, List.getElem?_map]
  cases m[i]? <;> rfl
theorem sAt_mv (v : Pnt) (r : Ring) {i : Nat} (h : i < (segs r).length) : sAt (segs (mvR v r)) i = mvS v (sAt (segs r) i) := by
  unfold sAt
  rw [segs_mv, List.getD_eq_getElem?_getD, List.getD_eq_getElem?_getD, List.getElem?_map, List.getElem?_eq_getElem h]
  rfl
theorem twice_mv (v : Pnt) (r : Ring) : twice (mvR v r) = twice r := by
  unfold twice
  rw [mvR_len]
  refine anyI_cong fun i hi => ?_
  congr 1
  refine anyI_cong fun j hj => ?_
  congr 1
  unfold mvR
  rw [List.getElem?_map, List.getElem?_map, List.getElem?_eq_getElem hi, List.getElem?_eq_getElem hj]
  simp [mv_inj]
theorem selfR_mv (v : Pnt) (r : Ring) : selfR (mvR v r) = selfR r := by
  unfold selfR
  have e : (segs (mvR v r)).length = (segs r).length := by rw [segs_mv, List.length_map]
  rw [e]
  refine anyI_cong fun j hj => anyI_cong fun i hi => ?_
  rw [sAt_mv v r (by omega), sAt_mv v r hj, meetS_mv]
theorem simple_mv (v : Pnt) (l : Poly) : simple (mvL v l) = simple l := by
  unfold simple mvL
  rw [any_map']
  simp only [twice_mv, selfR_mv]
theorem cross_mv (v : Pnt) (a b : Ring) : cross (mvR v a) (mvR v b) = cross a b := by
  unfold cross
  simp only [segs_mv, any_map']
  unfold crossS
  simp only [meetS_mv]
theorem touch_mv (v : Pnt) (l : Poly) : touch (mvL v l) = touch l := by
  unfold touch
  simp only [mvL_len, rAt_mv, cross_mv]
theorem lies_mv (v : Pnt) (r o : Ring) (k : Int) : lies (mvR v r) (mvR v o) k = lies r o k := by
  unfold lies
  rw [segs_mv, any_map']
  congr 2
  funext s
  rw [show [mvR v o] = mvL v [o] from rfl, mids_mv, any_map']
  simp only [place_mv]
theorem nested_mv (v : Pnt) (l : Poly) : nested (mvL v l) = nested l := by
  unfold nested
  simp only [mvL_len, rAt_mv, lies_mv]
theorem at1_mv (v p : Pnt) : at1 (mv v p) = mvP v (at1 p) := by unfold at1 mv mvP; simp
theorem ringsAt_mv (v : Pnt) (l : Poly) (p : Pnt) : ringsAt (mvL v l) (mv v p) = ringsAt l p := by
  unfold ringsAt
  simp only [mvL_len, rAt_mv, at1_mv, place_mv]
theorem touchF_mv (v : Pnt) (l : Poly) (a : List Pnt) (p : Pnt) : touchF (mvL v l) (a.map (mv v)) (mv v p) = (touchF l a p).map (mv v) := by
  unfold touchF
  have e : mv v p ∈ a.map (mv v) ↔ p ∈ a := by
    rw [List.mem_map]
    constructor
    · rintro ⟨q, hq, e⟩; rw [← mv_inj.1 e]; exact hq
    · intro h; exact ⟨p, h, rfl⟩
  simp only [e, ringsAt_mv]
  split
  · simp
  · rfl
theorem touch_fold_mv (v : Pnt) (l : Poly) : ∀ (ps a : List Pnt), (ps.map (mv v)).foldl (touchF (mvL v l)) (a.map (mv v)) = (ps.foldl (touchF l) a).map (mv v) := by
  intro ps
  induction ps with
  | nil => intro a; rfl
  | cons p t ih => intro a; rw [List.map_cons, List.foldl_cons, List.foldl_cons, touchF_mv, ih]
theorem touchPts_mv (v : Pnt) (l : Poly) : touchPts (mvL v l) = (touchPts l).map (mv v) := by
  unfold touchPts
  rw [flat_mv]
  exact touch_fold_mv v l _ []
theorem wayL_mv (v : Pnt) (l : Poly) : ∀ (ps : List Pnt) (g : List Nat), wayL (mvL v l) (ps.map (mv v)) g = wayL l ps g := by
  intro ps
  induction ps with
  | nil => intro g; rfl
  | cons p t ih =>
    intro g
    rw [List.map_cons]
    unfold wayL
    rw [ringsAt_mv]
    cases join g (ringsAt l p) with
    | none => rfl
    | some g' => exact ih g'
theorem way_mv (v : Pnt) (l : Poly) : way (mvL v l) = way l := by
  unfold way
  rw [touchPts_mv, wayL_mv, mvL_len]
theorem holdsC_mv (v : Pnt) (c : Nat) (l : Poly) : holdsC c (mvL v l) = holdsC c l := by
  unfold holdsC
  rw [simple_mv, touch_mv, nested_mv, way_mv]
theorem badC_mv (v : Pnt) (c : Nat) (m : Mult) : badC c (mvM v m) = badC c m := by
  unfold badC mvM
  rw [any_map']
  simp only [holdsC_mv]
theorem freeL_mv (v : Pnt) : ∀ (l : List Ring) (a b : Bool) (p : Spot), freeL (l.map (mvR v)) a b (mvP v p) = freeL l a b p := by
  intro l
  induction l with
  | nil => intro a b p; rfl
  | cons r t ih => intro a b p; rw [List.map_cons]; unfold freeL; simp only [place_mv, ih]
theorem enters_mv (v : Pnt) (a b : Poly) : enters (mvL v a) (mvL v b) = enters a b := by
  unfold enters
  rw [show mvL v a = a.map (mvR v) from rfl, any_map']
  congr 1
  funext r
  rw [segs_mv, any_map']
  congr 1
  funext s
  rw [mids_mv, any_map']
  congr 1
  funext m
  unfold free
  rw [show mvL v b = b.map (mvR v) from rfl, freeL_mv]
theorem boundsX_mv (v : Pnt) (a b : Poly) : boundsX (mvL v a) (mvL v b) = boundsX a b := by
  unfold boundsX mvL
  simp only [any_map', cross_mv]
theorem overlap_mv (v : Pnt) (m : Mult) : overlap (mvM v m) = overlap m := by
  unfold overlap
  simp only [mvM_len, pAt_mv, boundsX_mv, enters_mv]
/-- Moved: the same clause. -/
theorem least_mv (v : Pnt) (m : Mult) : least (mvM v m) = least m := by
  unfold least
  simp only [badC_mv, overlap_mv]

/-! ### the one way is moved -/
theorem ptAt_mv (v : Pnt) (r : Ring) {i : Nat} (h : i < r.length) : ptAt (mvR v r) i = mv v (ptAt r i) := by
  unfold ptAt mvR
  rw [List.getD_eq_getElem?_getD, List.getD_eq_getElem?_getD, List.getElem?_map, List.getElem?_eq_getElem h]
  rfl
theorem side_mv (v a b p : Pnt) : side (mv v a, mv v b) (at1 (mv v p)) = side (a, b) (at1 p) := by
  unfold side at1
  simp only
  rw [cr_mv1]
theorem turns_mv (v : Pnt) (r : Ring) {i : Nat} (h : i < r.length) : turns (mvR v r) i = turns r i := by
  unfold turns
  by_cases h1 : 1 ≤ i
  · have e : nextI (mvR v r) i = mv v (nextI r i) := by
      unfold nextI
      rw [mvR_len]
      split
      · rename_i k; exact ptAt_mv v r k
      · exact ptAt_mv v r (by omega)
    rw [e, ptAt_mv v r h, ptAt_mv v r (by omega), side_mv]
  · rw [decide_eq_false h1]; rfl
theorem corners_mv (v : Pnt) (r : Ring) : corners (mvR v r) = mvR v (corners r) := by
  unfold corners cornersI
  rw [mvR_len]
  have e : (List.range r.length).filter (turns (mvR v r)) = (List.range r.length).filter (turns r) := by
    apply List.filter_congr
    intro i hi
    exact turns_mv v r (List.mem_range.1 hi)
  rw [e]
  unfold mvR
  rw [List.map_map]
  apply List.map_congr_left
  intro i hi
  have := List.mem_range.1 (List.mem_filter.1 hi).1
  exact ptAt_mv v r this
theorem leastN_lt (r : Ring) : ∀ n, n ≤ r.length → 0 < r.length → leastN r n < r.length := by
  intro n
  induction n with
  | zero => intro _ h; exact h
  | succ n ih =>
    intro h h0
    unfold leastN
    rw [List.range_succ, List.foldl_append]
    simp only [List.foldl_cons, List.foldl_nil]
    unfold leastS
    split
    · omega
    · exact ih (by omega) h0
theorem leastN_mv (v : Pnt) (r : Ring) : ∀ n, n ≤ r.length → leastN (mvR v r) n = leastN r n := by
  intro n
  induction n with
  | zero => intro _; rfl
  | succ n ih =>
    intro h
    have e := ih (by omega)
    unfold leastN at *
    rw [List.range_succ, List.foldl_append, List.foldl_append, e]
    simp only [List.foldl_cons, List.foldl_nil]
    have hl := leastN_lt r n (by omega) (by omega)
    unfold leastN at hl
    unfold leastS at *
    rw [ptAt_mv v r (by omega), ptAt_mv v r hl]
    simp only [bef_mv]
theorem leastI_mv (v : Pnt) (r : Ring) : leastI (mvR v r) = leastI r := by
  unfold leastI; rw [mvR_len]; exact leastN_mv v r _ (Nat.le_refl _)
theorem lefts_mv (v : Pnt) (r : Ring) {k : Nat} (h : k < r.length) : lefts (mvR v r) k = lefts r k := by
  unfold lefts
  rw [mvR_len, ptAt_mv v r (Nat.mod_lt _ (by omega)), ptAt_mv v r h, ptAt_mv v r (Nat.mod_lt _ (by omega)), side_mv]
theorem ringForm_mv (v : Pnt) (r : Ring) (b : Bool) : ringForm (mvR v r) b = mvR v (ringForm r b) := by
  unfold ringForm
  rw [corners_mv, mvR_len]
  by_cases h : (corners r).length = 0
  · rw [if_pos h, if_pos h]; rfl
  · rw [if_neg h, if_neg h]
    have hl : leastI (corners r) < (corners r).length := leastN_lt _ _ (Nat.le_refl _) (by omega)
    have es : stepI (mvR v (corners r)) b = stepI (corners r) b := by
      unfold stepI
      rw [leastI_mv, lefts_mv v _ hl, mvR_len]
    rw [leastI_mv, es]
    rw [show mvR v (List.map (fun i => ptAt (corners r) ((leastI (corners r) + i * stepI (corners r) b) % (corners r).length)) (List.range ((corners r).length + 1))) = List.map (mv v) (List.map (fun i => ptAt (corners r) ((leastI (corners r) + i * stepI (corners r) b) % (corners r).length)) (List.range ((corners r).length + 1))) from rfl, List.map_map]
    apply List.map_congr_left
    intro i _
    exact ptAt_mv v _ (Nat.mod_lt _ (by omega))
theorem cmpR_mv (v : Pnt) : ∀ a b : Ring, cmpR (mvR v a) (mvR v b) = cmpR a b := by
  intro a
  induction a with
  | nil => intro b; cases b <;> rfl
  | cons p t ih =>
    intro b
    cases b with
    | nil => rfl
    | cons q u =>
      show cmpR (mv v p :: mvR v t) (mv v q :: mvR v u) = _
      unfold cmpR
      simp only [bef_mv, ih]
theorem cmpP_mv (v : Pnt) : ∀ a b : Poly, cmpP (mvL v a) (mvL v b) = cmpP a b := by
  intro a
  induction a with
  | nil => intro b; cases b <;> rfl
  | cons p t ih =>
    intro b
    cases b with
    | nil => rfl
    | cons q u =>
      show cmpP (mvR v p :: mvL v t) (mvR v q :: mvL v u) = _
      unfold cmpP
      simp only [cmpR_mv, ih]
theorem cntA_mv (v : Pnt) (m : Mult) (a n : Nat) : cntA (mvM v m) a n = cntA m a n := by
  unfold cntA
  congr 1
  funext i
  unfold isA
  simp only [pAt_mv, cmpP_mv]
theorem order_mv (v : Pnt) (m : Mult) : ∀ (is : List Nat) (o : Mult), is.foldl (orderS (mvM v m)) (mvM v o) = mvM v (is.foldl (orderS m) o) := by
  intro is
  induction is with
  | nil => intro o; rfl
  | cons i t ih =>
    intro o
    rw [List.foldl_cons, List.foldl_cons, ← ih]
    congr 1
    unfold orderS
    rw [mvM_len, cntA_mv, pAt_mv]
    unfold mvM
    rw [List.map_set]
theorem inOrder_mv (v : Pnt) (m : Mult) : inOrder (mvM v m) = mvM v (inOrder m) := by
  unfold inOrder orderN
  rw [mvM_len, ← order_mv]
  congr 1
  unfold mvM
  rw [List.map_replicate]
  rfl
theorem polyForm_mv (v : Pnt) (l : Poly) : polyForm (mvL v l) = mvL v (polyForm l) := by
  cases l with
  | nil => rfl
  | cons r t =>
    show ringForm (mvR v r) true :: (inOrder (holesF (mvL v t))).flatten = _
    have e : holesF (mvL v t) = mvM v (holesF t) := by
      unfold holesF mvL mvM
      rw [List.map_map, List.map_map]
      apply List.map_congr_left
      intro x _
      show [ringForm (mvR v x) false] = [mvR v (ringForm x false)]
      rw [ringForm_mv]
    rw [e, inOrder_mv, ringForm_mv]
    show _ = mvR v (ringForm r true) :: mvL v (inOrder (holesF t)).flatten
    congr 1
    unfold mvM mvL
    rw [List.map_flatten]
/-- Moved: the one way is moved. -/
theorem form_mv (v : Pnt) (m : Mult) : form (mvM v m) = mvM v (form m) := by
  unfold form
  rw [← inOrder_mv]
  congr 1
  unfold mvM
  rw [List.map_map, List.map_map]
  apply List.map_congr_left
  intro x _
  exact polyForm_mv v x
end Vd
end Go.Proofs.YtcclepohmhdpbaaGreatDoor

/- MOVED, PLAINLY: what is moved is parted from what it was. -/
namespace Go.Proofs.YtcclepohmhdpbaaGreatDoor
set_option linter.all false
namespace Vd
/-- Rings that are closed and have no segment without length. -/
structure RG (X : Mult) : Prop where
  long : ∀ r ∈ X.flatten, Long r
  from_ : ∀ r ∈ X.flatten, ∀ p ∈ r, ∃ q, (p, q) ∈ segs r
theorem least_of {l : List Pnt} (h : l ≠ []) : ∃ p ∈ l, ∀ q ∈ l, q = p ∨ bef p q := by
  induction l with
  | nil => exact absurd rfl h
  | cons a t ih =>
    by_cases ht : t = []
    · subst ht; exact ⟨a, by simp, by simp⟩
    · obtain ⟨p, hp, hl⟩ := ih ht
      rcases bef_tri a p with k | k | k
      · refine ⟨a, by simp, fun q hq => ?_⟩
        rcases List.mem_cons.1 hq with e | hq
        · exact .inl e
        · rcases hl q hq with e | e
          · rw [e]; exact .inr k
          · exact .inr (bef_trans k e)
      · refine ⟨a, by simp, fun q hq => ?_⟩
        rcases List.mem_cons.1 hq with e | hq
        · exact .inl e
        · rw [k]; exact hl q hq
      · refine ⟨p, by simp [hp], fun q hq => ?_⟩
        rcases List.mem_cons.1 hq with e | hq
        · rw [e]; exact .inr k
        · exact hl q hq
theorem lookL_none {other : Mult} {both : List Seg} {s : Seg} {m : Spot} : ∀ {l : List Seg}, lookL other both s m l = none → ∃ t ∈ l, has t.1 t.2 m.1 m.2 ∧ turnW (along s) (along t) = 0 := by
  intro l
  induction l with
  | nil => intro h; unfold lookL at h; split at h <;> cases h
  | cons t l ih =>
    intro h
    unfold lookL at h
    split at h
    · rename_i hb
      unfold atBoth at h
      split at h
      · cases h
      · split at h
        · cases h
        · exact ⟨t, by simp, of_decide_eq_true hb, by omega⟩
    · obtain ⟨u, hu, k⟩ := ih h
      exact ⟨u, by simp [hu], k⟩
theorem atBounds_none {a b : Mult} (h : atBounds a b = none) {s : Seg} (hs : s ∈ edges a.flatten) {m : Spot} (hm : m ∈ mids s (a.flatten ++ b.flatten)) : ∃ t ∈ edges b.flatten, has t.1 t.2 m.1 m.2 ∧ turnW (along s) (along t) = 0 := by
  unfold atBounds at h
  rw [List.findSome?_eq_none_iff] at h
  have := h s hs
  rw [List.findSome?_eq_none_iff] at this
  exact lookL_none (this m hm)
theorem mem_edges {l : Poly} {s : Seg} : s ∈ edges l ↔ ∃ r ∈ l, s ∈ segs r := by unfold edges; rw [List.mem_flatMap]
/-- The least point of all is a vertex of the one and not of the other: they are parted. -/
theorem parted_at {a b : Mult} (ha : RG a) (hb : RG b) {p : Pnt} (hp : p ∈ a.flatten.flatten) (hn : p ∉ b.flatten.flatten) (hl : ∀ q, q ∈ a.flatten.flatten ∨ q ∈ b.flatten.flatten → q = p ∨ bef p q) : atBounds a b ≠ none := by
  intro h
  obtain ⟨r, hr, hpr⟩ := List.mem_flatten.1 hp
  obtain ⟨q, hq⟩ := ha.from_ r hr p hpr
  have hpq : p ≠ q := ha.long r hr (p, q) hq
  have hbq : bef p q := by
    rcases hl q (.inl (List.mem_flatten.2 ⟨r, hr, (segs_mem hq).2⟩)) with e | e
    · exact absurd e.symm hpq
    · exact e
  have hk := kk_pos hpq
  -- the first part
  obtain ⟨h1, h2, h3, h4⟩ := fold_near (pos p q) (fun x => has p q x 1) p (a.flatten ++ b.flatten).flatten q (by rw [pos_a, pos_b]; exact hk)
  generalize hz : (a.flatten ++ b.flatten).flatten.foldl (cutG (pos p q) (fun x => has p q x 1) p) q = z at *
  rw [pos_a] at h2
  rw [pos_b] at h3
  have hzl : cr p q z 1 = 0 := by
    rcases h1 with e | ⟨-, e⟩
    · rw [e]; exact cr_b _ _
    · exact e.1
  have hcz : Cut p q (a.flatten ++ b.flatten).flatten z := by
    rcases h1 with e | ⟨e1, e2⟩
    · exact .inr (.inl e)
    · exact .inr (.inr ⟨e1, e2⟩)
  have hm : midOf p z ∈ mids (p, q) (a.flatten ++ b.flatten) := by
    rw [mem_mids hpq]
    refine ⟨p, z, ⟨.inl rfl, hcz, by rw [pos_a]; exact h2, ?_⟩, rfl⟩
    intro c hc
    rw [pos_a]
    rcases hc with rfl | rfl | ⟨e1, e2⟩
    · rw [pos_a]; omega
    · rw [pos_b]; omega
    · have := h4 c e1 e2
      rw [pos_a] at this
      exact this
  obtain ⟨t, ht, hh, htn⟩ := atBounds_none h (mem_edges.2 ⟨r, hr, hq⟩) hm
  obtain ⟨o, ho, hto⟩ := mem_edges.1 ht
  have htl := hb.long o ho t hto
  have hh' : has t.1 t.2 (midOf p z).1 2 := hh
  have hk2 := kk_pos htl
  obtain ⟨g0, g1, g2⟩ := (has_on htl (by omega)).1 hh'
  -- both of the other's ends lie on the line
  have hpar : (q.1 - p.1) * (t.2.2 - t.1.2) - (q.2 - p.2) * (t.2.1 - t.1.1) = 0 := htn
  have hmid : cr p q (midOf p z).1 2 = 0 := by rw [cr_mid, cr_a, hzl]; rfl
  have lin : ∀ x : Int, kk t.1 t.2 * x = 0 → x = 0 := by
    intro x e
    rcases Int.mul_eq_zero.1 e with e | e
    · omega
    · exact e
  have e1 : dt t.1 t.2 (midOf p z).1 2 * (t.2.1 - t.1.1) = ((midOf p z).1.1 - t.1.1 * 2) * kk t.1 t.2 := by unfold cr at g0; unfold dt kk; grind
  have e2 : dt t.1 t.2 (midOf p z).1 2 * (t.2.2 - t.1.2) = ((midOf p z).1.2 - t.1.2 * 2) * kk t.1 t.2 := by unfold cr at g0; unfold dt kk; grind
  have c2 : cr p q t.1 1 * 2 = 0 := by
    apply lin
    generalize dt t.1 t.2 (midOf p z).1 2 = T at *
    generalize kk t.1 t.2 = K at *
    generalize (midOf p z).1 = M at *
    unfold cr at *
    grind
  have c1 : cr p q t.1 1 = 0 := by omega
  have c3 : cr p q t.2 1 = 0 := by
    have : cr p q t.2 1 - cr p q t.1 1 = (q.1 - p.1) * (t.2.2 - t.1.2) - (q.2 - p.2) * (t.2.1 - t.1.1) := by unfold cr; grind
    omega
  -- places
  have ep : dt p q (midOf p z).1 2 = pos p q z := by
    have : dt p q (midOf p z).1 2 = pos p q p + pos p q z := by unfold midOf pos dt; grind
    rw [this, pos_a]; omega
  have et : (dt p q (midOf p z).1 2 - 2 * pos p q t.1) * kk t.1 t.2 = dt t.1 t.2 (midOf p z).1 2 * (pos p q t.2 - pos p q t.1) := by
    generalize dt t.1 t.2 (midOf p z).1 2 = T at *
    generalize kk t.1 t.2 = K at *
    unfold pos dt at *
    grind
  -- an end at or before the middle
  have key : ∃ c, c ∈ o ∧ cr p q c 1 = 0 ∧ 2 * pos p q c ≤ pos p q z := by
    rcases Int.le_total (pos p q t.1) (pos p q t.2) with k | k
    · refine ⟨t.1, (segs_mem hto).1, c1, ?_⟩
      have : 0 ≤ dt t.1 t.2 (midOf p z).1 2 * (pos p q t.2 - pos p q t.1) := Int.mul_nonneg g1 (by omega)
      rw [← et, ep] at this
      have := Int.nonneg_of_mul_nonneg_left this hk2
      omega
    · refine ⟨t.2, (segs_mem hto).2, c3, ?_⟩
      have e3 : (dt p q (midOf p z).1 2 - 2 * pos p q t.2) * kk t.1 t.2 = (kk t.1 t.2 * 2 - dt t.1 t.2 (midOf p z).1 2) * (pos p q t.1 - pos p q t.2) := by
        generalize dt p q (midOf p z).1 2 = A at *
        generalize dt t.1 t.2 (midOf p z).1 2 = T at *
        generalize kk t.1 t.2 = K at *
        grind
      have : 0 ≤ (kk t.1 t.2 * 2 - dt t.1 t.2 (midOf p z).1 2) * (pos p q t.1 - pos p q t.2) := Int.mul_nonneg (by omega) (by omega)
      rw [← e3, ep] at this
      have := Int.nonneg_of_mul_nonneg_left this hk2
      omega
  obtain ⟨c, hco, hcl, hc2⟩ := key
  have hcb : c ∈ b.flatten.flatten := List.mem_flatten.2 ⟨o, ho, hco⟩
  have hcp : c ≠ p := fun e => hn (e ▸ hcb)
  rcases hl c (.inr hcb) with e | e
  · exact hcp e
  · have hpos := (bef_pos' hbq (cr_a p q) hcl).1 e
    rw [pos_a] at hpos
    have hci : c ∈ (a.flatten ++ b.flatten).flatten := by
      rw [List.flatten_append, List.mem_append]; exact .inr hcb
    have hch : has p q c 1 := by
      rw [has_on hpq (by omega)]
      exact ⟨hcl, by show 0 ≤ pos p q c; omega, by show pos p q c ≤ _; omega⟩
    have := h4 c hci hch
    rw [pos_a] at this
    exact this ⟨hpos, by omega⟩
theorem rg_mv {X : Mult} (h : RG X) (v : Pnt) : RG (mvM v X) := by
  have ef : (mvM v X).flatten = mvL v X.flatten := by unfold mvM mvL; rw [List.map_flatten]
  constructor
  · intro r hr s hs
    rw [ef] at hr
    obtain ⟨r0, h0, rfl⟩ := List.mem_map.1 hr
    rw [segs_mv] at hs
    obtain ⟨s0, h1, rfl⟩ := List.mem_map.1 hs
    exact fun e => h.long r0 h0 s0 h1 (mv_inj.1 e)
  · intro r hr p hp
    rw [ef] at hr
    obtain ⟨r0, h0, rfl⟩ := List.mem_map.1 hr
    obtain ⟨p0, h1, rfl⟩ := List.mem_map.1 hp
    obtain ⟨q, hq⟩ := h.from_ r0 h0 p0 h1
    refine ⟨mv v q, ?_⟩
    rw [segs_mv]
    exact List.mem_map.2 ⟨(p0, q), hq, rfl⟩
theorem spot_mv {X : Mult} (h : RG X) (hne : X.flatten.flatten ≠ []) {v : Pnt} (hv : v ≠ (0, 0)) : spot X (mvM v X) ≠ none := by
  have h' := rg_mv h v
  have ef : (mvM v X).flatten.flatten = X.flatten.flatten.map (mv v) := by
    have : (mvM v X).flatten = mvL v X.flatten := by unfold mvM mvL; rw [List.map_flatten]
    rw [this, flat_mv]
  obtain ⟨p, hp, hl⟩ := least_of hne
  have hl2 : ∀ q ∈ (mvM v X).flatten.flatten, q = mv v p ∨ bef (mv v p) q := by
    intro q hq
    rw [ef] at hq
    obtain ⟨q0, h0, rfl⟩ := List.mem_map.1 hq
    rcases hl q0 h0 with e | e
    · exact .inl (by rw [e])
    · exact .inr (bef_mv.2 e)
  have hpy : mv v p ∈ (mvM v X).flatten.flatten := by rw [ef]; exact List.mem_map_of_mem hp
  have hne2 : mv v p ≠ p := by
    intro e
    unfold mv at e
    have e1 := congrArg Prod.fst e
    have e2 := congrArg Prod.snd e
    simp only at e1 e2
    exact hv (Prod.ext (by simp only; omega) (by simp only; omega))
  unfold spot
  rcases bef_tri p (mv v p) with k | k | k
  · have := parted_at h h' hp (fun e => by
      rcases hl2 p e with g | g
      · exact hne2 g.symm
      · exact bef_irr g k) (fun q hq => by
      rcases hq with hq | hq
      · exact hl q hq
      · rcases hl2 q hq with e | e
        · rw [e]; exact .inr k
        · exact .inr (bef_trans k e))
    cases hs : atBounds X (mvM v X) with
    | none => exact absurd hs this
    | some s => simp
  · exact absurd k.symm hne2
  · have := parted_at h' h hpy (fun e => by
      rcases hl (mv v p) e with g | g
      · exact hne2 g
      · exact bef_irr g k) (fun q hq => by
      rcases hq with hq | hq
      · exact hl2 q hq
      · rcases hl q hq with e | e
        · rw [e]; exact .inr k
        · exact .inr (bef_trans k e))
    cases hs : atBounds X (mvM v X) with
    | none => exact this
    | some s => simp
end Vd
end Go.Proofs.YtcclepohmhdpbaaGreatDoor

/- THE ONE WAY, PLAINLY: its rings are closed and long, if the set is valid. -/
namespace Go.Proofs.YtcclepohmhdpbaaGreatDoor
set_option linter.all false
namespace Vd
/-- A ring that does not meet itself. -/
structure VR (r : Ring) : Prop where
  shut : Shut r
  tw : twice r = false
  self : selfR r = false
theorem least0 {m : Mult} (h : least m = 0) : badC 1 m = false ∧ badC 2 m = false ∧ badC 3 m = false ∧ badC 4 m = false ∧ overlap m = false := by
  unfold least at h
  cases h1 : badC 1 m <;> cases h2 : badC 2 m <;> cases h3 : badC 3 m <;> cases h4 : badC 4 m <;> cases h5 : overlap m <;> simp_all
theorem vr_of {m : Mult} (hg : Good m) (h : badC 1 m = false) : ∀ l ∈ m, ∀ r ∈ l, VR r := by
  intro l hl r hr
  have : (twice r || selfR r) = false := by
    cases hx : (twice r || selfR r) with
    | false => rfl
    | true =>
      have : badC 1 m = true := by
        unfold badC
        refine List.any_eq_true.2 ⟨l, hl, ?_⟩
        unfold holdsC simple
        simp only [if_true, Bool.not_not]
        exact List.any_eq_true.2 ⟨r, hr, hx⟩
      rw [h] at this; cases this
  rw [Bool.or_eq_false_iff] at this
  exact ⟨hg.shut l hl r hr, this.1, this.2⟩
theorem VR.long {r : Ring} (h : VR r) : Long r := long_of h.shut h.tw
theorem VR.meet {r : Ring} (h : VR r) {i j : Nat} (hij : i < j) (hj : j + 1 < r.length) : meetS (ptAt r i, ptAt r (i + 1)) (ptAt r j, ptAt r (j + 1)) = wantI (r.length - 1) i j := by
  have hs := h.self
  cases hx : decide (meetS (sAt (segs r) i) (sAt (segs r) j) ≠ wantI (segs r).length i j) with
  | true =>
    have : selfR r = true := by
      unfold selfR
      exact anyI_true (i := j) (by rw [segs_len]; omega) (anyI_true (i := i) hij hx)
    rw [hs] at this; cases this
  | false =>
    have := of_decide_eq_false hx
    rw [sAt_get (by omega), sAt_get (by omega), segs_len] at this
    exact Decidable.not_not.1 this
/-- Segments that follow each other touch. -/
theorem VR.adj {r : Ring} (h : VR r) {i : Nat} (h1 : 1 ≤ i) (hi : i < r.length) : meetS (ptAt r (i - 1), ptAt r i) (ptAt r i, nextI r i) = 1 := by
  have h4 := h.shut.len
  unfold nextI
  by_cases hl : i + 1 < r.length
  · rw [if_pos hl]
    have := h.meet (i := i - 1) (j := i) (by omega) hl
    rw [show i - 1 + 1 = i by omega] at this
    rw [this]
    unfold wantI
    rw [if_pos (by omega)]
  · rw [if_neg hl, meetS_symm]
    have := h.meet (i := 0) (j := i - 1) (by omega) (by omega)
    rw [show i - 1 + 1 = i by omega, h.shut.eq, show r.length - 1 = i by omega] at this
    rw [this]
    unfold wantI
    rw [if_pos (by omega)]
theorem nextI_mem {r : Ring} (h : Shut r) {i : Nat} (hi : i < r.length) : nextI r i ∈ r := by
  have h4 := h.len
  unfold nextI
  split
  · rename_i k; exact List.mem_of_getElem? (ptAt_get k)
  · exact List.mem_of_getElem? (ptAt_get (by omega))
theorem ptAt_mem {r : Ring} {i : Nat} (hi : i < r.length) : ptAt r i ∈ r := List.mem_of_getElem? (ptAt_get hi)
theorem onLine_same {p x y : Pnt} (hx : bef p x) (hy : bef p y) : onLine (p, x) (p, y) = 3 := by
  unfold onLine
  simp only
  rw [if_neg (fun k => bef_irr k k)]
  split <;> first | rfl | rw [if_pos hy] | rw [if_pos hx]
theorem onLine_same' {p x y : Pnt} (hx : bef x p) (hy : bef y p) : onLine (x, p) (y, p) = 3 := by
  unfold onLine
  simp only
  rw [if_neg (c := bef p p) (fun k => bef_irr k k)]
  split <;> first | rfl | rw [if_pos hy] | rw [if_pos hx]
/-- At its least and at its greatest vertex a ring turns. -/
theorem VR.turns {r : Ring} (h : VR r) {i : Nat} (h1 : 1 ≤ i) (hi : i < r.length) (he : (∀ p ∈ r, p = ptAt r i ∨ bef (ptAt r i) p) ∨ (∀ p ∈ r, p = ptAt r i ∨ bef p (ptAt r i))) : turns r i = true := by
  unfold Vd.turns
  rw [decide_eq_true h1, Bool.true_and, decide_eq_true_eq]
  intro hz
  have hadj := h.adj h1 hi
  have hl := h.long
  have s1 : ptAt r (i - 1) ≠ ptAt r i := by
    have := hl (ptAt r (i - 1), ptAt r (i - 1 + 1)) (List.mem_of_getElem? (segs_at (ptAt_get (by omega)) (ptAt_get (by omega))))
    rw [show i - 1 + 1 = i by omega] at this
    exact this
  have s2 : ptAt r i ≠ nextI r i := by
    have h4 := h.shut.len
    unfold nextI
    split
    · rename_i k
      exact hl (ptAt r i, ptAt r (i + 1)) (List.mem_of_getElem? (segs_at (ptAt_get (by omega)) (ptAt_get k)))
    · have := hl (ptAt r 0, ptAt r 1) (List.mem_of_getElem? (segs_at (ptAt_get (by omega)) (ptAt_get (by omega))))
      rw [h.shut.eq, show r.length - 1 = i by omega] at this
      exact this
  have cz : cr (ptAt r (i - 1)) (ptAt r i) (nextI r i) 1 = 0 := (sg_zero _).1 hz
  have hm1 := ptAt_mem (r := r) (i := i - 1) (by omega)
  have hm2 := nextI_mem h.shut hi
  generalize ptAt r (i - 1) = x at *
  generalize nextI r i = y at *
  generalize ptAt r i = p at *
  have z1 := cr_b x p
  obtain ⟨z3, z4⟩ := line_other s1 z1 cz
  have hm : meetS (x, p) (p, y) = onLine (fwd x p) (fwd p y) := by
    unfold meetS Vd.meet
    simp [z1, cz, z3, z4, sg]
  rw [hm] at hadj
  rcases he with he | he
  · have b1 : bef p x := by rcases he x hm1 with e | e; exact absurd e s1; exact e
    have b2 : bef p y := by rcases he y hm2 with e | e; exact absurd e.symm s2; exact e
    have e1 : fwd x p = (p, x) := by unfold fwd; rw [if_pos b1]
    have e2 : fwd p y = (p, y) := by unfold fwd; rw [if_neg (fun k => bef_irr b2 k)]
    rw [e1, e2, onLine_same b1 b2] at hadj
    omega
  · have b1 : bef x p := by rcases he x hm1 with e | e; exact absurd e s1; exact e
    have b2 : bef y p := by rcases he y hm2 with e | e; exact absurd e.symm s2; exact e
    have e1 : fwd x p = (x, p) := by unfold fwd; rw [if_neg (fun k => bef_irr b1 k)]
    have e2 : fwd p y = (y, p) := by unfold fwd; rw [if_pos b2]
    rw [e1, e2, onLine_same' b1 b2] at hadj
    omega
theorem greatest_of {l : List Pnt} (h : l ≠ []) : ∃ p ∈ l, ∀ q ∈ l, q = p ∨ bef q p := by
  induction l with
  | nil => exact absurd rfl h
  | cons a t ih =>
    by_cases ht : t = []
    · subst ht; exact ⟨a, by simp, by simp⟩
    · obtain ⟨p, hp, hl⟩ := ih ht
      rcases bef_tri p a with k | k | k
      · refine ⟨a, by simp, fun q hq => ?_⟩
        rcases List.mem_cons.1 hq with e | hq
        · exact .inl e
        · rcases hl q hq with e | e
          · rw [e]; exact .inr k
          · exact .inr (bef_trans e k)
      · refine ⟨a, by simp, fun q hq => ?_⟩
        rcases List.mem_cons.1 hq with e | hq
        · exact .inl e
        · rw [← k]; exact hl q hq
      · refine ⟨p, by simp [hp], fun q hq => ?_⟩
        rcases List.mem_cons.1 hq with e | hq
        · rw [e]; exact .inr k
        · exact hl q hq
/-- Each point of a shut ring stands at a place behind the first. -/
theorem place_of {r : Ring} (h : Shut r) {p : Pnt} (hp : p ∈ r) : ∃ i, 1 ≤ i ∧ i < r.length ∧ ptAt r i = p := by
  obtain ⟨i, hi, e⟩ := List.getElem_of_mem hp
  have e' : ptAt r i = p := by
    have := ptAt_get hi
    rw [List.getElem?_eq_getElem hi, e] at this
    exact (Option.some.inj this).symm
  have h4 := h.len
  by_cases h0 : i = 0
  · exact ⟨r.length - 1, by omega, by omega, by rw [← h.eq, ← h0]; exact e'⟩
  · exact ⟨i, by omega, hi, e'⟩
theorem mem_corners {r : Ring} {p : Pnt} : p ∈ corners r ↔ ∃ i, i < r.length ∧ Vd.turns r i = true ∧ ptAt r i = p := by
  unfold corners cornersI
  simp only [List.mem_map, List.mem_filter, List.mem_range]
  constructor
  · rintro ⟨i, ⟨h1, h2⟩, h3⟩; exact ⟨i, h1, h2, h3⟩
  · rintro ⟨i, h1, h2, h3⟩; exact ⟨i, ⟨h1, h2⟩, h3⟩
theorem map_nodup {f : Nat → Pnt} {l : List Nat} (h : l.Nodup) (hf : ∀ x ∈ l, ∀ y ∈ l, f x = f y → x = y) : (l.map f).Nodup := by
  induction l with
  | nil => exact List.nodup_nil
  | cons a t ih =>
    rw [List.nodup_cons] at h
    rw [List.map_cons, List.nodup_cons]
    refine ⟨?_, ih h.2 fun x hx y hy => hf x (by simp [hx]) y (by simp [hy])⟩
    intro hm
    obtain ⟨b, hb, e⟩ := List.mem_map.1 hm
    have := hf b (by simp [hb]) a (by simp) e
    exact h.1 (this ▸ hb)
theorem VR.corners_nodup {r : Ring} (h : VR r) : (corners r).Nodup := by
  unfold corners cornersI
  refine map_nodup (List.Pairwise.filter _ List.nodup_range) ?_
  intro x hx y hy e
  have hx1 := List.mem_filter.1 hx
  have hy1 := List.mem_filter.1 hy
  have hx2 := List.mem_range.1 hx1.1
  have hy2 := List.mem_range.1 hy1.1
  have hx3 : 1 ≤ x := by have := hx1.2; unfold Vd.turns at this; simp only [Bool.and_eq_true, decide_eq_true_eq] at this; exact this.1
  have hy3 : 1 ≤ y := by have := hy1.2; unfold Vd.turns at this; simp only [Bool.and_eq_true, decide_eq_true_eq] at this; exact this.1
  rcases Nat.lt_trichotomy x y with k | k | k
  · have : twice r = true := twice_iff.2 ⟨x, y, hx3, k, hy2, e⟩
    rw [h.tw] at this; cases this
  · exact k
  · have : twice r = true := twice_iff.2 ⟨y, x, hy3, k, hx2, e.symm⟩
    rw [h.tw] at this; cases this
theorem VR.corners_two {r : Ring} (h : VR r) : 2 ≤ (corners r).length := by
  have hne : r ≠ [] := by intro e; have := h.shut.len; rw [e] at this; simp at this
  obtain ⟨p, hp, hpl⟩ := least_of hne
  obtain ⟨q, hq, hql⟩ := greatest_of hne
  obtain ⟨i, i1, i2, i3⟩ := place_of h.shut hp
  obtain ⟨j, j1, j2, j3⟩ := place_of h.shut hq
  have m1 : p ∈ corners r := mem_corners.2 ⟨i, i2, h.turns i1 i2 (.inl (by rw [i3]; exact hpl)), i3⟩
  have m2 : q ∈ corners r := mem_corners.2 ⟨j, j2, h.turns j1 j2 (.inr (by rw [j3]; exact hql)), j3⟩
  have hpq : p ≠ q := by
    intro e
    have h4 := h.shut.len
    have h0 := ptAt_mem (r := r) (i := 1) (by omega)
    have h2 := ptAt_mem (r := r) (i := 2) (by omega)
    have hl := h.long (ptAt r 1, ptAt r 2) (List.mem_of_getElem? (segs_at (ptAt_get (by omega)) (ptAt_get (by omega))))
    have one : ∀ x ∈ r, x = p := by
      intro x hx
      rcases hpl x hx with k | k
      · exact k
      · rcases hql x hx with k2 | k2
        · rw [k2, e]
        · rw [← e] at k2; exact (bef_irr k k2).elim
    exact hl (by rw [one _ h0, one _ h2])
  match hc : corners r with
  | [] => rw [hc] at m1; cases m1
  | [x] => rw [hc] at m1 m2; simp at m1 m2; exact absurd (m1.trans m2.symm) hpq
  | x :: y :: t => simp
theorem ringForm_len {r : Ring} (h : 0 < (corners r).length) (b : Bool) : (ringForm r b).length = (corners r).length + 1 := by
  unfold ringForm; rw [if_neg (by omega)]; simp
theorem ringForm_at {r : Ring} (h : 0 < (corners r).length) (b : Bool) {i : Nat} (hi : i < (corners r).length + 1) : ptAt (ringForm r b) i = ptAt (corners r) ((leastI (corners r) + i * stepI (corners r) b) % (corners r).length) := by
  unfold ringForm; rw [if_neg (by omega)]
  unfold ptAt
  rw [List.getD_eq_getElem?_getD, List.getElem?_map, List.getElem?_range hi]
  rfl
theorem step_cases (v : Ring) (b : Bool) : stepI v b = 1 ∨ stepI v b = v.length - 1 := by unfold stepI; split; exact .inl rfl; exact .inr rfl
theorem nodup_at {v : Ring} (h : v.Nodup) {i j : Nat} (hi : i < v.length) (hj : j < v.length) (e : ptAt v i = ptAt v j) : i = j := by
  have h1 := ptAt_get hi
  have h2 := ptAt_get hj
  rw [e, ← h2] at h1
  exact (List.getElem?_inj hi h).1 h1
theorem mod_step {a k s n : Nat} (hn : 2 ≤ n) (hs : s = 1 ∨ s = n - 1) : (a + k * s) % n ≠ (a + (k + 1) * s) % n := by
  have e : a + (k + 1) * s = a + k * s + s := by rw [Nat.add_mul]; omega
  rw [e]
  generalize a + k * s = x
  intro h
  have h1 : (x + s) % n = (x % n + s) % n := (Nat.mod_add_mod x n s).symm
  rw [h1] at h
  have h2 := Nat.mod_lt x (show 0 < n by omega)
  generalize x % n = y at *
  rcases hs with rfl | rfl
  · by_cases h3 : y + 1 < n
    · rw [Nat.mod_eq_of_lt h3] at h; omega
    · rw [show y + 1 = n by omega, Nat.mod_self] at h; omega
  · by_cases h3 : y = 0
    · rw [h3, Nat.zero_add, Nat.mod_eq_of_lt (by omega)] at h; omega
    · rw [Nat.mod_eq_sub_mod (by omega), Nat.mod_eq_of_lt (by omega)] at h; omega
theorem VR.form_long {r : Ring} (h : VR r) (b : Bool) : Long (ringForm r b) := by
  have h2 := h.corners_two
  intro s hs
  obtain ⟨i, hi, rfl⟩ := segs_mem_at hs
  rw [ringForm_len (by omega)] at hi
  rw [ringForm_at (by omega) b (by omega), ringForm_at (by omega) b hi]
  intro e
  have := nodup_at h.corners_nodup (Nat.mod_lt _ (by omega)) (Nat.mod_lt _ (by omega)) e
  exact mod_step h2 (step_cases _ b) this
theorem VR.form_shut {r : Ring} (h : VR r) (b : Bool) : ptAt (ringForm r b) 0 = ptAt (ringForm r b) ((ringForm r b).length - 1) := by
  have h2 := h.corners_two
  rw [ringForm_len (by omega), ringForm_at (by omega) b (by omega), ringForm_at (by omega) b (by omega)]
  congr 1
  simp
theorem VR.form_from {r : Ring} (h : VR r) (b : Bool) : ∀ p ∈ ringForm r b, ∃ q, (p, q) ∈ segs (ringForm r b) := by
  have h2 := h.corners_two
  have hlen := ringForm_len (r := r) (by omega) b
  have hsh := h.form_shut b
  intro p hp
  obtain ⟨i, hi, e⟩ := List.getElem_of_mem hp
  have e' : ptAt (ringForm r b) i = p := by
    have := ptAt_get hi
    rw [List.getElem?_eq_getElem hi, e] at this
    exact (Option.some.inj this).symm
  by_cases hl : i + 1 < (ringForm r b).length
  · exact ⟨ptAt (ringForm r b) (i + 1), by rw [← e']; exact List.mem_of_getElem? (segs_at (ptAt_get hi) (ptAt_get hl))⟩
  · have : i = (ringForm r b).length - 1 := by omega
    rw [this, ← hsh] at e'
    exact ⟨ptAt (ringForm r b) 1, by rw [← e']; exact List.mem_of_getElem? (segs_at (ptAt_get (by omega)) (ptAt_get (by omega)))⟩

/-! ### in order -/
theorem order_mem (m : Mult) : ∀ (is : List Nat) (o : Mult), (∀ i ∈ is, i < m.length) → ∀ l ∈ is.foldl (orderS m) o, l ∈ m ∨ l ∈ o := by
  intro is
  induction is with
  | nil => intro o _ l hl; exact .inr hl
  | cons i t ih =>
    intro o hi l hl
    rw [List.foldl_cons] at hl
    rcases ih _ (fun x hx => hi x (by simp [hx])) l hl with h | h
    · exact .inl h
    · unfold orderS at h
      rcases List.mem_or_eq_of_mem_set h with h | h
      · exact .inr h
      · exact .inl (h ▸ pAt_mem (hi i (by simp)))
theorem inOrder_mem {m : Mult} {l : Poly} (h : l ∈ inOrder m) : l ∈ m ∨ l = [] := by
  unfold inOrder orderN at h
  rcases order_mem m _ _ (fun i hi => List.mem_range.1 hi) l h with h | h
  · exact .inl h
  · exact .inr (List.eq_of_mem_replicate h)
theorem cntA_lt (m : Mult) {a n : Nat} (h : a < n) : cntA m a n < n := by
  have e : isA m a a = false := by
    have hr : ∀ r : Ring, cmpR r r = 0 := by
      intro r
      induction r with
      | nil => rfl
      | cons p t ih => unfold cmpR; rw [if_neg (fun k => bef_irr k k), if_neg (fun k => bef_irr k k)]; exact ih
    have hp : ∀ l : Poly, cmpP l l = 0 := by
      intro l
      induction l with
      | nil => rfl
      | cons p t ih => unfold cmpP; rw [if_neg (by rw [hr]; simp)]; exact ih
    unfold isA
    rw [hp]; simp
  unfold cntA
  have h1 := List.countP_le_length (p := isA m a) (l := List.range n)
  rw [List.length_range] at h1
  rcases Nat.lt_or_eq_of_le h1 with k | k
  · exact k
  · exfalso
    have := (List.countP_eq_length (p := isA m a) (l := List.range n)).1 (by rw [List.length_range]; exact k) a (List.mem_range.2 h)
    rw [e] at this; cases this
theorem orderN_len (m : Mult) (n : Nat) : (orderN m n).length = m.length := by
  unfold orderN
  have : ∀ (is : List Nat) (o : Mult), (is.foldl (orderS m) o).length = o.length := by
    intro is
    induction is with
    | nil => intro o; rfl
    | cons i t ih => intro o; rw [List.foldl_cons, ih]; unfold orderS; simp
  rw [this]; simp
/-- The last that is put in place stands there. -/
theorem inOrder_last {m : Mult} (h : m ≠ []) : ∃ l ∈ m, l ∈ inOrder m := by
  have hn : 0 < m.length := List.length_pos_iff.2 h
  unfold inOrder
  obtain ⟨n, hnn⟩ : ∃ n, m.length = n + 1 := ⟨m.length - 1, by omega⟩
  refine ⟨pAt m n, pAt_mem (by omega), ?_⟩
  rw [hnn]
  unfold orderN
  rw [List.range_succ, List.foldl_append]
  simp only [List.foldl_cons, List.foldl_nil]
  unfold orderS
  refine List.mem_of_getElem? (i := cntA m n m.length) ?_
  have hl := orderN_len m n
  unfold orderN orderS at hl
  rw [List.getElem?_set_self]
  rw [hl]
  exact cntA_lt m (by omega)
theorem form_rings {m : Mult} {r : Ring} (h : r ∈ (form m).flatten) : ∃ l ∈ m, ∃ o ∈ l, ∃ b, r = ringForm o b := by
  obtain ⟨l, hl, hr⟩ := List.mem_flatten.1 h
  unfold form at hl
  rcases inOrder_mem hl with h1 | h1
  · obtain ⟨l0, h0, rfl⟩ := List.mem_map.1 h1
    refine ⟨l0, h0, ?_⟩
    cases l0 with
    | nil => cases hr
    | cons o t =>
      rcases List.mem_cons.1 hr with e | e
      · exact ⟨o, by simp, true, e⟩
      · obtain ⟨l1, h2, h3⟩ := List.mem_flatten.1 e
        rcases inOrder_mem h2 with h4 | h4
        · obtain ⟨o1, h5, rfl⟩ := List.mem_map.1 h4
          exact ⟨o1, by simp [h5], false, by simpa using h3⟩
        · rw [h4] at h3; cases h3
  · rw [h1] at hr; cases hr
theorem form_rg {m : Mult} (hv : ∀ l ∈ m, ∀ r ∈ l, VR r) : RG (form m) := by
  constructor
  · intro r hr
    obtain ⟨l, hl, o, ho, b, rfl⟩ := form_rings hr
    exact (hv l hl o ho).form_long b
  · intro r hr
    obtain ⟨l, hl, o, ho, b, rfl⟩ := form_rings hr
    exact (hv l hl o ho).form_from b
theorem form_ne {m : Mult} (hne : m ≠ []) (hg : Good m) (hv : ∀ l ∈ m, ∀ r ∈ l, VR r) : (form m).flatten.flatten ≠ [] := by
  obtain ⟨l, hl, h1⟩ := inOrder_last (m := m.map polyForm) (by simpa using hne)
  obtain ⟨l0, h0, rfl⟩ := List.mem_map.1 hl
  have hn := hg.ne l0 h0
  cases l0 with
  | nil => exact absurd rfl hn
  | cons o t =>
    have hvo := hv _ h0 o (by simp)
    have hlen := ringForm_len (r := o) (by have := hvo.corners_two; omega) true
    have hm : ptAt (ringForm o true) 0 ∈ ringForm o true := ptAt_mem (by omega)
    intro e
    have : ptAt (ringForm o true) 0 ∈ (form m).flatten.flatten := List.mem_flatten.2 ⟨ringForm o true, List.mem_flatten.2 ⟨_, h1, by simp [polyForm]⟩, hm⟩
    rw [e] at this; cases this
/-- A valid set that is not empty, moved: it is parted from what it was. -/
theorem moved_parted {m : Mult} (hne : m ≠ []) (h0 : Pl.wrong m = 0) (hl : least m = 0) {v : Pnt} (hv : v ≠ (0, 0)) : spot (form m) (form (mvM v m)) ≠ none := by
  have hg := good_of h0
  have hvr := vr_of hg (least0 hl).1
  rw [form_mv]
  exact spot_mv (form_rg hvr) (form_ne hne hg hvr) hv
end Vd
end Go.Proofs.YtcclepohmhdpbaaGreatDoor

/- GEOMETRY, PLAINLY: what Meet says of common points; a ring but for one segment. -/
namespace Go.Proofs.YtcclepohmhdpbaaGreatDoor
set_option linter.all false
namespace Vd
theorem has_fwd {a b z : Pnt} (h : has a b z 1) : ¬ bef z (fwd a b).1 ∧ ¬ bef (fwd a b).2 z := by
  obtain ⟨h0, h1, h2⟩ := h
  have key : ∀ {a b : Pnt}, ¬ bef b a → cr a b z 1 = 0 → btw (a.1 * 1) z.1 (b.1 * 1) → btw (a.2 * 1) z.2 (b.2 * 1) → ¬ bef z a ∧ ¬ bef b z := by
    intro a b hab h0 h1 h2
    unfold cr at h0
    unfold btw at h1 h2
    unfold bef at *
    simp only [Int.mul_one] at h0 h1 h2
    by_cases e : a.1 = b.1
    · omega
    · have hlt : a.1 < b.1 := by omega
      constructor
      · rintro (g | ⟨g1, g2⟩)
        · omega
        · rw [g1, Int.sub_self, Int.mul_zero, Int.sub_zero] at h0
          rcases Int.mul_eq_zero.1 h0 with q | q <;> omega
      · rintro (g | ⟨g1, g2⟩)
        · omega
        · have : (b.1 - a.1) * (z.2 - b.2) = 0 := by
            have : (b.1 - a.1) * (z.2 - b.2) = (b.1 - a.1) * (z.2 - a.2) - (b.2 - a.2) * (z.1 - a.1) := by rw [← g1]; grind
            omega
          rcases Int.mul_eq_zero.1 this with q | q <;> omega
  unfold fwd
  by_cases hb : bef b a
  · rw [if_pos hb]
    exact key (a := b) (b := a) (fun h => bef_irr hb h) (by rw [cr_swap, h0]; rfl) (by unfold btw at *; omega) (by unfold btw at *; omega)
  · rw [if_neg hb]; exact key hb h0 h1 h2
theorem onLine_pt {s t : Seg} {z : Pnt} (h1 : ¬ bef z s.1) (h2 : ¬ bef s.2 z) (h3 : ¬ bef z t.1) (h4 : ¬ bef t.2 z) : onLine s t ≠ 0 := by
  unfold onLine
  have f : ¬ bef z (if bef s.1 t.1 then t.1 else s.1) := by split <;> assumption
  have l : ¬ bef (if bef t.2 s.2 then t.2 else s.2) z := by split <;> assumption
  generalize (if bef s.1 t.1 then t.1 else s.1) = F at *
  generalize (if bef t.2 s.2 then t.2 else s.2) = L at *
  by_cases c1 : bef F L
  · simp [c1]
  · by_cases c2 : F = L
    · subst c2; simp [c1]
    · exfalso
      rcases bef_tri F L with g | g | g
      · exact c1 g
      · exact c2 g
      · unfold bef at *; omega
theorem onLine_two {s t : Seg} {z z' : Pnt} (hz : bef z z') (h1 : ¬ bef z s.1) (h4 : ¬ bef z t.1) (k2 : ¬ bef s.2 z') (k4 : ¬ bef t.2 z') : onLine s t = 3 := by
  unfold onLine
  have f : ¬ bef z (if bef s.1 t.1 then t.1 else s.1) := by split <;> assumption
  have l : ¬ bef (if bef t.2 s.2 then t.2 else s.2) z' := by split <;> assumption
  generalize (if bef s.1 t.1 then t.1 else s.1) = F at *
  generalize (if bef t.2 s.2 then t.2 else s.2) = L at *
  have : bef F L := by unfold bef at *; omega
  simp [this]
theorem same_side {x y p q k z : Int} (hk : 0 < k) (hp : 0 ≤ p) (hq : 0 ≤ q) (hs : 0 < p + q) (e : k * z = p * x + q * y) (hz : z = 0) : ¬ (0 < x * y) := by
  intro h
  rw [hz, Int.mul_zero] at e
  rcases (mulc' x y).2 h with ⟨g1, g2⟩ | ⟨g1, g2⟩
  · by_cases p1 : 0 < p
    · have := pp p1 g1; have := p0 hq (Int.le_of_lt g2); omega
    · have := p0 hp (Int.le_of_lt g1); have := pp (show 0 < q by omega) g2; omega
  · by_cases p1 : 0 < p
    · have := pn p1 g1; have := m0 hq (Int.le_of_lt g2); omega
    · have := m0 hp (Int.le_of_lt g1); have := pn (show 0 < q by omega) g2; omega
theorem sg_prod (x y : Int) : sg x * sg y > 0 ↔ 0 < x * y := by
  rcases sg_cases x with ⟨h, e⟩ | ⟨h, e⟩ | ⟨h, e⟩ <;> rcases sg_cases y with ⟨k, f⟩ | ⟨k, f⟩ | ⟨k, f⟩ <;> rw [e, f]
  · have := pp h k; omega
  · rw [k]; simp
  · have := pn h k; omega
  · rw [h]; simp
  · rw [h]; simp
  · rw [h]; simp
  · have := np h k; omega
  · rw [k]; simp
  · have := nng h k; omega
/-- What is common is seen. -/
theorem meet_pt {a b c d z : Pnt} (hab : a ≠ b) (hcd : c ≠ d) (h1 : has a b z 1) (h2 : has c d z 1) : meet a b c d ≠ 0 := by
  have k1 := kk_pos hab
  have k2 := kk_pos hcd
  obtain ⟨p1, p2⟩ := pos_le hab h1
  obtain ⟨q1, q2⟩ := pos_le hcd h2
  have e1 := cr_on h2.1 a b
  have e2 := cr_on h1.1 c d
  have n1 := same_side k2 (by omega) q1 (by omega) e1 h1.1
  have n2 := same_side k1 (by omega) p1 (by omega) e2 h2.1
  unfold meet
  simp only
  split
  · obtain ⟨f1, f2⟩ := has_fwd h1
    obtain ⟨f3, f4⟩ := has_fwd h2
    exact onLine_pt f1 f2 f3 f4
  · rw [if_neg (by rw [sg_prod, sg_prod]; omega)]
    split <;> omega
theorem cr_two {a b z z' : Pnt} (hz : z ≠ z') (h1 : cr a b z 1 = 0) (h2 : cr a b z' 1 = 0) {c : Pnt} (h3 : cr z z' c 1 = 0) (hab : a ≠ b) : cr a b c 1 = 0 := by
  have hk := kk_pos hab
  have e := cr_dir h1 h2 c
  rw [h3, Int.mul_zero] at e
  rcases Int.mul_eq_zero.1 e.symm with q | q
  · exact absurd (pos_inj hab h1 h2 (by omega)) hz
  · exact q
theorem cr_back {a b z z' : Pnt} (hz : z ≠ z') (hab : a ≠ b) (h1 : cr a b z 1 = 0) (h2 : cr a b z' 1 = 0) : cr z z' a 1 = 0 ∧ cr z z' b 1 = 0 := by
  have hk := kk_pos hab
  have e1 := cr_dir h1 h2 a
  have e2 := cr_dir h1 h2 b
  rw [cr_a, Int.mul_zero] at e1
  rw [cr_b, Int.mul_zero] at e2
  constructor
  · rcases Int.mul_eq_zero.1 e1 with q | q <;> omega
  · rcases Int.mul_eq_zero.1 e2 with q | q <;> omega
/-- Two common points: they lie along each other. -/
theorem meet_two {a b c d z z' : Pnt} (hab : a ≠ b) (hcd : c ≠ d) (hz : z ≠ z') (h1 : has a b z 1) (h2 : has c d z 1) (h3 : has a b z' 1) (h4 : has c d z' 1) : meet a b c d = 3 := by
  obtain ⟨x1, x2⟩ := cr_back hz hab h1.1 h3.1
  obtain ⟨y1, y2⟩ := cr_back hz hcd h2.1 h4.1
  have z1 : cr a b c 1 = 0 := cr_two hz h1.1 h3.1 y1 hab
  have z2 : cr a b d 1 = 0 := cr_two hz h1.1 h3.1 y2 hab
  have z3 : cr c d a 1 = 0 := cr_two hz h2.1 h4.1 x1 hcd
  have z4 : cr c d b 1 = 0 := cr_two hz h2.1 h4.1 x2 hcd
  unfold meet
  simp only [z1, z2, z3, z4]
  rw [if_pos (by simp [sg])]
  obtain ⟨f1, f2⟩ := has_fwd h1
  obtain ⟨f3, f4⟩ := has_fwd h2
  obtain ⟨g1, g2⟩ := has_fwd h3
  obtain ⟨g3, g4⟩ := has_fwd h4
  rcases bef_tri z z' with h | h | h
  · exact onLine_two h f1 f3 g2 g4
  · exact absurd h hz
  · exact onLine_two h g1 g3 f2 f4

/-! ### a ring but for one segment -/
theorem segs_split (p1 : Ring) (a b : Pnt) (p2 : Ring) : segs (p1 ++ a :: b :: p2) = segs (p1 ++ [a]) ++ (a, b) :: segs (b :: p2) := by
  induction p1 with
  | nil => rfl
  | cons x p1 ih =>
    cases p1 with
    | nil => rfl
    | cons y p1 =>
      rw [List.cons_append, List.cons_append, segs_cons2, List.cons_append, List.cons_append, segs_cons2]
      rw [List.cons_append, List.cons_append] at ih
      rw [ih]; rfl
/-- the other segments. -/
def oth (p1 : Ring) (a b : Pnt) (p2 : Ring) : List Seg := segs (p1 ++ [a]) ++ segs (b :: p2)
theorem mem_oth {p1 : Ring} {a b : Pnt} {p2 : Ring} {s : Seg} : s ∈ segs (p1 ++ a :: b :: p2) ↔ s = (a, b) ∨ s ∈ oth p1 a b p2 := by
  rw [segs_split]; unfold oth
  simp only [List.mem_append, List.mem_cons]
  constructor
  · rintro (h | h | h)
    · exact .inr (.inl h)
    · exact .inl h
    · exact .inr (.inr h)
  · rintro (h | h | h)
    · exact .inr (.inl h)
    · exact .inl h
    · exact .inr (.inr h)
theorem rays_oth (p1 : Ring) (a b : Pnt) (p2 : Ring) (x : Spot) : raysS (segs (p1 ++ a :: b :: p2)) x = (ray a b x.1 x.2 ^^ raysS (oth p1 a b p2) x) := by
  rw [segs_split, raysS_append, raysS_cons]; unfold oth; rw [raysS_append]
  generalize raysS (segs (p1 ++ [a])) x = u
  generalize raysS (segs (b :: p2)) x = v
  generalize ray a b x.1 x.2 = w
  cases u <;> cases v <;> cases w <;> rfl
theorem oth_chain {p1 : Ring} {a b : Pnt} {p2 : Ring} (hr : Ends (p1 ++ a :: b :: p2)) {x m : Pnt} (h : ∀ s ∈ oth p1 a b p2, Off x m s.1 s.2) (hx : ∀ s ∈ oth p1 a b p2, ¬ Xs x m s.1 s.2) :
    (raysS (oth p1 a b p2) (x, 1) ^^ raysS (oth p1 a b p2) (m, 1)) = (dRs x m a ^^ dRs x m b) := by
  unfold oth at *
  obtain ⟨u, t, e⟩ : ∃ u t, p1 ++ [a] = u :: t := by
    cases p1 with
    | nil => exact ⟨a, [], rfl⟩
    | cons y p1 => exact ⟨y, p1 ++ [a], rfl⟩
  have k1 := rays_chain x m t u (fun s hs => h s (by rw [List.mem_append, e]; exact .inl hs))
  have k2 := rays_chain x m p2 b (fun s hs => h s (by rw [List.mem_append]; exact .inr hs))
  have l1 : (u :: t).getLast (by simp) = a := by
    have : (p1 ++ [a]).getLast (by simp) = a := by simp
    simpa only [e] using this
  have l2 : u = (b :: p2).getLast (by simp) := by
    unfold Ends at hr
    have h1 : (p1 ++ a :: b :: p2).head? = some u := by
      have : p1 ++ a :: b :: p2 = (p1 ++ [a]) ++ b :: p2 := by simp
      rw [this, e]; rfl
    have h2 : (p1 ++ a :: b :: p2).getLast? = some ((b :: p2).getLast (by simp)) := by
      rw [List.getLast?_append, List.getLast?_cons_cons, List.getLast?_eq_some_getLast (by simp)]; rfl
    rw [h1, h2] at hr
    exact Option.some.inj hr
  rw [xsL_none (fun s hs => hx s (by rw [List.mem_append, e]; exact .inl hs)), l1] at k1
  rw [xsL_none (fun s hs => hx s (by rw [List.mem_append]; exact .inr hs)), ← l2] at k2
  rw [raysS_append, raysS_append, e]
  revert k1 k2
  generalize raysS (segs (u :: t)) (x, 1) = x1
  generalize raysS (segs (u :: t)) (m, 1) = x2
  generalize raysS (segs (b :: p2)) (x, 1) = x3
  generalize raysS (segs (b :: p2)) (m, 1) = x4
  generalize dRs x m u = x5
  generalize dRs x m a = x6
  generalize dRs x m b = x7
  revert x1 x2 x3 x4 x5 x6 x7
  decide
/-- Which way a segment goes: up; of those on a level, to the left. -/
def upS (a b : Pnt) : Bool := decide (a.2 < b.2 ∨ (a.2 = b.2 ∧ b.1 < a.1))
theorem upS_swap {a b : Pnt} (h : a ≠ b) : upS b a = !upS a b := by
  unfold upS
  by_cases c : a.2 < b.2 ∨ (a.2 = b.2 ∧ b.1 < a.1)
  · rw [decide_eq_true c, decide_eq_false (by omega)]; rfl
  · rw [decide_eq_false c, decide_eq_true]
    · rfl
    · by_cases e : a.2 = b.2
      · have : a.1 ≠ b.1 := fun q => h (Prod.ext q e)
        omega
      · omega
/-- m lies within the segment, not at its ends. -/
structure Ins (a b m : Pnt) : Prop where
  on : has a b m 1
  na : m ≠ a
  nb : m ≠ b
theorem ins_pos {a b m : Pnt} (hab : a ≠ b) (h : Ins a b m) : 0 < pos a b m ∧ pos a b m < kk a b := by
  obtain ⟨h1, h2⟩ := pos_le hab h.on
  constructor
  · rcases Int.lt_or_eq_of_le h1 with g | g
    · exact g
    · exact absurd (pos_inj hab h.on.1 (cr_a a b) (by rw [pos_a]; omega)) h.na
  · rcases Int.lt_or_eq_of_le h2 with g | g
    · exact g
    · exact absurd (pos_inj hab h.on.1 (cr_b a b) (by rw [pos_b]; omega)) h.nb
/-- Seen from beside: the ends lie on either hand. -/
theorem ins_hand {a b m x : Pnt} (hab : a ≠ b) (h : Ins a b m) : kk a b * cr x m a 1 = - (pos a b m) * cr a b x 1 ∧ kk a b * cr x m b 1 = (kk a b - pos a b m) * cr a b x 1 := by
  obtain ⟨e1, e2⟩ := on_line h.on.1
  have h0 := h.on.1
  have f : cr a b x 1 = (m.1 - x.1) * (b.2 - a.2) - (m.2 - x.2) * (b.1 - a.1) := by
    have := cr_from h0 x
    rw [← this]; grind
  have g1 : cr x m a 1 = (m.1 - x.1) * (a.2 - m.2) - (m.2 - x.2) * (a.1 - m.1) := by unfold cr; grind
  have g2 : cr x m b 1 = (m.1 - x.1) * (b.2 - m.2) - (m.2 - x.2) * (b.1 - m.1) := by unfold cr; grind
  have i1 : kk a b * (a.2 - m.2) = - (pos a b m) * (b.2 - a.2) := by grind
  have i2 : kk a b * (a.1 - m.1) = - (pos a b m) * (b.1 - a.1) := by grind
  have i3 : kk a b * (b.2 - m.2) = (kk a b - pos a b m) * (b.2 - a.2) := by grind
  have i4 : kk a b * (b.1 - m.1) = (kk a b - pos a b m) * (b.1 - a.1) := by grind
  rw [f, g1, g2]
  generalize kk a b = K at *
  generalize pos a b m = D at *
  generalize m.1 - x.1 = u at *
  generalize m.2 - x.2 = v at *
  constructor
  · have : K * (u * (a.2 - m.2) - v * (a.1 - m.1)) = u * (K * (a.2 - m.2)) - v * (K * (a.1 - m.1)) := by grind
    rw [this, i1, i2]; grind
  · have : K * (u * (b.2 - m.2) - v * (b.1 - m.1)) = u * (K * (b.2 - m.2)) - v * (K * (b.1 - m.1)) := by grind
    rw [this, i3, i4]; grind
theorem ins_y {a b m : Pnt} (hab : a ≠ b) (h : Ins a b m) : (a.2 < m.2 ∧ m.2 < b.2) ∨ (b.2 < m.2 ∧ m.2 < a.2) ∨ (a.2 = m.2 ∧ m.2 = b.2) := by
  have hk := kk_pos hab
  obtain ⟨p1, p2⟩ := ins_pos hab h
  obtain ⟨e1, e2⟩ := on_line h.on.1
  have i1 : kk a b * (m.2 - a.2) = pos a b m * (b.2 - a.2) := by grind
  have i3 : kk a b * (b.2 - m.2) = (kk a b - pos a b m) * (b.2 - a.2) := by grind
  have s1 := sgn_of hk i1
  have s2 := sgn_of hk i3
  have t1 := sgn_of p1 (rfl : pos a b m * (b.2 - a.2) = _)
  have t2 := sgn_of (show 0 < kk a b - pos a b m by omega) (rfl : (kk a b - pos a b m) * (b.2 - a.2) = _)
  omega
theorem local_left {a b m x : Pnt} (hab : a ≠ b) (h : Ins a b m) (hx : 0 < cr a b x 1) : (ray a b x 1 ^^ (dRs x m a ^^ dRs x m b)) = upS a b := by
  have hk := kk_pos hab
  obtain ⟨p1, p2⟩ := ins_pos hab h
  obtain ⟨e1, e2⟩ := ins_hand (x := x) hab h
  have s1 := sgn_of hk e1
  have s2 := sgn_of hk e2
  have t1 : - (pos a b m) * cr a b x 1 < 0 := np (by omega) hx
  have t2 : 0 < (kk a b - pos a b m) * cr a b x 1 := pp (by omega) hx
  have ca : cr x m a 1 < 0 := s1.2.1.2 t1
  have cb : 0 < cr x m b 1 := s2.1.2 t2
  have ca' : cr m x a 1 = - cr x m a 1 := cr_swap x m a 1
  have cb' : cr m x b 1 = - cr x m b 1 := cr_swap x m b 1
  have hy := ins_y hab h
  rw [ray_one]
  unfold dRs dR upS
  have flat : a.2 = b.2 → cr a b x 1 = (b.1 - a.1) * (x.2 - a.2) := by intro e; unfold cr; rw [e]; simp
  have hf : a.2 = b.2 → (b.1 < a.1 ↔ x.2 < a.2) ∧ x.2 ≠ a.2 := by
    intro e
    have := flat e
    rw [this] at hx
    have := (mulc' (b.1 - a.1) (x.2 - a.2)).2 hx
    omega
  clear e1 e2 s1 s2 t1 t2 flat
  rcases Int.lt_trichotomy x.2 m.2 with g | g | g
  · rw [if_pos g, if_pos g]
    by_cases c1 : a.2 - x.2 ≤ 0 ∧ 0 < b.2 - x.2 ∧ 0 < cr a b x 1 ∨ b.2 - x.2 ≤ 0 ∧ 0 < a.2 - x.2 ∧ cr a b x 1 < 0 <;>
    by_cases c2 : x.2 < a.2 ∧ a.2 ≤ m.2 ∧ cr x m a 1 < 0 <;>
    by_cases c3 : x.2 < b.2 ∧ b.2 ≤ m.2 ∧ cr x m b 1 < 0 <;>
    by_cases c4 : a.2 < b.2 ∨ (a.2 = b.2 ∧ b.1 < a.1) <;>
    first | (simp only [c1, c2, c3, c4, decide_true, decide_false]; rfl) | (exfalso; omega)
  · rw [if_neg (by omega), if_neg (by omega), if_neg (by omega), if_neg (by omega)]
    by_cases c1 : a.2 - x.2 ≤ 0 ∧ 0 < b.2 - x.2 ∧ 0 < cr a b x 1 ∨ b.2 - x.2 ≤ 0 ∧ 0 < a.2 - x.2 ∧ cr a b x 1 < 0 <;>
    by_cases c4 : a.2 < b.2 ∨ (a.2 = b.2 ∧ b.1 < a.1) <;>
    first | (simp only [c1, c4, decide_true, decide_false]; rfl) | (exfalso; omega)
  · rw [if_neg (by omega), if_pos g, if_neg (by omega), if_pos g]
    by_cases c1 : a.2 - x.2 ≤ 0 ∧ 0 < b.2 - x.2 ∧ 0 < cr a b x 1 ∨ b.2 - x.2 ≤ 0 ∧ 0 < a.2 - x.2 ∧ cr a b x 1 < 0 <;>
    by_cases c2 : m.2 < a.2 ∧ a.2 ≤ x.2 ∧ cr m x a 1 < 0 <;>
    by_cases c3 : m.2 < b.2 ∧ b.2 ≤ x.2 ∧ cr m x b 1 < 0 <;>
    by_cases c4 : a.2 < b.2 ∨ (a.2 = b.2 ∧ b.1 < a.1) <;>
    first | (simp only [c1, c2, c3, c4, decide_true, decide_false]; rfl) | (exfalso; omega)
theorem ray_swap (a b x : Pnt) : ray a b x 1 = ray b a x 1 := by
  rw [ray_one, ray_one, cr_swap a b x 1]
  exact decide_eq_decide.2 (by omega)
theorem local_right {a b m x : Pnt} (hab : a ≠ b) (h : Ins a b m) (hx : cr a b x 1 < 0) : (ray a b x 1 ^^ (dRs x m a ^^ dRs x m b)) = !upS a b := by
  have := local_left (a := b) (b := a) (m := m) (x := x) (Ne.symm hab) ⟨has_swap.1 h.on, h.nb, h.na⟩ (by rw [cr_swap]; omega)
  rw [← upS_swap hab, ← this, ray_swap, Bool.xor_comm (dRs x m a)]
end Vd
end Go.Proofs.YtcclepohmhdpbaaGreatDoor

/- GEOMETRY, PLAINLY: the two hands of a segment of a ring that does not meet itself. -/
namespace Go.Proofs.YtcclepohmhdpbaaGreatDoor
set_option linter.all false
namespace Vd
theorem ptAt_app1 {p1 p2 : Ring} {i : Nat} (h : i < p1.length) : ptAt (p1 ++ p2) i = ptAt p1 i := by
  unfold ptAt; rw [List.getD_eq_getElem?_getD, List.getD_eq_getElem?_getD, List.getElem?_append_left h]
theorem ptAt_app2 {p1 p2 : Ring} (i : Nat) : ptAt (p1 ++ p2) (p1.length + i) = ptAt p2 i := by
  unfold ptAt; rw [List.getD_eq_getElem?_getD, List.getD_eq_getElem?_getD, List.getElem?_append_right (by omega), show p1.length + i - p1.length = i by omega]
theorem oth_at {p1 : Ring} {a b : Pnt} {p2 : Ring} {s : Seg} (h : s ∈ oth p1 a b p2) : ∃ j, j ≠ p1.length ∧ j + 1 < (p1 ++ a :: b :: p2).length ∧ s = (ptAt (p1 ++ a :: b :: p2) j, ptAt (p1 ++ a :: b :: p2) (j + 1)) := by
  unfold oth at h
  rcases List.mem_append.1 h with h | h
  · obtain ⟨j, hj, e⟩ := segs_mem_at h
    have hj' : j + 1 < p1.length + 1 := by simpa using hj
    refine ⟨j, by omega, by simp; omega, ?_⟩
    have e2 : p1 ++ a :: b :: p2 = (p1 ++ [a]) ++ b :: p2 := by simp
    rw [e2, ptAt_app1 (p1 := p1 ++ [a]) (i := j) (by simp; omega), ptAt_app1 (p1 := p1 ++ [a]) (i := j + 1) (by simp; omega)]
    exact e
  · obtain ⟨j, hj, e⟩ := segs_mem_at h
    refine ⟨p1.length + (1 + j), by omega, by simp at hj ⊢; omega, ?_⟩
    have e2 : p1 ++ a :: b :: p2 = (p1 ++ [a]) ++ b :: p2 := by simp
    have l1 : p1.length + (1 + j) = (p1 ++ [a]).length + j := by simp; omega
    rw [e2, l1, ptAt_app2, show (p1 ++ [a]).length + j + 1 = (p1 ++ [a]).length + (j + 1) by omega, ptAt_app2]
    exact e
theorem at_here (p1 : Ring) (a b : Pnt) (p2 : Ring) : ptAt (p1 ++ a :: b :: p2) p1.length = a ∧ ptAt (p1 ++ a :: b :: p2) (p1.length + 1) = b := by
  constructor
  · have := ptAt_app2 (p1 := p1) (p2 := a :: b :: p2) 0
    simpa [ptAt] using this
  · rw [ptAt_app2 1]; rfl
/-- A segment of the ring that shares an end with another, or has nothing in common. -/
theorem VR.other {p1 : Ring} {a b : Pnt} {p2 : Ring} (h : VR (p1 ++ a :: b :: p2)) {s : Seg} (hs : s ∈ oth p1 a b p2) : Vd.meet a b s.1 s.2 = 0 ∨ (Vd.meet a b s.1 s.2 = 1 ∧ (s.1 = b ∨ s.2 = a)) := by
  obtain ⟨j, hj, hl, rfl⟩ := oth_at hs
  obtain ⟨ha, hb⟩ := at_here p1 a b p2
  have hlen : (p1 ++ a :: b :: p2).length = p1.length + 2 + p2.length := by simp; omega
  have heq := h.shut.eq
  rcases Nat.lt_or_ge j p1.length with g | g
  · have k := h.meet (i := j) (j := p1.length) g (by omega)
    rw [ha, hb] at k
    unfold meetS at k
    simp only at k
    rw [meet_symm]
    simp only
    rw [k]
    unfold wantI
    by_cases c : j + 1 = p1.length ∨ (j = 0 ∧ p1.length + 1 = (p1 ++ a :: b :: p2).length - 1)
    · rw [if_pos c]
      refine .inr ⟨rfl, ?_⟩
      rcases c with c | ⟨c, c'⟩
      · right; rw [c]; exact ha
      · left; rw [c, heq, ← c']; exact hb
    · rw [if_neg c]; exact .inl rfl
  · have k := h.meet (i := p1.length) (j := j) (by omega) hl
    rw [ha, hb] at k
    unfold meetS at k
    simp only at k ⊢
    rw [k]
    unfold wantI
    by_cases c : p1.length + 1 = j ∨ (p1.length = 0 ∧ j + 1 = (p1 ++ a :: b :: p2).length - 1)
    · rw [if_pos c]
      refine .inr ⟨rfl, ?_⟩
      rcases c with c | ⟨c, c'⟩
      · left; rw [← c]; exact hb
      · right; rw [c', ← heq, ← c]; exact ha
    · rw [if_neg c]; exact .inl rfl
theorem VR.here {p1 : Ring} {a b : Pnt} {p2 : Ring} (h : VR (p1 ++ a :: b :: p2)) : a ≠ b := h.long (a, b) (mem_oth.2 (.inl rfl))
theorem VR.oth_long {p1 : Ring} {a b : Pnt} {p2 : Ring} (h : VR (p1 ++ a :: b :: p2)) {s : Seg} (hs : s ∈ oth p1 a b p2) : s.1 ≠ s.2 := h.long s (mem_oth.2 (.inr hs))
/-- What lies within a segment lies on no other. -/
theorem VR.off {p1 : Ring} {a b : Pnt} {p2 : Ring} (h : VR (p1 ++ a :: b :: p2)) {s : Seg} (hs : s ∈ oth p1 a b p2) {m : Pnt} (hm : Ins a b m) : ¬ has s.1 s.2 m 1 := by
  intro hh
  rcases h.other hs with e | ⟨e, c⟩
  · exact meet_pt h.here (h.oth_long hs) hm.on hh e
  · rcases c with c | c
    · have := meet_two h.here (h.oth_long hs) hm.nb hm.on hh (has_b a b) (by rw [← c]; exact has_a _ _)
      omega
    · have := meet_two h.here (h.oth_long hs) hm.na hm.on hh (has_a a b) (by rw [← c]; exact has_b _ _)
      omega
theorem ins_of {a b m m' c : Pnt} (hab : a ≠ b) (hm : Ins a b m) (hm' : Ins a b m') (h : has m m' c 1) : Ins a b c := by
  by_cases e : m = m'
  · subst e
    have : c = m := by
      have h1 := h.2.1
      have h2 := h.2.2
      unfold btw at h1 h2
      exact Prod.ext (by omega) (by omega)
    rw [this]; exact hm
  · obtain ⟨h0, hb⟩ := has_dir hab e hm.on.1 hm'.on.1 h
    obtain ⟨a1, a2⟩ := ins_pos hab hm
    obtain ⟨b1, b2⟩ := ins_pos hab hm'
    have q1 : 0 < pos a b c ∧ pos a b c < kk a b := by unfold btw at hb; omega
    refine ⟨has_pos hab h0 (by omega) (by omega), ?_, ?_⟩
    · rintro rfl; rw [pos_a] at q1; omega
    · rintro rfl; rw [pos_b] at q1; omega
theorem VR.along {p1 : Ring} {a b : Pnt} {p2 : Ring} (h : VR (p1 ++ a :: b :: p2)) {m m' : Pnt} (hm : Ins a b m) (hm' : Ins a b m') {s : Seg} (hs : s ∈ oth p1 a b p2) : Off m m' s.1 s.2 ∧ ¬ Xs m m' s.1 s.2 := by
  have hab := h.here
  have hk := kk_pos hab
  refine ⟨⟨fun k => h.off hs (ins_of hab hm hm' k) (has_a _ _), fun k => h.off hs (ins_of hab hm hm' k) (has_b _ _), h.off hs hm, h.off hs hm'⟩, ?_⟩
  rintro ⟨o1, o2⟩
  obtain ⟨a1, a2⟩ := ins_pos hab hm
  obtain ⟨b1, b2⟩ := ins_pos hab hm'
  have e1 := cr_on hm.on.1 s.1 s.2
  have e2 := cr_on hm'.on.1 s.1 s.2
  have o3 := opp_comb (by omega) (by omega) (by omega) (by omega) hk e1 e2 o2
  have d1 := cr_dir hm.on.1 hm'.on.1 s.1
  have d2 := cr_dir hm.on.1 hm'.on.1 s.2
  have s1 := sgn_of hk d1
  have s2 := sgn_of hk d2
  have m1 := mulc' (pos a b m' - pos a b m) (cr a b s.1 1)
  have m2 := mulc' (pos a b m' - pos a b m) (cr a b s.2 1)
  have o4 : Opp (cr a b s.1 1) (cr a b s.2 1) := by unfold Opp at o1 ⊢; omega
  have := meet_opp o4 o3
  rcases h.other hs with e | ⟨e, -⟩ <;> omega
theorem dRs_zero {p q v : Pnt} (h : cr p q v 1 = 0) : dRs p q v = false := by
  unfold dRs dR
  rw [cr_swap p q v 1, h]
  simp
/-- the left hand of a segment: is it within? -/
def Lh (p1 : Ring) (a b : Pnt) (p2 : Ring) (m : Spot) : Bool := raysS (oth p1 a b p2) m ^^ upS a b
theorem VR.lh_same {p1 : Ring} {a b : Pnt} {p2 : Ring} (h : VR (p1 ++ a :: b :: p2)) {m m' : Pnt} (hm : Ins a b m) (hm' : Ins a b m') : Lh p1 a b p2 (m, 1) = Lh p1 a b p2 (m', 1) := by
  have k := oth_chain (shut_ends h.shut) (x := m) (m := m') (fun s hs => (h.along hm hm' hs).1) (fun s hs => (h.along hm hm' hs).2)
  have hab := h.here
  have hk := kk_pos hab
  have z1 : cr m m' a 1 = 0 := by
    have := cr_dir hm.on.1 hm'.on.1 a
    rw [cr_a, Int.mul_zero] at this
    rcases Int.mul_eq_zero.1 this with q | q <;> omega
  have z2 : cr m m' b 1 = 0 := by
    have := cr_dir hm.on.1 hm'.on.1 b
    rw [cr_b, Int.mul_zero] at this
    rcases Int.mul_eq_zero.1 this with q | q <;> omega
  rw [dRs_zero z1, dRs_zero z2] at k
  unfold Lh
  revert k
  generalize raysS (oth p1 a b p2) (m, 1) = x
  generalize raysS (oth p1 a b p2) (m', 1) = y
  generalize upS a b = z
  cases x <;> cases y <;> cases z <;> simp
/-- x lies beside m, and nothing of the ring between. -/
structure Bes (p1 : Ring) (a b : Pnt) (p2 : Ring) (m x : Pnt) : Prop where
  ins : Ins a b m
  off : ∀ s ∈ oth p1 a b p2, Off x m s.1 s.2
  nx : ∀ s ∈ oth p1 a b p2, ¬ Xs x m s.1 s.2
theorem beside {p1 : Ring} {a b : Pnt} {p2 : Ring} (hr : Ends (p1 ++ a :: b :: p2)) (hab : a ≠ b) {m x : Pnt} (h : Bes p1 a b p2 m x) (hx : cr a b x 1 ≠ 0) :
    place (p1 ++ a :: b :: p2) (x, 1) = if (0 < cr a b x 1 ↔ Lh p1 a b p2 (m, 1) = true) then 2 else 0 := by
  have k := oth_chain hr h.off h.nx
  have hn : ∀ s ∈ segs (p1 ++ a :: b :: p2), ¬ has s.1 s.2 x 1 := by
    intro s hs
    rcases mem_oth.1 hs with rfl | hs
    · exact fun q => hx q.1
    · exact (h.off s hs).hp
  rw [place_rays (p := (x, 1)) hn, rays_oth]
  unfold Lh
  rcases Int.lt_or_gt_of_ne hx with g | g
  · have l := local_right hab h.ins g
    have ng : ¬ 0 < cr a b x 1 := by omega
    simp only [ng, false_iff]
    revert k l
    generalize raysS (oth p1 a b p2) (x, 1) = x1
    generalize raysS (oth p1 a b p2) (m, 1) = x2
    generalize dRs x m a = x3
    generalize dRs x m b = x4
    generalize ray a b x 1 = x5
    generalize upS a b = x6
    revert x1 x2 x3 x4 x5 x6
    decide
  · have l := local_left hab h.ins g
    simp only [g, true_iff]
    revert k l
    generalize raysS (oth p1 a b p2) (x, 1) = x1
    generalize raysS (oth p1 a b p2) (m, 1) = x2
    generalize dRs x m a = x3
    generalize dRs x m b = x4
    generalize ray a b x 1 = x5
    generalize upS a b = x6
    revert x1 x2 x3 x4 x5 x6
    decide
end Vd
end Go.Proofs.YtcclepohmhdpbaaGreatDoor

/- GEOMETRY, PLAINLY: about a vertex: the hands of two segments that follow each other. -/
namespace Go.Proofs.YtcclepohmhdpbaaGreatDoor
set_option linter.all false
namespace Vd
/-! ### two segments and two points of them -/
theorem turn_hand {a b c m m' : Pnt} (hab : a ≠ b) (hbc : b ≠ c) (hm : Ins a b m) (hm' : Ins b c m') (hs : 0 < cr a b c 1) : 0 < cr b c m 1 ∧ 0 < cr a b m' 1 ∧ 0 < cr m m' a 1 ∧ 0 < cr m m' c 1 := by
  have k1 := kk_pos hab
  have k2 := kk_pos hbc
  obtain ⟨a1, a2⟩ := ins_pos hab hm
  obtain ⟨b1, b2⟩ := ins_pos hbc hm'
  have e1 := cr_on hm.on.1 b c
  have e2 := cr_on hm'.on.1 a b
  have r1 : cr b c a 1 = cr a b c 1 := by unfold cr; grind
  rw [cr_a, Int.mul_zero, Int.add_zero, r1] at e1
  rw [cr_b, Int.mul_zero, Int.zero_add] at e2
  have q1 : 0 < cr b c m 1 := (sgn_of k1 e1).1.2 (pp (by omega) hs)
  have q2 : 0 < cr a b m' 1 := (sgn_of k2 e2).1.2 (pp (by omega) hs)
  refine ⟨q1, q2, ?_, ?_⟩
  · -- m m' a, by the line from a to b
    have f := (ins_hand (x := m') hab hm).1
    rw [cr_swap m m' a 1] at f
    have : kk a b * cr m m' a 1 = pos a b m * cr a b m' 1 := by
      have e : kk a b * cr m m' a 1 = - (kk a b * -cr m m' a 1) := by grind
      rw [e, f]; grind
    exact (sgn_of k1 this).1.2 (pp a1 q2)
  · have f := (ins_hand (x := m) hbc hm').2
    exact (sgn_of k2 f).1.2 (pp (by omega) q1)
theorem loc_left {a b c m m' : Pnt} (hab : a ≠ b) (hbc : b ≠ c) (hm : Ins a b m) (hm' : Ins b c m') (hs : 0 < cr a b c 1) :
    ((ray b c m 1 ^^ ray a b m' 1) ^^ ((dRs m m' a ^^ dRs m m' c) ^^ (upS a b ^^ upS b c))) = false := by
  obtain ⟨s1, s2, s3, s4⟩ := turn_hand hab hbc hm hm' hs
  have y1 := ins_y hab hm
  have y2 := ins_y hbc hm'
  have c3 : cr m' m a 1 = - cr m m' a 1 := cr_swap m m' a 1
  have c4 : cr m' m c 1 = - cr m m' c 1 := cr_swap m m' c 1
  have f1 : a.2 = b.2 → (a.1 < b.1 ↔ b.2 < c.2) ∧ b.2 ≠ c.2 ∧ a.1 ≠ b.1 := by
    intro e
    have : cr a b c 1 = (b.1 - a.1) * (c.2 - b.2) := by unfold cr; rw [e]; grind
    rw [this] at hs
    have := (mulc' (b.1 - a.1) (c.2 - b.2)).2 hs
    omega
  have f2 : b.2 = c.2 → (c.1 < b.1 ↔ a.2 < b.2) ∧ a.2 ≠ b.2 ∧ c.1 ≠ b.1 := by
    intro e
    have : cr a b c 1 = (b.2 - a.2) * (b.1 - c.1) := by unfold cr; rw [← e]; grind
    rw [this] at hs
    have := (mulc' (b.2 - a.2) (b.1 - c.1)).2 hs
    omega
  rw [ray_one, ray_one]
  unfold dRs dR upS
  have t1 : (b.2 - m.2 ≤ 0 ∧ 0 < c.2 - m.2 ∧ 0 < cr b c m 1 ∨ c.2 - m.2 ≤ 0 ∧ 0 < b.2 - m.2 ∧ cr b c m 1 < 0) ↔ (b.2 ≤ m.2 ∧ m.2 < c.2) := by omega
  have t2 : (a.2 - m'.2 ≤ 0 ∧ 0 < b.2 - m'.2 ∧ 0 < cr a b m' 1 ∨ b.2 - m'.2 ≤ 0 ∧ 0 < a.2 - m'.2 ∧ cr a b m' 1 < 0) ↔ (a.2 ≤ m'.2 ∧ m'.2 < b.2) := by omega
  have t3 : ¬ (m.2 < a.2 ∧ a.2 ≤ m'.2 ∧ cr m m' a 1 < 0) := by omega
  have t4 : ¬ (m.2 < c.2 ∧ c.2 ≤ m'.2 ∧ cr m m' c 1 < 0) := by omega
  have t5 : (m'.2 < a.2 ∧ a.2 ≤ m.2 ∧ cr m' m a 1 < 0) ↔ (m'.2 < a.2 ∧ a.2 ≤ m.2) := by omega
  have t6 : (m'.2 < c.2 ∧ c.2 ≤ m.2 ∧ cr m' m c 1 < 0) ↔ (m'.2 < c.2 ∧ c.2 ≤ m.2) := by omega
  simp only [t1, t2, t3, t4, t5, t6]
  clear t1 t2 t3 t4 t5 t6 s1 s2 s3 s4 c3 c4 hs
  rcases Int.lt_trichotomy m.2 m'.2 with g | g | g
  · rw [if_pos g, if_pos g]
    by_cases c1 : b.2 ≤ m.2 ∧ m.2 < c.2 <;> by_cases c2 : a.2 ≤ m'.2 ∧ m'.2 < b.2 <;>
    by_cases c5 : a.2 < b.2 ∨ (a.2 = b.2 ∧ b.1 < a.1) <;> by_cases c6 : b.2 < c.2 ∨ (b.2 = c.2 ∧ c.1 < b.1) <;>
    first | (simp only [c1, c2, c5, c6, decide_true, decide_false]; rfl) | (exfalso; omega)
  · rw [if_neg (by omega), if_neg (by omega), if_neg (by omega), if_neg (by omega)]
    by_cases c1 : b.2 ≤ m.2 ∧ m.2 < c.2 <;> by_cases c2 : a.2 ≤ m'.2 ∧ m'.2 < b.2 <;>
    by_cases c5 : a.2 < b.2 ∨ (a.2 = b.2 ∧ b.1 < a.1) <;> by_cases c6 : b.2 < c.2 ∨ (b.2 = c.2 ∧ c.1 < b.1) <;>
    first | (simp only [c1, c2, c5, c6, decide_true, decide_false]; rfl) | (exfalso; omega)
  · rw [if_neg (by omega), if_pos g, if_neg (by omega), if_pos g]
    by_cases c1 : b.2 ≤ m.2 ∧ m.2 < c.2 <;> by_cases c2 : a.2 ≤ m'.2 ∧ m'.2 < b.2 <;>
    by_cases c3 : m'.2 < a.2 ∧ a.2 ≤ m.2 <;> by_cases c4 : m'.2 < c.2 ∧ c.2 ≤ m.2 <;>
    by_cases c5 : a.2 < b.2 ∨ (a.2 = b.2 ∧ b.1 < a.1) <;> by_cases c6 : b.2 < c.2 ∨ (b.2 = c.2 ∧ c.1 < b.1) <;>
    first | (simp only [c1, c2, c3, c4, c5, c6, decide_true, decide_false]; rfl) | (exfalso; omega)
theorem dRs_swap (p q v : Pnt) : dRs p q v = dRs q p v := by
  unfold dRs
  rcases Int.lt_trichotomy p.2 q.2 with h | h | h
  · rw [if_pos h, if_neg (by omega), if_pos h]
  · rw [if_neg (by omega), if_neg (by omega), if_neg (by omega), if_neg (by omega)]
  · rw [if_neg (by omega), if_pos h, if_pos h]
theorem ins_swap {a b m : Pnt} (h : Ins a b m) : Ins b a m := ⟨has_swap.1 h.on, h.nb, h.na⟩
theorem ray_zero {a b x : Pnt} (h : cr a b x 1 = 0) : ray a b x 1 = false := by rw [ray_one, h]; simp
/-- b lies between a and c, on one line. -/
theorem up_line {a b c : Pnt} (hab : a ≠ b) (hbc : b ≠ c) (h : has a c b 1) : upS a b = upS b c := by
  obtain ⟨h0, h1, h2⟩ := h
  unfold btw at h1 h2
  simp only [Int.mul_one] at h1 h2
  unfold upS
  have n1 : a.1 = b.1 → a.2 ≠ b.2 := fun e q => hab (Prod.ext e q)
  have n2 : b.1 = c.1 → b.2 ≠ c.2 := fun e q => hbc (Prod.ext e q)
  have l1 : a.2 = b.2 → b.2 ≠ c.2 → a.1 = b.1 := by
    intro e hne
    have : cr a c b 1 = (a.2 - c.2) * (b.1 - a.1) := by unfold cr; rw [e]; grind
    rw [this] at h0
    rcases Int.mul_eq_zero.1 h0 with q | q <;> omega
  have l2 : b.2 = c.2 → a.2 ≠ b.2 → b.1 = c.1 := by
    intro e hne
    have : cr a c b 1 = (c.2 - a.2) * (c.1 - b.1) := by unfold cr; rw [e]; grind
    rw [this] at h0
    rcases Int.mul_eq_zero.1 h0 with q | q <;> omega
  exact decide_eq_decide.2 (by omega)
/-- Two segments that follow each other and do not go back: the hands. -/
theorem loc_any {a b c m m' : Pnt} (hab : a ≠ b) (hbc : b ≠ c) (hm : Ins a b m) (hm' : Ins b c m') (hs : cr a b c 1 ≠ 0 ∨ has a c b 1) :
    ((ray b c m 1 ^^ ray a b m' 1) ^^ ((dRs m m' a ^^ dRs m m' c) ^^ (upS a b ^^ upS b c))) = false := by
  by_cases h0 : cr a b c 1 = 0
  · have h : has a c b 1 := by
      rcases hs with q | q
      · exact absurd h0 q
      · exact q
    have k1 := kk_pos hab
    have k2 := kk_pos hbc
    have e1 := cr_on hm.on.1 b c
    have e2 := cr_on hm'.on.1 a b
    have r1 : cr b c a 1 = cr a b c 1 := by unfold cr; grind
    rw [cr_a, r1, h0, Int.mul_zero, Int.mul_zero, Int.add_zero] at e1
    rw [cr_b, h0, Int.mul_zero, Int.mul_zero, Int.add_zero] at e2
    have z1 : cr b c m 1 = 0 := by rcases Int.mul_eq_zero.1 e1 with q | q <;> omega
    have z2 : cr a b m' 1 = 0 := by rcases Int.mul_eq_zero.1 e2 with q | q <;> omega
    have z3 : cr m m' a 1 = 0 := by
      have f := cr_dir hm.on.1 z2 a
      rw [cr_a, Int.mul_zero] at f
      rcases Int.mul_eq_zero.1 f with q | q <;> omega
    have z4 : cr m m' c 1 = 0 := by
      have f := cr_dir hm.on.1 z2 c
      rw [h0, Int.mul_zero] at f
      rcases Int.mul_eq_zero.1 f with q | q <;> omega
    rw [ray_zero z1, ray_zero z2, dRs_zero z3, dRs_zero z4, up_line hab hbc h]
    simp
  · rcases Int.lt_or_gt_of_ne h0 with g | g
    · have := loc_left (a := c) (b := b) (c := a) (Ne.symm hbc) (Ne.symm hab) (ins_swap hm') (ins_swap hm) (by
        have : cr c b a 1 = - cr a b c 1 := by unfold cr; grind
        omega)
      rw [ray_swap b a m', ray_swap c b m, dRs_swap m' m, dRs_swap m' m, upS_swap hab, upS_swap hbc] at this
      revert this
      generalize ray b c m 1 = x1
      generalize ray a b m' 1 = x2
      generalize dRs m m' a = x3
      generalize dRs m m' c = x4
      generalize upS a b = x5
      generalize upS b c = x6
      revert x1 x2 x3 x4 x5 x6
      decide
    · exact loc_left hab hbc hm hm' g
/-! ### the rest of the ring -/
def oth2 (p1 : Ring) (a c : Pnt) (p2 : Ring) : List Seg := segs (p1 ++ [a]) ++ segs (c :: p2)
theorem oth_fst (p1 : Ring) (a b c : Pnt) (p2 : Ring) (x : Spot) : raysS (oth p1 a b (c :: p2)) x = (ray b c x.1 x.2 ^^ raysS (oth2 p1 a c p2) x) := by
  unfold oth oth2
  rw [segs_cons2, raysS_append, raysS_append, raysS_cons]
  generalize raysS (segs (p1 ++ [a])) x = u
  generalize raysS (segs (c :: p2)) x = v
  generalize ray (b, c).1 (b, c).2 x.1 x.2 = w
  cases u <;> cases v <;> cases w <;> rfl
theorem oth_snd (p1 : Ring) (a b c : Pnt) (p2 : Ring) (x : Spot) : raysS (oth (p1 ++ [a]) b c p2) x = (ray a b x.1 x.2 ^^ raysS (oth2 p1 a c p2) x) := by
  unfold oth oth2
  have e : segs (p1 ++ [a] ++ [b]) = segs (p1 ++ [a]) ++ [(a, b)] := by
    have := segs_split p1 a b []
    simpa [segs_one] using this
  rw [e, raysS_append, raysS_append, raysS_append, raysS_cons]
  show ((raysS (segs (p1 ++ [a])) x ^^ (ray a b x.1 x.2 ^^ false)) ^^ raysS (segs (c :: p2)) x) = _
  generalize raysS (segs (p1 ++ [a])) x = u
  generalize raysS (segs (c :: p2)) x = v
  generalize ray a b x.1 x.2 = w
  cases u <;> cases v <;> cases w <;> rfl
theorem oth2_chain {p1 : Ring} {a b c : Pnt} {p2 : Ring} (hr : Ends (p1 ++ a :: b :: c :: p2)) {x m : Pnt} (h : ∀ s ∈ oth2 p1 a c p2, Off x m s.1 s.2) (hx : ∀ s ∈ oth2 p1 a c p2, ¬ Xs x m s.1 s.2) :
    (raysS (oth2 p1 a c p2) (x, 1) ^^ raysS (oth2 p1 a c p2) (m, 1)) = (dRs x m a ^^ dRs x m c) := by
  have hr' : Ends (p1 ++ a :: c :: p2) := by
    unfold Ends at *
    rw [List.getLast?_append, List.getLast?_cons_cons] at hr ⊢
    rw [List.getLast?_cons_cons] at hr
    rw [← hr]
    cases p1 <;> rfl
  exact oth_chain hr' h hx
theorem lh_next {p1 : Ring} {a b c : Pnt} {p2 : Ring} (hr : Ends (p1 ++ a :: b :: c :: p2)) (hab : a ≠ b) (hbc : b ≠ c) (hs : cr a b c 1 ≠ 0 ∨ has a c b 1) {m m' : Pnt} (hm : Ins a b m) (hm' : Ins b c m')
    (h : ∀ s ∈ oth2 p1 a c p2, Off m m' s.1 s.2) (hx : ∀ s ∈ oth2 p1 a c p2, ¬ Xs m m' s.1 s.2) : Lh p1 a b (c :: p2) (m, 1) = Lh (p1 ++ [a]) b c p2 (m', 1) := by
  have k := oth2_chain hr h hx
  have l := loc_any hab hbc hm hm' hs
  unfold Lh
  rw [oth_fst, oth_snd]
  simp only
  revert k l
  generalize raysS (oth2 p1 a c p2) (m, 1) = x1
  generalize raysS (oth2 p1 a c p2) (m', 1) = x2
  generalize ray b c m 1 = x3
  generalize ray a b m' 1 = x4
  generalize dRs m m' a = x5
  generalize dRs m m' c = x6
  generalize upS a b = x7
  generalize upS b c = x8
  revert x1 x2 x3 x4 x5 x6 x7 x8
  decide
/-! ### near a point -/
theorem xs_box {x y p q : Pnt} (h : Xs x y p q) : ∃ al be ga de : Int, 0 < al ∧ 0 < be ∧ 0 < ga ∧ 0 < de ∧ al + be = ga + de ∧ al * x.1 + be * y.1 = ga * p.1 + de * q.1 ∧ al * x.2 + be * y.2 = ga * p.2 + de * q.2 := by
  have i1 : cr x y q 1 - cr x y p 1 = cr p q x 1 - cr p q y 1 := by unfold cr; grind
  have i2 : cr p q y 1 * x.1 - cr p q x 1 * y.1 = cr x y p 1 * q.1 - cr x y q 1 * p.1 := by unfold cr; grind
  have i3 : cr p q y 1 * x.2 - cr p q x 1 * y.2 = cr x y p 1 * q.2 - cr x y q 1 * p.2 := by unfold cr; grind
  obtain ⟨o1, o2⟩ := h
  generalize cr x y q 1 = B at *
  generalize cr x y p 1 = A at *
  generalize cr p q x 1 = P at *
  generalize cr p q y 1 = Q at *
  unfold Opp at o1 o2
  rcases o2 with o2 | o2
  · have hB : A > 0 ∧ B < 0 := by omega
    exact ⟨Q, -P, -B, A, by omega, by omega, by omega, by omega, by omega, by grind, by grind⟩
  · have hB : A < 0 ∧ 0 < B := by omega
    exact ⟨-Q, P, B, -A, by omega, by omega, by omega, by omega, by omega, by grind, by grind⟩
theorem box_no {al be ga de x y p q : Int} (h1 : 0 < al) (h2 : 0 < be) (h3 : 0 < ga) (h4 : 0 < de) (e : al + be = ga + de) (f : al * x + be * y = ga * p + de * q) {t : Int} (hx : x < t) (hy : y < t) (hp : t ≤ p) (hq : t ≤ q) : False := by
  have a1 := Int.mul_lt_mul_of_pos_left hx h1
  have a2 := Int.mul_lt_mul_of_pos_left hy h2
  have a3 := Int.mul_le_mul_of_nonneg_left hp (Int.le_of_lt h3)
  have a4 := Int.mul_le_mul_of_nonneg_left hq (Int.le_of_lt h4)
  have : al * t + be * t = ga * t + de * t := by rw [← Int.add_mul, ← Int.add_mul, e]
  omega
theorem box_no' {al be ga de x y p q : Int} (h1 : 0 < al) (h2 : 0 < be) (h3 : 0 < ga) (h4 : 0 < de) (e : al + be = ga + de) (f : al * x + be * y = ga * p + de * q) {t : Int} (hx : t < x) (hy : t < y) (hp : p ≤ t) (hq : q ≤ t) : False :=
  box_no h1 h2 h3 h4 e (x := -x) (y := -y) (p := -p) (q := -q) (by grind) (t := -t) (by omega) (by omega) (by omega) (by omega)
def nrP (k : Int) (b u : Pnt) : Pnt := (k * b.1 + u.1, k * b.2 + u.2)
theorem cr_nr (k : Int) (g1 g2 b u : Pnt) : cr (sc k g1) (sc k g2) (nrP k b u) 1 = k * (k * cr g1 g2 b 1 + ((g2.1 - g1.1) * u.2 - (g2.2 - g1.2) * u.1)) := by unfold cr sc nrP; grind
/-- how great a factor must be. -/
def big (g : Seg) (u v : Pnt) : Nat := u.1.natAbs + u.2.natAbs + v.1.natAbs + v.2.natAbs + ((g.2.1 - g.1.1) * u.2 - (g.2.2 - g.1.2) * u.1).natAbs + ((g.2.1 - g.1.1) * v.2 - (g.2.2 - g.1.2) * v.1).natAbs
theorem mul_small {k x : Int} (hk : 0 < k) (h : -k < k * x ∧ k * x < k) : x = 0 := by
  rcases Int.lt_trichotomy x 0 with g | g | g
  · have := Int.mul_le_mul_of_nonneg_left (show x ≤ -1 by omega) (Int.le_of_lt hk); omega
  · exact g
  · have := Int.mul_le_mul_of_nonneg_left (show 1 ≤ x by omega) (Int.le_of_lt hk); omega
theorem big_bd {g : Seg} {u v : Pnt} {k : Int} (hk : (big g u v : Int) < k) : 0 < k ∧ (-k < u.1 ∧ u.1 < k) ∧ (-k < u.2 ∧ u.2 < k) ∧ (-k < v.1 ∧ v.1 < k) ∧ (-k < v.2 ∧ v.2 < k) ∧
    (-k < (g.2.1 - g.1.1) * u.2 - (g.2.2 - g.1.2) * u.1 ∧ (g.2.1 - g.1.1) * u.2 - (g.2.2 - g.1.2) * u.1 < k) ∧ (-k < (g.2.1 - g.1.1) * v.2 - (g.2.2 - g.1.2) * v.1 ∧ (g.2.1 - g.1.1) * v.2 - (g.2.2 - g.1.2) * v.1 < k) := by
  unfold big at hk
  generalize (g.2.1 - g.1.1) * u.2 - (g.2.2 - g.1.2) * u.1 = U at *
  generalize (g.2.1 - g.1.1) * v.2 - (g.2.2 - g.1.2) * v.1 = V at *
  generalize u.1 = u1 at *
  generalize u.2 = u2 at *
  generalize v.1 = v1 at *
  generalize v.2 = v2 at *
  clear g
  refine ⟨by omega, ⟨by omega, by omega⟩, ⟨by omega, by omega⟩, ⟨by omega, by omega⟩, ⟨by omega, by omega⟩, ⟨by omega, by omega⟩, ⟨by omega, by omega⟩⟩
theorem near_vert {b u v c : Pnt} {k : Int} (hk0 : 0 < k) (hu1 : -k < u.1 ∧ u.1 < k) (hu2 : -k < u.2 ∧ u.2 < k) (hv1 : -k < v.1 ∧ v.1 < k) (hv2 : -k < v.2 ∧ v.2 < k) (hc : c ≠ b) : ¬ has (nrP k b u) (nrP k b v) (sc k c) 1 := by
  intro h
  have h1 := h.2.1
  have h2 := h.2.2
  unfold nrP sc btw at h1 h2
  simp only [Int.mul_one] at h1 h2
  have e1 : k * (c.1 - b.1) = k * c.1 - k * b.1 := by grind
  have e2 : k * (c.2 - b.2) = k * c.2 - k * b.2 := by grind
  have z1 := mul_small hk0 (x := c.1 - b.1) (by rw [e1]; omega)
  have z2 := mul_small hk0 (x := c.2 - b.2) (by rw [e2]; omega)
  exact hc (Prod.ext (by omega) (by omega))
theorem k_step {k x y : Int} (hk0 : 0 < k) (h : x < y) : k * x + k ≤ k * y := by
  have := Int.mul_le_mul_of_nonneg_left (show x + 1 ≤ y by omega) (Int.le_of_lt hk0)
  rw [Int.mul_add, Int.mul_one] at this
  exact this
theorem near_pt {g : Seg} {b t : Pnt} {k : Int} (hk0 : 0 < k) (h1 : -k < t.1 ∧ t.1 < k) (h2 : -k < t.2 ∧ t.2 < k)
    (hbe : (b.1 < g.1.1 ∧ b.1 < g.2.1) ∨ (g.1.1 < b.1 ∧ g.2.1 < b.1) ∨ (b.2 < g.1.2 ∧ b.2 < g.2.2) ∨ (g.1.2 < b.2 ∧ g.2.2 < b.2)) : ¬ has (sc k g.1) (sc k g.2) (nrP k b t) 1 := by
  intro h
  have f1 := h.2.1
  have f2 := h.2.2
  unfold nrP sc btw at f1 f2
  simp only [Int.mul_one] at f1 f2
  rcases hbe with ⟨q1, q2⟩ | ⟨q1, q2⟩ | ⟨q1, q2⟩ | ⟨q1, q2⟩
  · have := k_step hk0 q1; have := k_step hk0 q2; clear f2 h2; omega
  · have := k_step hk0 q1; have := k_step hk0 q2; clear f2 h2; omega
  · have := k_step hk0 q1; have := k_step hk0 q2; clear f1 h1; omega
  · have := k_step hk0 q1; have := k_step hk0 q2; clear f1 h1; omega
theorem near_xs {g : Seg} {b u v : Pnt} {k : Int} (hk0 : 0 < k) (hu1 : -k < u.1 ∧ u.1 < k) (hu2 : -k < u.2 ∧ u.2 < k) (hv1 : -k < v.1 ∧ v.1 < k) (hv2 : -k < v.2 ∧ v.2 < k)
    (hbe : (b.1 < g.1.1 ∧ b.1 < g.2.1) ∨ (g.1.1 < b.1 ∧ g.2.1 < b.1) ∨ (b.2 < g.1.2 ∧ b.2 < g.2.2) ∨ (g.1.2 < b.2 ∧ g.2.2 < b.2)) : ¬ Xs (nrP k b u) (nrP k b v) (sc k g.1) (sc k g.2) := by
  intro h
  obtain ⟨al, be, ga, de, p1, p2, p3, p4, e, f1, f2⟩ := xs_box h
  unfold nrP sc at f1 f2
  simp only at f1 f2
  rcases hbe with ⟨q1, q2⟩ | ⟨q1, q2⟩ | ⟨q1, q2⟩ | ⟨q1, q2⟩
  · have := k_step hk0 q1; have := k_step hk0 q2
    exact box_no p1 p2 p3 p4 e f1 (t := k * b.1 + k) (by omega) (by omega) (by omega) (by omega)
  · have := k_step hk0 q1; have := k_step hk0 q2
    exact box_no' p1 p2 p3 p4 e f1 (t := k * b.1 - k) (by omega) (by omega) (by omega) (by omega)
  · have := k_step hk0 q1; have := k_step hk0 q2
    exact box_no p1 p2 p3 p4 e f2 (t := k * b.2 + k) (by omega) (by omega) (by omega) (by omega)
  · have := k_step hk0 q1; have := k_step hk0 q2
    exact box_no' p1 p2 p3 p4 e f2 (t := k * b.2 - k) (by omega) (by omega) (by omega) (by omega)
theorem beyond {g : Seg} {b : Pnt} (hb : ¬ has g.1 g.2 b 1) (h0 : cr g.1 g.2 b 1 = 0) : (b.1 < g.1.1 ∧ b.1 < g.2.1) ∨ (g.1.1 < b.1 ∧ g.2.1 < b.1) ∨ (b.2 < g.1.2 ∧ b.2 < g.2.2) ∨ (g.1.2 < b.2 ∧ g.2.2 < b.2) := by
  by_cases c1 : btw (g.1.1 * 1) b.1 (g.2.1 * 1)
  · by_cases c2 : btw (g.1.2 * 1) b.2 (g.2.2 * 1)
    · exact absurd ⟨h0, c1, c2⟩ hb
    · unfold btw at c2; omega
  · unfold btw at c1; omega
/-- A segment that does not have the point is not met near it. -/
theorem near_off {g : Seg} {b u v : Pnt} (hb : ¬ has g.1 g.2 b 1) {k : Int} (hk : (big g u v : Int) < k) : Off (nrP k b u) (nrP k b v) (sc k g.1) (sc k g.2) ∧ ¬ Xs (nrP k b u) (nrP k b v) (sc k g.1) (sc k g.2) := by
  obtain ⟨hk0, hu1, hu2, hv1, hv2, hU, hV⟩ := big_bd hk
  clear hk
  have n1 : g.1 ≠ b := fun e => hb (by rw [← e]; exact has_a _ _)
  have n2 : g.2 ≠ b := fun e => hb (by rw [← e]; exact has_b _ _)
  by_cases h0 : cr g.1 g.2 b 1 = 0
  · have hbe := beyond hb h0
    exact ⟨⟨near_vert hk0 hu1 hu2 hv1 hv2 n1, near_vert hk0 hu1 hu2 hv1 hv2 n2, near_pt hk0 hu1 hu2 hbe, near_pt hk0 hv1 hv2 hbe⟩, near_xs hk0 hu1 hu2 hv1 hv2 hbe⟩
  · have c1 := cr_nr k g.1 g.2 b u
    have c2 := cr_nr k g.1 g.2 b v
    generalize (g.2.1 - g.1.1) * u.2 - (g.2.2 - g.1.2) * u.1 = U at *
    generalize (g.2.1 - g.1.1) * v.2 - (g.2.2 - g.1.2) * v.1 = V at *
    have s1 := sgn_of hk0 (rfl : k * (k * cr g.1 g.2 b 1 + U) = _)
    have s2 := sgn_of hk0 (rfl : k * (k * cr g.1 g.2 b 1 + V) = _)
    rw [← c1] at s1
    rw [← c2] at s2
    have dom : (0 < cr g.1 g.2 b 1 → k ≤ k * cr g.1 g.2 b 1) ∧ (cr g.1 g.2 b 1 < 0 → k * cr g.1 g.2 b 1 ≤ -k) := by
      constructor
      · intro q
        have := Int.mul_le_mul_of_nonneg_left (show 1 ≤ cr g.1 g.2 b 1 by omega) (Int.le_of_lt hk0)
        omega
      · intro q
        have := Int.mul_le_mul_of_nonneg_left (show cr g.1 g.2 b 1 ≤ -1 by omega) (Int.le_of_lt hk0)
        omega
    clear c1 c2
    refine ⟨⟨near_vert hk0 hu1 hu2 hv1 hv2 n1, near_vert hk0 hu1 hu2 hv1 hv2 n2, fun h => ?_, fun h => ?_⟩, fun h => ?_⟩
    · have := h.1
      clear hu1 hu2 hv1 hv2 s2
      omega
    · have := h.1
      clear hu1 hu2 hv1 hv2 s1
      omega
    · have o := h.2
      clear hu1 hu2 hv1 hv2
      unfold Opp at o; omega
end Vd
end Go.Proofs.YtcclepohmhdpbaaGreatDoor

/- GEOMETRY, PLAINLY: the hands of all segments of a ring are alike. -/
namespace Go.Proofs.YtcclepohmhdpbaaGreatDoor
set_option linter.all false
namespace Vd
/-! ### greater rings -/
theorem upS_sc {k : Int} (hk : 0 < k) (a b : Pnt) : upS (sc k a) (sc k b) = upS a b := by
  have e1 : ∀ {x y : Int}, k * x < k * y ↔ x < y := fun {x y} => ⟨fun h => Int.lt_of_mul_lt_mul_left h (by omega), fun h => Int.mul_lt_mul_of_pos_left h hk⟩
  have e2 : ∀ {x y : Int}, k * x = k * y ↔ x = y := fun {x y} => ⟨fun h => Int.eq_of_mul_eq_mul_left (by omega) h, fun h => by rw [h]⟩
  unfold upS sc
  simp only [e1, e2]
theorem raysS_sc {k : Int} (hk : 0 < k) (x : Pnt) (w : Int) : ∀ l : List Seg, raysS (l.map (scS k)) (x, w) = raysS l (x, k * w) := by
  intro l
  induction l with
  | nil => rfl
  | cons s l ih =>
    rw [List.map_cons, raysS_cons, raysS_cons, ih]
    have : ray (scS k s).1 (scS k s).2 x w = ray s.1 s.2 x (k * w) := ray_sc hk s.1 s.2 x w
    simp only
    rw [this]
theorem raysS_spot {k : Int} (hk : 0 < k) (x : Pnt) (w : Int) : ∀ l : List Seg, raysS l (sc k x, k * w) = raysS l (x, w) := by
  intro l
  induction l with
  | nil => rfl
  | cons s l ih =>
    rw [raysS_cons, raysS_cons, ih]
    simp only
    rw [ray_spot hk]
theorem scR_append (k : Int) (p q : Ring) : scR k (p ++ q) = scR k p ++ scR k q := by simp [scR]
theorem scR_cons (k : Int) (a : Pnt) (q : Ring) : scR k (a :: q) = sc k a :: scR k q := rfl
theorem oth_sc (k : Int) (p1 : Ring) (a b : Pnt) (p2 : Ring) : oth (scR k p1) (sc k a) (sc k b) (scR k p2) = (oth p1 a b p2).map (scS k) := by
  unfold oth
  rw [List.map_append, ← segs_sc, ← segs_sc, scR_append]; rfl
theorem oth2_sc (k : Int) (p1 : Ring) (a b : Pnt) (p2 : Ring) : oth2 (scR k p1) (sc k a) (sc k b) (scR k p2) = (oth2 p1 a b p2).map (scS k) := oth_sc k p1 a b p2
theorem lh_sc {k : Int} (hk : 0 < k) (p1 : Ring) (a b : Pnt) (p2 : Ring) (x : Pnt) (w : Int) : Lh (scR k p1) (sc k a) (sc k b) (scR k p2) (x, w) = Lh p1 a b p2 (x, k * w) := by
  unfold Lh; rw [oth_sc, raysS_sc hk, upS_sc hk]
theorem lh_spot {k : Int} (hk : 0 < k) (p1 : Ring) (a b : Pnt) (p2 : Ring) (x : Pnt) (w : Int) : Lh p1 a b p2 (sc k x, k * w) = Lh p1 a b p2 (x, w) := by
  unfold Lh; rw [raysS_spot hk]
theorem ptAt_sc (k : Int) (r : Ring) {i : Nat} (h : i < r.length) : ptAt (scR k r) i = sc k (ptAt r i) := by
  unfold ptAt scR
  rw [List.getD_eq_getElem?_getD, List.getD_eq_getElem?_getD, List.getElem?_map, List.getElem?_eq_getElem h]; rfl
theorem vr_sc {k : Int} (hk : 0 < k) {r : Ring} (h : VR r) : VR (scR k r) := by
  have hl : (scR k r).length = r.length := by simp [scR]
  have h4 := h.shut.len
  refine ⟨⟨by rw [hl]; exact h4, ?_⟩, ?_, ?_⟩
  · rw [hl, ptAt_sc k r (by omega), ptAt_sc k r (by omega), h.shut.eq]
  · cases c : twice (scR k r) with
    | false => rfl
    | true =>
      obtain ⟨i, j, h1, h2, h3, e⟩ := twice_iff.1 c
      rw [hl] at h3
      rw [ptAt_sc k r (by omega), ptAt_sc k r (by omega)] at e
      have := twice_iff.2 ⟨i, j, h1, h2, h3, (sc_inj hk).1 e⟩
      rw [h.tw] at this; cases this
  · have e := h.self
    unfold selfR at e ⊢
    rw [segs_sc, List.length_map]
    rw [← e]
    refine anyI_congr fun j hj => anyI_congr fun i hi => ?_
    have at_ : ∀ {i : Nat}, i < (segs r).length → sAt ((segs r).map (scS k)) i = scS k (sAt (segs r) i) := by
      intro i hi
      unfold sAt
      rw [List.getD_eq_getElem?_getD, List.getD_eq_getElem?_getD, List.getElem?_map, List.getElem?_eq_getElem hi]; rfl
    rw [at_ (by omega), at_ hj]
    have : meetS (scS k (sAt (segs r) i)) (scS k (sAt (segs r) j)) = meetS (sAt (segs r) i) (sAt (segs r) j) := meet_sc hk _ _ _ _
    rw [this]
/-! ### spots within a segment -/
structure InsS (a b : Pnt) (m : Spot) : Prop where
  w : 0 < m.2
  on : has a b m.1 m.2
  na : m.1 ≠ sc m.2 a
  nb : m.1 ≠ sc m.2 b
theorem InsS.int {a b : Pnt} {m : Spot} (h : InsS a b m) {k : Int} (hk : 0 < k) : Ins (sc (k * m.2) a) (sc (k * m.2) b) (sc k m.1) := by
  have hkw := pp hk h.w
  have e : ∀ c : Pnt, sc (k * m.2) c = sc k (sc m.2 c) := by
    intro c; unfold sc; exact Prod.ext (by simp only; grind) (by simp only; grind)
  refine ⟨?_, ?_, ?_⟩
  · rw [has_sc hkw, Int.mul_one]
    exact (has_spot hk a b m.1 m.2).2 h.on
  · rw [e]; exact fun q => h.na ((sc_inj hk).1 q)
  · rw [e]; exact fun q => h.nb ((sc_inj hk).1 q)
theorem VR.lh_spots {p1 : Ring} {a b : Pnt} {p2 : Ring} (h : VR (p1 ++ a :: b :: p2)) {m m' : Spot} (hm : InsS a b m) (hm' : InsS a b m') : Lh p1 a b p2 m = Lh p1 a b p2 m' := by
  have hk := pp hm.w hm'.w
  have h' := vr_sc hk h
  rw [scR_append, scR_cons, scR_cons] at h'
  have i1 := hm.int hm'.w
  have i2 := hm'.int hm.w
  rw [Int.mul_comm m'.2 m.2] at i1
  have key := h'.lh_same i1 i2
  rw [lh_sc hk, lh_sc hk, Int.mul_one] at key
  have e1 := lh_spot hm'.w p1 a b p2 m.1 m.2
  have e2 := lh_spot hm.w p1 a b p2 m'.1 m'.2
  rw [Int.mul_comm m'.2 m.2] at e1
  rw [← e1, ← e2, key]
theorem mid_ins {a b : Pnt} (hab : a ≠ b) : InsS a b (midOf a b) := by
  have ne : a.1 ≠ b.1 ∨ a.2 ≠ b.2 := by
    by_cases c : a.1 = b.1
    · right; exact fun e => hab (Prod.ext c e)
    · exact .inl c
  refine ⟨by show (0 : Int) < 2; omega, ⟨by rw [show (midOf a b).2 = 2 from rfl, cr_mid, cr_a, cr_b]; rfl, ?_, ?_⟩, ?_, ?_⟩
  · unfold btw midOf; simp only; omega
  · unfold btw midOf; simp only; omega
  · intro e; unfold midOf sc at e; simp only [Prod.mk.injEq] at e; omega
  · intro e; unfold midOf sc at e; simp only [Prod.mk.injEq] at e; omega
/-- Near an end: within. -/
theorem near_ins {a b : Pnt} (hab : a ≠ b) {k : Int} (hk : 2 ≤ k) : Ins (sc k a) (sc k b) (nrP k b (a.1 - b.1, a.2 - b.2)) := by
  have hk0 : 0 < k := by omega
  have ne : a.1 - b.1 ≠ 0 ∨ a.2 - b.2 ≠ 0 := by
    by_cases c : a.1 - b.1 = 0
    · right; exact fun e => hab (Prod.ext (by omega) (by omega))
    · exact .inl c
  have bt : ∀ x y : Int, btw (x * k) (k * y + (x - y)) (y * k) := by
    intro x y
    have e1 : k * y = y * k := Int.mul_comm _ _
    have e2 : x * k - y * k = (x - y) * k := by grind
    unfold btw
    rcases Int.le_total 0 (x - y) with g | g
    · have := Int.mul_le_mul_of_nonneg_left (show 1 ≤ k by omega) g
      right; omega
    · have := Int.mul_le_mul_of_nonpos_left g (show 1 ≤ k by omega)
      left; omega
  have ow : ∀ {x : Int}, x ≠ 0 → k * x ≠ x := by
    intro x hx e
    have : (k - 1) * x = 0 := by grind
    rcases Int.mul_eq_zero.1 this with q | q <;> omega
  refine ⟨?_, ?_, ?_⟩
  · rw [has_sc hk0, Int.mul_one]
    refine ⟨by unfold cr nrP; grind, ?_, ?_⟩
    · exact bt a.1 b.1
    · exact bt a.2 b.2
  · intro e
    unfold nrP sc at e
    simp only [Prod.mk.injEq] at e
    have e1 : k * (a.1 - b.1) = a.1 - b.1 := by grind
    have e2 : k * (a.2 - b.2) = a.2 - b.2 := by grind
    rcases ne with q | q
    · exact ow q e1
    · exact ow q e2
  · intro e
    unfold nrP sc at e
    simp only [Prod.mk.injEq] at e
    omega
theorem near_insS {a b : Pnt} (hab : a ≠ b) {k : Int} (hk : 2 ≤ k) : InsS a b (nrP k b (a.1 - b.1, a.2 - b.2), k) := by
  have h := near_ins hab hk
  have hk0 : 0 < k := by omega
  have := h.on
  rw [has_sc hk0, Int.mul_one] at this
  exact ⟨hk0, this, h.na, h.nb⟩
/-- Segments that touch in their common end do not go back. -/
theorem no_back {a b c : Pnt} (hab : a ≠ b) (hbc : b ≠ c) (h : meet a b b c = 1) : cr a b c 1 ≠ 0 ∨ has a c b 1 := by
  by_cases h0 : cr a b c 1 = 0
  · right
    have hk := kk_pos hab
    have three : ∀ z, z ≠ b → has a b z 1 → has b c z 1 → False := by
      intro z hz h1 h2
      have := meet_two hab hbc hz h1 h2 (has_b a b) (has_a b c)
      omega
    have pb := pos_b a b
    have pa := pos_a a b
    rcases Int.lt_or_le (kk a b) (pos a b c) with g | g
    · -- beyond
      have hac : a ≠ c := by rintro rfl; rw [pa] at g; omega
      refine (has_on hac (by omega)).2 ⟨by unfold cr at *; grind, ?_, ?_⟩
      · have : dt a c b 1 = pos a b c := by unfold pos dt; grind
        omega
      · have e1 : dt a c b 1 = pos a b c := by unfold pos dt; grind
        have e2 := dt_dir (cr_a a b) h0 c
        rw [pa, Int.sub_zero, ← kk_dt] at e2
        rw [e1, Int.mul_one]
        have : kk a b * pos a b c ≤ pos a b c * pos a b c := Int.mul_le_mul_of_nonneg_right (by omega) (by omega)
        rw [← e2] at this
        exact Int.le_of_mul_le_mul_left this hk
    · exfalso
      rcases Int.lt_or_le (pos a b c) 0 with q | q
      · -- a between c and b
        refine three a hab (has_a a b) ?_
        refine (has_on hbc (by omega)).2 ⟨by unfold cr at *; grind, ?_, ?_⟩
        · have e := dt_dir (cr_b a b) h0 a
          rw [pa, pb] at e
          have : 0 < kk a b * dt b c a 1 := by rw [e]; exact nng (by omega) (by omega)
          exact Int.le_of_lt ((sgn_of hk rfl).1.2 this)
        · have e := dt_dir (cr_b a b) h0 a
          have e2 := dt_dir (cr_b a b) h0 c
          rw [pa, pb] at e
          rw [pb, ← kk_dt] at e2
          rw [Int.mul_one]
          have : kk a b * dt b c a 1 ≤ kk a b * kk b c := by
            rw [e, e2]; exact Int.mul_le_mul_of_nonpos_left (by omega) (by omega)
          exact Int.le_of_mul_le_mul_left this hk
      · exact three c (Ne.symm hbc) (has_pos hab h0 q g) (has_b b c)
  · exact .inl h0
theorem ex_big (f : Seg → Nat) : ∀ l : List Seg, ∃ k : Int, 2 ≤ k ∧ ∀ s ∈ l, (f s : Int) < k := by
  intro l
  induction l with
  | nil => exact ⟨2, by omega, by simp⟩
  | cons a t ih =>
    obtain ⟨k, h1, h2⟩ := ih
    refine ⟨k + f a + 1, by omega, fun s hs => ?_⟩
    rcases List.mem_cons.1 hs with rfl | hs
    · omega
    · have := h2 s hs; omega
/-- A vertex lies on the two segments that have it alone. -/
theorem VR.vert {p1 : Ring} {a b c : Pnt} {p2 : Ring} (h : VR (p1 ++ a :: b :: c :: p2)) {s : Seg} (hs : s ∈ oth2 p1 a c p2) : ¬ has s.1 s.2 b 1 := by
  intro hh
  have hlen : (p1 ++ a :: b :: c :: p2).length = p1.length + 3 + p2.length := by simp; omega
  have hso : s ∈ oth p1 a b (c :: p2) := by
    unfold oth oth2 at *
    rw [segs_cons2]
    rcases List.mem_append.1 hs with q | q
    · exact List.mem_append.2 (.inl q)
    · exact List.mem_append.2 (.inr (by simp [q]))
  have hne : s.1 ≠ b := by
    -- by its place
    intro e
    have hb : ptAt (p1 ++ a :: b :: c :: p2) (p1.length + 1) = b := (at_here p1 a b (c :: p2)).2
    have two : ∀ j, 1 ≤ j → j ≠ p1.length + 1 → j < (p1 ++ a :: b :: c :: p2).length → ptAt (p1 ++ a :: b :: c :: p2) j ≠ b := by
      intro j h1 h2 h3 e
      have : twice (p1 ++ a :: b :: c :: p2) = true := by
        rcases Nat.lt_or_ge j (p1.length + 1) with g | g
        · exact twice_iff.2 ⟨j, p1.length + 1, h1, g, by omega, by rw [e, hb]⟩
        · exact twice_iff.2 ⟨p1.length + 1, j, by omega, by omega, h3, by rw [e, hb]⟩
      rw [h.tw] at this; cases this
    have zero : ptAt (p1 ++ a :: b :: c :: p2) 0 ≠ b := by
      rw [h.shut.eq]
      exact two _ (by omega) (by omega) (by omega)
    unfold oth2 at hs
    rcases List.mem_append.1 hs with q | q
    · obtain ⟨j, hj, rfl⟩ := segs_mem_at q
      have e2 : p1 ++ a :: b :: c :: p2 = (p1 ++ [a]) ++ b :: c :: p2 := by simp
      have hj' : j + 1 < p1.length + 1 := by simpa using hj
      simp only at e
      rw [← ptAt_app1 (p1 := p1 ++ [a]) (p2 := b :: c :: p2) (by omega), ← e2] at e
      rcases Nat.eq_zero_or_pos j with g | g
      · rw [g] at e; exact zero e
      · exact two j g (by omega) (by omega) e
    · obtain ⟨j, hj, rfl⟩ := segs_mem_at q
      have e2 : p1 ++ a :: b :: c :: p2 = (p1 ++ [a, b]) ++ c :: p2 := by simp
      simp only at e
      rw [← ptAt_app2 (p1 := p1 ++ [a, b]) (p2 := c :: p2) j, ← e2] at e
      have hj' : j + 1 < p2.length + 1 := by simpa using hj
      exact two _ (by simp; omega) (by simp; omega) (by simp; omega) e
  rcases h.other hso with e | ⟨e, q | q⟩
  · exact meet_pt h.here (h.oth_long hso) (has_b a b) hh e
  · exact hne q
  · have := meet_two h.here (h.oth_long hso) (Ne.symm h.here) (has_b a b) hh (has_a a b) (by rw [← q]; exact has_b _ _)
    omega
theorem VR.next_long {p1 : Ring} {a b c : Pnt} {p2 : Ring} (h : VR (p1 ++ a :: b :: c :: p2)) : b ≠ c := by
  refine h.long (b, c) (mem_oth.2 (.inr ?_))
  unfold oth; rw [segs_cons2]; simp
theorem VR.back {p1 : Ring} {a b c : Pnt} {p2 : Ring} (h : VR (p1 ++ a :: b :: c :: p2)) : cr a b c 1 ≠ 0 ∨ has a c b 1 := by
  have hso : (b, c) ∈ oth p1 a b (c :: p2) := by unfold oth; rw [segs_cons2]; simp
  rcases h.other hso with e | ⟨e, -⟩
  · exact absurd e (meet_pt h.here h.next_long (has_b a b) (has_a b c))
  · exact no_back h.here h.next_long e
/-- O1: two segments that follow each other have like hands. -/
theorem VR.lh_next {p1 : Ring} {a b c : Pnt} {p2 : Ring} (h : VR (p1 ++ a :: b :: c :: p2)) : Lh p1 a b (c :: p2) (midOf a b) = Lh (p1 ++ [a]) b c p2 (midOf b c) := by
  have hab := h.here
  have hbc := h.next_long
  obtain ⟨k, hk, hbig⟩ := ex_big (fun s => big s (a.1 - b.1, a.2 - b.2) (c.1 - b.1, c.2 - b.2)) (oth2 p1 a c p2)
  have hk0 : 0 < k := by omega
  have i1 := near_ins hab hk
  have i2 := ins_swap (near_ins (Ne.symm hbc) hk)
  have key := Vd.lh_next (p1 := scR k p1) (a := sc k a) (b := sc k b) (c := sc k c) (p2 := scR k p2) (by
      have := ends_sc (k := k) (shut_ends h.shut)
      rw [scR_append, scR_cons, scR_cons, scR_cons] at this
      exact this) (fun e => hab ((sc_inj hk0).1 e)) (fun e => hbc ((sc_inj hk0).1 e)) (by
      rcases h.back with q | q
      · left
        rw [cr_sc1]
        intro e
        rcases Int.mul_eq_zero.1 e with z | z
        · have := pp hk0 hk0; omega
        · exact q z
      · right; exact (has_sc1 hk0 a c b).2 q) i1 i2 (by
      intro s hs
      rw [oth2_sc] at hs
      obtain ⟨g, hg, rfl⟩ := List.mem_map.1 hs
      exact (near_off (h.vert hg) (hbig g hg)).1) (by
      intro s hs
      rw [oth2_sc] at hs
      obtain ⟨g, hg, rfl⟩ := List.mem_map.1 hs
      exact (near_off (h.vert hg) (hbig g hg)).2)
  have h2 : VR ((p1 ++ [a]) ++ b :: c :: p2) := by simpa using h
  rw [h.lh_spots (mid_ins hab) (near_insS hab hk)]
  have n2 := near_insS (Ne.symm hbc) hk
  rw [h2.lh_spots (mid_ins hbc) (m' := (nrP k b (c.1 - b.1, c.2 - b.2), k)) ⟨n2.w, has_swap.1 n2.on, n2.nb, n2.na⟩]
  have e1 := lh_sc hk0 p1 a b (c :: p2) (nrP k b (a.1 - b.1, a.2 - b.2)) 1
  have e2 := lh_sc hk0 (p1 ++ [a]) b c p2 (nrP k b (c.1 - b.1, c.2 - b.2)) 1
  rw [Int.mul_one] at e1 e2
  rw [← e1, ← e2]
  rw [scR_append, scR_cons]
  exact key
/-- by places. -/
def LhI (r : Ring) (i : Nat) : Bool := Lh (r.take i) (ptAt r i) (ptAt r (i + 1)) (r.drop (i + 2)) (midOf (ptAt r i) (ptAt r (i + 1)))
theorem split_at {r : Ring} {i : Nat} (h : i + 1 < r.length) : r = r.take i ++ ptAt r i :: ptAt r (i + 1) :: r.drop (i + 2) := by
  have e1 : r.drop i = r[i] :: r.drop (i + 1) := List.drop_eq_getElem_cons (by omega)
  have e2 : r.drop (i + 1) = r[i + 1] :: r.drop (i + 2) := List.drop_eq_getElem_cons h
  have p1 : ptAt r i = r[i] := by unfold ptAt; rw [List.getD_eq_getElem?_getD, List.getElem?_eq_getElem (by omega)]; rfl
  have p2 : ptAt r (i + 1) = r[i + 1] := by unfold ptAt; rw [List.getD_eq_getElem?_getD, List.getElem?_eq_getElem h]; rfl
  conv => lhs; rw [← List.take_append_drop i r, e1, e2]
  rw [p1, p2]
theorem VR.lhI_next {r : Ring} (h : VR r) {i : Nat} (hi : i + 2 < r.length) : LhI r i = LhI r (i + 1) := by
  have e := split_at (r := r) (i := i) (by omega)
  have e2 : r.drop (i + 2) = ptAt r (i + 2) :: r.drop (i + 3) := by
    have : r.drop (i + 2) = r[i + 2] :: r.drop (i + 3) := List.drop_eq_getElem_cons hi
    rw [this]
    congr 1
    unfold ptAt; rw [List.getD_eq_getElem?_getD, List.getElem?_eq_getElem hi]; rfl
  have h' : VR (r.take i ++ ptAt r i :: ptAt r (i + 1) :: ptAt r (i + 2) :: r.drop (i + 3)) := by rw [← e2, ← e]; exact h
  have key := h'.lh_next
  unfold LhI
  rw [e2, key]
  congr 1
  have : r.take (i + 1) = r.take i ++ [ptAt r i] := by
    rw [List.take_succ, ptAt_get (by omega)]; rfl
  rw [this]
theorem VR.lhI_all {r : Ring} (h : VR r) : ∀ i, i + 1 < r.length → LhI r i = LhI r 0 := by
  intro i
  induction i with
  | zero => intro _; rfl
  | succ i ih => intro hi; rw [← h.lhI_next hi, ih (by omega)]
end Vd
end Go.Proofs.YtcclepohmhdpbaaGreatDoor

/- GEOMETRY, PLAINLY: sums over heights; signs that alternate. -/
namespace Go.Proofs.YtcclepohmhdpbaaGreatDoor
set_option linter.all false
namespace Vd

/-! ### sums -/
def sumI {α : Type} (f : α → Int) (l : List α) : Int := (l.map f).sum
theorem sumI_nil {α : Type} (f : α → Int) : sumI f [] = 0 := rfl
theorem sumI_cons {α : Type} (f : α → Int) (a : α) (l : List α) : sumI f (a :: l) = f a + sumI f l := by simp [sumI]
theorem sumI_append {α : Type} (f : α → Int) (l k : List α) : sumI f (l ++ k) = sumI f l + sumI f k := by simp [sumI]
theorem sumI_congr {α : Type} {f g : α → Int} {l : List α} (h : ∀ x ∈ l, f x = g x) : sumI f l = sumI g l := by
  unfold sumI; congr 1; exact List.map_congr_left h
theorem sumI_add {α : Type} (f g : α → Int) (l : List α) : sumI (fun x => f x + g x) l = sumI f l + sumI g l := by
  induction l with
  | nil => rfl
  | cons a t ih => rw [sumI_cons, sumI_cons, sumI_cons, ih]; omega
theorem sumI_mul {α : Type} (k : Int) (f : α → Int) (l : List α) : sumI (fun x => k * f x) l = k * sumI f l := by
  induction l with
  | nil => simp [sumI]
  | cons a t ih => rw [sumI_cons, sumI_cons, ih, Int.mul_add]
theorem sumI_neg {α : Type} (f : α → Int) (l : List α) : sumI (fun x => -(f x)) l = -(sumI f l) := by
  induction l with
  | nil => rfl
  | cons a t ih => rw [sumI_cons, sumI_cons, ih]; omega
theorem sumI_swap {α β : Type} (f : α → β → Int) (l : List α) (k : List β) : sumI (fun x => sumI (f x) k) l = sumI (fun y => sumI (fun x => f x y) l) k := by
  induction l with
  | nil => simp only [sumI_nil]; induction k with
    | nil => rfl
    | cons b t ih => rw [sumI_cons, ← ih]; rfl
  | cons a t ih =>
    rw [sumI_cons, ih, ← sumI_add]
    exact sumI_congr fun y _ => (sumI_cons (fun x => f x y) a t).symm
theorem sumI_nonneg {α : Type} {f : α → Int} {l : List α} (h : ∀ x ∈ l, 0 ≤ f x) : 0 ≤ sumI f l := by
  induction l with
  | nil => exact Int.le_refl _
  | cons a t ih => rw [sumI_cons]; have := h a (by simp); have := ih fun x hx => h x (by simp [hx]); omega
theorem sumI_pos {α : Type} {f : α → Int} {l : List α} (h : ∀ x ∈ l, 0 ≤ f x) (k : ∃ x ∈ l, 0 < f x) : 0 < sumI f l := by
  induction l with
  | nil => obtain ⟨x, hx, _⟩ := k; simp at hx
  | cons a t ih =>
    rw [sumI_cons]
    have h1 := h a (by simp)
    have h2 : 0 ≤ sumI f t := sumI_nonneg fun x hx => h x (by simp [hx])
    obtain ⟨x, hx, hp⟩ := k
    rcases List.mem_cons.1 hx with rfl | hx
    · omega
    · have := ih (fun x hx => h x (by simp [hx])) ⟨x, hx, hp⟩; omega
theorem sumI_filter {α : Type} (p : α → Bool) (f : α → Int) (l : List α) : sumI f (l.filter p) = sumI (fun x => if p x = true then f x else 0) l := by
  induction l with
  | nil => rfl
  | cons a t ih =>
    rw [List.filter_cons]
    by_cases h : p a = true
    · rw [if_pos h, sumI_cons, sumI_cons, if_pos h, ih]
    · rw [if_neg h, sumI_cons, if_neg h, ih]; omega
/-- along a way: only its ends count. -/
theorem sum_chain (g : Pnt → Int) : ∀ (t : Ring) (a : Pnt), sumI (fun s : Seg => g s.2 - g s.1) (segs (a :: t)) = g ((a :: t).getLast (by simp)) - g a := by
  intro t
  induction t with
  | nil => intro a; simp [segs, sumI]
  | cons b t ih =>
    intro a
    rw [segs_cons2, sumI_cons, ih b]
    simp only [List.getLast_cons_cons]
    omega
theorem sum_ring (g : Pnt → Int) {r : Ring} (h : Ends r) : sumI (fun s : Seg => g s.2 - g s.1) (segs r) = 0 := by
  cases r with
  | nil => rfl
  | cons a t =>
    rw [sum_chain]
    unfold Ends at h
    rw [List.head?_cons, List.getLast?_eq_some_getLast (by simp)] at h
    rw [← Option.some.inj h]; omega

/-! ### signs that alternate -/
abbrev XU := Int × Bool
def cntG (P : List XU) (x : Int) : Bool := P.foldr (fun p b => decide (x < p.1) ^^ b) false
theorem cntG_cons (p : XU) (P : List XU) (x : Int) : cntG (p :: P) x = (decide (x < p.1) ^^ cntG P x) := rfl
theorem cntG_append (P Q : List XU) (x : Int) : cntG (P ++ Q) x = (cntG P x ^^ cntG Q x) := by
  induction P with
  | nil => simp [cntG]
  | cons p t ih => rw [List.cons_append, cntG_cons, cntG_cons, ih, Bool.xor_assoc]
theorem cntG_out (P Q : List XU) (p : XU) (x : Int) : cntG (P ++ p :: Q) x = (decide (x < p.1) ^^ cntG (P ++ Q) x) := by
  rw [cntG_append, cntG_cons, cntG_append]
  cases decide (x < p.1) <;> cases cntG P x <;> cases cntG Q x <;> rfl
def sgU (u : Bool) : Int := if u = true then 1 else -1
def sgX (p : XU) : Int := sgU p.2 * p.1
theorem cntG_none {P : List XU} {x : Int} (h : ∀ p ∈ P, p.1 ≤ x) : cntG P x = false := by
  induction P with
  | nil => rfl
  | cons p t ih =>
    rw [cntG_cons, ih fun q hq => h q (by simp [hq]), decide_eq_false (by have := h p (by simp); omega)]; rfl
theorem ex_top {P : List XU} (h : P ≠ []) : ∃ A p B, P = A ++ p :: B ∧ ∀ q ∈ P, q.1 ≤ p.1 := by
  obtain ⟨p, hp, -, hm⟩ := ex_max (fun q : XU => q.1) (fun _ => True) P (by
    cases P with
    | nil => exact absurd rfl h
    | cons a t => exact ⟨a, by simp, trivial⟩)
  obtain ⟨A, B, e⟩ := List.append_of_mem hp
  exact ⟨A, p, B, e, fun q hq => hm q hq trivial⟩
structure Alt (P : List XU) : Prop where
  nd : (P.map (·.1)).Nodup
  al : ∀ p ∈ P, (cntG P p.1 ^^ p.2) = true
theorem nd_out {A B : List XU} {p : XU} (h : ((A ++ p :: B).map (·.1)).Nodup) : ((A ++ B).map (·.1)).Nodup ∧ ∀ q ∈ A ++ B, q.1 ≠ p.1 := by
  rw [List.map_append, List.map_cons, List.nodup_append] at h
  obtain ⟨h1, h2, h3⟩ := h
  rw [List.nodup_cons] at h2
  constructor
  · rw [List.map_append, List.nodup_append]
    exact ⟨h1, h2.2, fun a ha b hb => h3 a ha b (List.mem_cons_of_mem _ hb)⟩
  · intro q hq e
    rcases List.mem_append.1 hq with hq | hq
    · exact h3 q.1 (List.mem_map_of_mem hq) p.1 (by simp) e
    · exact h2.1 (e ▸ List.mem_map_of_mem hq)
theorem sum_out {α : Type} (f : α → Int) (A B : List α) (p : α) : sumI f (A ++ p :: B) = f p + sumI f (A ++ B) := by
  rw [sumI_append, sumI_cons, sumI_append]; omega
theorem alt_pos : ∀ (n : Nat) (P : List XU), P.length ≤ n → Alt P → sumI (fun p => sgU p.2) P = 0 → P ≠ [] → 0 < sumI sgX P := by
  intro n
  induction n with
  | zero => intro P hl _ _ hne; exact absurd (List.eq_nil_of_length_eq_zero (by omega)) hne
  | succ n ih =>
    intro P hl h hs hne
    obtain ⟨A, p, B, rfl, hp⟩ := ex_top hne
    obtain ⟨nd1, ne1⟩ := nd_out h.nd
    have up : p.2 = true := by
      have := h.al p (by simp)
      rw [cntG_none fun q hq => hp q hq] at this
      simpa using this
    rw [sum_out] at hs
    have hne2 : A ++ B ≠ [] := by
      intro e
      rw [e, sumI_nil, up] at hs
      simp [sgU] at hs
    obtain ⟨C, q, D, e2, hq⟩ := ex_top hne2
    rw [e2] at hs nd1 ne1 hq
    obtain ⟨nd2, ne2⟩ := nd_out nd1
    have lt1 : ∀ x ∈ C ++ q :: D, x.1 < p.1 := fun x hx => by
      have h1 := hp x (by
        have : x ∈ A ++ B := by rw [e2]; exact hx
        rcases List.mem_append.1 this with k | k <;> simp [k])
      have := ne1 x hx
      omega
    have lt2 : ∀ x ∈ C ++ D, x.1 < q.1 := fun x hx => by
      have h1 := hq x (by rcases List.mem_append.1 hx with k | k <;> simp [k])
      have := ne2 x hx
      omega
    have cn : ∀ x : Int, cntG (A ++ p :: B) x = (decide (x < p.1) ^^ (decide (x < q.1) ^^ cntG (C ++ D) x)) := fun x => by rw [cntG_out, e2, cntG_out]
    have uq : q.2 = false := by
      have := h.al q (by
        have : q ∈ A ++ B := by rw [e2]; simp
        rcases List.mem_append.1 this with k | k <;> simp [k])
      rw [cn, decide_eq_true (lt1 q (by simp)), decide_eq_false (by omega), cntG_none fun x hx => by have := lt2 x hx; omega] at this
      simpa using this
    rw [sum_out, e2, sum_out]
    rw [sum_out, up, uq] at hs
    have hpq := lt1 q (by simp)
    have e1 : sgX p = p.1 := by simp [sgX, sgU, up]
    have e3 : sgX q = -q.1 := by simp [sgX, sgU, uq]
    have alt2 : Alt (C ++ D) := ⟨nd2, fun x hx => by
      have := h.al x (by
        have : x ∈ A ++ B := by rw [e2]; rcases List.mem_append.1 hx with k | k <;> simp [k]
        rcases List.mem_append.1 this with k | k <;> simp [k])
      rw [cn, decide_eq_true (lt1 x (by rcases List.mem_append.1 hx with k | k <;> simp [k])), decide_eq_true (lt2 x hx)] at this
      simpa using this⟩
    have hs2 : sumI (fun p => sgU p.2) (C ++ D) = 0 := by
      have a1 : sgU true = 1 := rfl
      have a2 : sgU false = -1 := rfl
      rw [a1, a2] at hs
      omega
    have hl2 : (C ++ D).length ≤ n := by
      have := congrArg List.length e2
      simp only [List.length_append, List.length_cons] at this hl ⊢
      omega
    by_cases hz : C ++ D = []
    · rw [hz, sumI_nil, e1, e3]; omega
    · have := ih (C ++ D) hl2 alt2 hs2 hz
      rw [e1, e3]; omega
/-- the other hand. -/
def flipU (P : List XU) : List XU := P.map fun p => (p.1, !p.2)
theorem cntG_flip (P : List XU) (x : Int) : cntG (flipU P) x = cntG P x := by
  induction P with
  | nil => rfl
  | cons p t ih => show (_ ^^ cntG (flipU t) x) = _; rw [ih]; rfl
theorem sum_flip (P : List XU) : sumI sgX (flipU P) = -(sumI sgX P) ∧ sumI (fun p => sgU p.2) (flipU P) = -(sumI (fun p => sgU p.2) P) := by
  induction P with
  | nil => exact ⟨rfl, rfl⟩
  | cons p t ih =>
    show sumI sgX ((p.1, !p.2) :: flipU t) = _ ∧ sumI (fun p => sgU p.2) ((p.1, !p.2) :: flipU t) = _
    rw [sumI_cons, sumI_cons, sumI_cons, sumI_cons, ih.1, ih.2]
    unfold sgX sgU
    cases p.2 <;> simp <;> omega
theorem alt_any {P : List XU} {L : Bool} (nd : (P.map (·.1)).Nodup) (al : ∀ p ∈ P, (cntG P p.1 ^^ p.2) = L) (hs : sumI (fun p => sgU p.2) P = 0) :
    (P = [] → sumI sgX P = 0) ∧ (P ≠ [] → 0 < sgU L * sumI sgX P) := by
  refine ⟨fun e => by rw [e]; rfl, fun hne => ?_⟩
  cases L with
  | true =>
    have := alt_pos P.length P (Nat.le_refl _) ⟨nd, al⟩ hs hne
    simpa [sgU] using this
  | false =>
    have h1 : Alt (flipU P) := by
      refine ⟨by unfold flipU; rw [List.map_map]; exact nd, fun p hp => ?_⟩
      obtain ⟨q, hq, rfl⟩ := List.mem_map.1 hp
      have := al q hq
      simp only [cntG_flip]
      revert this
      cases cntG P q.1 <;> cases q.2 <;> simp
    have := alt_pos (flipU P).length (flipU P) (Nat.le_refl _) h1 (by rw [(sum_flip P).2, hs]; rfl) (fun e => hne (by unfold flipU at e; simpa using e))
    rw [(sum_flip P).1] at this
    simp [sgU]; omega
end Vd
end Go.Proofs.YtcclepohmhdpbaaGreatDoor

/- GEOMETRY, PLAINLY: a ring at a height. -/
namespace Go.Proofs.YtcclepohmhdpbaaGreatDoor
set_option linter.all false
namespace Vd

def dyS (s : Seg) : Int := s.2.2 - s.1.2
/-- K is a multiple of each height. -/
def KOk (K : Int) (l : List Seg) : Prop := 0 < K ∧ ∀ s ∈ l, ∃ q, q * dyS s = K ∨ dyS s = 0
def qd (K : Int) (s : Seg) : Int := K / dyS s
theorem qd_mul {K : Int} {s : Seg} (h : ∃ q, q * dyS s = K ∨ dyS s = 0) (h0 : dyS s ≠ 0) : qd K s * dyS s = K := by
  obtain ⟨q, h | h⟩ := h
  · unfold qd; rw [← h, Int.mul_ediv_cancel _ h0]
  · exact absurd h h0
theorem ex_K : ∀ l : List Seg, ∃ K, KOk K l := by
  intro l
  induction l with
  | nil => exact ⟨1, by omega, fun s hs => by simp at hs⟩
  | cons a t ih =>
    obtain ⟨K, hK, h⟩ := ih
    by_cases h0 : dyS a = 0
    · refine ⟨K, hK, fun s hs => ?_⟩
      rcases List.mem_cons.1 hs with rfl | hs
      · exact ⟨0, .inr h0⟩
      · exact h s hs
    · refine ⟨K * (dyS a * dyS a), pp hK (sq_pos h0), fun s hs => ?_⟩
      rcases List.mem_cons.1 hs with rfl | hs
      · exact ⟨K * dyS s, .inl (by rw [Int.mul_assoc])⟩
      · obtain ⟨q, hq | hq⟩ := h s hs
        · exact ⟨q * (dyS a * dyS a), .inl (by rw [← hq]; grind)⟩
        · exact ⟨0, .inr hq⟩
def cj (s : Seg) (j : Int) : Bool := decide ((s.1.2 ≤ j ∧ j < s.2.2) ∨ (s.2.2 ≤ j ∧ j < s.1.2))
theorem cj_ne {s : Seg} {j : Int} (h : cj s j = true) : dyS s ≠ 0 := by unfold cj at h; have := of_decide_eq_true h; unfold dyS; omega
/-- where the segment stands at the height j and a half, 2 K times. -/
def Xk (K : Int) (s : Seg) (j : Int) : Int := 2 * K * s.1.1 + (s.2.1 - s.1.1) * (2 * j + 1 - 2 * s.1.2) * qd K s
def ms (K : Int) (x j : Int) : Spot := ((x, K * (2 * j + 1)), 2 * K)
theorem cr_X {K : Int} {s : Seg} (hq : qd K s * dyS s = K) (x j : Int) : cr s.1 s.2 (ms K x j).1 (ms K x j).2 = dyS s * (Xk K s j - x) := by
  unfold cr ms Xk dyS at *
  simp only
  generalize qd K s = q at *
  grind
theorem hgt {K y j : Int} (hK : 0 < K) : y * (2 * K) > K * (2 * j + 1) ↔ j < y := by
  rw [show y * (2 * K) = K * (2 * y) by grind]
  constructor
  · intro h
    have := Int.lt_of_mul_lt_mul_left h (by omega)
    omega
  · intro h
    exact Int.mul_lt_mul_of_pos_left (by omega) hK
theorem ray_X {K : Int} {s : Seg} (hK : 0 < K) (h : ∃ q, q * dyS s = K ∨ dyS s = 0) (x j : Int) : ray s.1 s.2 (ms K x j).1 (ms K x j).2 = decide (cj s j = true ∧ x < Xk K s j) := by
  unfold ray
  have e1 : decide (s.1.2 * (ms K x j).2 > (ms K x j).1.2) = decide (j < s.1.2) := decide_eq_decide.2 (hgt hK)
  have e2 : (s.2.2 * (ms K x j).2 > (ms K x j).1.2) ↔ j < s.2.2 := hgt hK
  have e2' : decide (s.2.2 * (ms K x j).2 > (ms K x j).1.2) = decide (j < s.2.2) := decide_eq_decide.2 e2
  rw [e1, e2']
  by_cases c : cj s j = true
  · have hq := qd_mul h (cj_ne c)
    have hc := of_decide_eq_true c
    rw [cr_X hq]
    have d0 : dyS s = s.2.2 - s.1.2 := rfl
    rcases hc with ⟨h1, h2⟩ | ⟨h1, h2⟩
    · rw [decide_eq_false (by omega : ¬ j < s.1.2), decide_eq_true h2, if_neg (by decide), if_pos (e2.2 h2)]
      apply decide_eq_decide.2
      rw [sg_pos]
      have dp : 0 < dyS s := by omega
      constructor
      · intro k; refine ⟨c, ?_⟩; rcases Int.lt_or_le x (Xk K s j) with g | g; exact g; exact absurd k (by have := m0 (x := dyS s) (y := Xk K s j - x) (by omega) (by omega); omega)
      · intro k; exact pp dp (by omega)
    · rw [decide_eq_true h2, decide_eq_false (by omega : ¬ j < s.2.2), if_neg (by decide), if_neg (fun k => by have := e2.1 k; omega)]
      apply decide_eq_decide.2
      rw [sg_neg]
      have dn : dyS s < 0 := by omega
      constructor
      · intro k; refine ⟨c, ?_⟩; rcases Int.lt_or_le x (Xk K s j) with g | g; exact g; exact absurd k (by have := q0 (x := dyS s) (y := Xk K s j - x) (by omega) (by omega); omega)
      · intro k; exact np dn (by omega)
  · have hc : ¬ ((s.1.2 ≤ j ∧ j < s.2.2) ∨ (s.2.2 ≤ j ∧ j < s.1.2)) := fun k => c (decide_eq_true k)
    rw [if_pos (by apply decide_eq_decide.2; omega)]
    exact (decide_eq_false fun k => c k.1).symm
theorem ins_X {K : Int} {s : Seg} (hK : 0 < K) (h : ∃ q, q * dyS s = K ∨ dyS s = 0) {j : Int} (c : cj s j = true) : InsS s.1 s.2 (ms K (Xk K s j) j) := by
  have hq := qd_mul h (cj_ne c)
  have hc := of_decide_eq_true c
  have h2K : (0 : Int) < 2 * K := by omega
  have hg := fun y => hgt (K := K) (y := y) (j := j) hK
  have par : ∀ y : Int, K * (2 * j + 1) ≠ 2 * K * y := fun y e => by
    rw [show 2 * K * y = K * (2 * y) by grind] at e
    have := Int.eq_of_mul_eq_mul_left (by omega) e
    omega
  refine ⟨h2K, ?_, ?_, ?_⟩
  · have e0 : cr s.1 s.2 (ms K (Xk K s j) j).1 (ms K (Xk K s j) j).2 = 0 := by rw [cr_X hq, Int.sub_self, Int.mul_zero]
    have k1 : has (sc (2 * K) s.1) (sc (2 * K) s.2) (ms K (Xk K s j) j).1 1 := by
      refine has_line_y ?_ ?_
      · rw [cr_sc, Int.mul_one]
        have : cr s.1 s.2 (ms K (Xk K s j) j).1 (2 * K) = 0 := e0
        rw [this, Int.mul_zero]
      · show (2 * K * s.1.2 ≤ K * (2 * j + 1) ∧ K * (2 * j + 1) ≤ 2 * K * s.2.2 ∧ 2 * K * s.1.2 < 2 * K * s.2.2) ∨ (2 * K * s.2.2 ≤ K * (2 * j + 1) ∧ K * (2 * j + 1) ≤ 2 * K * s.1.2 ∧ 2 * K * s.2.2 < 2 * K * s.1.2)
        have g1 := hg s.1.2
        have g2 := hg s.2.2
        rw [show s.1.2 * (2 * K) = 2 * K * s.1.2 by grind] at g1
        rw [show s.2.2 * (2 * K) = 2 * K * s.2.2 by grind] at g2
        rcases hc with ⟨h1, h2⟩ | ⟨h1, h2⟩
        · left
          have a1 : ¬ 2 * K * s.1.2 > K * (2 * j + 1) := fun k => by have := g1.1 k; omega
          have a2 := g2.2 h2
          omega
        · right
          have a1 : ¬ 2 * K * s.2.2 > K * (2 * j + 1) := fun k => by have := g2.1 k; omega
          have a2 := g1.2 h2
          omega
    rw [has_sc h2K, Int.mul_one] at k1
    exact k1
  · intro e
    have : K * (2 * j + 1) = 2 * K * s.1.2 := congrArg Prod.snd e
    exact par _ this
  · intro e
    have : K * (2 * j + 1) = 2 * K * s.2.2 := congrArg Prod.snd e
    exact par _ this
/-- What lies within a segment lies on no other: any spot. -/
theorem VR.offS {p1 : Ring} {a b : Pnt} {p2 : Ring} (h : VR (p1 ++ a :: b :: p2)) {t : Seg} (ht : t ∈ oth p1 a b p2) {m : Spot} (hm : InsS a b m) : ¬ has t.1 t.2 m.1 m.2 := by
  have h' := vr_sc hm.w h
  rw [scR_append, scR_cons, scR_cons] at h'
  have i1 := hm.int (k := 1) (by omega)
  rw [Int.one_mul] at i1
  have ht' : scS m.2 t ∈ oth (scR m.2 p1) (sc m.2 a) (sc m.2 b) (scR m.2 p2) := by rw [oth_sc]; exact List.mem_map_of_mem ht
  have := h'.off ht' i1
  intro hh
  apply this
  show has (sc m.2 t.1) (sc m.2 t.2) (sc 1 m.1) 1
  rw [has_sc hm.w, Int.mul_one]
  have e : sc 1 m.1 = m.1 := by unfold sc; exact Prod.ext (by simp) (by simp)
  rw [e]; exact hh
theorem on_X {K : Int} {s : Seg} (hK : 0 < K) (h : ∃ q, q * dyS s = K ∨ dyS s = 0) {j : Int} (c : cj s j = true) : has s.1 s.2 (ms K (Xk K s j) j).1 (ms K (Xk K s j) j).2 := (ins_X hK h c).on
/-- the segments behind one. -/
theorem later_oth {r : Ring} {i k : Nat} (hi : i + 1 < r.length) (hk : k + 1 < r.length) (hne : i ≠ k) : (ptAt r k, ptAt r (k + 1)) ∈ oth (r.take i) (ptAt r i) (ptAt r (i + 1)) (r.drop (i + 2)) := by
  have e := split_at hi
  have es := segs_split (r.take i) (ptAt r i) (ptAt r (i + 1)) (r.drop (i + 2))
  rw [← e] at es
  have hs := segs_at (ptAt_get (r := r) (i := k) (by omega)) (ptAt_get hk)
  rw [es] at hs
  have hl : (segs (r.take i ++ [ptAt r i])).length = i := by rw [segs_len, List.length_append, List.length_take]; simp; omega
  unfold oth
  rcases Nat.lt_or_ge k i with g | g
  · rw [List.getElem?_append_left (by omega)] at hs
    exact List.mem_append_left _ (Pl.mem_of_some hs)
  · rw [List.getElem?_append_right (by omega), hl, show k - i = (k - i - 1) + 1 by omega, List.getElem?_cons_succ] at hs
    exact List.mem_append_right _ (Pl.mem_of_some hs)
/-- what stands at a height, and which way it goes. -/
def atJ (K j : Int) (l : List Seg) : List XU := (l.filter fun s => cj s j).map fun s => (Xk K s j, upS s.1 s.2)
theorem cnt_rays {K : Int} (hK : 0 < K) (x j : Int) : ∀ l : List Seg, (∀ s ∈ l, ∃ q, q * dyS s = K ∨ dyS s = 0) → cntG (atJ K j l) x = raysS l (ms K x j) := by
  intro l
  induction l with
  | nil => intro _; rfl
  | cons s t ih =>
    intro h
    rw [raysS_cons, ray_X hK (h s (by simp)), ← ih fun y hy => h y (by simp [hy])]
    unfold atJ
    rw [List.filter_cons]
    by_cases c : cj s j = true
    · rw [if_pos c, List.map_cons, cntG_cons]
      congr 1
      exact decide_eq_decide.2 ⟨fun k => ⟨c, k⟩, fun k => k.2⟩
    · rw [if_neg c, decide_eq_false (fun k => c k.1)]; simp
/-- AT A HEIGHT: the signs alternate. -/
theorem at_height {r : Ring} (h : VR r) {K : Int} (hK : KOk K (segs r)) (j : Int) :
    (atJ K j (segs r) = [] → sumI sgX (atJ K j (segs r)) = 0) ∧ (atJ K j (segs r) ≠ [] → 0 < sgU (LhI r 0) * sumI sgX (atJ K j (segs r))) := by
  refine alt_any ?_ ?_ ?_
  · unfold atJ
    rw [List.map_map]
    have key : (segs r).Pairwise fun s t => cj s j = true → cj t j = true → Xk K s j ≠ Xk K t j := by
      rw [List.pairwise_iff_getElem]
      intro i k hi hk hik c1 c2 e
      rw [segs_len] at hi hk
      have e1 : (segs r)[i] = (ptAt r i, ptAt r (i + 1)) := by
        have := segs_at (ptAt_get (r := r) (i := i) (by omega)) (ptAt_get (by omega)); rw [List.getElem?_eq_getElem (by rw [segs_len]; omega)] at this; exact Option.some.inj this
      have e2 : (segs r)[k] = (ptAt r k, ptAt r (k + 1)) := by
        have := segs_at (ptAt_get (r := r) (i := k) (by omega)) (ptAt_get (by omega)); rw [List.getElem?_eq_getElem (by rw [segs_len]; omega)] at this; exact Option.some.inj this
      rw [e1] at c1 e
      rw [e2] at c2 e
      have m1 : (ptAt r i, ptAt r (i + 1)) ∈ segs r := e1 ▸ List.getElem_mem _
      have m2 : (ptAt r k, ptAt r (k + 1)) ∈ segs r := e2 ▸ List.getElem_mem _
      have hi' : i + 1 < r.length := by omega
      have hr : VR (r.take i ++ ptAt r i :: ptAt r (i + 1) :: r.drop (i + 2)) := by rw [← split_at hi']; exact h
      have := hr.offS (later_oth (k := k) hi' (by omega) (by omega)) (ins_X hK.1 (hK.2 _ m1) c1)
      rw [e] at this
      exact this (on_X hK.1 (hK.2 _ m2) c2)
    unfold List.Nodup
    rw [List.pairwise_map]
    refine (List.pairwise_filter.2 ?_)
    exact key.imp fun {s t} hst c1 c2 => hst c1 c2
  · intro p hp
    unfold atJ at hp
    obtain ⟨s, hs, rfl⟩ := List.mem_map.1 hp
    obtain ⟨hs, c⟩ := List.mem_filter.1 hs
    simp only
    rw [cnt_rays hK.1 _ _ _ hK.2]
    obtain ⟨i, hi, rfl⟩ := segs_mem_at hs
    have hr : VR (r.take i ++ ptAt r i :: ptAt r (i + 1) :: r.drop (i + 2)) := by rw [← split_at hi]; exact h
    have hm := ins_X hK.1 (hK.2 _ hs) c
    have e1 : raysS (segs r) (ms K (Xk K (ptAt r i, ptAt r (i + 1)) j) j) = raysS (oth (r.take i) (ptAt r i) (ptAt r (i + 1)) (r.drop (i + 2))) (ms K (Xk K (ptAt r i, ptAt r (i + 1)) j) j) := by
      have rs : ∀ M : Spot, raysS (segs r) M = (ray (ptAt r i) (ptAt r (i + 1)) M.1 M.2 ^^ raysS (oth (r.take i) (ptAt r i) (ptAt r (i + 1)) (r.drop (i + 2))) M) := fun M => by
        have := rays_oth (r.take i) (ptAt r i) (ptAt r (i + 1)) (r.drop (i + 2)) M
        rw [← split_at hi] at this
        exact this
      rw [rs]
      have := ray_X hK.1 (hK.2 _ hs) (Xk K (ptAt r i, ptAt r (i + 1)) j) j
      simp only at this
      rw [this, decide_eq_false (by omega)]; simp
    rw [e1]
    have e2 := hr.lh_spots hm (mid_ins hr.here)
    have e3 := h.lhI_all i hi
    exact e2.trans e3
  · unfold atJ
    have e1 : sumI (fun p : XU => sgU p.2) (((segs r).filter fun s => cj s j).map fun s => (Xk K s j, upS s.1 s.2)) = sumI (fun s : Seg => sgU (upS s.1 s.2)) ((segs r).filter fun s => cj s j) := by
      unfold sumI; rw [List.map_map]; rfl
    rw [e1, sumI_filter]
    have e2 := sum_ring (fun p : Pnt => if j < p.2 then (1 : Int) else 0) (shut_ends h.shut)
    refine Eq.trans ?_ e2
    refine sumI_congr fun s hs => ?_
    by_cases c : cj s j = true
    · rw [if_pos c]
      rcases of_decide_eq_true c with ⟨h1, h2⟩ | ⟨h1, h2⟩
      · rw [if_pos h2, if_neg (by omega)]
        have : upS s.1 s.2 = true := by unfold upS; exact decide_eq_true (by omega)
        rw [this]; rfl
      · rw [if_neg (by omega), if_pos h2]
        have : upS s.1 s.2 = false := by unfold upS; exact decide_eq_false (by omega)
        rw [this]; rfl
    · have hc : ¬ ((s.1.2 ≤ j ∧ j < s.2.2) ∨ (s.2.2 ≤ j ∧ j < s.1.2)) := fun k => c (decide_eq_true k)
      rw [if_neg c]
      by_cases k1 : j < s.2.2
      · rw [if_pos k1, if_pos (by omega)]; rfl
      · rw [if_neg k1, if_neg (by omega)]; rfl
end Vd
end Go.Proofs.YtcclepohmhdpbaaGreatDoor

/- GEOMETRY, PLAINLY: the hand of a ring is the sign of its area. -/
namespace Go.Proofs.YtcclepohmhdpbaaGreatDoor
set_option linter.all false
namespace Vd

def Js (lo : Int) (N : Nat) : List Int := (List.range N).map fun (i : Nat) => lo + (i : Int)
theorem Js_succ (lo : Int) (N : Nat) : Js lo (N + 1) = Js lo N ++ [lo + (N : Int)] := by unfold Js; rw [List.range_succ, List.map_append]; rfl
theorem mem_Js {lo j : Int} {N : Nat} : j ∈ Js lo N ↔ lo ≤ j ∧ j < lo + N := by
  unfold Js
  rw [List.mem_map]
  constructor
  · rintro ⟨i, hi, rfl⟩; have := List.mem_range.1 hi; omega
  · rintro ⟨h1, h2⟩; exact ⟨(j - lo).toNat, List.mem_range.2 (by omega), by omega⟩
def Fn (K : Int) (s : Seg) (n : Int) : Int := 2 * K * s.1.1 * n + (s.2.1 - s.1.1) * qd K s * (n * n)
theorem Fn_step (K : Int) (s : Seg) (j : Int) : Fn K s (j + 1 - s.1.2) = Fn K s (j - s.1.2) + Xk K s j := by unfold Fn Xk; grind
def clampN (lo a d : Int) (N : Nat) : Int := if lo + N ≤ a then 0 else if lo + N ≤ a + d then lo + N - a else d
theorem col_up {K : Int} {s : Seg} (lo : Int) (h1 : lo ≤ s.1.2) (h2 : s.1.2 < s.2.2) : ∀ N : Nat, sumI (fun j => if s.1.2 ≤ j ∧ j < s.2.2 then Xk K s j else 0) (Js lo N) = Fn K s (clampN lo s.1.2 (dyS s) N) := by
  intro N
  have d0 : dyS s = s.2.2 - s.1.2 := rfl
  induction N with
  | zero =>
    unfold clampN
    rw [if_pos (by omega)]
    simp [Js, sumI, Fn]
  | succ N ih =>
    rw [Js_succ, sumI_append, ih, sumI_cons, sumI_nil]
    unfold clampN
    by_cases c1 : lo + (N : Int) < s.1.2
    · rw [if_pos (by omega), if_neg (by omega), if_pos (by omega)]; omega
    · by_cases c2 : lo + (N : Int) < s.2.2
      · rw [if_pos (show s.1.2 ≤ lo + (N : Int) ∧ lo + (N : Int) < s.2.2 by omega)]
        have e := Fn_step K s (lo + N)
        have e1 : (if lo + (N : Int) ≤ s.1.2 then (0 : Int) else if lo + (N : Int) ≤ s.1.2 + dyS s then lo + N - s.1.2 else dyS s) = lo + N - s.1.2 := by
          by_cases c3 : lo + (N : Int) ≤ s.1.2
          · rw [if_pos c3]; omega
          · rw [if_neg c3, if_pos (by omega)]
        have e2 : (if lo + ((N + 1 : Nat) : Int) ≤ s.1.2 then (0 : Int) else if lo + ((N + 1 : Nat) : Int) ≤ s.1.2 + dyS s then lo + ((N + 1 : Nat) : Int) - s.1.2 else dyS s) = lo + N + 1 - s.1.2 := by
          rw [if_neg (by omega), if_pos (by omega)]; omega
        rw [e1, e2, e]; omega
      · rw [if_neg (show ¬ (s.1.2 ≤ lo + (N : Int) ∧ lo + (N : Int) < s.2.2) by omega)]
        have e1 : (if lo + (N : Int) ≤ s.1.2 then (0 : Int) else if lo + (N : Int) ≤ s.1.2 + dyS s then lo + N - s.1.2 else dyS s) = dyS s := by
          rw [if_neg (by omega)]
          by_cases c3 : lo + (N : Int) ≤ s.1.2 + dyS s
          · rw [if_pos c3]; omega
          · rw [if_neg c3]
        have e2 : (if lo + ((N + 1 : Nat) : Int) ≤ s.1.2 then (0 : Int) else if lo + ((N + 1 : Nat) : Int) ≤ s.1.2 + dyS s then lo + ((N + 1 : Nat) : Int) - s.1.2 else dyS s) = dyS s := by
          rw [if_neg (by omega), if_neg (by omega)]
        rw [e1, e2]; omega
theorem col_all {K : Int} {s : Seg} (hq : qd K s * dyS s = K) {lo : Int} {N : Nat} (h1 : lo ≤ s.1.2) (h2 : s.1.2 < s.2.2) (h3 : s.2.2 ≤ lo + N) : sumI (fun j => if s.1.2 ≤ j ∧ j < s.2.2 then Xk K s j else 0) (Js lo N) = K * (dyS s * (s.1.1 + s.2.1)) := by
  rw [col_up lo h1 h2]
  have d0 : dyS s = s.2.2 - s.1.2 := rfl
  have e : clampN lo s.1.2 (dyS s) N = dyS s := by
    unfold clampN
    rw [if_neg (by omega)]
    by_cases c3 : lo + (N : Int) ≤ s.1.2 + dyS s
    · rw [if_pos c3]; omega
    · rw [if_neg c3]
  rw [e]
  unfold Fn
  generalize qd K s = q at *
  generalize dyS s = d at *
  grind
theorem qd_swap {K : Int} {s : Seg} : qd K (s.2, s.1) = -(qd K s) := by
  unfold qd dyS
  simp only
  rw [show s.1.2 - s.2.2 = -(s.2.2 - s.1.2) by omega, Int.ediv_neg]
theorem Xk_swap {K : Int} {s : Seg} (hq : qd K s * dyS s = K) (j : Int) : Xk K (s.2, s.1) j = Xk K s j := by
  unfold Xk
  rw [qd_swap]
  simp only
  unfold dyS at hq
  generalize qd K s = q at *
  grind
def fS (K : Int) (s : Seg) (j : Int) : Int := if cj s j = true then sgU (upS s.1 s.2) * Xk K s j else 0
theorem sum_col {K : Int} {s : Seg} (h : ∃ q, q * dyS s = K ∨ dyS s = 0) {lo : Int} {N : Nat} (h1 : lo ≤ s.1.2) (h2 : lo ≤ s.2.2) (h3 : s.1.2 ≤ lo + N) (h4 : s.2.2 ≤ lo + N) : sumI (fS K s) (Js lo N) = K * (dyS s * (s.1.1 + s.2.1)) := by
  have d0 : dyS s = s.2.2 - s.1.2 := rfl
  rcases (show s.1.2 < s.2.2 ∨ s.2.2 < s.1.2 ∨ s.1.2 = s.2.2 by omega) with c | c | c
  · have hq := qd_mul h (by omega)
    rw [← col_all hq h1 c h4]
    refine sumI_congr fun j _ => ?_
    unfold fS
    have u : upS s.1 s.2 = true := by unfold upS; exact decide_eq_true (by omega)
    rw [u]
    by_cases k : cj s j = true
    · rw [if_pos k, if_pos (by have := of_decide_eq_true k; omega)]; simp [sgU]
    · rw [if_neg k, if_neg (fun k2 => k (decide_eq_true (.inl k2)))]
  · have hq := qd_mul h (by omega)
    have hq' : qd K (s.2, s.1) * dyS (s.2, s.1) = K := by
      rw [qd_swap]; unfold dyS at *; simp only; grind
    have e := col_all (s := (s.2, s.1)) hq' (lo := lo) (N := N) h2 c h3
    have e2 : K * (dyS s * (s.1.1 + s.2.1)) = -(K * (dyS (s.2, s.1) * (s.2.1 + s.1.1))) := by unfold dyS; simp only; grind
    rw [e2, ← e, ← sumI_neg]
    refine sumI_congr fun j _ => ?_
    unfold fS
    have u : upS s.1 s.2 = false := by unfold upS; exact decide_eq_false (by omega)
    rw [u]
    simp only
    by_cases k : cj s j = true
    · rw [if_pos k, if_pos (by have := of_decide_eq_true k; omega), Xk_swap hq]; simp [sgU]
    · rw [if_neg k, if_neg (fun k2 => k (decide_eq_true (.inr k2)))]; rfl
  · rw [show dyS s = 0 by omega, Int.zero_mul, Int.mul_zero]
    have : sumI (fS K s) (Js lo N) = sumI (fun _ => (0 : Int)) (Js lo N) := sumI_congr fun j _ => by
      unfold fS; rw [if_neg (fun k => by have := of_decide_eq_true k; omega)]
    rw [this]
    generalize Js lo N = l
    induction l with
    | nil => rfl
    | cons a t ih => rw [sumI_cons, ih]; rfl
/-- twice the area that a ring goes round. -/
def area2 (r : Ring) : Int := sumI (fun s : Seg => dyS s * (s.1.1 + s.2.1)) (segs r)
theorem ex_low : ∀ l : List Seg, ∃ (lo : Int) (N : Nat), ∀ s ∈ l, lo ≤ s.1.2 ∧ lo ≤ s.2.2 ∧ s.1.2 ≤ lo + N ∧ s.2.2 ≤ lo + N := by
  intro l
  induction l with
  | nil => exact ⟨0, 0, fun s hs => by simp at hs⟩
  | cons a t ih =>
    obtain ⟨lo, N, h⟩ := ih
    refine ⟨lo - a.1.2.natAbs - a.2.2.natAbs - lo.natAbs, N + 2 * (a.1.2.natAbs + a.2.2.natAbs + lo.natAbs), fun s hs => ?_⟩
    rcases List.mem_cons.1 hs with rfl | hs
    · omega
    · have := h s hs; omega
theorem sum_at (K j : Int) (l : List Seg) : sumI (fun s => fS K s j) l = sumI sgX (atJ K j l) := by
  unfold atJ
  have : sumI sgX ((l.filter fun s => cj s j).map fun s => (Xk K s j, upS s.1 s.2)) = sumI (fun s : Seg => sgU (upS s.1 s.2) * Xk K s j) (l.filter fun s => cj s j) := by
    unfold sumI; rw [List.map_map]; rfl
  rw [this, sumI_filter]
  rfl
/-- THE HAND IS THE SIGN OF THE AREA. -/
theorem area_hand {r : Ring} (h : VR r) (hn : ∃ s ∈ segs r, dyS s ≠ 0) : 0 < sgU (LhI r 0) * area2 r := by
  obtain ⟨K, hK⟩ := ex_K (segs r)
  obtain ⟨lo, N, hl⟩ := ex_low (segs r)
  have e1 : sumI (fun s => sumI (fS K s) (Js lo N)) (segs r) = K * area2 r := by
    unfold area2
    rw [← sumI_mul]
    refine sumI_congr fun s hs => ?_
    obtain ⟨a, b, c, d⟩ := hl s hs
    exact sum_col (hK.2 s hs) a b c d
  rw [sumI_swap] at e1
  have e2 : sumI (fun j => sgU (LhI r 0) * sumI (fun s => fS K s j) (segs r)) (Js lo N) = sgU (LhI r 0) * (K * area2 r) := by rw [sumI_mul, e1]
  have pos : 0 < sumI (fun j => sgU (LhI r 0) * sumI (fun s => fS K s j) (segs r)) (Js lo N) := by
    have hh : ∀ j, (atJ K j (segs r) = [] → sgU (LhI r 0) * sumI (fun s => fS K s j) (segs r) = 0) ∧ (atJ K j (segs r) ≠ [] → 0 < sgU (LhI r 0) * sumI (fun s => fS K s j) (segs r)) := fun j => by
      obtain ⟨k1, k2⟩ := at_height h hK j
      rw [sum_at]
      exact ⟨fun e => by rw [k1 e, Int.mul_zero], k2⟩
    refine sumI_pos (fun j _ => ?_) ?_
    · by_cases c : atJ K j (segs r) = []
      · rw [(hh j).1 c]; exact Int.le_refl _
      · have := (hh j).2 c; omega
    · obtain ⟨s, hs, hd⟩ := hn
      obtain ⟨a, b, c, d⟩ := hl s hs
      have d0 : dyS s = s.2.2 - s.1.2 := rfl
      obtain ⟨j, hj, hc⟩ : ∃ j, j ∈ Js lo N ∧ cj s j = true := by
        rcases (show s.1.2 < s.2.2 ∨ s.2.2 < s.1.2 by omega) with k | k
        · exact ⟨s.1.2, mem_Js.2 (by omega), decide_eq_true (.inl ⟨Int.le_refl _, k⟩)⟩
        · exact ⟨s.2.2, mem_Js.2 (by omega), decide_eq_true (.inr ⟨Int.le_refl _, k⟩)⟩
      refine ⟨j, hj, (hh j).2 fun e => ?_⟩
      unfold atJ at e
      have : s ∈ (segs r).filter fun s => cj s j := List.mem_filter.2 ⟨hs, hc⟩
      have e3 : (segs r).filter (fun s => cj s j) = [] := by simpa using e
      rw [e3] at this
      simp at this
  rw [e2] at pos
  have : sgU (LhI r 0) * (K * area2 r) = K * (sgU (LhI r 0) * area2 r) := by grind
  rw [this] at pos
  rcases Int.lt_or_le 0 (sgU (LhI r 0) * area2 r) with k | k
  · exact k
  · have := m0 (x := K) (y := sgU (LhI r 0) * area2 r) (by have := hK.1; omega) k; omega
end Vd
end Go.Proofs.YtcclepohmhdpbaaGreatDoor

/- GEOMETRY, PLAINLY: the hand of a ring is its turn at the least vertex. -/
namespace Go.Proofs.YtcclepohmhdpbaaGreatDoor
set_option linter.all false
namespace Vd

/-! ### far to the left is outside -/
theorem ray_left {a b p : Pnt} (h1 : p.1 < a.1) (h2 : p.1 < b.1) : ray a b p 1 = (decide (p.2 < a.2) ^^ decide (p.2 < b.2)) := by
  have id : cr a b p 1 = (p.2 - a.2) * (b.1 - p.1) + (b.2 - p.2) * (a.1 - p.1) := by unfold cr; grind
  unfold ray
  simp only [Int.mul_one]
  by_cases c1 : p.2 < a.2
  · by_cases c2 : p.2 < b.2
    · rw [if_pos (by rw [decide_eq_true c1, decide_eq_true c2]), decide_eq_true c1, decide_eq_true c2]; rfl
    · rw [decide_eq_true c1, decide_eq_false c2, if_neg (by decide), if_neg (by omega)]
      have k1 : (p.2 - a.2) * (b.1 - p.1) < 0 := np (by omega) (by omega)
      have k2 : (b.2 - p.2) * (a.1 - p.1) ≤ 0 := n0 (by omega) (by omega)
      rw [decide_eq_true ((sg_neg _).2 (by omega))]; rfl
  · by_cases c2 : p.2 < b.2
    · rw [decide_eq_false c1, decide_eq_true c2, if_neg (by decide), if_pos (by omega)]
      have k1 : 0 ≤ (p.2 - a.2) * (b.1 - p.1) := p0 (by omega) (by omega)
      have k2 : 0 < (b.2 - p.2) * (a.1 - p.1) := pp (by omega) (by omega)
      rw [decide_eq_true ((sg_pos _).2 (by omega))]; rfl
    · rw [if_pos (by rw [decide_eq_false c1, decide_eq_false c2]), decide_eq_false c1, decide_eq_false c2]; rfl
theorem rays_left {p : Pnt} : ∀ (t : Ring) (a : Pnt), (∀ v ∈ a :: t, p.1 < v.1) → raysS (segs (a :: t)) (p, 1) = (decide (p.2 < a.2) ^^ decide (p.2 < ((a :: t).getLast (by simp)).2)) := by
  intro t
  induction t with
  | nil =>
    intro a _
    simp [segs, raysS]
    try exact decide_eq_decide.2 Iff.rfl
  | cons b t ih =>
    intro a h
    rw [segs_cons2, raysS_cons, ih b fun v hv => h v (by simp [hv]), ray_left (h a (by simp)) (h b (by simp))]
    simp only [List.getLast_cons_cons]
    cases decide (p.2 < a.2) <;> cases decide (p.2 < b.2) <;> simp <;> exact decide_eq_decide.2 Iff.rfl
theorem left_out {r : Ring} (he : Ends r) {p : Pnt} (h : ∀ v ∈ r, p.1 < v.1) : place r (p, 1) = 0 := by
  have hn : ∀ s ∈ segs r, ¬ has s.1 s.2 p 1 := fun s hs k => by
    obtain ⟨m1, m2⟩ := segs_mem hs
    have a1 := h _ m1
    have a2 := h _ m2
    have := k.2.1
    unfold btw at this
    simp only [Int.mul_one] at this
    omega
  rw [place_rays (p := (p, 1)) hn]
  cases r with
  | nil => rfl
  | cons a t =>
    rw [rays_left t a h]
    unfold Ends at he
    rw [List.head?_cons, List.getLast?_eq_some_getLast (by simp)] at he
    rw [← Option.some.inj he]
    simp

/-! ### at the least vertex -/
theorem least_turn {a b c : Pnt} (hab : a ≠ b) (hcb : c ≠ b) (ha : ¬ bef a b) (hc : ¬ bef c b) (h : cr a b c 1 ≠ 0 ∨ has a c b 1) : cr a b c 1 ≠ 0 := by
  rcases h with h | h
  · exact h
  · exfalso
    have ne1 : a.1 ≠ b.1 ∨ a.2 ≠ b.2 := by
      by_cases k : a.1 = b.1
      · exact .inr fun e => hab (Prod.ext k e)
      · exact .inl k
    have ne2 : c.1 ≠ b.1 ∨ c.2 ≠ b.2 := by
      by_cases k : c.1 = b.1
      · exact .inr fun e => hcb (Prod.ext k e)
      · exact .inl k
    unfold bef at ha hc
    obtain ⟨h0, h1, h2⟩ := h
    unfold btw at h1 h2
    simp only [Int.mul_one] at h1 h2
    have e : a.1 = b.1 ∨ c.1 = b.1 := by omega
    have id : (c.1 - a.1) * (b.2 - a.2) - (c.2 - a.2) * (b.1 - a.1) = 0 := by unfold cr at h0; simpa using h0
    rcases e with e | e
    · rw [← e, Int.sub_self, Int.mul_zero, Int.sub_zero] at id
      rcases Int.mul_eq_zero.1 id with k | k <;> omega
    · have : (b.1 - a.1) * (b.2 - a.2 - (c.2 - a.2)) = 0 := by rw [← e] at id ⊢; grind
      rcases Int.mul_eq_zero.1 this with k | k <;> omega
theorem near_next {b c u v : Pnt} {k : Int} (hk : 0 < k) (hu : u.1 < 0) (hd : b.1 ≤ c.1) {σ : Int}
    (h1 : 0 < σ * (v.1 * u.2 - v.2 * u.1)) (h2 : σ * (v.1 * (c.2 - b.2) - v.2 * (c.1 - b.1)) < 0) (hs : σ = 1 ∨ σ = -1) :
    Off (nrP k b u) (nrP k b v) (sc k b) (sc k c) ∧ ¬ Xs (nrP k b u) (nrP k b v) (sc k b) (sc k c) := by
  have cb : cr (nrP k b u) (nrP k b v) (sc k b) 1 = -(v.1 * u.2 - v.2 * u.1) := by unfold cr nrP sc; grind
  have cc : cr (nrP k b u) (nrP k b v) (sc k c) 1 = k * ((v.1 * (c.2 - b.2) - v.2 * (c.1 - b.1)) + ((c.1 - b.1) * u.2 - (c.2 - b.2) * u.1)) - (v.1 * u.2 - v.2 * u.1) := by unfold cr nrP sc; grind
  have cz : cr (sc k b) (sc k c) (nrP k b u) 1 = k * ((c.1 - b.1) * u.2 - (c.2 - b.2) * u.1) := by unfold cr nrP sc; grind
  have cm : cr (sc k b) (sc k c) (nrP k b v) 1 = -(k * (v.1 * (c.2 - b.2) - v.2 * (c.1 - b.1))) := by unfold cr nrP sc; grind
  have bz : cr (sc k b) (nrP k b v) (nrP k b u) 1 = v.1 * u.2 - v.2 * u.1 := by unfold cr nrP sc; grind
  have bc : cr (sc k b) (nrP k b v) (sc k c) 1 = k * (v.1 * (c.2 - b.2) - v.2 * (c.1 - b.1)) := by unfold cr nrP sc; grind
  have bm : cr (sc k b) (nrP k b v) (nrP k b v) 1 = 0 := by unfold cr nrP sc; grind
  generalize hX : v.1 * u.2 - v.2 * u.1 = X at *
  generalize hD : v.1 * (c.2 - b.2) - v.2 * (c.1 - b.1) = D at *
  generalize hE : (c.1 - b.1) * u.2 - (c.2 - b.2) * u.1 = E at *
  have hX0 : X ≠ 0 := by rcases hs with rfl | rfl <;> omega
  have hD0 : D ≠ 0 := by rcases hs with rfl | rfl <;> omega
  have hkD : k * D ≠ 0 := fun e => by rcases Int.mul_eq_zero.1 e with g | g <;> omega
  have hzm : nrP k b u ≠ nrP k b v := fun e => by
    have : X = 0 := by rw [← bz, e, bm]
    exact hX0 this
  refine ⟨⟨fun q => ?_, fun q => ?_, fun q => ?_, fun q => ?_⟩, fun q => ?_⟩
  · have := q.1; rw [cb] at this; omega
  · obtain ⟨q0', q1, q2⟩ := (has_on hzm (by omega)).1 q
    have e := cr_on q.1 (sc k b) (nrP k b v)
    rw [bc, bz, bm, Int.mul_zero, Int.add_zero] at e
    have kp := kk_pos hzm
    have p1 : 0 ≤ kk (nrP k b u) (nrP k b v) - pos (nrP k b u) (nrP k b v) (sc k c) := by
      rw [Int.mul_one] at q2
      unfold pos
      omega
    rcases hs with rfl | rfl
    · have g1 : D < 0 := by omega
      have g2 : 0 < X := by omega
      have g3 := pn kp (pn hk g1)
      have g4 := p0 p1 (show 0 ≤ X by omega)
      omega
    · have g1 : 0 < D := by omega
      have g2 : X < 0 := by omega
      have g3 := pp kp (pp hk g1)
      have g4 := m0 p1 (show X ≤ 0 by omega)
      omega
  · have := q.2.1
    unfold btw sc nrP at this
    simp only [Int.mul_one] at this
    have : k * b.1 ≤ k * c.1 := Int.mul_le_mul_of_nonneg_left hd (by omega)
    omega
  · have := q.1; rw [cm] at this; omega
  · obtain ⟨o1, o2⟩ := q
    rw [cb, cc] at o1
    rw [cz, cm] at o2
    unfold Opp at o1 o2
    rcases hs with rfl | rfl
    · have g1 : D < 0 := by omega
      have g3 := pn hk g1
      have g2 : k * E < 0 := by omega
      have : k * (D + E) = k * D + k * E := Int.mul_add _ _ _
      omega
    · have g1 : 0 < D := by omega
      have g3 := pp hk g1
      have g2 : 0 < k * E := by omega
      have : k * (D + E) = k * D + k * E := Int.mul_add _ _ _
      omega
/-- O2: THE HAND IS THE TURN AT THE LEAST VERTEX. -/
theorem VR.hand_turn {p1 : Ring} {a b c : Pnt} {p2 : Ring} (h : VR (p1 ++ a :: b :: p2)) (hbc : (b, c) ∈ oth p1 a b p2) (hun : ∀ t ∈ oth p1 a b p2, t.1 = b → t = (b, c)) (hm : ∀ v ∈ p1 ++ a :: b :: p2, ¬ bef v b) :
    cr a b c 1 ≠ 0 ∧ Lh p1 a b p2 (midOf a b) = decide (0 < cr a b c 1) := by
  have hab := h.here
  have hbc' : b ≠ c := h.oth_long hbc
  have hma := hm a (by simp)
  have hmc : ¬ bef c b := by
    have hs : (b, c) ∈ segs (p1 ++ a :: b :: p2) := mem_oth.2 (.inr hbc)
    exact hm c (segs_mem hs).2
  have hcr : cr a b c 1 ≠ 0 := by
    refine least_turn hab (Ne.symm hbc') hma hmc ?_
    rcases h.other hbc with e | ⟨e, -⟩
    · exact absurd e (meet_pt hab hbc' (has_b a b) (has_a b c))
    · exact no_back hab hbc' e
  refine ⟨hcr, ?_⟩
  have hon : ∀ t ∈ oth p1 a b p2, ¬ has t.1 t.2 b 1 ∨ t = (b, c) := by
    intro t ht
    by_cases hh : has t.1 t.2 b 1
    · right
      rcases h.other ht with e | ⟨e, q | q⟩
      · exact absurd e (meet_pt hab (h.oth_long ht) (has_b a b) hh)
      · exact hun t ht q
      · have := meet_two hab (h.oth_long ht) (Ne.symm hab) (has_b a b) hh (has_a a b) (by rw [← q]; exact has_b _ _)
        omega
    · exact .inl hh
  obtain ⟨v, hv⟩ : ∃ v : Pnt, v = (a.1 - b.1, a.2 - b.2) := ⟨_, rfl⟩
  have v1 : v.1 = a.1 - b.1 := by rw [hv]
  have v2 : v.2 = a.2 - b.2 := by rw [hv]
  have hcv : cr a b c 1 = -(v.1 * (c.2 - b.2) - v.2 * (c.1 - b.1)) := by rw [v1, v2]; unfold cr; grind
  unfold bef at hma hmc
  have hd : b.1 ≤ c.1 := by omega
  have hv0 : 0 ≤ v.1 := by omega
  have hv1 : v.1 = 0 → 0 < v.2 := fun e => by
    have : a.2 ≠ b.2 := fun k => hab (Prod.ext (by omega) k)
    omega
  obtain ⟨σ, hs, hσ⟩ : ∃ σ : Int, (σ = 1 ∨ σ = -1) ∧ σ * (v.1 * (c.2 - b.2) - v.2 * (c.1 - b.1)) < 0 ∧ (σ = 1 ↔ 0 < cr a b c 1) := by
    rcases Int.lt_or_gt_of_ne hcr with g | g
    · exact ⟨-1, .inr rfl, by omega, by omega⟩
    · exact ⟨1, .inl rfl, by omega, by omega⟩
  obtain ⟨hσ1, hσ2⟩ := hσ
  obtain ⟨Y, hY⟩ : ∃ Y : Int, Y = v.2.natAbs + 1 := ⟨_, rfl⟩
  obtain ⟨u, hu⟩ : ∃ u : Pnt, u = (-1, σ * Y) := ⟨_, rfl⟩
  have u1 : u.1 = -1 := by rw [hu]
  have u2 : u.2 = σ * Y := by rw [hu]
  have hX : 0 < σ * (v.1 * u.2 - v.2 * u.1) := by
    rw [u1, u2]
    have e : σ * (v.1 * (σ * Y) - v.2 * -1) = v.1 * Y + σ * v.2 := by
      rcases hs with rfl | rfl <;> grind
    rw [e]
    rcases Int.lt_or_le 0 v.1 with g | g
    · have k : Y ≤ v.1 * Y := by
        have := Int.mul_le_mul_of_nonneg_right (show (1 : Int) ≤ v.1 by omega) (show (0 : Int) ≤ Y by omega)
        omega
      rcases hs with rfl | rfl <;> omega
    · have z : v.1 = 0 := by omega
      have p := hv1 z
      have s1 : σ = 1 := by
        rcases hs with r | r
        · exact r
        · exfalso
          rw [r, z] at hσ1
          have := p0 (x := v.2) (y := c.1 - b.1) (by omega) (by omega)
          omega
      rw [z, s1]; omega
  obtain ⟨k, hk2, hkb⟩ := ex_big (fun t => big t u v) (oth p1 a b p2)
  have hk : (0 : Int) < k := by omega
  have h' := vr_sc hk h
  rw [scR_append, scR_cons, scR_cons] at h'
  have bes : Bes (scR k p1) (sc k a) (sc k b) (scR k p2) (nrP k b v) (nrP k b u) := by
    have key : ∀ s ∈ oth (scR k p1) (sc k a) (sc k b) (scR k p2), Off (nrP k b u) (nrP k b v) s.1 s.2 ∧ ¬ Xs (nrP k b u) (nrP k b v) s.1 s.2 := by
      intro s hs'
      rw [oth_sc] at hs'
      obtain ⟨t, ht, rfl⟩ := List.mem_map.1 hs'
      rcases hon t ht with g | g
      · exact near_off g (hkb t ht)
      · rw [g]; exact near_next hk (by omega) hd hX hσ1 hs
    exact ⟨by rw [hv]; exact near_ins hab hk2, fun s hs' => (key s hs').1, fun s hs' => (key s hs').2⟩
  have crz : cr (sc k a) (sc k b) (nrP k b u) 1 = -(k * (v.1 * u.2 - v.2 * u.1)) := by
    rw [v1, v2]; unfold cr sc nrP; grind
  have hx0 : v.1 * u.2 - v.2 * u.1 ≠ 0 := fun e => by rw [e] at hX; simp at hX
  have crz0 : cr (sc k a) (sc k b) (nrP k b u) 1 ≠ 0 := by
    rw [crz]
    intro e
    have : k * (v.1 * u.2 - v.2 * u.1) = 0 := by omega
    rcases Int.mul_eq_zero.1 this with g | g <;> omega
  have hout : place (scR k p1 ++ sc k a :: sc k b :: scR k p2) (nrP k b u, 1) = 0 := by
    refine left_out (shut_ends h'.shut) fun w hw => ?_
    have e : scR k p1 ++ sc k a :: sc k b :: scR k p2 = scR k (p1 ++ a :: b :: p2) := by rw [scR_append, scR_cons, scR_cons]
    rw [e] at hw
    obtain ⟨x, hx, rfl⟩ := List.mem_map.1 hw
    have hbx := hm x hx
    unfold bef at hbx
    have : k * b.1 ≤ k * x.1 := Int.mul_le_mul_of_nonneg_left (by omega) (by omega)
    show k * b.1 + u.1 < k * x.1
    omega
  have hb := beside (shut_ends h'.shut) h'.here bes crz0
  rw [hout] at hb
  have e1 : Lh (scR k p1) (sc k a) (sc k b) (scR k p2) (nrP k b v, 1) = Lh p1 a b p2 (midOf a b) := by
    rw [lh_sc hk, Int.mul_one]
    have n1 : InsS a b (nrP k b v, k) := by rw [hv]; exact near_insS hab hk2
    exact h.lh_spots n1 (mid_ins hab)
  rw [e1] at hb
  have hp : 0 < cr (sc k a) (sc k b) (nrP k b u) 1 ↔ σ = -1 := by
    rw [crz]
    rcases hs with rfl | rfl
    · have := pp hk (show 0 < v.1 * u.2 - v.2 * u.1 by omega)
      omega
    · have := pn hk (show v.1 * u.2 - v.2 * u.1 < 0 by omega)
      omega
  have hb' : ¬ (σ = -1 ↔ Lh p1 a b p2 (midOf a b) = true) := fun q => by
    rw [if_pos (hp.trans q)] at hb; omega
  clear hb
  cases hL : Lh p1 a b p2 (midOf a b) with
  | true =>
    rw [hL] at hb'
    have : σ = 1 := by
      rcases hs with r | r
      · exact r
      · exact absurd (by simp [r]) hb'
    exact (decide_eq_true (hσ2.1 this)).symm
  | false =>
    rw [hL] at hb'
    have : σ = -1 := by
      rcases hs with r | r
      · exact absurd (by simp [r]) hb'
      · exact r
    exact (decide_eq_false fun g => by have := hσ2.2 g; omega).symm
end Vd
end Go.Proofs.YtcclepohmhdpbaaGreatDoor

/- GEOMETRY, PLAINLY: the area's sign is the turn at the least vertex; by places. -/
namespace Go.Proofs.YtcclepohmhdpbaaGreatDoor
set_option linter.all false
namespace Vd

theorem VR.distinct {r : Ring} (h : VR r) {i j : Nat} (hi : 1 ≤ i) (hj : 1 ≤ j) (hil : i < r.length) (hjl : j < r.length) (e : ptAt r i = ptAt r j) : i = j := by
  rcases Nat.lt_trichotomy i j with g | g | g
  · have : twice r = true := twice_iff.2 ⟨i, j, hi, g, hjl, e⟩
    rw [h.tw] at this; cases this
  · exact g
  · have : twice r = true := twice_iff.2 ⟨j, i, hj, g, hil, e.symm⟩
    rw [h.tw] at this; cases this
theorem VR.wrap {r : Ring} (h : VR r) : ptAt r 0 = ptAt r (r.length - 1) := h.shut.eq
/-- AT THE LEAST VERTEX. -/
theorem VR.least_hand {r : Ring} (h : VR r) {i : Nat} (hi : 1 ≤ i) (hil : i < r.length) (hm : ∀ v ∈ r, ¬ bef v (ptAt r i)) :
    cr (ptAt r (i - 1)) (ptAt r i) (nextI r i) 1 ≠ 0 ∧ LhI r 0 = decide (0 < cr (ptAt r (i - 1)) (ptAt r i) (nextI r i) 1) := by
  have h4 := h.shut.len
  obtain ⟨k, rfl⟩ : ∃ k, i = k + 1 := ⟨i - 1, by omega⟩
  rw [show k + 1 - 1 = k from rfl]
  have e := split_at (r := r) (i := k) hil
  have hr : VR (r.take k ++ ptAt r k :: ptAt r (k + 1) :: r.drop (k + 2)) := by rw [← e]; exact h
  have hnx : ∃ j, j ≠ k ∧ j + 1 < r.length ∧ ptAt r j = ptAt r (k + 1) ∧ ptAt r (j + 1) = nextI r (k + 1) := by
    unfold nextI
    by_cases g : k + 1 + 1 < r.length
    · exact ⟨k + 1, by omega, g, rfl, by rw [if_pos g]⟩
    · exact ⟨0, by omega, by omega, by rw [h.wrap]; congr 1; omega, by rw [if_neg g]⟩
  obtain ⟨j, hjk, hjl, ej1, ej2⟩ := hnx
  have hbc : (ptAt r (k + 1), nextI r (k + 1)) ∈ oth (r.take k) (ptAt r k) (ptAt r (k + 1)) (r.drop (k + 2)) := by
    rw [← ej1, ← ej2, ej1]
    have := later_oth (r := r) (i := k) (k := j) hil hjl (Ne.symm hjk)
    rw [ej1] at this
    exact this
  have hun : ∀ t ∈ oth (r.take k) (ptAt r k) (ptAt r (k + 1)) (r.drop (k + 2)), t.1 = ptAt r (k + 1) → t = (ptAt r (k + 1), nextI r (k + 1)) := by
    intro t ht e1
    obtain ⟨q, hq, hql, eq⟩ := oth_at ht
    rw [← e] at hql eq
    rw [eq] at e1 ⊢
    simp only at e1
    have : q = j := by
      -- both are the place of that vertex
      have norm : ∀ x, x + 1 < r.length → ptAt r x = ptAt r (k + 1) → (x = 0 ∧ k + 1 = r.length - 1) ∨ x = k + 1 := by
        intro x hx ex
        rcases Nat.eq_zero_or_pos x with g | g
        · left
          refine ⟨g, ?_⟩
          rw [g, h.wrap] at ex
          have := h.distinct (by omega) (by omega) (by omega) (by omega) ex
          omega
        · right; exact h.distinct g (by omega) (by omega) (by omega) ex
      have a1 := norm q hql e1
      have a2 := norm j hjl ej1
      omega
    subst this
    rw [ej1, ej2]
  have key := hr.hand_turn hbc hun (by rw [← e]; exact hm)
  refine ⟨key.1, ?_⟩
  rw [← key.2, ← h.lhI_all k hil]
  rfl
theorem VR.area {r : Ring} (h : VR r) {i : Nat} (hi : 1 ≤ i) (hil : i < r.length) (hm : ∀ v ∈ r, ¬ bef v (ptAt r i)) :
    decide (0 < area2 r) = decide (0 < cr (ptAt r (i - 1)) (ptAt r i) (nextI r i) 1) := by
  obtain ⟨k1, k2⟩ := h.least_hand hi hil hm
  have hn : ∃ s ∈ segs r, dyS s ≠ 0 := by
    refine Classical.byContradiction fun hno => ?_
    have all : ∀ s ∈ segs r, s.2.2 = s.1.2 := fun s hs => by
      refine Classical.byContradiction fun e => hno ⟨s, hs, ?_⟩
      unfold dyS; omega
    have h4 := h.shut.len
    have seg : ∀ x, x + 1 < r.length → ptAt r (x + 1) = ptAt r (x + 1) ∧ (ptAt r (x + 1)).2 = (ptAt r x).2 := fun x hx => by
      have := all (ptAt r x, ptAt r (x + 1)) (Pl.mem_of_some (segs_at (ptAt_get (by omega)) (ptAt_get hx)))
      exact ⟨rfl, this⟩
    have yall : ∀ x, x < r.length → (ptAt r x).2 = (ptAt r 0).2 := by
      intro x
      induction x with
      | zero => intro _; rfl
      | succ x ih => intro hx; rw [(seg x hx).2, ih (by omega)]
    apply k1
    have y1 := yall (i - 1) (by omega)
    have y2 := yall i hil
    have y3 : (nextI r i).2 = (ptAt r 0).2 := by
      unfold nextI
      split
      · exact yall _ (by omega)
      · exact yall _ (by omega)
    unfold cr
    simp only [Int.mul_one]
    rw [y1, y2, y3, Int.sub_self, Int.mul_zero, Int.zero_mul]; rfl
  have ha := area_hand h hn
  cases hL : LhI r 0 with
  | true =>
    rw [hL] at ha k2
    have : 0 < area2 r := by simpa [sgU] using ha
    rw [decide_eq_true this, ← k2]
  | false =>
    rw [hL] at ha k2
    have : ¬ 0 < area2 r := by
      have : sgU false = -1 := rfl
      rw [this] at ha
      omega
    rw [decide_eq_false this, ← k2]
/-- the document's way to reckon it. -/
def twiceA (p0 : Pnt) (r : Ring) : Int := sumI (fun s : Seg => (s.1.1 - p0.1) * (s.2.2 - p0.2) - (s.1.2 - p0.2) * (s.2.1 - p0.1)) (segs r)
theorem twiceA_eq {r : Ring} (he : Ends r) (p0 : Pnt) : twiceA p0 r = area2 r := by
  have e := sum_ring (fun p : Pnt => p.2 * p.1 - p0.2 * p.1 + p0.1 * p.2) he
  have : area2 r = twiceA p0 r + sumI (fun s : Seg => (s.2.2 * s.2.1 - p0.2 * s.2.1 + p0.1 * s.2.2) - (s.1.2 * s.1.1 - p0.2 * s.1.1 + p0.1 * s.1.2)) (segs r) := by
    unfold area2 twiceA
    rw [← sumI_add]
    refine sumI_congr fun s _ => ?_
    unfold dyS
    grind
  rw [e] at this
  omega
end Vd
end Go.Proofs.YtcclepohmhdpbaaGreatDoor
