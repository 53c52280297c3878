import Derived.Test.YtcclepohmhdpbabGreatDoorGfA
namespace Go.Proofs.YtcclepohmhdpbabGreatDoor
set_option linter.all false
namespace Vd
theorem ptAt_app1 {p1 p2 : Ring} {i : Nat} (h : i < p1.length) : ptAt (p1 ++ p2) i = ptAt p1 i := by
  unfold ptAt; rw [List.getD_eq_getElem?_getD, List.getD_eq_getElem?_getD, List.getElem?_append_left h]
theorem ptAt_app2 {p1 p2 : Ring} (i : Nat) : ptAt (p1 ++ p2) (p1.length + i) = ptAt p2 i := by
  unfold ptAt; rw [List.getD_eq_getElem?_getD, List.getD_eq_getElem?_getD, List.getElem?_append_right (by omega), show p1.length + i - p1.length = i by omega]
theorem oth_at {p1 : Ring} {a b : Pnt} {p2 : Ring} {s : Seg} (h : s ∈ oth p1 a b p2) : ∃ j, j ≠ p1.length ∧ j + 1 < (p1 ++ a :: b :: p2).length ∧ s = (ptAt (p1 ++ a :: b :: p2) j, ptAt (p1 ++ a :: b :: p2) (j + 1)) := by
  unfold oth at h
  rcases List.mem_append.1 h with h | h
  · obtain ⟨j, hj, e⟩ := segs_mem_at h
    have hj' : j + 1 < p1.length + 1 := by simpa using hj
    refine ⟨j, by omega, by simp; omega, ?_⟩
    have e2 : p1 ++ a :: b :: p2 = (p1 ++ [a]) ++ b :: p2 := by simp
    rw [e2, ptAt_app1 (p1 := p1 ++ [a]) (i := j) (by simp; omega), ptAt_app1 (p1 := p1 ++ [a]) (i := j + 1) (by simp; omega)]
    exact e
  · obtain ⟨j, hj, e⟩ := segs_mem_at h
    refine ⟨p1.length + (1 + j), by omega, by simp at hj ⊢; omega, ?_⟩
    have e2 : p1 ++ a :: b :: p2 = (p1 ++ [a]) ++ b :: p2 := by simp
    have l1 : p1.length + (1 + j) = (p1 ++ [a]).length + j := by simp; omega
    rw [e2, l1, ptAt_app2, show (p1 ++ [a]).length + j + 1 = (p1 ++ [a]).length + (j + 1) by omega, ptAt_app2]
    exact e
theorem at_here (p1 : Ring) (a b : Pnt) (p2 : Ring) : ptAt (p1 ++ a :: b :: p2) p1.length = a ∧ ptAt (p1 ++ a :: b :: p2) (p1.length + 1) = b := by
  constructor
  · have := ptAt_app2 (p1 := p1) (p2 := a :: b :: p2) 0
    simpa [ptAt] using this
  · rw [ptAt_app2 1]; rfl
theorem VR.other {p1 : Ring} {a b : Pnt} {p2 : Ring} (h : VR (p1 ++ a :: b :: p2)) {s : Seg} (hs : s ∈ oth p1 a b p2) : Vd.meet a b s.1 s.2 = 0 ∨ (Vd.meet a b s.1 s.2 = 1 ∧ (s.1 = b ∨ s.2 = a)) := by
  obtain ⟨j, hj, hl, rfl⟩ := oth_at hs
  obtain ⟨ha, hb⟩ := at_here p1 a b p2
  have hlen : (p1 ++ a :: b :: p2).length = p1.length + 2 + p2.length := by simp; omega
  have heq := h.shut.eq
  rcases Nat.lt_or_ge j p1.length with g | g
  · have k := h.meet (i := j) (j := p1.length) g (by omega)
    rw [ha, hb] at k
    unfold meetS at k
    simp only at k
    rw [meet_symm]
    simp only
    rw [k]
    unfold wantI
    by_cases c : j + 1 = p1.length ∨ (j = 0 ∧ p1.length + 1 = (p1 ++ a :: b :: p2).length - 1)
    · rw [if_pos c]
      refine .inr ⟨rfl, ?_⟩
      rcases c with c | ⟨c, c'⟩
      · right; rw [c]; exact ha
      · left; rw [c, heq, ← c']; exact hb
    · rw [if_neg c]; exact .inl rfl
  · have k := h.meet (i := p1.length) (j := j) (by omega) hl
    rw [ha, hb] at k
    unfold meetS at k
    simp only at k ⊢
    rw [k]
    unfold wantI
    by_cases c : p1.length + 1 = j ∨ (p1.length = 0 ∧ j + 1 = (p1 ++ a :: b :: p2).length - 1)
    · rw [if_pos c]
      refine .inr ⟨rfl, ?_⟩
      rcases c with c | ⟨c, c'⟩
      · left; rw [← c]; exact hb
      · right; rw [c', ← heq, ← c]; exact ha
    · rw [if_neg c]; exact .inl rfl
theorem VR.here {p1 : Ring} {a b : Pnt} {p2 : Ring} (h : VR (p1 ++ a :: b :: p2)) : a ≠ b := h.long (a, b) (mem_oth.2 (.inl rfl))
theorem VR.oth_long {p1 : Ring} {a b : Pnt} {p2 : Ring} (h : VR (p1 ++ a :: b :: p2)) {s : Seg} (hs : s ∈ oth p1 a b p2) : s.1 ≠ s.2 := h.long s (mem_oth.2 (.inr hs))
theorem VR.off {p1 : Ring} {a b : Pnt} {p2 : Ring} (h : VR (p1 ++ a :: b :: p2)) {s : Seg} (hs : s ∈ oth p1 a b p2) {m : Pnt} (hm : Ins a b m) : ¬ has s.1 s.2 m 1 := by
  intro hh
  rcases h.other hs with e | ⟨e, c⟩
  · exact meet_pt h.here (h.oth_long hs) hm.on hh e
  · rcases c with c | c
    · have := meet_two h.here (h.oth_long hs) hm.nb hm.on hh (has_b a b) (by rw [← c]; exact has_a _ _)
      omega
    · have := meet_two h.here (h.oth_long hs) hm.na hm.on hh (has_a a b) (by rw [← c]; exact has_b _ _)
      omega
theorem ins_of {a b m m' c : Pnt} (hab : a ≠ b) (hm : Ins a b m) (hm' : Ins a b m') (h : has m m' c 1) : Ins a b c := by
  by_cases e : m = m'
  · subst e
    have : c = m := by
      have h1 := h.2.1
      have h2 := h.2.2
      unfold btw at h1 h2
      exact Prod.ext (by omega) (by omega)
    rw [this]; exact hm
  · obtain ⟨h0, hb⟩ := has_dir hab e hm.on.1 hm'.on.1 h
    obtain ⟨a1, a2⟩ := ins_pos hab hm
    obtain ⟨b1, b2⟩ := ins_pos hab hm'
    have q1 : 0 < pos a b c ∧ pos a b c < kk a b := by unfold btw at hb; omega
    refine ⟨has_pos hab h0 (by omega) (by omega), ?_, ?_⟩
    · rintro rfl; rw [pos_a] at q1; omega
    · rintro rfl; rw [pos_b] at q1; omega
theorem VR.along {p1 : Ring} {a b : Pnt} {p2 : Ring} (h : VR (p1 ++ a :: b :: p2)) {m m' : Pnt} (hm : Ins a b m) (hm' : Ins a b m') {s : Seg} (hs : s ∈ oth p1 a b p2) : Off m m' s.1 s.2 ∧ ¬ Xs m m' s.1 s.2 := by
  have hab := h.here
  have hk := kk_pos hab
  refine ⟨⟨fun k => h.off hs (ins_of hab hm hm' k) (has_a _ _), fun k => h.off hs (ins_of hab hm hm' k) (has_b _ _), h.off hs hm, h.off hs hm'⟩, ?_⟩
  rintro ⟨o1, o2⟩
  obtain ⟨a1, a2⟩ := ins_pos hab hm
  obtain ⟨b1, b2⟩ := ins_pos hab hm'
  have e1 := cr_on hm.on.1 s.1 s.2
  have e2 := cr_on hm'.on.1 s.1 s.2
  have o3 := opp_comb (by omega) (by omega) (by omega) (by omega) hk e1 e2 o2
  have d1 := cr_dir hm.on.1 hm'.on.1 s.1
  have d2 := cr_dir hm.on.1 hm'.on.1 s.2
  have s1 := sgn_of hk d1
  have s2 := sgn_of hk d2
  have m1 := mulc' (pos a b m' - pos a b m) (cr a b s.1 1)
  have m2 := mulc' (pos a b m' - pos a b m) (cr a b s.2 1)
  have o4 : Opp (cr a b s.1 1) (cr a b s.2 1) := by unfold Opp at o1 ⊢; omega
  have := meet_opp o4 o3
  rcases h.other hs with e | ⟨e, -⟩ <;> omega
theorem dRs_zero {p q v : Pnt} (h : cr p q v 1 = 0) : dRs p q v = false := by
  unfold dRs dR
  rw [cr_swap p q v 1, h]
  simp
def Lh (p1 : Ring) (a b : Pnt) (p2 : Ring) (m : Spot) : Bool := raysS (oth p1 a b p2) m ^^ upS a b
theorem VR.lh_same {p1 : Ring} {a b : Pnt} {p2 : Ring} (h : VR (p1 ++ a :: b :: p2)) {m m' : Pnt} (hm : Ins a b m) (hm' : Ins a b m') : Lh p1 a b p2 (m, 1) = Lh p1 a b p2 (m', 1) := by
  have k := oth_chain (shut_ends h.shut) (x := m) (m := m') (fun s hs => (h.along hm hm' hs).1) (fun s hs => (h.along hm hm' hs).2)
  have hab := h.here
  have hk := kk_pos hab
  have z1 : cr m m' a 1 = 0 := by
    have := cr_dir hm.on.1 hm'.on.1 a
    rw [cr_a, Int.mul_zero] at this
    rcases Int.mul_eq_zero.1 this with q | q <;> omega
  have z2 : cr m m' b 1 = 0 := by
    have := cr_dir hm.on.1 hm'.on.1 b
    rw [cr_b, Int.mul_zero] at this
    rcases Int.mul_eq_zero.1 this with q | q <;> omega
  rw [dRs_zero z1, dRs_zero z2] at k
  unfold Lh
  revert k
  generalize raysS (oth p1 a b p2) (m, 1) = x
  generalize raysS (oth p1 a b p2) (m', 1) = y
  generalize upS a b = z
  cases x <;> cases y <;> cases z <;> simp
structure Bes (p1 : Ring) (a b : Pnt) (p2 : Ring) (m x : Pnt) : Prop where
  ins : Ins a b m
  off : ∀ s ∈ oth p1 a b p2, Off x m s.1 s.2
  nx : ∀ s ∈ oth p1 a b p2, ¬ Xs x m s.1 s.2
theorem beside {p1 : Ring} {a b : Pnt} {p2 : Ring} (hr : Ends (p1 ++ a :: b :: p2)) (hab : a ≠ b) {m x : Pnt} (h : Bes p1 a b p2 m x) (hx : cr a b x 1 ≠ 0) :
    place (p1 ++ a :: b :: p2) (x, 1) = if (0 < cr a b x 1 ↔ Lh p1 a b p2 (m, 1) = true) then 2 else 0 := by
  have k := oth_chain hr h.off h.nx
  have hn : ∀ s ∈ segs (p1 ++ a :: b :: p2), ¬ has s.1 s.2 x 1 := by
    intro s hs
    rcases mem_oth.1 hs with rfl | hs
    · exact fun q => hx q.1
    · exact (h.off s hs).hp
  rw [place_rays (p := (x, 1)) hn, rays_oth]
  unfold Lh
  rcases Int.lt_or_gt_of_ne hx with g | g
  · have l := local_right hab h.ins g
    have ng : ¬ 0 < cr a b x 1 := by omega
    simp only [ng, false_iff]
    revert k l
    generalize raysS (oth p1 a b p2) (x, 1) = x1
    generalize raysS (oth p1 a b p2) (m, 1) = x2
    generalize dRs x m a = x3
    generalize dRs x m b = x4
    generalize ray a b x 1 = x5
    generalize upS a b = x6
    revert x1 x2 x3 x4 x5 x6
    decide
  · have l := local_left hab h.ins g
    simp only [g, true_iff]
    revert k l
    generalize raysS (oth p1 a b p2) (x, 1) = x1
    generalize raysS (oth p1 a b p2) (m, 1) = x2
    generalize dRs x m a = x3
    generalize dRs x m b = x4
    generalize ray a b x 1 = x5
    generalize upS a b = x6
    revert x1 x2 x3 x4 x5 x6
    decide
end Vd
end Go.Proofs.YtcclepohmhdpbabGreatDoor

namespace Go.Proofs.YtcclepohmhdpbabGreatDoor
set_option linter.all false
namespace Vd
theorem turn_hand {a b c m m' : Pnt} (hab : a ≠ b) (hbc : b ≠ c) (hm : Ins a b m) (hm' : Ins b c m') (hs : 0 < cr a b c 1) : 0 < cr b c m 1 ∧ 0 < cr a b m' 1 ∧ 0 < cr m m' a 1 ∧ 0 < cr m m' c 1 := by
  have k1 := kk_pos hab
  have k2 := kk_pos hbc
  obtain ⟨a1, a2⟩ := ins_pos hab hm
  obtain ⟨b1, b2⟩ := ins_pos hbc hm'
  have e1 := cr_on hm.on.1 b c
  have e2 := cr_on hm'.on.1 a b
  have r1 : cr b c a 1 = cr a b c 1 := by unfold cr; grind
  rw [cr_a, Int.mul_zero, Int.add_zero, r1] at e1
  rw [cr_b, Int.mul_zero, Int.zero_add] at e2
  have q1 : 0 < cr b c m 1 := (sgn_of k1 e1).1.2 (pp (by omega) hs)
  have q2 : 0 < cr a b m' 1 := (sgn_of k2 e2).1.2 (pp (by omega) hs)
  refine ⟨q1, q2, ?_, ?_⟩
  · -- m m' a, by the line from a to b
    have f := (ins_hand (x := m') hab hm).1
    rw [cr_swap m m' a 1] at f
    have : kk a b * cr m m' a 1 = pos a b m * cr a b m' 1 := by
      have e : kk a b * cr m m' a 1 = - (kk a b * -cr m m' a 1) := by grind
      rw [e, f]; grind
    exact (sgn_of k1 this).1.2 (pp a1 q2)
  · have f := (ins_hand (x := m) hbc hm').2
    exact (sgn_of k2 f).1.2 (pp (by omega) q1)
theorem loc_left {a b c m m' : Pnt} (hab : a ≠ b) (hbc : b ≠ c) (hm : Ins a b m) (hm' : Ins b c m') (hs : 0 < cr a b c 1) :
    ((ray b c m 1 ^^ ray a b m' 1) ^^ ((dRs m m' a ^^ dRs m m' c) ^^ (upS a b ^^ upS b c))) = false := by
  obtain ⟨s1, s2, s3, s4⟩ := turn_hand hab hbc hm hm' hs
  have y1 := ins_y hab hm
  have y2 := ins_y hbc hm'
  have c3 : cr m' m a 1 = - cr m m' a 1 := cr_swap m m' a 1
  have c4 : cr m' m c 1 = - cr m m' c 1 := cr_swap m m' c 1
  have f1 : a.2 = b.2 → (a.1 < b.1 ↔ b.2 < c.2) ∧ b.2 ≠ c.2 ∧ a.1 ≠ b.1 := by
    intro e
    have : cr a b c 1 = (b.1 - a.1) * (c.2 - b.2) := by unfold cr; rw [e]; grind
    rw [this] at hs
    have := (mulc' (b.1 - a.1) (c.2 - b.2)).2 hs
    omega
  have f2 : b.2 = c.2 → (c.1 < b.1 ↔ a.2 < b.2) ∧ a.2 ≠ b.2 ∧ c.1 ≠ b.1 := by
    intro e
    have : cr a b c 1 = (b.2 - a.2) * (b.1 - c.1) := by unfold cr; rw [← e]; grind
    rw [this] at hs
    have := (mulc' (b.2 - a.2) (b.1 - c.1)).2 hs
    omega
  rw [ray_one, ray_one]
  unfold dRs dR upS
  have t1 : (b.2 - m.2 ≤ 0 ∧ 0 < c.2 - m.2 ∧ 0 < cr b c m 1 ∨ c.2 - m.2 ≤ 0 ∧ 0 < b.2 - m.2 ∧ cr b c m 1 < 0) ↔ (b.2 ≤ m.2 ∧ m.2 < c.2) := by omega
  have t2 : (a.2 - m'.2 ≤ 0 ∧ 0 < b.2 - m'.2 ∧ 0 < cr a b m' 1 ∨ b.2 - m'.2 ≤ 0 ∧ 0 < a.2 - m'.2 ∧ cr a b m' 1 < 0) ↔ (a.2 ≤ m'.2 ∧ m'.2 < b.2) := by omega
  have t3 : ¬ (m.2 < a.2 ∧ a.2 ≤ m'.2 ∧ cr m m' a 1 < 0) := by omega
  have t4 : ¬ (m.2 < c.2 ∧ c.2 ≤ m'.2 ∧ cr m m' c 1 < 0) := by omega
  have t5 : (m'.2 < a.2 ∧ a.2 ≤ m.2 ∧ cr m' m a 1 < 0) ↔ (m'.2 < a.2 ∧ a.2 ≤ m.2) := by omega
  have t6 : (m'.2 < c.2 ∧ c.2 ≤ m.2 ∧ cr m' m c 1 < 0) ↔ (m'.2 < c.2 ∧ c.2 ≤ m.2) := by omega
  simp only [t1, t2, t3, t4, t5, t6]
  clear t1 t2 t3 t4 t5 t6 s1 s2 s3 s4 c3 c4 hs
  rcases Int.lt_trichotomy m.2 m'.2 with g | g | g
  · rw [if_pos g, if_pos g]
    by_cases c1 : b.2 ≤ m.2 ∧ m.2 < c.2 <;> by_cases c2 : a.2 ≤ m'.2 ∧ m'.2 < b.2 <;>
    by_cases c5 : a.2 < b.2 ∨ (a.2 = b.2 ∧ b.1 < a.1) <;> by_cases c6 : b.2 < c.2 ∨ (b.2 = c.2 ∧ c.1 < b.1) <;>
    first | (simp only [c1, c2, c5, c6, decide_true, decide_false]; rfl) | (exfalso; omega)
  · rw [if_neg (by omega), if_neg (by omega), if_neg (by omega), if_neg (by omega)]
    by_cases c1 : b.2 ≤ m.2 ∧ m.2 < c.2 <;> by_cases c2 : a.2 ≤ m'.2 ∧ m'.2 < b.2 <;>
    by_cases c5 : a.2 < b.2 ∨ (a.2 = b.2 ∧ b.1 < a.1) <;> by_cases c6 : b.2 < c.2 ∨ (b.2 = c.2 ∧ c.1 < b.1) <;>
    first | (simp only [c1, c2, c5, c6, decide_true, decide_false]; rfl) | (exfalso; omega)
  · rw [if_neg (by omega), if_pos g, if_neg (by omega), if_pos g]
    by_cases c1 : b.2 ≤ m.2 ∧ m.2 < c.2 <;> by_cases c2 : a.2 ≤ m'.2 ∧ m'.2 < b.2 <;>
    by_cases c3 : m'.2 < a.2 ∧ a.2 ≤ m.2 <;> by_cases c4 : m'.2 < c.2 ∧ c.2 ≤ m.2 <;>
    by_cases c5 : a.2 < b.2 ∨ (a.2 = b.2 ∧ b.1 < a.1) <;> by_cases c6 : b.2 < c.2 ∨ (b.2 = c.2 ∧ c.1 < b.1) <;>
    first | (simp only [c1, c2, c3, c4, c5, c6, decide_true, decide_false]; rfl) | (exfalso; omega)
theorem dRs_swap (p q v : Pnt) : dRs p q v = dRs q p v := by
  unfold dRs
  rcases Int.lt_trichotomy p.2 q.2 with h | h | h
  · rw [if_pos h, if_neg (by omega), if_pos h]
  · rw [if_neg (by omega), if_neg (by omega), if_neg (by omega), if_neg (by omega)]
  · rw [if_neg (by omega), if_pos h, if_pos h]
theorem ins_swap {a b m : Pnt} (h : Ins a b m) : Ins b a m := ⟨has_swap.1 h.on, h.nb, h.na⟩
theorem ray_zero {a b x : Pnt} (h : cr a b x 1 = 0) : ray a b x 1 = false := by rw [ray_one, h]; simp
theorem up_line {a b c : Pnt} (hab : a ≠ b) (hbc : b ≠ c) (h : has a c b 1) : upS a b = upS b c := by
  obtain ⟨h0, h1, h2⟩ := h
  unfold btw at h1 h2
  simp only [Int.mul_one] at h1 h2
  unfold upS
  have n1 : a.1 = b.1 → a.2 ≠ b.2 := fun e q => hab (Prod.ext e q)
  have n2 : b.1 = c.1 → b.2 ≠ c.2 := fun e q => hbc (Prod.ext e q)
  have l1 : a.2 = b.2 → b.2 ≠ c.2 → a.1 = b.1 := by
    intro e hne
    have : cr a c b 1 = (a.2 - c.2) * (b.1 - a.1) := by unfold cr; rw [e]; grind
    rw [this] at h0
    rcases Int.mul_eq_zero.1 h0 with q | q <;> omega
  have l2 : b.2 = c.2 → a.2 ≠ b.2 → b.1 = c.1 := by
    intro e hne
    have : cr a c b 1 = (c.2 - a.2) * (c.1 - b.1) := by unfold cr; rw [e]; grind
    rw [this] at h0
    rcases Int.mul_eq_zero.1 h0 with q | q <;> omega
  exact decide_eq_decide.2 (by omega)
theorem loc_any {a b c m m' : Pnt} (hab : a ≠ b) (hbc : b ≠ c) (hm : Ins a b m) (hm' : Ins b c m') (hs : cr a b c 1 ≠ 0 ∨ has a c b 1) :
    ((ray b c m 1 ^^ ray a b m' 1) ^^ ((dRs m m' a ^^ dRs m m' c) ^^ (upS a b ^^ upS b c))) = false := by
  by_cases h0 : cr a b c 1 = 0
  · have h : has a c b 1 := by
      rcases hs with q | q
      · exact absurd h0 q
      · exact q
    have k1 := kk_pos hab
    have k2 := kk_pos hbc
    have e1 := cr_on hm.on.1 b c
    have e2 := cr_on hm'.on.1 a b
    have r1 : cr b c a 1 = cr a b c 1 := by unfold cr; grind
    rw [cr_a, r1, h0, Int.mul_zero, Int.mul_zero, Int.add_zero] at e1
    rw [cr_b, h0, Int.mul_zero, Int.mul_zero, Int.add_zero] at e2
    have z1 : cr b c m 1 = 0 := by rcases Int.mul_eq_zero.1 e1 with q | q <;> omega
    have z2 : cr a b m' 1 = 0 := by rcases Int.mul_eq_zero.1 e2 with q | q <;> omega
    have z3 : cr m m' a 1 = 0 := by
      have f := cr_dir hm.on.1 z2 a
      rw [cr_a, Int.mul_zero] at f
      rcases Int.mul_eq_zero.1 f with q | q <;> omega
    have z4 : cr m m' c 1 = 0 := by
      have f := cr_dir hm.on.1 z2 c
      rw [h0, Int.mul_zero] at f
      rcases Int.mul_eq_zero.1 f with q | q <;> omega
    rw [ray_zero z1, ray_zero z2, dRs_zero z3, dRs_zero z4, up_line hab hbc h]
    simp
  · rcases Int.lt_or_gt_of_ne h0 with g | g
    · have := loc_left (a := c) (b := b) (c := a) (Ne.symm hbc) (Ne.symm hab) (ins_swap hm') (ins_swap hm) (by
        have : cr c b a 1 = - cr a b c 1 := by unfold cr; grind
        omega)
      rw [ray_swap b a m', ray_swap c b m, dRs_swap m' m, dRs_swap m' m, upS_swap hab, upS_swap hbc] at this
      revert this
      generalize ray b c m 1 = x1
      generalize ray a b m' 1 = x2
      generalize dRs m m' a = x3
      generalize dRs m m' c = x4
      generalize upS a b = x5
      generalize upS b c = x6
      revert x1 x2 x3 x4 x5 x6
      decide
    · exact loc_left hab hbc hm hm' g
def oth2 (p1 : Ring) (a c : Pnt) (p2 : Ring) : List Seg := segs (p1 ++ [a]) ++ segs (c :: p2)
theorem oth_fst (p1 : Ring) (a b c : Pnt) (p2 : Ring) (x : Spot) : raysS (oth p1 a b (c :: p2)) x = (ray b c x.1 x.2 ^^ raysS (oth2 p1 a c p2) x) := by
  unfold oth oth2
  rw [segs_cons2, raysS_append, raysS_append, raysS_cons]
  generalize raysS (segs (p1 ++ [a])) x = u
  generalize raysS (segs (c :: p2)) x = v
  generalize ray (b, c).1 (b, c).2 x.1 x.2 = w
  cases u <;> cases v <;> cases w <;> rfl
theorem oth_snd (p1 : Ring) (a b c : Pnt) (p2 : Ring) (x : Spot) : raysS (oth (p1 ++ [a]) b c p2) x = (ray a b x.1 x.2 ^^ raysS (oth2 p1 a c p2) x) := by
  unfold oth oth2
  have e : segs (p1 ++ [a] ++ [b]) = segs (p1 ++ [a]) ++ [(a, b)] := by
    have := segs_split p1 a b []
    simpa [segs_one] using this
  rw [e, raysS_append, raysS_append, raysS_append, raysS_cons]
  show ((raysS (segs (p1 ++ [a])) x ^^ (ray a b x.1 x.2 ^^ false)) ^^ raysS (segs (c :: p2)) x) = _
  generalize raysS (segs (p1 ++ [a])) x = u
  generalize raysS (segs (c :: p2)) x = v
  generalize ray a b x.1 x.2 = w
  cases u <;> cases v <;> cases w <;> rfl
theorem oth2_chain {p1 : Ring} {a b c : Pnt} {p2 : Ring} (hr : Ends (p1 ++ a :: b :: c :: p2)) {x m : Pnt} (h : ∀ s ∈ oth2 p1 a c p2, Off x m s.1 s.2) (hx : ∀ s ∈ oth2 p1 a c p2, ¬ Xs x m s.1 s.2) :
    (raysS (oth2 p1 a c p2) (x, 1) ^^ raysS (oth2 p1 a c p2) (m, 1)) = (dRs x m a ^^ dRs x m c) := by
  have hr' : Ends (p1 ++ a :: c :: p2) := by
    unfold Ends at *
    rw [List.getLast?_append, List.getLast?_cons_cons] at hr ⊢
    rw [List.getLast?_cons_cons] at hr
    rw [← hr]
    cases p1 <;> rfl
  exact oth_chain hr' h hx
theorem lh_next {p1 : Ring} {a b c : Pnt} {p2 : Ring} (hr : Ends (p1 ++ a :: b :: c :: p2)) (hab : a ≠ b) (hbc : b ≠ c) (hs : cr a b c 1 ≠ 0 ∨ has a c b 1) {m m' : Pnt} (hm : Ins a b m) (hm' : Ins b c m')
    (h : ∀ s ∈ oth2 p1 a c p2, Off m m' s.1 s.2) (hx : ∀ s ∈ oth2 p1 a c p2, ¬ Xs m m' s.1 s.2) : Lh p1 a b (c :: p2) (m, 1) = Lh (p1 ++ [a]) b c p2 (m', 1) := by
  have k := oth2_chain hr h hx
  have l := loc_any hab hbc hm hm' hs
  unfold Lh
  rw [oth_fst, oth_snd]
  simp only
  revert k l
  generalize raysS (oth2 p1 a c p2) (m, 1) = x1
  generalize raysS (oth2 p1 a c p2) (m', 1) = x2
  generalize ray b c m 1 = x3
  generalize ray a b m' 1 = x4
  generalize dRs m m' a = x5
  generalize dRs m m' c = x6
  generalize upS a b = x7
  generalize upS b c = x8
  revert x1 x2 x3 x4 x5 x6 x7 x8
  decide
theorem xs_box {x y p q : Pnt} (h : Xs x y p q) : ∃ al be ga de : Int, 0 < al ∧ 0 < be ∧ 0 < ga ∧ 0 < de ∧ al + be = ga + de ∧ al * x.1 + be * y.1 = ga * p.1 + de * q.1 ∧ al * x.2 + be * y.2 = ga * p.2 + de * q.2 := by
  have i1 : cr x y q 1 - cr x y p 1 = cr p q x 1 - cr p q y 1 := by unfold cr; grind
  have i2 : cr p q y 1 * x.1 - cr p q x 1 * y.1 = cr x y p 1 * q.1 - cr x y q 1 * p.1 := by unfold cr; grind
  have i3 : cr p q y 1 * x.2 - cr p q x 1 * y.2 = cr x y p 1 * q.2 - cr x y q 1 * p.2 := by unfold cr; grind
  obtain ⟨o1, o2⟩ := h
  generalize cr x y q 1 = B at *
  generalize cr x y p 1 = A at *
  generalize cr p q x 1 = P at *
  generalize cr p q y 1 = Q at *
  unfold Opp at o1 o2
  rcases o2 with o2 | o2
  · have hB : A > 0 ∧ B < 0 := by omega
    exact ⟨Q, -P, -B, A, by omega, by omega, by omega, by omega, by omega, by grind, by grind⟩
  · have hB : A < 0 ∧ 0 < B := by omega
    exact ⟨-Q, P, B, -A, by omega, by omega, by omega, by omega, by omega, by grind, by grind⟩
theorem box_no {al be ga de x y p q : Int} (h1 : 0 < al) (h2 : 0 < be) (h3 : 0 < ga) (h4 : 0 < de) (e : al + be = ga + de) (f : al * x + be * y = ga * p + de * q) {t : Int} (hx : x < t) (hy : y < t) (hp : t ≤ p) (hq : t ≤ q) : False := by
  have a1 := Int.mul_lt_mul_of_pos_left hx h1
  have a2 := Int.mul_lt_mul_of_pos_left hy h2
  have a3 := Int.mul_le_mul_of_nonneg_left hp (Int.le_of_lt h3)
  have a4 := Int.mul_le_mul_of_nonneg_left hq (Int.le_of_lt h4)
  have : al * t + be * t = ga * t + de * t := by rw [← Int.add_mul, ← Int.add_mul, e]
  omega
theorem box_no' {al be ga de x y p q : Int} (h1 : 0 < al) (h2 : 0 < be) (h3 : 0 < ga) (h4 : 0 < de) (e : al + be = ga + de) (f : al * x + be * y = ga * p + de * q) {t : Int} (hx : t < x) (hy : t < y) (hp : p ≤ t) (hq : q ≤ t) : False :=
  box_no h1 h2 h3 h4 e (x := -x) (y := -y) (p := -p) (q := -q) (by grind) (t := -t) (by omega) (by omega) (by omega) (by omega)
def nrP (k : Int) (b u : Pnt) : Pnt := (k * b.1 + u.1, k * b.2 + u.2)
theorem cr_nr (k : Int) (g1 g2 b u : Pnt) : cr (sc k g1) (sc k g2) (nrP k b u) 1 = k * (k * cr g1 g2 b 1 + ((g2.1 - g1.1) * u.2 - (g2.2 - g1.2) * u.1)) := by unfold cr sc nrP; grind
def big (g : Seg) (u v : Pnt) : Nat := u.1.natAbs + u.2.natAbs + v.1.natAbs + v.2.natAbs + ((g.2.1 - g.1.1) * u.2 - (g.2.2 - g.1.2) * u.1).natAbs + ((g.2.1 - g.1.1) * v.2 - (g.2.2 - g.1.2) * v.1).natAbs
theorem mul_small {k x : Int} (hk : 0 < k) (h : -k < k * x ∧ k * x < k) : x = 0 := by
  rcases Int.lt_trichotomy x 0 with g | g | g
  · have := Int.mul_le_mul_of_nonneg_left (show x ≤ -1 by omega) (Int.le_of_lt hk); omega
  · exact g
  · have := Int.mul_le_mul_of_nonneg_left (show 1 ≤ x by omega) (Int.le_of_lt hk); omega
theorem big_bd {g : Seg} {u v : Pnt} {k : Int} (hk : (big g u v : Int) < k) : 0 < k ∧ (-k < u.1 ∧ u.1 < k) ∧ (-k < u.2 ∧ u.2 < k) ∧ (-k < v.1 ∧ v.1 < k) ∧ (-k < v.2 ∧ v.2 < k) ∧
    (-k < (g.2.1 - g.1.1) * u.2 - (g.2.2 - g.1.2) * u.1 ∧ (g.2.1 - g.1.1) * u.2 - (g.2.2 - g.1.2) * u.1 < k) ∧ (-k < (g.2.1 - g.1.1) * v.2 - (g.2.2 - g.1.2) * v.1 ∧ (g.2.1 - g.1.1) * v.2 - (g.2.2 - g.1.2) * v.1 < k) := by
  unfold big at hk
  generalize (g.2.1 - g.1.1) * u.2 - (g.2.2 - g.1.2) * u.1 = U at *
  generalize (g.2.1 - g.1.1) * v.2 - (g.2.2 - g.1.2) * v.1 = V at *
  generalize u.1 = u1 at *
  generalize u.2 = u2 at *
  generalize v.1 = v1 at *
  generalize v.2 = v2 at *
  clear g
  refine ⟨by omega, ⟨by omega, by omega⟩, ⟨by omega, by omega⟩, ⟨by omega, by omega⟩, ⟨by omega, by omega⟩, ⟨by omega, by omega⟩, ⟨by omega, by omega⟩⟩
theorem near_vert {b u v c : Pnt} {k : Int} (hk0 : 0 < k) (hu1 : -k < u.1 ∧ u.1 < k) (hu2 : -k < u.2 ∧ u.2 < k) (hv1 : -k < v.1 ∧ v.1 < k) (hv2 : -k < v.2 ∧ v.2 < k) (hc : c ≠ b) : ¬ has (nrP k b u) (nrP k b v) (sc k c) 1 := by
  intro h
  have h1 := h.2.1
  have h2 := h.2.2
  unfold nrP sc btw at h1 h2
  simp only [Int.mul_one] at h1 h2
  have e1 : k * (c.1 - b.1) = k * c.1 - k * b.1 := by grind
  have e2 : k * (c.2 - b.2) = k * c.2 - k * b.2 := by grind
  have z1 := mul_small hk0 (x := c.1 - b.1) (by rw [e1]; omega)
  have z2 := mul_small hk0 (x := c.2 - b.2) (by rw [e2]; omega)
  exact hc (Prod.ext (by omega) (by omega))
theorem k_step {k x y : Int} (hk0 : 0 < k) (h : x < y) : k * x + k ≤ k * y := by
  have := Int.mul_le_mul_of_nonneg_left (show x + 1 ≤ y by omega) (Int.le_of_lt hk0)
  rw [Int.mul_add, Int.mul_one] at this
  exact this
theorem near_pt {g : Seg} {b t : Pnt} {k : Int} (hk0 : 0 < k) (h1 : -k < t.1 ∧ t.1 < k) (h2 : -k < t.2 ∧ t.2 < k)
    (hbe : (b.1 < g.1.1 ∧ b.1 < g.2.1) ∨ (g.1.1 < b.1 ∧ g.2.1 < b.1) ∨ (b.2 < g.1.2 ∧ b.2 < g.2.2) ∨ (g.1.2 < b.2 ∧ g.2.2 < b.2)) : ¬ has (sc k g.1) (sc k g.2) (nrP k b t) 1 := by
  intro h
  have f1 := h.2.1
  have f2 := h.2.2
  unfold nrP sc btw at f1 f2
  simp only [Int.mul_one] at f1 f2
  rcases hbe with ⟨q1, q2⟩ | ⟨q1, q2⟩ | ⟨q1, q2⟩ | ⟨q1, q2⟩
  · have := k_step hk0 q1; have := k_step hk0 q2; clear f2 h2; omega
  · have := k_step hk0 q1; have := k_step hk0 q2; clear f2 h2; omega
  · have := k_step hk0 q1; have := k_step hk0 q2; clear f1 h1; omega
  · have := k_step hk0 q1; have := k_step hk0 q2; clear f1 h1; omega
theorem near_xs {g : Seg} {b u v : Pnt} {k : Int} (hk0 : 0 < k) (hu1 : -k < u.1 ∧ u.1 < k) (hu2 : -k < u.2 ∧ u.2 < k) (hv1 : -k < v.1 ∧ v.1 < k) (hv2 : -k < v.2 ∧ v.2 < k)
    (hbe : (b.1 < g.1.1 ∧ b.1 < g.2.1) ∨ (g.1.1 < b.1 ∧ g.2.1 < b.1) ∨ (b.2 < g.1.2 ∧ b.2 < g.2.2) ∨ (g.1.2 < b.2 ∧ g.2.2 < b.2)) : ¬ Xs (nrP k b u) (nrP k b v) (sc k g.1) (sc k g.2) := by
  intro h
  obtain ⟨al, be, ga, de, p1, p2, p3, p4, e, f1, f2⟩ := xs_box h
  unfold nrP sc at f1 f2
  simp only at f1 f2
  rcases hbe with ⟨q1, q2⟩ | ⟨q1, q2⟩ | ⟨q1, q2⟩ | ⟨q1, q2⟩
  · have := k_step hk0 q1; have := k_step hk0 q2
    exact box_no p1 p2 p3 p4 e f1 (t := k * b.1 + k) (by omega) (by omega) (by omega) (by omega)
  · have := k_step hk0 q1; have := k_step hk0 q2
    exact box_no' p1 p2 p3 p4 e f1 (t := k * b.1 - k) (by omega) (by omega) (by omega) (by omega)
  · have := k_step hk0 q1; have := k_step hk0 q2
    exact box_no p1 p2 p3 p4 e f2 (t := k * b.2 + k) (by omega) (by omega) (by omega) (by omega)
  · have := k_step hk0 q1; have := k_step hk0 q2
    exact box_no' p1 p2 p3 p4 e f2 (t := k * b.2 - k) (by omega) (by omega) (by omega) (by omega)
theorem beyond {g : Seg} {b : Pnt} (hb : ¬ has g.1 g.2 b 1) (h0 : cr g.1 g.2 b 1 = 0) : (b.1 < g.1.1 ∧ b.1 < g.2.1) ∨ (g.1.1 < b.1 ∧ g.2.1 < b.1) ∨ (b.2 < g.1.2 ∧ b.2 < g.2.2) ∨ (g.1.2 < b.2 ∧ g.2.2 < b.2) := by
  by_cases c1 : btw (g.1.1 * 1) b.1 (g.2.1 * 1)
  · by_cases c2 : btw (g.1.2 * 1) b.2 (g.2.2 * 1)
    · exact absurd ⟨h0, c1, c2⟩ hb
    · unfold btw at c2; omega
  · unfold btw at c1; omega
theorem near_off {g : Seg} {b u v : Pnt} (hb : ¬ has g.1 g.2 b 1) {k : Int} (hk : (big g u v : Int) < k) : Off (nrP k b u) (nrP k b v) (sc k g.1) (sc k g.2) ∧ ¬ Xs (nrP k b u) (nrP k b v) (sc k g.1) (sc k g.2) := by
  obtain ⟨hk0, hu1, hu2, hv1, hv2, hU, hV⟩ := big_bd hk
  clear hk
  have n1 : g.1 ≠ b := fun e => hb (by rw [← e]; exact has_a _ _)
  have n2 : g.2 ≠ b := fun e => hb (by rw [← e]; exact has_b _ _)
  by_cases h0 : cr g.1 g.2 b 1 = 0
  · have hbe := beyond hb h0
    exact ⟨⟨near_vert hk0 hu1 hu2 hv1 hv2 n1, near_vert hk0 hu1 hu2 hv1 hv2 n2, near_pt hk0 hu1 hu2 hbe, near_pt hk0 hv1 hv2 hbe⟩, near_xs hk0 hu1 hu2 hv1 hv2 hbe⟩
  · have c1 := cr_nr k g.1 g.2 b u
    have c2 := cr_nr k g.1 g.2 b v
    generalize (g.2.1 - g.1.1) * u.2 - (g.2.2 - g.1.2) * u.1 = U at *
    generalize (g.2.1 - g.1.1) * v.2 - (g.2.2 - g.1.2) * v.1 = V at *
    have s1 := sgn_of hk0 (rfl : k * (k * cr g.1 g.2 b 1 + U) = _)
    have s2 := sgn_of hk0 (rfl : k * (k * cr g.1 g.2 b 1 + V) = _)
    rw [← c1] at s1
    rw [← c2] at s2
    have dom : (0 < cr g.1 g.2 b 1 → k ≤ k * cr g.1 g.2 b 1) ∧ (cr g.1 g.2 b 1 < 0 → k * cr g.1 g.2 b 1 ≤ -k) := by
      constructor
      · intro q
        have := Int.mul_le_mul_of_nonneg_left (show 1 ≤ cr g.1 g.2 b 1 by omega) (Int.le_of_lt hk0)
        omega
      · intro q
        have := Int.mul_le_mul_of_nonneg_left (show cr g.1 g.2 b 1 ≤ -1 by omega) (Int.le_of_lt hk0)
        omega
    clear c1 c2
    refine ⟨⟨near_vert hk0 hu1 hu2 hv1 hv2 n1, near_vert hk0 hu1 hu2 hv1 hv2 n2, fun h => ?_, fun h => ?_⟩, fun h => ?_⟩
    · have := h.1
      clear hu1 hu2 hv1 hv2 s2
      omega
    · have := h.1
      clear hu1 hu2 hv1 hv2 s1
      omega
    · have o := h.2
      clear hu1 hu2 hv1 hv2
      unfold Opp at o; omega
end Vd
end Go.Proofs.YtcclepohmhdpbabGreatDoor

namespace Go.Proofs.YtcclepohmhdpbabGreatDoor
set_option linter.all false
namespace Vd
theorem upS_sc {k : Int} (hk : 0 < k) (a b : Pnt) : upS (sc k a) (sc k b) = upS a b := by
  have e1 : ∀ {x y : Int}, k * x < k * y ↔ x < y := fun {x y} => ⟨fun h => Int.lt_of_mul_lt_mul_left h (by omega), fun h => Int.mul_lt_mul_of_pos_left h hk⟩
  have e2 : ∀ {x y : Int}, k * x = k * y ↔ x = y := fun {x y} => ⟨fun h => Int.eq_of_mul_eq_mul_left (by omega) h, fun h => by rw [h]⟩
  unfold upS sc
  simp only [e1, e2]
theorem raysS_sc {k : Int} (hk : 0 < k) (x : Pnt) (w : Int) : ∀ l : List Seg, raysS (l.map (scS k)) (x, w) = raysS l (x, k * w) := by
  intro l
  induction l with
  | nil => rfl
  | cons s l ih =>
    rw [List.map_cons, raysS_cons, raysS_cons, ih]
    have : ray (scS k s).1 (scS k s).2 x w = ray s.1 s.2 x (k * w) := ray_sc hk s.1 s.2 x w
    simp only
    rw [this]
theorem raysS_spot {k : Int} (hk : 0 < k) (x : Pnt) (w : Int) : ∀ l : List Seg, raysS l (sc k x, k * w) = raysS l (x, w) := by
  intro l
  induction l with
  | nil => rfl
  | cons s l ih =>
    rw [raysS_cons, raysS_cons, ih]
    simp only
    rw [ray_spot hk]
theorem scR_append (k : Int) (p q : Ring) : scR k (p ++ q) = scR k p ++ scR k q := by simp [scR]
theorem scR_cons (k : Int) (a : Pnt) (q : Ring) : scR k (a :: q) = sc k a :: scR k q := rfl
theorem oth_sc (k : Int) (p1 : Ring) (a b : Pnt) (p2 : Ring) : oth (scR k p1) (sc k a) (sc k b) (scR k p2) = (oth p1 a b p2).map (scS k) := by
  unfold oth
  rw [List.map_append, ← segs_sc, ← segs_sc, scR_append]; rfl
theorem oth2_sc (k : Int) (p1 : Ring) (a b : Pnt) (p2 : Ring) : oth2 (scR k p1) (sc k a) (sc k b) (scR k p2) = (oth2 p1 a b p2).map (scS k) := oth_sc k p1 a b p2
theorem lh_sc {k : Int} (hk : 0 < k) (p1 : Ring) (a b : Pnt) (p2 : Ring) (x : Pnt) (w : Int) : Lh (scR k p1) (sc k a) (sc k b) (scR k p2) (x, w) = Lh p1 a b p2 (x, k * w) := by
  unfold Lh; rw [oth_sc, raysS_sc hk, upS_sc hk]
theorem lh_spot {k : Int} (hk : 0 < k) (p1 : Ring) (a b : Pnt) (p2 : Ring) (x : Pnt) (w : Int) : Lh p1 a b p2 (sc k x, k * w) = Lh p1 a b p2 (x, w) := by
  unfold Lh; rw [raysS_spot hk]
theorem ptAt_sc (k : Int) (r : Ring) {i : Nat} (h : i < r.length) : ptAt (scR k r) i = sc k (ptAt r i) := by
  unfold ptAt scR
  rw [List.getD_eq_getElem?_getD, List.getD_eq_getElem?_getD, List.getElem?_map, List.getElem?_eq_getElem h]; rfl
theorem vr_sc {k : Int} (hk : 0 < k) {r : Ring} (h : VR r) : VR (scR k r) := by
  have hl : (scR k r).length = r.length := by simp [scR]
  have h4 := h.shut.len
  refine ⟨⟨by rw [hl]; exact h4, ?_⟩, ?_, ?_⟩
  · rw [hl, ptAt_sc k r (by omega), ptAt_sc k r (by omega), h.shut.eq]
  · cases c : twice (scR k r) with
    | false => rfl
    | true =>
      obtain ⟨i, j, h1, h2, h3, e⟩ := twice_iff.1 c
      rw [hl] at h3
      rw [ptAt_sc k r (by omega), ptAt_sc k r (by omega)] at e
      have := twice_iff.2 ⟨i, j, h1, h2, h3, (sc_inj hk).1 e⟩
      rw [h.tw] at this; cases this
  · have e := h.self
    unfold selfR at e ⊢
    rw [segs_sc, List.length_map]
    rw [← e]
    refine anyI_congr fun j hj => anyI_congr fun i hi => ?_
    have at_ : ∀ {i : Nat}, i < (segs r).length → sAt ((segs r).map (scS k)) i = scS k (sAt (segs r) i) := by
      intro i hi
      unfold sAt
      rw [List.getD_eq_getElem?_getD, List.getD_eq_getElem?_getD, List.getElem?_map, List.getElem?_eq_getElem hi]; rfl
    rw [at_ (by omega), at_ hj]
    have : meetS (scS k (sAt (segs r) i)) (scS k (sAt (segs r) j)) = meetS (sAt (segs r) i) (sAt (segs r) j) := meet_sc hk _ _ _ _
    rw [this]
structure InsS (a b : Pnt) (m : Spot) : Prop where
  w : 0 < m.2
  on : has a b m.1 m.2
  na : m.1 ≠ sc m.2 a
  nb : m.1 ≠ sc m.2 b
theorem InsS.int {a b : Pnt} {m : Spot} (h : InsS a b m) {k : Int} (hk : 0 < k) : Ins (sc (k * m.2) a) (sc (k * m.2) b) (sc k m.1) := by
  have hkw := pp hk h.w
  have e : ∀ c : Pnt, sc (k * m.2) c = sc k (sc m.2 c) := by
    intro c; unfold sc; exact Prod.ext (by simp only; grind) (by simp only; grind)
  refine ⟨?_, ?_, ?_⟩
  · rw [has_sc hkw, Int.mul_one]
    exact (has_spot hk a b m.1 m.2).2 h.on
  · rw [e]; exact fun q => h.na ((sc_inj hk).1 q)
  · rw [e]; exact fun q => h.nb ((sc_inj hk).1 q)
theorem VR.lh_spots {p1 : Ring} {a b : Pnt} {p2 : Ring} (h : VR (p1 ++ a :: b :: p2)) {m m' : Spot} (hm : InsS a b m) (hm' : InsS a b m') : Lh p1 a b p2 m = Lh p1 a b p2 m' := by
  have hk := pp hm.w hm'.w
  have h' := vr_sc hk h
  rw [scR_append, scR_cons, scR_cons] at h'
  have i1 := hm.int hm'.w
  have i2 := hm'.int hm.w
  rw [Int.mul_comm m'.2 m.2] at i1
  have key := h'.lh_same i1 i2
  rw [lh_sc hk, lh_sc hk, Int.mul_one] at key
  have e1 := lh_spot hm'.w p1 a b p2 m.1 m.2
  have e2 := lh_spot hm.w p1 a b p2 m'.1 m'.2
  rw [Int.mul_comm m'.2 m.2] at e1
  rw [← e1, ← e2, key]
theorem mid_ins {a b : Pnt} (hab : a ≠ b) : InsS a b (midOf a b) := by
  have ne : a.1 ≠ b.1 ∨ a.2 ≠ b.2 := by
    by_cases c : a.1 = b.1
    · right; exact fun e => hab (Prod.ext c e)
    · exact .inl c
  refine ⟨by show (0 : Int) < 2; omega, ⟨by rw [show (midOf a b).2 = 2 from rfl, cr_mid, cr_a, cr_b]; rfl, ?_, ?_⟩, ?_, ?_⟩
  · unfold btw midOf; simp only; omega
  · unfold btw midOf; simp only; omega
  · intro e; unfold midOf sc at e; simp only [Prod.mk.injEq] at e; omega
  · intro e; unfold midOf sc at e; simp only [Prod.mk.injEq] at e; omega
theorem near_ins {a b : Pnt} (hab : a ≠ b) {k : Int} (hk : 2 ≤ k) : Ins (sc k a) (sc k b) (nrP k b (a.1 - b.1, a.2 - b.2)) := by
  have hk0 : 0 < k := by omega
  have ne : a.1 - b.1 ≠ 0 ∨ a.2 - b.2 ≠ 0 := by
    by_cases c : a.1 - b.1 = 0
    · right; exact fun e => hab (Prod.ext (by omega) (by omega))
    · exact .inl c
  have bt : ∀ x y : Int, btw (x * k) (k * y + (x - y)) (y * k) := by
    intro x y
    have e1 : k * y = y * k := Int.mul_comm _ _
    have e2 : x * k - y * k = (x - y) * k := by grind
    unfold btw
    rcases Int.le_total 0 (x - y) with g | g
    · have := Int.mul_le_mul_of_nonneg_left (show 1 ≤ k by omega) g
      right; omega
    · have := Int.mul_le_mul_of_nonpos_left g (show 1 ≤ k by omega)
      left; omega
  have ow : ∀ {x : Int}, x ≠ 0 → k * x ≠ x := by
    intro x hx e
    have : (k - 1) * x = 0 := by grind
    rcases Int.mul_eq_zero.1 this with q | q <;> omega
  refine ⟨?_, ?_, ?_⟩
  · rw [has_sc hk0, Int.mul_one]
    refine ⟨by unfold cr nrP; grind, ?_, ?_⟩
    · exact bt a.1 b.1
    · exact bt a.2 b.2
  · intro e
    unfold nrP sc at e
    simp only [Prod.mk.injEq] at e
    have e1 : k * (a.1 - b.1) = a.1 - b.1 := by grind
    have e2 : k * (a.2 - b.2) = a.2 - b.2 := by grind
    rcases ne with q | q
    · exact ow q e1
    · exact ow q e2
  · intro e
    unfold nrP sc at e
    simp only [Prod.mk.injEq] at e
    omega
theorem near_insS {a b : Pnt} (hab : a ≠ b) {k : Int} (hk : 2 ≤ k) : InsS a b (nrP k b (a.1 - b.1, a.2 - b.2), k) := by
  have h := near_ins hab hk
  have hk0 : 0 < k := by omega
  have := h.on
  rw [has_sc hk0, Int.mul_one] at this
  exact ⟨hk0, this, h.na, h.nb⟩
theorem no_back {a b c : Pnt} (hab : a ≠ b) (hbc : b ≠ c) (h : meet a b b c = 1) : cr a b c 1 ≠ 0 ∨ has a c b 1 := by
  by_cases h0 : cr a b c 1 = 0
  · right
    have hk := kk_pos hab
    have three : ∀ z, z ≠ b → has a b z 1 → has b c z 1 → False := by
      intro z hz h1 h2
      have := meet_two hab hbc hz h1 h2 (has_b a b) (has_a b c)
      omega
    have pb := pos_b a b
    have pa := pos_a a b
    rcases Int.lt_or_le (kk a b) (pos a b c) with g | g
    · -- beyond
      have hac : a ≠ c := by rintro rfl; rw [pa] at g; omega
      refine (has_on hac (by omega)).2 ⟨by unfold cr at *; grind, ?_, ?_⟩
      · have : dt a c b 1 = pos a b c := by unfold pos dt; grind
        omega
      · have e1 : dt a c b 1 = pos a b c := by unfold pos dt; grind
        have e2 := dt_dir (cr_a a b) h0 c
        rw [pa, Int.sub_zero, ← kk_dt] at e2
        rw [e1, Int.mul_one]
        have : kk a b * pos a b c ≤ pos a b c * pos a b c := Int.mul_le_mul_of_nonneg_right (by omega) (by omega)
        rw [← e2] at this
        exact Int.le_of_mul_le_mul_left this hk
    · exfalso
      rcases Int.lt_or_le (pos a b c) 0 with q | q
      · -- a between c and b
        refine three a hab (has_a a b) ?_
        refine (has_on hbc (by omega)).2 ⟨by unfold cr at *; grind, ?_, ?_⟩
        · have e := dt_dir (cr_b a b) h0 a
          rw [pa, pb] at e
          have : 0 < kk a b * dt b c a 1 := by rw [e]; exact nng (by omega) (by omega)
          exact Int.le_of_lt ((sgn_of hk rfl).1.2 this)
        · have e := dt_dir (cr_b a b) h0 a
          have e2 := dt_dir (cr_b a b) h0 c
          rw [pa, pb] at e
          rw [pb, ← kk_dt] at e2
          rw [Int.mul_one]
          have : kk a b * dt b c a 1 ≤ kk a b * kk b c := by
            rw [e, e2]; exact Int.mul_le_mul_of_nonpos_left (by omega) (by omega)
          exact Int.le_of_mul_le_mul_left this hk
      · exact three c (Ne.symm hbc) (has_pos hab h0 q g) (has_b b c)
  · exact .inl h0
theorem ex_big (f : Seg → Nat) : ∀ l : List Seg, ∃ k : Int, 2 ≤ k ∧ ∀ s ∈ l, (f s : Int) < k := by
  intro l
  induction l with
  | nil => exact ⟨2, by omega, by simp⟩
  | cons a t ih =>
    obtain ⟨k, h1, h2⟩ := ih
    refine ⟨k + f a + 1, by omega, fun s hs => ?_⟩
    rcases List.mem_cons.1 hs with rfl | hs
    · omega
    · have := h2 s hs; omega
theorem VR.vert {p1 : Ring} {a b c : Pnt} {p2 : Ring} (h : VR (p1 ++ a :: b :: c :: p2)) {s : Seg} (hs : s ∈ oth2 p1 a c p2) : ¬ has s.1 s.2 b 1 := by
  intro hh
  have hlen : (p1 ++ a :: b :: c :: p2).length = p1.length + 3 + p2.length := by simp; omega
  have hso : s ∈ oth p1 a b (c :: p2) := by
    unfold oth oth2 at *
    rw [segs_cons2]
    rcases List.mem_append.1 hs with q | q
    · exact List.mem_append.2 (.inl q)
    · exact List.mem_append.2 (.inr (by simp [q]))
  have hne : s.1 ≠ b := by
    intro e
    have hb : ptAt (p1 ++ a :: b :: c :: p2) (p1.length + 1) = b := (at_here p1 a b (c :: p2)).2
    have two : ∀ j, 1 ≤ j → j ≠ p1.length + 1 → j < (p1 ++ a :: b :: c :: p2).length → ptAt (p1 ++ a :: b :: c :: p2) j ≠ b := by
      intro j h1 h2 h3 e
      have : twice (p1 ++ a :: b :: c :: p2) = true := by
        rcases Nat.lt_or_ge j (p1.length + 1) with g | g
        · exact twice_iff.2 ⟨j, p1.length + 1, h1, g, by omega, by rw [e, hb]⟩
        · exact twice_iff.2 ⟨p1.length + 1, j, by omega, by omega, h3, by rw [e, hb]⟩
      rw [h.tw] at this; cases this
    have zero : ptAt (p1 ++ a :: b :: c :: p2) 0 ≠ b := by
      rw [h.shut.eq]
      exact two _ (by omega) (by omega) (by omega)
    unfold oth2 at hs
    rcases List.mem_append.1 hs with q | q
    · obtain ⟨j, hj, rfl⟩ := segs_mem_at q
      have e2 : p1 ++ a :: b :: c :: p2 = (p1 ++ [a]) ++ b :: c :: p2 := by simp
      have hj' : j + 1 < p1.length + 1 := by simpa using hj
      simp only at e
      rw [← ptAt_app1 (p1 := p1 ++ [a]) (p2 := b :: c :: p2) (by omega), ← e2] at e
      rcases Nat.eq_zero_or_pos j with g | g
      · rw [g] at e; exact zero e
      · exact two j g (by omega) (by omega) e
    · obtain ⟨j, hj, rfl⟩ := segs_mem_at q
      have e2 : p1 ++ a :: b :: c :: p2 = (p1 ++ [a, b]) ++ c :: p2 := by simp
      simp only at e
      rw [← ptAt_app2 (p1 := p1 ++ [a, b]) (p2 := c :: p2) j, ← e2] at e
      have hj' : j + 1 < p2.length + 1 := by simpa using hj
      exact two _ (by simp; omega) (by simp; omega) (by simp; omega) e
  rcases h.other hso with e | ⟨e, q | q⟩
  · exact meet_pt h.here (h.oth_long hso) (has_b a b) hh e
  · exact hne q
  · have := meet_two h.here (h.oth_long hso) (Ne.symm h.here) (has_b a b) hh (has_a a b) (by rw [← q]; exact has_b _ _)
    omega
theorem VR.next_long {p1 : Ring} {a b c : Pnt} {p2 : Ring} (h : VR (p1 ++ a :: b :: c :: p2)) : b ≠ c := by
  refine h.long (b, c) (mem_oth.2 (.inr ?_))
  unfold oth; rw [segs_cons2]; simp
theorem VR.back {p1 : Ring} {a b c : Pnt} {p2 : Ring} (h : VR (p1 ++ a :: b :: c :: p2)) : cr a b c 1 ≠ 0 ∨ has a c b 1 := by
  have hso : (b, c) ∈ oth p1 a b (c :: p2) := by unfold oth; rw [segs_cons2]; simp
  rcases h.other hso with e | ⟨e, -⟩
  · exact absurd e (meet_pt h.here h.next_long (has_b a b) (has_a b c))
  · exact no_back h.here h.next_long e
theorem VR.lh_next {p1 : Ring} {a b c : Pnt} {p2 : Ring} (h : VR (p1 ++ a :: b :: c :: p2)) : Lh p1 a b (c :: p2) (midOf a b) = Lh (p1 ++ [a]) b c p2 (midOf b c) := by
  have hab := h.here
  have hbc := h.next_long
  obtain ⟨k, hk, hbig⟩ := ex_big (fun s => big s (a.1 - b.1, a.2 - b.2) (c.1 - b.1, c.2 - b.2)) (oth2 p1 a c p2)
  have hk0 : 0 < k := by omega
  have i1 := near_ins hab hk
  have i2 := ins_swap (near_ins (Ne.symm hbc) hk)
  have key := Vd.lh_next (p1 := scR k p1) (a := sc k a) (b := sc k b) (c := sc k c) (p2 := scR k p2) (by
      have := ends_sc (k := k) (shut_ends h.shut)
      rw [scR_append, scR_cons, scR_cons, scR_cons] at this
      exact this) (fun e => hab ((sc_inj hk0).1 e)) (fun e => hbc ((sc_inj hk0).1 e)) (by
      rcases h.back with q | q
      · left
        rw [cr_sc1]
        intro e
        rcases Int.mul_eq_zero.1 e with z | z
        · have := pp hk0 hk0; omega
        · exact q z
      · right; exact (has_sc1 hk0 a c b).2 q) i1 i2 (by
      intro s hs
      rw [oth2_sc] at hs
      obtain ⟨g, hg, rfl⟩ := List.mem_map.1 hs
      exact (near_off (h.vert hg) (hbig g hg)).1) (by
      intro s hs
      rw [oth2_sc] at hs
      obtain ⟨g, hg, rfl⟩ := List.mem_map.1 hs
      exact (near_off (h.vert hg) (hbig g hg)).2)
  have h2 : VR ((p1 ++ [a]) ++ b :: c :: p2) := by simpa using h
  rw [h.lh_spots (mid_ins hab) (near_insS hab hk)]
  have n2 := near_insS (Ne.symm hbc) hk
  rw [h2.lh_spots (mid_ins hbc) (m' := (nrP k b (c.1 - b.1, c.2 - b.2), k)) ⟨n2.w, has_swap.1 n2.on, n2.nb, n2.na⟩]
  have e1 := lh_sc hk0 p1 a b (c :: p2) (nrP k b (a.1 - b.1, a.2 - b.2)) 1
  have e2 := lh_sc hk0 (p1 ++ [a]) b c p2 (nrP k b (c.1 - b.1, c.2 - b.2)) 1
  rw [Int.mul_one] at e1 e2
  rw [← e1, ← e2]
  rw [scR_append, scR_cons]
  exact key
def LhI (r : Ring) (i : Nat) : Bool := Lh (r.take i) (ptAt r i) (ptAt r (i + 1)) (r.drop (i + 2)) (midOf (ptAt r i) (ptAt r (i + 1)))
theorem split_at {r : Ring} {i : Nat} (h : i + 1 < r.length) : r = r.take i ++ ptAt r i :: ptAt r (i + 1) :: r.drop (i + 2) := by
  have e1 : r.drop i = r[i] :: r.drop (i + 1) := List.drop_eq_getElem_cons (by omega)
  have e2 : r.drop (i + 1) = r[i + 1] :: r.drop (i + 2) := List.drop_eq_getElem_cons h
  have p1 : ptAt r i = r[i] := by unfold ptAt; rw [List.getD_eq_getElem?_getD, List.getElem?_eq_getElem (by omega)]; rfl
  have p2 : ptAt r (i + 1) = r[i + 1] := by unfold ptAt; rw [List.getD_eq_getElem?_getD, List.getElem?_eq_getElem h]; rfl
  conv => lhs; rw [← List.take_append_drop i r, e1, e2]
  rw [p1, p2]
theorem VR.lhI_next {r : Ring} (h : VR r) {i : Nat} (hi : i + 2 < r.length) : LhI r i = LhI r (i + 1) := by
  have e := split_at (r := r) (i := i) (by omega)
  have e2 : r.drop (i + 2) = ptAt r (i + 2) :: r.drop (i + 3) := by
    have : r.drop (i + 2) = r[i + 2] :: r.drop (i + 3) := List.drop_eq_getElem_cons hi
    rw [this]
    congr 1
    unfold ptAt; rw [List.getD_eq_getElem?_getD, List.getElem?_eq_getElem hi]; rfl
  have h' : VR (r.take i ++ ptAt r i :: ptAt r (i + 1) :: ptAt r (i + 2) :: r.drop (i + 3)) := by rw [← e2, ← e]; exact h
  have key := h'.lh_next
  unfold LhI
  rw [e2, key]
  congr 1
  have : r.take (i + 1) = r.take i ++ [ptAt r i] := by
    rw [List.take_succ, ptAt_get (by omega)]; rfl
  rw [this]
theorem VR.lhI_all {r : Ring} (h : VR r) : ∀ i, i + 1 < r.length → LhI r i = LhI r 0 := by
  intro i
  induction i with
  | zero => intro _; rfl
  | succ i ih => intro hi; rw [← h.lhI_next hi, ih (by omega)]
end Vd
end Go.Proofs.YtcclepohmhdpbabGreatDoor

namespace Go.Proofs.YtcclepohmhdpbabGreatDoor
set_option linter.all false
namespace Vd
def xx (u v : Pnt) : Int := u.1 * v.2 - u.2 * v.1
def dd (u v : Pnt) : Int := u.1 * v.1 + u.2 * v.2
def Par (u v : Pnt) : Prop := xx u v = 0 ∧ 0 < dd u v
def Bt (u w a : Pnt) : Prop := (xx u a < 0 ∧ 0 < xx w a ∧ xx u w < 0) ∨ (0 < xx u a ∧ xx w a < 0 ∧ 0 < xx u w)
def Lt (a1 a2 u : Pnt) : Prop := if 0 < xx a2 a1 then 0 < xx u a1 ∧ 0 < xx a2 u else 0 < xx u a1 ∨ 0 < xx a2 u
instance (u w a : Pnt) : Decidable (Bt u w a) := by unfold Bt; infer_instance
instance (a b u : Pnt) : Decidable (Lt a b u) := by unfold Lt; infer_instance
theorem xx_swap (u v : Pnt) : xx u v = - xx v u := by unfold xx; grind
def S3 : List Int := [-1, 0, 1]
theorem sg_in (x : Int) : sg x ∈ S3 := by unfold sg S3; split <;> (try split) <;> simp
theorem sg_p (x : Int) : 0 < sg x ↔ 0 < x := by unfold sg; split <;> (try split) <;> omega
theorem sg_n (x : Int) : sg x < 0 ↔ x < 0 := by unfold sg; split <;> (try split) <;> omega
theorem sgm (x : Int) : sg (-x) = - sg x := by unfold sg; split <;> split <;> (try split) <;> (try split) <;> omega
theorem sg_1 {x : Int} (h : 0 < x) : sg x = 1 := by unfold sg; rw [if_pos h]
theorem sg_m1 {x : Int} (h : x < 0) : sg x = -1 := by unfold sg; rw [if_neg (by omega), if_pos h]
theorem sg_0 : sg 0 = 0 := rfl
theorem sg_mul2 (x y : Int) : sg (x * y) = sg x * sg y := by
  rcases Int.lt_trichotomy x 0 with h | h | h
  · rcases Int.lt_trichotomy y 0 with k | k | k
    · rw [sg_1 (nng h k), sg_m1 h, sg_m1 k]; rfl
    · rw [k, Int.mul_zero, sg_0, Int.mul_zero]
    · rw [sg_m1 (np h k), sg_m1 h, sg_1 k]; rfl
  · rw [h, Int.zero_mul, sg_0, Int.zero_mul]
  · rcases Int.lt_trichotomy y 0 with k | k | k
    · rw [sg_m1 (pn h k), sg_1 h, sg_m1 k]; rfl
    · rw [k, Int.mul_zero, sg_0, Int.mul_zero]
    · rw [sg_1 (pp h k), sg_1 h, sg_1 k]; rfl
def okP (s p q : Int) : Bool := (!(decide (0 < p ∧ q ≤ 0)) || decide (0 < s)) && (!(decide (0 ≤ p ∧ q < 0)) || decide (0 < s)) && (!(decide (p < 0 ∧ 0 ≤ q)) || decide (s < 0)) && (!(decide (p ≤ 0 ∧ 0 < q)) || decide (s < 0)) && (!(decide (p = 0 ∧ q = 0)) || decide (s = 0))
def okZ (al om p1 q1 p2 q2 : Int) : Bool := (!(decide (p1 = 0)) || decide (p2 = -al ∧ om = q1)) && (!(decide (p2 = 0)) || decide (p1 = -al ∧ om = -q2)) && (!(decide (q1 = 0)) || decide (q2 = -al ∧ om = -p1)) && (!(decide (q2 = 0)) || decide (q1 = -al ∧ om = p2)) && (!(decide (al = 0)) || decide (p1 = p2 ∧ q1 = q2)) && (!(decide (om = 0)) || decide (p1 = -q1 ∧ p2 = -q2))
def sL (al p1 p2 : Int) : Bool := if 0 < al then decide (0 < p1) && decide (0 < p2) else decide (0 < p1) || decide (0 < p2)
def sB (p q om : Int) : Bool := (decide (p < 0) && decide (0 < q) && decide (om < 0)) || (decide (0 < p) && decide (q < 0) && decide (0 < om))
def chk (al om p1 q1 p2 q2 : Int) : Bool := !(okP (al * om) (p1 * q2) (q1 * p2) && okZ al om p1 q1 p2 q2) ||
  ((decide (om = 0) || ((sB p1 q1 om ^^ sB (-p2) (-q2) om) == (sL al p1 p2 ^^ sL al q1 q2))) && ((sL al p1 p2 ^^ sL al q1 q2) == (sL (-om) (-p1) q1 ^^ sL (-om) p2 (-q2))))
theorem chk_all : (S3.all fun al => S3.all fun om => S3.all fun p1 => S3.all fun q1 => S3.all fun p2 => S3.all fun q2 => chk al om p1 q1 p2 q2) = true := by decide +kernel
theorem chk_of {al om p1 q1 p2 q2 : Int} (h1 : al ∈ S3) (h2 : om ∈ S3) (h3 : p1 ∈ S3) (h4 : q1 ∈ S3) (h5 : p2 ∈ S3) (h6 : q2 ∈ S3) : chk al om p1 q1 p2 q2 = true :=
  List.all_eq_true.1 (List.all_eq_true.1 (List.all_eq_true.1 (List.all_eq_true.1 (List.all_eq_true.1 (List.all_eq_true.1 chk_all al h1) om h2) p1 h3) q1 h4) p2 h5) q2 h6
theorem okP_of {s p q : Int} (e : s = p - q) : okP (sg s) (sg p) (sg q) = true := by
  unfold okP
  have a1 := sg_p s; have a2 := sg_n s; have b1 := sg_p p; have b2 := sg_n p; have c1 := sg_p q; have c2 := sg_n q
  simp only [Bool.and_eq_true, Bool.or_eq_true, Bool.not_eq_true', decide_eq_false_iff_not, decide_eq_true_eq]
  omega
theorem dd_pos {u : Pnt} (h : u ≠ (0, 0)) : 0 < dd u u := by
  unfold dd
  have h1 := sq_nn u.1
  have h2 := sq_nn u.2
  rcases Int.lt_or_eq_of_le (Int.add_nonneg h1 h2) with g | g
  · exact g
  · exfalso
    apply h
    have e1 : u.1 * u.1 = 0 := by omega
    have e2 : u.2 * u.2 = 0 := by omega
    exact Prod.ext ((Int.mul_eq_zero.1 e1).elim id id) ((Int.mul_eq_zero.1 e2).elim id id)
theorem anti_dd {u a : Pnt} (hu : u ≠ (0, 0)) (ha : a ≠ (0, 0)) (h0 : xx u a = 0) (hn : ¬ Par u a) : dd u a < 0 := by
  have e : dd u a * dd u a = dd u u * dd a a := by unfold dd xx at *; grind
  have := pp (dd_pos hu) (dd_pos ha)
  rcases Int.lt_trichotomy (dd u a) 0 with g | g | g
  · exact g
  · rw [g] at e; omega
  · exact absurd ⟨h0, g⟩ hn
theorem anti_x {u a : Pnt} (hu : u ≠ (0, 0)) (ha : a ≠ (0, 0)) (h0 : xx u a = 0) (hn : ¬ Par u a) (v : Pnt) : sg (xx v u) = - sg (xx v a) := by
  have hd := anti_dd hu ha h0 hn
  have hp := dd_pos ha
  have e : dd a a * xx v u = dd u a * xx v a := by unfold dd xx at *; grind
  have k : sg (dd a a * xx v u) = sg (dd u a * xx v a) := by rw [e]
  rw [sg_mul2, sg_mul2] at k
  have k1 : sg (dd a a) = 1 := sg_1 hp
  have k2 : sg (dd u a) = -1 := sg_m1 hd
  rw [k1, k2] at k
  omega
structure Four (a1 a2 u w : Pnt) : Prop where
  n1 : a1 ≠ (0, 0)
  n2 : a2 ≠ (0, 0)
  nu : u ≠ (0, 0)
  nw : w ≠ (0, 0)
  aa : ¬ Par a1 a2
  u1 : ¬ Par u a1
  u2 : ¬ Par u a2
  w1 : ¬ Par w a1
  w2 : ¬ Par w a2
theorem Par.symm {u v : Pnt} (h : Par u v) : Par v u := ⟨by rw [xx_swap, h.1]; rfl, by have := h.2; unfold dd at *; grind⟩
theorem four_chk {a1 a2 u w : Pnt} (h : Four a1 a2 u w) (huw : ¬ Par u w) : chk (sg (xx a2 a1)) (sg (xx u w)) (sg (xx u a1)) (sg (xx w a1)) (sg (xx a2 u)) (sg (xx a2 w)) = true ∧ okP (sg (xx a2 a1) * sg (xx u w)) (sg (xx u a1) * sg (xx a2 w)) (sg (xx w a1) * sg (xx a2 u)) = true ∧ okZ (sg (xx a2 a1)) (sg (xx u w)) (sg (xx u a1)) (sg (xx w a1)) (sg (xx a2 u)) (sg (xx a2 w)) = true := by
  refine ⟨chk_of (sg_in _) (sg_in _) (sg_in _) (sg_in _) (sg_in _) (sg_in _), ?_, ?_⟩
  · rw [← sg_mul2, ← sg_mul2, ← sg_mul2]
    exact okP_of (by unfold xx; grind)
  · have z : ∀ x : Int, sg x = 0 → x = 0 := fun x hx => (sg_zero x).1 hx
    have sw : ∀ p q : Pnt, sg (xx p q) = - sg (xx q p) := fun p q => by rw [xx_swap, sgm]
    unfold okZ
    simp only [Bool.and_eq_true, Bool.or_eq_true, Bool.not_eq_true', decide_eq_false_iff_not, decide_eq_true_eq]
    refine ⟨⟨⟨⟨⟨?_, ?_⟩, ?_⟩, ?_⟩, ?_⟩, ?_⟩
    · by_cases e : sg (xx u a1) = 0
      · right
        have k := anti_x h.nu h.n1 (z _ e) h.u1
        have k1 := k a2
        have k2 := k w
        have s1 := sw u w
        exact ⟨k1, by omega⟩
      · exact .inl e
    · by_cases e : sg (xx a2 u) = 0
      · right
        have k := anti_x h.nu h.n2 (by rw [xx_swap, z _ e]; rfl) h.u2
        have k1 := k a1
        have k2 := k w
        have s1 := sw u a1
        have s2 := sw a2 a1
        have s3 := sw u w
        have s4 := sw a2 w
        exact ⟨by omega, by omega⟩
      · exact .inl e
    · by_cases e : sg (xx w a1) = 0
      · right
        have k := anti_x h.nw h.n1 (z _ e) h.w1
        have k1 := k a2
        have k2 := k u
        exact ⟨by omega, by omega⟩
      · exact .inl e
    · by_cases e : sg (xx a2 w) = 0
      · right
        have k := anti_x h.nw h.n2 (by rw [xx_swap, z _ e]; rfl) h.w2
        have k1 := k a1
        have k2 := k u
        have s1 := sw w a1
        have s2 := sw a2 a1
        have s3 := sw a2 u
        exact ⟨by omega, by omega⟩
      · exact .inl e
    · by_cases e : sg (xx a2 a1) = 0
      · right
        have k := anti_x h.n1 h.n2 (by rw [xx_swap, z _ e]; rfl) h.aa
        have k1 := k u
        have k2 := k w
        have s1 := sw a2 u
        have s2 := sw a2 w
        exact ⟨by omega, by omega⟩
      · exact .inl e
    · by_cases e : sg (xx u w) = 0
      · right
        have k := anti_x h.nu h.nw (z _ e) huw
        have k1 := k a1
        have k2 := k a2
        have s1 := sw u a1
        have s2 := sw w a1
        exact ⟨by omega, by omega⟩
      · exact .inl e
theorem sL_lt (a1 a2 u : Pnt) : sL (sg (xx a2 a1)) (sg (xx u a1)) (sg (xx a2 u)) = decide (Lt a1 a2 u) := by
  apply Bool.eq_iff_iff.2
  rw [decide_eq_true_eq]
  unfold sL Lt
  have h1 := sg_p (xx a2 a1); have h2 := sg_p (xx u a1); have h3 := sg_p (xx a2 u)
  by_cases e : 0 < xx a2 a1
  · rw [if_pos (h1.2 e), if_pos e]
    simp only [h2, h3, Bool.and_eq_true, decide_eq_true_eq]
  · rw [if_neg (fun k => e (h1.1 k)), if_neg e]
    simp only [h2, h3, Bool.or_eq_true, decide_eq_true_eq]
theorem sB_bt (u w a : Pnt) : sB (sg (xx u a)) (sg (xx w a)) (sg (xx u w)) = decide (Bt u w a) := by
  apply Bool.eq_iff_iff.2
  rw [decide_eq_true_eq]
  unfold sB Bt
  simp only [sg_p, sg_n, Bool.or_eq_true, Bool.and_eq_true, decide_eq_true_eq, and_assoc]
theorem left_bt {a1 a2 u w : Pnt} (h : Four a1 a2 u w) (hx : xx u w ≠ 0) : (decide (Bt u w a1) ^^ decide (Bt u w a2)) = (decide (Lt a1 a2 u) ^^ decide (Lt a1 a2 w)) := by
  obtain ⟨h1, h2, h3⟩ := four_chk h (fun p => hx p.1)
  unfold chk at h1
  rw [h2, h3] at h1
  have hz : ¬ sg (xx u w) = 0 := fun e => hx ((sg_zero _).1 e)
  simp only [Bool.and_true, Bool.not_true, Bool.false_or, Bool.and_eq_true, Bool.or_eq_true, decide_eq_true_eq, beq_iff_eq, hz, false_or] at h1
  have k := h1.1
  rw [← sgm, ← sgm, ← xx_swap u a2, ← xx_swap w a2, sB_bt, sB_bt, sL_lt, sL_lt] at k
  exact k
theorem left_sym {a1 a2 u w : Pnt} (h : Four a1 a2 u w) (huw : ¬ Par u w) : (decide (Lt a1 a2 u) ^^ decide (Lt a1 a2 w)) = (decide (Lt u w a1) ^^ decide (Lt u w a2)) := by
  obtain ⟨h1, h2, h3⟩ := four_chk h huw
  unfold chk at h1
  rw [h2, h3] at h1
  simp only [Bool.and_true, Bool.not_true, Bool.false_or, Bool.and_eq_true, beq_iff_eq] at h1
  have k := h1.2
  rw [← sgm, ← sgm, ← sgm, ← xx_swap w u, ← xx_swap a1 u, ← xx_swap w a2, sL_lt, sL_lt, sL_lt, sL_lt] at k
  exact k
end Vd
end Go.Proofs.YtcclepohmhdpbabGreatDoor

namespace Go.Proofs.YtcclepohmhdpbabGreatDoor
set_option linter.all false
namespace Vd
def evF (f : Pnt → Bool) (S : List Seg) : Bool := S.foldr (fun s b => (f s.1 ^^ f s.2) ^^ b) false
def Ev (S : List Seg) : Prop := ∀ f : Pnt → Bool, evF f S = false
theorem evF_cons (f : Pnt → Bool) (s : Seg) (S : List Seg) : evF f (s :: S) = ((f s.1 ^^ f s.2) ^^ evF f S) := rfl
theorem evF_chain (f : Pnt → Bool) : ∀ (t : Ring) (a : Pnt), evF f (segs (a :: t)) = (f a ^^ f ((a :: t).getLast (by simp))) := by
  intro t
  induction t with
  | nil => intro a; simp [segs_one, evF]
  | cons b t ih =>
    intro a
    have k := ih b
    rw [segs_cons2, evF_cons, List.getLast_cons (by simp), k]
    simp only
    clear k ih
    generalize f a = x
    generalize f b = y
    generalize f ((b :: t).getLast (by simp)) = z
    cases x <;> cases y <;> cases z <;> rfl
theorem ev_ring {r : Ring} (h : Ends r) : Ev (segs r) := by
  intro f
  cases r with
  | nil => rfl
  | cons a t =>
    rw [evF_chain]
    have e : (a :: t).getLast (by simp) = a := by
      have := h
      unfold Ends at this
      rw [List.getLast?_eq_some_getLast (by simp)] at this
      simpa using this.symm
    rw [e]; simp
theorem xor_perm {α : Type} (f : α → Bool) {S T : List α} (h : S.Perm T) : S.foldr (fun s b => f s ^^ b) false = T.foldr (fun s b => f s ^^ b) false := by
  induction h with
  | nil => rfl
  | cons x _ ih => simp only [List.foldr_cons, ih]
  | swap x y l => simp only [List.foldr_cons]; generalize f x = a; generalize f y = b; generalize l.foldr (fun s b => f s ^^ b) false = c; cases a <;> cases b <;> cases c <;> rfl
  | trans _ _ h1 h2 => exact h1.trans h2
theorem ev_perm {S T : List Seg} (h : S.Perm T) (k : Ev S) : Ev T := fun f => by
  have := xor_perm (fun s : Seg => f s.1 ^^ f s.2) h
  have e := k f
  unfold evF at *
  rw [← this]; exact e
theorem rays_perm {S T : List Seg} (h : S.Perm T) (p : Spot) : raysS S p = raysS T p := xor_perm (fun s : Seg => ray s.1 s.2 p.1 p.2) h
theorem rays_evF (p q : Pnt) : ∀ S : List Seg, (∀ s ∈ S, Off p q s.1 s.2) → (raysS S (p, 1) ^^ raysS S (q, 1)) = (xsL S p q ^^ evF (dRs p q) S) := by
  intro S
  induction S with
  | nil => intro _; rfl
  | cons s S ih =>
    intro h
    have h1 := h s (by simp)
    have k := ih fun s hs => h s (by simp [hs])
    have e := edge_any h1.ha h1.hb h1.hp h1.hq
    rw [raysS_cons, raysS_cons, xsL_cons, evF_cons]
    simp only at e ⊢
    revert e k
    generalize ray s.1 s.2 p 1 = x1
    generalize ray s.1 s.2 q 1 = x2
    generalize raysS S (p, 1) = x3
    generalize raysS S (q, 1) = x4
    generalize xsL S p q = x5
    generalize decide (Xs p q s.1 s.2) = x6
    generalize dRs p q s.1 = x7
    generalize dRs p q s.2 = x8
    generalize evF (dRs p q) S = x9
    revert x1 x2 x3 x4 x5 x6 x7 x8 x9
    decide
theorem rays_ev {S : List Seg} (hS : Ev S) {p q : Pnt} (h : ∀ s ∈ S, Off p q s.1 s.2) : (raysS S (p, 1) ^^ raysS S (q, 1)) = xsL S p q := by
  rw [rays_evF p q S h, hS]; simp
theorem dxor {P Q R : Prop} [Decidable P] [Decidable Q] [Decidable R] (h : P ↔ ¬ (Q ↔ R)) : decide P = (decide Q ^^ decide R) := by
  by_cases p : P <;> by_cases q : Q <;> by_cases r : R <;> simp_all
theorem ins_parts {a b z : Pnt} (hab : a ≠ b) (h : Ins a b z) (p : Pnt) : kk a b * cr a z p 1 = pos a b z * cr a b p 1 ∧ kk a b * cr z b p 1 = (kk a b - pos a b z) * cr a b p 1 := by
  have h0 := h.on.1
  have h1 := cr_dir (a := a) (b := b) (p := a) (q := z) (cr_a a b) h0 p
  have h2 := cr_dir (a := a) (b := b) (p := z) (q := b) h0 (cr_b a b) p
  rw [pos_a] at h1
  rw [pos_b] at h2
  exact ⟨by rw [h1]; grind, h2⟩
theorem ray_cut {a b z p : Pnt} (hab : a ≠ b) (h : Ins a b z) (hp : ¬ has a b p 1) : ray a b p 1 = (ray a z p 1 ^^ ray z b p 1) := by
  obtain ⟨e1, e2⟩ := ins_parts hab h p
  obtain ⟨q1, q2⟩ := ins_pos hab h
  have hk : 0 < kk a b := by omega
  have s1 : (0 < cr a z p 1 ↔ 0 < cr a b p 1) ∧ (cr a z p 1 < 0 ↔ cr a b p 1 < 0) := by
    have k1 := sgn_of hk e1
    have k2 := sgn_of q1 (rfl : pos a b z * cr a b p 1 = _)
    exact ⟨k1.1.trans k2.1.symm, k1.2.1.trans k2.2.1.symm⟩
  have s2 : (0 < cr z b p 1 ↔ 0 < cr a b p 1) ∧ (cr z b p 1 < 0 ↔ cr a b p 1 < 0) := by
    have k1 := sgn_of hk e2
    have k2 := sgn_of (show 0 < kk a b - pos a b z by omega) (rfl : (kk a b - pos a b z) * cr a b p 1 = _)
    exact ⟨k1.1.trans k2.1.symm, k1.2.1.trans k2.2.1.symm⟩
  have y := ins_y hab h
  rw [ray_one, ray_one, ray_one]
  have g1 : (0 < cr a z p 1) = (0 < cr a b p 1) := propext s1.1
  have g2 : (cr a z p 1 < 0) = (cr a b p 1 < 0) := propext s1.2
  have g3 : (0 < cr z b p 1) = (0 < cr a b p 1) := propext s2.1
  have g4 : (cr z b p 1 < 0) = (cr a b p 1 < 0) := propext s2.2
  simp only [g1, g2, g3, g4]
  generalize cr a b p 1 = c
  apply dxor
  omega
end Vd
end Go.Proofs.YtcclepohmhdpbabGreatDoor

namespace Go.Proofs.YtcclepohmhdpbabGreatDoor
set_option linter.all false
namespace Vd
theorem has_of_pos {a b p q c : Pnt} (hab : a ≠ b) (hp : cr a b p 1 = 0) (hq : cr a b q 1 = 0) (hc : cr a b c 1 = 0) (h1 : pos a b p ≤ pos a b c) (h2 : pos a b c ≤ pos a b q) : has p q c 1 := by
  have hk := kk_pos hab
  have e := cr_dir hp hq c
  obtain ⟨l1, l2⟩ := dir_lin hp hc
  obtain ⟨m1, m2⟩ := dir_lin hc hq
  rw [hc, Int.mul_zero] at e
  have bt : ∀ {P C Q d : Int}, kk a b * (C - P) = (pos a b c - pos a b p) * d → kk a b * (Q - C) = (pos a b q - pos a b c) * d → btw (P * 1) C (Q * 1) := by
    intro P C Q d f1 f2
    rw [Int.mul_one, Int.mul_one]
    have g1 := sgn_of hk f1
    have g2 := sgn_of hk f2
    unfold btw
    rcases Int.le_total 0 d with hd | hd
    · have k1 := p0 (show 0 ≤ pos a b c - pos a b p by omega) hd
      have k2 := p0 (show 0 ≤ pos a b q - pos a b c by omega) hd
      left; omega
    · have k1 := m0 (show 0 ≤ pos a b c - pos a b p by omega) hd
      have k2 := m0 (show 0 ≤ pos a b q - pos a b c by omega) hd
      right; omega
  refine ⟨?_, bt l1 m1, bt l2 m2⟩
  rcases Int.mul_eq_zero.1 e with g | g
  · omega
  · exact g
theorem cut_has2 {a b z p : Pnt} (hab : a ≠ b) (h : Ins a b z) (hp : has a b p 1) : has a z p 1 ∨ has z b p 1 := by
  obtain ⟨h1, h2⟩ := pos_le hab hp
  rcases Int.le_total (pos a b p) (pos a b z) with g | g
  · left; exact has_of_pos hab (cr_a a b) h.on.1 hp.1 (by rw [pos_a]; exact h1) g
  · right; exact has_of_pos hab h.on.1 (cr_b a b) hp.1 g (by rw [pos_b]; exact h2)
def wy (z y : Pnt) : Pnt := (y.1 - z.1, y.2 - z.2)
theorem wy_ne {z y : Pnt} (h : y ≠ z) : wy z y ≠ (0, 0) := fun e => h (Prod.ext (by have := congrArg Prod.fst e; simp only [wy] at this; omega) (by have := congrArg Prod.snd e; simp only [wy] at this; omega))
structure Spl (r : Ring) (z y x : Pnt) (O : List Seg) : Prop where
  sp : (segs r).Perm ((y, z) :: (z, x) :: O) ∨ ((segs r).Perm ((y, x) :: O) ∧ Ins y x z)
  ny : y ≠ z
  nx : x ≠ z
  nb : ¬ Par (wy z y) (wy z x)
  off : ∀ s ∈ O, ¬ has s.1 s.2 z 1
theorem ins_ne {a b z : Pnt} (h : Ins a b z) : a ≠ b := fun e => by
  subst e
  have h1 := h.on.2.1; have h2 := h.on.2.2
  unfold btw at h1 h2
  exact h.na (Prod.ext (by omega) (by omega))
theorem Spl.ev {r : Ring} {z y x : Pnt} {O : List Seg} (h : Spl r z y x O) (he : Ends r) : Ev ((y, z) :: (z, x) :: O) := by
  rcases h.sp with k | ⟨k, -⟩
  · exact ev_perm k (ev_ring he)
  · intro f
    have e := ev_perm k (ev_ring he) f
    rw [evF_cons] at e
    rw [evF_cons, evF_cons]
    simp only at e ⊢
    revert e
    generalize f y = a
    generalize f x = b
    generalize f z = c
    generalize evF f O = d
    revert a b c d
    decide
theorem Spl.free {r : Ring} {z y x : Pnt} {O : List Seg} (h : Spl r z y x O) {p : Pnt} (hp : ∀ s ∈ (y, z) :: (z, x) :: O, ¬ has s.1 s.2 p 1) : ∀ s ∈ segs r, ¬ has s.1 s.2 p 1 := by
  intro s hs
  rcases h.sp with k | ⟨k, hi⟩
  · exact hp s (k.mem_iff.1 hs)
  · rcases List.mem_cons.1 (k.mem_iff.1 hs) with rfl | hs
    · intro q
      rcases cut_has2 (ins_ne hi) hi q with q | q
      · exact hp (y, z) (by simp) q
      · exact hp (z, x) (by simp) q
    · exact hp s (by simp [hs])
theorem Spl.rays {r : Ring} {z y x : Pnt} {O : List Seg} (h : Spl r z y x O) {p : Pnt} (hp : ∀ s ∈ segs r, ¬ has s.1 s.2 p 1) : raysS (segs r) (p, 1) = raysS ((y, z) :: (z, x) :: O) (p, 1) := by
  rcases h.sp with k | ⟨k, hi⟩
  · exact rays_perm k _
  · rw [rays_perm k, raysS_cons, raysS_cons, raysS_cons]
    have := ray_cut (ins_ne hi) hi (hp (y, x) (k.mem_iff.2 (by simp)))
    simp only at this ⊢
    rw [this, Bool.xor_assoc]
theorem wy_sc (k : Int) (z y : Pnt) : wy (sc k z) (sc k y) = sc k (wy z y) := by unfold wy sc; simp only; rw [Int.mul_sub, Int.mul_sub]
theorem par_sc {k : Int} (hk : 0 < k) {u v : Pnt} : Par (sc k u) (sc k v) ↔ Par u v := by
  have e1 : xx (sc k u) (sc k v) = k * k * xx u v := by unfold xx sc; grind
  have e2 : dd (sc k u) (sc k v) = k * k * dd u v := by unfold dd sc; grind
  have hkk := pp hk hk
  unfold Par
  rw [e1, e2]
  have s2 := sgn_of hkk (rfl : k * k * dd u v = _)
  have s1 := sgn_of hkk (rfl : k * k * xx u v = _)
  rw [← s1.2.2, ← s2.1]
theorem Spl.scl {r : Ring} {z y x : Pnt} {O : List Seg} (h : Spl r z y x O) {k : Int} (hk : 0 < k) : Spl (scR k r) (Vd.sc k z) (Vd.sc k y) (Vd.sc k x) (O.map (scS k)) := by
  refine ⟨?_, fun e => h.ny ((sc_inj hk).1 e), fun e => h.nx ((sc_inj hk).1 e), ?_, ?_⟩
  · rw [segs_sc]
    rcases h.sp with g | ⟨g, hi⟩
    · exact .inl (g.map _)
    · exact .inr ⟨g.map _, (has_sc1 hk _ _ _).2 hi.on, fun e => hi.na ((sc_inj hk).1 e), fun e => hi.nb ((sc_inj hk).1 e)⟩
  · rw [wy_sc, wy_sc, par_sc hk]; exact h.nb
  · intro s hs
    obtain ⟨t, ht, rfl⟩ := List.mem_map.1 hs
    exact fun q => h.off t ht ((has_sc1 hk _ _ _).1 q)
theorem cr_uw (k : Int) (z u w : Pnt) : cr (nrP k z u) (nrP k z w) (sc k z) 1 = xx u w := by unfold cr nrP sc xx; grind
theorem cr_uwy (k : Int) (z u w y : Pnt) : cr (nrP k z u) (nrP k z w) (sc k y) 1 = k * (xx w (wy z y) - xx u (wy z y)) + xx u w := by unfold cr nrP sc xx wy; grind
theorem cr_br (k : Int) (z u y : Pnt) : cr (sc k y) (sc k z) (nrP k z u) 1 = k * xx u (wy z y) := by unfold cr nrP sc xx wy; grind
theorem br_off {z y u : Pnt} (hy : y ≠ z) (hu : u ≠ (0, 0)) (hn : ¬ Par u (wy z y)) {k : Int} (hk : 0 < k) : ¬ has (sc k y) (sc k z) (nrP k z u) 1 := by
  intro h
  have h0 := h.1
  rw [cr_br] at h0
  have hx : xx u (wy z y) = 0 := by rcases Int.mul_eq_zero.1 h0 with g | g; omega; exact g
  have hd := anti_dd hu (wy_ne hy) hx hn
  have b1 := h.2.1
  have b2 := h.2.2
  unfold nrP sc btw at b1 b2
  simp only [Int.mul_one] at b1 b2
  have f : ∀ {t v : Int}, (k * (v) ≤ t ∧ t ≤ 0) ∨ (0 ≤ t ∧ t ≤ k * v) → 0 ≤ t * v := by
    intro t v h
    rcases Int.lt_trichotomy v 0 with g | g | g
    · have := pn hk g
      exact q0 (by omega) (by omega)
    · subst g; simp
    · have := pp hk g
      exact p0 (by omega) (by omega)
  have e1 : k * (y.1 - z.1) = k * y.1 - k * z.1 := by grind
  have e2 : k * (y.2 - z.2) = k * y.2 - k * z.2 := by grind
  have c1 := f (t := u.1) (v := y.1 - z.1) (by rw [e1]; omega)
  have c2 := f (t := u.2) (v := y.2 - z.2) (by rw [e2]; omega)
  unfold dd wy at hd
  simp only at hd
  omega
theorem xs_ends {p q a b : Pnt} : Xs p q b a ↔ Xs p q a b := by
  unfold Xs
  rw [cr_swap a b p 1, cr_swap a b q 1, opp_neg, opp_symm (A := cr p q b 1)]
theorem xs_br {z y u w : Pnt} {k : Int} (hk : 0 < k) (hb : -k < xx u w ∧ xx u w < k) : Xs (nrP k z u) (nrP k z w) (sc k y) (sc k z) ↔ Bt u w (wy z y) := by
  unfold Xs Bt
  rw [cr_uw, cr_uwy, cr_br, cr_br]
  generalize xx u (wy z y) = p
  generalize xx w (wy z y) = q
  generalize xx u w = o at *
  have sp := sgn_of hk (rfl : k * p = _)
  have sq := sgn_of hk (rfl : k * q = _)
  unfold Opp
  have e : k * (q - p) = k * q - k * p := by grind
  rw [e]
  have d1 : p < 0 → 0 < q → k * q - k * p ≥ k + k := by
    intro h1 h2
    have a1 := k_step hk h1; have a2 := k_step hk h2
    rw [Int.mul_zero] at a1 a2; omega
  have d2 : 0 < p → q < 0 → k * q - k * p ≤ -(k + k) := by
    intro h1 h2
    have a1 := k_step hk h1; have a2 := k_step hk h2
    rw [Int.mul_zero] at a1 a2; omega
  omega
end Vd
end Go.Proofs.YtcclepohmhdpbabGreatDoor

namespace Go.Proofs.YtcclepohmhdpbabGreatDoor
set_option linter.all false
namespace Vd
def OffR (r : Ring) (p : Spot) : Prop := ∀ s ∈ segs r, ¬ has s.1 s.2 p.1 p.2
def inn (r : Ring) (p : Spot) : Bool := raysS (segs r) p
theorem offR_place {r : Ring} {p : Spot} (h : OffR r p) : place r p = if inn r p = true then 2 else 0 := place_rays h
theorem offR_sc {k : Int} (hk : 0 < k) {r : Ring} {p : Pnt} (h : ∀ s ∈ segs (scR k r), ¬ has s.1 s.2 p 1) : OffR r (p, k) := by
  intro s hs q
  have := h (scS k s) (by rw [segs_sc]; exact List.mem_map_of_mem hs)
  exact this ((has_sc hk s.1 s.2 p 1).2 (by rw [Int.mul_one]; exact q))
theorem inn_sc {k : Int} (hk : 0 < k) (r : Ring) (p : Pnt) : inn r (p, k) = raysS (segs (scR k r)) (p, 1) := by
  unfold inn
  rw [segs_sc, raysS_sc hk, Int.mul_one]
theorem Spl.near0 {r : Ring} {z y x : Pnt} {O : List Seg} (h : Spl r z y x O) (he : Ends r) {u w : Pnt} (hf : Four (wy z y) (wy z x) u w) (hx : xx u w ≠ 0) :
    ∃ K : Int, 2 ≤ K ∧ ∀ k, K ≤ k → OffR r (nrP k z u, k) ∧ OffR r (nrP k z w, k) ∧ (inn r (nrP k z u, k) ^^ inn r (nrP k z w, k)) = (decide (Lt (wy z y) (wy z x) u) ^^ decide (Lt (wy z y) (wy z x) w)) := by
  obtain ⟨K, hK, hbig⟩ := ex_big (fun s => big s u w) ((y, z) :: O)
  refine ⟨K + (xx u w).natAbs + 1, by omega, fun k hk => ?_⟩
  have hk0 : 0 < k := by omega
  have hb : -k < xx u w ∧ xx u w < k := by omega
  obtain ⟨-, u1, u2, w1, w2, -, -⟩ := big_bd (g := (y, z)) (u := u) (v := w) (k := k) (by have := hbig (y, z) (by simp); omega)
  have hs := h.scl hk0
  have hO : ∀ s ∈ O.map (scS k), Off (nrP k z u) (nrP k z w) s.1 s.2 ∧ ¬ Xs (nrP k z u) (nrP k z w) s.1 s.2 := by
    intro s hs
    obtain ⟨t, ht, rfl⟩ := List.mem_map.1 hs
    exact near_off (h.off t ht) (by have := hbig t (by simp [ht]); omega)
  have nz : ¬ has (nrP k z u) (nrP k z w) (sc k z) 1 := fun q => hx (by have := q.1; rwa [cr_uw] at this)
  have o1 : Off (nrP k z u) (nrP k z w) (sc k y) (sc k z) := ⟨near_vert hk0 u1 u2 w1 w2 h.ny, nz, br_off h.ny hf.nu hf.u1 hk0, br_off h.ny hf.nw hf.w1 hk0⟩
  have o2 : Off (nrP k z u) (nrP k z w) (sc k z) (sc k x) := ⟨nz, near_vert hk0 u1 u2 w1 w2 h.nx, fun q => br_off h.nx hf.nu hf.u2 hk0 (has_swap.1 q), fun q => br_off h.nx hf.nw hf.w2 hk0 (has_swap.1 q)⟩
  have hoff : ∀ s ∈ (sc k y, sc k z) :: (sc k z, sc k x) :: O.map (scS k), Off (nrP k z u) (nrP k z w) s.1 s.2 := by
    intro s hs
    rcases List.mem_cons.1 hs with rfl | hs
    · exact o1
    · rcases List.mem_cons.1 hs with rfl | hs
      · exact o2
      · exact (hO s hs).1
  have f1 := hs.free (p := nrP k z u) fun s hs => (hoff s hs).hp
  have f2 := hs.free (p := nrP k z w) fun s hs => (hoff s hs).hq
  refine ⟨offR_sc hk0 f1, offR_sc hk0 f2, ?_⟩
  rw [inn_sc hk0, inn_sc hk0, hs.rays f1, hs.rays f2, rays_ev (hs.ev (ends_sc he)) hoff, xsL_cons, xsL_cons, xsL_none fun s hs => (hO s hs).2]
  simp only
  rw [← left_bt hf hx]
  have b1 := xs_br (z := z) (y := y) (u := u) (w := w) hk0 hb
  have b2 := (xs_ends (p := nrP k z u) (q := nrP k z w) (a := sc k x) (b := sc k z)).trans (xs_br (z := z) (y := x) (u := u) (w := w) hk0 hb)
  have c1 : decide (Xs (nrP k z u) (nrP k z w) (sc k y) (sc k z)) = decide (Bt u w (wy z y)) := decide_eq_decide.2 b1
  have c2 : decide (Xs (nrP k z u) (nrP k z w) (sc k z) (sc k x)) = decide (Bt u w (wy z x)) := decide_eq_decide.2 b2
  rw [c1, c2]
  simp
theorem ex_way {u a b : Pnt} (hu : u ≠ (0, 0)) : ∃ v : Pnt, xx u v ≠ 0 ∧ ¬ Par v a ∧ ¬ Par v b := by
  have hd := dd_pos hu
  have c : ∀ t : Int, xx u (t * u.1 - u.2, t * u.2 + u.1) = dd u u := fun t => by unfold xx dd; grind
  have one : ∀ {s t : Int} {e : Pnt}, s ≠ t → Par (s * u.1 - u.2, s * u.2 + u.1) e → Par (t * u.1 - u.2, t * u.2 + u.1) e → False := by
    intro s t e hst h1 h2
    have k1 := h1.1; have k2 := h2.1; have k3 := h1.2
    have e1 : (s - t) * (dd u e) = dd (s * u.1 - u.2, s * u.2 + u.1) e - dd (t * u.1 - u.2, t * u.2 + u.1) e := by unfold dd; grind
    have e2 : (s - t) * (xx u e) = xx (s * u.1 - u.2, s * u.2 + u.1) e - xx (t * u.1 - u.2, t * u.2 + u.1) e := by unfold xx; grind
    rw [k1, k2] at e2
    have hz : xx u e = 0 := by
      rcases Int.mul_eq_zero.1 (e2.trans (by rfl)) with g | g
      · omega
      · exact g
    have e3 : xx (s * u.1 - u.2, s * u.2 + u.1) e = s * xx u e - dd u e := by unfold xx dd; grind
    rw [hz, Int.mul_zero, k1] at e3
    have hde : dd u e = 0 := by omega
    have e4 : dd u u * dd e e = dd u e * dd u e + xx u e * xx u e := by unfold dd xx; grind
    rw [hde, hz] at e4
    have hee : e ≠ (0, 0) := fun q => by rw [q] at k3; unfold dd at k3; simp at k3
    have := pp hd (dd_pos hee)
    omega
  have nz : ∀ t : Int, xx u (t * u.1 - u.2, t * u.2 + u.1) ≠ 0 := fun t => by rw [c]; omega
  by_cases g0 : Par (0 * u.1 - u.2, 0 * u.2 + u.1) a ∨ Par (0 * u.1 - u.2, 0 * u.2 + u.1) b
  · by_cases g1 : Par (1 * u.1 - u.2, 1 * u.2 + u.1) a ∨ Par (1 * u.1 - u.2, 1 * u.2 + u.1) b
    · refine ⟨(2 * u.1 - u.2, 2 * u.2 + u.1), nz 2, ?_, ?_⟩
      · intro q
        rcases g0 with g0 | g0
        · exact one (by decide) g0 q
        · rcases g1 with g1 | g1
          · exact one (by decide) g1 q
          · exact one (by decide) g0 g1
      · intro q
        rcases g0 with g0 | g0
        · rcases g1 with g1 | g1
          · exact one (by decide) g0 g1
          · exact one (by decide) g1 q
        · exact one (by decide) g0 q
    · exact ⟨_, nz 1, fun q => g1 (.inl q), fun q => g1 (.inr q)⟩
  · exact ⟨_, nz 0, fun q => g0 (.inl q), fun q => g0 (.inr q)⟩
theorem xx_line {u v w : Pnt} (hu : u ≠ (0, 0)) (hw : w ≠ (0, 0)) (h0 : xx u w = 0) (h : xx u v ≠ 0) : xx v w ≠ 0 := by
  intro k
  have e : dd u u * xx v w = dd u w * xx v u + xx u w * dd v u := by unfold dd xx; grind
  rw [h0, k] at e
  have e2 : dd u u * dd w w = dd u w * dd u w + xx u w * xx u w := by unfold dd xx; grind
  rw [h0] at e2
  have hp := pp (dd_pos hu) (dd_pos hw)
  have hv : xx v u ≠ 0 := fun q => h (by rw [xx_swap, q]; rfl)
  have : dd u w = 0 ∨ xx v u = 0 := Int.mul_eq_zero.1 (by omega)
  rcases this with g | g
  · rw [g] at e2; omega
  · exact hv g
theorem Spl.near {r : Ring} {z y x : Pnt} {O : List Seg} (h : Spl r z y x O) (he : Ends r) {u w : Pnt} (hf : Four (wy z y) (wy z x) u w) :
    ∃ K : Int, 2 ≤ K ∧ ∀ k, K ≤ k → OffR r (nrP k z u, k) ∧ OffR r (nrP k z w, k) ∧ (inn r (nrP k z u, k) ^^ inn r (nrP k z w, k)) = (decide (Lt (wy z y) (wy z x) u) ^^ decide (Lt (wy z y) (wy z x) w)) := by
  by_cases hx : xx u w = 0
  · obtain ⟨v, v0, v1, v2⟩ := ex_way (u := u) (a := wy z y) (b := wy z x) hf.nu
    have nv : v ≠ (0, 0) := fun q => v0 (by rw [q]; unfold xx; simp)
    obtain ⟨K1, a1, b1⟩ := h.near0 he (u := u) (w := v) ⟨hf.n1, hf.n2, hf.nu, nv, hf.aa, hf.u1, hf.u2, v1, v2⟩ v0
    obtain ⟨K2, a2, b2⟩ := h.near0 he (u := v) (w := w) ⟨hf.n1, hf.n2, nv, hf.nw, hf.aa, v1, v2, hf.w1, hf.w2⟩ (xx_line hf.nu hf.nw hx v0)
    refine ⟨K1 + K2, by omega, fun k hk => ?_⟩
    obtain ⟨c1, c2, c3⟩ := b1 k (by omega)
    obtain ⟨d1, d2, d3⟩ := b2 k (by omega)
    refine ⟨c1, d2, ?_⟩
    revert c3 d3
    generalize inn r (nrP k z u, k) = x1
    generalize inn r (nrP k z v, k) = x2
    generalize inn r (nrP k z w, k) = x3
    generalize decide (Lt (wy z y) (wy z x) u) = x4
    generalize decide (Lt (wy z y) (wy z x) v) = x5
    generalize decide (Lt (wy z y) (wy z x) w) = x6
    revert x1 x2 x3 x4 x5 x6
    decide
  · exact h.near0 he hf hx
end Vd
end Go.Proofs.YtcclepohmhdpbabGreatDoor

namespace Go.Proofs.YtcclepohmhdpbabGreatDoor
set_option linter.all false
namespace Vd
theorem ins_nb {a b z : Pnt} (h : Ins a b z) : ¬ Par (wy z a) (wy z b) := by
  intro k
  have h1 := h.on.2.1; have h2 := h.on.2.2
  unfold btw at h1 h2
  have f : ∀ {p q t : Int}, (p * 1 ≤ t ∧ t ≤ q * 1) ∨ (q * 1 ≤ t ∧ t ≤ p * 1) → (p - t) * (q - t) ≤ 0 := by
    intro p q t h
    rcases h with h | h
    · exact n0 (by omega) (by omega)
    · exact m0 (by omega) (by omega)
  have e1 := f h1; have e2 := f h2
  have := k.2
  unfold dd wy at this
  simp only at this
  omega
theorem corner_nb {a b c : Pnt} (h : cr a b c 1 ≠ 0 ∨ has a c b 1) : ¬ Par (wy b a) (wy b c) := by
  intro k
  rcases h with h | h
  · apply h
    have := k.1
    unfold xx wy at this
    unfold cr
    grind
  · have h1 := h.2.1; have h2 := h.2.2
    unfold btw at h1 h2
    have f : ∀ {p q t : Int}, (p * 1 ≤ t ∧ t ≤ q * 1) ∨ (q * 1 ≤ t ∧ t ≤ p * 1) → (p - t) * (q - t) ≤ 0 := by
      intro p q t h
      rcases h with h | h
      · exact n0 (by omega) (by omega)
      · exact m0 (by omega) (by omega)
    have e1 := f h1; have e2 := f h2
    have := k.2
    unfold dd wy at this
    simp only at this
    omega
theorem segs_two (p1 : Ring) (a b c : Pnt) (p2 : Ring) : (segs (p1 ++ a :: b :: c :: p2)).Perm ((a, b) :: (b, c) :: oth2 p1 a c p2) := by
  rw [segs_split, segs_cons2]
  unfold oth2
  refine List.perm_middle.trans (List.Perm.cons _ ?_)
  exact List.perm_middle
theorem segs_ends {z c : Pnt} {M : Ring} {a : Pnt} : (segs (z :: c :: M ++ [a, z])).Perm ((a, z) :: (z, c) :: segs (c :: M ++ [a])) := by
  have e : z :: c :: M ++ [a, z] = (z :: c :: M) ++ a :: z :: [] := by simp
  rw [e, segs_split]
  have e2 : segs [z] = [] := segs_one z
  rw [e2]
  have e3 : z :: c :: M ++ [a] = z :: c :: (M ++ [a]) := by simp
  rw [e3, segs_cons2]
  have e4 : c :: M ++ [a] = c :: (M ++ [a]) := by simp
  rw [e4]
  exact List.perm_append_comm.trans (by simp)
theorem VR.split {r : Ring} (h : VR r) {z : Pnt} (hz : place r (z, 1) = 1) : ∃ y x O, Spl r z y x O := by
  obtain ⟨s, hs, hh⟩ := place_one.1 hz
  simp only at hh
  have h4 := h.shut.len
  by_cases hv : z ∈ r
  · obtain ⟨i, hi1, hi, rfl⟩ := place_of h.shut hv
    by_cases hl : i + 1 < r.length
    · have e := split_at (r := r) (i := i - 1) (by omega)
      have e1 : i - 1 + 1 = i := by omega
      have e2 : i - 1 + 2 = i + 1 := by omega
      rw [e1, e2] at e
      have e3 : r.drop (i + 1) = ptAt r (i + 1) :: r.drop (i + 2) := by
        rw [List.drop_eq_getElem_cons hl]
        congr 1
        have := ptAt_get hl
        rw [List.getElem?_eq_getElem hl] at this
        exact Option.some.inj this
      rw [e3] at e
      have h' := h
      rw [e] at h'
      have hb := h'.back
      refine ⟨ptAt r (i - 1), ptAt r (i + 1), oth2 (r.take (i - 1)) (ptAt r (i - 1)) (ptAt r (i + 1)) (r.drop (i + 2)), .inl ?_, h'.here, fun q => h'.next_long q.symm, corner_nb hb, fun s hs => h'.vert hs⟩
      have := segs_two (r.take (i - 1)) (ptAt r (i - 1)) (ptAt r i) (ptAt r (i + 1)) (r.drop (i + 2))
      rwa [← e] at this
    · have hi' : i = r.length - 1 := by omega
      have e0 : ptAt r 0 = ptAt r i := by rw [hi']; exact h.shut.eq
      obtain ⟨c, M, a, er⟩ : ∃ c M a, r = ptAt r i :: c :: M ++ [a, ptAt r i] := by
        refine ⟨ptAt r 1, (r.drop 2).take (r.length - 4), ptAt r (i - 1), ?_⟩
        apply List.ext_getElem?
        intro j
        have g : ∀ j, j < r.length → r[j]? = some (ptAt r j) := fun j hj => ptAt_get hj
        rcases Nat.lt_or_ge j r.length with hj | hj
        · rw [g j hj]
          match j, hj with
          | 0, _ => simp [e0]
          | 1, _ => simp
          | j + 2, hj =>
            simp only [List.cons_append, List.getElem?_cons_succ]
            by_cases q : j < r.length - 4
            · rw [List.getElem?_append_left (by simp; omega), List.getElem?_take, if_pos q, List.getElem?_drop, show 2 + j = j + 2 by omega, g _ hj]
            · rw [List.getElem?_append_right (by simp; omega)]
              have hlM : ((r.drop 2).take (r.length - 4)).length = r.length - 4 := by simp; omega
              rw [hlM]
              by_cases q2 : j = r.length - 4
              · rw [q2]; simp; congr 1; omega
              · have q3 : j = r.length - 3 := by omega
                rw [q3, show r.length - 3 - (r.length - 4) = 1 by omega]; simp; congr 1; omega
        · rw [List.getElem?_eq_none hj, List.getElem?_eq_none]
          simp; omega
      have hc : c = ptAt r 1 := by
        have := ptAt_get (r := r) (i := 1) (by omega)
        rw [er] at this; simp at this; rw [← this.symm]; rw [er]; simp [ptAt]
      have ha : a = ptAt r (i - 1) := by
        have hlen : r.length = M.length + 4 := by rw [er]; simp
        have := ptAt_get (r := r) (i := i - 1) (by omega)
        have e5 : r[i - 1]? = some a := by
          rw [hi', hlen]
          conv => lhs; rw [er]
          rw [show M.length + 4 - 1 - 1 = (ptAt r i :: c :: M).length by simp]
          rw [List.getElem?_append_right (by simp)]
          simp
        rw [e5] at this
        exact Option.some.inj this
      have hadj := h.adj (i := i) hi1 hi
      have hnx : nextI r i = ptAt r 1 := by unfold nextI; rw [if_neg hl]
      rw [hnx, ← hc, ← ha] at hadj
      have s0 : (ptAt r i, c) ∈ segs r := by
        have := List.mem_of_getElem? (segs_at (ptAt_get (r := r) (i := 0) (by omega)) (ptAt_get (r := r) (i := 1) (by omega)))
        rwa [e0, ← hc] at this
      have s1 : (a, ptAt r i) ∈ segs r := by
        have := List.mem_of_getElem? (segs_at (ptAt_get (r := r) (i := i - 1) (by omega)) (ptAt_get (r := r) (i := i - 1 + 1) (by omega)))
        rwa [show i - 1 + 1 = i by omega, ← ha] at this
      have n0 : ptAt r i ≠ c := h.long _ s0
      have n1 : a ≠ ptAt r i := h.long _ s1
      refine ⟨a, c, segs (c :: M ++ [a]), .inl ?_, n1, fun q => n0 q.symm, corner_nb (no_back n1 n0 hadj), ?_⟩
      · have := segs_ends (z := ptAt r i) (c := c) (M := M) (a := a)
        rwa [← er] at this
      · intro s hs hh
        obtain ⟨j, hj⟩ := List.mem_iff_getElem?.1 hs
        have hlen : r.length = M.length + 4 := by rw [er]; simp
        have hjl : j < M.length + 1 := by have := Pl.lt_of_some hj; rw [segs_len] at this; simpa using this
        have hseg : s = (ptAt r (j + 1), ptAt r (j + 2)) := by
          have e6 : ∀ t, t < M.length + 2 → (c :: M ++ [a])[t]? = r[t + 1]? := by
            intro t ht
            conv => rhs; rw [er]
            simp only [List.cons_append, List.getElem?_cons_succ]
            rw [show (M ++ [a, ptAt r i] : Ring) = (M ++ [a]) ++ [ptAt r i] by simp]
            have : c :: (M ++ [a] ++ [ptAt r i]) = (c :: (M ++ [a])) ++ [ptAt r i] := by simp
            rw [this, List.getElem?_append_left (by simp; omega)]
          have f1 := (e6 j (by omega)).trans (ptAt_get (r := r) (i := j + 1) (by omega))
          have f2 := (e6 (j + 1) (by omega)).trans (ptAt_get (r := r) (i := j + 1 + 1) (by omega))
          have := segs_at f1 f2
          rw [hj] at this
          exact Option.some.inj this
        have hm := h.meet (i := 0) (j := j + 1) (by omega) (by omega)
        have hne : meetS (ptAt r 0, ptAt r 1) (ptAt r (j + 1), ptAt r (j + 1 + 1)) ≠ 0 := by
          refine meet_pt (z := ptAt r i) ?_ ?_ ?_ ?_
          · rw [e0, ← hc]; exact n0
          · exact h.long (ptAt r (j + 1), ptAt r (j + 1 + 1)) (List.mem_of_getElem? (segs_at (ptAt_get (by omega)) (ptAt_get (by omega))))
          · rw [e0]; exact has_a _ _
          · rw [hseg] at hh; exact hh
        rw [hm] at hne
        have hj0 : j = 0 := by
          unfold wantI at hne
          split at hne
          · rename_i q; omega
          · exact absurd rfl hne
        subst hj0
        have h3 : meetS (ptAt r 0, ptAt r 1) (ptAt r (0 + 1), ptAt r (0 + 1 + 1)) = 3 := by
          refine meet_two (z := ptAt r i) (z' := ptAt r 1) ?_ ?_ ?_ ?_ ?_ ?_ ?_
          · rw [e0, ← hc]; exact n0
          · exact h.long (ptAt r (0 + 1), ptAt r (0 + 1 + 1)) (List.mem_of_getElem? (segs_at (ptAt_get (by omega)) (ptAt_get (by omega))))
          · rw [← hc]; exact n0
          · rw [e0]; exact has_a _ _
          · rw [hseg] at hh; exact hh
          · exact has_b _ _
          · exact has_a _ _
        rw [h3] at hm
        unfold wantI at hm
        split at hm <;> simp at hm
  · obtain ⟨i, hi⟩ := List.mem_iff_getElem?.1 hs
    have hil : i + 1 < r.length := by have := Pl.lt_of_some hi; rw [segs_len] at this; omega
    have es : s = (ptAt r i, ptAt r (i + 1)) := by
      have := segs_at (ptAt_get (r := r) (i := i) (by omega)) (ptAt_get hil)
      rw [hi] at this
      exact Option.some.inj this
    subst es
    have hins : Ins (ptAt r i) (ptAt r (i + 1)) z := ⟨hh, fun q => hv (q ▸ ptAt_mem (by omega)), fun q => hv (q ▸ ptAt_mem hil)⟩
    have e := split_at (r := r) (i := i) hil
    have h' := h
    rw [e] at h'
    refine ⟨ptAt r i, ptAt r (i + 1), oth (r.take i) (ptAt r i) (ptAt r (i + 1)) (r.drop (i + 2)), .inr ⟨?_, hins⟩, fun q => hins.na q.symm, fun q => hins.nb q.symm, ins_nb hins, fun s hs => h'.off hs hins⟩
    have := segs_split (r.take i) (ptAt r i) (ptAt r (i + 1)) (r.drop (i + 2))
    rw [← e] at this
    rw [this]
    unfold oth
    exact List.perm_middle
end Vd
end Go.Proofs.YtcclepohmhdpbabGreatDoor

namespace Go.Proofs.YtcclepohmhdpbabGreatDoor
set_option linter.all false
namespace Vd
theorem near_none {r : Ring} (he : Ends r) {z : Pnt} (hz : OffR r (z, 1)) (u w : Pnt) :
    ∃ K : Int, 2 ≤ K ∧ ∀ k, K ≤ k → OffR r (nrP k z u, k) ∧ OffR r (nrP k z w, k) ∧ inn r (nrP k z u, k) = inn r (nrP k z w, k) := by
  obtain ⟨K, hK, hbig⟩ := ex_big (fun s => big s u w) (segs r)
  refine ⟨K, hK, fun k hk => ?_⟩
  have hk0 : 0 < k := by omega
  have hO : ∀ s ∈ segs (scR k r), Off (nrP k z u) (nrP k z w) s.1 s.2 ∧ ¬ Xs (nrP k z u) (nrP k z w) s.1 s.2 := by
    intro s hs
    rw [segs_sc] at hs
    obtain ⟨t, ht, rfl⟩ := List.mem_map.1 hs
    exact near_off (hz t ht) (by have := hbig t ht; omega)
  refine ⟨offR_sc hk0 fun s hs => (hO s hs).1.hp, offR_sc hk0 fun s hs => (hO s hs).1.hq, ?_⟩
  have e := rays_ring (ends_sc (k := k) he) fun s hs => (hO s hs).1
  rw [xsL_none fun s hs => (hO s hs).2] at e
  rw [inn_sc hk0, inn_sc hk0]
  revert e
  generalize raysS (segs (scR k r)) (nrP k z u, 1) = a
  generalize raysS (segs (scR k r)) (nrP k z w, 1) = b
  cases a <;> cases b <;> simp
structure Meet2 (A H : Ring) (z y x y' x' : Pnt) (O O' : List Seg) : Prop where
  a : Spl A z y x O
  h : Spl H z y' x' O'
  p1 : ¬ Par (wy z y) (wy z y')
  p2 : ¬ Par (wy z y) (wy z x')
  p3 : ¬ Par (wy z x) (wy z y')
  p4 : ¬ Par (wy z x) (wy z x')
theorem local_sym {A H : Ring} {z y x y' x' : Pnt} {O O' : List Seg} (m : Meet2 A H z y x y' x' O O') (ha : Ends A) (hh : Ends H) :
    ∃ K : Int, 2 ≤ K ∧ ∀ k, K ≤ k → OffR A (nrP k z (wy z y'), k) ∧ OffR A (nrP k z (wy z x'), k) ∧ OffR H (nrP k z (wy z y), k) ∧ OffR H (nrP k z (wy z x), k) ∧
      (inn A (nrP k z (wy z y'), k) ^^ inn A (nrP k z (wy z x'), k)) = (inn H (nrP k z (wy z y), k) ^^ inn H (nrP k z (wy z x), k)) := by
  have f1 : Four (wy z y) (wy z x) (wy z y') (wy z x') := ⟨wy_ne m.a.ny, wy_ne m.a.nx, wy_ne m.h.ny, wy_ne m.h.nx, m.a.nb, fun q => m.p1 q.symm, fun q => m.p3 q.symm, fun q => m.p2 q.symm, fun q => m.p4 q.symm⟩
  have f2 : Four (wy z y') (wy z x') (wy z y) (wy z x) := ⟨wy_ne m.h.ny, wy_ne m.h.nx, wy_ne m.a.ny, wy_ne m.a.nx, m.h.nb, m.p1, m.p2, m.p3, m.p4⟩
  obtain ⟨K1, a1, b1⟩ := m.a.near ha f1
  obtain ⟨K2, a2, b2⟩ := m.h.near hh f2
  refine ⟨K1 + K2, by omega, fun k hk => ?_⟩
  obtain ⟨c1, c2, c3⟩ := b1 k (by omega)
  obtain ⟨d1, d2, d3⟩ := b2 k (by omega)
  exact ⟨c1, c2, d1, d2, by rw [c3, d3]; exact left_sym f1 m.h.nb⟩
theorem par_btw {u v : Pnt} (h : Par u v) : (btw 0 u.1 v.1 ∧ btw 0 u.2 v.2) ∨ (btw 0 v.1 u.1 ∧ btw 0 v.2 u.2) := by
  have hv : v ≠ (0, 0) := fun q => by have := h.2; rw [q] at this; unfold dd at this; simp at this
  have hV := dd_pos hv
  have hD := h.2
  have e1 : dd v v * u.1 = dd u v * v.1 := by have := h.1; unfold dd xx at *; grind
  have e2 : dd v v * u.2 = dd u v * v.2 := by have := h.1; unfold dd xx at *; grind
  generalize dd v v = V at *
  generalize dd u v = D at *
  have f : ∀ {p q : Int}, V * p = D * q → (D ≤ V → btw 0 p q) ∧ (V ≤ D → btw 0 q p) := by
    intro p q e
    have s1 := sgn_of hV e
    have s2 := sgn_of hD (rfl : D * q = _)
    unfold btw
    constructor
    · intro hl
      rcases Int.le_total 0 q with g | g
      · have := Int.mul_le_mul_of_nonneg_right hl g
        have t : V * p ≤ V * q := by omega
        have := Int.le_of_mul_le_mul_left t hV
        left; omega
      · have := Int.mul_le_mul_of_nonpos_right hl g
        have t : V * q ≤ V * p := by omega
        have := Int.le_of_mul_le_mul_left t hV
        right; omega
    · intro hl
      rcases Int.le_total 0 q with g | g
      · have := Int.mul_le_mul_of_nonneg_right hl g
        have t : V * q ≤ V * p := by omega
        have := Int.le_of_mul_le_mul_left t hV
        left; omega
      · have := Int.mul_le_mul_of_nonpos_right hl g
        have t : V * p ≤ V * q := by omega
        have := Int.le_of_mul_le_mul_left t hV
        right; omega
  rcases Int.le_total D V with g | g
  · exact .inl ⟨(f e1).1 g, (f e2).1 g⟩
  · exact .inr ⟨(f e1).2 g, (f e2).2 g⟩
theorem par_has {z y y' : Pnt} (h : Par (wy z y) (wy z y')) : has z y' y 1 ∨ has z y y' 1 := by
  have c1 : cr z y' y 1 = 0 := by have := h.1; unfold xx wy at this; unfold cr; grind
  have c2 : cr z y y' 1 = 0 := by have := h.1; unfold xx wy at this; unfold cr; grind
  rcases par_btw h with ⟨g1, g2⟩ | ⟨g1, g2⟩
  · left
    refine ⟨c1, ?_, ?_⟩
    · unfold btw wy at *; simp only at *; omega
    · unfold btw wy at *; simp only at *; omega
  · right
    refine ⟨c2, ?_, ?_⟩
    · unfold btw wy at *; simp only at *; omega
    · unfold btw wy at *; simp only at *; omega
theorem has_within {a b p q c : Pnt} (hab : a ≠ b) (hp : has a b p 1) (hq : has a b q 1) (hpq : p ≠ q) (h : has p q c 1) : has a b c 1 := by
  obtain ⟨k1, k2⟩ := has_dir hab hpq hp.1 hq.1 h
  obtain ⟨p1, p2⟩ := pos_le hab hp
  obtain ⟨q1, q2⟩ := pos_le hab hq
  exact has_pos hab k1 (by unfold btw at k2; omega) (by unfold btw at k2; omega)
theorem no_par {A H : Ring} (hA : Long A) (hH : Long H) (hx : cross A H = false) {s t : Seg} (hs : s ∈ segs A) (ht : t ∈ segs H) {z y y' : Pnt} (hy : y ≠ z) (hy' : y' ≠ z) (s1 : has s.1 s.2 z 1) (s2 : has s.1 s.2 y 1) (t1 : has t.1 t.2 z 1) (t2 : has t.1 t.2 y' 1) : ¬ Par (wy z y) (wy z y') := by
  intro h
  have : ∃ c, c ≠ z ∧ has s.1 s.2 c 1 ∧ has t.1 t.2 c 1 := by
    rcases par_has h with g | g
    · exact ⟨y, hy, s2, has_within (hH t ht) t1 t2 (fun q => hy' q.symm) g⟩
    · exact ⟨y', hy', has_within (hA s hs) s1 s2 (fun q => hy q.symm) g, t2⟩
  obtain ⟨c, hc, c1, c2⟩ := this
  have m := meet_two (hA s hs) (hH t ht) (fun q => hc q.symm) s1 t1 c1 c2
  have : cross A H = true := by
    unfold cross
    refine List.any_eq_true.2 ⟨s, hs, List.any_eq_true.2 ⟨t, ht, ?_⟩⟩
    unfold crossS meetS
    rw [m]; rfl
  rw [hx] at this; cases this
theorem Spl.seg1 {r : Ring} {z y x : Pnt} {O : List Seg} (h : Spl r z y x O) : ∃ s ∈ segs r, has s.1 s.2 z 1 ∧ has s.1 s.2 y 1 := by
  rcases h.sp with k | ⟨k, hi⟩
  · exact ⟨(y, z), k.mem_iff.2 (by simp), has_b _ _, has_a _ _⟩
  · exact ⟨(y, x), k.mem_iff.2 (by simp), hi.on, has_a _ _⟩
theorem Spl.seg2 {r : Ring} {z y x : Pnt} {O : List Seg} (h : Spl r z y x O) : ∃ s ∈ segs r, has s.1 s.2 z 1 ∧ has s.1 s.2 x 1 := by
  rcases h.sp with k | ⟨k, hi⟩
  · exact ⟨(z, x), k.mem_iff.2 (by simp), has_a _ _, has_b _ _⟩
  · exact ⟨(y, x), k.mem_iff.2 (by simp), hi.on, has_b _ _⟩
theorem meet2_of {A H : Ring} (hA : Long A) (hH : Long H) (hx : cross A H = false) {z y x y' x' : Pnt} {O O' : List Seg} (a : Spl A z y x O) (h : Spl H z y' x' O') : Meet2 A H z y x y' x' O O' := by
  obtain ⟨s1, m1, e1, f1⟩ := a.seg1
  obtain ⟨s2, m2, e2, f2⟩ := a.seg2
  obtain ⟨t1, n1, g1, k1⟩ := h.seg1
  obtain ⟨t2, n2, g2, k2⟩ := h.seg2
  exact ⟨a, h, no_par hA hH hx m1 n1 a.ny h.ny e1 f1 g1 k1, no_par hA hH hx m1 n2 a.ny h.nx e1 f1 g2 k2, no_par hA hH hx m2 n1 a.nx h.ny e2 f2 g1 k1, no_par hA hH hx m2 n2 a.nx h.nx e2 f2 g2 k2⟩
end Vd
end Go.Proofs.YtcclepohmhdpbabGreatDoor

namespace Go.Proofs.YtcclepohmhdpbabGreatDoor
set_option linter.all false
namespace Vd
theorem germ_has {z y : Pnt} {k : Int} (hk : 1 ≤ k) : has (sc k z) (sc k y) (nrP k z (wy z y)) 1 := by
  refine ⟨by unfold cr sc nrP wy; grind, ?_, ?_⟩
  · unfold btw sc nrP wy
    simp only [Int.mul_one]
    have e : k * y.1 - k * z.1 = k * (y.1 - z.1) := by grind
    rcases Int.le_total 0 (y.1 - z.1) with g | g
    · have := Int.mul_le_mul_of_nonneg_right hk g; left; omega
    · have := Int.mul_le_mul_of_nonpos_right hk g; right; omega
  · unfold btw sc nrP wy
    simp only [Int.mul_one]
    have e : k * y.2 - k * z.2 = k * (y.2 - z.2) := by grind
    rcases Int.le_total 0 (y.2 - z.2) with g | g
    · have := Int.mul_le_mul_of_nonneg_right hk g; left; omega
    · have := Int.mul_le_mul_of_nonpos_right hk g; right; omega
theorem germ_seg {s : Seg} (hs : s.1 ≠ s.2) {z y : Pnt} (hy : y ≠ z) (h1 : has s.1 s.2 z 1) (h2 : has s.1 s.2 y 1) {k : Int} (hk : 1 ≤ k) : has s.1 s.2 (nrP k z (wy z y)) k := by
  have hk0 : 0 < k := by omega
  have := has_within (a := sc k s.1) (b := sc k s.2) (fun e => hs ((sc_inj hk0).1 e)) ((has_sc1 hk0 _ _ _).2 h1) ((has_sc1 hk0 _ _ _).2 h2) (fun e => hy ((sc_inj hk0).1 e).symm) (germ_has hk)
  have k2 := (has_sc hk0 s.1 s.2 (nrP k z (wy z y)) 1).1 this
  rwa [Int.mul_one] at k2
theorem Spl.on1 {r : Ring} (hl : Long r) {z y x : Pnt} {O : List Seg} (h : Spl r z y x O) {k : Int} (hk : 1 ≤ k) : place r (nrP k z (wy z y), k) = 1 := by
  obtain ⟨s, hs, h1, h2⟩ := h.seg1
  exact place_one.2 ⟨s, hs, germ_seg (hl s hs) h.ny h1 h2 hk⟩
theorem Spl.on2 {r : Ring} (hl : Long r) {z y x : Pnt} {O : List Seg} (h : Spl r z y x O) {k : Int} (hk : 1 ≤ k) : place r (nrP k z (wy z x), k) = 1 := by
  obtain ⟨s, hs, h1, h2⟩ := h.seg2
  exact place_one.2 ⟨s, hs, germ_seg (hl s hs) h.nx h1 h2 hk⟩
theorem cross_sy {A H : Ring} (h : cross A H = false) : cross H A = false := by
  cases hx : cross H A with
  | false => rfl
  | true =>
    unfold cross at hx
    obtain ⟨t, ht, k⟩ := List.any_eq_true.1 hx
    obtain ⟨s, hs, k⟩ := List.any_eq_true.1 k
    have : cross A H = true := by
      unfold cross
      refine List.any_eq_true.2 ⟨s, hs, List.any_eq_true.2 ⟨t, ht, ?_⟩⟩
      unfold crossS at *
      rwa [meetS_symm]
    rw [h] at this; cases this
def NoThru (A H : Ring) : Prop := ∀ z y x O, Spl A z y x O → ∃ K : Int, 2 ≤ K ∧ ∀ k, K ≤ k → OffR H (nrP k z (wy z y), k) ∧ OffR H (nrP k z (wy z x), k) ∧ inn H (nrP k z (wy z y), k) = inn H (nrP k z (wy z x), k)
theorem offR_of {r : Ring} {p : Spot} (h : place r p ≠ 1) : OffR r p := fun s hs q => h (place_one.2 ⟨s, hs, q⟩)
theorem offR_ne {r : Ring} {p : Spot} (h : OffR r p) : place r p ≠ 1 := fun q => by
  obtain ⟨s, hs, k⟩ := place_one.1 q
  exact h s hs k
theorem noThru {A H : Ring} (vA : VR A) (vH : VR H) (hx : cross A H = false) {c : Int} (hl : lies H A c = true) : NoThru A H := by
  intro z y x O sA
  have eA := shut_ends vA.shut
  have eH := shut_ends vH.shut
  by_cases hz : place H (z, 1) = 1
  · obtain ⟨y', x', O', sH⟩ := vH.split hz
    obtain ⟨K, hK, f⟩ := local_sym (meet2_of vA.long vH.long hx sA sH) eA eH
    refine ⟨K, hK, fun k hk => ?_⟩
    obtain ⟨a1, a2, h1, h2, e⟩ := f k hk
    refine ⟨h1, h2, ?_⟩
    have c1 := lies_out vH.long vA.long eA (cross_sy hx) hl (p := (nrP k z (wy z y'), k)) (by show 0 < k; omega) (sH.on1 vH.long (by omega))
    have c2 := lies_out vH.long vA.long eA (cross_sy hx) hl (p := (nrP k z (wy z x'), k)) (by show 0 < k; omega) (sH.on2 vH.long (by omega))
    have d1 := c1.resolve_left (offR_ne a1)
    have d2 := c2.resolve_left (offR_ne a2)
    rw [offR_place a1] at d1
    rw [offR_place a2] at d2
    revert e d1 d2
    generalize inn A (nrP k z (wy z y'), k) = p
    generalize inn A (nrP k z (wy z x'), k) = q
    generalize inn H (nrP k z (wy z y), k) = s
    generalize inn H (nrP k z (wy z x), k) = t
    cases p <;> cases q <;> cases s <;> cases t <;> simp <;> omega
  · exact near_none eH (offR_of hz) _ _
theorem cons_up {k : Int} (hk : 0 < k) {a b : Pnt} {l : List Pnt} {y z : Pnt} (h : Cons (pos a b) (Cut a b l) y z) : Cons (pos (sc k a) (sc k b)) (Cut (sc k a) (sc k b) (l.map (sc k))) (sc k y) (sc k z) := by
  have kk2 := pp hk hk
  have e1 : ∀ {x y : Int}, k * k * x < k * k * y ↔ x < y := fun {x y} => ⟨fun h => Int.lt_of_mul_lt_mul_left h (by omega), fun h => Int.mul_lt_mul_of_pos_left h kk2⟩
  refine ⟨(cut_sc hk).2 ⟨y, rfl, h.cx⟩, (cut_sc hk).2 ⟨z, rfl, h.cy⟩, ?_, ?_⟩
  · rw [pos_sc, pos_sc]; exact e1.2 h.lt
  · rintro c hc ⟨h1, h2⟩
    obtain ⟨c', rfl, hc'⟩ := (cut_sc hk).1 hc
    rw [pos_sc, pos_sc] at h1 h2
    exact h.no c' hc' ⟨e1.1 h1, e1.1 h2⟩
theorem pos_dt (a b P : Pnt) (w : Int) : pos (sc (2 * w) a) (sc (2 * w) b) (sc 2 P) = (2 * w) * (2 * dt a b P w) := by unfold pos dt sc; grind
theorem piece {a b : Pnt} (hab : a ≠ b) {o : Ring} (he : Ends o) (hl : Long o) (hx : ∀ t ∈ segs o, crossS (a, b) t = false) {y z : Pnt} (hc : Cons (pos a b) (Cut a b o) y z)
    {P : Pnt} {w : Int} (hw : 0 < w) (hp : has a b P w) (h1 : w * pos a b y < dt a b P w) (h2 : dt a b P w < w * pos a b z) : place o (P, w) = place o (midOf y z) := by
  have hK : (0 : Int) < 2 * w := by omega
  have hab' : sc (2 * w) a ≠ sc (2 * w) b := fun e => hab ((sc_inj hK).1 e)
  have hp' : has (sc (2 * w) a) (sc (2 * w) b) (sc 2 P) 1 := by
    rw [has_sc hK, Int.mul_one]
    exact (has_spot (by omega) a b P w).2 hp
  have hc' := cons_up hK hc
  have e1 : place o (P, w) = place (scR (2 * w) o) (sc 2 P, 1) := place_whole (p := (P, w)) hw (k := 2) (by omega)
  have e2 : place o (midOf y z) = place (scR (2 * w) o) (sc w (midOf y z).1, 1) := by
    have := place_whole (r := o) (p := midOf y z) (show (0 : Int) < 2 by omega) (k := w) hw
    rw [show w * (midOf y z).2 = 2 * w by show w * 2 = 2 * w; omega] at this
    exact this
  rw [e1, e2]
  have c0y := (cut_has hc.cx).1
  have c0z := (cut_has hc.cy).1
  have f1 : 2 * pos (sc (2 * w) a) (sc (2 * w) b) (sc w (midOf y z).1) = pos (sc (2 * w) a) (sc (2 * w) b) (sc (2 * w) y) + pos (sc (2 * w) a) (sc (2 * w) b) (sc (2 * w) z) := by unfold pos dt sc midOf; grind
  have f2 : 2 * cr (sc (2 * w) a) (sc (2 * w) b) (sc w (midOf y z).1) 1 = cr (sc (2 * w) a) (sc (2 * w) b) (sc (2 * w) y) 1 + cr (sc (2 * w) a) (sc (2 * w) b) (sc (2 * w) z) 1 := by unfold cr sc midOf; grind
  rw [cr_sc1, cr_sc1, c0y, c0z, Int.mul_zero, Int.add_zero] at f2
  have hlt := hc'.lt
  obtain ⟨y0, y1⟩ := pos_le hab' (cut_has hc'.cx)
  obtain ⟨z0, z1⟩ := pos_le hab' (cut_has hc'.cy)
  have g1 : pos (sc (2 * w) a) (sc (2 * w) b) (sc (2 * w) y) < pos (sc (2 * w) a) (sc (2 * w) b) (sc 2 P) := by
    rw [pos_sc, pos_dt, show 2 * w * (2 * w) * pos a b y = 2 * w * (2 * (w * pos a b y)) by grind]
    exact Int.mul_lt_mul_of_pos_left (by omega) hK
  have g2 : pos (sc (2 * w) a) (sc (2 * w) b) (sc 2 P) < pos (sc (2 * w) a) (sc (2 * w) b) (sc (2 * w) z) := by
    rw [pos_sc, pos_dt, show 2 * w * (2 * w) * pos a b z = 2 * w * (2 * (w * pos a b z)) by grind]
    exact Int.mul_lt_mul_of_pos_left (by omega) hK
  have hx' : ∀ t ∈ segs (scR (2 * w) o), crossS (sc (2 * w) a, sc (2 * w) b) t = false := by
    intro t ht
    rw [segs_sc] at ht
    obtain ⟨t', ht', rfl⟩ := List.mem_map.1 ht
    have := hx t' ht'
    rw [← crossS_sc hK] at this
    exact this
  exact on_place_int hab' (ends_sc he) (long_sc hK hl) hx' hc' hp' (by omega) (by omega) (has_pos hab' (by omega) (by omega) (by omega)) (by omega) (by omega) (mid_off_int hab' (long_sc hK hl) hx' hc' hp' g1 g2)
theorem dt_to (a b c : Pnt) (k : Int) : dt a b (nrP k c (wy c b)) k = (k - 1) * pos a b c + kk a b ∧ dt a b (nrP k c (wy c a)) k = (k - 1) * pos a b c := by
  unfold dt nrP wy pos kk dt; constructor <;> grind
theorem Spl.ins {r : Ring} {z y x : Pnt} {O : List Seg} (h : Spl r z y x O) {a b : Pnt} (hs : (a, b) ∈ segs r) (hi : Ins a b z) : y = a ∧ x = b := by
  rcases h.sp with k | ⟨k, -⟩
  · rcases List.mem_cons.1 (k.mem_iff.1 hs) with e | hs
    · cases e; exact absurd rfl hi.nb
    · rcases List.mem_cons.1 hs with e | hs
      · cases e; exact absurd rfl hi.na
      · exact absurd hi.on (h.off _ hs)
  · rcases List.mem_cons.1 (k.mem_iff.1 hs) with e | hs
    · cases e; exact ⟨rfl, rfl⟩
    · exact absurd hi.on (h.off _ hs)
theorem Spl.into {r : Ring} {z y x : Pnt} {O : List Seg} (h : Spl r z y x O) {a : Pnt} (hs : (a, z) ∈ segs r) (ha : a ≠ z) : y = a := by
  rcases h.sp with k | ⟨k, hi⟩
  · rcases List.mem_cons.1 (k.mem_iff.1 hs) with e | hs
    · cases e; rfl
    · rcases List.mem_cons.1 hs with e | hs
      · cases e; exact absurd rfl ha
      · exact absurd (has_b _ _) (h.off _ hs)
  · rcases List.mem_cons.1 (k.mem_iff.1 hs) with e | hs
    · cases e; exact absurd rfl h.nx
    · exact absurd (has_b _ _) (h.off _ hs)
theorem Spl.from_ {r : Ring} {z y x : Pnt} {O : List Seg} (h : Spl r z y x O) {b : Pnt} (hs : (z, b) ∈ segs r) (hb : b ≠ z) : x = b := by
  rcases h.sp with k | ⟨k, hi⟩
  · rcases List.mem_cons.1 (k.mem_iff.1 hs) with e | hs
    · cases e; exact absurd rfl hb
    · rcases List.mem_cons.1 hs with e | hs
      · cases e; rfl
      · exact absurd (has_a _ _) (h.off _ hs)
  · rcases List.mem_cons.1 (k.mem_iff.1 hs) with e | hs
    · cases e; exact absurd rfl h.ny
    · exact absurd (has_a _ _) (h.off _ hs)
end Vd
end Go.Proofs.YtcclepohmhdpbabGreatDoor

namespace Go.Proofs.YtcclepohmhdpbabGreatDoor
set_option linter.all false
namespace Vd
structure TwoR (A H : Ring) : Prop where
  vA : VR A
  vH : VR H
  hx : cross A H = false
  nt : NoThru A H
theorem TwoR.xs {A H : Ring} (h : TwoR A H) {a b : Pnt} (hs : (a, b) ∈ segs A) : ∀ t ∈ segs H, crossS (a, b) t = false := by
  intro t ht
  cases c : crossS (a, b) t with
  | false => rfl
  | true =>
    have : cross A H = true := by
      unfold cross
      exact List.any_eq_true.2 ⟨(a, b), hs, List.any_eq_true.2 ⟨t, ht, c⟩⟩
    rw [h.hx] at this; cases this
theorem place_inn {r : Ring} {p q : Spot} (h1 : OffR r p) (h2 : OffR r q) (e : inn r p = inn r q) : place r p = place r q := by rw [offR_place h1, offR_place h2, e]
theorem cut_num {k px pc pz q : Int} (h0 : 0 ≤ px) (h1 : px < pc) (h2 : pc < pz) (h3 : pz ≤ q) (hk : q < k) : (k * pc < (k - 1) * pc + q ∧ (k - 1) * pc + q < k * pz) ∧ k * px < (k - 1) * pc ∧ (k - 1) * pc < k * pc := by
  have m1 := Int.mul_le_mul_of_nonneg_left (show 1 ≤ pz - pc by omega) (show 0 ≤ k by omega)
  have m2 := Int.mul_le_mul_of_nonneg_left (show 1 ≤ pc - px by omega) (show 0 ≤ k by omega)
  rw [Int.mul_sub] at m1 m2
  have e1 : (k - 1) * pc = k * pc - pc := by rw [Int.sub_mul]; omega
  rw [e1]
  generalize k * pc = a at *
  generalize k * pz = b at *
  generalize k * px = c at *
  omega
theorem TwoR.at_cut {A H : Ring} (h : TwoR A H) {a b : Pnt} (hs : (a, b) ∈ segs A) {x c z : Pnt} (c1 : Cons (pos a b) (Cut a b H) x c) (c2 : Cons (pos a b) (Cut a b H) c z) : place H (midOf x c) = place H (midOf c z) := by
  have hab : a ≠ b := h.vA.long _ hs
  have eH := shut_ends h.vH.shut
  have px := pos_le hab (cut_has c1.cx)
  have pz := pos_le hab (cut_has c2.cy)
  have l1 := c1.lt
  have l2 := c2.lt
  have hc := cut_has c1.cy
  have hi : Ins a b c := ⟨hc, fun e => by rw [e, pos_a] at l1; omega, fun e => by rw [e, pos_b] at l2; omega⟩
  obtain ⟨y', x', O, sA⟩ := h.vA.split (z := c) (place_one.2 ⟨(a, b), hs, hc⟩)
  obtain ⟨e1, e2⟩ := sA.ins hs hi
  rw [e1, e2] at sA
  obtain ⟨K, hK, f⟩ := h.nt _ _ _ _ sA
  have hk := kk_pos hab
  obtain ⟨k, hk1, hk2, hk3⟩ : ∃ k, K ≤ k ∧ kk a b < k ∧ 1 ≤ k := ⟨K + kk a b, by omega, by omega, by omega⟩
  obtain ⟨o1, o2, e⟩ := f k hk1
  obtain ⟨d1, d2⟩ := dt_to a b c k
  obtain ⟨⟨n1, n2⟩, n3, n4⟩ := cut_num px.1 l1 l2 pz.2 hk2
  rw [← d1] at n1 n2
  rw [← d2] at n3 n4
  have g1 : has a b (nrP k c (wy c b)) k := germ_seg (s := (a, b)) hab sA.nx hc (has_b _ _) hk3
  have g2 : has a b (nrP k c (wy c a)) k := germ_seg (s := (a, b)) hab sA.ny hc (has_a _ _) hk3
  have hx' : ∀ t ∈ segs H, crossS (a, b) t = false := h.xs hs
  have hw : 0 < k := Int.lt_of_lt_of_le (by decide) hk3
  have q1 : place H (nrP k c (wy c b), k) = place H (midOf c z) := piece hab eH h.vH.long hx' c2 hw g1 n1 n2
  have q2 : place H (nrP k c (wy c a), k) = place H (midOf x c) := piece hab eH h.vH.long hx' c1 hw g2 n3 n4
  rw [← q1, ← q2]
  exact place_inn o1 o2 e
theorem first_cut {a b : Pnt} (hab : a ≠ b) (l : List Pnt) : ∃ z, Cons (pos a b) (Cut a b l) a z := by
  have hk := kk_pos hab
  obtain ⟨z, hz, ⟨cz, lz⟩, mz⟩ := ex_min (pos a b) (fun x => Cut a b l x ∧ 0 < pos a b x) (a :: b :: l) ⟨b, by simp, .inr (.inl rfl), by rw [pos_b]; exact hk⟩
  refine ⟨z, .inl rfl, cz, by rw [pos_a]; exact lz, fun c hc ⟨h1, h2⟩ => ?_⟩
  rw [pos_a] at h1
  have := mz c (cut_list.1 hc).1 ⟨hc, h1⟩
  omega
theorem TwoR.seg_one {A H : Ring} (h : TwoR A H) {a b : Pnt} (hs : (a, b) ∈ segs A) {z0 : Pnt} (c0 : Cons (pos a b) (Cut a b H) a z0) : ∀ (n : Nat) (y z : Pnt), Cons (pos a b) (Cut a b H) y z → (pos a b y).toNat ≤ n → place H (midOf y z) = place H (midOf a z0) := by
  have hab : _ ≠ _ := h.vA.long _ hs
  simp only at hab
  intro n
  induction n with
  | zero =>
    intro y z hc hn
    have py := pos_le hab (cut_has hc.cx)
    have ya : y = a := pos_inj hab (cut_has hc.cx).1 (cr_a a b) (by rw [pos_a]; omega)
    subst ya
    have e : pos y b z = pos y b z0 := by
      have h1 := hc.no z0 c0.cy; have h2 := c0.no z hc.cy; have h3 := hc.lt; have h4 := c0.lt
      omega
    rw [pos_inj hab (cut_has hc.cy).1 (cut_has c0.cy).1 e]
  | succ n ih =>
    intro y z hc hn
    have py := pos_le hab (cut_has hc.cx)
    by_cases hy : pos a b y = 0
    · exact ih y z hc (by omega)
    · obtain ⟨x, hx, ⟨cx, lx⟩, mx⟩ := ex_max (pos a b) (fun x => Cut a b H x ∧ pos a b x < pos a b y) (a :: b :: H) ⟨a, by simp, .inl rfl, by rw [pos_a]; omega⟩
      have cxy : Cons (pos a b) (Cut a b H) x y := ⟨cx, hc.cx, lx, fun c hc' ⟨h1, h2⟩ => by have := mx c (cut_list.1 hc').1 ⟨hc', h2⟩; omega⟩
      have px := pos_le hab (cut_has cx)
      rw [← h.at_cut hs cxy hc]
      exact ih x y cxy (by omega)
theorem TwoR.seg_all {A H : Ring} (h : TwoR A H) {s : Seg} (hs : s ∈ segs A) {m m' : Spot} (hm : m ∈ mids s [H]) (hm' : m' ∈ mids s [H]) : place H m = place H m' := by
  have hab := h.vA.long _ hs
  obtain ⟨y, z, c, rfl⟩ := (mem_mids hab [H] m).1 hm
  obtain ⟨y', z', c', rfl⟩ := (mem_mids hab [H] m').1 hm'
  simp only [List.flatten_cons, List.flatten_nil, List.append_nil] at c c'
  obtain ⟨z0, c0⟩ := first_cut hab H
  rw [h.seg_one hs c0 _ y z c (Nat.le_refl _), h.seg_one hs c0 _ y' z' c' (Nat.le_refl _)]
theorem mids_some {a b : Pnt} (hab : a ≠ b) (H : Ring) : ∃ m, m ∈ mids (a, b) [H] := by
  obtain ⟨z, c⟩ := first_cut hab H
  exact ⟨_, (mem_mids hab [H] _).2 ⟨a, z, by simpa using c, rfl⟩⟩
theorem TwoR.turn {A H : Ring} (h : TwoR A H) {a v b : Pnt} (s1 : (a, v) ∈ segs A) (s2 : (v, b) ∈ segs A) {m m' : Spot} (hm : m ∈ mids (a, v) [H]) (hm' : m' ∈ mids (v, b) [H]) : place H m = place H m' := by
  have n1 := h.vA.long _ s1
  have n2 := h.vA.long _ s2
  have eH := shut_ends h.vH.shut
  obtain ⟨y, x, O, sA⟩ := h.vA.split (z := v) (place_one.2 ⟨(a, v), s1, has_b _ _⟩)
  obtain rfl := sA.into s1 n1
  obtain rfl := sA.from_ s2 (fun e => n2 e.symm)
  obtain ⟨K, hK, f⟩ := h.nt _ _ _ _ sA
  obtain ⟨o1, o2, e⟩ := f K (Int.le_refl _)
  obtain ⟨q, hq, eq⟩ := on_place n1 eH h.vH.long (h.xs s1) (p := (nrP K v (wy v y), K)) (by show 0 < K; omega) (germ_seg (s := (y, v)) n1 sA.ny (has_b _ _) (has_a _ _) (by omega)) (offR_ne o1)
  obtain ⟨q', hq', eq'⟩ := on_place n2 eH h.vH.long (h.xs s2) (p := (nrP K v (wy v x), K)) (by show 0 < K; omega) (germ_seg (s := (v, x)) n2 sA.nx (has_a _ _) (has_b _ _) (by omega)) (offR_ne o2)
  rw [h.seg_all s1 hm hq, h.seg_all s2 hm' hq', ← eq, ← eq']
  exact place_inn o1 o2 e
theorem TwoR.one {A H : Ring} (h : TwoR A H) : ∃ V : Int, ∀ p : Spot, 0 < p.2 → place A p = 1 → place H p ≠ 1 → place H p = V := by
  have h4 := h.vA.shut.len
  have eH := shut_ends h.vH.shut
  have sg_ : ∀ i, i + 1 < A.length → (ptAt A i, ptAt A (i + 1)) ∈ segs A := fun i hi => List.mem_of_getElem? (segs_at (ptAt_get (by omega)) (ptAt_get hi))
  obtain ⟨m0, hm0⟩ := mids_some (h.vA.long _ (sg_ 0 (by omega))) H
  have key : ∀ i, i + 1 < A.length → ∀ m ∈ mids (ptAt A i, ptAt A (i + 1)) [H], place H m = place H m0 := by
    intro i
    induction i with
    | zero => intro hi m hm; exact h.seg_all (sg_ 0 hi) hm hm0
    | succ i ih =>
      intro hi m hm
      obtain ⟨q, hq⟩ := mids_some (h.vA.long _ (sg_ i (by omega))) H
      rw [← ih (by omega) q hq]
      exact (h.turn (sg_ i (by omega)) (sg_ (i + 1) hi) hq hm).symm
  refine ⟨place H m0, fun p hw hp hn => ?_⟩
  obtain ⟨s, hs, hh⟩ := place_one.1 hp
  obtain ⟨i, hi⟩ := List.mem_iff_getElem?.1 hs
  have hil : i + 1 < A.length := by have := Pl.lt_of_some hi; rw [segs_len] at this; omega
  have es : s = (ptAt A i, ptAt A (i + 1)) := by
    have := segs_at (ptAt_get (r := A) (i := i) (by omega)) (ptAt_get hil)
    rw [hi] at this
    exact Option.some.inj this
  subst es
  obtain ⟨m, hm, e⟩ := on_place (h.vA.long _ hs) eH h.vH.long (h.xs hs) hw hh hn
  rw [e]
  exact key i hil m hm
end Vd
end Go.Proofs.YtcclepohmhdpbabGreatDoor

namespace Go.Proofs.YtcclepohmhdpbabGreatDoor
set_option linter.all false
namespace Vd
def sumI {α : Type} (f : α → Int) (l : List α) : Int := (l.map f).sum
theorem sumI_nil {α : Type} (f : α → Int) : sumI f [] = 0 := rfl
theorem sumI_cons {α : Type} (f : α → Int) (a : α) (l : List α) : sumI f (a :: l) = f a + sumI f l := by simp [sumI]
theorem sumI_append {α : Type} (f : α → Int) (l k : List α) : sumI f (l ++ k) = sumI f l + sumI f k := by simp [sumI]
theorem sumI_congr {α : Type} {f g : α → Int} {l : List α} (h : ∀ x ∈ l, f x = g x) : sumI f l = sumI g l := by
  unfold sumI; congr 1; exact List.map_congr_left h
theorem sumI_add {α : Type} (f g : α → Int) (l : List α) : sumI (fun x => f x + g x) l = sumI f l + sumI g l := by
  induction l with
  | nil => rfl
  | cons a t ih => rw [sumI_cons, sumI_cons, sumI_cons, ih]; omega
theorem sumI_mul {α : Type} (k : Int) (f : α → Int) (l : List α) : sumI (fun x => k * f x) l = k * sumI f l := by
  induction l with
  | nil => simp [sumI]
  | cons a t ih => rw [sumI_cons, sumI_cons, ih, Int.mul_add]
theorem sumI_neg {α : Type} (f : α → Int) (l : List α) : sumI (fun x => -(f x)) l = -(sumI f l) := by
  induction l with
  | nil => rfl
  | cons a t ih => rw [sumI_cons, sumI_cons, ih]; omega
theorem sumI_swap {α β : Type} (f : α → β → Int) (l : List α) (k : List β) : sumI (fun x => sumI (f x) k) l = sumI (fun y => sumI (fun x => f x y) l) k := by
  induction l with
  | nil => simp only [sumI_nil]; induction k with
    | nil => rfl
    | cons b t ih => rw [sumI_cons, ← ih]; rfl
  | cons a t ih =>
    rw [sumI_cons, ih, ← sumI_add]
    exact sumI_congr fun y _ => (sumI_cons (fun x => f x y) a t).symm
theorem sumI_nonneg {α : Type} {f : α → Int} {l : List α} (h : ∀ x ∈ l, 0 ≤ f x) : 0 ≤ sumI f l := by
  induction l with
  | nil => exact Int.le_refl _
  | cons a t ih => rw [sumI_cons]; have := h a (by simp); have := ih fun x hx => h x (by simp [hx]); omega
theorem sumI_pos {α : Type} {f : α → Int} {l : List α} (h : ∀ x ∈ l, 0 ≤ f x) (k : ∃ x ∈ l, 0 < f x) : 0 < sumI f l := by
  induction l with
  | nil => obtain ⟨x, hx, _⟩ := k; simp at hx
  | cons a t ih =>
    rw [sumI_cons]
    have h1 := h a (by simp)
    have h2 : 0 ≤ sumI f t := sumI_nonneg fun x hx => h x (by simp [hx])
    obtain ⟨x, hx, hp⟩ := k
    rcases List.mem_cons.1 hx with rfl | hx
    · omega
    · have := ih (fun x hx => h x (by simp [hx])) ⟨x, hx, hp⟩; omega
theorem sumI_filter {α : Type} (p : α → Bool) (f : α → Int) (l : List α) : sumI f (l.filter p) = sumI (fun x => if p x = true then f x else 0) l := by
  induction l with
  | nil => rfl
  | cons a t ih =>
    rw [List.filter_cons]
    by_cases h : p a = true
    · rw [if_pos h, sumI_cons, sumI_cons, if_pos h, ih]
    · rw [if_neg h, sumI_cons, if_neg h, ih]; omega
theorem sum_chain (g : Pnt → Int) : ∀ (t : Ring) (a : Pnt), sumI (fun s : Seg => g s.2 - g s.1) (segs (a :: t)) = g ((a :: t).getLast (by simp)) - g a := by
  intro t
  induction t with
  | nil => intro a; simp [segs, sumI]
  | cons b t ih =>
    intro a
    rw [segs_cons2, sumI_cons, ih b]
    simp only [List.getLast_cons_cons]
    omega
theorem sum_ring (g : Pnt → Int) {r : Ring} (h : Ends r) : sumI (fun s : Seg => g s.2 - g s.1) (segs r) = 0 := by
  cases r with
  | nil => rfl
  | cons a t =>
    rw [sum_chain]
    unfold Ends at h
    rw [List.head?_cons, List.getLast?_eq_some_getLast (by simp)] at h
    rw [← Option.some.inj h]; omega
abbrev XU := Int × Bool
def cntG (P : List XU) (x : Int) : Bool := P.foldr (fun p b => decide (x < p.1) ^^ b) false
theorem cntG_cons (p : XU) (P : List XU) (x : Int) : cntG (p :: P) x = (decide (x < p.1) ^^ cntG P x) := rfl
theorem cntG_append (P Q : List XU) (x : Int) : cntG (P ++ Q) x = (cntG P x ^^ cntG Q x) := by
  induction P with
  | nil => simp [cntG]
  | cons p t ih => rw [List.cons_append, cntG_cons, cntG_cons, ih, Bool.xor_assoc]
theorem cntG_out (P Q : List XU) (p : XU) (x : Int) : cntG (P ++ p :: Q) x = (decide (x < p.1) ^^ cntG (P ++ Q) x) := by
  rw [cntG_append, cntG_cons, cntG_append]
  cases decide (x < p.1) <;> cases cntG P x <;> cases cntG Q x <;> rfl
def sgU (u : Bool) : Int := if u = true then 1 else -1
def sgX (p : XU) : Int := sgU p.2 * p.1
theorem cntG_none {P : List XU} {x : Int} (h : ∀ p ∈ P, p.1 ≤ x) : cntG P x = false := by
  induction P with
  | nil => rfl
  | cons p t ih =>
    rw [cntG_cons, ih fun q hq => h q (by simp [hq]), decide_eq_false (by have := h p (by simp); omega)]; rfl
theorem ex_top {P : List XU} (h : P ≠ []) : ∃ A p B, P = A ++ p :: B ∧ ∀ q ∈ P, q.1 ≤ p.1 := by
  obtain ⟨p, hp, -, hm⟩ := ex_max (fun q : XU => q.1) (fun _ => True) P (by
    cases P with
    | nil => exact absurd rfl h
    | cons a t => exact ⟨a, by simp, trivial⟩)
  obtain ⟨A, B, e⟩ := List.append_of_mem hp
  exact ⟨A, p, B, e, fun q hq => hm q hq trivial⟩
structure Alt (P : List XU) : Prop where
  nd : (P.map (·.1)).Nodup
  al : ∀ p ∈ P, (cntG P p.1 ^^ p.2) = true
theorem nd_out {A B : List XU} {p : XU} (h : ((A ++ p :: B).map (·.1)).Nodup) : ((A ++ B).map (·.1)).Nodup ∧ ∀ q ∈ A ++ B, q.1 ≠ p.1 := by
  rw [List.map_append, List.map_cons, List.nodup_append] at h
  obtain ⟨h1, h2, h3⟩ := h
  rw [List.nodup_cons] at h2
  constructor
  · rw [List.map_append, List.nodup_append]
    exact ⟨h1, h2.2, fun a ha b hb => h3 a ha b (List.mem_cons_of_mem _ hb)⟩
  · intro q hq e
    rcases List.mem_append.1 hq with hq | hq
    · exact h3 q.1 (List.mem_map_of_mem hq) p.1 (by simp) e
    · exact h2.1 (e ▸ List.mem_map_of_mem hq)
theorem sum_out {α : Type} (f : α → Int) (A B : List α) (p : α) : sumI f (A ++ p :: B) = f p + sumI f (A ++ B) := by
  rw [sumI_append, sumI_cons, sumI_append]; omega
theorem alt_pos : ∀ (n : Nat) (P : List XU), P.length ≤ n → Alt P → sumI (fun p => sgU p.2) P = 0 → P ≠ [] → 0 < sumI sgX P := by
  intro n
  induction n with
  | zero => intro P hl _ _ hne; exact absurd (List.eq_nil_of_length_eq_zero (by omega)) hne
  | succ n ih =>
    intro P hl h hs hne
    obtain ⟨A, p, B, rfl, hp⟩ := ex_top hne
    obtain ⟨nd1, ne1⟩ := nd_out h.nd
    have up : p.2 = true := by
      have := h.al p (by simp)
      rw [cntG_none fun q hq => hp q hq] at this
      simpa using this
    rw [sum_out] at hs
    have hne2 : A ++ B ≠ [] := by
      intro e
      rw [e, sumI_nil, up] at hs
      simp [sgU] at hs
    obtain ⟨C, q, D, e2, hq⟩ := ex_top hne2
    rw [e2] at hs nd1 ne1 hq
    obtain ⟨nd2, ne2⟩ := nd_out nd1
    have lt1 : ∀ x ∈ C ++ q :: D, x.1 < p.1 := fun x hx => by
      have h1 := hp x (by
        have : x ∈ A ++ B := by rw [e2]; exact hx
        rcases List.mem_append.1 this with k | k <;> simp [k])
      have := ne1 x hx
      omega
    have lt2 : ∀ x ∈ C ++ D, x.1 < q.1 := fun x hx => by
      have h1 := hq x (by rcases List.mem_append.1 hx with k | k <;> simp [k])
      have := ne2 x hx
      omega
    have cn : ∀ x : Int, cntG (A ++ p :: B) x = (decide (x < p.1) ^^ (decide (x < q.1) ^^ cntG (C ++ D) x)) := fun x => by rw [cntG_out, e2, cntG_out]
    have uq : q.2 = false := by
      have := h.al q (by
        have : q ∈ A ++ B := by rw [e2]; simp
        rcases List.mem_append.1 this with k | k <;> simp [k])
      rw [cn, decide_eq_true (lt1 q (by simp)), decide_eq_false (by omega), cntG_none fun x hx => by have := lt2 x hx; omega] at this
      simpa using this
    rw [sum_out, e2, sum_out]
    rw [sum_out, up, uq] at hs
    have hpq := lt1 q (by simp)
    have e1 : sgX p = p.1 := by simp [sgX, sgU, up]
    have e3 : sgX q = -q.1 := by simp [sgX, sgU, uq]
    have alt2 : Alt (C ++ D) := ⟨nd2, fun x hx => by
      have := h.al x (by
        have : x ∈ A ++ B := by rw [e2]; rcases List.mem_append.1 hx with k | k <;> simp [k]
        rcases List.mem_append.1 this with k | k <;> simp [k])
      rw [cn, decide_eq_true (lt1 x (by rcases List.mem_append.1 hx with k | k <;> simp [k])), decide_eq_true (lt2 x hx)] at this
      simpa using this⟩
    have hs2 : sumI (fun p => sgU p.2) (C ++ D) = 0 := by
      have a1 : sgU true = 1 := rfl
      have a2 : sgU false = -1 := rfl
      rw [a1, a2] at hs
      omega
    have hl2 : (C ++ D).length ≤ n := by
      have := congrArg List.length e2
      simp only [List.length_append, List.length_cons] at this hl ⊢
      omega
    by_cases hz : C ++ D = []
    · rw [hz, sumI_nil, e1, e3]; omega
    · have := ih (C ++ D) hl2 alt2 hs2 hz
      rw [e1, e3]; omega
def flipU (P : List XU) : List XU := P.map fun p => (p.1, !p.2)
theorem cntG_flip (P : List XU) (x : Int) : cntG (flipU P) x = cntG P x := by
  induction P with
  | nil => rfl
  | cons p t ih => show (_ ^^ cntG (flipU t) x) = _; rw [ih]; rfl
theorem sum_flip (P : List XU) : sumI sgX (flipU P) = -(sumI sgX P) ∧ sumI (fun p => sgU p.2) (flipU P) = -(sumI (fun p => sgU p.2) P) := by
  induction P with
  | nil => exact ⟨rfl, rfl⟩
  | cons p t ih =>
    show sumI sgX ((p.1, !p.2) :: flipU t) = _ ∧ sumI (fun p => sgU p.2) ((p.1, !p.2) :: flipU t) = _
    rw [sumI_cons, sumI_cons, sumI_cons, sumI_cons, ih.1, ih.2]
    unfold sgX sgU
    cases p.2 <;> simp <;> omega
theorem alt_any {P : List XU} {L : Bool} (nd : (P.map (·.1)).Nodup) (al : ∀ p ∈ P, (cntG P p.1 ^^ p.2) = L) (hs : sumI (fun p => sgU p.2) P = 0) :
    (P = [] → sumI sgX P = 0) ∧ (P ≠ [] → 0 < sgU L * sumI sgX P) := by
  refine ⟨fun e => by rw [e]; rfl, fun hne => ?_⟩
  cases L with
  | true =>
    have := alt_pos P.length P (Nat.le_refl _) ⟨nd, al⟩ hs hne
    simpa [sgU] using this
  | false =>
    have h1 : Alt (flipU P) := by
      refine ⟨by unfold flipU; rw [List.map_map]; exact nd, fun p hp => ?_⟩
      obtain ⟨q, hq, rfl⟩ := List.mem_map.1 hp
      have := al q hq
      simp only [cntG_flip]
      revert this
      cases cntG P q.1 <;> cases q.2 <;> simp
    have := alt_pos (flipU P).length (flipU P) (Nat.le_refl _) h1 (by rw [(sum_flip P).2, hs]; rfl) (fun e => hne (by unfold flipU at e; simpa using e))
    rw [(sum_flip P).1] at this
    simp [sgU]; omega
end Vd
end Go.Proofs.YtcclepohmhdpbabGreatDoor

namespace Go.Proofs.YtcclepohmhdpbabGreatDoor
set_option linter.all false
namespace Vd
def dyS (s : Seg) : Int := s.2.2 - s.1.2
def KOk (K : Int) (l : List Seg) : Prop := 0 < K ∧ ∀ s ∈ l, ∃ q, q * dyS s = K ∨ dyS s = 0
def qd (K : Int) (s : Seg) : Int := K / dyS s
theorem qd_mul {K : Int} {s : Seg} (h : ∃ q, q * dyS s = K ∨ dyS s = 0) (h0 : dyS s ≠ 0) : qd K s * dyS s = K := by
  obtain ⟨q, h | h⟩ := h
  · unfold qd; rw [← h, Int.mul_ediv_cancel _ h0]
  · exact absurd h h0
theorem ex_K : ∀ l : List Seg, ∃ K, KOk K l := by
  intro l
  induction l with
  | nil => exact ⟨1, by omega, fun s hs => by simp at hs⟩
  | cons a t ih =>
    obtain ⟨K, hK, h⟩ := ih
    by_cases h0 : dyS a = 0
    · refine ⟨K, hK, fun s hs => ?_⟩
      rcases List.mem_cons.1 hs with rfl | hs
      · exact ⟨0, .inr h0⟩
      · exact h s hs
    · refine ⟨K * (dyS a * dyS a), pp hK (sq_pos h0), fun s hs => ?_⟩
      rcases List.mem_cons.1 hs with rfl | hs
      · exact ⟨K * dyS s, .inl (by rw [Int.mul_assoc])⟩
      · obtain ⟨q, hq | hq⟩ := h s hs
        · exact ⟨q * (dyS a * dyS a), .inl (by rw [← hq]; grind)⟩
        · exact ⟨0, .inr hq⟩
def cj (s : Seg) (j : Int) : Bool := decide ((s.1.2 ≤ j ∧ j < s.2.2) ∨ (s.2.2 ≤ j ∧ j < s.1.2))
theorem cj_ne {s : Seg} {j : Int} (h : cj s j = true) : dyS s ≠ 0 := by unfold cj at h; have := of_decide_eq_true h; unfold dyS; omega
def Xk (K : Int) (s : Seg) (j : Int) : Int := 2 * K * s.1.1 + (s.2.1 - s.1.1) * (2 * j + 1 - 2 * s.1.2) * qd K s
def ms (K : Int) (x j : Int) : Spot := ((x, K * (2 * j + 1)), 2 * K)
theorem cr_X {K : Int} {s : Seg} (hq : qd K s * dyS s = K) (x j : Int) : cr s.1 s.2 (ms K x j).1 (ms K x j).2 = dyS s * (Xk K s j - x) := by
  unfold cr ms Xk dyS at *
  simp only
  generalize qd K s = q at *
  grind
theorem hgt {K y j : Int} (hK : 0 < K) : y * (2 * K) > K * (2 * j + 1) ↔ j < y := by
  rw [show y * (2 * K) = K * (2 * y) by grind]
  constructor
  · intro h
    have := Int.lt_of_mul_lt_mul_left h (by omega)
    omega
  · intro h
    exact Int.mul_lt_mul_of_pos_left (by omega) hK
theorem ray_X {K : Int} {s : Seg} (hK : 0 < K) (h : ∃ q, q * dyS s = K ∨ dyS s = 0) (x j : Int) : ray s.1 s.2 (ms K x j).1 (ms K x j).2 = decide (cj s j = true ∧ x < Xk K s j) := by
  unfold ray
  have e1 : decide (s.1.2 * (ms K x j).2 > (ms K x j).1.2) = decide (j < s.1.2) := decide_eq_decide.2 (hgt hK)
  have e2 : (s.2.2 * (ms K x j).2 > (ms K x j).1.2) ↔ j < s.2.2 := hgt hK
  have e2' : decide (s.2.2 * (ms K x j).2 > (ms K x j).1.2) = decide (j < s.2.2) := decide_eq_decide.2 e2
  rw [e1, e2']
  by_cases c : cj s j = true
  · have hq := qd_mul h (cj_ne c)
    have hc := of_decide_eq_true c
    rw [cr_X hq]
    have d0 : dyS s = s.2.2 - s.1.2 := rfl
    rcases hc with ⟨h1, h2⟩ | ⟨h1, h2⟩
    · rw [decide_eq_false (by omega : ¬ j < s.1.2), decide_eq_true h2, if_neg (by decide), if_pos (e2.2 h2)]
      apply decide_eq_decide.2
      rw [sg_pos]
      have dp : 0 < dyS s := by omega
      constructor
      · intro k; refine ⟨c, ?_⟩; rcases Int.lt_or_le x (Xk K s j) with g | g; exact g; exact absurd k (by have := m0 (x := dyS s) (y := Xk K s j - x) (by omega) (by omega); omega)
      · intro k; exact pp dp (by omega)
    · rw [decide_eq_true h2, decide_eq_false (by omega : ¬ j < s.2.2), if_neg (by decide), if_neg (fun k => by have := e2.1 k; omega)]
      apply decide_eq_decide.2
      rw [sg_neg]
      have dn : dyS s < 0 := by omega
      constructor
      · intro k; refine ⟨c, ?_⟩; rcases Int.lt_or_le x (Xk K s j) with g | g; exact g; exact absurd k (by have := q0 (x := dyS s) (y := Xk K s j - x) (by omega) (by omega); omega)
      · intro k; exact np dn (by omega)
  · have hc : ¬ ((s.1.2 ≤ j ∧ j < s.2.2) ∨ (s.2.2 ≤ j ∧ j < s.1.2)) := fun k => c (decide_eq_true k)
    rw [if_pos (by apply decide_eq_decide.2; omega)]
    exact (decide_eq_false fun k => c k.1).symm
theorem ins_X {K : Int} {s : Seg} (hK : 0 < K) (h : ∃ q, q * dyS s = K ∨ dyS s = 0) {j : Int} (c : cj s j = true) : InsS s.1 s.2 (ms K (Xk K s j) j) := by
  have hq := qd_mul h (cj_ne c)
  have hc := of_decide_eq_true c
  have h2K : (0 : Int) < 2 * K := by omega
  have hg := fun y => hgt (K := K) (y := y) (j := j) hK
  have par : ∀ y : Int, K * (2 * j + 1) ≠ 2 * K * y := fun y e => by
    rw [show 2 * K * y = K * (2 * y) by grind] at e
    have := Int.eq_of_mul_eq_mul_left (by omega) e
    omega
  refine ⟨h2K, ?_, ?_, ?_⟩
  · have e0 : cr s.1 s.2 (ms K (Xk K s j) j).1 (ms K (Xk K s j) j).2 = 0 := by rw [cr_X hq, Int.sub_self, Int.mul_zero]
    have k1 : has (sc (2 * K) s.1) (sc (2 * K) s.2) (ms K (Xk K s j) j).1 1 := by
      refine has_line_y ?_ ?_
      · rw [cr_sc, Int.mul_one]
        have : cr s.1 s.2 (ms K (Xk K s j) j).1 (2 * K) = 0 := e0
        rw [this, Int.mul_zero]
      · show (2 * K * s.1.2 ≤ K * (2 * j + 1) ∧ K * (2 * j + 1) ≤ 2 * K * s.2.2 ∧ 2 * K * s.1.2 < 2 * K * s.2.2) ∨ (2 * K * s.2.2 ≤ K * (2 * j + 1) ∧ K * (2 * j + 1) ≤ 2 * K * s.1.2 ∧ 2 * K * s.2.2 < 2 * K * s.1.2)
        have g1 := hg s.1.2
        have g2 := hg s.2.2
        rw [show s.1.2 * (2 * K) = 2 * K * s.1.2 by grind] at g1
        rw [show s.2.2 * (2 * K) = 2 * K * s.2.2 by grind] at g2
        rcases hc with ⟨h1, h2⟩ | ⟨h1, h2⟩
        · left
          have a1 : ¬ 2 * K * s.1.2 > K * (2 * j + 1) := fun k => by have := g1.1 k; omega
          have a2 := g2.2 h2
          omega
        · right
          have a1 : ¬ 2 * K * s.2.2 > K * (2 * j + 1) := fun k => by have := g2.1 k; omega
          have a2 := g1.2 h2
          omega
    rw [has_sc h2K, Int.mul_one] at k1
    exact k1
  · intro e
    have : K * (2 * j + 1) = 2 * K * s.1.2 := congrArg Prod.snd e
    exact par _ this
  · intro e
    have : K * (2 * j + 1) = 2 * K * s.2.2 := congrArg Prod.snd e
    exact par _ this
theorem VR.offS {p1 : Ring} {a b : Pnt} {p2 : Ring} (h : VR (p1 ++ a :: b :: p2)) {t : Seg} (ht : t ∈ oth p1 a b p2) {m : Spot} (hm : InsS a b m) : ¬ has t.1 t.2 m.1 m.2 := by
  have h' := vr_sc hm.w h
  rw [scR_append, scR_cons, scR_cons] at h'
  have i1 := hm.int (k := 1) (by omega)
  rw [Int.one_mul] at i1
  have ht' : scS m.2 t ∈ oth (scR m.2 p1) (sc m.2 a) (sc m.2 b) (scR m.2 p2) := by rw [oth_sc]; exact List.mem_map_of_mem ht
  have := h'.off ht' i1
  intro hh
  apply this
  show has (sc m.2 t.1) (sc m.2 t.2) (sc 1 m.1) 1
  rw [has_sc hm.w, Int.mul_one]
  have e : sc 1 m.1 = m.1 := by unfold sc; exact Prod.ext (by simp) (by simp)
  rw [e]; exact hh
theorem on_X {K : Int} {s : Seg} (hK : 0 < K) (h : ∃ q, q * dyS s = K ∨ dyS s = 0) {j : Int} (c : cj s j = true) : has s.1 s.2 (ms K (Xk K s j) j).1 (ms K (Xk K s j) j).2 := (ins_X hK h c).on
theorem later_oth {r : Ring} {i k : Nat} (hi : i + 1 < r.length) (hk : k + 1 < r.length) (hne : i ≠ k) : (ptAt r k, ptAt r (k + 1)) ∈ oth (r.take i) (ptAt r i) (ptAt r (i + 1)) (r.drop (i + 2)) := by
  have e := split_at hi
  have es := segs_split (r.take i) (ptAt r i) (ptAt r (i + 1)) (r.drop (i + 2))
  rw [← e] at es
  have hs := segs_at (ptAt_get (r := r) (i := k) (by omega)) (ptAt_get hk)
  rw [es] at hs
  have hl : (segs (r.take i ++ [ptAt r i])).length = i := by rw [segs_len, List.length_append, List.length_take]; simp; omega
  unfold oth
  rcases Nat.lt_or_ge k i with g | g
  · rw [List.getElem?_append_left (by omega)] at hs
    exact List.mem_append_left _ (Pl.mem_of_some hs)
  · rw [List.getElem?_append_right (by omega), hl, show k - i = (k - i - 1) + 1 by omega, List.getElem?_cons_succ] at hs
    exact List.mem_append_right _ (Pl.mem_of_some hs)
def atJ (K j : Int) (l : List Seg) : List XU := (l.filter fun s => cj s j).map fun s => (Xk K s j, upS s.1 s.2)
theorem cnt_rays {K : Int} (hK : 0 < K) (x j : Int) : ∀ l : List Seg, (∀ s ∈ l, ∃ q, q * dyS s = K ∨ dyS s = 0) → cntG (atJ K j l) x = raysS l (ms K x j) := by
  intro l
  induction l with
  | nil => intro _; rfl
  | cons s t ih =>
    intro h
    rw [raysS_cons, ray_X hK (h s (by simp)), ← ih fun y hy => h y (by simp [hy])]
    unfold atJ
    rw [List.filter_cons]
    by_cases c : cj s j = true
    · rw [if_pos c, List.map_cons, cntG_cons]
      congr 1
      exact decide_eq_decide.2 ⟨fun k => ⟨c, k⟩, fun k => k.2⟩
    · rw [if_neg c, decide_eq_false (fun k => c k.1)]; simp
theorem at_height {r : Ring} (h : VR r) {K : Int} (hK : KOk K (segs r)) (j : Int) :
    (atJ K j (segs r) = [] → sumI sgX (atJ K j (segs r)) = 0) ∧ (atJ K j (segs r) ≠ [] → 0 < sgU (LhI r 0) * sumI sgX (atJ K j (segs r))) := by
  refine alt_any ?_ ?_ ?_
  · unfold atJ
    rw [List.map_map]
    have key : (segs r).Pairwise fun s t => cj s j = true → cj t j = true → Xk K s j ≠ Xk K t j := by
      rw [List.pairwise_iff_getElem]
      intro i k hi hk hik c1 c2 e
      rw [segs_len] at hi hk
      have e1 : (segs r)[i] = (ptAt r i, ptAt r (i + 1)) := by
        have := segs_at (ptAt_get (r := r) (i := i) (by omega)) (ptAt_get (by omega)); rw [List.getElem?_eq_getElem (by rw [segs_len]; omega)] at this; exact Option.some.inj this
      have e2 : (segs r)[k] = (ptAt r k, ptAt r (k + 1)) := by
        have := segs_at (ptAt_get (r := r) (i := k) (by omega)) (ptAt_get (by omega)); rw [List.getElem?_eq_getElem (by rw [segs_len]; omega)] at this; exact Option.some.inj this
      rw [e1] at c1 e
      rw [e2] at c2 e
      have m1 : (ptAt r i, ptAt r (i + 1)) ∈ segs r := e1 ▸ List.getElem_mem _
      have m2 : (ptAt r k, ptAt r (k + 1)) ∈ segs r := e2 ▸ List.getElem_mem _
      have hi' : i + 1 < r.length := by omega
      have hr : VR (r.take i ++ ptAt r i :: ptAt r (i + 1) :: r.drop (i + 2)) := by rw [← split_at hi']; exact h
      have := hr.offS (later_oth (k := k) hi' (by omega) (by omega)) (ins_X hK.1 (hK.2 _ m1) c1)
      rw [e] at this
      exact this (on_X hK.1 (hK.2 _ m2) c2)
    unfold List.Nodup
    rw [List.pairwise_map]
    refine (List.pairwise_filter.2 ?_)
    exact key.imp fun {s t} hst c1 c2 => hst c1 c2
  · intro p hp
    unfold atJ at hp
    obtain ⟨s, hs, rfl⟩ := List.mem_map.1 hp
    obtain ⟨hs, c⟩ := List.mem_filter.1 hs
    simp only
    rw [cnt_rays hK.1 _ _ _ hK.2]
    obtain ⟨i, hi, rfl⟩ := segs_mem_at hs
    have hr : VR (r.take i ++ ptAt r i :: ptAt r (i + 1) :: r.drop (i + 2)) := by rw [← split_at hi]; exact h
    have hm := ins_X hK.1 (hK.2 _ hs) c
    have e1 : raysS (segs r) (ms K (Xk K (ptAt r i, ptAt r (i + 1)) j) j) = raysS (oth (r.take i) (ptAt r i) (ptAt r (i + 1)) (r.drop (i + 2))) (ms K (Xk K (ptAt r i, ptAt r (i + 1)) j) j) := by
      have rs : ∀ M : Spot, raysS (segs r) M = (ray (ptAt r i) (ptAt r (i + 1)) M.1 M.2 ^^ raysS (oth (r.take i) (ptAt r i) (ptAt r (i + 1)) (r.drop (i + 2))) M) := fun M => by
        have := rays_oth (r.take i) (ptAt r i) (ptAt r (i + 1)) (r.drop (i + 2)) M
        rw [← split_at hi] at this
        exact this
      rw [rs]
      have := ray_X hK.1 (hK.2 _ hs) (Xk K (ptAt r i, ptAt r (i + 1)) j) j
      simp only at this
      rw [this, decide_eq_false (by omega)]; simp
    rw [e1]
    have e2 := hr.lh_spots hm (mid_ins hr.here)
    have e3 := h.lhI_all i hi
    exact e2.trans e3
  · unfold atJ
    have e1 : sumI (fun p : XU => sgU p.2) (((segs r).filter fun s => cj s j).map fun s => (Xk K s j, upS s.1 s.2)) = sumI (fun s : Seg => sgU (upS s.1 s.2)) ((segs r).filter fun s => cj s j) := by
      unfold sumI; rw [List.map_map]; rfl
    rw [e1, sumI_filter]
    have e2 := sum_ring (fun p : Pnt => if j < p.2 then (1 : Int) else 0) (shut_ends h.shut)
    refine Eq.trans ?_ e2
    refine sumI_congr fun s hs => ?_
    by_cases c : cj s j = true
    · rw [if_pos c]
      rcases of_decide_eq_true c with ⟨h1, h2⟩ | ⟨h1, h2⟩
      · rw [if_pos h2, if_neg (by omega)]
        have : upS s.1 s.2 = true := by unfold upS; exact decide_eq_true (by omega)
        rw [this]; rfl
      · rw [if_neg (by omega), if_pos h2]
        have : upS s.1 s.2 = false := by unfold upS; exact decide_eq_false (by omega)
        rw [this]; rfl
    · have hc : ¬ ((s.1.2 ≤ j ∧ j < s.2.2) ∨ (s.2.2 ≤ j ∧ j < s.1.2)) := fun k => c (decide_eq_true k)
      rw [if_neg c]
      by_cases k1 : j < s.2.2
      · rw [if_pos k1, if_pos (by omega)]; rfl
      · rw [if_neg k1, if_neg (by omega)]; rfl
end Vd
end Go.Proofs.YtcclepohmhdpbabGreatDoor

namespace Go.Proofs.YtcclepohmhdpbabGreatDoor
set_option linter.all false
namespace Vd
def Js (lo : Int) (N : Nat) : List Int := (List.range N).map fun (i : Nat) => lo + (i : Int)
theorem Js_succ (lo : Int) (N : Nat) : Js lo (N + 1) = Js lo N ++ [lo + (N : Int)] := by unfold Js; rw [List.range_succ, List.map_append]; rfl
theorem mem_Js {lo j : Int} {N : Nat} : j ∈ Js lo N ↔ lo ≤ j ∧ j < lo + N := by
  unfold Js
  rw [List.mem_map]
  constructor
  · rintro ⟨i, hi, rfl⟩; have := List.mem_range.1 hi; omega
  · rintro ⟨h1, h2⟩; exact ⟨(j - lo).toNat, List.mem_range.2 (by omega), by omega⟩
def Fn (K : Int) (s : Seg) (n : Int) : Int := 2 * K * s.1.1 * n + (s.2.1 - s.1.1) * qd K s * (n * n)
theorem Fn_step (K : Int) (s : Seg) (j : Int) : Fn K s (j + 1 - s.1.2) = Fn K s (j - s.1.2) + Xk K s j := by unfold Fn Xk; grind
def clampN (lo a d : Int) (N : Nat) : Int := if lo + N ≤ a then 0 else if lo + N ≤ a + d then lo + N - a else d
theorem col_up {K : Int} {s : Seg} (lo : Int) (h1 : lo ≤ s.1.2) (h2 : s.1.2 < s.2.2) : ∀ N : Nat, sumI (fun j => if s.1.2 ≤ j ∧ j < s.2.2 then Xk K s j else 0) (Js lo N) = Fn K s (clampN lo s.1.2 (dyS s) N) := by
  intro N
  have d0 : dyS s = s.2.2 - s.1.2 := rfl
  induction N with
  | zero =>
    unfold clampN
    rw [if_pos (by omega)]
    simp [Js, sumI, Fn]
  | succ N ih =>
    rw [Js_succ, sumI_append, ih, sumI_cons, sumI_nil]
    unfold clampN
    by_cases c1 : lo + (N : Int) < s.1.2
    · rw [if_pos (by omega), if_neg (by omega), if_pos (by omega)]; omega
    · by_cases c2 : lo + (N : Int) < s.2.2
      · rw [if_pos (show s.1.2 ≤ lo + (N : Int) ∧ lo + (N : Int) < s.2.2 by omega)]
        have e := Fn_step K s (lo + N)
        have e1 : (if lo + (N : Int) ≤ s.1.2 then (0 : Int) else if lo + (N : Int) ≤ s.1.2 + dyS s then lo + N - s.1.2 else dyS s) = lo + N - s.1.2 := by
          by_cases c3 : lo + (N : Int) ≤ s.1.2
          · rw [if_pos c3]; omega
          · rw [if_neg c3, if_pos (by omega)]
        have e2 : (if lo + ((N + 1 : Nat) : Int) ≤ s.1.2 then (0 : Int) else if lo + ((N + 1 : Nat) : Int) ≤ s.1.2 + dyS s then lo + ((N + 1 : Nat) : Int) - s.1.2 else dyS s) = lo + N + 1 - s.1.2 := by
          rw [if_neg (by omega), if_pos (by omega)]; omega
        rw [e1, e2, e]; omega
      · rw [if_neg (show ¬ (s.1.2 ≤ lo + (N : Int) ∧ lo + (N : Int) < s.2.2) by omega)]
        have e1 : (if lo + (N : Int) ≤ s.1.2 then (0 : Int) else if lo + (N : Int) ≤ s.1.2 + dyS s then lo + N - s.1.2 else dyS s) = dyS s := by
          rw [if_neg (by omega)]
          by_cases c3 : lo + (N : Int) ≤ s.1.2 + dyS s
          · rw [if_pos c3]; omega
          · rw [if_neg c3]
        have e2 : (if lo + ((N + 1 : Nat) : Int) ≤ s.1.2 then (0 : Int) else if lo + ((N + 1 : Nat) : Int) ≤ s.1.2 + dyS s then lo + ((N + 1 : Nat) : Int) - s.1.2 else dyS s) = dyS s := by
          rw [if_neg (by omega), if_neg (by omega)]
        rw [e1, e2]; omega
theorem col_all {K : Int} {s : Seg} (hq : qd K s * dyS s = K) {lo : Int} {N : Nat} (h1 : lo ≤ s.1.2) (h2 : s.1.2 < s.2.2) (h3 : s.2.2 ≤ lo + N) : sumI (fun j => if s.1.2 ≤ j ∧ j < s.2.2 then Xk K s j else 0) (Js lo N) = K * (dyS s * (s.1.1 + s.2.1)) := by
  rw [col_up lo h1 h2]
  have d0 : dyS s = s.2.2 - s.1.2 := rfl
  have e : clampN lo s.1.2 (dyS s) N = dyS s := by
    unfold clampN
    rw [if_neg (by omega)]
    by_cases c3 : lo + (N : Int) ≤ s.1.2 + dyS s
    · rw [if_pos c3]; omega
    · rw [if_neg c3]
  rw [e]
  unfold Fn
  generalize qd K s = q at *
  generalize dyS s = d at *
  grind
theorem qd_swap {K : Int} {s : Seg} : qd K (s.2, s.1) = -(qd K s) := by
  unfold qd dyS
  simp only
  rw [show s.1.2 - s.2.2 = -(s.2.2 - s.1.2) by omega, Int.ediv_neg]
theorem Xk_swap {K : Int} {s : Seg} (hq : qd K s * dyS s = K) (j : Int) : Xk K (s.2, s.1) j = Xk K s j := by
  unfold Xk
  rw [qd_swap]
  simp only
  unfold dyS at hq
  generalize qd K s = q at *
  grind
def fS (K : Int) (s : Seg) (j : Int) : Int := if cj s j = true then sgU (upS s.1 s.2) * Xk K s j else 0
theorem sum_col {K : Int} {s : Seg} (h : ∃ q, q * dyS s = K ∨ dyS s = 0) {lo : Int} {N : Nat} (h1 : lo ≤ s.1.2) (h2 : lo ≤ s.2.2) (h3 : s.1.2 ≤ lo + N) (h4 : s.2.2 ≤ lo + N) : sumI (fS K s) (Js lo N) = K * (dyS s * (s.1.1 + s.2.1)) := by
  have d0 : dyS s = s.2.2 - s.1.2 := rfl
  rcases (show s.1.2 < s.2.2 ∨ s.2.2 < s.1.2 ∨ s.1.2 = s.2.2 by omega) with c | c | c
  · have hq := qd_mul h (by omega)
    rw [← col_all hq h1 c h4]
    refine sumI_congr fun j _ => ?_
    unfold fS
    have u : upS s.1 s.2 = true := by unfold upS; exact decide_eq_true (by omega)
    rw [u]
    by_cases k : cj s j = true
    · rw [if_pos k, if_pos (by have := of_decide_eq_true k; omega)]; simp [sgU]
    · rw [if_neg k, if_neg (fun k2 => k (decide_eq_true (.inl k2)))]
  · have hq := qd_mul h (by omega)
    have hq' : qd K (s.2, s.1) * dyS (s.2, s.1) = K := by
      rw [qd_swap]; unfold dyS at *; simp only; grind
    have e := col_all (s := (s.2, s.1)) hq' (lo := lo) (N := N) h2 c h3
    have e2 : K * (dyS s * (s.1.1 + s.2.1)) = -(K * (dyS (s.2, s.1) * (s.2.1 + s.1.1))) := by unfold dyS; simp only; grind
    rw [e2, ← e, ← sumI_neg]
    refine sumI_congr fun j _ => ?_
    unfold fS
    have u : upS s.1 s.2 = false := by unfold upS; exact decide_eq_false (by omega)
    rw [u]
    simp only
    by_cases k : cj s j = true
    · rw [if_pos k, if_pos (by have := of_decide_eq_true k; omega), Xk_swap hq]; simp [sgU]
    · rw [if_neg k, if_neg (fun k2 => k (decide_eq_true (.inr k2)))]; rfl
  · rw [show dyS s = 0 by omega, Int.zero_mul, Int.mul_zero]
    have : sumI (fS K s) (Js lo N) = sumI (fun _ => (0 : Int)) (Js lo N) := sumI_congr fun j _ => by
      unfold fS; rw [if_neg (fun k => by have := of_decide_eq_true k; omega)]
    rw [this]
    generalize Js lo N = l
    induction l with
    | nil => rfl
    | cons a t ih => rw [sumI_cons, ih]; rfl
def area2 (r : Ring) : Int := sumI (fun s : Seg => dyS s * (s.1.1 + s.2.1)) (segs r)
theorem ex_low : ∀ l : List Seg, ∃ (lo : Int) (N : Nat), ∀ s ∈ l, lo ≤ s.1.2 ∧ lo ≤ s.2.2 ∧ s.1.2 ≤ lo + N ∧ s.2.2 ≤ lo + N := by
  intro l
  induction l with
  | nil => exact ⟨0, 0, fun s hs => by simp at hs⟩
  | cons a t ih =>
    obtain ⟨lo, N, h⟩ := ih
    refine ⟨lo - a.1.2.natAbs - a.2.2.natAbs - lo.natAbs, N + 2 * (a.1.2.natAbs + a.2.2.natAbs + lo.natAbs), fun s hs => ?_⟩
    rcases List.mem_cons.1 hs with rfl | hs
    · omega
    · have := h s hs; omega
theorem sum_at (K j : Int) (l : List Seg) : sumI (fun s => fS K s j) l = sumI sgX (atJ K j l) := by
  unfold atJ
  have : sumI sgX ((l.filter fun s => cj s j).map fun s => (Xk K s j, upS s.1 s.2)) = sumI (fun s : Seg => sgU (upS s.1 s.2) * Xk K s j) (l.filter fun s => cj s j) := by
    unfold sumI; rw [List.map_map]; rfl
  rw [this, sumI_filter]
  rfl
theorem area_hand {r : Ring} (h : VR r) (hn : ∃ s ∈ segs r, dyS s ≠ 0) : 0 < sgU (LhI r 0) * area2 r := by
  obtain ⟨K, hK⟩ := ex_K (segs r)
  obtain ⟨lo, N, hl⟩ := ex_low (segs r)
  have e1 : sumI (fun s => sumI (fS K s) (Js lo N)) (segs r) = K * area2 r := by
    unfold area2
    rw [← sumI_mul]
    refine sumI_congr fun s hs => ?_
    obtain ⟨a, b, c, d⟩ := hl s hs
    exact sum_col (hK.2 s hs) a b c d
  rw [sumI_swap] at e1
  have e2 : sumI (fun j => sgU (LhI r 0) * sumI (fun s => fS K s j) (segs r)) (Js lo N) = sgU (LhI r 0) * (K * area2 r) := by rw [sumI_mul, e1]
  have pos : 0 < sumI (fun j => sgU (LhI r 0) * sumI (fun s => fS K s j) (segs r)) (Js lo N) := by
    have hh : ∀ j, (atJ K j (segs r) = [] → sgU (LhI r 0) * sumI (fun s => fS K s j) (segs r) = 0) ∧ (atJ K j (segs r) ≠ [] → 0 < sgU (LhI r 0) * sumI (fun s => fS K s j) (segs r)) := fun j => by
      obtain ⟨k1, k2⟩ := at_height h hK j
      rw [sum_at]
      exact ⟨fun e => by rw [k1 e, Int.mul_zero], k2⟩
    refine sumI_pos (fun j _ => ?_) ?_
    · by_cases c : atJ K j (segs r) = []
      · rw [(hh j).1 c]; exact Int.le_refl _
      · have := (hh j).2 c; omega
    · obtain ⟨s, hs, hd⟩ := hn
      obtain ⟨a, b, c, d⟩ := hl s hs
      have d0 : dyS s = s.2.2 - s.1.2 := rfl
      obtain ⟨j, hj, hc⟩ : ∃ j, j ∈ Js lo N ∧ cj s j = true := by
        rcases (show s.1.2 < s.2.2 ∨ s.2.2 < s.1.2 by omega) with k | k
        · exact ⟨s.1.2, mem_Js.2 (by omega), decide_eq_true (.inl ⟨Int.le_refl _, k⟩)⟩
        · exact ⟨s.2.2, mem_Js.2 (by omega), decide_eq_true (.inr ⟨Int.le_refl _, k⟩)⟩
      refine ⟨j, hj, (hh j).2 fun e => ?_⟩
      unfold atJ at e
      have : s ∈ (segs r).filter fun s => cj s j := List.mem_filter.2 ⟨hs, hc⟩
      have e3 : (segs r).filter (fun s => cj s j) = [] := by simpa using e
      rw [e3] at this
      simp at this
  rw [e2] at pos
  have : sgU (LhI r 0) * (K * area2 r) = K * (sgU (LhI r 0) * area2 r) := by grind
  rw [this] at pos
  rcases Int.lt_or_le 0 (sgU (LhI r 0) * area2 r) with k | k
  · exact k
  · have := m0 (x := K) (y := sgU (LhI r 0) * area2 r) (by have := hK.1; omega) k; omega
end Vd
end Go.Proofs.YtcclepohmhdpbabGreatDoor
