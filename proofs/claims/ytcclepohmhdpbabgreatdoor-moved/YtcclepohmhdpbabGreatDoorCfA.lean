import Derived.Test.YtcclepohmhdpbabGreatDoorGgC
import Derived.Test.YtcclepohmhdpbabGreatDoorVdG
namespace Go.Proofs.YtcclepohmhdpbabGreatDoor
set_option linter.all false
namespace Vd
theorem ray_left {a b p : Pnt} (h1 : p.1 < a.1) (h2 : p.1 < b.1) : ray a b p 1 = (decide (p.2 < a.2) ^^ decide (p.2 < b.2)) := by
  have id : cr a b p 1 = (p.2 - a.2) * (b.1 - p.1) + (b.2 - p.2) * (a.1 - p.1) := by unfold cr; grind
  unfold ray
  simp only [Int.mul_one]
  by_cases c1 : p.2 < a.2
  · by_cases c2 : p.2 < b.2
    · rw [if_pos (by rw [decide_eq_true c1, decide_eq_true c2]), decide_eq_true c1, decide_eq_true c2]; rfl
    · rw [decide_eq_true c1, decide_eq_false c2, if_neg (by decide), if_neg (by omega)]
      have k1 : (p.2 - a.2) * (b.1 - p.1) < 0 := np (by omega) (by omega)
      have k2 : (b.2 - p.2) * (a.1 - p.1) ≤ 0 := n0 (by omega) (by omega)
      rw [decide_eq_true ((sg_neg _).2 (by omega))]; rfl
  · by_cases c2 : p.2 < b.2
    · rw [decide_eq_false c1, decide_eq_true c2, if_neg (by decide), if_pos (by omega)]
      have k1 : 0 ≤ (p.2 - a.2) * (b.1 - p.1) := p0 (by omega) (by omega)
      have k2 : 0 < (b.2 - p.2) * (a.1 - p.1) := pp (by omega) (by omega)
      rw [decide_eq_true ((sg_pos _).2 (by omega))]; rfl
    · rw [if_pos (by rw [decide_eq_false c1, decide_eq_false c2]), decide_eq_false c1, decide_eq_false c2]; rfl
theorem rays_left {p : Pnt} : ∀ (t : Ring) (a : Pnt), (∀ v ∈ a :: t, p.1 < v.1) → raysS (segs (a :: t)) (p, 1) = (decide (p.2 < a.2) ^^ decide (p.2 < ((a :: t).getLast (by simp)).2)) := by
  intro t
  induction t with
  | nil =>
    intro a _
    simp [segs, raysS]
    try exact decide_eq_decide.2 Iff.rfl
  | cons b t ih =>
    intro a h
    rw [segs_cons2, raysS_cons, ih b fun v hv => h v (by simp [hv]), ray_left (h a (by simp)) (h b (by simp))]
    simp only [List.getLast_cons_cons]
    cases decide (p.2 < a.2) <;> cases decide (p.2 < b.2) <;> simp <;> exact decide_eq_decide.2 Iff.rfl
theorem left_out {r : Ring} (he : Ends r) {p : Pnt} (h : ∀ v ∈ r, p.1 < v.1) : place r (p, 1) = 0 := by
  have hn : ∀ s ∈ segs r, ¬ has s.1 s.2 p 1 := fun s hs k => by
    obtain ⟨m1, m2⟩ := segs_mem hs
    have a1 := h _ m1
    have a2 := h _ m2
    have := k.2.1
    unfold btw at this
    simp only [Int.mul_one] at this
    omega
  rw [place_rays (p := (p, 1)) hn]
  cases r with
  | nil => rfl
  | cons a t =>
    rw [rays_left t a h]
    unfold Ends at he
    rw [List.head?_cons, List.getLast?_eq_some_getLast (by simp)] at he
    rw [← Option.some.inj he]
    simp
theorem least_turn {a b c : Pnt} (hab : a ≠ b) (hcb : c ≠ b) (ha : ¬ bef a b) (hc : ¬ bef c b) (h : cr a b c 1 ≠ 0 ∨ has a c b 1) : cr a b c 1 ≠ 0 := by
  rcases h with h | h
  · exact h
  · exfalso
    have ne1 : a.1 ≠ b.1 ∨ a.2 ≠ b.2 := by
      by_cases k : a.1 = b.1
      · exact .inr fun e => hab (Prod.ext k e)
      · exact .inl k
    have ne2 : c.1 ≠ b.1 ∨ c.2 ≠ b.2 := by
      by_cases k : c.1 = b.1
      · exact .inr fun e => hcb (Prod.ext k e)
      · exact .inl k
    unfold bef at ha hc
    obtain ⟨h0, h1, h2⟩ := h
    unfold btw at h1 h2
    simp only [Int.mul_one] at h1 h2
    have e : a.1 = b.1 ∨ c.1 = b.1 := by omega
    have id : (c.1 - a.1) * (b.2 - a.2) - (c.2 - a.2) * (b.1 - a.1) = 0 := by unfold cr at h0; simpa using h0
    rcases e with e | e
    · rw [← e, Int.sub_self, Int.mul_zero, Int.sub_zero] at id
      rcases Int.mul_eq_zero.1 id with k | k <;> omega
    · have : (b.1 - a.1) * (b.2 - a.2 - (c.2 - a.2)) = 0 := by rw [← e] at id ⊢; grind
      rcases Int.mul_eq_zero.1 this with k | k <;> omega
theorem near_next {b c u v : Pnt} {k : Int} (hk : 0 < k) (hu : u.1 < 0) (hd : b.1 ≤ c.1) {σ : Int}
    (h1 : 0 < σ * (v.1 * u.2 - v.2 * u.1)) (h2 : σ * (v.1 * (c.2 - b.2) - v.2 * (c.1 - b.1)) < 0) (hs : σ = 1 ∨ σ = -1) :
    Off (nrP k b u) (nrP k b v) (sc k b) (sc k c) ∧ ¬ Xs (nrP k b u) (nrP k b v) (sc k b) (sc k c) := by
  have cb : cr (nrP k b u) (nrP k b v) (sc k b) 1 = -(v.1 * u.2 - v.2 * u.1) := by unfold cr nrP sc; grind
  have cc : cr (nrP k b u) (nrP k b v) (sc k c) 1 = k * ((v.1 * (c.2 - b.2) - v.2 * (c.1 - b.1)) + ((c.1 - b.1) * u.2 - (c.2 - b.2) * u.1)) - (v.1 * u.2 - v.2 * u.1) := by unfold cr nrP sc; grind
  have cz : cr (sc k b) (sc k c) (nrP k b u) 1 = k * ((c.1 - b.1) * u.2 - (c.2 - b.2) * u.1) := by unfold cr nrP sc; grind
  have cm : cr (sc k b) (sc k c) (nrP k b v) 1 = -(k * (v.1 * (c.2 - b.2) - v.2 * (c.1 - b.1))) := by unfold cr nrP sc; grind
  have bz : cr (sc k b) (nrP k b v) (nrP k b u) 1 = v.1 * u.2 - v.2 * u.1 := by unfold cr nrP sc; grind
  have bc : cr (sc k b) (nrP k b v) (sc k c) 1 = k * (v.1 * (c.2 - b.2) - v.2 * (c.1 - b.1)) := by unfold cr nrP sc; grind
  have bm : cr (sc k b) (nrP k b v) (nrP k b v) 1 = 0 := by unfold cr nrP sc; grind
  generalize hX : v.1 * u.2 - v.2 * u.1 = X at *
  generalize hD : v.1 * (c.2 - b.2) - v.2 * (c.1 - b.1) = D at *
  generalize hE : (c.1 - b.1) * u.2 - (c.2 - b.2) * u.1 = E at *
  have hX0 : X ≠ 0 := by rcases hs with rfl | rfl <;> omega
  have hD0 : D ≠ 0 := by rcases hs with rfl | rfl <;> omega
  have hkD : k * D ≠ 0 := fun e => by rcases Int.mul_eq_zero.1 e with g | g <;> omega
  have hzm : nrP k b u ≠ nrP k b v := fun e => by
    have : X = 0 := by rw [← bz, e, bm]
    exact hX0 this
  refine ⟨⟨fun q => ?_, fun q => ?_, fun q => ?_, fun q => ?_⟩, fun q => ?_⟩
  · have := q.1; rw [cb] at this; omega
  · obtain ⟨q0', q1, q2⟩ := (has_on hzm (by omega)).1 q
    have e := cr_on q.1 (sc k b) (nrP k b v)
    rw [bc, bz, bm, Int.mul_zero, Int.add_zero] at e
    have kp := kk_pos hzm
    have p1 : 0 ≤ kk (nrP k b u) (nrP k b v) - pos (nrP k b u) (nrP k b v) (sc k c) := by
      rw [Int.mul_one] at q2
      unfold pos
      omega
    rcases hs with rfl | rfl
    · have g1 : D < 0 := by omega
      have g2 : 0 < X := by omega
      have g3 := pn kp (pn hk g1)
      have g4 := p0 p1 (show 0 ≤ X by omega)
      omega
    · have g1 : 0 < D := by omega
      have g2 : X < 0 := by omega
      have g3 := pp kp (pp hk g1)
      have g4 := m0 p1 (show X ≤ 0 by omega)
      omega
  · have := q.2.1
    unfold btw sc nrP at this
    simp only [Int.mul_one] at this
    have : k * b.1 ≤ k * c.1 := Int.mul_le_mul_of_nonneg_left hd (by omega)
    omega
  · have := q.1; rw [cm] at this; omega
  · obtain ⟨o1, o2⟩ := q
    rw [cb, cc] at o1
    rw [cz, cm] at o2
    unfold Opp at o1 o2
    rcases hs with rfl | rfl
    · have g1 : D < 0 := by omega
      have g3 := pn hk g1
      have g2 : k * E < 0 := by omega
      have : k * (D + E) = k * D + k * E := Int.mul_add _ _ _
      omega
    · have g1 : 0 < D := by omega
      have g3 := pp hk g1
      have g2 : 0 < k * E := by omega
      have : k * (D + E) = k * D + k * E := Int.mul_add _ _ _
      omega
theorem VR.hand_turn {p1 : Ring} {a b c : Pnt} {p2 : Ring} (h : VR (p1 ++ a :: b :: p2)) (hbc : (b, c) ∈ oth p1 a b p2) (hun : ∀ t ∈ oth p1 a b p2, t.1 = b → t = (b, c)) (hm : ∀ v ∈ p1 ++ a :: b :: p2, ¬ bef v b) :
    cr a b c 1 ≠ 0 ∧ Lh p1 a b p2 (midOf a b) = decide (0 < cr a b c 1) := by
  have hab := h.here
  have hbc' : b ≠ c := h.oth_long hbc
  have hma := hm a (by simp)
  have hmc : ¬ bef c b := by
    have hs : (b, c) ∈ segs (p1 ++ a :: b :: p2) := mem_oth.2 (.inr hbc)
    exact hm c (segs_mem hs).2
  have hcr : cr a b c 1 ≠ 0 := by
    refine least_turn hab (Ne.symm hbc') hma hmc ?_
    rcases h.other hbc with e | ⟨e, -⟩
    · exact absurd e (meet_pt hab hbc' (has_b a b) (has_a b c))
    · exact no_back hab hbc' e
  refine ⟨hcr, ?_⟩
  have hon : ∀ t ∈ oth p1 a b p2, ¬ has t.1 t.2 b 1 ∨ t = (b, c) := by
    intro t ht
    by_cases hh : has t.1 t.2 b 1
    · right
      rcases h.other ht with e | ⟨e, q | q⟩
      · exact absurd e (meet_pt hab (h.oth_long ht) (has_b a b) hh)
      · exact hun t ht q
      · have := meet_two hab (h.oth_long ht) (Ne.symm hab) (has_b a b) hh (has_a a b) (by rw [← q]; exact has_b _ _)
        omega
    · exact .inl hh
  obtain ⟨v, hv⟩ : ∃ v : Pnt, v = (a.1 - b.1, a.2 - b.2) := ⟨_, rfl⟩
  have v1 : v.1 = a.1 - b.1 := by rw [hv]
  have v2 : v.2 = a.2 - b.2 := by rw [hv]
  have hcv : cr a b c 1 = -(v.1 * (c.2 - b.2) - v.2 * (c.1 - b.1)) := by rw [v1, v2]; unfold cr; grind
  unfold bef at hma hmc
  have hd : b.1 ≤ c.1 := by omega
  have hv0 : 0 ≤ v.1 := by omega
  have hv1 : v.1 = 0 → 0 < v.2 := fun e => by
    have : a.2 ≠ b.2 := fun k => hab (Prod.ext (by omega) k)
    omega
  obtain ⟨σ, hs, hσ⟩ : ∃ σ : Int, (σ = 1 ∨ σ = -1) ∧ σ * (v.1 * (c.2 - b.2) - v.2 * (c.1 - b.1)) < 0 ∧ (σ = 1 ↔ 0 < cr a b c 1) := by
    rcases Int.lt_or_gt_of_ne hcr with g | g
    · exact ⟨-1, .inr rfl, by omega, by omega⟩
    · exact ⟨1, .inl rfl, by omega, by omega⟩
  obtain ⟨hσ1, hσ2⟩ := hσ
  obtain ⟨Y, hY⟩ : ∃ Y : Int, Y = v.2.natAbs + 1 := ⟨_, rfl⟩
  obtain ⟨u, hu⟩ : ∃ u : Pnt, u = (-1, σ * Y) := ⟨_, rfl⟩
  have u1 : u.1 = -1 := by rw [hu]
  have u2 : u.2 = σ * Y := by rw [hu]
  have hX : 0 < σ * (v.1 * u.2 - v.2 * u.1) := by
    rw [u1, u2]
    have e : σ * (v.1 * (σ * Y) - v.2 * -1) = v.1 * Y + σ * v.2 := by
      rcases hs with rfl | rfl <;> grind
    rw [e]
    rcases Int.lt_or_le 0 v.1 with g | g
    · have k : Y ≤ v.1 * Y := by
        have := Int.mul_le_mul_of_nonneg_right (show (1 : Int) ≤ v.1 by omega) (show (0 : Int) ≤ Y by omega)
        omega
      rcases hs with rfl | rfl <;> omega
    · have z : v.1 = 0 := by omega
      have p := hv1 z
      have s1 : σ = 1 := by
        rcases hs with r | r
        · exact r
        · exfalso
          rw [r, z] at hσ1
          have := p0 (x := v.2) (y := c.1 - b.1) (by omega) (by omega)
          omega
      rw [z, s1]; omega
  obtain ⟨k, hk2, hkb⟩ := ex_big (fun t => big t u v) (oth p1 a b p2)
  have hk : (0 : Int) < k := by omega
  have h' := vr_sc hk h
  rw [scR_append, scR_cons, scR_cons] at h'
  have bes : Bes (scR k p1) (sc k a) (sc k b) (scR k p2) (nrP k b v) (nrP k b u) := by
    have key : ∀ s ∈ oth (scR k p1) (sc k a) (sc k b) (scR k p2), Off (nrP k b u) (nrP k b v) s.1 s.2 ∧ ¬ Xs (nrP k b u) (nrP k b v) s.1 s.2 := by
      intro s hs'
      rw [oth_sc] at hs'
      obtain ⟨t, ht, rfl⟩ := List.mem_map.1 hs'
      rcases hon t ht with g | g
      · exact near_off g (hkb t ht)
      · rw [g]; exact near_next hk (by omega) hd hX hσ1 hs
    exact ⟨by rw [hv]; exact near_ins hab hk2, fun s hs' => (key s hs').1, fun s hs' => (key s hs').2⟩
  have crz : cr (sc k a) (sc k b) (nrP k b u) 1 = -(k * (v.1 * u.2 - v.2 * u.1)) := by
    rw [v1, v2]; unfold cr sc nrP; grind
  have hx0 : v.1 * u.2 - v.2 * u.1 ≠ 0 := fun e => by rw [e] at hX; simp at hX
  have crz0 : cr (sc k a) (sc k b) (nrP k b u) 1 ≠ 0 := by
    rw [crz]
    intro e
    have : k * (v.1 * u.2 - v.2 * u.1) = 0 := by omega
    rcases Int.mul_eq_zero.1 this with g | g <;> omega
  have hout : place (scR k p1 ++ sc k a :: sc k b :: scR k p2) (nrP k b u, 1) = 0 := by
    refine left_out (shut_ends h'.shut) fun w hw => ?_
    have e : scR k p1 ++ sc k a :: sc k b :: scR k p2 = scR k (p1 ++ a :: b :: p2) := by rw [scR_append, scR_cons, scR_cons]
    rw [e] at hw
    obtain ⟨x, hx, rfl⟩ := List.mem_map.1 hw
    have hbx := hm x hx
    unfold bef at hbx
    have : k * b.1 ≤ k * x.1 := Int.mul_le_mul_of_nonneg_left (by omega) (by omega)
    show k * b.1 + u.1 < k * x.1
    omega
  have hb := beside (shut_ends h'.shut) h'.here bes crz0
  rw [hout] at hb
  have e1 : Lh (scR k p1) (sc k a) (sc k b) (scR k p2) (nrP k b v, 1) = Lh p1 a b p2 (midOf a b) := by
    rw [lh_sc hk, Int.mul_one]
    have n1 : InsS a b (nrP k b v, k) := by rw [hv]; exact near_insS hab hk2
    exact h.lh_spots n1 (mid_ins hab)
  rw [e1] at hb
  have hp : 0 < cr (sc k a) (sc k b) (nrP k b u) 1 ↔ σ = -1 := by
    rw [crz]
    rcases hs with rfl | rfl
    · have := pp hk (show 0 < v.1 * u.2 - v.2 * u.1 by omega)
      omega
    · have := pn hk (show v.1 * u.2 - v.2 * u.1 < 0 by omega)
      omega
  have hb' : ¬ (σ = -1 ↔ Lh p1 a b p2 (midOf a b) = true) := fun q => by
    rw [if_pos (hp.trans q)] at hb; omega
  clear hb
  cases hL : Lh p1 a b p2 (midOf a b) with
  | true =>
    rw [hL] at hb'
    have : σ = 1 := by
      rcases hs with r | r
      · exact r
      · exact absurd (by simp [r]) hb'
    exact (decide_eq_true (hσ2.1 this)).symm
  | false =>
    rw [hL] at hb'
    have : σ = -1 := by
      rcases hs with r | r
      · exact absurd (by simp [r]) hb'
      · exact r
    exact (decide_eq_false fun g => by have := hσ2.2 g; omega).symm
end Vd
end Go.Proofs.YtcclepohmhdpbabGreatDoor

namespace Go.Proofs.YtcclepohmhdpbabGreatDoor
set_option linter.all false
namespace Vd
def Fw (d : Pnt) : Prop := 0 < d.1 ∨ (d.1 = 0 ∧ 0 < d.2)
theorem fw_of {v y : Pnt} (h : bef v y) : Fw (wy v y) := by unfold bef at h; unfold Fw wy; simp only; omega
theorem fw_ne {d : Pnt} (h : Fw d) : d ≠ (0, 0) := fun e => by rw [e] at h; unfold Fw at h; simp at h
theorem fw_x {u w : Pnt} (hu : Fw u) (hw : Fw w) (hn : ¬ Par u w) : xx u w ≠ 0 := by
  intro h0
  have hd := anti_dd (fw_ne hu) (fw_ne hw) h0 hn
  unfold Fw at hu hw
  unfold xx at h0
  unfold dd at hd
  have a1 := p0 (show 0 ≤ u.1 by omega) (show 0 ≤ w.1 by omega)
  have m := mulc' u.2 w.2
  rcases m.1 (by omega) with ⟨g1, g2⟩ | ⟨g1, g2⟩
  · have b1 := m0 (show 0 ≤ u.1 by omega) (show w.2 ≤ 0 by omega)
    have b2 := p0 (show 0 ≤ u.2 by omega) (show 0 ≤ w.1 by omega)
    have z2 : u.2 * w.1 = 0 := by omega
    have : w.1 = 0 := by rcases Int.mul_eq_zero.1 z2 with q | q; omega; exact q
    omega
  · have b1 := p0 (show 0 ≤ u.1 by omega) (show 0 ≤ w.2 by omega)
    have b2 := n0 (show u.2 ≤ 0 by omega) (show 0 ≤ w.1 by omega)
    have z2 : u.1 * w.2 = 0 := by omega
    have : u.1 = 0 := by rcases Int.mul_eq_zero.1 z2 with q | q; exact q; omega
    omega
theorem fw_trans {u w v : Pnt} (hu : Fw u) (hw : Fw w) (hv : Fw v) (h1 : 0 < xx u w) (h2 : 0 < xx w v) : 0 < xx u v := by
  have e : w.1 * xx u v = u.1 * xx w v + v.1 * xx u w := by unfold xx; grind
  unfold Fw at hu hw hv
  rcases hw with hw | ⟨hw, hw2⟩
  · have hu1 : 0 < u.1 := by
      rcases hu with g | ⟨g, g2⟩
      · exact g
      · exfalso
        unfold xx at h1
        rw [g] at h1
        have := pp g2 hw
        omega
    have a := pp hu1 h2
    have b := p0 (show 0 ≤ v.1 by omega) (show 0 ≤ xx u w by omega)
    exact (sgn_of hw (rfl : w.1 * xx u v = _)).1.2 (by omega)
  · exfalso
    unfold xx at h2
    rw [hw] at h2
    have := p0 (show 0 ≤ w.2 by omega) (show 0 ≤ v.1 by omega)
    omega
def eW : Pnt := (-1, 0)
theorem fw_par {d : Pnt} (h : Fw d) : ¬ Par eW d := fun k => by
  have h2 := k.2; have h1 := k.1
  unfold Fw at h; unfold dd xx eW at *
  simp only at h1 h2
  omega
def Btw2 (h1 h2 u : Pnt) : Prop := (0 < xx h1 u ∧ 0 < xx u h2) ∨ (0 < xx h2 u ∧ 0 < xx u h1)
theorem btw_of {h1 h2 u : Pnt} (f1 : Fw h1) (f2 : Fw h2) (fu : Fw u) (n12 : ¬ Par h1 h2) (n1 : ¬ Par u h1) (n2 : ¬ Par u h2) (h : (decide (Lt h1 h2 u) ^^ decide (Lt h1 h2 eW)) = true) : Btw2 h1 h2 u := by
  have x12 := fw_x f2 f1 (fun q => n12 q.symm)
  have xu1 := fw_x fu f1 n1
  have xu2 := fw_x fu f2 n2
  have s1 := xx_swap u h1
  have s2 := xx_swap h2 u
  have ee1 : xx eW h1 = - h1.2 := by unfold xx eW; simp
  have ee2 : xx h2 eW = h2.2 := by unfold xx eW; simp
  unfold Btw2
  by_cases g : 0 < xx h2 h1
  · have le : ¬ Lt h1 h2 eW := by
      unfold Lt
      rw [if_pos g, ee1, ee2]
      rintro ⟨q1, q2⟩
      unfold Fw at f1 f2
      have a1 := m0 (show 0 ≤ h2.1 by omega) (show h1.2 ≤ 0 by omega)
      have a2 := p0 (show 0 ≤ h2.2 by omega) (show 0 ≤ h1.1 by omega)
      unfold xx at g
      omega
    have lu : Lt h1 h2 u := by
      by_cases q : Lt h1 h2 u
      · exact q
      · simp [q, le] at h
    unfold Lt at lu
    rw [if_pos g] at lu
    exact .inr ⟨lu.2, lu.1⟩
  · have le : Lt h1 h2 eW := by
      unfold Lt
      rw [if_neg g, ee1, ee2]
      by_cases q1 : 0 < - h1.2
      · exact .inl q1
      · by_cases q2 : 0 < h2.2
        · exact .inr q2
        · exfalso
          unfold Fw at f1 f2
          have a1 := p0 (show 0 ≤ h2.1 by omega) (show 0 ≤ h1.2 by omega)
          have a2 := n0 (show h2.2 ≤ 0 by omega) (show 0 ≤ h1.1 by omega)
          apply g
          unfold xx at x12 ⊢
          omega
    have lu : ¬ Lt h1 h2 u := by
      intro q
      simp [q, le] at h
    unfold Lt at lu
    rw [if_neg g] at lu
    left
    omega
theorem btw_no {a1 a2 h1 h2 : Pnt} (fa1 : Fw a1) (fa2 : Fw a2) (f1 : Fw h1) (f2 : Fw h2) (b1 : Btw2 h1 h2 a1) (b2 : Btw2 h1 h2 a2) (b3 : Btw2 a1 a2 h1) : False := by
  have s1 := xx_swap a1 h1
  have s2 := xx_swap a2 h1
  have s3 := xx_swap h1 h2
  unfold Btw2 at *
  rcases b1 with ⟨p, q⟩ | ⟨p, q⟩
  · rcases b2 with ⟨p', q'⟩ | ⟨p', q'⟩
    · omega
    · have := fw_trans f1 fa1 f2 p q
      have := fw_trans f2 fa2 f1 p' q'
      omega
  · rcases b2 with ⟨p', q'⟩ | ⟨p', q'⟩
    · have := fw_trans f2 fa1 f1 p q
      have := fw_trans f1 fa2 f2 p' q'
      omega
    · omega
theorem left_near {r : Ring} (he : Ends r) {v : Pnt} (h : ∀ p ∈ r, ¬ bef p v) {k : Int} (hk : 0 < k) : place r (nrP k v eW, k) = 0 := by
  have e : place r (nrP k v eW, k) = place (scR k r) (nrP k v eW, 1) := by rw [place_sc hk, Int.mul_one]
  rw [e]
  apply left_out (ends_sc he)
  intro p hp
  obtain ⟨q, hq, rfl⟩ := List.mem_map.1 hp
  have := h q hq
  unfold bef at this
  unfold nrP eW sc
  simp only
  have := Int.mul_le_mul_of_nonneg_left (show v.1 ≤ q.1 by omega) (Int.le_of_lt hk)
  omega
theorem on_after {r : Ring} {v : Pnt} (h : ∀ p ∈ r, ¬ bef p v) {z : Pnt} (hz : place r (z, 1) = 1) : ¬ bef z v := by
  intro hb
  obtain ⟨s, hs, hh⟩ := place_one.1 hz
  have h1 : ¬ bef z (fwd s.1 s.2).1 := (has_fwd hh).1
  have m := segs_mem hs
  have : (fwd s.1 s.2).1 ∈ r := by
    unfold fwd
    split
    · exact m.2
    · exact m.1
  have := h _ this
  unfold bef at *
  omega
theorem before_out {r : Ring} (he : Ends r) {v : Pnt} (h : ∀ p ∈ r, ¬ bef p v) {z : Pnt} (hz : bef z v) : place r (z, 1) = 0 := by
  have off : OffR r (z, 1) := offR_of fun q => on_after h q hz
  obtain ⟨K, hK, f⟩ := near_none he off (0, 0) eW
  obtain ⟨o1, o2, e⟩ := f K (Int.le_refl _)
  have hz' : ∀ p ∈ r, ¬ bef p z := fun p hp q => h p hp (bef_trans q hz)
  have e0 := left_near he hz' (show 0 < K by omega)
  have e1 : nrP K z (0, 0) = sc K z := by unfold nrP sc; simp
  rw [place_inn o2 o1 e.symm, e1] at e0
  have := place_spot (show 0 < K by omega) r z 1
  rw [Int.mul_one] at this
  rw [this] at e0
  exact e0
theorem Spl.mem {r : Ring} {z y x : Pnt} {O : List Seg} (h : Spl r z y x O) : y ∈ r ∧ x ∈ r := by
  rcases h.sp with k | ⟨k, -⟩
  · exact ⟨(segs_mem (k.mem_iff.2 (by simp : (y, z) ∈ (y, z) :: (z, x) :: O))).1, (segs_mem (k.mem_iff.2 (by simp : (z, x) ∈ (y, z) :: (z, x) :: O))).2⟩
  · have := segs_mem (k.mem_iff.2 (by simp : (y, x) ∈ (y, x) :: O))
    exact this
theorem bef_total {p q : Pnt} (h : ¬ bef p q) (hn : p ≠ q) : bef q p := by
  unfold bef at *
  by_cases e : p.1 = q.1
  · by_cases e2 : p.2 = q.2
    · exact absurd (Prod.ext e e2) hn
    · omega
  · omega
theorem nest_sym {A H : Ring} (vA : VR A) (vH : VR H) (hx : cross A H = false) (hl : lies H A 2 = true) {p : Spot} (hw : 0 < p.2) (hp : place A p = 1) : place H p ≠ 2 := by
  intro h2
  have eA := shut_ends vA.shut
  have eH := shut_ends vH.shut
  obtain ⟨V, hV⟩ := TwoR.one ⟨vA, vH, hx, noThru vA vH hx hl⟩
  have e2 : V = 2 := by rw [← hV p hw hp (by rw [h2]; decide)]; exact h2
  subst e2
  have hne : A ≠ [] := fun e => by have := vA.shut.len; rw [e] at this; simp at this
  obtain ⟨v, hv, hle⟩ := least_of hne
  have hA : ∀ q ∈ A, ¬ bef q v := fun q hq k => by
    rcases hle q hq with e | e
    · rw [e] at k; unfold bef at k; omega
    · unfold bef at *; omega
  have hH : ∀ q ∈ H, ¬ bef q v := fun q hq k => by
    have h0 := before_out eA hA k
    have hon : place H (q, 1) = 1 := by
      obtain ⟨i, hi1, hi, rfl⟩ := place_of vH.shut hq
      have := List.mem_of_getElem? (segs_at (ptAt_get (r := H) (i := i - 1) (by omega)) (ptAt_get (r := H) (i := i - 1 + 1) (by omega)))
      rw [show i - 1 + 1 = i by omega] at this
      exact place_one.2 ⟨_, this, has_b _ _⟩
    rcases lies_out vH.long vA.long eA (cross_sy hx) hl (p := (q, 1)) (show (0 : Int) < 1 by decide) hon with g | g <;> omega
  have hvA : place A (v, 1) = 1 := by
    obtain ⟨i, hi1, hi, rfl⟩ := place_of vA.shut hv
    have := List.mem_of_getElem? (segs_at (ptAt_get (r := A) (i := i - 1) (by omega)) (ptAt_get (r := A) (i := i - 1 + 1) (by omega)))
    rw [show i - 1 + 1 = i by omega] at this
    exact place_one.2 ⟨_, this, has_b _ _⟩
  obtain ⟨y, x, O, sA⟩ := vA.split hvA
  have fa1 : Fw (wy v y) := fw_of (bef_total (hA y sA.mem.1) sA.ny)
  have fa2 : Fw (wy v x) := fw_of (bef_total (hA x sA.mem.2) sA.nx)
  by_cases hvH : place H (v, 1) = 1
  · obtain ⟨y', x', O', sH⟩ := vH.split hvH
    have m := meet2_of vA.long vH.long hx sA sH
    have f1 : Fw (wy v y') := fw_of (bef_total (hH y' sH.mem.1) sH.ny)
    have f2 : Fw (wy v x') := fw_of (bef_total (hH x' sH.mem.2) sH.nx)
    have ne : eW ≠ (0, 0) := by decide
    have inH : ∀ {y : Pnt}, Fw (wy v y) → ¬ Par (wy v y) (wy v y') → ¬ Par (wy v y) (wy v x') → (∀ k, 1 ≤ k → place A (nrP k v (wy v y), k) = 1) → Btw2 (wy v y') (wy v x') (wy v y) := by
      intro y fy p1 p2 hon
      obtain ⟨K, hK, f⟩ := sH.near eH (u := wy v y) (w := eW) ⟨fw_ne f1, fw_ne f2, fw_ne fy, ne, sH.nb, p1, p2, fw_par f1, fw_par f2⟩
      obtain ⟨o1, o2, e⟩ := f K (Int.le_refl _)
      have q1 := hV (nrP K v (wy v y), K) (by show 0 < K; omega) (hon K (by omega)) (offR_ne o1)
      have q2 := left_near eH hH (show 0 < K by omega)
      rw [offR_place o1] at q1
      rw [offR_place o2] at q2
      refine btw_of f1 f2 fy sH.nb p1 p2 ?_
      rw [← e]
      revert q1 q2
      generalize inn H (nrP K v (wy v y), K) = s
      generalize inn H (nrP K v eW, K) = t
      cases s <;> cases t <;> simp
    have b1 := inH fa1 m.p1 m.p2 (fun k hk => sA.on1 vA.long hk)
    have b2 := inH fa2 m.p3 m.p4 (fun k hk => sA.on2 vA.long hk)
    have b3 : Btw2 (wy v y) (wy v x) (wy v y') := by
      obtain ⟨K, hK, f⟩ := sA.near eA (u := wy v y') (w := eW) ⟨fw_ne fa1, fw_ne fa2, fw_ne f1, ne, sA.nb, fun q => m.p1 q.symm, fun q => m.p3 q.symm, fw_par fa1, fw_par fa2⟩
      obtain ⟨o1, o2, e⟩ := f K (Int.le_refl _)
      have q1 := (lies_out vH.long vA.long eA (cross_sy hx) hl (p := (nrP K v (wy v y'), K)) (by show 0 < K; omega) (sH.on1 vH.long (by omega))).resolve_left (offR_ne o1)
      have q2 := left_near eA hA (show 0 < K by omega)
      rw [offR_place o1] at q1
      rw [offR_place o2] at q2
      refine btw_of fa1 fa2 f1 sA.nb (fun q => m.p1 q.symm) (fun q => m.p3 q.symm) ?_
      rw [← e]
      revert q1 q2
      generalize inn A (nrP K v (wy v y'), K) = s
      generalize inn A (nrP K v eW, K) = t
      cases s <;> cases t <;> simp
    exact btw_no fa1 fa2 f1 f2 b1 b2 b3
  · obtain ⟨K, hK, f⟩ := near_none eH (offR_of hvH) (wy v y) eW
    obtain ⟨o1, o2, e⟩ := f K (Int.le_refl _)
    have q1 := hV (nrP K v (wy v y), K) (by show 0 < K; omega) (sA.on1 vA.long (by omega)) (offR_ne o1)
    have q2 := left_near eH hH (show 0 < K by omega)
    rw [place_inn o1 o2 e] at q1
    omega
end Vd
end Go.Proofs.YtcclepohmhdpbabGreatDoor

namespace Go.Proofs.YtcclepohmhdpbabGreatDoor
set_option linter.all false
namespace Vd
theorem VR.distinct {r : Ring} (h : VR r) {i j : Nat} (hi : 1 ≤ i) (hj : 1 ≤ j) (hil : i < r.length) (hjl : j < r.length) (e : ptAt r i = ptAt r j) : i = j := by
  rcases Nat.lt_trichotomy i j with g | g | g
  · have : twice r = true := twice_iff.2 ⟨i, j, hi, g, hjl, e⟩
    rw [h.tw] at this; cases this
  · exact g
  · have : twice r = true := twice_iff.2 ⟨j, i, hj, g, hil, e.symm⟩
    rw [h.tw] at this; cases this
theorem VR.wrap {r : Ring} (h : VR r) : ptAt r 0 = ptAt r (r.length - 1) := h.shut.eq
theorem VR.least_hand {r : Ring} (h : VR r) {i : Nat} (hi : 1 ≤ i) (hil : i < r.length) (hm : ∀ v ∈ r, ¬ bef v (ptAt r i)) :
    cr (ptAt r (i - 1)) (ptAt r i) (nextI r i) 1 ≠ 0 ∧ LhI r 0 = decide (0 < cr (ptAt r (i - 1)) (ptAt r i) (nextI r i) 1) := by
  have h4 := h.shut.len
  obtain ⟨k, rfl⟩ : ∃ k, i = k + 1 := ⟨i - 1, by omega⟩
  rw [show k + 1 - 1 = k from rfl]
  have e := split_at (r := r) (i := k) hil
  have hr : VR (r.take k ++ ptAt r k :: ptAt r (k + 1) :: r.drop (k + 2)) := by rw [← e]; exact h
  have hnx : ∃ j, j ≠ k ∧ j + 1 < r.length ∧ ptAt r j = ptAt r (k + 1) ∧ ptAt r (j + 1) = nextI r (k + 1) := by
    unfold nextI
    by_cases g : k + 1 + 1 < r.length
    · exact ⟨k + 1, by omega, g, rfl, by rw [if_pos g]⟩
    · exact ⟨0, by omega, by omega, by rw [h.wrap]; congr 1; omega, by rw [if_neg g]⟩
  obtain ⟨j, hjk, hjl, ej1, ej2⟩ := hnx
  have hbc : (ptAt r (k + 1), nextI r (k + 1)) ∈ oth (r.take k) (ptAt r k) (ptAt r (k + 1)) (r.drop (k + 2)) := by
    rw [← ej1, ← ej2, ej1]
    have := later_oth (r := r) (i := k) (k := j) hil hjl (Ne.symm hjk)
    rw [ej1] at this
    exact this
  have hun : ∀ t ∈ oth (r.take k) (ptAt r k) (ptAt r (k + 1)) (r.drop (k + 2)), t.1 = ptAt r (k + 1) → t = (ptAt r (k + 1), nextI r (k + 1)) := by
    intro t ht e1
    obtain ⟨q, hq, hql, eq⟩ := oth_at ht
    rw [← e] at hql eq
    rw [eq] at e1 ⊢
    simp only at e1
    have : q = j := by
      have norm : ∀ x, x + 1 < r.length → ptAt r x = ptAt r (k + 1) → (x = 0 ∧ k + 1 = r.length - 1) ∨ x = k + 1 := by
        intro x hx ex
        rcases Nat.eq_zero_or_pos x with g | g
        · left
          refine ⟨g, ?_⟩
          rw [g, h.wrap] at ex
          have := h.distinct (by omega) (by omega) (by omega) (by omega) ex
          omega
        · right; exact h.distinct g (by omega) (by omega) (by omega) ex
      have a1 := norm q hql e1
      have a2 := norm j hjl ej1
      omega
    subst this
    rw [ej1, ej2]
  have key := hr.hand_turn hbc hun (by rw [← e]; exact hm)
  refine ⟨key.1, ?_⟩
  rw [← key.2, ← h.lhI_all k hil]
  rfl
theorem VR.area {r : Ring} (h : VR r) {i : Nat} (hi : 1 ≤ i) (hil : i < r.length) (hm : ∀ v ∈ r, ¬ bef v (ptAt r i)) :
    decide (0 < area2 r) = decide (0 < cr (ptAt r (i - 1)) (ptAt r i) (nextI r i) 1) := by
  obtain ⟨k1, k2⟩ := h.least_hand hi hil hm
  have hn : ∃ s ∈ segs r, dyS s ≠ 0 := by
    refine Classical.byContradiction fun hno => ?_
    have all : ∀ s ∈ segs r, s.2.2 = s.1.2 := fun s hs => by
      refine Classical.byContradiction fun e => hno ⟨s, hs, ?_⟩
      unfold dyS; omega
    have h4 := h.shut.len
    have seg : ∀ x, x + 1 < r.length → ptAt r (x + 1) = ptAt r (x + 1) ∧ (ptAt r (x + 1)).2 = (ptAt r x).2 := fun x hx => by
      have := all (ptAt r x, ptAt r (x + 1)) (Pl.mem_of_some (segs_at (ptAt_get (by omega)) (ptAt_get hx)))
      exact ⟨rfl, this⟩
    have yall : ∀ x, x < r.length → (ptAt r x).2 = (ptAt r 0).2 := by
      intro x
      induction x with
      | zero => intro _; rfl
      | succ x ih => intro hx; rw [(seg x hx).2, ih (by omega)]
    apply k1
    have y1 := yall (i - 1) (by omega)
    have y2 := yall i hil
    have y3 : (nextI r i).2 = (ptAt r 0).2 := by
      unfold nextI
      split
      · exact yall _ (by omega)
      · exact yall _ (by omega)
    unfold cr
    simp only [Int.mul_one]
    rw [y1, y2, y3, Int.sub_self, Int.mul_zero, Int.zero_mul]; rfl
  have ha := area_hand h hn
  cases hL : LhI r 0 with
  | true =>
    rw [hL] at ha k2
    have : 0 < area2 r := by simpa [sgU] using ha
    rw [decide_eq_true this, ← k2]
  | false =>
    rw [hL] at ha k2
    have : ¬ 0 < area2 r := by
      have : sgU false = -1 := rfl
      rw [this] at ha
      omega
    rw [decide_eq_false this, ← k2]
def twiceA (p0 : Pnt) (r : Ring) : Int := sumI (fun s : Seg => (s.1.1 - p0.1) * (s.2.2 - p0.2) - (s.1.2 - p0.2) * (s.2.1 - p0.1)) (segs r)
theorem twiceA_eq {r : Ring} (he : Ends r) (p0 : Pnt) : twiceA p0 r = area2 r := by
  have e := sum_ring (fun p : Pnt => p.2 * p.1 - p0.2 * p.1 + p0.1 * p.2) he
  have : area2 r = twiceA p0 r + sumI (fun s : Seg => (s.2.2 * s.2.1 - p0.2 * s.2.1 + p0.1 * s.2.2) - (s.1.2 * s.1.1 - p0.2 * s.1.1 + p0.1 * s.1.2)) (segs r) := by
    unfold area2 twiceA
    rw [← sumI_add]
    refine sumI_congr fun s _ => ?_
    unfold dyS
    grind
  rw [e] at this
  omega
end Vd
end Go.Proofs.YtcclepohmhdpbabGreatDoor

namespace Go.Proofs.YtcclepohmhdpbabGreatDoor
set_option linter.all false
namespace Vd
structure Cmp {α : Type} (c : α → α → Int) : Prop where
  anti : ∀ x y, c x y = -(c y x)
  eq : ∀ x y, c x y = 0 → x = y
  trans : ∀ x y z, c x y < 0 → c y z < 0 → c x z < 0
theorem Cmp.self {α : Type} {c : α → α → Int} (h : Cmp c) (x : α) : c x x = 0 := by have := h.anti x x; omega
def lexC {α : Type} (c : α → α → Int) : List α → List α → Int
  | [], [] => 0
  | [], _ :: _ => -1
  | _ :: _, [] => 1
  | p :: t, q :: u => if c p q ≠ 0 then c p q else lexC c t u
theorem lexC_anti {α : Type} {c : α → α → Int} (h : Cmp c) : ∀ a b, lexC c a b = -(lexC c b a) := by
  intro a
  induction a with
  | nil => intro b; cases b <;> simp [lexC]
  | cons p t ih =>
    intro b
    cases b with
    | nil => simp [lexC]
    | cons q u =>
      simp only [lexC]
      rw [h.anti p q]
      by_cases k : c q p = 0
      · rw [if_neg (by omega), if_neg (by omega)]; exact ih u
      · rw [if_pos (by omega), if_pos k]
theorem lexC_eq {α : Type} {c : α → α → Int} (h : Cmp c) : ∀ a b, lexC c a b = 0 → a = b := by
  intro a
  induction a with
  | nil => intro b; cases b <;> simp [lexC]
  | cons p t ih =>
    intro b
    cases b with
    | nil => simp [lexC]
    | cons q u =>
      simp only [lexC]
      intro e
      by_cases k : c p q = 0
      · rw [if_neg (by omega)] at e; rw [h.eq p q k, ih u e]
      · rw [if_pos k] at e; exact absurd e k
theorem lexC_trans {α : Type} {c : α → α → Int} (h : Cmp c) : ∀ a b d, lexC c a b < 0 → lexC c b d < 0 → lexC c a d < 0 := by
  intro a
  induction a with
  | nil =>
    intro b d h1 h2
    cases b with
    | nil => simp [lexC] at h1
    | cons q u =>
      cases d with
      | nil => simp [lexC] at h2
      | cons r v => simp [lexC]
  | cons p t ih =>
    intro b d h1 h2
    cases b with
    | nil => simp [lexC] at h1
    | cons q u =>
      cases d with
      | nil => simp [lexC] at h2
      | cons r v =>
        simp only [lexC] at *
        by_cases k1 : c p q = 0
        · rw [if_neg (by omega)] at h1
          obtain rfl := h.eq p q k1
          by_cases k2 : c p r = 0
          · rw [if_neg (by omega)] at h2 ⊢; exact ih u v h1 h2
          · rw [if_pos k2] at h2 ⊢; exact h2
        · rw [if_pos k1] at h1
          by_cases k2 : c q r = 0
          · obtain rfl := h.eq q r k2
            rw [if_pos k1]; exact h1
          · rw [if_pos k2] at h2
            have := h.trans p q r h1 h2
            rw [if_pos (by omega)]; exact this
theorem lexC_cmp {α : Type} {c : α → α → Int} (h : Cmp c) : Cmp (lexC c) := ⟨lexC_anti h, lexC_eq h, lexC_trans h⟩
def cP (p q : Pnt) : Int := if bef q p then 1 else if bef p q then -1 else 0
theorem cP_cmp : Cmp cP := by
  refine ⟨fun p q => ?_, fun p q => ?_, fun p q r => ?_⟩
  · unfold cP bef; repeat' split
    all_goals omega
  · unfold cP bef
    obtain ⟨a, b⟩ := p; obtain ⟨c, d⟩ := q
    simp only [Prod.mk.injEq]
    repeat' split
    all_goals omega
  · unfold cP bef; repeat' split
    all_goals omega
theorem cmpR_lex : ∀ a b, cmpR a b = lexC cP a b := by
  intro a
  induction a with
  | nil => intro b; cases b <;> simp [lexC, cmpR]
  | cons p t ih =>
    intro b
    cases b with
    | nil => simp [lexC, cmpR]
    | cons q u =>
      simp only [lexC, cmpR, ih u]
      unfold cP
      by_cases k : bef q p
      · rw [if_pos k, if_pos k, if_pos (by omega)]
      · rw [if_neg k, if_neg k]
        by_cases k2 : bef p q
        · rw [if_pos k2, if_pos k2, if_pos (by omega)]
        · rw [if_neg k2, if_neg k2, if_neg (by omega)]
theorem cmpR_cmp : Cmp cmpR := by
  have := lexC_cmp cP_cmp
  rwa [show lexC cP = cmpR from funext fun a => funext fun b => (cmpR_lex a b).symm] at this
theorem cmpP_lex : ∀ a b, cmpP a b = lexC cmpR a b := by
  intro a
  induction a with
  | nil => intro b; cases b <;> simp [lexC, cmpP]
  | cons p t ih =>
    intro b
    cases b with
    | nil => simp [lexC, cmpP]
    | cons q u => simp only [lexC, cmpP, ih u]
theorem cmpP_cmp : Cmp cmpP := by
  have := lexC_cmp cmpR_cmp
  rwa [show lexC cmpR = cmpP from funext fun a => funext fun b => (cmpP_lex a b).symm] at this
def aheadM (m : Mult) (i k : Nat) : Prop := cmpP (pAt m i) (pAt m k) < 0 ∨ (cmpP (pAt m i) (pAt m k) = 0 ∧ i < k)
theorem isA_iff (m : Mult) (a i : Nat) : isA m a i = true ↔ aheadM m i a := by unfold isA aheadM; simp
theorem aheadM_irr (m : Mult) (i : Nat) : ¬ aheadM m i i := by unfold aheadM; have := cmpP_cmp.self (pAt m i); omega
theorem aheadM_tot (m : Mult) {i k : Nat} (h : i ≠ k) : aheadM m i k ∨ aheadM m k i := by unfold aheadM; have := cmpP_cmp.anti (pAt m i) (pAt m k); omega
theorem aheadM_trans (m : Mult) {i j k : Nat} (h1 : aheadM m i j) (h2 : aheadM m j k) : aheadM m i k := by
  unfold aheadM at *
  rcases h1 with h1 | ⟨h1, l1⟩
  · rcases h2 with h2 | ⟨h2, l2⟩
    · exact .inl (cmpP_cmp.trans _ _ _ h1 h2)
    · rw [← cmpP_cmp.eq _ _ h2]; exact .inl h1
  · rw [cmpP_cmp.eq _ _ h1]
    rcases h2 with h2 | ⟨h2, l2⟩
    · exact .inl h2
    · exact .inr ⟨h2, by omega⟩
theorem countP_lt {α : Type} {p q : α → Bool} : ∀ {l : List α}, (∀ x ∈ l, p x = true → q x = true) → (∃ x ∈ l, q x = true ∧ p x = false) → l.countP p < l.countP q := by
  intro l
  induction l with
  | nil => rintro _ ⟨x, hx, _⟩; simp at hx
  | cons a t ih =>
    rintro h ⟨x, hx, hq, hp⟩
    have mono : ∀ s : List α, (∀ x ∈ s, p x = true → q x = true) → s.countP p ≤ s.countP q := fun s hs => List.countP_mono_left hs
    rw [List.countP_cons, List.countP_cons]
    have hm := mono t fun y hy => h y (List.mem_cons_of_mem _ hy)
    rcases List.mem_cons.1 hx with rfl | hx
    · rw [if_pos hq, if_neg (by rw [hp]; decide)]; omega
    · have := ih (fun y hy => h y (List.mem_cons_of_mem _ hy)) ⟨x, hx, hq, hp⟩
      have h1 : (if p a = true then 1 else 0) ≤ (if q a = true then 1 else 0) := by
        by_cases k : p a = true
        · rw [if_pos k, if_pos (h a (by simp) k)]; exact Nat.le_refl _
        · rw [if_neg k]; exact Nat.zero_le _
      omega
theorem cnt_lt {m : Mult} {n i k : Nat} (hi : i < n) (h : aheadM m i k) : cntA m i n < cntA m k n := by
  unfold cntA
  refine countP_lt (fun x _ hx => ?_) ⟨i, List.mem_range.2 hi, (isA_iff m k i).2 h, ?_⟩
  · exact (isA_iff m k x).2 (aheadM_trans m ((isA_iff m i x).1 hx) h)
  · cases e : isA m i i with
    | false => rfl
    | true => exact absurd ((isA_iff m i i).1 e) (aheadM_irr m i)
theorem cnt_inj {m : Mult} {n i k : Nat} (hi : i < n) (hk : k < n) (h : cntA m i n = cntA m k n) : i = k := by
  by_cases e : i = k
  · exact e
  · rcases aheadM_tot m e with a | a
    · have := cnt_lt hi a; omega
    · have := cnt_lt hk a; omega
theorem cnt_small {m : Mult} {n i : Nat} (hi : i < n) : cntA m i n < n := by
  have : cntA m i n < (List.range n).countP fun _ => true := by
    unfold cntA
    refine countP_lt (fun _ _ _ => rfl) ⟨i, List.mem_range.2 hi, rfl, ?_⟩
    cases e : isA m i i with
    | false => rfl
    | true => exact absurd ((isA_iff m i i).1 e) (aheadM_irr m i)
  simpa using this
theorem len_sub {α : Type} [DecidableEq α] : ∀ (l r : List α), l.Nodup → (∀ x ∈ l, x ∈ r) → l.length ≤ r.length := by
  intro l
  induction l with
  | nil => intro r _ _; exact Nat.zero_le _
  | cons a t ih =>
    intro r hn hs
    have ha := hs a (by simp)
    have hn' := List.nodup_cons.1 hn
    have := ih (r.erase a) hn'.2 fun x hx => by
      have hne : x ≠ a := fun e => hn'.1 (e ▸ hx)
      exact (List.mem_erase_of_ne hne).2 (hs x (List.mem_cons_of_mem _ hx))
    rw [List.length_erase_of_mem ha] at this
    have hp : 0 < r.length := List.length_pos_of_mem ha
    simp only [List.length_cons]; omega
theorem nodup_map {n : Nat} {f : Nat → Nat} (hf : ∀ i k, i < n → k < n → f i = f k → i = k) : ∀ s, s ≤ n → ((List.range s).map f).Nodup := by
  intro s
  induction s with
  | zero => intro _; exact List.nodup_nil
  | succ s ih =>
    intro hs
    rw [List.range_succ, List.map_append, List.nodup_append]
    refine ⟨ih (by omega), by simp, ?_⟩
    intro a ha b hb e
    simp only [List.map_cons, List.map_nil, List.mem_singleton] at hb
    obtain ⟨i, hi, rfl⟩ := List.mem_map.1 ha
    have := List.mem_range.1 hi
    have := hf i s (by omega) (by omega) (by rw [e, hb])
    omega
theorem surj_of {n : Nat} {f : Nat → Nat} (h1 : ∀ i, i < n → f i < n) (hf : ∀ i k, i < n → k < n → f i = f k → i = k) {j : Nat} (hj : j < n) : ∃ i, i < n ∧ f i = j := by
  refine Classical.byContradiction fun hno => ?_
  have hno' : ∀ i, i < n → f i ≠ j := fun i hi e => hno ⟨i, hi, e⟩
  have hnd : (j :: (List.range n).map f).Nodup := by
    refine List.nodup_cons.2 ⟨fun hm => ?_, nodup_map hf n (Nat.le_refl _)⟩
    obtain ⟨i, hi, e⟩ := List.mem_map.1 hm
    exact hno' i (List.mem_range.1 hi) e
  have := len_sub _ (List.range n) hnd fun x hx => by
    rcases List.mem_cons.1 hx with rfl | hx
    · exact List.mem_range.2 hj
    · obtain ⟨i, hi, rfl⟩ := List.mem_map.1 hx
      exact List.mem_range.2 (h1 i (List.mem_range.1 hi))
  simp at this
  omega
theorem cnt_surj {m : Mult} {n j : Nat} (hj : j < n) : ∃ i, i < n ∧ cntA m i n = j := surj_of (f := fun i => cntA m i n) (fun i hi => cnt_small hi) (fun i k hi hk => cnt_inj hi hk) hj
def layS {α : Type} (f : Nat → Nat) (g : Nat → α) (o : List α) (i : Nat) : List α := o.set (f i) (g i)
def layN {α : Type} (f : Nat → Nat) (g : Nat → α) (z : List α) (n : Nat) : List α := (List.range n).foldl (layS f g) z
theorem layN_succ {α : Type} (f : Nat → Nat) (g : Nat → α) (z : List α) (n : Nat) : layN f g z (n + 1) = (layN f g z n).set (f n) (g n) := by
  unfold layN; rw [List.range_succ, List.foldl_append]; rfl
theorem layN_len {α : Type} (f : Nat → Nat) (g : Nat → α) (z : List α) : ∀ n, (layN f g z n).length = z.length
  | 0 => rfl
  | n + 1 => by rw [layN_succ, List.length_set]; exact layN_len f g z n
theorem layN_at {α : Type} {f : Nat → Nat} {g : Nat → α} {z : List α} {N : Nat} (h1 : ∀ i, i < N → f i < z.length) (hf : ∀ i k, i < N → k < N → f i = f k → i = k) : ∀ n, n ≤ N → ∀ i, i < n → (layN f g z n)[f i]? = some (g i) := by
  intro n
  induction n with
  | zero => intro _ i hi; omega
  | succ n ih =>
    intro hn i hi
    rw [layN_succ]
    by_cases e : i = n
    · subst e; rw [List.getElem?_set_self (by rw [layN_len]; exact h1 i (by omega))]
    · rw [List.getElem?_set_ne (fun e2 => e (hf i n (by omega) (by omega) e2.symm))]
      exact ih (by omega) i (by omega)
theorem inOrder_lay (m : Mult) : inOrder m = layN (fun i => cntA m i m.length) (pAt m) (List.replicate m.length []) m.length := rfl
theorem inOrder_len (m : Mult) : (inOrder m).length = m.length := by rw [inOrder_lay, layN_len]; simp
theorem inOrder_at (m : Mult) {i : Nat} (hi : i < m.length) : (inOrder m)[cntA m i m.length]? = some (pAt m i) := by
  rw [inOrder_lay]
  exact layN_at (N := m.length) (fun i h => by simpa using cnt_small h) (fun i k h1 h2 => cnt_inj h1 h2) m.length (Nat.le_refl _) i hi
end Vd
end Go.Proofs.YtcclepohmhdpbabGreatDoor

namespace Go.Proofs.YtcclepohmhdpbabGreatDoor
set_option linter.all false
namespace Vd
def xp (u v : Pnt) : Int := u.1 * v.2 - u.2 * v.1
def dp (u v : Pnt) : Int := u.1 * v.1 + u.2 * v.2
def sub (a b : Pnt) : Pnt := (b.1 - a.1, b.2 - a.2)
structure Dir (u v : Pnt) : Prop where
  x : xp u v = 0
  d : 0 < dp u v
theorem dp_pos {u v : Pnt} (h : Dir u v) : 0 < dp u u ∧ 0 < dp v v := by
  have h1 : u.1 ≠ 0 ∨ u.2 ≠ 0 := by
    refine Classical.byContradiction fun k => ?_
    have := h.d
    unfold dp at this
    have a1 : u.1 = 0 := by omega
    have a2 : u.2 = 0 := by omega
    rw [a1, a2] at this; simp at this
  have h2 : v.1 ≠ 0 ∨ v.2 ≠ 0 := by
    refine Classical.byContradiction fun k => ?_
    have := h.d
    unfold dp at this
    have a1 : v.1 = 0 := by omega
    have a2 : v.2 = 0 := by omega
    rw [a1, a2] at this; simp at this
  have sq : ∀ z : Pnt, z.1 ≠ 0 ∨ z.2 ≠ 0 → 0 < dp z z := fun z hz => by
    unfold dp
    have b1 := sq_nn z.1
    have b2 := sq_nn z.2
    rcases hz with k | k
    · have := sq_pos k; omega
    · have := sq_pos k; omega
  exact ⟨sq u h1, sq v h2⟩
theorem Dir.symm {u v : Pnt} (h : Dir u v) : Dir v u := ⟨by have := h.x; unfold xp at *; grind, by have := h.d; unfold dp at *; grind⟩
theorem Dir.trans {u v w : Pnt} (h : Dir u v) (k : Dir v w) : Dir u w := by
  have hv := (dp_pos h).2
  have e1 : dp v v * xp u w = dp u v * xp v w + xp u v * dp v w := by unfold dp xp; grind
  have e2 : dp v v * dp u w = dp u v * dp v w - xp u v * xp v w := by unfold dp xp; grind
  rw [h.x, k.x, Int.mul_zero, Int.zero_mul] at e1
  rw [h.x, Int.zero_mul, Int.sub_zero] at e2
  constructor
  · rcases Int.mul_eq_zero.1 (show dp v v * xp u w = 0 by omega) with g | g
    · omega
    · exact g
  · have := pp h.d k.d
    exact ((sgn_of hv e2).1).2 this
theorem Dir.self {u : Pnt} (h : u ≠ (0, 0)) : Dir u u := by
  refine ⟨by unfold xp; grind, ?_⟩
  unfold dp
  have b1 := sq_nn u.1
  have b2 := sq_nn u.2
  by_cases k : u.1 = 0
  · have k2 : u.2 ≠ 0 := fun e => h (Prod.ext k e)
    have := sq_pos k2; omega
  · have := sq_pos k; omega
theorem Dir.add {u v w : Pnt} (h : Dir u v) (k : Dir u w) : Dir u (v.1 + w.1, v.2 + w.2) := by
  constructor
  · have := h.x; have := k.x; unfold xp at *; simp only; grind
  · have e : dp u (v.1 + w.1, v.2 + w.2) = dp u v + dp u w := by unfold dp; simp only; grind
    rw [e]; have := h.d; have := k.d; omega
theorem dir_sign {u u' v v' : Pnt} (h : Dir u u') (k : Dir v v') : (0 < xp u v ↔ 0 < xp u' v') ∧ (xp u v = 0 ↔ xp u' v' = 0) := by
  have hu := (dp_pos h).1
  have hv := (dp_pos k).1
  have e1 : dp u u * xp u' v = dp u u' * xp u v + xp u u' * (-(dp u v)) := by unfold dp xp; grind
  rw [h.x, Int.zero_mul, Int.add_zero] at e1
  have e2 : dp v v * xp u' v' = dp v v' * xp u' v + xp v v' * dp u' v := by unfold dp xp; grind
  rw [k.x, Int.zero_mul, Int.add_zero] at e2
  have s1 := sgn_of hu e1
  have s2 := sgn_of hv e2
  have t1 : (0 < dp u u' * xp u v ↔ 0 < xp u v) ∧ (dp u u' * xp u v = 0 ↔ xp u v = 0) := by
    have := sgn_of h.d (rfl : dp u u' * xp u v = dp u u' * xp u v)
    exact ⟨this.1.symm, this.2.2.symm⟩
  have t2 : (0 < dp v v' * xp u' v ↔ 0 < xp u' v) ∧ (dp v v' * xp u' v = 0 ↔ xp u' v = 0) := by
    have := sgn_of k.d (rfl : dp v v' * xp u' v = dp v v' * xp u' v)
    exact ⟨this.1.symm, this.2.2.symm⟩
  exact ⟨by rw [s2.1, t2.1, s1.1, t1.1], by rw [s2.2.2, t2.2, s1.2.2, t1.2]⟩
theorem cr_xp (a b c : Pnt) : cr a b c 1 = xp (sub a b) (sub b c) := by unfold cr xp sub; grind
theorem on_dir {a b c : Pnt} (hab : a ≠ b) (hbc : b ≠ c) (h : has a c b 1) : Dir (sub a b) (sub b c) := by
  have ne1 : a.1 ≠ b.1 ∨ a.2 ≠ b.2 := by
    by_cases k : a.1 = b.1
    · exact .inr fun e => hab (Prod.ext k e)
    · exact .inl k
  have ne2 : b.1 ≠ c.1 ∨ b.2 ≠ c.2 := by
    by_cases k : b.1 = c.1
    · exact .inr fun e => hbc (Prod.ext k e)
    · exact .inl k
  obtain ⟨h0, h1, h2⟩ := h
  have e0 : (b.1 - a.1) * (c.2 - b.2) - (b.2 - a.2) * (c.1 - b.1) = 0 := by unfold cr at h0; grind
  unfold btw at h1 h2
  simp only [Int.mul_one] at h1 h2
  refine ⟨by unfold xp sub; exact e0, ?_⟩
  unfold dp sub
  simp only
  have x0 : 0 ≤ (b.1 - a.1) * (c.1 - b.1) := by
    rcases h1 with h1 | h1
    · exact p0 (by omega) (by omega)
    · exact q0 (by omega) (by omega)
  have y0 : 0 ≤ (b.2 - a.2) * (c.2 - b.2) := by
    rcases h2 with h2 | h2
    · exact p0 (by omega) (by omega)
    · exact q0 (by omega) (by omega)
  rcases Int.lt_or_le 0 ((b.1 - a.1) * (c.1 - b.1) + (b.2 - a.2) * (c.2 - b.2)) with g | g
  · exact g
  · exfalso
    have zx : (b.1 - a.1) * (c.1 - b.1) = 0 := by omega
    have zy : (b.2 - a.2) * (c.2 - b.2) = 0 := by omega
    rcases Int.mul_eq_zero.1 zx with k1 | k1 <;> rcases Int.mul_eq_zero.1 zy with k2 | k2
    · omega
    · rw [k1, k2] at e0
      simp only [Int.zero_mul, Int.zero_sub] at e0
      have : (b.2 - a.2) * (c.1 - b.1) = 0 := by omega
      rcases Int.mul_eq_zero.1 this with g1 | g1 <;> omega
    · rw [k1, k2] at e0
      simp only [Int.zero_mul, Int.sub_zero] at e0
      rcases Int.mul_eq_zero.1 e0 with g1 | g1 <;> omega
    · omega
def per (r : Ring) : Nat := r.length - 1
def Pr (r : Ring) (i : Nat) : Pnt := ptAt r (i % per r)
def Wr (r : Ring) (i : Nat) : Pnt := sub (Pr r i) (Pr r (i + 1))
theorem Pr_per (r : Ring) (i : Nat) : Pr r (i + per r) = Pr r i := by unfold Pr; rw [Nat.add_mod_right]
theorem Wr_per (r : Ring) (i : Nat) : Wr r (i + per r) = Wr r i := by unfold Wr; rw [show i + per r + 1 = i + 1 + per r by omega, Pr_per, Pr_per]
theorem VR.pr {r : Ring} (h : VR r) {i : Nat} (hi : i ≤ per r) : Pr r i = ptAt r i := by
  have h4 := h.shut.len
  unfold Pr
  rcases Nat.lt_or_ge i (per r) with g | g
  · rw [Nat.mod_eq_of_lt g]
  · have e : i = per r := by omega
    rw [e, Nat.mod_self, h.wrap]; rfl
theorem VR.pr_next {r : Ring} (h : VR r) {i : Nat} (h1 : 1 ≤ i) (hi : i ≤ per r) : Pr r (i + 1) = nextI r i := by
  have h4 := h.shut.len
  have e0 : per r = r.length - 1 := rfl
  unfold nextI
  by_cases g : i + 1 < r.length
  · rw [if_pos g, h.pr (by omega)]
  · rw [if_neg g]
    have e : i + 1 = 1 + per r := by omega
    rw [e, Pr_per, h.pr (by omega)]
theorem VR.turns_iff {r : Ring} (h : VR r) {i : Nat} (h1 : 1 ≤ i) (hi : i ≤ per r) : Vd.turns r i = decide (xp (Wr r (i - 1)) (Wr r i) ≠ 0) := by
  unfold Vd.turns
  rw [decide_eq_true h1, Bool.true_and]
  apply decide_eq_decide.2
  unfold Wr
  rw [show i - 1 + 1 = i by omega, h.pr (i := i - 1) (by omega), h.pr hi, h.pr_next h1 hi, ← cr_xp]
  unfold side at1
  constructor
  · intro k e; apply k; rw [e]; rfl
  · intro k e
    rcases sg_cases (cr (ptAt r (i - 1)) (ptAt r i) (nextI r i) 1) with ⟨g, e2⟩ | ⟨g, e2⟩ | ⟨g, e2⟩
    · rw [e2] at e; omega
    · exact k g
    · rw [e2] at e; omega
theorem VR.back_at {r : Ring} (h : VR r) {i : Nat} (h1 : 1 ≤ i) (hi : i ≤ per r) : (ptAt r (i - 1) ≠ ptAt r i ∧ ptAt r i ≠ nextI r i) ∧ (cr (ptAt r (i - 1)) (ptAt r i) (nextI r i) 1 ≠ 0 ∨ has (ptAt r (i - 1)) (nextI r i) (ptAt r i) 1) := by
  have h4 := h.shut.len
  have e0 : per r = r.length - 1 := rfl
  obtain ⟨k, rfl⟩ : ∃ k, i = k + 1 := ⟨i - 1, by omega⟩
  rw [show k + 1 - 1 = k from rfl]
  have hil : k + 1 < r.length := by omega
  have e := split_at (r := r) (i := k) hil
  have hr : VR (r.take k ++ ptAt r k :: ptAt r (k + 1) :: r.drop (k + 2)) := by rw [← e]; exact h
  have hnx : ∃ j, j ≠ k ∧ j + 1 < r.length ∧ ptAt r j = ptAt r (k + 1) ∧ ptAt r (j + 1) = nextI r (k + 1) := by
    unfold nextI
    by_cases g : k + 1 + 1 < r.length
    · exact ⟨k + 1, by omega, g, rfl, by rw [if_pos g]⟩
    · exact ⟨0, by omega, by omega, by rw [h.wrap]; congr 1; omega, by rw [if_neg g]⟩
  obtain ⟨j, hjk, hjl, ej1, ej2⟩ := hnx
  have hbc : (ptAt r (k + 1), nextI r (k + 1)) ∈ oth (r.take k) (ptAt r k) (ptAt r (k + 1)) (r.drop (k + 2)) := by
    have := later_oth (r := r) (i := k) (k := j) hil hjl (Ne.symm hjk)
    rw [ej1, ej2] at this
    exact this
  have hne : ptAt r (k + 1) ≠ nextI r (k + 1) := hr.oth_long hbc
  refine ⟨⟨hr.here, hne⟩, ?_⟩
  rcases hr.other hbc with e1 | ⟨e1, -⟩
  · exact absurd e1 (meet_pt hr.here hne (has_b _ _) (has_a _ _))
  · exact no_back hr.here hne e1
theorem VR.step_ne {r : Ring} (h : VR r) (i : Nat) : Wr r i ≠ (0, 0) := by
  have h4 := h.shut.len
  have e0 : per r = r.length - 1 := rfl
  have key : ∀ x, x < per r → Wr r x ≠ (0, 0) := fun x hx e => by
    have := (h.back_at (i := x + 1) (by omega) (by omega)).1.1
    rw [show x + 1 - 1 = x from rfl] at this
    unfold Wr at e
    rw [h.pr (by omega), h.pr (by omega)] at e
    unfold sub at e
    simp only [Prod.mk.injEq] at e
    exact this (Prod.ext (by omega) (by omega))
  have e2 : Wr r i = Wr r (i % per r) := by
    have := Nat.mod_add_div i (per r)
    have k : ∀ q x, Wr r (x + per r * q) = Wr r x := by
      intro q
      induction q with
      | zero => intro x; rfl
      | succ q ih => intro x; rw [Nat.mul_succ, ← Nat.add_assoc, Wr_per, ih]
    conv => lhs; rw [← this]
    exact k _ _
  rw [e2]
  exact key _ (Nat.mod_lt _ (by omega))
theorem VR.on_dir {r : Ring} (h : VR r) {i : Nat} (h1 : 1 ≤ i) (ht : xp (Wr r (i - 1)) (Wr r i) = 0) : Dir (Wr r (i - 1)) (Wr r i) := by
  have h4 := h.shut.len
  have e0 : per r = r.length - 1 := rfl
  have key : ∀ x, 1 ≤ x → x ≤ per r → xp (Wr r (x - 1)) (Wr r x) = 0 → Dir (Wr r (x - 1)) (Wr r x) := fun x a b t => by
    obtain ⟨⟨n1, n2⟩, k⟩ := h.back_at a b
    unfold Wr at *
    rw [show x - 1 + 1 = x by omega, h.pr (i := x - 1) (by omega), h.pr b, h.pr_next a b] at *
    rw [← cr_xp] at t
    rcases k with k | k
    · exact absurd t k
    · exact Vd.on_dir n1 n2 k
  obtain ⟨x, q, hx1, hx2, e⟩ : ∃ x q, 1 ≤ x ∧ x ≤ per r ∧ i = x + per r * q := by
    have hm := Nat.mod_add_div (i - 1) (per r)
    have hl := Nat.mod_lt (i - 1) (show per r > 0 by omega)
    exact ⟨(i - 1) % per r + 1, (i - 1) / per r, by omega, by omega, by omega⟩
  have k : ∀ q x, Wr r (x + per r * q) = Wr r x := by
    intro q
    induction q with
    | zero => intro x; rfl
    | succ q ih => intro x; rw [Nat.mul_succ, ← Nat.add_assoc, Wr_per, ih]
  rw [e, show x + per r * q - 1 = (x - 1) + per r * q by omega, k, k] at ht ⊢
  exact key x hx1 hx2 ht
theorem VR.run {r : Ring} (h : VR r) {i : Nat} : ∀ d : Nat, (∀ k, i < k → k < i + d + 1 → xp (Wr r (k - 1)) (Wr r k) = 0) → Dir (Wr r i) (Wr r (i + d)) ∧ Dir (Wr r i) (sub (Pr r i) (Pr r (i + d + 1))) := by
  intro d
  induction d with
  | zero => intro _; exact ⟨Dir.self (h.step_ne i), Dir.self (h.step_ne i)⟩
  | succ d ih =>
    intro ht
    obtain ⟨k1, k2⟩ := ih fun k a b => ht k a (by omega)
    have k3 := h.on_dir (i := i + d + 1) (by omega) (ht (i + d + 1) (by omega) (by omega))
    rw [show i + d + 1 - 1 = i + d by omega] at k3
    have k4 := k1.trans k3
    refine ⟨k4, ?_⟩
    have e : sub (Pr r i) (Pr r (i + (d + 1) + 1)) = ((sub (Pr r i) (Pr r (i + d + 1))).1 + (Wr r (i + d + 1)).1, (sub (Pr r i) (Pr r (i + d + 1))).2 + (Wr r (i + d + 1)).2) := by
      unfold Wr sub
      simp only [show i + (d + 1) + 1 = i + d + 1 + 1 by omega]
      exact Prod.ext (by simp only; omega) (by simp only; omega)
    rw [e]
    exact k2.add k4
theorem VR.run2 {r : Ring} (h : VR r) {i j : Nat} (hij : i < j) (ht : ∀ k, i < k → k < j → xp (Wr r (k - 1)) (Wr r k) = 0) : Dir (Wr r i) (sub (Pr r i) (Pr r j)) ∧ Dir (Wr r (j - 1)) (sub (Pr r i) (Pr r j)) := by
  obtain ⟨k1, k2⟩ := h.run (i := i) (j - i - 1) fun k a b => ht k a (by omega)
  rw [show i + (j - i - 1) + 1 = j by omega] at k2
  rw [show i + (j - i - 1) = j - 1 by omega] at k1
  exact ⟨k2, k1.symm.trans k2⟩
end Vd
end Go.Proofs.YtcclepohmhdpbabGreatDoor

namespace Go.Proofs.YtcclepohmhdpbabGreatDoor
set_option linter.all false
namespace Vd
theorem leastN_s (v : Ring) (n : Nat) : leastN v (n + 1) = leastS v (leastN v n) n := by
  unfold leastN; rw [List.range_succ, List.foldl_append]; rfl
theorem leastN_b (v : Ring) : ∀ n, leastN v n ≤ n - 1
  | 0 => Nat.le_refl _
  | n + 1 => by
    rw [leastN_s]; unfold leastS
    have := leastN_b v n
    split <;> omega
theorem bef_tr {p q r : Pnt} (h : ¬ bef p q) (k : ¬ bef q r) : ¬ bef p r := by unfold bef at *; omega
theorem leastN_min (v : Ring) : ∀ n x, x < n → ¬ bef (ptAt v x) (ptAt v (leastN v n)) := by
  intro n
  induction n with
  | zero => intro x hx; omega
  | succ n ih =>
    intro x hx
    rw [leastN_s]
    unfold leastS
    by_cases c : bef (ptAt v n) (ptAt v (leastN v n))
    · rw [if_pos c]
      rcases Nat.lt_or_ge x n with g | g
      · have := ih x g
        unfold bef at *; omega
      · rw [show x = n by omega]; intro k; unfold bef at k; omega
    · rw [if_neg c]
      rcases Nat.lt_or_ge x n with g | g
      · exact ih x g
      · rw [show x = n by omega]; exact c
theorem leastI_min {v : Ring} {p : Pnt} (h : p ∈ v) : ¬ bef p (ptAt v (leastI v)) := by
  obtain ⟨i, hi⟩ := List.getElem?_of_mem h
  have hl := Pl.lt_of_some hi
  have : ptAt v i = p := by unfold ptAt; rw [List.getD_eq_getElem?_getD, hi]; rfl
  rw [← this]
  exact leastN_min v v.length i hl
theorem leastI_in {v : Ring} (h : v ≠ []) : leastI v < v.length := by
  have := leastN_b v v.length
  have : 0 < v.length := List.length_pos_iff.2 h
  unfold leastI; omega
def Ci (r : Ring) : List Nat := (List.range r.length).filter (Vd.turns r)
theorem corners_Ci (r : Ring) : corners r = (Ci r).map (ptAt r) := rfl
theorem mem_Ci {r : Ring} {k : Nat} : k ∈ Ci r ↔ k < r.length ∧ Vd.turns r k = true := by unfold Ci; rw [List.mem_filter, List.mem_range]
theorem Ci_pos {r : Ring} {k : Nat} (h : k ∈ Ci r) : 1 ≤ k ∧ k ≤ per r := by
  obtain ⟨h1, h2⟩ := mem_Ci.1 h
  unfold Vd.turns at h2
  simp only [Bool.and_eq_true, decide_eq_true_eq] at h2
  unfold per; omega
theorem Ci_lt (r : Ring) : (Ci r).Pairwise (· < ·) := List.pairwise_lt_range.filter _
def cAt (r : Ring) (x : Nat) : Nat := (Ci r).getD x 0
theorem cAt_get {r : Ring} {x : Nat} (h : x < (Ci r).length) : (Ci r)[x]? = some (cAt r x) := by
  unfold cAt; rw [List.getD_eq_getElem?_getD, List.getElem?_eq_getElem h]; rfl
theorem cAt_mem {r : Ring} {x : Nat} (h : x < (Ci r).length) : cAt r x ∈ Ci r := Pl.mem_of_some (cAt_get h)
theorem cAt_lt {r : Ring} {x y : Nat} (h : x < y) (hy : y < (Ci r).length) : cAt r x < cAt r y := by
  have := List.pairwise_iff_getElem.1 (Ci_lt r) x y (by omega) hy h
  have e1 := cAt_get (r := r) (x := x) (by omega)
  have e2 := cAt_get hy
  rw [List.getElem?_eq_getElem (by omega)] at e1
  rw [List.getElem?_eq_getElem hy] at e2
  rw [Option.some.inj e1, Option.some.inj e2] at this
  exact this
theorem at_Ci {r : Ring} {k : Nat} (h : k ∈ Ci r) : ∃ x, x < (Ci r).length ∧ cAt r x = k := by
  obtain ⟨x, hx⟩ := List.getElem?_of_mem h
  have hl := Pl.lt_of_some hx
  exact ⟨x, hl, by have := cAt_get hl; rw [hx] at this; exact (Option.some.inj this).symm⟩
theorem corner_at {r : Ring} {x : Nat} (h : x < (Ci r).length) : ptAt (corners r) x = ptAt r (cAt r x) := by
  rw [corners_Ci]
  show ((Ci r).map (ptAt r)).getD x (0, 0) = _
  rw [List.getD_eq_getElem?_getD, List.getElem?_map, cAt_get h]; rfl
theorem corners_len (r : Ring) : (corners r).length = (Ci r).length := by rw [corners_Ci, List.length_map]
def nx (r : Ring) (x : Nat) : Nat := if x + 1 < (Ci r).length then cAt r (x + 1) else cAt r 0 + per r
theorem VR.gapC {r : Ring} (h : VR r) {x : Nat} (hx : x < (Ci r).length) : cAt r x < nx r x ∧ ∀ k, cAt r x < k → k < nx r x → xp (Wr r (k - 1)) (Wr r k) = 0 := by
  have h4 := h.shut.len
  have e0 : per r = r.length - 1 := rfl
  have bx := Ci_pos (cAt_mem hx)
  have b0 := Ci_pos (cAt_mem (r := r) (x := 0) (by omega))
  have no : ∀ k, 1 ≤ k → k ≤ per r → (∀ y, y < (Ci r).length → cAt r y ≠ k) → xp (Wr r (k - 1)) (Wr r k) = 0 := fun k k1 k2 hk => by
    have ht : Vd.turns r k = false := by
      cases hh : Vd.turns r k with
      | false => rfl
      | true =>
        obtain ⟨y, hy, e⟩ := at_Ci (mem_Ci.2 ⟨by omega, hh⟩)
        exact absurd e (hk y hy)
    rw [h.turns_iff k1 k2] at ht
    have := of_decide_eq_false ht
    exact Classical.byContradiction fun g => this g
  unfold nx
  by_cases g : x + 1 < (Ci r).length
  · rw [if_pos g]
    refine ⟨cAt_lt (by omega) g, fun k k1 k2 => ?_⟩
    have b1 := Ci_pos (cAt_mem g)
    refine no k (by omega) (by omega) fun y hy e => ?_
    rcases Nat.lt_trichotomy y x with q | q | q
    · have := cAt_lt q hx; omega
    · subst q; omega
    · rcases Nat.lt_or_ge (x + 1) y with q2 | q2
      · have := cAt_lt q2 hy; omega
      · have : y = x + 1 := by omega
        subst this; omega
  · rw [if_neg g]
    refine ⟨by omega, fun k k1 k2 => ?_⟩
    rcases Nat.lt_or_ge (per r) k with q | q
    · obtain ⟨k', rfl⟩ : ∃ k', k = k' + per r := ⟨k - per r, by omega⟩
      rw [show k' + per r - 1 = (k' - 1) + per r by omega, Wr_per, Wr_per]
      refine no k' (by omega) (by omega) fun y hy e => ?_
      rcases Nat.eq_zero_or_pos y with z | z
      · subst z; omega
      · have := cAt_lt z hy; omega
    · refine no k (by omega) q fun y hy e => ?_
      rcases Nat.lt_trichotomy y x with z | z | z
      · have := cAt_lt z hx; omega
      · subst z; omega
      · omega
theorem VR.at_nx {r : Ring} (h : VR r) {x : Nat} (hx : x < (Ci r).length) : Pr r (nx r x) = ptAt (corners r) ((x + 1) % (corners r).length) ∧ Wr r (nx r x - 1) = Wr r (cAt r ((x + 1) % (corners r).length) - 1 + 0) ∧ Pr r (cAt r x) = ptAt (corners r) x := by
  have b0 := Ci_pos (cAt_mem (r := r) (x := 0) (by omega))
  have bx := Ci_pos (cAt_mem hx)
  rw [corners_len]
  unfold nx
  by_cases g : x + 1 < (Ci r).length
  · rw [if_pos g, Nat.mod_eq_of_lt g, corner_at g, corner_at hx, h.pr bx.2]
    exact ⟨h.pr (Ci_pos (cAt_mem g)).2, rfl, rfl⟩
  · rw [if_neg g, show x + 1 = (Ci r).length by omega, Nat.mod_self, corner_at (by omega), corner_at hx, Pr_per, h.pr bx.2]
    exact ⟨h.pr b0.2, by rw [show cAt r 0 + per r - 1 = (cAt r 0 - 1) + per r by omega, Wr_per]; rfl, rfl⟩
theorem VR.corner_turn {r : Ring} (h : VR r) {f : Nat} (hf : f < (Ci r).length) :
    (0 < cr (ptAt (corners r) ((f + (corners r).length - 1) % (corners r).length)) (ptAt (corners r) f) (ptAt (corners r) ((f + 1) % (corners r).length)) 1 ↔ 0 < cr (ptAt r (cAt r f - 1)) (ptAt r (cAt r f)) (nextI r (cAt r f)) 1) := by
  have bf := Ci_pos (cAt_mem hf)
  have cl := corners_len r
  obtain ⟨x, hx, e1, e2⟩ : ∃ x, x < (Ci r).length ∧ (f + (corners r).length - 1) % (corners r).length = x ∧ (x + 1) % (corners r).length = f := by
    rw [cl]
    rcases Nat.eq_zero_or_pos f with z | z
    · subst z
      refine ⟨(Ci r).length - 1, by omega, ?_, ?_⟩
      · rw [Nat.zero_add, Nat.mod_eq_of_lt (by omega)]
      · rw [show (Ci r).length - 1 + 1 = (Ci r).length by omega, Nat.mod_self]
    · refine ⟨f - 1, by omega, ?_, ?_⟩
      · rw [show f + (Ci r).length - 1 = (f - 1) + (Ci r).length by omega, Nat.add_mod_right, Nat.mod_eq_of_lt (by omega)]
      · rw [show f - 1 + 1 = f by omega, Nat.mod_eq_of_lt hf]
  obtain ⟨p1, p2⟩ := h.gapC hx
  obtain ⟨q1, q2⟩ := h.gapC hf
  obtain ⟨-, d1⟩ := h.run2 p1 p2
  obtain ⟨d2, -⟩ := h.run2 q1 q2
  obtain ⟨a1, a2, a3⟩ := h.at_nx hx
  obtain ⟨b1, b2, b3⟩ := h.at_nx hf
  rw [e2] at a1 a2
  rw [a1, a3, a2, Nat.add_zero] at d1
  rw [b1, b3] at d2
  rw [e1, cr_xp, cr_xp]
  have := (dir_sign d1 d2).1
  rw [← this]
  unfold Wr
  rw [show cAt r f - 1 + 1 = cAt r f by omega, h.pr (i := cAt r f - 1) (by omega), h.pr bf.2, h.pr_next bf.1 bf.2]
theorem VR.lefts_area {r : Ring} (h : VR r) : lefts (corners r) (leastI (corners r)) = decide (0 < area2 r) := by
  have hne : corners r ≠ [] := fun e => by have := h.corners_two; rw [e] at this; simp at this
  have hf := leastI_in hne
  have hfl : leastI (corners r) < (Ci r).length := by rw [← corners_len]; exact hf
  have bf := Ci_pos (cAt_mem hfl)
  have e1 := corner_at hfl
  have h4 := h.shut.len
  have e0 : per r = r.length - 1 := rfl
  have hm : ∀ v ∈ r, ¬ bef v (ptAt r (cAt r (leastI (corners r)))) := by
    obtain ⟨i, hi1, hil, hmin⟩ : ∃ i, 1 ≤ i ∧ i < r.length ∧ ∀ v ∈ r, ¬ bef v (ptAt r i) := by
      have hr : r ≠ [] := fun e => by rw [e] at h4; simp at h4
      have hl := leastI_in hr
      by_cases z : leastI r = 0
      · refine ⟨r.length - 1, by omega, by omega, fun v hv => ?_⟩
        rw [← h.wrap]
        have := leastI_min hv
        rw [z] at this
        exact this
      · exact ⟨leastI r, by omega, hl, fun v hv => leastI_min hv⟩
    have ht : Vd.turns r i = true := by
      rw [h.turns_iff hi1 (by omega)]
      apply decide_eq_true
      intro e
      apply (h.least_hand hi1 hil hmin).1
      rw [cr_xp, ← e]
      unfold Wr
      rw [show i - 1 + 1 = i by omega, h.pr (i := i - 1) (by omega), h.pr (i := i) (by omega), h.pr_next hi1 (by omega)]
    have hin : ptAt r i ∈ corners r := by rw [corners_Ci]; exact List.mem_map_of_mem (mem_Ci.2 ⟨hil, ht⟩)
    have k := leastI_min hin
    rw [e1] at k
    intro v hv
    exact bef_tr (hmin v hv) k
  rw [h.area bf.1 (by omega) hm]
  unfold lefts side at1
  apply decide_eq_decide.2
  rw [← h.corner_turn hfl]
  exact sg_pos _
end Vd
end Go.Proofs.YtcclepohmhdpbabGreatDoor

namespace Go.Proofs.YtcclepohmhdpbabGreatDoor
set_option linter.all false
namespace Vd
theorem VR.corners_three {r : Ring} (h : VR r) : 3 ≤ (corners r).length := by
  have h2 := h.corners_two
  rcases Nat.lt_or_ge 2 (corners r).length with g | g
  · omega
  · exfalso
    have e : (Ci r).length = 2 := by rw [← corners_len]; omega
    obtain ⟨p1, p2⟩ := h.gapC (x := 0) (by omega)
    obtain ⟨q1, q2⟩ := h.gapC (x := 1) (by omega)
    obtain ⟨-, d1⟩ := h.run2 p1 p2
    obtain ⟨d2, -⟩ := h.run2 q1 q2
    obtain ⟨a1, a2, a3⟩ := h.at_nx (x := 0) (by omega)
    obtain ⟨b1, b2, b3⟩ := h.at_nx (x := 1) (by omega)
    rw [corners_len, e] at a1 a2 b1
    rw [a1, a3, a2] at d1
    rw [b1, b3] at d2
    have bc := Ci_pos (cAt_mem (r := r) (x := 1) (by omega))
    have z : xp (sub (ptAt (corners r) 0) (ptAt (corners r) ((0 + 1) % 2))) (sub (ptAt (corners r) 1) (ptAt (corners r) ((1 + 1) % 2))) = 0 := by
      show xp (sub (ptAt (corners r) 0) (ptAt (corners r) 1)) (sub (ptAt (corners r) 1) (ptAt (corners r) 0)) = 0
      unfold xp sub; grind
    have := (dir_sign d1 d2).2.2 z
    have ht := (mem_Ci.1 (cAt_mem (r := r) (x := 1) (by omega))).2
    rw [h.turns_iff bc.1 bc.2] at ht
    exact of_decide_eq_true ht this
def rotL (l : Ring) : Ring := l.drop (leastI l) ++ l.take (leastI l)
theorem ptAt_mid (A : Ring) (b : Pnt) (B : Ring) : ptAt (A ++ b :: B) A.length = b := by
  unfold ptAt; rw [List.getD_eq_getElem?_getD, List.getElem?_append_right (Nat.le_refl _), Nat.sub_self]; rfl
theorem leastI_at {A B : Ring} {b : Pnt} (h : ∀ p ∈ A ++ B, bef b p) : leastI (A ++ b :: B) = A.length := by
  have hl : leastI (A ++ b :: B) < (A ++ b :: B).length := leastI_in (by simp)
  have hm : ¬ bef b (ptAt (A ++ b :: B) (leastI (A ++ b :: B))) := leastI_min (by simp)
  rcases Nat.lt_trichotomy (leastI (A ++ b :: B)) A.length with g | g | g
  · have : ptAt (A ++ b :: B) (leastI (A ++ b :: B)) = ptAt A (leastI (A ++ b :: B)) := ptAt_app1 g
    rw [this] at hm
    exact absurd (h _ (List.mem_append_left _ (ptAt_mem g))) hm
  · exact g
  · obtain ⟨k, hk⟩ : ∃ k, leastI (A ++ b :: B) = A.length + (k + 1) := ⟨leastI (A ++ b :: B) - A.length - 1, by omega⟩
    rw [hk] at hm hl
    have : ptAt (A ++ b :: B) (A.length + (k + 1)) = ptAt B k := by rw [ptAt_app2]; unfold ptAt; rfl
    rw [this] at hm
    exact absurd (h _ (List.mem_append_right _ (ptAt_mem (by simp at hl; omega)))) hm
theorem rotL_at {A B : Ring} {b : Pnt} (h : ∀ p ∈ A ++ B, bef b p) : rotL (A ++ b :: B) = b :: B ++ A := by
  unfold rotL
  rw [leastI_at h, List.drop_left, List.take_left]
def roundD (l : Ring) : Ring := rotL l ++ [ptAt l (leastI l)]
theorem roundD_at {A B : Ring} {b : Pnt} (h : ∀ p ∈ A ++ B, bef b p) : roundD (A ++ b :: B) = b :: B ++ A ++ [b] := by
  unfold roundD
  rw [rotL_at h, leastI_at h, ptAt_mid]
theorem roundD_rev {A B : Ring} {b : Pnt} (h : ∀ p ∈ A ++ B, bef b p) : roundD (A ++ b :: B).reverse = b :: A.reverse ++ B.reverse ++ [b] := by
  have e : (A ++ b :: B).reverse = B.reverse ++ b :: A.reverse := by simp
  rw [e, roundD_at]
  intro p hp
  rcases List.mem_append.1 hp with k | k
  · exact h p (List.mem_append_right _ (List.mem_reverse.1 k))
  · exact h p (List.mem_append_left _ (List.mem_reverse.1 k))
theorem least_split {l : Ring} (hne : l ≠ []) (hnd : l.Nodup) : ∃ A b B, l = A ++ b :: B ∧ ∀ p ∈ A ++ B, bef b p := by
  have hl := leastI_in hne
  obtain ⟨A, B, e⟩ := List.append_of_mem (ptAt_mem hl)
  refine ⟨A, _, B, e, fun p hp => ?_⟩
  have hm := leastI_min (v := l) (p := p) (by rw [e]; rcases List.mem_append.1 hp with k | k <;> simp [k])
  have hn : p ≠ ptAt l (leastI l) := by
    intro e2
    rw [e] at hnd
    rw [List.nodup_append, List.nodup_cons] at hnd
    rcases List.mem_append.1 hp with k | k
    · exact hnd.2.2 p k _ (by simp) e2
    · exact hnd.2.1.1 (e2 ▸ k)
  have : p.1 ≠ (ptAt l (leastI l)).1 ∨ p.2 ≠ (ptAt l (leastI l)).2 := by
    by_cases k : p.1 = (ptAt l (leastI l)).1
    · exact .inr fun e => hn (Prod.ext k e)
    · exact .inl k
  unfold bef at *
  omega
theorem round_turn {E M : Ring} (hne : M ++ E ≠ []) (hnd : (M ++ E).Nodup) : roundD (E ++ M) = roundD (M ++ E) ∧ roundD (E ++ M).reverse = roundD (M ++ E).reverse := by
  obtain ⟨A, b, B, e, h⟩ := least_split hne hnd
  rcases List.append_eq_append_iff.1 e with ⟨as, e1, e2⟩ | ⟨bs, e1, e2⟩
  · -- the least stands in E
    cases as with
    | nil =>
      simp only [List.append_nil, List.nil_append] at e1 e2
      subst e1
      subst e2
      have h' : ∀ p ∈ [] ++ (B ++ A), bef b p := fun p hp => h p (by simp at hp ⊢; grind)
      have r1 := roundD_at h
      have r2 := roundD_at (A := []) (B := B ++ A) (b := b) h'
      have s1 := roundD_rev h
      have s2 := roundD_rev (A := []) (B := B ++ A) (b := b) h'
      simp only [List.nil_append, List.cons_append] at r1 r2 s1 s2 ⊢
      rw [r1, r2, s1, s2]
      simp
    | cons a as =>
      simp only [List.cons_append, List.cons.injEq] at e2
      subst e1
      have e3 : E = (a :: as) ++ b :: B := by rw [e2]; rfl
      subst e3
      have h1 : ∀ p ∈ (a :: as) ++ (B ++ M), bef b p := fun p hp => h p (by simp at hp ⊢; grind)
      have r1 := roundD_at (A := M ++ a :: as) (B := B) (b := b) h
      have r2 := roundD_at h1
      have s1 := roundD_rev (A := M ++ a :: as) (B := B) (b := b) h
      have s2 := roundD_rev h1
      rw [show (a :: as) ++ b :: B ++ M = (a :: as) ++ b :: (B ++ M) by simp, show M ++ ((a :: as) ++ b :: B) = (M ++ a :: as) ++ b :: B by simp, r1, r2, s1, s2]
      simp
  · -- the least stands in M
    cases bs with
    | nil =>
      simp only [List.append_nil, List.nil_append] at e1 e2
      subst e1
      subst e2
      have h' : ∀ p ∈ [] ++ (B ++ M), bef b p := fun p hp => h p (by simp at hp ⊢; grind)
      have r1 := roundD_at h
      have r2 := roundD_at (A := []) (B := B ++ M) (b := b) h'
      have s1 := roundD_rev h
      have s2 := roundD_rev (A := []) (B := B ++ M) (b := b) h'
      simp only [List.nil_append, List.cons_append] at r1 r2 s1 s2 ⊢
      rw [r1, r2, s1, s2]
      simp
    | cons a bs =>
      simp only [List.cons_append, List.cons.injEq] at e2
      obtain ⟨rfl, rfl⟩ := e2
      subst e1
      have h1 : ∀ p ∈ (E ++ A) ++ bs, bef b p := fun p hp => h p (by simp at hp ⊢; grind)
      have h2 : ∀ p ∈ A ++ (bs ++ E), bef b p := h
      have r1 := roundD_at h1
      have r2 := roundD_at h2
      have s1 := roundD_rev h1
      have s2 := roundD_rev h2
      rw [show E ++ (A ++ b :: bs) = (E ++ A) ++ b :: bs by simp, show A ++ b :: bs ++ E = A ++ b :: (bs ++ E) by simp, r1, r2, s1, s2]
      simp
end Vd
end Go.Proofs.YtcclepohmhdpbabGreatDoor

namespace Go.Proofs.YtcclepohmhdpbabGreatDoor
set_option linter.all false
namespace Vd
theorem ext_pt {l k : Ring} (hl : l.length = k.length) (h : ∀ i, i < l.length → ptAt l i = ptAt k i) : l = k := by
  refine List.ext_getElem? fun i => ?_
  rcases Nat.lt_or_ge i l.length with g | g
  · rw [ptAt_get g, ptAt_get (by omega), h i g]
  · rw [List.getElem?_eq_none g, List.getElem?_eq_none (by omega)]
theorem ptAt_map_range {n i : Nat} {f : Nat → Pnt} (h : i < n) : ptAt ((List.range n).map f) i = f i := by
  unfold ptAt; rw [List.getD_eq_getElem?_getD, List.getElem?_map, List.getElem?_range h]; rfl
theorem ptAt_cons_succ (b : Pnt) (l : Ring) (i : Nat) : ptAt (b :: l) (i + 1) = ptAt l i := by unfold ptAt; rfl
theorem ptAt_rev {l : Ring} {i : Nat} (h : i < l.length) : ptAt l.reverse i = ptAt l (l.length - 1 - i) := by
  unfold ptAt; rw [List.getD_eq_getElem?_getD, List.getD_eq_getElem?_getD, List.getElem?_reverse h]
theorem ptAt_left {l k : Ring} {i : Nat} (h : i < l.length) : ptAt (l ++ k) i = ptAt l i := ptAt_app1 h
theorem ptAt_right {l k : Ring} {i : Nat} (h : l.length ≤ i) : ptAt (l ++ k) i = ptAt k (i - l.length) := by
  have := ptAt_app2 (p1 := l) (p2 := k) (i - l.length)
  rw [show l.length + (i - l.length) = i by omega] at this
  exact this
theorem form_fwd (A : Ring) (b : Pnt) (B : Ring) : (List.range ((A ++ b :: B).length + 1)).map (fun t => ptAt (A ++ b :: B) ((A.length + t * 1) % (A ++ b :: B).length)) = b :: B ++ A ++ [b] := by
  have hc : (A ++ b :: B).length = A.length + B.length + 1 := by simp; omega
  refine ext_pt (by simp; omega) fun t ht => ?_
  rw [List.length_map, List.length_range] at ht
  rw [ptAt_map_range ht, Nat.mul_one]
  have lb : (b :: B).length = B.length + 1 := by simp
  have lba : (b :: B ++ A).length = B.length + 1 + A.length := by simp; omega
  rcases Nat.lt_or_ge t (B.length + 1) with g | g
  · rw [Nat.mod_eq_of_lt (by omega), ptAt_right (by omega), ptAt_left (by omega), ptAt_left (by omega)]
    congr 1; omega
  · rcases Nat.lt_or_ge t (A ++ b :: B).length with g2 | g2
    · have e : (A.length + t) % (A ++ b :: B).length = A.length + t - (A ++ b :: B).length := by
        rw [Nat.mod_eq_sub_mod (by omega), Nat.mod_eq_of_lt (by omega)]
      rw [e, ptAt_left (by omega), ptAt_left (by omega), ptAt_right (by omega)]
      congr 1; omega
    · have et : t = (A ++ b :: B).length := by omega
      rw [et, Nat.add_mod_right, Nat.mod_eq_of_lt (by omega), ptAt_mid, ptAt_right (by omega), show (A ++ b :: B).length - (b :: B ++ A).length = 0 by omega]; rfl
theorem mod_back {f c t : Nat} (hc : 1 ≤ c) (ht : t ≤ c) : (f + t * (c - 1)) % c = (f + (c - t)) % c := by
  rcases Nat.eq_zero_or_pos t with z | z
  · subst z; rw [Nat.zero_mul, Nat.add_zero, Nat.sub_zero, Nat.add_mod_right]
  · have e : f + t * (c - 1) = (f + (c - t)) + c * (t - 1) := by
      obtain ⟨t', rfl⟩ : ∃ t', t = t' + 1 := ⟨t - 1, by omega⟩
      obtain ⟨c', rfl⟩ : ∃ c', c = c' + 1 := ⟨c - 1, by omega⟩
      rw [show c' + 1 - 1 = c' from rfl, show t' + 1 - 1 = t' from rfl]
      have : (t' + 1) * c' = t' * c' + c' := Nat.succ_mul _ _
      have : (c' + 1) * t' = c' * t' + t' := Nat.succ_mul _ _
      have : t' * c' = c' * t' := Nat.mul_comm _ _
      omega
    rw [e, Nat.add_mul_mod_self_left]
theorem form_bwd (A : Ring) (b : Pnt) (B : Ring) : (List.range ((A ++ b :: B).length + 1)).map (fun t => ptAt (A ++ b :: B) ((A.length + t * ((A ++ b :: B).length - 1)) % (A ++ b :: B).length)) = b :: A.reverse ++ B.reverse ++ [b] := by
  have hc : (A ++ b :: B).length = A.length + B.length + 1 := by simp; omega
  refine ext_pt (by simp <;> omega) fun t ht => ?_
  rw [List.length_map, List.length_range] at ht
  rw [ptAt_map_range ht, mod_back (by omega) (by omega)]
  have lba : (b :: A.reverse ++ B.reverse).length = A.length + 1 + B.length := by simp; omega
  have lb : (b :: A.reverse).length = A.length + 1 := by simp
  rcases Nat.eq_zero_or_pos t with z | z
  · subst z
    rw [Nat.sub_zero, Nat.add_mod_right, Nat.mod_eq_of_lt (by omega), ptAt_mid]; rfl
  · obtain ⟨s, rfl⟩ : ∃ s, t = s + 1 := ⟨t - 1, by omega⟩
    rcases Nat.lt_or_ge s A.length with g | g
    · have e : (A.length + ((A ++ b :: B).length - (s + 1))) % (A ++ b :: B).length = A.length - (s + 1) := by
        rw [Nat.mod_eq_sub_mod (by omega), Nat.mod_eq_of_lt (by omega)]; omega
      rw [e, ptAt_left (by omega), ptAt_left (by omega), ptAt_left (by omega), ptAt_cons_succ, ptAt_rev g]
      congr 1; omega
    · rcases Nat.lt_or_ge (s + 1) (A ++ b :: B).length with g2 | g2
      · rw [Nat.mod_eq_of_lt (by omega), ptAt_right (by omega), ptAt_left (by omega), ptAt_right (by omega), lb, ptAt_rev (by omega)]
        rw [show A.length + ((A ++ b :: B).length - (s + 1)) - A.length = ((A ++ b :: B).length - (s + 1) - 1) + 1 by omega, ptAt_cons_succ]
        congr 1; omega
      · have et : s + 1 = (A ++ b :: B).length := by omega
        rw [et, Nat.sub_self, Nat.add_zero, Nat.mod_eq_of_lt (by omega), ptAt_mid, ptAt_right (by omega), show (A ++ b :: B).length - (b :: A.reverse ++ B.reverse).length = 0 by omega]; rfl
def turnD (r : Ring) (i : Nat) : Bool := decide (xp (sub (ptAt r ((i + (r.length - 1) - 1) % (r.length - 1))) (ptAt r i)) (sub (ptAt r i) (ptAt r (i + 1))) ≠ 0)
def cornersU (r : Ring) : Ring := ((List.range (r.length - 1)).filter (turnD r)).map (ptAt r)
def cornersD (r : Ring) (left : Bool) : Ring := if decide (0 < twiceA (ptAt r 0) r) = left then cornersU r else (cornersU r).reverse
def ringD (r : Ring) (left : Bool) : Ring := roundD (cornersD r left)
theorem VR.turnD_eq {r : Ring} (h : VR r) {i : Nat} (h1 : 1 ≤ i) (hi : i < r.length - 1) : turnD r i = Vd.turns r i := by
  have e0 : per r = r.length - 1 := rfl
  rw [h.turns_iff h1 (by omega)]
  unfold turnD Wr
  rw [show i + (r.length - 1) - 1 = (i - 1) + (r.length - 1) by omega, Nat.add_mod_right, Nat.mod_eq_of_lt (by omega), show i - 1 + 1 = i by omega, h.pr (i := i - 1) (by omega), h.pr (i := i) (by omega), h.pr (i := i + 1) (by omega)]
theorem VR.turnD_zero {r : Ring} (h : VR r) : turnD r 0 = Vd.turns r (r.length - 1) := by
  have e0 : per r = r.length - 1 := rfl
  have h4 := h.shut.len
  rw [h.turns_iff (by omega) (by omega)]
  unfold turnD Wr
  rw [show 0 + (r.length - 1) - 1 = r.length - 2 by omega, Nat.mod_eq_of_lt (by omega), show r.length - 1 - 1 + 1 = r.length - 1 by omega, h.pr (i := r.length - 1 - 1) (by omega), h.pr (i := r.length - 1) (by omega), h.pr_next (by omega) (by omega), ← h.wrap]
  unfold nextI
  rw [if_neg (by omega)]
  rfl
theorem VR.corners_split {r : Ring} (h : VR r) : ∃ M E : Ring, corners r = M ++ E ∧ cornersU r = E ++ M := by
  have h4 := h.shut.len
  obtain ⟨n, hn⟩ : ∃ n, r.length = n + 2 := ⟨r.length - 2, by omega⟩
  have r1 : List.range r.length = 0 :: (List.range' 1 n ++ [n + 1]) := by
    rw [hn, List.range_succ, List.range_eq_range', List.range'_succ]; rfl
  have r2 : List.range (r.length - 1) = 0 :: List.range' 1 n := by
    rw [hn, show n + 2 - 1 = n + 1 from rfl, List.range_eq_range', List.range'_succ]
  have t0 : Vd.turns r 0 = false := by unfold Vd.turns; simp
  refine ⟨((List.range' 1 n).filter (Vd.turns r)).map (ptAt r), if Vd.turns r (n + 1) = true then [ptAt r (n + 1)] else [], ?_, ?_⟩
  · rw [corners_Ci]
    unfold Ci
    rw [r1, List.filter_cons, t0, if_neg (by decide), List.filter_append, List.map_append]
    congr 1
    by_cases k : Vd.turns r (n + 1) = true
    · rw [if_pos k]; simp [k]
    · rw [if_neg k]; simp [k]
  · unfold cornersU
    rw [r2, List.filter_cons, h.turnD_zero, show r.length - 1 = n + 1 by omega]
    have e : (List.range' 1 n).filter (turnD r) = (List.range' 1 n).filter (Vd.turns r) := by
      refine List.filter_congr fun i hi => ?_
      have := List.mem_range'_1.1 hi
      exact h.turnD_eq (by omega) (by omega)
    by_cases k : Vd.turns r (n + 1) = true
    · rw [if_pos k, if_pos k, List.map_cons, e, h.wrap, show r.length - 1 = n + 1 by omega]; rfl
    · rw [if_neg k, if_neg k, e]; rfl
theorem VR.ring_eq {r : Ring} (h : VR r) (left : Bool) : ringForm r left = ringD r left := by
  have h3 := h.corners_three
  obtain ⟨M, E, e1, e2⟩ := h.corners_split
  have hne : M ++ E ≠ [] := fun e => by rw [← e1] at e; rw [e] at h3; simp at h3
  have hnd : (M ++ E).Nodup := by rw [← e1]; exact h.corners_nodup
  obtain ⟨t1, t2⟩ := round_turn hne hnd
  have hl := h.lefts_area
  have ha : twiceA (ptAt r 0) r = area2 r := twiceA_eq (shut_ends h.shut) _
  unfold ringD cornersD
  rw [ha, e2]
  unfold ringForm stepI
  rw [if_neg (by omega), hl]
  obtain ⟨A, b, B, es, hb⟩ := least_split hne hnd
  by_cases c : decide (0 < area2 r) = left
  · rw [if_pos c, if_pos c, t1, e1, es, leastI_at hb, form_fwd, roundD_at hb]
  · rw [if_neg c, if_neg c, t2, e1, es, leastI_at hb, form_bwd, roundD_rev hb]
end Vd
end Go.Proofs.YtcclepohmhdpbabGreatDoor

namespace Go.Proofs.YtcclepohmhdpbabGreatDoor
set_option linter.all false
namespace Vd
def insR {α : Type} (c : α → α → Int) (x : α) : List α → List α
  | [] => [x]
  | y :: t => if c x y < 0 then y :: insR c x t else x :: y :: t
def insB {α : Type} (c : α → α → Int) (l : List α) (x : α) : List α := (insR c x l.reverse).reverse
theorem insB_snoc {α : Type} (c : α → α → Int) (l : List α) (y x : α) : insB c (l ++ [y]) x = if c x y < 0 then insB c l x ++ [y] else l ++ [y] ++ [x] := by
  unfold insB
  rw [List.reverse_append, show [y].reverse ++ l.reverse = y :: l.reverse from rfl, insR]
  split
  · rw [List.reverse_cons]
  · rw [List.reverse_cons, List.reverse_cons, List.reverse_reverse]
theorem snoc_ind {α : Type} {P : List α → Prop} (h0 : P []) (h1 : ∀ l x, P l → P (l ++ [x])) : ∀ l, P l := by
  intro l
  have : ∀ n (l : List α), l.length = n → P l := by
    intro n
    induction n with
    | zero => intro l hl; rw [List.eq_nil_of_length_eq_zero hl]; exact h0
    | succ n ih =>
      intro l hl
      rcases List.eq_nil_or_concat l with e | ⟨t, x, e⟩
      · rw [e]; exact h0
      · rw [e, List.concat_eq_append]
        rw [e] at hl
        exact h1 t x (ih t (by simp at hl; omega))
  exact this l.length l rfl
theorem insB_perm {α : Type} (c : α → α → Int) (x : α) : ∀ l, (insB c l x).Perm (l ++ [x]) := by
  intro l
  induction l using snoc_ind with
  | h0 => exact List.Perm.refl _
  | h1 l y ih =>
    rw [insB_snoc]
    split
    · have k : (insB c l x ++ [y]).Perm (l ++ [x] ++ [y]) := ih.append_right _
      refine k.trans ?_
      rw [List.append_assoc, List.append_assoc]
      exact List.Perm.append_left _ (List.Perm.swap y x [])
    · exact List.Perm.refl _
theorem Cmp.le_trans {α : Type} {c : α → α → Int} (h : Cmp c) {x y z : α} (h1 : c x y ≤ 0) (h2 : c y z ≤ 0) : c x z ≤ 0 := by
  rcases Int.lt_or_le (c x y) 0 with g | g
  · rcases Int.lt_or_le (c y z) 0 with g2 | g2
    · have := h.trans x y z g g2; omega
    · rw [← h.eq y z (by omega)]; exact h1
  · rw [h.eq x y (by omega)]; exact h2
theorem insB_sorted {α : Type} {c : α → α → Int} (h : Cmp c) (x : α) : ∀ l, l.Pairwise (fun a b => c a b ≤ 0) → (insB c l x).Pairwise (fun a b => c a b ≤ 0) := by
  intro l
  induction l using snoc_ind with
  | h0 => intro _; exact List.pairwise_singleton _ _
  | h1 l y ih =>
    intro hp
    obtain ⟨p1, p2, p3⟩ := List.pairwise_append.1 hp
    rw [insB_snoc]
    split
    · rename_i k
      refine List.pairwise_append.2 ⟨ih p1, List.pairwise_singleton _ _, fun a ha b hb => ?_⟩
      rw [List.mem_singleton.1 hb]
      rcases List.mem_append.1 ((insB_perm c x l).mem_iff.1 ha) with g | g
      · exact p3 a g y (by simp)
      · rw [List.mem_singleton.1 g]; omega
    · rename_i k
      refine List.pairwise_append.2 ⟨hp, List.pairwise_singleton _ _, fun a ha b hb => ?_⟩
      rw [List.mem_singleton.1 hb]
      have hy : c y x ≤ 0 := by have := h.anti x y; omega
      rcases List.mem_append.1 ha with g | g
      · exact h.le_trans (p3 a g y (by simp)) hy
      · rw [List.mem_singleton.1 g]; exact hy
def sortD {α : Type} (c : α → α → Int) (l : List α) : List α := l.foldl (insB c) []
theorem sortD_snoc {α : Type} (c : α → α → Int) (l : List α) (x : α) : sortD c (l ++ [x]) = insB c (sortD c l) x := by unfold sortD; rw [List.foldl_append]; rfl
theorem sortD_perm {α : Type} (c : α → α → Int) : ∀ l, (sortD c l).Perm l := by
  intro l
  induction l using snoc_ind with
  | h0 => exact List.Perm.refl _
  | h1 l x ih => rw [sortD_snoc]; exact (insB_perm c x _).trans (ih.append_right _)
theorem sortD_sorted {α : Type} {c : α → α → Int} (h : Cmp c) : ∀ l, (sortD c l).Pairwise (fun a b => c a b ≤ 0) := by
  intro l
  induction l using snoc_ind with
  | h0 => exact List.Pairwise.nil
  | h1 l x ih => rw [sortD_snoc]; exact insB_sorted h x _ ih
theorem sort_unique {α : Type} {c : α → α → Int} (h : Cmp c) {l k : List α} (hl : l.Pairwise (fun a b => c a b ≤ 0)) (hk : k.Pairwise (fun a b => c a b ≤ 0)) (hp : l.Perm k) : l = k :=
  List.Perm.eq_of_pairwise (le := fun a b => c a b ≤ 0) (fun a b _ _ h1 h2 => h.eq a b (by have := h.anti a b; omega)) hl hk hp
theorem pAt_list (m : Mult) : (List.range m.length).map (pAt m) = m := by
  refine List.ext_getElem? fun i => ?_
  rcases Nat.lt_or_ge i m.length with g | g
  · rw [List.getElem?_map, List.getElem?_range g]
    unfold pAt
    rw [Option.map_some, List.getD_eq_getElem?_getD, List.getElem?_eq_getElem g]; rfl
  · rw [List.getElem?_eq_none (by simpa using g), List.getElem?_eq_none g]
noncomputable def inv (m : Mult) (j : Nat) : Nat := if h : j < m.length then Classical.choose (cnt_surj (m := m) h) else 0
theorem inv_at {m : Mult} {j : Nat} (h : j < m.length) : inv m j < m.length ∧ cntA m (inv m j) m.length = j := by
  unfold inv; rw [dif_pos h]; exact Classical.choose_spec (cnt_surj (m := m) h)
theorem inOrder_inv (m : Mult) : inOrder m = (List.range m.length).map fun j => pAt m (inv m j) := by
  refine List.ext_getElem? fun j => ?_
  rcases Nat.lt_or_ge j m.length with g | g
  · obtain ⟨h1, h2⟩ := inv_at g
    have := inOrder_at m h1
    rw [h2] at this
    rw [this, List.getElem?_map, List.getElem?_range g]; rfl
  · rw [List.getElem?_eq_none (by rw [inOrder_len]; exact g), List.getElem?_eq_none (by simpa using g)]
theorem inOrder_perm (m : Mult) : (inOrder m).Perm m := by
  have e : (fun j => pAt m (inv m j)) = pAt m ∘ inv m := rfl
  have h : ((List.range m.length).map (inv m)).Perm (List.range m.length) := by
    refine (List.perm_ext_iff_of_nodup ?_ List.nodup_range).2 fun a => ?_
    · exact nodup_map (n := m.length) (fun i k hi hk e => by
        have a1 := (inv_at hi).2
        have a2 := (inv_at hk).2
        rw [e] at a1
        omega) m.length (Nat.le_refl _)
    · rw [List.mem_map, List.mem_range]
      constructor
      · rintro ⟨j, hj, rfl⟩; exact (inv_at (List.mem_range.1 hj)).1
      · intro ha
        refine ⟨cntA m a m.length, List.mem_range.2 (cnt_small ha), ?_⟩
        obtain ⟨h1, h2⟩ := inv_at (m := m) (cnt_small ha)
        exact cnt_inj h1 ha h2
  have k := h.map (pAt m)
  rw [pAt_list, List.map_map, ← e, ← inOrder_inv] at k
  exact k
theorem inOrder_sorted (m : Mult) : (inOrder m).Pairwise (fun a b => cmpP a b ≤ 0) := by
  rw [inOrder_inv, List.pairwise_map]
  have hr : (List.range m.length).Pairwise (fun i j => i < j ∧ j < m.length) := by
    rw [List.pairwise_iff_getElem]
    intro i j hi hj hij
    simp only [List.length_range] at hi hj
    rw [List.getElem_range, List.getElem_range]
    exact ⟨hij, hj⟩
  refine hr.imp fun {i j} ⟨h1, h2⟩ => ?_
  obtain ⟨a1, a2⟩ := inv_at (m := m) (j := i) (by omega)
  obtain ⟨b1, b2⟩ := inv_at (m := m) h2
  have hne : inv m i ≠ inv m j := fun e => by rw [e] at a2; omega
  rcases aheadM_tot m hne with k | k
  · unfold aheadM at k; omega
  · have := cnt_lt b1 k; omega
theorem order_eq (m : Mult) : inOrder m = sortD cmpP m := sort_unique cmpP_cmp (inOrder_sorted m) (sortD_sorted cmpP_cmp m) ((inOrder_perm m).trans (sortD_perm cmpP m).symm)
theorem cmpP_one (a b : Ring) : cmpP [a] [b] = cmpR a b := by
  rw [cmpP]
  split
  · rfl
  · rename_i k; rw [cmpP]; omega
theorem order_ones (t : List Ring) : inOrder (t.map fun r => [r]) = (sortD cmpR t).map fun r => [r] := by
  refine sort_unique cmpP_cmp (inOrder_sorted _) ?_ ((inOrder_perm _).trans ((sortD_perm cmpR t).map _).symm)
  rw [List.pairwise_map]
  exact (sortD_sorted cmpR_cmp t).imp fun {a b} h => by rw [cmpP_one]; exact h
theorem flat_ones {α : Type} (t : List α) : (t.map fun r => [r]).flatten = t := by
  induction t with
  | nil => rfl
  | cons a t ih => simp [ih]
def polyD : Poly → Poly
  | [] => []
  | r :: t => ringD r true :: sortD cmpR (t.map fun r => ringD r false)
def canonD (m : Mult) : Mult := sortD cmpP (m.map polyD)
theorem poly_eq {l : Poly} (h : ∀ r ∈ l, VR r) : polyForm l = polyD l := by
  cases l with
  | nil => rfl
  | cons r t =>
    rw [polyForm, polyD, (h r (by simp)).ring_eq]
    congr 1
    have e : holesF t = (t.map fun r => ringD r false).map fun r => [r] := by
      unfold holesF
      rw [List.map_map]
      refine List.map_congr_left fun x hx => ?_
      show [ringForm x false] = [ringD x false]
      rw [(h x (by simp [hx])).ring_eq]
    rw [e, order_ones, flat_ones]
theorem form_eq {m : Mult} (h : ∀ l ∈ m, ∀ r ∈ l, VR r) : form m = canonD m := by
  unfold form canonD
  rw [order_eq]
  congr 1
  exact List.map_congr_left fun l hl => poly_eq (h l hl)
end Vd
end Go.Proofs.YtcclepohmhdpbabGreatDoor

namespace Go.Proofs.YtcclepohmhdpbabGreatDoor
set_option linter.all false
namespace Vd
theorem VR.seg_pr {r : Ring} (h : VR r) (k : Nat) : (Pr r k, Pr r (k + 1)) ∈ segs r := by
  have h4 := h.shut.len
  have e0 : per r = r.length - 1 := rfl
  have hl := Nat.mod_lt k (show per r > 0 by omega)
  have e1 : Pr r (k + 1) = ptAt r (k % per r + 1) := by
    rw [← h.pr (i := k % per r + 1) (by omega)]
    unfold Pr
    congr 1
    rw [Nat.add_mod, Nat.add_mod (k % per r)]
    simp
  have e2 : Pr r k = ptAt r (k % per r) := rfl
  rw [e1, e2]
  exact List.mem_of_getElem? (segs_at (ptAt_get (by omega)) (ptAt_get (by omega)))
theorem dir_ins {a b c : Pnt} (h : Dir (sub a b) (sub b c)) : Ins a c b := by
  have hx := h.x; have hd := h.d
  obtain ⟨q1, q2⟩ := dp_pos h
  have g : Par (sub a b) (sub b c) := ⟨hx, hd⟩
  have k := par_btw g
  refine ⟨⟨?_, ?_, ?_⟩, ?_, ?_⟩
  · unfold xp sub at hx; unfold cr; grind
  · have f : ∀ {u v : Int}, (btw 0 u v ∨ btw 0 v u) → ∀ t : Int, btw (t * 1) (t + u) ((t + u + v) * 1) := by
      intro u v h t; unfold btw at *; omega
    have := f (u := b.1 - a.1) (v := c.1 - b.1) (by rcases k with k | k; exact .inl k.1; exact .inr k.1) a.1
    rwa [show a.1 + (b.1 - a.1) = b.1 by omega, show b.1 + (c.1 - b.1) = c.1 by omega] at this
  · have f : ∀ {u v : Int}, (btw 0 u v ∨ btw 0 v u) → ∀ t : Int, btw (t * 1) (t + u) ((t + u + v) * 1) := by
      intro u v h t; unfold btw at *; omega
    have := f (u := b.2 - a.2) (v := c.2 - b.2) (by rcases k with k | k; exact .inl k.2; exact .inr k.2) a.2
    rwa [show a.2 + (b.2 - a.2) = b.2 by omega, show b.2 + (c.2 - b.2) = c.2 by omega] at this
  · rintro rfl; unfold dp sub at q1; simp at q1
  · rintro rfl; unfold dp sub at q2; simp at q2
theorem cut_spot {a b c P : Pnt} {w : Int} (hw : 0 < w) (hi : Ins a c b) (h : has a c P w) : has a b P w ∨ has b c P w := by
  have hi' : Ins (sc w a) (sc w c) (sc w b) := ⟨(has_sc1 hw _ _ _).2 hi.on, fun e => hi.na ((sc_inj hw).1 e), fun e => hi.nb ((sc_inj hw).1 e)⟩
  have h' : has (sc w a) (sc w c) P 1 := (has_sc hw a c P 1).2 (by rwa [Int.mul_one])
  rcases cut_has2 (ins_ne hi') hi' h' with k | k
  · left; have := (has_sc hw a b P 1).1 k; rwa [Int.mul_one] at this
  · right; have := (has_sc hw b c P 1).1 k; rwa [Int.mul_one] at this
theorem VR.run_on {r : Ring} (h : VR r) {i : Nat} {P : Pnt} {w : Int} (hw : 0 < w) : ∀ d : Nat, (∀ k, i < k → k < i + d + 1 → xp (Wr r (k - 1)) (Wr r k) = 0) → has (Pr r i) (Pr r (i + d + 1)) P w → ∃ k, has (Pr r k) (Pr r (k + 1)) P w ∧ Dir (Wr r k) (sub (Pr r i) (Pr r (i + d + 1))) := by
  intro d
  induction d with
  | zero => intro _ hp; exact ⟨i, hp, Dir.self (h.step_ne i)⟩
  | succ d ih =>
    intro ht hp
    obtain ⟨k1, k2⟩ := h.run (i := i) d fun k a b => ht k a (by omega)
    obtain ⟨k3, k4⟩ := h.run (i := i) (d + 1) ht
    have k5 : Dir (sub (Pr r i) (Pr r (i + d + 1))) (Wr r (i + d + 1)) := k2.symm.trans k3
    have hi : Ins (Pr r i) (Pr r (i + (d + 1) + 1)) (Pr r (i + d + 1)) := dir_ins k5
    rcases cut_spot hw hi hp with g | g
    · obtain ⟨k, q1, q2⟩ := ih (fun k a b => ht k a (by omega)) g
      exact ⟨k, q1, q2.trans (k2.symm.trans k4)⟩
    · exact ⟨i + d + 1, g, k3.symm.trans k4⟩
theorem VR.form_seg {r : Ring} (h : VR r) {b : Bool} {s : Seg} (hs : s ∈ segs (ringForm r b)) : ∃ x, x < (Ci r).length ∧ (s = (Pr r (cAt r x), Pr r (nx r x)) ∨ s = (Pr r (nx r x), Pr r (cAt r x))) := by
  have hc := h.corners_two
  have hl := ringForm_len (r := r) (by omega) b
  obtain ⟨i, hi⟩ := List.mem_iff_getElem?.1 hs
  have hil : i < (corners r).length := by have := Pl.lt_of_some hi; rw [segs_len, hl] at this; omega
  have es : s = (ptAt (ringForm r b) i, ptAt (ringForm r b) (i + 1)) := by
    have := segs_at (ptAt_get (r := ringForm r b) (i := i) (by omega)) (ptAt_get (r := ringForm r b) (i := i + 1) (by omega))
    rw [hi] at this
    exact Option.some.inj this
  rw [ringForm_at (by omega) b (by omega), ringForm_at (by omega) b (by omega)] at es
  have ec := corners_len r
  generalize hL : leastI (corners r) = L at *
  rcases step_cases (corners r) b with e | e
  · rw [e] at es
    have hx := Nat.mod_lt (L + i * 1) (show (corners r).length > 0 by omega)
    refine ⟨(L + i * 1) % (corners r).length, by omega, .inl ?_⟩
    obtain ⟨a1, -, a3⟩ := h.at_nx (x := (L + i * 1) % (corners r).length) (by omega)
    rw [es, a1, a3]
    congr 2
    rw [Nat.mod_add_mod, show L + i * 1 + 1 = L + (i + 1) * 1 by omega]
  · rw [e] at es
    have hx := Nat.mod_lt (L + (i + 1) * ((corners r).length - 1)) (show (corners r).length > 0 by omega)
    refine ⟨(L + (i + 1) * ((corners r).length - 1)) % (corners r).length, by omega, .inr ?_⟩
    obtain ⟨a1, -, a3⟩ := h.at_nx (x := (L + (i + 1) * ((corners r).length - 1)) % (corners r).length) (by omega)
    rw [es, a1, a3]
    congr 2
    rw [Nat.mod_add_mod]
    have : L + (i + 1) * ((corners r).length - 1) + 1 = L + i * ((corners r).length - 1) + (corners r).length := by
      rw [Nat.add_mul]; omega
    rw [this, Nat.add_mod_right]
theorem VR.form_on {r : Ring} (h : VR r) {b : Bool} {s : Seg} (hs : s ∈ segs (ringForm r b)) {P : Pnt} {w : Int} (hw : 0 < w) (hp : has s.1 s.2 P w) : ∃ u v, (u, v) ∈ segs r ∧ has u v P w ∧ xx (wy u v) (wy s.1 s.2) = 0 ∧ s.1 ≠ s.2 := by
  obtain ⟨x, hx, he⟩ := h.form_seg hs
  obtain ⟨g1, g2⟩ := h.gapC hx
  have hd : ∃ d, nx r x = cAt r x + d + 1 := ⟨nx r x - cAt r x - 1, by omega⟩
  obtain ⟨d, ed⟩ := hd
  have hp' : has (Pr r (cAt r x)) (Pr r (cAt r x + d + 1)) P w := by
    rw [← ed]
    rcases he with rfl | rfl
    · exact hp
    · exact has_swap.1 hp
  obtain ⟨k, q1, q2⟩ := h.run_on hw d (fun k a b => g2 k a (by omega)) hp'
  refine ⟨_, _, h.seg_pr k, q1, ?_, ?_⟩
  · have e1 : wy (Pr r k) (Pr r (k + 1)) = Wr r k := rfl
    rw [e1]
    have := q2.x
    rw [← ed] at this
    rcases he with rfl | rfl
    · exact this
    · have e2 : xx (Wr r k) (wy (Pr r (nx r x)) (Pr r (cAt r x))) = - xp (Wr r k) (sub (Pr r (cAt r x)) (Pr r (nx r x))) := by unfold xx xp wy sub; grind
      simp only
      rw [e2, this]; rfl
  · have := (dp_pos q2).2
    rw [← ed] at this
    have hne : Pr r (cAt r x) ≠ Pr r (nx r x) := fun e => by rw [e] at this; unfold dp sub at this; simp at this
    rcases he with rfl | rfl
    · exact hne
    · exact fun e => hne e.symm
theorem VR.mem_form {r : Ring} (h : VR r) {c : Pnt} (hc : c ∈ corners r) (b : Bool) : c ∈ ringForm r b := by
  rw [h.ring_eq b]
  obtain ⟨M, E, e1, e2⟩ := h.corners_split
  have hU : c ∈ cornersU r := by rw [e2]; rw [e1] at hc; simp at hc ⊢; exact hc.symm
  have hD : c ∈ cornersD r b := by
    unfold cornersD
    split
    · exact hU
    · simpa using hU
  unfold ringD roundD rotL
  generalize cornersD r b = l at *
  have : c ∈ l.drop (leastI l) ++ l.take (leastI l) := by
    rw [List.mem_append, Or.comm, ← List.mem_append, List.take_append_drop]; exact hD
  exact List.mem_append_left _ this
theorem form_has {m : Mult} {l : Poly} (hl : l ∈ m) {o : Ring} (ho : o ∈ l) : ∃ b, ringForm o b ∈ (form m).flatten := by
  have hp : polyForm l ∈ form m := (inOrder_perm (m.map polyForm)).mem_iff.2 (List.mem_map_of_mem hl)
  cases l with
  | nil => cases ho
  | cons r t =>
    rcases List.mem_cons.1 ho with rfl | ho
    · exact ⟨true, List.mem_flatten.2 ⟨_, hp, by unfold polyForm; simp⟩⟩
    · refine ⟨false, List.mem_flatten.2 ⟨_, hp, ?_⟩⟩
      unfold polyForm
      refine List.mem_cons_of_mem _ (List.mem_flatten.2 ⟨[ringForm o false], ?_, by simp⟩)
      exact (inOrder_perm (holesF t)).mem_iff.2 (List.mem_map.2 ⟨o, ho, rfl⟩)
end Vd
end Go.Proofs.YtcclepohmhdpbabGreatDoor

namespace Go.Proofs.YtcclepohmhdpbabGreatDoor
set_option linter.all false
namespace Vd
theorem VR.turns_off {r : Ring} (h : VR r) {i : Nat} (h1 : 1 ≤ i) (hi : i ≤ per r) (hn : ptAt r i ∉ corners r) : xp (sub (ptAt r (i - 1)) (ptAt r i)) (sub (ptAt r i) (nextI r i)) = 0 := by
  have h4 := h.shut.len
  have e0 : per r = r.length - 1 := rfl
  have ht : Vd.turns r i = false := by
    cases hh : Vd.turns r i with
    | false => rfl
    | true => exact absurd (mem_corners.2 ⟨i, by omega, hh, rfl⟩) hn
  rw [h.turns_iff h1 hi] at ht
  have := of_decide_eq_false ht
  have k : xp (Wr r (i - 1)) (Wr r i) = 0 := Classical.byContradiction fun g => this g
  unfold Wr at k
  rw [show i - 1 + 1 = i by omega, h.pr (i := i - 1) (by omega), h.pr hi, h.pr_next h1 hi] at k
  exact k
theorem VR.two_segs {r : Ring} (h : VR r) {i : Nat} (h1 : 1 ≤ i) (hi : i < r.length) : (ptAt r (i - 1), ptAt r i) ∈ segs r ∧ (ptAt r i, nextI r i) ∈ segs r := by
  have h4 := h.shut.len
  have e0 : per r = r.length - 1 := rfl
  constructor
  · have := List.mem_of_getElem? (segs_at (ptAt_get (r := r) (i := i - 1) (by omega)) (ptAt_get (r := r) (i := i - 1 + 1) (by omega)))
    rwa [show i - 1 + 1 = i by omega] at this
  · have := h.seg_pr i
    rwa [h.pr (by omega), h.pr_next h1 (by omega)] at this
theorem sc_mem {w : Int} {r : Ring} {u v : Pnt} (h : (u, v) ∈ segs r) : (sc w u, sc w v) ∈ segs (scR w r) := by
  rw [segs_sc]; exact List.mem_map.2 ⟨(u, v), h, rfl⟩
theorem cr_xx (y x P : Pnt) : xx (wy P y) (wy P x) = cr y x P 1 := by unfold xx wy cr; grind
theorem VR.straight {r : Ring} (h : VR r) {P : Pnt} {w : Int} (hw : 0 < w) (hn : ∀ c ∈ corners r, P ≠ sc w c) {y x : Pnt} {O : List Seg} (sp : Spl (scR w r) P y x O) : xx (wy P y) (wy P x) = 0 := by
  by_cases hv : ∃ v ∈ r, P = sc w v
  · obtain ⟨v, hv, rfl⟩ := hv
    obtain ⟨i, hi1, hi, rfl⟩ := place_of h.shut hv
    have e0 : per r = r.length - 1 := rfl
    obtain ⟨s1, s2⟩ := h.two_segs hi1 hi
    have k := h.turns_off hi1 (by omega) (fun q => hn _ q rfl)
    have n1 := h.long _ s1
    have n2 := h.long _ s2
    have e1 := sp.into (sc_mem s1) (fun e => n1 ((sc_inj hw).1 e))
    have e2 := sp.from_ (sc_mem s2) (fun e => n2 ((sc_inj hw).1 e).symm)
    rw [e1, e2, wy_sc, wy_sc]
    have : xx (sc w (wy (ptAt r i) (ptAt r (i - 1)))) (sc w (wy (ptAt r i) (nextI r i))) = - (w * w * xp (sub (ptAt r (i - 1)) (ptAt r i)) (sub (ptAt r i) (nextI r i))) := by unfold xx xp wy sub sc; grind
    rw [this, k]; simp
  · obtain ⟨s, hs, h1, -⟩ := sp.seg1
    rw [segs_sc] at hs
    obtain ⟨t, ht, rfl⟩ := List.mem_map.1 hs
    have m := segs_mem ht
    have hi : Ins (sc w t.1) (sc w t.2) P := ⟨h1, fun e => hv ⟨t.1, m.1, e⟩, fun e => hv ⟨t.2, m.2, e⟩⟩
    obtain ⟨e1, e2⟩ := sp.ins (sc_mem (u := t.1) (v := t.2) ht) hi
    rw [cr_xx, e1, e2]
    exact h1.1
theorem xx_mul0 {w : Int} (hw : 0 < w) {u v : Pnt} (h : xx u (sc w v) = 0) : xx u v = 0 := by
  have e : xx u (sc w v) = w * xx u v := by unfold xx sc; grind
  rw [e] at h
  rcases Int.mul_eq_zero.1 h with g | g
  · omega
  · exact g
theorem VR.dir_at {r : Ring} (h : VR r) {P : Pnt} {w : Int} (hw : 0 < w) {y x : Pnt} {O : List Seg} (sp : Spl (scR w r) P y x O) (hst : xx (wy P y) (wy P x) = 0) {u v : Pnt} (hs : (u, v) ∈ segs r) (hp : has u v P w) : xx (wy P y) (wy u v) = 0 := by
  have hp' : has (sc w u) (sc w v) P 1 := (has_sc hw u v P 1).2 (by rwa [Int.mul_one])
  have n := h.long _ hs
  by_cases e1 : P = sc w u
  · subst e1
    have := sp.from_ (sc_mem hs) (fun e => n ((sc_inj hw).1 e).symm)
    rw [this, wy_sc] at hst
    exact xx_mul0 hw hst
  · by_cases e2 : P = sc w v
    · subst e2
      have := sp.into (sc_mem hs) (fun e => n ((sc_inj hw).1 e))
      rw [this, wy_sc]
      unfold xx sc wy; simp only; grind
    · obtain ⟨f1, -⟩ := sp.ins (sc_mem hs) ⟨hp', e1, e2⟩
      rw [f1]
      have k := hp'.1
      have e : w * xx (wy P (sc w u)) (wy u v) = cr (sc w u) (sc w v) P 1 := by unfold xx wy sc cr; grind
      rw [k] at e
      rcases Int.mul_eq_zero.1 e with g | g
      · omega
      · exact g
structure Crs (A B : Ring) (P : Pnt) (w : Int) (y x y' x' : Pnt) (O O' : List Seg) : Prop where
  hw : 0 < w
  a : Spl (scR w A) P y x O
  b : Spl (scR w B) P y' x' O'
  sa : xx (wy P y) (wy P x) = 0
  sb : xx (wy P y') (wy P x') = 0
  ne : xx (wy P y) (wy P y') ≠ 0
theorem xx_ne {u v : Pnt} (h : xx u v ≠ 0) : xx v u ≠ 0 := fun q => h (by rw [xx_swap, q]; rfl)
theorem Crs.flip {A B : Ring} {P : Pnt} {w : Int} {y x y' x' : Pnt} {O O' : List Seg} (h : Crs A B P w y x y' x' O O') (vA : VR A) :
    ∃ K : Int, 2 ≤ K ∧ ∀ k, K ≤ k → (place A (nrP k P (wy P y'), w * k) = 2 ∧ place A (nrP k P (wy P x'), w * k) = 0) ∨ (place A (nrP k P (wy P y'), w * k) = 0 ∧ place A (nrP k P (wy P x'), w * k) = 2) := by
  have na1 := wy_ne h.a.ny; have na2 := wy_ne h.a.nx; have nh1 := wy_ne h.b.ny; have nh2 := wy_ne h.b.nx
  have x11 := h.ne
  have x12 : xx (wy P y') (wy P x) ≠ 0 := xx_line na1 na2 h.sa x11
  have x21 : xx (wy P y) (wy P x') ≠ 0 := xx_line nh1 nh2 h.sb (xx_ne x11)
  have x22 : xx (wy P x') (wy P x) ≠ 0 := xx_line na1 na2 h.sa x21
  have f : Four (wy P y) (wy P x) (wy P y') (wy P x') := ⟨na1, na2, nh1, nh2, h.a.nb, fun q => xx_ne x11 q.1, fun q => x12 q.1, fun q => xx_ne x21 q.1, fun q => x22 q.1⟩
  obtain ⟨K, hK, g⟩ := h.a.near (ends_sc (shut_ends vA.shut)) f
  refine ⟨K, hK, fun k hk => ?_⟩
  obtain ⟨o1, o2, e⟩ := g k hk
  have z0 : xx (wy P x) (wy P y) = 0 := by rw [xx_swap, h.sa]; rfl
  have an := anti_x na1 na2 h.sa h.a.nb
  have bn := anti_x nh1 nh2 h.sb h.b.nb
  have lt : ∀ u, Lt (wy P y) (wy P x) u ↔ 0 < xx u (wy P y) := by
    intro u
    unfold Lt
    rw [if_neg (by omega)]
    have k1 := an u
    have k2 := xx_swap (wy P x) u
    have s1 := sg_p (xx u (wy P y)); have s2 := sg_n (xx u (wy P x))
    have s3 := sg_p (xx u (wy P x)); have s4 := sg_n (xx u (wy P y))
    omega
  have op : (0 < xx (wy P y') (wy P y)) ↔ ¬ (0 < xx (wy P x') (wy P y)) := by
    have k1 := bn (wy P y)
    have k2 := xx_swap (wy P y') (wy P y)
    have k3 := xx_swap (wy P x') (wy P y)
    have s1 := sg_p (xx (wy P y) (wy P y')); have s2 := sg_n (xx (wy P y) (wy P y'))
    have s3 := sg_p (xx (wy P y) (wy P x')); have s4 := sg_n (xx (wy P y) (wy P x'))
    omega
  have hxor : (inn (scR w A) (nrP k P (wy P y'), k) ^^ inn (scR w A) (nrP k P (wy P x'), k)) = true := by
    rw [e]
    by_cases q : 0 < xx (wy P y') (wy P y)
    · have q2 := op.1 q
      rw [decide_eq_true ((lt _).2 q), decide_eq_false (fun t => q2 ((lt _).1 t))]; rfl
    · have q2 : 0 < xx (wy P x') (wy P y) := Classical.byContradiction fun t => q (op.2 t)
      rw [decide_eq_false (fun t => q ((lt _).1 t)), decide_eq_true ((lt _).2 q2)]; rfl
  have p1 : place A (nrP k P (wy P y'), w * k) = if inn (scR w A) (nrP k P (wy P y'), k) = true then 2 else 0 := by rw [← place_sc h.hw]; exact offR_place o1
  have p2 : place A (nrP k P (wy P x'), w * k) = if inn (scR w A) (nrP k P (wy P x'), k) = true then 2 else 0 := by rw [← place_sc h.hw]; exact offR_place o2
  rw [p1, p2]
  revert hxor
  generalize inn (scR w A) (nrP k P (wy P y'), k) = s
  generalize inn (scR w A) (nrP k P (wy P x'), k) = t
  cases s <;> cases t <;> simp
theorem Crs.on {A B : Ring} {P : Pnt} {w : Int} {y x y' x' : Pnt} {O O' : List Seg} (h : Crs A B P w y x y' x' O O') (vB : VR B) {k : Int} (hk : 1 ≤ k) : place B (nrP k P (wy P y'), w * k) = 1 ∧ place B (nrP k P (wy P x'), w * k) = 1 := by
  rw [← place_sc h.hw, ← place_sc h.hw]
  exact ⟨h.b.on1 (long_sc h.hw vB.long) hk, h.b.on2 (long_sc h.hw vB.long) hk⟩
theorem Crs.lies {A B : Ring} {P : Pnt} {w : Int} {y x y' x' : Pnt} {O O' : List Seg} (h : Crs A B P w y x y' x' O O') (vA : VR A) (vB : VR B) (hx : cross B A = false) {c : Int} (hl : Vd.lies B A c = true) : False := by
  obtain ⟨K, hK, f⟩ := h.flip vA
  have hpos : 0 < w * K := pp h.hw (by omega)
  obtain ⟨b1, b2⟩ := h.on vB (k := K) (by omega)
  have l1 := lies_out vB.long vA.long (shut_ends vA.shut) hx hl (p := (_, w * K)) hpos b1
  have l2 := lies_out vB.long vA.long (shut_ends vA.shut) hx hl (p := (_, w * K)) hpos b2
  rcases f K (Int.le_refl _) with ⟨q1, q2⟩ | ⟨q1, q2⟩
  · rw [q1] at l1; rw [q2] at l2; omega
  · rw [q1] at l1; rw [q2] at l2; omega
theorem Crs.swap {A B : Ring} {P : Pnt} {w : Int} {y x y' x' : Pnt} {O O' : List Seg} (h : Crs A B P w y x y' x' O O') : Crs B A P w y' x' y x O' O := ⟨h.hw, h.b, h.a, h.sb, h.sa, xx_ne h.ne⟩
end Vd
end Go.Proofs.YtcclepohmhdpbabGreatDoor

namespace Go.Proofs.YtcclepohmhdpbabGreatDoor
set_option linter.all false
namespace Vd
theorem off_between {a b : Pnt} (hab : a ≠ b) {o : Ring} (hl : Long o) (hx : ∀ t ∈ segs o, crossS (a, b) t = false) {ly lz : Int} (y0 : 0 ≤ ly) (z1 : lz ≤ kk a b) (hno : ∀ c ∈ o, has a b c 1 → ¬ (ly < pos a b c ∧ pos a b c < lz)) {M : Pnt} (hM : has a b M 1) (h1 : ly < pos a b M) (h2 : pos a b M < lz) : place o (M, 1) ≠ 1 := by
  intro h
  obtain ⟨t, ht, hh⟩ := place_one.1 h
  simp only at hh
  have nv : ∀ c, c = t.1 ∨ c = t.2 → M ≠ c := by
    rintro c hc' rfl
    have := segs_mem ht
    exact hno M (by rcases hc' with e | e <;> rw [e]; exact this.1; exact this.2) hM ⟨h1, h2⟩
  have two : ∀ c : Pnt, M ≠ c → sc 2 M ≠ (c.1 * 2, c.2 * 2) := by
    intro c hne e
    unfold sc at e
    simp only [Prod.mk.injEq] at e
    exact hne (Prod.ext (by omega) (by omega))
  have i1 : Inn a b (sc 2 M) := by
    refine ⟨?_, two a ?_, two b ?_⟩
    · have := (has_spot (k := 2) (by omega) a b M 1).2 hM; simpa using this
    · rintro rfl; rw [pos_a] at h1; omega
    · rintro rfl; rw [pos_b] at h2; omega
  have i2 : Inn t.1 t.2 (sc 2 M) := by
    refine ⟨?_, two _ (nv _ (.inl rfl)), two _ (nv _ (.inr rfl))⟩
    have := (has_spot (k := 2) (by omega) t.1 t.2 M 1).2 hh; simpa using this
  have k := inn_cross hab (hl t ht) i1 i2
  have := hx t ht
  unfold crossS meetS at this
  rcases k with k | k <;> simp [k] at this
theorem same_between {a b : Pnt} (hab : a ≠ b) {o : Ring} (he : Ends o) (hl : Long o) (hx : ∀ t ∈ segs o, crossS (a, b) t = false) {ly lz : Int} (y0 : 0 ≤ ly) (z1 : lz ≤ kk a b) (hno : ∀ c ∈ o, has a b c 1 → ¬ (ly < pos a b c ∧ pos a b c < lz)) {p M : Pnt} (hp : has a b p 1) (p1 : ly ≤ pos a b p) (p2 : pos a b p ≤ lz) (hM : has a b M 1) (h1 : ly < pos a b M) (h2 : pos a b M < lz) (hn : place o (p, 1) ≠ 1) : place o (p, 1) = place o (M, 1) := by
  have hk := kk_pos hab
  obtain ⟨q0', q1⟩ := pos_le hab hp
  obtain ⟨m0', m1⟩ := pos_le hab hM
  refine line_same hab he hp.1 hM.1 hn (off_between hab hl hx y0 z1 hno hM h1 h2) ?_ ?_
  · intro t ht c hc' hcr hb
    have hc : has a b c 1 := has_pos hab hcr (by unfold btw at hb; omega) (by unfold btw at hb; omega)
    have hm : c ∈ o := by
      have := segs_mem ht
      rcases hc' with e | e <;> rw [e]
      · exact this.1
      · exact this.2
    have := hno c hm hc
    have e : pos a b c = pos a b p := by unfold btw at hb; omega
    have := pos_inj hab hcr hp.1 e
    rw [← this] at hn
    exact hn (vert_on ht hc')
  · rintro t ht ⟨o1, o2⟩
    have e1 := cr_on hp.1 t.1 t.2
    have e2 := cr_on hM.1 t.1 t.2
    have o3 := opp_comb (by omega) q0' (by omega) m0' hk e1 e2 o2
    have := hx t ht
    unfold crossS meetS at this
    rw [meet_opp o1 o3] at this
    simp at this
theorem on_places {a b : Pnt} (hab : a ≠ b) {L : Poly} (he : ∀ o ∈ L, Ends o) (hl : ∀ o ∈ L, Long o) (hx : ∀ o ∈ L, ∀ t ∈ segs o, crossS (a, b) t = false) {p : Spot} (hw : 0 < p.2) (hp : has a b p.1 p.2) (hn : ∀ o ∈ L, place o p ≠ 1) :
    ∃ m ∈ mids (a, b) L, ∀ o ∈ L, place o p = place o m := by
  obtain ⟨P, w⟩ := p
  simp only at hw hp
  have hK : (0 : Int) < 2 * w := by omega
  have hab' : sc (2 * w) a ≠ sc (2 * w) b := fun e => hab ((sc_inj hK).1 e)
  have hp' : has (sc (2 * w) a) (sc (2 * w) b) (sc 2 P) 1 := by
    rw [has_sc hK, Int.mul_one]
    exact (has_spot (by omega) a b P w).2 hp
  obtain ⟨y', z', hc', l1, l2⟩ := cuts_about hab' hp' (L.flatten.map (sc (2 * w)))
  obtain ⟨y, z, rfl, rfl, hc⟩ := cons_sc hK (l := L.flatten) hc'
  have hm : midOf y z ∈ mids (a, b) L := (mem_mids hab L _).2 ⟨y, z, hc, rfl⟩
  refine ⟨_, hm, fun o ho => ?_⟩
  have e1 : place o (P, w) = place (scR (2 * w) o) (sc 2 P, 1) := place_whole (p := (P, w)) hw (k := 2) (by omega)
  have e2 : place o (midOf y z) = place (scR (2 * w) o) (sc w (midOf y z).1, 1) := by
    have := place_whole (r := o) (p := midOf y z) (show (0 : Int) < 2 by omega) (k := w) hw
    rw [show w * (midOf y z).2 = 2 * w by show w * 2 = 2 * w; omega] at this
    exact this
  rw [e1, e2]
  have c0y := (cut_has hc.cx).1
  have c0z := (cut_has hc.cy).1
  have f1 : 2 * pos (sc (2 * w) a) (sc (2 * w) b) (sc w (midOf y z).1) = pos (sc (2 * w) a) (sc (2 * w) b) (sc (2 * w) y) + pos (sc (2 * w) a) (sc (2 * w) b) (sc (2 * w) z) := by unfold pos dt sc midOf; grind
  have f2 : 2 * cr (sc (2 * w) a) (sc (2 * w) b) (sc w (midOf y z).1) 1 = cr (sc (2 * w) a) (sc (2 * w) b) (sc (2 * w) y) 1 + cr (sc (2 * w) a) (sc (2 * w) b) (sc (2 * w) z) 1 := by unfold cr sc midOf; grind
  rw [cr_sc1, cr_sc1, c0y, c0z, Int.mul_zero, Int.add_zero] at f2
  have hlt := hc'.lt
  obtain ⟨y0, y1⟩ := pos_le hab' (cut_has hc'.cx)
  obtain ⟨z0, z1⟩ := pos_le hab' (cut_has hc'.cy)
  have hno : ∀ c ∈ scR (2 * w) o, has (sc (2 * w) a) (sc (2 * w) b) c 1 → ¬ (pos (sc (2 * w) a) (sc (2 * w) b) (sc (2 * w) y) < pos (sc (2 * w) a) (sc (2 * w) b) c ∧ pos (sc (2 * w) a) (sc (2 * w) b) c < pos (sc (2 * w) a) (sc (2 * w) b) (sc (2 * w) z)) := by
    intro c hcm hch
    refine hc'.no c (.inr (.inr ⟨?_, hch⟩))
    obtain ⟨v, hv, rfl⟩ := List.mem_map.1 hcm
    exact List.mem_map.2 ⟨v, List.mem_flatten.2 ⟨o, ho, hv⟩, rfl⟩
  refine same_between hab' (ends_sc (he o ho)) (long_sc hK (hl o ho)) ?_ y0 z1 hno hp' l1 l2 (has_pos hab' (by omega) (by omega) (by omega)) (by omega) (by omega) ?_
  · intro t ht
    rw [segs_sc] at ht
    obtain ⟨t', ht', rfl⟩ := List.mem_map.1 ht
    have := hx o ho t' ht'
    rw [← crossS_sc hK] at this
    exact this
  · rw [← e1]; exact hn o ho
theorem freeL_some {g : Spot} : ∀ (t : List Ring) (f : Bool), freeL t false f g = true → f = true ∨ ∃ o ∈ t, place o g = 2 := by
  intro t
  induction t with
  | nil => intro f h; exact .inl h
  | cons r t ih =>
    intro f h
    unfold freeL at h
    split at h
    · cases h
    · rcases ih _ h with k | ⟨o, ho, k⟩
      · simp at k
        rcases k with k | k
        · exact .inl k
        · exact .inr ⟨r, by simp, k⟩
      · exact .inr ⟨o, by simp [ho], k⟩
theorem free_some {r : Ring} {t : List Ring} {g : Spot} (h : free (r :: t) g = true) : place r g = 0 ∨ ∃ o ∈ t, place o g = 2 := by
  unfold free freeL at h
  split at h
  · cases h
  · rcases freeL_some t _ h with k | k
    · simp at k; exact .inl k
    · exact .inr k
structure VP (r : Ring) (t : List Ring) : Prop where
  vr : ∀ o ∈ r :: t, VR o
  x : ∀ o ∈ r :: t, ∀ o' ∈ r :: t, o ≠ o' → cross o o' = false
  n0 : ∀ o ∈ t, o ≠ r → lies o r 2 = true
  n1 : ∀ o ∈ t, ∀ o' ∈ t, o ≠ o' → lies o o' 0 = true
  nd : r ∉ t
theorem cross_scl {w : Int} (hw : 0 < w) {A B : Ring} (h : cross A B = false) : cross (scR w A) (scR w B) = false := by
  cases hx : cross (scR w A) (scR w B) with
  | false => rfl
  | true =>
    unfold cross at hx
    obtain ⟨s, hs, k⟩ := List.any_eq_true.1 hx
    obtain ⟨t, ht, k⟩ := List.any_eq_true.1 k
    rw [segs_sc] at hs ht
    obtain ⟨s', hs', rfl⟩ := List.mem_map.1 hs
    obtain ⟨t', ht', rfl⟩ := List.mem_map.1 ht
    rw [crossS_sc hw] at k
    have : cross A B = true := by unfold cross; exact List.any_eq_true.2 ⟨s', hs', List.any_eq_true.2 ⟨t', ht', k⟩⟩
    rw [h] at this; cases this
theorem VR.splitW {A : Ring} (h : VR A) {P : Pnt} {w : Int} (hw : 0 < w) (hp : place A (P, w) = 1) : ∃ y x O, Spl (scR w A) P y x O :=
  (vr_sc hw h).split (by rw [place_sc hw, Int.mul_one]; exact hp)
theorem crs_of {A B : Ring} (vA : VR A) (vB : VR B) (hx : cross A B = false) {P : Pnt} {w : Int} (hw : 0 < w) (nA : ∀ c ∈ corners A, P ≠ sc w c) (nB : ∀ c ∈ corners B, P ≠ sc w c) (hA : place A (P, w) = 1) (hB : place B (P, w) = 1) :
    ∃ y x y' x' O O', Crs A B P w y x y' x' O O' := by
  obtain ⟨y, x, O, a⟩ := vA.splitW hw hA
  obtain ⟨y', x', O', b⟩ := vB.splitW hw hB
  have sa := vA.straight hw nA a
  have sb := vB.straight hw nB b
  refine ⟨y, x, y', x', O, O', hw, a, b, sa, sb, fun h0 => ?_⟩
  have m := meet2_of (long_sc hw vA.long) (long_sc hw vB.long) (cross_scl hw hx) a b
  have d1 := anti_dd (wy_ne a.ny) (wy_ne b.ny) h0 m.p1
  have d2 := anti_dd (wy_ne b.ny) (wy_ne b.nx) sb b.nb
  apply m.p2
  have e1 : dd (wy P y') (wy P y') * xx (wy P y) (wy P x') = dd (wy P y) (wy P y') * xx (wy P y') (wy P x') + xx (wy P y) (wy P y') * dd (wy P y') (wy P x') := by unfold dd xx; grind
  have e2 : dd (wy P y') (wy P y') * dd (wy P y) (wy P x') = dd (wy P y) (wy P y') * dd (wy P y') (wy P x') - xx (wy P y) (wy P y') * xx (wy P y') (wy P x') := by unfold dd xx; grind
  rw [h0, sb] at e1 e2
  have hp := dd_pos (wy_ne b.ny)
  have hn := nng d1 d2
  constructor
  · have s := sgn_of hp e1; omega
  · have s := sgn_of hp e2; omega
theorem VP.alone {r : Ring} {t : List Ring} (h : VP r t) {A B : Ring} (hA : A ∈ r :: t) (hB : B ∈ r :: t) (hne : A ≠ B) {P : Pnt} {w : Int} (hw : 0 < w) (nA : ∀ c ∈ corners A, P ≠ sc w c) (nB : ∀ c ∈ corners B, P ≠ sc w c) (pA : place A (P, w) = 1) (pB : place B (P, w) = 1) : False := by
  obtain ⟨y, x, y', x', O, O', c⟩ := crs_of (h.vr A hA) (h.vr B hB) (h.x A hA B hB hne) hw nA nB pA pB
  by_cases eA : A = r
  · have hBt : B ∈ t := by rcases List.mem_cons.1 hB with e | e; exact absurd (eA.trans e.symm) hne; exact e
    exact c.lies (h.vr A hA) (h.vr B hB) (h.x B hB A hA (fun e => hne e.symm)) (c := 2) (by rw [eA]; exact h.n0 B hBt (fun e => hne (eA.trans e.symm)))
  · have hAt : A ∈ t := by rcases List.mem_cons.1 hA with e | e; exact absurd e eA; exact e
    by_cases eB : B = r
    · exact c.swap.lies (h.vr B hB) (h.vr A hA) (h.x A hA B hB hne) (c := 2) (by rw [eB]; exact h.n0 A hAt eA)
    · have hBt : B ∈ t := by rcases List.mem_cons.1 hB with e | e; exact absurd e eB; exact e
      exact c.swap.lies (h.vr B hB) (h.vr A hA) (h.x A hA B hB hne) (c := 0) (h.n1 A hAt B hBt hne)
theorem near_all {P : Pnt} {w : Int} (hw : 0 < w) (u : Pnt) : ∀ L : List Ring, (∀ o ∈ L, Ends o) → (∀ o ∈ L, place o (P, w) ≠ 1) → ∃ K : Int, 2 ≤ K ∧ ∀ k, K ≤ k → ∀ o ∈ L, place o (nrP k P u, w * k) = place o (P, w) := by
  intro L
  induction L with
  | nil => intro _ _; exact ⟨2, by omega, fun k _ o ho => by cases ho⟩
  | cons r L ih =>
    intro he hp
    obtain ⟨K1, a1, b1⟩ := ih (fun o ho => he o (by simp [ho])) (fun o ho => hp o (by simp [ho]))
    have off : OffR (scR w r) (P, 1) := offR_of (by rw [place_sc hw, Int.mul_one]; exact hp r (by simp))
    obtain ⟨K2, a2, b2⟩ := near_none (ends_sc (he r (by simp))) off u (0, 0)
    refine ⟨K1 + K2, by omega, fun k hk o ho => ?_⟩
    rcases List.mem_cons.1 ho with rfl | ho
    · obtain ⟨o1, o2, e⟩ := b2 k (by omega)
      have q := place_inn o1 o2 e
      rw [place_sc hw, place_sc hw] at q
      rw [q]
      have e1 : nrP k P (0, 0) = sc k P := by unfold nrP sc; simp
      rw [e1, show w * k = k * w by rw [Int.mul_comm]]
      exact place_spot (by omega) o P w
    · exact b1 k (by omega) o ho
theorem VP.across {r : Ring} {t : List Ring} (h : VP r t) {A B : Ring} (hA : A ∈ r :: t) (vB : VR B) (hx : cross A B = false) (hF : ∀ g : Spot, 0 < g.2 → place B g = 1 → (∀ o ∈ r :: t, place o g ≠ 1) → free (r :: t) g = true)
    {P : Pnt} {w : Int} (hw : 0 < w) (nC : ∀ o ∈ r :: t, ∀ c ∈ corners o, P ≠ sc w c) (nB : ∀ c ∈ corners B, P ≠ sc w c) (pA : place A (P, w) = 1) (pB : place B (P, w) = 1) : False := by
  have vA := h.vr A hA
  obtain ⟨y, x, y', x', O, O', c⟩ := crs_of vA vB hx hw (nC A hA) nB pA pB
  have hoth : ∀ o ∈ (r :: t).filter (fun o => decide (o ≠ A)), place o (P, w) ≠ 1 := by
    intro o ho q
    obtain ⟨h1, h2⟩ := List.mem_filter.1 ho
    exact h.alone hA h1 (fun e => (of_decide_eq_true h2) e.symm) hw (nC A hA) (nC o h1) pA q
  have hends : ∀ o ∈ (r :: t).filter (fun o => decide (o ≠ A)), Ends o := fun o ho => shut_ends (h.vr o (List.mem_filter.1 ho).1).shut
  obtain ⟨K0, a0, b0⟩ := c.flip vA
  obtain ⟨K1, a1, b1⟩ := near_all hw (wy P y') _ hends hoth
  obtain ⟨K2, a2, b2⟩ := near_all hw (wy P x') _ hends hoth
  obtain ⟨k, k0, k1, k2⟩ : ∃ k, K0 ≤ k ∧ K1 ≤ k ∧ K2 ≤ k := ⟨K0 + K1 + K2, by omega, by omega, by omega⟩
  have hwk : 0 < w * k := pp hw (by omega)
  obtain ⟨on1, on2⟩ := c.on vB (k := k) (by omega)
  have go : ∀ v : Int, (v = 0 ∨ v = 2) → ∃ g : Spot, 0 < g.2 ∧ place B g = 1 ∧ place A g = v ∧ ∀ o ∈ r :: t, o ≠ A → place o g = place o (P, w) := by
    intro v hv
    rcases b0 k k0 with ⟨q1, q2⟩ | ⟨q1, q2⟩
    · rcases hv with rfl | rfl
      · exact ⟨(_, w * k), hwk, on2, q2, fun o ho hne => b2 k k2 o (List.mem_filter.2 ⟨ho, decide_eq_true hne⟩)⟩
      · exact ⟨(_, w * k), hwk, on1, q1, fun o ho hne => b1 k k1 o (List.mem_filter.2 ⟨ho, decide_eq_true hne⟩)⟩
    · rcases hv with rfl | rfl
      · exact ⟨(_, w * k), hwk, on1, q1, fun o ho hne => b1 k k1 o (List.mem_filter.2 ⟨ho, decide_eq_true hne⟩)⟩
      · exact ⟨(_, w * k), hwk, on2, q2, fun o ho hne => b2 k k2 o (List.mem_filter.2 ⟨ho, decide_eq_true hne⟩)⟩
  have off : ∀ o ∈ r :: t, o ≠ A → place o (P, w) ≠ 1 := fun o ho hne => hoth o (List.mem_filter.2 ⟨ho, decide_eq_true hne⟩)
  by_cases eA : A = r
  · obtain ⟨g, hg, gB, gA, go⟩ := go 2 (.inr rfl)
    have hfr := hF g hg gB (fun o ho => by
      by_cases e : o = A
      · rw [e, gA]; decide
      · rw [go o ho e]; exact off o ho e)
    rcases free_some hfr with q | ⟨o, ho, q⟩
    · rw [← eA, gA] at q; omega
    · have hne : o ≠ A := fun e => h.nd (by rw [← eA, ← e]; exact ho)
      rw [go o (by simp [ho]) hne] at q
      have hne2 : o ≠ r := fun e => hne (e.trans eA.symm)
      exact nest_sym vA (h.vr o (by simp [ho])) (h.x A hA o (by simp [ho]) (fun e => hne e.symm)) (by rw [eA]; exact h.n0 o ho hne2) (p := (P, w)) hw pA q
  · have hAt : A ∈ t := by rcases List.mem_cons.1 hA with e | e; exact absurd e eA; exact e
    obtain ⟨g, hg, gB, gA, go⟩ := go 0 (.inl rfl)
    have hfr := hF g hg gB (fun o ho => by
      by_cases e : o = A
      · rw [e, gA]; decide
      · rw [go o ho e]; exact off o ho e)
    rcases free_some hfr with q | ⟨o, ho, q⟩
    · rw [go r (by simp) (fun e => eA e.symm)] at q
      have vr := h.vr r (by simp)
      rcases lies_out vA.long vr.long (shut_ends vr.shut) (h.x A hA r (by simp) eA) (h.n0 A hAt eA) (p := (P, w)) hw pA with z | z
      · exact off r (by simp) (fun e => eA e.symm) z
      · omega
    · have hne : o ≠ A := fun e => by rw [e, gA] at q; omega
      rw [go o (by simp [ho]) hne] at q
      have vo := h.vr o (by simp [ho])
      rcases lies_out vA.long vo.long (shut_ends vo.shut) (h.x A hA o (by simp [ho]) (fun e => hne e.symm)) (h.n1 A hAt o ho (fun e => hne e.symm)) (p := (P, w)) hw pA with z | z
      · exact off o (by simp [ho]) hne z
      · omega
end Vd
end Go.Proofs.YtcclepohmhdpbabGreatDoor

namespace Go.Proofs.YtcclepohmhdpbabGreatDoor
set_option linter.all false
namespace Vd
theorem not_of {b : Bool} (h : (!b) = true) : b = false := by cases b <;> simp_all
theorem anyI_no {n : Nat} {f : Nat → Bool} (h : anyI n f = false) {i : Nat} (hi : i < n) : f i = false := by
  cases hf : f i with
  | false => rfl
  | true => rw [anyI_true hi hf] at h; cases h
theorem badC_no {c : Nat} {m : Mult} (h : badC c m = false) {l : Poly} (hl : l ∈ m) : holdsC c l = true := by
  unfold badC at h
  cases hx : holdsC c l with
  | true => rfl
  | false =>
    have : (m.any fun l => !(holdsC c l)) = true := List.any_eq_true.2 ⟨l, hl, by rw [hx]; rfl⟩
    rw [h] at this; cases this
theorem cross_self {r : Ring} (h : VR r) : cross r r = true := by
  have h4 := h.shut.len
  have hs := List.mem_of_getElem? (segs_at (ptAt_get (r := r) (i := 0) (by omega)) (ptAt_get (r := r) (i := 0 + 1) (by omega)))
  have hne := h.long _ hs
  unfold cross
  refine List.any_eq_true.2 ⟨_, hs, List.any_eq_true.2 ⟨_, hs, ?_⟩⟩
  unfold crossS meetS
  rw [meet_two hne hne hne (has_a _ _) (has_a _ _) (has_b _ _) (has_b _ _)]; rfl
theorem rAt_in {l : Poly} {o : Ring} (h : o ∈ l) : ∃ i, i < l.length ∧ rAt l i = o := by
  obtain ⟨i, hi⟩ := List.mem_iff_getElem?.1 h
  exact ⟨i, Pl.lt_of_some hi, by unfold rAt; rw [List.getD_eq_getElem?_getD, hi]; rfl⟩
theorem vp_of {m : Mult} (hg : Good m) (h : least m = 0) {r : Ring} {t : List Ring} (hl : (r :: t) ∈ m) : VP r t := by
  obtain ⟨b1, b2, b3, -, -⟩ := least0 h
  have hv := vr_of hg b1 _ hl
  have ht : touch (r :: t) = true := badC_no b2 hl
  have hn : nested (r :: t) = true := badC_no b3 hl
  unfold touch at ht
  unfold nested at hn
  have ht := not_of ht
  have hn := not_of hn
  have xx_ : ∀ i j, i < j → j < (r :: t).length → cross (rAt (r :: t) i) (rAt (r :: t) j) = false := fun i j hij hj => anyI_no (anyI_no ht hj) hij
  have ll : ∀ i j, 1 ≤ i → i < (r :: t).length → j < (r :: t).length → i ≠ j → lies (rAt (r :: t) i) (rAt (r :: t) j) (nestW j) = true := by
    intro i j hi hil hjl hne
    have k := anyI_no hn hil
    rw [decide_eq_true hi, Bool.true_and] at k
    have k2 := anyI_no k hjl
    rw [decide_eq_true hne, Bool.true_and] at k2
    cases hx : lies (rAt (r :: t) i) (rAt (r :: t) j) (nestW j) with
    | true => rfl
    | false => rw [hx] at k2; cases k2
  have tl : ∀ o ∈ t, ∃ i, 1 ≤ i ∧ i < (r :: t).length ∧ rAt (r :: t) i = o := by
    intro o ho
    obtain ⟨i, hi, e⟩ := rAt_in ho
    exact ⟨i + 1, by omega, by simp; omega, by rw [← e]; rfl⟩
  refine ⟨hv, ?_, ?_, ?_, ?_⟩
  · intro o ho o' ho' hne
    obtain ⟨i, hi, e⟩ := rAt_in ho
    obtain ⟨j, hj, e'⟩ := rAt_in ho'
    rcases Nat.lt_trichotomy i j with g | g | g
    · rw [← e, ← e']; exact xx_ i j g hj
    · subst g; exact absurd (e.symm.trans e') hne
    · rw [← e, ← e']; exact cross_sy (xx_ j i g hi)
  · intro o ho hne
    obtain ⟨i, hi1, hi, e⟩ := tl o ho
    have := ll i 0 hi1 hi (by simp) (by omega)
    rw [e] at this
    exact this
  · intro o ho o' ho' hne
    obtain ⟨i, hi1, hi, e⟩ := tl o ho
    obtain ⟨j, hj1, hj, e'⟩ := tl o' ho'
    have := ll i j hi1 hi hj (fun g => hne (by rw [← e, ← e', g]))
    rw [e, e'] at this
    unfold nestW at this
    rwa [if_neg (by omega)] at this
  · intro hr
    obtain ⟨j, hj1, hj, e⟩ := tl r hr
    have := xx_ 0 j (by omega) hj
    rw [e] at this
    have e0 : rAt (r :: t) 0 = r := rfl
    rw [e0, cross_self (hv r (by simp))] at this
    cases this
theorem freeL_congr {p q : Spot} : ∀ (l : List Ring) (a b : Bool), (∀ o ∈ l, place o p = place o q) → freeL l a b p = freeL l a b q := by
  intro l
  induction l with
  | nil => intro a b _; rfl
  | cons r t ih =>
    intro a b h
    unfold freeL
    rw [h r (by simp)]
    split
    · rfl
    · exact ih _ _ fun o ho => h o (by simp [ho])
theorem outside {m : Mult} (hg : Good m) (h : least m = 0) {I J : Nat} (hI : I < m.length) (hJ : J < m.length) (hne : I ≠ J) {B : Ring} (hB : B ∈ pAt m J) :
    (∀ A ∈ pAt m I, cross A B = false) ∧ ∀ g : Spot, 0 < g.2 → place B g = 1 → (∀ o ∈ pAt m I, place o g ≠ 1) → free (pAt m I) g = true := by
  obtain ⟨b1, -, -, -, ho⟩ := least0 h
  have mem : ∀ K, K < m.length → pAt m K ∈ m := fun K hK => by
    unfold pAt; rw [List.getD_eq_getElem?_getD, List.getElem?_eq_getElem hK]; exact List.getElem_mem hK
  unfold overlap at ho
  have key : (∀ A ∈ pAt m I, ∀ B ∈ pAt m J, cross A B = false) ∧ enters (pAt m J) (pAt m I) = false := by
    have bx : ∀ {a b : Poly}, boundsX a b = false → ∀ A ∈ a, ∀ B ∈ b, cross A B = false := by
      intro a b hb A hA B hB
      cases hx : cross A B with
      | false => rfl
      | true =>
        have : boundsX a b = true := by unfold boundsX; exact List.any_eq_true.2 ⟨A, hA, List.any_eq_true.2 ⟨B, hB, hx⟩⟩
        rw [hb] at this; cases this
    rcases Nat.lt_or_gt_of_ne hne with g | g
    · have k := anyI_no (anyI_no ho hJ) g
      simp only [Bool.or_eq_false_iff] at k
      exact ⟨bx k.1.1, k.2⟩
    · have k := anyI_no (anyI_no ho hI) g
      simp only [Bool.or_eq_false_iff] at k
      exact ⟨fun A hA B hB => cross_sy (bx k.1.1 B hB A hA), k.1.2⟩
  obtain ⟨kx, ke⟩ := key
  refine ⟨fun A hA => kx A hA B hB, fun g hw hg' hn => ?_⟩
  have vI := vr_of hg b1 _ (mem I hI)
  have vJ := vr_of hg b1 _ (mem J hJ)
  obtain ⟨⟨u, v⟩, hs, hh⟩ := place_one.1 hg'
  obtain ⟨q, hq, e⟩ := on_places ((vJ B hB).long _ hs) (L := pAt m I) (fun o ho => shut_ends (vI o ho).shut) (fun o ho => (vI o ho).long) (fun o ho t ht => by
    cases c : crossS (u, v) t with
    | false => rfl
    | true =>
      have : cross B o = true := by unfold cross; exact List.any_eq_true.2 ⟨(u, v), hs, List.any_eq_true.2 ⟨t, ht, c⟩⟩
      rw [cross_sy (kx o ho B hB)] at this; cases this) hw hh hn
  have : free (pAt m I) g = free (pAt m I) q := by unfold free; exact freeL_congr _ _ _ e
  rw [this]
  cases hf : free (pAt m I) q with
  | true => rfl
  | false =>
    have : enters (pAt m J) (pAt m I) = true := by
      unfold enters
      exact List.any_eq_true.2 ⟨B, hB, List.any_eq_true.2 ⟨(u, v), hs, List.any_eq_true.2 ⟨q, hq, by rw [hf]; rfl⟩⟩⟩
    rw [ke] at this; cases this
theorem xx_tr {a b c : Pnt} (hb : b ≠ (0, 0)) (h1 : xx a b = 0) (h2 : xx b c = 0) : xx a c = 0 := by
  have e : dd b b * xx a c = xx a b * dd b c + dd a b * xx b c := by unfold dd xx; grind
  rw [h1, h2] at e
  have := dd_pos hb
  have s := sgn_of this e
  omega
theorem same_ring {m : Mult} (hg : Good m) (h : least m = 0) {l l' : Poly} (hl : l ∈ m) (hl' : l' ∈ m) {A B : Ring} (hA : A ∈ l) (hB : B ∈ l') {P : Pnt} {w : Int} (hw : 0 < w) (nC : ∀ l ∈ m, ∀ o ∈ l, ∀ c ∈ corners o, P ≠ sc w c) (pA : place A (P, w) = 1) (pB : place B (P, w) = 1) : A = B := by
  apply Classical.byContradiction
  intro hne
  obtain ⟨b1, -⟩ := least0 h
  have hv := vr_of hg b1
  obtain ⟨I, hI⟩ := List.mem_iff_getElem?.1 hl
  obtain ⟨J, hJ⟩ := List.mem_iff_getElem?.1 hl'
  have eI : pAt m I = l := by unfold pAt; rw [List.getD_eq_getElem?_getD, hI]; rfl
  have eJ : pAt m J = l' := by unfold pAt; rw [List.getD_eq_getElem?_getD, hJ]; rfl
  cases l with
  | nil => cases hA
  | cons r t =>
    have vp := vp_of hg h hl
    by_cases hIJ : I = J
    · subst hIJ
      rw [hI] at hJ
      obtain rfl := Option.some.inj hJ
      exact vp.alone hA hB hne hw (nC _ hl A hA) (nC _ hl' B hB) pA pB
    · obtain ⟨k1, k2⟩ := outside hg h (Pl.lt_of_some hI) (Pl.lt_of_some hJ) hIJ (B := B) (by rw [eJ]; exact hB)
      rw [eI] at k1 k2
      exact vp.across hA (hv _ hl' B hB) (k1 A hA) k2 hw (fun o ho => nC _ hl o ho) (nC _ hl' B hB) pA pB
theorem lookL_hit {o : Mult} {both : List Seg} {s : Seg} {m q : Spot} : ∀ {l : List Seg}, (∃ t ∈ l, hasB t m = true) → lookL o both s m l = some q → ∃ t ∈ l, has t.1 t.2 m.1 m.2 ∧ turnW (along s) (along t) ≠ 0 := by
  intro l
  induction l with
  | nil => rintro ⟨t, ht, -⟩; cases ht
  | cons t l ih =>
    intro hex h
    unfold lookL at h
    split at h
    · rename_i hb
      refine ⟨t, by simp, of_decide_eq_true hb, fun e => ?_⟩
      unfold atBoth at h
      rw [if_neg (by omega), if_neg (by omega)] at h
      cases h
    · rename_i hb
      obtain ⟨t', ht', hb'⟩ := hex
      rcases List.mem_cons.1 ht' with rfl | ht'
      · exact absurd hb' hb
      · obtain ⟨u, hu, k⟩ := ih ⟨t', ht', hb'⟩ h
        exact ⟨u, by simp [hu], k⟩
theorem mid_has {a b y z : Pnt} (hy : has a b y 1) (hz : has a b z 1) : has a b (midOf y z).1 2 := by
  refine ⟨?_, ?_, ?_⟩
  · have h1 := hy.1; have h2 := hz.1
    unfold cr at *
    unfold midOf
    grind
  · have h1 := hy.2.1; have h2 := hz.2.1
    unfold btw midOf at *; simp only; omega
  · have h1 := hy.2.2; have h2 := hz.2.2
    unfold btw midOf at *; simp only; omega
theorem bounds_self {m : Mult} (h0 : Pl.wrong m = 0) (hl : least m = 0) : atBounds (form m) (form m) = none := by
  have hg := good_of h0
  have hv := vr_of hg (least0 hl).1
  cases hb : atBounds (form m) (form m) with
  | none => rfl
  | some q =>
    exfalso
    unfold atBounds at hb
    obtain ⟨s, hs, hb⟩ := List.exists_of_findSome?_eq_some hb
    obtain ⟨p, hp, hb⟩ := List.exists_of_findSome?_eq_some hb
    obtain ⟨R, hR, hsR⟩ := mem_edges.1 hs
    obtain ⟨l, hlm, A, hA, b, rfl⟩ := form_rings hR
    have hsne : s.1 ≠ s.2 := (hv l hlm A hA).form_long b s hsR
    obtain ⟨y, z, hc, rfl⟩ := (mem_mids hsne _ p).1 hp
    have hon : has s.1 s.2 (midOf y z).1 2 := mid_has (cut_has hc.cx) (cut_has hc.cy)
    obtain ⟨t, ht, hth, htn⟩ := lookL_hit ⟨s, hs, decide_eq_true hon⟩ hb
    obtain ⟨R', hR', htR⟩ := mem_edges.1 ht
    obtain ⟨l', hlm', B, hB, b', rfl⟩ := form_rings hR'
    generalize hP : (midOf y z).1 = P at *
    have hth' : has t.1 t.2 P 2 := hth
    obtain ⟨u, v, k1, k2, k3, -⟩ := (hv l hlm A hA).form_on hsR (by decide) hon
    obtain ⟨u', v', j1, j2, j3, -⟩ := (hv l' hlm' B hB).form_on htR (by decide) hth'
    have nC : ∀ l ∈ m, ∀ o ∈ l, ∀ c ∈ corners o, P ≠ sc 2 c := by
      intro l hlm o ho c hc' e
      obtain ⟨b, hb⟩ := form_has hlm ho
      have hmem : c ∈ ((form m).flatten ++ (form m).flatten).flatten := by
        rw [List.flatten_append]
        exact List.mem_append_left _ (List.mem_flatten.2 ⟨_, hb, (hv l hlm o ho).mem_form hc' b⟩)
      have hch : has s.1 s.2 c 1 := by
        rw [e] at hon
        have := has_spot (k := 2) (by decide) s.1 s.2 c 1
        rw [Int.mul_one] at this
        exact this.1 hon
      have f : 2 * pos s.1 s.2 c = pos s.1 s.2 y + pos s.1 s.2 z := by
        rw [← hP] at e
        have e1 := congrArg Prod.fst e; have e2 := congrArg Prod.snd e
        unfold midOf sc at e1 e2
        simp only at e1 e2
        unfold pos dt
        grind
      have := hc.lt
      exact hc.no c (.inr (.inr ⟨hmem, hch⟩)) ⟨by omega, by omega⟩
    have eAB := same_ring hg hl hlm hlm' hA hB (w := 2) (by decide) nC (place_one.2 ⟨_, k1, k2⟩) (place_one.2 ⟨_, j1, j2⟩)
    subst eAB
    have vA := hv l hlm A hA
    obtain ⟨y', x', O, sp⟩ := vA.splitW (w := 2) (by decide) (place_one.2 ⟨_, k1, k2⟩)
    have st := vA.straight (by decide) (nC l hlm A hA) sp
    have d1 := vA.dir_at (by decide) sp st k1 k2
    have d2 := vA.dir_at (by decide) sp st j1 j2
    apply htn
    show xx (wy s.1 s.2) (wy t.1 t.2) = 0
    have nu := vA.long _ k1
    have nu' := vA.long _ j1
    have e1 : xx (wy s.1 s.2) (wy u v) = 0 := by rw [xx_swap, k3]; rfl
    have e2 : xx (wy u v) (wy P y') = 0 := by rw [xx_swap, d1]; rfl
    exact xx_tr (wy_ne (fun e => nu e.symm)) e1 (xx_tr (wy_ne sp.ny) e2 (xx_tr (wy_ne (fun e => nu' e.symm)) d2 j3))
theorem spot_self {m : Mult} (h0 : Pl.wrong m = 0) (hl : least m = 0) : spot (form m) (form m) = none := by
  unfold spot
  rw [bounds_self h0 hl]
end Vd
end Go.Proofs.YtcclepohmhdpbabGreatDoor

namespace Go.Proofs.YtcclepohmhdpbabGreatDoor
set_option linter.all false
namespace Vd
theorem polyD_size (l : Poly) : (polyD l).length = l.length := by
  cases l with
  | nil => rfl
  | cons r t => rw [polyD, List.length_cons, (sortD_perm cmpR _).length_eq, List.length_map]; rfl
theorem polyD_mem {l : Poly} {x : Ring} (h : x ∈ polyD l) : ∃ r ∈ l, ∃ b, x = ringD r b := by
  cases l with
  | nil => cases h
  | cons r t =>
    rw [polyD] at h
    rcases List.mem_cons.1 h with h | h
    · exact ⟨r, by simp, true, h⟩
    · obtain ⟨q, hq, e⟩ := List.mem_map.1 ((sortD_perm cmpR _).mem_iff.1 h)
      exact ⟨q, by simp [hq], false, e.symm⟩
theorem canonD_perm (m : Mult) : (canonD m).Perm (m.map polyD) := sortD_perm cmpP _
theorem canonD_mem {m : Mult} {x : Poly} (h : x ∈ canonD m) : ∃ l ∈ m, x = polyD l := by
  obtain ⟨q, hq, e⟩ := List.mem_map.1 ((canonD_perm m).mem_iff.1 h)
  exact ⟨q, hq, e.symm⟩
theorem cornersU_size (r : Ring) : (cornersU r).length ≤ r.length - 1 := by
  unfold cornersU
  rw [List.length_map]
  have := List.length_filter_le (turnD r) (List.range (r.length - 1))
  simpa using this
theorem cornersU_mem {r : Ring} {p : Pnt} (h : p ∈ cornersU r) : p ∈ r := by
  unfold cornersU at h
  obtain ⟨i, hi, rfl⟩ := List.mem_map.1 h
  have hi2 := List.mem_range.1 (List.mem_filter.1 hi).1
  obtain ⟨p, hp⟩ := Pl.some_of_lt (show i < r.length by omega)
  have : ptAt r i = p := by unfold ptAt; rw [List.getD_eq_getElem?_getD, hp]; rfl
  rw [this]; exact Pl.mem_of_some hp
theorem cornersD_size (r : Ring) (b : Bool) : (cornersD r b).length = (cornersU r).length := by
  unfold cornersD; split
  · rfl
  · rw [List.length_reverse]
theorem cornersD_mem {r : Ring} {b : Bool} {p : Pnt} (h : p ∈ cornersD r b) : p ∈ r := by
  unfold cornersD at h; split at h
  · exact cornersU_mem h
  · exact cornersU_mem (List.mem_reverse.1 h)
theorem leastI_low {l : Ring} (h : l ≠ []) : leastI l < l.length := by
  have h1 : leastI l = leastN l l.length := rfl
  have h2 := leastN_b l l.length
  have h3 : 0 < l.length := List.length_pos_iff.2 h
  rw [h1]; omega
theorem ptAt_in {l : Ring} {i : Nat} (h : i < l.length) : ptAt l i ∈ l := by
  obtain ⟨p, hp⟩ := Pl.some_of_lt h
  have : ptAt l i = p := by unfold ptAt; rw [List.getD_eq_getElem?_getD, hp]; rfl
  rw [this]; exact Pl.mem_of_some hp
theorem roundD_split (l : Ring) : roundD l = l.drop (leastI l) ++ l.take (leastI l) ++ [ptAt l (leastI l)] := rfl
theorem roundD_size {l : Ring} : (roundD l).length = l.length + 1 := by
  rw [roundD_split]
  have := leastN_b l l.length
  have h1 : leastI l = leastN l l.length := rfl
  simp only [List.length_append, List.length_drop, List.length_take, List.length_cons, List.length_nil]; omega
theorem roundD_mem {l : Ring} (h : l ≠ []) {p : Pnt} (hp : p ∈ roundD l) : p ∈ l := by
  rw [roundD_split] at hp
  rcases List.mem_append.1 hp with hp | hp
  · rcases List.mem_append.1 hp with hp | hp
    · exact List.mem_of_mem_drop hp
    · exact List.mem_of_mem_take hp
  · rw [List.mem_singleton.1 hp]; exact ptAt_in (leastI_low h)
theorem roundD_ends {l : Ring} (h : l ≠ []) : (roundD l).head? = (roundD l).getLast? := by
  have hl := leastI_low h
  rw [roundD_split, List.getLast?_append, List.append_assoc, List.head?_append]
  have : (l.drop (leastI l)).head? = some (ptAt l (leastI l)) := by
    rw [List.head?_drop]
    obtain ⟨p, hp⟩ := Pl.some_of_lt hl
    have e : ptAt l (leastI l) = p := by unfold ptAt; rw [List.getD_eq_getElem?_getD, hp]; rfl
    rw [hp, e]
  rw [this]; rfl
theorem VR.cornersU_three {r : Ring} (h : VR r) : 3 ≤ (cornersU r).length := by
  obtain ⟨M, E, e1, e2⟩ := h.corners_split
  have := h.corners_three
  rw [e1] at this
  rw [e2]
  simp only [List.length_append] at this ⊢
  omega
theorem ringD_size (r : Ring) (b : Bool) : (ringD r b).length = (cornersU r).length + 1 := by unfold ringD; rw [roundD_size, cornersD_size]
theorem VR.cornersD_ne {r : Ring} (h : VR r) (b : Bool) : cornersD r b ≠ [] := by
  intro e
  have h1 := h.cornersU_three
  have h2 := cornersD_size r b
  rw [e] at h2
  simp at h2; omega
theorem VR.bad {r : Ring} (h : VR r) (b : Bool) : Pl.badR (ringD r b) = false := by
  unfold Pl.badR
  have h1 := h.cornersU_three
  have h2 := ringD_size r b
  have h3 : (ringD r b).head? = (ringD r b).getLast? := roundD_ends (h.cornersD_ne b)
  rw [decide_eq_false (show ¬ (ringD r b).length < 4 by omega), decide_eq_true h3]; rfl
theorem VR.wide {r : Ring} (h : VR r) (b : Bool) (k : Pl.wideR r = false) : Pl.wideR (ringD r b) = false := by
  unfold Pl.wideR at *
  rw [List.any_eq_false] at *
  intro p hp
  exact k p (cornersD_mem (roundD_mem (h.cornersD_ne b) hp))
theorem perm_sum {α : Type} (f : α → Nat) {l k : List α} (h : l.Perm k) : (l.map f).sum = (k.map f).sum := (h.map f).sum_nat
theorem nR_canon (m : Mult) : Pl.nR (canonD m) = Pl.nR m := by
  unfold Pl.nR
  rw [perm_sum List.length (canonD_perm m), List.map_map]
  congr 1
  exact List.map_congr_left fun l _ => polyD_size l
theorem sum_le {α : Type} (f g : α → Nat) : ∀ l : List α, (∀ x ∈ l, f x ≤ g x) → (l.map f).sum ≤ (l.map g).sum := by
  intro l
  induction l with
  | nil => intro _; exact Nat.le_refl _
  | cons a t ih =>
    intro h
    rw [List.map_cons, List.map_cons, List.sum_cons, List.sum_cons]
    have h1 := h a (by simp)
    have h2 := ih fun x hx => h x (by simp [hx])
    omega
theorem nPl_poly {l : Poly} (h : ∀ r ∈ l, 1 ≤ r.length) : Pl.nPl (polyD l) ≤ Pl.nPl l := by
  have one : ∀ r ∈ l, ∀ b, (ringD r b).length ≤ r.length := fun r hr b => by
    have h1 := ringD_size r b
    have h2 := cornersU_size r
    have h3 := h r hr
    omega
  cases l with
  | nil => exact Nat.le_refl _
  | cons r t =>
    unfold Pl.nPl
    rw [polyD, List.map_cons, List.map_cons, List.sum_cons, List.sum_cons, perm_sum List.length (sortD_perm cmpR _), List.map_map]
    have h1 := one r (by simp) true
    have h2 := sum_le (List.length ∘ fun r => ringD r false) List.length t fun x hx => one x (by simp [hx]) false
    omega
theorem nP_canon {m : Mult} (h : ∀ l ∈ m, ∀ r ∈ l, 1 ≤ r.length) : Pl.nP (canonD m) ≤ Pl.nP m := by
  unfold Pl.nP
  rw [perm_sum Pl.nPl (canonD_perm m), List.map_map]
  exact sum_le (Pl.nPl ∘ polyD) Pl.nPl m fun l hl => nPl_poly (h l hl)
theorem wrong0 {m : Mult} (h : Pl.wrong m = 0) : Pl.many m = false ∧ m.any Pl.badL = false ∧ m.any Pl.wideL = false := by
  unfold Pl.wrong at h
  cases h1 : Pl.many m <;> cases h2 : m.any Pl.badL <;> cases h3 : m.any Pl.wideL <;> simp_all
theorem canon_wrong {m : Mult} (h0 : Pl.wrong m = 0) (hv : ∀ l ∈ m, ∀ r ∈ l, VR r) : Pl.wrong (canonD m) = 0 := by
  obtain ⟨h1, h2, h3⟩ := wrong0 h0
  have hg := good_of h0
  have k1 : Pl.many (canonD m) = false := by
    unfold Pl.many at *
    simp only [Bool.or_eq_false_iff, decide_eq_false_iff_not] at *
    have e1 := (canonD_perm m).length_eq
    rw [List.length_map] at e1
    have e2 := nR_canon m
    have e3 := nP_canon (m := m) fun l hl r hr => by have := (hv l hl r hr).shut.len; omega
    omega
  have k2 : (canonD m).any Pl.badL = false := by
    rw [List.any_eq_false]
    intro x hx
    obtain ⟨l, hl, rfl⟩ := canonD_mem hx
    have hne := hg.ne l hl
    unfold Pl.badL Pl.badRs
    simp only [Bool.or_eq_true, not_or, Bool.not_eq_true]
    constructor
    · have e := polyD_size l
      cases hp : polyD l with
      | nil => rw [hp] at e; exact absurd (List.eq_nil_of_length_eq_zero e.symm) hne
      | cons a t => rfl
    · rw [List.any_eq_false]
      intro y hy
      obtain ⟨r, hr, b, rfl⟩ := polyD_mem hy
      rw [(hv l hl r hr).bad b]; simp
  have k3 : (canonD m).any Pl.wideL = false := by
    rw [List.any_eq_false] at h3 ⊢
    intro x hx
    obtain ⟨l, hl, rfl⟩ := canonD_mem hx
    have h4 := h3 l hl
    unfold Pl.wideL at h4 ⊢
    rw [Bool.not_eq_true, List.any_eq_false] at h4 ⊢
    intro y hy
    obtain ⟨r, hr, b, rfl⟩ := polyD_mem hy
    have h5 := h4 r hr
    rw [Bool.not_eq_true] at h5 ⊢
    exact (hv l hl r hr).wide b h5
  unfold Pl.wrong
  rw [k1, k2, k3]; rfl
end Vd
end Go.Proofs.YtcclepohmhdpbabGreatDoor
