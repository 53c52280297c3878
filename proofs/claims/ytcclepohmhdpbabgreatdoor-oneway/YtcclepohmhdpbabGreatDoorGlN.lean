import Derived.Test.YtcclepohmhdpbabGreatDoorGlC
namespace Go.Proofs.YtcclepohmhdpbabGreatDoor
set_option linter.all false
namespace Vd
theorem lt_un (u x y : Pnt) : Lt u x y ↔ (0 < xx x u ∧ 0 < xx y u ∧ 0 < xx x y) ∨ (xx x u ≤ 0 ∧ (0 < xx y u ∨ 0 < xx x y)) := by
 unfold Lt
 by_cases h : 0 < xx x u
 ·rw [if_pos h]; constructor
  ·rintro ⟨a, b⟩; exact .inl ⟨h, a, b⟩
  ·rintro (⟨_, a, b⟩ | ⟨a, _⟩)
   ·exact ⟨a, b⟩
   ·omega
 ·rw [if_neg h]; constructor
  ·intro a; exact .inr ⟨by omega, a⟩
  ·rintro (⟨a, _⟩ | ⟨_, a⟩)
   ·omega
   ·exact a
theorem lt_asym {u x y : Pnt} (h : Lt u x y) (k : Lt u y x) : False := by
 rw [lt_un] at h k
 have := xx_swap x y
 omega
theorem anti_two {u x y : Pnt} (hu : u ≠ (0, 0)) (hx : x ≠ (0, 0)) (hy : y ≠ (0, 0)) (h1 : xx x u = 0) (h2 : xx y u = 0) (n1 : ¬ Par x u) (n2 : ¬ Par y u) : Par x y := by
 have d1 := anti_dd hx hu h1 n1
 have d2 := anti_dd hy hu h2 n2
 have hp := dd_pos hu
 have e1 : dd u u * xx x y = dd x u * xx u y + xx x u * dd u y := by unfold dd xx; grind
 have e2 : dd u u * dd x y = dd x u * dd y u + xx x u * xx y u := by unfold dd xx; grind
 have h3 : xx u y = 0 := by rw [xx_swap, h2]; rfl
 rw [h1, h3] at e1
 rw [h1] at e2
 have g := nng d1 d2
 constructor
 ·have s := sgn_of hp e1; omega
 ·have s := sgn_of hp e2; omega
theorem lt_total {u x y : Pnt} (hu : u ≠ (0, 0)) (hx : x ≠ (0, 0)) (hy : y ≠ (0, 0)) (n1 : ¬ Par x u) (n2 : ¬ Par y u) (n3 : ¬ Par x y) : Lt u x y ∨ Lt u y x := by
 rw [lt_un, lt_un]
 have e := xx_swap x y
 by_cases h0 : xx x y = 0
 ·have a := anti_x hx hy h0 n3 u
  have s1 := sg_p (xx u x); have s2 := sg_n (xx u x); have s3 := sg_p (xx u y); have s4 := sg_n (xx u y)
  have e1 := xx_swap u x; have e2 := xx_swap u y
  by_cases g : xx x u = 0
  ·have g2 : xx y u = 0 := by
    have z1 := sg_zero (xx u x); have z2 := sg_zero (xx u y)
    omega
   exact absurd (anti_two hu hx hy g g2 n1 n2) n3
  ·omega
 ·omega
theorem lt_trans {u x y z : Pnt} (hu : u ≠ (0, 0)) (hx : x ≠ (0, 0)) (hz : z ≠ (0, 0)) (hy : y ≠ (0, 0)) (n1 : ¬ Par x u) (n2 : ¬ Par z u) (n4 : ¬ Par y u) (n3 : ¬ Par x z) (h : Lt u x y) (k : Lt u y z) : Lt u x z := by
 rw [lt_un] at h k ⊢
 have pl : xx x y * xx z u + xx x u * xx y z = xx x z * xx y u := by unfold xx; grind
 rcases h with ⟨p1, p2, p3⟩ | ⟨p1, p2⟩
 ·rcases k with ⟨q1, q2, q3⟩ | ⟨q1, q2⟩
  ·refine .inl ⟨p1, q2, ?_⟩
   have a := pp p3 q2; have b := pp p1 q3
   rcases Int.lt_trichotomy (xx x z) 0 with g | g | g
   ·have := np g p2; omega
   ·rw [g] at pl; omega
   ·exact g
  ·omega
 ·refine .inr ⟨p1, ?_⟩
  rcases k with ⟨q1, q2, q3⟩ | ⟨q1, q2⟩
  ·exact .inl q2
  ·by_cases r : 0 < xx z u
   ·exact .inl r
   ·right
    have s : 0 < xx x y := by omega
    have t : 0 < xx y z := by omega
    have a := m0 (x := xx x y) (by omega) (show xx z u ≤ 0 by omega)
    have b := n0 (y := xx y z) p1 (by omega)
    rcases Int.lt_trichotomy (xx x z) 0 with g | g | g
    ·have c := q0 (x := xx x z) (by omega) q1
     have : xx x y * xx z u = 0 := by omega
     have : xx x u * xx y z = 0 := by omega
     have z1 : xx z u = 0 := by rcases Int.mul_eq_zero.1 ‹xx x y * xx z u = 0› with e | e <;> omega
     have z2 : xx x u = 0 := by rcases Int.mul_eq_zero.1 ‹xx x u * xx y z = 0› with e | e <;> omega
     exact absurd (anti_two hu hx hz z2 z1 n1 n2) n3
    ·rw [g] at pl
     have z1 : xx z u = 0 := by
      have : xx x y * xx z u = 0 := by omega
      rcases Int.mul_eq_zero.1 this with e | e <;> omega
     have z2 : xx x u = 0 := by
      have : xx x u * xx y z = 0 := by omega
      rcases Int.mul_eq_zero.1 this with e | e <;> omega
     exact absurd (anti_two hu hx hz z2 z1 n1 n2) n3
    ·exact g
structure Five (u h1 h2 r1 r2 : Pnt) : Prop where
 nu : u ≠ (0, 0)
 a1 : h1 ≠ (0, 0)
 a2 : h2 ≠ (0, 0)
 b1 : r1 ≠ (0, 0)
 b2 : r2 ≠ (0, 0)
 ha : ¬ Par h1 h2
 hb : ¬ Par r1 r2
 u1 : ¬ Par u h1
 u2 : ¬ Par u h2
 u3 : ¬ Par u r1
 u4 : ¬ Par u r2
 p1 : ¬ Par h1 r1
 p2 : ¬ Par h1 r2
 p3 : ¬ Par h2 r1
 p4 : ¬ Par h2 r2
theorem xor_ne {a b c d : Prop} [Decidable a] [Decidable b] [Decidable c] [Decidable d] (h : (decide a ^^ decide b) = (decide c ^^ decide d)) (k : a ↔ ¬ b) : c ↔ ¬ d := by
 by_cases ha : a <;> by_cases hb : b <;> by_cases hc : c <;> by_cases hd : d <;> simp_all
theorem five_key {u h1 h2 r1 r2 : Pnt} (f : Five u h1 h2 r1 r2) (k1 : Lt u r1 h1 ↔ ¬ Lt u r1 h2) (k2 : Lt u r2 h1 ↔ ¬ Lt u r2 h2) (k3 : Lt u h1 r1 ↔ ¬ Lt u h1 r2) (h : Lt u r1 h1) : False := by
 have sy : ∀ {p q : Pnt}, ¬ Par p q → ¬ Par q p := fun n q => n q.symm
 have c1 : Lt u h2 r1 := (lt_total f.nu f.b1 f.a2 (sy f.u3) (sy f.u2) (sy f.p3)).resolve_left (k1.1 h)
 have c2 : Lt u h1 r2 := Classical.byContradiction fun q => lt_asym h (k3.2 q)
 have c3 : Lt u r2 h2 := Classical.byContradiction fun q => lt_asym c2 (k2.2 q)
 have d1 := lt_trans f.nu f.a2 f.a1 f.b1 (sy f.u2) (sy f.u1) (sy f.u3) (sy f.ha) c1 h
 have d2 := lt_trans f.nu f.a1 f.a2 f.b2 (sy f.u1) (sy f.u2) (sy f.u4) f.ha c2 c3
 exact lt_asym d1 d2
theorem five {u h1 h2 r1 r2 : Pnt} (f : Five u h1 h2 r1 r2) (H1 : Lt h1 h2 u ↔ ¬ Lt h1 h2 r1) (H2 : Lt h1 h2 u ↔ ¬ Lt h1 h2 r2) (R1 : Lt r1 r2 u ↔ ¬ Lt r1 r2 h1) (R2 : Lt r1 r2 u ↔ ¬ Lt r1 r2 h2) : False := by
 have sy : ∀ {p q : Pnt}, ¬ Par p q → ¬ Par q p := fun n q => n q.symm
 have k1 := xor_ne (left_sym ⟨f.a1, f.a2, f.nu, f.b1, f.ha, f.u1, f.u2, sy f.p1, sy f.p3⟩ f.u3) H1
 have k2 := xor_ne (left_sym ⟨f.a1, f.a2, f.nu, f.b2, f.ha, f.u1, f.u2, sy f.p2, sy f.p4⟩ f.u4) H2
 have k3 := xor_ne (left_sym ⟨f.b1, f.b2, f.nu, f.a1, f.hb, f.u3, f.u4, f.p1, f.p2⟩ f.u1) R1
 have k4 := xor_ne (left_sym ⟨f.b1, f.b2, f.nu, f.a2, f.hb, f.u3, f.u4, f.p3, f.p4⟩ f.u2) R2
 by_cases h : Lt u r1 h1
 ·exact five_key f k1 k2 k3 h
 ·have h' : Lt u r1 h2 := Classical.byContradiction fun q => h (k1.2 q)
  refine five_key (h1 := h2) (h2 := h1) ⟨f.nu, f.a2, f.a1, f.b1, f.b2, sy f.ha, f.hb, f.u2, f.u1, f.u3, f.u4, f.p3, f.p4, f.p1, f.p2⟩ ?_ ?_ k4 h'
  ·constructor
   ·intro a b; exact k1.1 b a
   ·intro a; exact Classical.byContradiction fun q => a (k1.2 q)
  ·constructor
   ·intro a b; exact k2.1 b a
   ·intro a; exact Classical.byContradiction fun q => a (k2.2 q)
theorem xor_iff {a b : Prop} [Decidable a] [Decidable b] (h : (decide a ^^ decide b) = true) : a ↔ ¬ b := by
 by_cases ha : a <;> by_cases hb : b <;> simp_all
def One (Y X : Ring) (c : Bool) : Prop := ∀ p : Spot, 0 < p.2 → place Y p = 1 → place X p ≠ 1 → inn X p = c
theorem disj_at {X Y : Ring} (vX : VR X) (vY : VR Y) (hxy : cross X Y = false) {q y x y' x' : Pnt} {O O' : List Seg} (sX : Spl X q y x O) (sY : Spl Y q y' x' O') {v : Pnt} (hv : v ≠ (0, 0))
  (n1 : ¬ Par v (wy q y)) (n2 : ¬ Par v (wy q x)) (n3 : ¬ Par v (wy q y')) (n4 : ¬ Par v (wy q x')) {cX cY : Bool} (oX : One Y X cX) (oY : One X Y cY) {K0 : Int} (h0 : 2 ≤ K0)
  (gX : ∀ k, K0 ≤ k → inn X (nrP k q v, k) = !cX) (gY : ∀ k, K0 ≤ k → inn Y (nrP k q v, k) = !cY) : False := by
 have m := meet2_of vX.long vY.long hxy sX sY
 have sy : ∀ {p q : Pnt}, ¬ Par p q → ¬ Par q p := fun n q => n q.symm
 have fX1 : Four (wy q y) (wy q x) v (wy q y') := ⟨wy_ne sX.ny, wy_ne sX.nx, hv, wy_ne sY.ny, sX.nb, n1, n2, sy m.p1, sy m.p3⟩
 have fX2 : Four (wy q y) (wy q x) v (wy q x') := ⟨wy_ne sX.ny, wy_ne sX.nx, hv, wy_ne sY.nx, sX.nb, n1, n2, sy m.p2, sy m.p4⟩
 have fY1 : Four (wy q y') (wy q x') v (wy q y) := ⟨wy_ne sY.ny, wy_ne sY.nx, hv, wy_ne sX.ny, sY.nb, n3, n4, m.p1, m.p2⟩
 have fY2 : Four (wy q y') (wy q x') v (wy q x) := ⟨wy_ne sY.ny, wy_ne sY.nx, hv, wy_ne sX.nx, sY.nb, n3, n4, m.p3, m.p4⟩
 have eX := shut_ends vX.shut; have eY := shut_ends vY.shut
 obtain ⟨K1, a1, b1⟩ := sX.near eX fX1
 obtain ⟨K2, a2, b2⟩ := sX.near eX fX2
 obtain ⟨K3, a3, b3⟩ := sY.near eY fY1
 obtain ⟨K4, a4, b4⟩ := sY.near eY fY2
 obtain ⟨k, c0, c1, c2, c3, c4⟩ : ∃ k : Int, K0 ≤ k ∧ K1 ≤ k ∧ K2 ≤ k ∧ K3 ≤ k ∧ K4 ≤ k := ⟨K0 + K1 + K2 + K3 + K4, by omega, by omega, by omega, by omega, by omega⟩
 have hk : 0 < k := by omega
 obtain ⟨-, d1, e1⟩ := b1 k c1
 obtain ⟨-, d2, e2⟩ := b2 k c2
 obtain ⟨-, d3, e3⟩ := b3 k c3
 obtain ⟨-, d4, e4⟩ := b4 k c4
 rw [gX k c0, oX (_, k) hk (sY.on1 vY.long (by omega)) (offR_ne d1)] at e1
 rw [gX k c0, oX (_, k) hk (sY.on2 vY.long (by omega)) (offR_ne d2)] at e2
 rw [gY k c0, oY (_, k) hk (sX.on1 vX.long (by omega)) (offR_ne d3)] at e3
 rw [gY k c0, oY (_, k) hk (sX.on2 vX.long (by omega)) (offR_ne d4)] at e4
 have t : ∀ c : Bool, ((!c) ^^ c) = true := by decide
 rw [t] at e1 e2 e3 e4
 exact five ⟨hv, wy_ne sX.ny, wy_ne sX.nx, wy_ne sY.ny, wy_ne sY.nx, sX.nb, sY.nb, n1, n2, n3, n4, m.p1, m.p2, m.p3, m.p4⟩ (xor_iff e1.symm) (xor_iff e2.symm) (xor_iff e3.symm) (xor_iff e4.symm)
theorem disj {X Y B : Ring} (vX : VR X) (vY : VR Y) (vB : VR B) (hxy : cross X Y = false) (hbx : cross B X = false) (hby : cross B Y = false) {q : Pnt} (hq : place X (q, 1) = 1) {yb xb : Pnt} {Ob : List Seg} (sB : Spl B q yb xb Ob) {v : Pnt} (hvb : v = wy q yb ∨ v = wy q xb)
  {cX cY : Bool} (oX : One Y X cX) (oY : One X Y cY) {K0 : Int} (h0 : 2 ≤ K0) (gX : ∀ k, K0 ≤ k → inn X (nrP k q v, k) = !cX) (gY : ∀ k, K0 ≤ k → inn Y (nrP k q v, k) = !cY) : False := by
 obtain ⟨y, x, O, sX⟩ := vX.split hq
 have hv : v ≠ (0, 0) := by
  rcases hvb with rfl | rfl
  ·exact wy_ne sB.ny
  ·exact wy_ne sB.nx
 by_cases hY : place Y (q, 1) = 1
 ·obtain ⟨y', x', O', sY⟩ := vY.split hY
  have mX := meet2_of vB.long vX.long hbx sB sX
  have mY := meet2_of vB.long vY.long hby sB sY
  rcases hvb with rfl | rfl
  ·exact disj_at vX vY hxy sX sY hv mX.p1 mX.p2 mY.p1 mY.p2 oX oY h0 gX gY
  ·exact disj_at vX vY hxy sX sY hv mX.p3 mX.p4 mY.p3 mY.p4 oX oY h0 gX gY
 ·obtain ⟨K, a, b⟩ := near_none (shut_ends vY.shut) (offR_of hY) v (wy q y)
  obtain ⟨k, c0, c1⟩ : ∃ k : Int, K0 ≤ k ∧ K ≤ k := ⟨K0 + K, by omega, by omega⟩
  obtain ⟨-, d2, e⟩ := b k c1
  rw [gY k c0, oY (_, k) (by show 0 < k; omega) (sX.on1 vX.long (by omega)) (offR_ne d2)] at e
  cases cY <;> simp at e
theorem seg_split {r : Ring} {s : Seg} (h : s ∈ segs r) : ∃ p1 p2, r = p1 ++ s.1 :: s.2 :: p2 := by
 obtain ⟨i, hi, rfl⟩ := segs_mem_at h
 exact ⟨_, _, split_at hi⟩
structure Fin (B B' : Ring) : Prop where
 vr : VR B'
 pl : ∀ p : Spot, 0 < p.2 → place B' p = place B p
 no : ∀ o, Long o → (No3 B' o ↔ No3 B o)
theorem finer {B : Ring} (vB : VR B) : ∀ Q : List Pnt, ∃ B', Fin B B' ∧ ∀ q ∈ Q, place B (q, 1) = 1 → q ∈ B' := by
  intro Q
  induction Q with
  | nil => exact ⟨B, ⟨vB, fun _ _ => rfl, fun _ _ => Iff.rfl⟩, fun q hq => by cases hq⟩
  | cons q Q ih =>
    obtain ⟨B', f, h⟩ := ih
    by_cases hq : place B (q, 1) = 1
    · by_cases hm : q ∈ B'
      · exact ⟨B', f, fun z hz hp => by
          rcases List.mem_cons.1 hz with rfl | hz
          · exact hm
          · exact h z hz hp⟩
      · have hq' : place B' (q, 1) = 1 := by rw [f.pl _ (by show (0 : Int) < 1; omega)]; exact hq
        obtain ⟨⟨a, b⟩, hs, hh⟩ := place_one.1 hq'
        simp only at hh
        obtain ⟨p1, p2, e⟩ := seg_split hs
        simp only at e
        have ma := segs_mem hs
        have hi : Ins a b q := ⟨hh, fun e' => hm (by rw [e']; exact ma.1), fun e' => hm (by rw [e']; exact ma.2)⟩
        have vr := f.vr
        rw [e] at vr
        refine ⟨p1 ++ a :: q :: b :: p2, ⟨vr_ins hi vr, fun p hp => ?_, fun o ho => ?_⟩, fun z hz hp => ?_⟩
        · rw [ins_place hi hp, ← e]; exact f.pl p hp
        · rw [ins_no3 hi ho, ← e]; exact f.no o ho
        · rcases List.mem_cons.1 hz with rfl | hz
          · simp
          · have := h z hz hp
            rw [e] at this
            simp only [List.mem_append, List.mem_cons] at this ⊢
            rcases this with g | g | g | g
            · exact .inl g
            · exact .inr (.inl g)
            · exact .inr (.inr (.inr (.inl g)))
            · exact .inr (.inr (.inr (.inr g)))
    · exact ⟨B', f, fun z hz hp => by
        rcases List.mem_cons.1 hz with rfl | hz
        · exact absurd hp hq
        · exact h z hz hp⟩
theorem VR.no_vert {B : Ring} (vB : VR B) {c d : Pnt} (hs : (c, d) ∈ segs B) {q : Pnt} (hq : q ∈ B) : ¬ Ins c d q := by
 intro hi
 obtain ⟨p1, p2, e⟩ := seg_split hs
 simp only at e
 have v := vB
 rw [e] at v hq
 obtain ⟨t, ht, k⟩ := mem_end (by have := v.shut.len; omega) hq
 rcases mem_oth.1 ht with rfl | ht
 ·rcases k with k | k
  ·exact hi.na k
  ·exact hi.nb k
 ·refine v.off ht hi ?_
  rcases k with k | k
  ·rw [k]; exact has_l _ _
  ·rw [k]; exact has_r _ _
theorem ins_down {c d q : Pnt} {w : Int} (h : InsS c d (sc w q, w)) : Ins c d q := ⟨(has_up1 h.w).1 h.on, fun e => h.na (by rw [e]), fun e => h.nb (by rw [e])⟩
theorem corners_vert {r : Ring} {c : Pnt} (h : c ∈ corners r) : c ∈ r := by
 unfold corners cornersI at h
 obtain ⟨i, hi, rfl⟩ := List.mem_map.1 h
 have := List.mem_range.1 (List.mem_filter.1 hi).1
 exact List.mem_of_getElem? (ptAt_get this)
theorem VP.across2 {r : Ring} {t : List Ring} (h : VP r t) {A B : Ring} (hA : A ∈ r :: t) (vB : VR B) {P : Pnt} {w : Int} {y x y' x' : Pnt} {O O' : List Seg} (c : Crs A B P w y x y' x' O O') (hF : ∀ g : Spot, 0 < g.2 → place B g = 1 → (∀ o ∈ r :: t, place o g ≠ 1) → free (r :: t) g = true)
  (nC : ∀ o ∈ r :: t, ∀ c ∈ o, P ≠ sc w c) (pA : place A (P, w) = 1) : False := by
 have hw := c.hw
 have vA := h.vr A hA
 have nC' : ∀ o ∈ r :: t, ∀ c ∈ corners o, P ≠ sc w c := fun o ho c hc => nC o ho c (corners_vert hc)
 have hoth : ∀ o ∈ (r :: t).filter (fun o => decide (o ≠ A)), place o (P, w) ≠ 1 := by
  intro o ho q
  obtain ⟨h1, h2⟩ := List.mem_filter.1 ho
  exact h.alone hA h1 (fun e => (of_decide_eq_true h2) e.symm) hw (nC' A hA) (nC' o h1) pA q
 have hends : ∀ o ∈ (r :: t).filter (fun o => decide (o ≠ A)), Ends o := fun o ho => shut_ends (h.vr o (List.mem_filter.1 ho).1).shut
 obtain ⟨K0, a0, b0⟩ := c.flip vA
 obtain ⟨K1, a1, b1⟩ := near_all hw (wy P y') _ hends hoth
 obtain ⟨K2, a2, b2⟩ := near_all hw (wy P x') _ hends hoth
 obtain ⟨k, k0, k1, k2⟩ : ∃ k, K0 ≤ k ∧ K1 ≤ k ∧ K2 ≤ k := ⟨K0 + K1 + K2, by omega, by omega, by omega⟩
 have hwk : 0 < w * k := pp hw (by omega)
 obtain ⟨on1, on2⟩ := c.on vB (k := k) (by omega)
 have go : ∀ v : Int, (v = 0 ∨ v = 2) → ∃ g : Spot, 0 < g.2 ∧ place B g = 1 ∧ place A g = v ∧ ∀ o ∈ r :: t, o ≠ A → place o g = place o (P, w) := by
  intro v hv
  rcases b0 k k0 with ⟨q1, q2⟩ | ⟨q1, q2⟩
  ·rcases hv with rfl | rfl
   ·exact ⟨(_, w * k), hwk, on2, q2, fun o ho hne => b2 k k2 o (List.mem_filter.2 ⟨ho, decide_eq_true hne⟩)⟩
   ·exact ⟨(_, w * k), hwk, on1, q1, fun o ho hne => b1 k k1 o (List.mem_filter.2 ⟨ho, decide_eq_true hne⟩)⟩
  ·rcases hv with rfl | rfl
   ·exact ⟨(_, w * k), hwk, on1, q1, fun o ho hne => b1 k k1 o (List.mem_filter.2 ⟨ho, decide_eq_true hne⟩)⟩
   ·exact ⟨(_, w * k), hwk, on2, q2, fun o ho hne => b2 k k2 o (List.mem_filter.2 ⟨ho, decide_eq_true hne⟩)⟩
 have off : ∀ o ∈ r :: t, o ≠ A → place o (P, w) ≠ 1 := fun o ho hne => hoth o (List.mem_filter.2 ⟨ho, decide_eq_true hne⟩)
 by_cases eA : A = r
 ·obtain ⟨g, hg, gB, gA, go⟩ := go 2 (.inr rfl)
  have hfr := hF g hg gB (fun o ho => by
   by_cases e : o = A
   ·rw [e, gA]; decide
   ·rw [go o ho e]; exact off o ho e)
  rcases free_some hfr with q | ⟨o, ho, q⟩
  ·rw [← eA, gA] at q; omega
  ·have hne : o ≠ A := fun e => h.nd (by rw [← eA, ← e]; exact ho)
   rw [go o (by simp [ho]) hne] at q
   have hne2 : o ≠ r := fun e => hne (e.trans eA.symm)
   exact nest_sym vA (h.vr o (by simp [ho])) (h.x A hA o (by simp [ho]) (fun e => hne e.symm)) (by rw [eA]; exact h.n0 o ho hne2) (p := (P, w)) hw pA q
 ·have hAt : A ∈ t := by rcases List.mem_cons.1 hA with e | e; exact absurd e eA; exact e
  obtain ⟨g, hg, gB, gA, go⟩ := go 0 (.inl rfl)
  have hfr := hF g hg gB (fun o ho => by
   by_cases e : o = A
   ·rw [e, gA]; decide
   ·rw [go o ho e]; exact off o ho e)
  rcases free_some hfr with q | ⟨o, ho, q⟩
  ·rw [go r (by simp) (fun e => eA e.symm)] at q
   have vr := h.vr r (by simp)
   rcases lies_out vA.long vr.long (shut_ends vr.shut) (h.x A hA r (by simp) eA) (h.n0 A hAt eA) (p := (P, w)) hw pA with z | z
   ·exact off r (by simp) (fun e => eA e.symm) z
   ·omega
  ·have hne : o ≠ A := fun e => by rw [e, gA] at q; omega
   rw [go o (by simp [ho]) hne] at q
   have vo := h.vr o (by simp [ho])
   rcases lies_out vA.long vo.long (shut_ends vo.shut) (h.x A hA o (by simp [ho]) (fun e => hne e.symm)) (h.n1 A hAt o ho (fun e => hne e.symm)) (p := (P, w)) hw pA with z | z
   ·exact off o (by simp [ho]) hne z
   ·omega
structure Out (l : Poly) (B : Ring) : Prop where
 vr : ∀ o ∈ l, VR o
 vb : VR B
 xb : ∀ o ∈ l, cross B o = false
 xl : ∀ i j, i < l.length → j < l.length → i ≠ j → cross (rAt l i) (rAt l j) = false
 one : ∀ i j, i < l.length → j < l.length → i ≠ j → One (rAt l i) (rAt l j) (decide (j = 0))
 vert : ∀ q ∈ l.flatten, place B (q, 1) = 1 → q ∈ B
 fr : ∀ g : Spot, 0 < g.2 → place B g = 1 → (∀ o ∈ l, place o g ≠ 1) → free l g = true
def Md (B : Ring) (i : Nat) : Spot := midOf (Pr B i) (Pr B (i + 1))
theorem crossS_no {A B : Ring} (h : cross A B = false) {s t : Seg} (hs : s ∈ segs A) (ht : t ∈ segs B) : crossS s t = false := by
  cases c : crossS s t with
  | false => rfl
  | true =>
    have : cross A B = true := by unfold cross; exact List.any_eq_true.2 ⟨s, hs, List.any_eq_true.2 ⟨t, ht, c⟩⟩
    rw [h] at this; cases this
theorem Out.seg {l : Poly} {B : Ring} (h : Out l B) (i : Nat) : (Pr B i, Pr B (i + 1)) ∈ segs B ∧ Pr B i ≠ Pr B (i + 1) := ⟨h.vb.seg_pr i, h.vb.long _ (h.vb.seg_pr i)⟩
theorem Out.mids {l : Poly} {B : Ring} (h : Out l B) {o : Ring} (ho : o ∈ l) (i : Nat) {m : Spot} (hm : m ∈ mids (Pr B i, Pr B (i + 1)) [o]) : m = Md B i := by
 obtain ⟨hs, hab⟩ := h.seg i
 obtain ⟨y, z, hc, rfl⟩ := (mem_mids hab [o] m).1 hm
 have key : ∀ c, Cut (Pr B i) (Pr B (i + 1)) [o].flatten c → c = Pr B i ∨ c = Pr B (i + 1) := by
  rintro c (rfl | rfl | ⟨hc, hh⟩)
  ·exact .inl rfl
  ·exact .inr rfl
  ·have hco : c ∈ o := by simpa using hc
   have hB : c ∈ B := h.vert c (List.mem_flatten.2 ⟨o, ho, hco⟩) (place_one.2 ⟨_, hs, hh⟩)
   apply Classical.byContradiction
   intro n
   exact h.vb.no_vert hs hB ⟨hh, fun e => n (.inl e), fun e => n (.inr e)⟩
 have lt := hc.lt
 have hk := kk_pos hab
 rcases key y hc.cx with e1 | e1 <;> rcases key z hc.cy with e2 | e2
 ·rw [e1, e2] at lt; omega
 ·rw [e1, e2]; rfl
 ·rw [e1, e2, pos_a, pos_b] at lt; omega
 ·rw [e1, e2] at lt; omega
theorem Out.off {l : Poly} {B : Ring} (h : Out l B) {o : Ring} (ho : o ∈ l) (i : Nat) : place o (Md B i) ≠ 1 := by
 obtain ⟨hs, hab⟩ := h.seg i
 obtain ⟨m, hm⟩ := mids_some hab o
 have := mid_off hab (List.mem_singleton.2 rfl) (h.vr o ho).long hm fun t ht => crossS_no (h.xb o ho) hs ht
 rwa [h.mids ho i hm] at this
theorem Out.edge {l : Poly} {B : Ring} (h : Out l B) {o : Ring} (ho : o ∈ l) (i : Nat) {g : Spot} (hw : 0 < g.2) (hg : has (Pr B i) (Pr B (i + 1)) g.1 g.2) (hn : place o g ≠ 1) : place o g = place o (Md B i) := by
 obtain ⟨hs, hab⟩ := h.seg i
 obtain ⟨q, hq, e⟩ := on_places hab (L := [o]) (fun o' ho' => by rw [List.mem_singleton.1 ho']; exact shut_ends (h.vr o ho).shut) (fun o' ho' => by rw [List.mem_singleton.1 ho']; exact (h.vr o ho).long)
  (fun o' ho' t ht => by rw [List.mem_singleton.1 ho'] at ht; exact crossS_no (h.xb o ho) hs ht) hw hg (fun o' ho' => by rw [List.mem_singleton.1 ho']; exact hn)
 rw [e o (List.mem_singleton.2 rfl), h.mids ho i hq]
theorem Out.germs {l : Poly} {B : Ring} (h : Out l B) (i : Nat) : ∃ O, Spl B (Pr B (i + 1)) (Pr B i) (Pr B (i + 2)) O ∧ ∀ o ∈ l, ∃ K : Int, 2 ≤ K ∧ ∀ k, K ≤ k →
  inn o (nrP k (Pr B (i + 1)) (wy (Pr B (i + 1)) (Pr B i)), k) = inn o (Md B i) ∧ inn o (nrP k (Pr B (i + 1)) (wy (Pr B (i + 1)) (Pr B (i + 2))), k) = inn o (Md B (i + 1)) := by
 obtain ⟨s1, n1⟩ := h.seg i
 obtain ⟨s2, n2⟩ := h.seg (i + 1)
 obtain ⟨y, x, O, sB⟩ := h.vb.split (z := Pr B (i + 1)) (place_one.2 ⟨_, s1, has_r _ _⟩)
 have e1 := sB.into s1 n1
 have e2 := sB.from_ s2 (fun e => n2 e.symm)
 subst e1 e2
 refine ⟨O, sB, fun o ho => ?_⟩
 have vo := h.vr o ho
 have off : ∃ K : Int, 2 ≤ K ∧ ∀ k, K ≤ k → OffR o (nrP k (Pr B (i + 1)) (wy (Pr B (i + 1)) (Pr B i)), k) ∧ OffR o (nrP k (Pr B (i + 1)) (wy (Pr B (i + 1)) (Pr B (i + 2))), k) := by
  by_cases hq : place o (Pr B (i + 1), 1) = 1
  ·obtain ⟨y', x', O', so⟩ := vo.split hq
   obtain ⟨K, a, b⟩ := local_sym (meet2_of h.vb.long vo.long (h.xb o ho) sB so) (shut_ends h.vb.shut) (shut_ends vo.shut)
   exact ⟨K, a, fun k hk => ⟨(b k hk).2.2.1, (b k hk).2.2.2.1⟩⟩
  ·obtain ⟨K, a, b⟩ := near_none (shut_ends vo.shut) (offR_of hq) (wy (Pr B (i + 1)) (Pr B i)) (wy (Pr B (i + 1)) (Pr B (i + 2)))
   exact ⟨K, a, fun k hk => ⟨(b k hk).1, (b k hk).2.1⟩⟩
 obtain ⟨K, a, b⟩ := off
 refine ⟨K, a, fun k hk => ?_⟩
 obtain ⟨o1, o2⟩ := b k hk
 have hk0 : 0 < k := by omega
 have g1 := h.edge ho i (g := (nrP k (Pr B (i + 1)) (wy (Pr B (i + 1)) (Pr B i)), k)) hk0 (germ_seg (s := (Pr B i, Pr B (i + 1))) n1 n1 (has_r _ _) (has_l _ _) (by omega)) (offR_ne o1)
 have g2 := h.edge ho (i + 1) (g := (nrP k (Pr B (i + 1)) (wy (Pr B (i + 1)) (Pr B (i + 2))), k)) hk0 (germ_seg (s := (Pr B (i + 1), Pr B (i + 1 + 1))) n2 (fun e => n2 e.symm) (has_l _ _) (has_r _ _) (by omega)) (offR_ne o2)
 rw [offR_place o1, offR_place (offR_of (h.off ho i))] at g1
 rw [offR_place o2, offR_place (offR_of (h.off ho (i + 1)))] at g2
 constructor
 ·revert g1
  generalize inn o (nrP k (Pr B (i + 1)) (wy (Pr B (i + 1)) (Pr B i)), k) = s
  generalize inn o (Md B i) = t
  cases s <;> cases t <;> simp
 ·revert g2
  generalize inn o (nrP k (Pr B (i + 1)) (wy (Pr B (i + 1)) (Pr B (i + 2))), k) = s
  generalize inn o (Md B (i + 1)) = t
  cases s <;> cases t <;> simp
theorem Out.flip_on {l : Poly} {B : Ring} (h : Out l B) {o : Ring} (ho : o ∈ l) (i : Nat) (hf : inn o (Md B i) ≠ inn o (Md B (i + 1))) : place o (Pr B (i + 1), 1) = 1 := by
 apply Classical.byContradiction
 intro hq
 obtain ⟨O, sB, g⟩ := h.germs i
 obtain ⟨K, a, b⟩ := g o ho
 obtain ⟨K2, a2, b2⟩ := near_none (shut_ends (h.vr o ho).shut) (offR_of hq) (wy (Pr B (i + 1)) (Pr B i)) (wy (Pr B (i + 1)) (Pr B (i + 2)))
 obtain ⟨e1, e2⟩ := b (K + K2) (by omega)
 obtain ⟨-, -, e⟩ := b2 (K + K2) (by omega)
 exact hf (by rw [← e1, ← e2, e])
theorem Out.free {l : Poly} {B : Ring} (h : Out l B) (i : Nat) : ∃ k, k < l.length ∧ inn (rAt l k) (Md B i) = !(decide (k = 0)) := by
 obtain ⟨hs, hab⟩ := h.seg i
 have hB : place B (Md B i) = 1 := place_one.2 ⟨_, hs, mid_has (has_l _ _) (has_r _ _)⟩
 have hf := h.fr (Md B i) (by show (0 : Int) < 2; omega) hB (fun o ho => h.off ho i)
 obtain ⟨-, k, hk, hc⟩ := (free_iff l _).1 hf
 refine ⟨k, hk, ?_⟩
 have e := offR_place (offR_of (h.off (rAt_mem hk) i))
 rw [e] at hc
 rcases hc with ⟨rfl, hc⟩ | ⟨hk0, hc⟩
 ·revert hc
  generalize inn (rAt l 0) (Md B i) = s
  cases s <;> simp
 ·rw [decide_eq_false hk0]
  revert hc
  generalize inn (rAt l k) (Md B i) = s
  cases s <;> simp
theorem Out.pt {l : Poly} {B : Ring} (h : Out l B) {r : Nat} (hr : r < l.length) (i : Nat) (hf : inn (rAt l r) (Md B i) ≠ inn (rAt l r) (Md B (i + 1))) : ∃ r', r' ≠ r ∧ r' < l.length ∧ inn (rAt l r') (Md B i) ≠ inn (rAt l r') (Md B (i + 1)) := by
 apply Classical.byContradiction
 intro hno
 have same : ∀ r', r' ≠ r → r' < l.length → inn (rAt l r') (Md B i) = inn (rAt l r') (Md B (i + 1)) := fun r' h1 h2 => Classical.byContradiction fun q => hno ⟨r', h1, h2, q⟩
 have hq := h.flip_on (rAt_mem hr) i hf
 obtain ⟨O, sB, g⟩ := h.germs i
 obtain ⟨Kr, ar, br⟩ := g _ (rAt_mem hr)
 have bad : ∀ r', r' ≠ r → r' < l.length → ∀ v, (v = wy (Pr B (i + 1)) (Pr B i) ∨ v = wy (Pr B (i + 1)) (Pr B (i + 2))) → (∃ K0 : Int, 2 ≤ K0 ∧ (∀ k, K0 ≤ k → inn (rAt l r) (nrP k (Pr B (i + 1)) v, k) = !(decide (r = 0))) ∧ ∀ k, K0 ≤ k → inn (rAt l r') (nrP k (Pr B (i + 1)) v, k) = !(decide (r' = 0))) → False := by
  rintro r' hne hr' v hv ⟨K0, h0, gX, gY⟩
  exact disj (h.vr _ (rAt_mem hr)) (h.vr _ (rAt_mem hr')) h.vb (h.xl r r' hr hr' (fun e => hne e.symm)) (h.xb _ (rAt_mem hr)) (h.xb _ (rAt_mem hr')) hq sB hv (h.one r' r hr' hr hne) (h.one r r' hr hr' (fun e => hne e.symm)) h0 gX gY
 have two : inn (rAt l r) (Md B i) = !(decide (r = 0)) ∨ inn (rAt l r) (Md B (i + 1)) = !(decide (r = 0)) := by
  revert hf
  generalize inn (rAt l r) (Md B i) = s
  generalize inn (rAt l r) (Md B (i + 1)) = t
  generalize decide (r = 0) = c
  cases s <;> cases t <;> cases c <;> simp
 rcases two with e1 | e1
 · -- the other edge
  have e0 : inn (rAt l r) (Md B (i + 1)) = decide (r = 0) := by
   revert hf e1
   generalize inn (rAt l r) (Md B i) = s
   generalize inn (rAt l r) (Md B (i + 1)) = t
   generalize decide (r = 0) = c
   cases s <;> cases t <;> cases c <;> simp
  obtain ⟨k', hk', ek⟩ := h.free (i + 1)
  have hne : k' ≠ r := fun e => by rw [e, e0] at ek; revert ek; generalize decide (r = 0) = c; cases c <;> simp
  obtain ⟨Kk, ak, bk⟩ := g _ (rAt_mem hk')
  refine bad k' hne hk' _ (.inl rfl) ⟨Kr + Kk, by omega, fun k hk => ?_, fun k hk => ?_⟩
  ·rw [(br k (by omega)).1, e1]
  ·rw [(bk k (by omega)).1, same k' hne hk', ek]
 ·have e0 : inn (rAt l r) (Md B i) = decide (r = 0) := by
   revert hf e1
   generalize inn (rAt l r) (Md B i) = s
   generalize inn (rAt l r) (Md B (i + 1)) = t
   generalize decide (r = 0) = c
   cases s <;> cases t <;> cases c <;> simp
  obtain ⟨k', hk', ek⟩ := h.free i
  have hne : k' ≠ r := fun e => by rw [e, e0] at ek; revert ek; generalize decide (r = 0) = c; cases c <;> simp
  obtain ⟨Kk, ak, bk⟩ := g _ (rAt_mem hk')
  refine bad k' hne hk' _ (.inr rfl) ⟨Kr + Kk, by omega, fun k hk => ?_, fun k hk => ?_⟩
  ·rw [(br k (by omega)).2, e1]
  ·rw [(bk k (by omega)).2, ← same k' hne hk', ek]
theorem Md_per (B : Ring) (i : Nat) : Md B (i + per B) = Md B i := by
 unfold Md
 rw [Pr_per, show i + per B + 1 = (i + 1) + per B by omega, Pr_per]
theorem run_same {f : Nat → Bool} {i : Nat} : ∀ d, (∀ j, i < j → j ≤ i + d → f j = f (j + 1)) → f (i + 1) = f (i + 1 + d) := by
  intro d
  induction d with
  | zero => intro _; rfl
  | succ d ih =>
    intro h
    rw [ih fun j h1 h2 => h j h1 (by omega), show i + 1 + (d + 1) = (i + 1 + d) + 1 by omega]
    exact h _ (by omega) (by omega)
theorem Out.all {l : Poly} {B : Ring} (h : Out l B) (hc : ¬ ∃ F : Inc, (∀ r q, F r q → r < l.length ∧ place (rAt l r) (at1 q) = 1) ∧ Core F ∧ ∃ r q, F r q) {k : Nat} (hk : k < l.length) (i j : Nat) : inn (rAt l k) (Md B i) = inn (rAt l k) (Md B j) := by
  have h4 := h.vb.shut.len
  have hper : 3 ≤ per B := by unfold per; omega
  apply Classical.byContradiction
  intro hne
  apply hc
  refine ⟨fun r q => r < l.length ∧ ∃ i, q = Pr B (i + 1) ∧ inn (rAt l r) (Md B i) ≠ inn (rAt l r) (Md B (i + 1)), ?_, ⟨?_, ?_⟩, ?_⟩
  · rintro r q ⟨hr, i, rfl, hf⟩
    exact ⟨hr, h.flip_on (rAt_mem hr) i hf⟩
  · rintro r q ⟨hr, i, rfl, hf⟩
    obtain ⟨r', h1, h2, h3⟩ := h.pt hr i hf
    exact ⟨r', h1, h2, i, rfl, h3⟩
  · rintro r q ⟨hr, i, rfl, hf⟩
    have ex : ∃ j, i < j ∧ j < i + per B ∧ inn (rAt l r) (Md B j) ≠ inn (rAt l r) (Md B (j + 1)) := by
      apply Classical.byContradiction
      intro hno
      have : inn (rAt l r) (Md B (i + 1)) = inn (rAt l r) (Md B (i + 1 + (per B - 1))) := run_same (f := fun j => inn (rAt l r) (Md B j)) (i := i) (per B - 1) (fun j h1 h2 => Classical.byContradiction fun q => hno ⟨j, h1, by omega, q⟩)
      rw [show i + 1 + (per B - 1) = i + per B by omega, Md_per] at this
      exact hf this.symm
    obtain ⟨j, j1, j2, hj⟩ := ex
    refine ⟨Pr B (j + 1), fun e => ?_, hr, j, rfl, hj⟩
    have e' : (j + 1) % per B = (i + 1) % per B := pr_inj h.vb.shut h.vb.tw (Nat.mod_lt _ (by omega)) (Nat.mod_lt _ (by omega)) (by rw [Pr_mod, Pr_mod]; exact e)
    have : j - i = 0 := rot_inj (L := i + 1) (c := per B) (by omega) (by omega) (by rw [show i + 1 + (j - i) = j + 1 by omega, Nat.add_zero]; exact e')
    omega
  · -- a change somewhere
    have step : ∀ d, inn (rAt l k) (Md B i) ≠ inn (rAt l k) (Md B (i + d)) → ∃ t, inn (rAt l k) (Md B t) ≠ inn (rAt l k) (Md B (t + 1)) := by
      intro d
      induction d with
      | zero => intro q; exact absurd rfl q
      | succ d ih =>
        intro q
        by_cases e : inn (rAt l k) (Md B i) = inn (rAt l k) (Md B (i + d))
        · exact ⟨i + d, fun e2 => q (e.trans e2)⟩
        · exact ih e
    have hper2 : ∀ n, Md B (j + n * per B) = Md B j := by
      intro n
      induction n with
      | zero => simp
      | succ n ih => rw [Nat.succ_mul, ← Nat.add_assoc, Md_per, ih]
    have hle : i ≤ j + i * per B := by
      have : i * 1 ≤ i * per B := Nat.mul_le_mul_left _ (by omega)
      omega
    obtain ⟨t, ht⟩ := step (j + i * per B - i) (by rw [show i + (j + i * per B - i) = j + i * per B by omega, hper2]; exact hne)
    exact ⟨k, Pr B (t + 1), hk, t, rfl, ht⟩
structure SemL (l : Poly) : Prop where
 pr : ∀ i j, 1 ≤ i → i < l.length → j < l.length → i ≠ j → PP (rAt l i) (rAt l j) (nestW j)
 cyc : ¬ ∃ F : Inc, (∀ r q, F r q → r < l.length ∧ place (rAt l r) (at1 q) = 1) ∧ Core F ∧ ∃ r q, F r q
structure SemP (a b : Poly) : Prop where
 no : ∀ A ∈ a, ∀ B ∈ b, No3 A B
 fr : ∀ B ∈ b, ∀ g : Spot, 0 < g.2 → place B g = 1 → (∀ o ∈ a, place o g ≠ 1) → free a g = true
structure Sem (m : Mult) : Prop where
 l : ∀ l ∈ m, SemL l
 p : ∀ I J, I < m.length → J < m.length → I ≠ J → SemP (pAt m I) (pAt m J)
theorem SemL.cross {l : Poly} (h : SemL l) (hv : ∀ r ∈ l, VR r) {i j : Nat} (hi : i < l.length) (hj : j < l.length) (hne : i ≠ j) : cross (rAt l i) (rAt l j) = false := by
 by_cases h1 : 1 ≤ i
 ·exact (h.pr i j h1 hi hj hne).cross (hv _ (rAt_mem hi)) (hv _ (rAt_mem hj))
 ·exact cross_sy ((h.pr j i (by omega) hj hi (fun e => hne e.symm)).cross (hv _ (rAt_mem hj)) (hv _ (rAt_mem hi)))
theorem place_cases (r : Ring) (p : Spot) (h : place r p ≠ 1) : (inn r p = true ∧ place r p = 2) ∨ (inn r p = false ∧ place r p = 0) := by
 have e := offR_place (offR_of h)
 cases hi : inn r p with
 | true => rw [hi] at e; exact .inl ⟨rfl, e⟩
 | false => rw [hi] at e; exact .inr ⟨rfl, e⟩
theorem SemL.one {l : Poly} (h : SemL l) (hv : ∀ r ∈ l, VR r) {i j : Nat} (hi : i < l.length) (hj : j < l.length) (hne : i ≠ j) : One (rAt l i) (rAt l j) (decide (j = 0)) := by
 intro p hw hp hn
 have pc := place_cases _ _ hn
 by_cases h1 : 1 ≤ i
 ·have k := (h.pr i j h1 hi hj hne).at_ p hw hp
  unfold nestW at k
  by_cases hj0 : j = 0
  ·rw [if_pos hj0] at k
   rw [decide_eq_true hj0]
   rcases pc with ⟨a, b⟩ | ⟨a, b⟩
   ·exact a
   ·omega
  ·rw [if_neg hj0] at k
   rw [decide_eq_false hj0]
   rcases pc with ⟨a, b⟩ | ⟨a, b⟩
   ·omega
   ·exact a
 ·obtain rfl : i = 0 := by omega
  have hj1 : 1 ≤ j := by omega
  have k := h.pr j 0 hj1 hj hi (fun e => hne e.symm)
  have vi := hv _ (rAt_mem hi); have vj := hv _ (rAt_mem hj)
  have := nest_sym vi vj (cross_sy (k.cross vj vi)) (k.lies vj vi) hw hp
  rw [decide_eq_false (by omega)]
  rcases pc with ⟨a, b⟩ | ⟨a, b⟩
  ·exact absurd b this
  ·exact a
theorem SemL.vp {r : Ring} {t : List Ring} (h : SemL (r :: t)) (hv : ∀ o ∈ r :: t, VR o) : VP r t := by
 have tl : ∀ o ∈ t, ∃ i, 1 ≤ i ∧ i < (r :: t).length ∧ rAt (r :: t) i = o := by
  intro o ho
  obtain ⟨i, hi, e⟩ := rAt_in ho
  exact ⟨i + 1, by omega, by simp; omega, by rw [← e]; rfl⟩
 refine ⟨hv, ?_, ?_, ?_, ?_⟩
 ·intro o ho o' ho' hne
  obtain ⟨i, hi, e⟩ := rAt_in ho
  obtain ⟨j, hj, e'⟩ := rAt_in ho'
  have := h.cross hv hi hj (fun g => hne (by rw [← e, ← e', g]))
  rwa [e, e'] at this
 ·intro o ho hne
  obtain ⟨i, hi1, hi, e⟩ := tl o ho
  have := (h.pr i 0 hi1 hi (by simp) (by omega)).lies (hv _ (rAt_mem hi)) (hv _ (by simp [rAt]))
  rw [e] at this
  exact this
 ·intro o ho o' ho' hne
  obtain ⟨i, hi1, hi, e⟩ := tl o ho
  obtain ⟨j, hj1, hj, e'⟩ := tl o' ho'
  have := (h.pr i j hi1 hi hj (fun g => hne (by rw [← e, ← e', g]))).lies (hv _ (rAt_mem hi)) (hv _ (rAt_mem hj))
  rw [e, e'] at this
  unfold nestW at this
  rwa [if_neg (by omega)] at this
 ·intro hr
  obtain ⟨j, hj1, hj, e⟩ := tl r hr
  have := h.cross hv (i := 0) (j := j) (by simp) hj (by omega)
  rw [e] at this
  have e0 : rAt (r :: t) 0 = r := rfl
  rw [e0, cross_self (hv r (by simp))] at this
  cases this
theorem cross_out {l : Poly} (hne : l ≠ []) (h : SemL l) (hv : ∀ o ∈ l, VR o) {B : Ring} (vB : VR B) (no : ∀ A ∈ l, No3 A B) (fr : ∀ g : Spot, 0 < g.2 → place B g = 1 → (∀ o ∈ l, place o g ≠ 1) → free l g = true) : ∀ A ∈ l, cross A B = false := by
 cases l with
 | nil => exact absurd rfl hne
 | cons r t =>
 have vp := h.vp hv
 obtain ⟨B', f, hb⟩ := finer vB (r :: t).flatten
 have fr' : ∀ g : Spot, 0 < g.2 → place B' g = 1 → (∀ o ∈ r :: t, place o g ≠ 1) → free (r :: t) g = true := fun g hg hp hn => fr g hg (by rw [← f.pl g hg]; exact hp) hn
 have vert : ∀ q ∈ (r :: t).flatten, place B' (q, 1) = 1 → q ∈ B' := fun q hq hp => hb q hq (by rw [← f.pl _ (by show (0 : Int) < 1; omega)]; exact hp)
 have xb : ∀ A ∈ r :: t, cross B' A = false := by
  intro A hA
  have vA := hv A hA
  refine no3_cross ((f.no A vA.long).2 (no A hA).symm) ?_
  rintro ⟨c, d⟩ ht ⟨a, b⟩ hs e
  have hm : meet a b c d = 2 := by rw [meet_symm]; exact e
  obtain ⟨P, w, i1, i2⟩ := meet2_ins (vA.long _ hs) (f.vr.long _ ht) hm
  obtain ⟨y, x, y', x', O, O', cr⟩ := crs_ins vA f.vr hs ht hm i1 i2
  refine vp.across2 hA f.vr cr fr' ?_ (place_one.2 ⟨_, hs, i1.on⟩)
  intro o ho q hq e'
  rw [e'] at i2
  have iq := ins_down i2
  exact f.vr.no_vert ht (vert q (List.mem_flatten.2 ⟨o, ho, hq⟩) (place_one.2 ⟨_, ht, iq.on⟩)) iq
 have out : Out (r :: t) B' := ⟨hv, f.vr, xb, fun i j hi hj hne => h.cross hv hi hj hne, fun i j hi hj hne => h.one hv hi hj hne, vert, fr'⟩
 intro A hA
 have vA := hv A hA
 refine no3_cross (no A hA) ?_
 rintro ⟨a, b⟩ hs ⟨c, d⟩ ht e
 have hm : meet a b c d = 2 := e
 obtain ⟨P, w, i1, i2⟩ := meet2_ins (vA.long _ hs) (vB.long _ ht) hm
 obtain ⟨y, x, y', x', O, O', cr⟩ := crs_ins vA vB hs ht hm i1 i2
 obtain ⟨K, hK, g⟩ := cr.flip vA
 have hpos : 0 < w * K := pp i1.w (by omega)
 obtain ⟨b1, b2⟩ := cr.on vB (k := K) (by omega)
 obtain ⟨k, hk, ek⟩ := rAt_in hA
 have sees : ∀ p : Pnt, place B (p, w * K) = 1 → place A (p, w * K) ≠ 1 → ∃ i, inn A (p, w * K) = inn A (Md B' i) := by
  intro p hp hn
  have hp' : place B' (p, w * K) = 1 := by rw [f.pl _ hpos]; exact hp
  obtain ⟨s, hs, hh⟩ := place_one.1 hp'
  obtain ⟨i, hi, rfl⟩ := mem_es f.vr.shut hs
  have := out.edge hA i (g := (p, w * K)) hpos hh hn
  refine ⟨i, ?_⟩
  rw [offR_place (offR_of hn), offR_place (offR_of (out.off hA i))] at this
  revert this
  generalize inn A (p, w * K) = u
  generalize inn A (Md B' i) = v
  cases u <;> cases v <;> simp
 have fin : ∀ p q : Pnt, place B (p, w * K) = 1 → place B (q, w * K) = 1 → place A (p, w * K) = 2 → place A (q, w * K) = 0 → False := by
  intro p q hp hq h2 h0
  obtain ⟨i, ei⟩ := sees p hp (by rw [h2]; decide)
  obtain ⟨j, ej⟩ := sees q hq (by rw [h0]; decide)
  have hall := out.all h.cyc hk i j
  rw [ek, ← ei, ← ej] at hall
  have p1 := place_cases A (p, w * K) (by rw [h2]; decide)
  have p2 := place_cases A (q, w * K) (by rw [h0]; decide)
  rcases p1 with ⟨a, _⟩ | ⟨_, a⟩
  ·rcases p2 with ⟨_, b⟩ | ⟨b, _⟩
   ·omega
   ·rw [a, b] at hall; cases hall
  ·omega
 rcases g K (Int.le_refl _) with ⟨q1, q2⟩ | ⟨q1, q2⟩
 ·exact fin _ _ b1 b2 q1 q2
 ·exact fin _ _ b2 b1 q2 q1
theorem any_false {α : Type} {f : α → Bool} {l : List α} (h : ∀ x ∈ l, f x = false) : l.any f = false := by
  cases q : l.any f with
  | false => rfl
  | true =>
    obtain ⟨x, hx, k⟩ := List.any_eq_true.1 q
    rw [h x hx] at k; cases k
theorem anyI_false {n : Nat} {f : Nat → Bool} (h : ∀ i, i < n → f i = false) : anyI n f = false := any_false fun i hi => h i (List.mem_range.1 hi)
theorem sem_of {m : Mult} (hg : Good m) (h : least m = 0) : Sem m := by
 obtain ⟨b1, b2, b3, b4, b5⟩ := least0 h
 refine ⟨fun l hl => ?_, fun I J hI hJ hne => ?_⟩
 ·have hv := vr_of hg b1 _ hl
  have ht : touch l = true := badC_no b2 hl
  have hn : nested l = true := badC_no b3 hl
  have hw : (!(way l)) = true := badC_no b4 hl
  have hw := not_of hw
  unfold touch at ht
  unfold nested at hn
  have ht := not_of ht
  have hn := not_of hn
  have xx_ : ∀ i j, i < j → j < l.length → cross (rAt l i) (rAt l j) = false := fun i j hij hj => anyI_no (anyI_no ht hj) hij
  have xa : ∀ i j, i < l.length → j < l.length → i ≠ j → cross (rAt l i) (rAt l j) = false := by
   intro i j hi hj hne
   rcases Nat.lt_or_gt_of_ne hne with g | g
   ·exact xx_ i j g hj
   ·exact cross_sy (xx_ j i g hi)
  have ll : ∀ i j, 1 ≤ i → i < l.length → j < l.length → i ≠ j → lies (rAt l i) (rAt l j) (nestW j) = true := by
   intro i j hi hil hjl hne
   have k := anyI_no hn hil
   rw [decide_eq_true hi, Bool.true_and] at k
   have k2 := anyI_no k hjl
   rw [decide_eq_true hne, Bool.true_and] at k2
   cases hx : lies (rAt l i) (rAt l j) (nestW j) with
   | true => rfl
   | false => rw [hx] at k2; cases k2
  refine ⟨fun i j h1 hi hj hne => pp_of (hv _ (rAt_mem hi)) (hv _ (rAt_mem hj)) (xa i j hi hj hne) (ll i j h1 hi hj hne), ?_⟩
  rintro ⟨F, hF, hc, ex⟩
  have : way l = true := by
   rw [way_core]
   refine ⟨F, fun r q hf => ⟨(hF r q hf).1, (hF r q hf).2, ?_⟩, hc, ex⟩
   obtain ⟨r', hne, hf'⟩ := hc.pt r q hf
   obtain ⟨h1, h2⟩ := hF r q hf
   obtain ⟨h3, h4⟩ := hF r' q hf'
   rcases touch_vert (hv _ (rAt_mem h1)).long (hv _ (rAt_mem h3)).long (xa r r' h1 h3 (fun e => hne e.symm)) h2 h4 with k | k
   ·exact List.mem_flatten.2 ⟨_, rAt_mem h1, k⟩
   ·exact List.mem_flatten.2 ⟨_, rAt_mem h3, k⟩
  rw [hw] at this; cases this
 ·exact ⟨fun A hA B hB => cross_no3 ((outside hg h hI hJ hne hB).1 A hA), fun B hB => (outside hg h hI hJ hne hB).2⟩
theorem least_sem {m : Mult} (hg : Good m) (hv : ∀ l ∈ m, ∀ r ∈ l, VR r) (h : Sem m) : least m = 0 := by
  have c1 : badC 1 m = false := by
    refine any_false fun l hl => ?_
    have : simple l = true := by
      unfold simple
      rw [any_false fun r hr => by rw [(hv l hl r hr).tw, (hv l hl r hr).self]; rfl]; rfl
    show (!(simple l)) = false
    rw [this]; rfl
  have c2 : badC 2 m = false := by
    refine any_false fun l hl => ?_
    have : touch l = true := by
      unfold touch
      rw [anyI_false fun j hj => anyI_false fun i hi => (h.l l hl).cross (hv l hl) (by omega) hj (by omega)]; rfl
    show (!(touch l)) = false
    rw [this]; rfl
  have c3 : badC 3 m = false := by
    refine any_false fun l hl => ?_
    have : nested l = true := by
      unfold nested
      rw [anyI_false fun i hi => by
        by_cases h1 : 1 ≤ i
        · rw [decide_eq_true h1, Bool.true_and]
          refine anyI_false fun j hj => ?_
          by_cases hne : i ≠ j
          · rw [((h.l l hl).pr i j h1 hi hj hne).lies (hv l hl _ (rAt_mem hi)) (hv l hl _ (rAt_mem hj)), decide_eq_true hne]; rfl
          · rw [decide_eq_false hne]; rfl
        · rw [decide_eq_false h1]; rfl]
      rfl
    show (!(nested l)) = false
    rw [this]; rfl
  have c4 : badC 4 m = false := by
    refine any_false fun l hl => ?_
    have : way l = false := by
      cases hw : way l with
      | false => rfl
      | true =>
        obtain ⟨F, hF, hc, ex⟩ := (way_core l).1 hw
        exact absurd ⟨F, fun r q hf => ⟨(hF r q hf).1, (hF r q hf).2.1⟩, hc, ex⟩ (h.l l hl).cyc
    show (!(!(way l))) = false
    rw [this]; rfl
  have mem : ∀ K, K < m.length → pAt m K ∈ m := fun K hK => pAt_mem hK
  have xo : ∀ I J, I < m.length → J < m.length → I ≠ J → ∀ A ∈ pAt m I, ∀ B ∈ pAt m J, cross A B = false := fun I J hI hJ hne A hA B hB =>
    cross_out (hg.ne _ (mem I hI)) (h.l _ (mem I hI)) (hv _ (mem I hI)) (hv _ (mem J hJ) B hB) (fun A hA => (h.p I J hI hJ hne).no A hA B hB) ((h.p I J hI hJ hne).fr B hB) A hA
  have en : ∀ I J, I < m.length → J < m.length → I ≠ J → enters (pAt m J) (pAt m I) = false := by
    intro I J hI hJ hne
    refine any_false fun B hB => any_false fun s hs => any_false fun q hq => ?_
    obtain ⟨a, b⟩ := s
    have vB := hv _ (mem J hJ) B hB
    have hab := vB.long _ hs
    obtain ⟨hw, hh⟩ := mids_on hab hq
    rw [(h.p I J hI hJ hne).fr B hB q hw (place_one.2 ⟨_, hs, hh⟩) fun o ho => mid_off hab ho (hv _ (mem I hI) o ho).long hq fun t ht => crossS_no (cross_sy (xo I J hI hJ hne o ho B hB)) hs ht]
    rfl
  have c5 : overlap m = false := by
    refine anyI_false fun j hj => anyI_false fun i hi => ?_
    rw [en i j (by omega) hj (by omega), en j i hj (by omega) (by omega)]
    have : boundsX (pAt m i) (pAt m j) = false := any_false fun A hA => any_false fun B hB => xo i j (by omega) hj (by omega) A hA B hB
    rw [this]; rfl
  unfold least
  rw [c1, c2, c3, c4, c5]; rfl
structure Eqv (r r' : Ring) : Prop where
 v : VR r
 v' : VR r'
 pl : ∀ p : Spot, 0 < p.2 → place r' p = place r p
 no : ∀ o, Long o → (No3 r' o ↔ No3 r o)
theorem Eqv.symm {r r' : Ring} (h : Eqv r r') : Eqv r' r := ⟨h.v', h.v, fun p hp => (h.pl p hp).symm, fun o ho => (h.no o ho).symm⟩
theorem Eqv.trans {r r' r'' : Ring} (h : Eqv r r') (k : Eqv r' r'') : Eqv r r'' := ⟨h.v, k.v', fun p hp => (k.pl p hp).trans (h.pl p hp), fun o ho => (k.no o ho).trans (h.no o ho)⟩
theorem Eqv.refl {r : Ring} (h : VR r) : Eqv r r := ⟨h, h, fun _ _ => rfl, fun _ _ => Iff.rfl⟩
theorem Eqv.no2 {r r' o o' : Ring} (h : Eqv r r') (k : Eqv o o') : No3 r' o' ↔ No3 r o := by
 rw [h.no o' k.v'.long]
 exact ⟨fun q => ((k.no r h.v.long).1 q.symm).symm, fun q => ((k.no r h.v.long).2 q.symm).symm⟩
theorem Eqv.pp {r r' o o' : Ring} (h : Eqv r r') (k : Eqv o o') {c : Int} (q : PP r o c) : PP r' o' c :=
 ⟨(h.no2 k).2 q.no, fun p hp hr => by rw [k.pl p hp]; exact q.at_ p hp (by rw [← h.pl p hp]; exact hr)⟩
structure EqL (l l' : Poly) : Prop where
 len : l'.length = l.length
 ex : ∃ s : Nat → Nat, (∀ i, i < l.length → s i < l.length) ∧ (∀ i j, i < l.length → j < l.length → s i = s j → i = j) ∧ (0 < l.length → s 0 = 0) ∧ ∀ i, i < l.length → Eqv (rAt l (s i)) (rAt l' i)
theorem inj_onto {n : Nat} {s : Nat → Nat} (h1 : ∀ i, i < n → s i < n) (h2 : ∀ i j, i < n → j < n → s i = s j → i = j) {y : Nat} (hy : y < n) : ∃ x, x < n ∧ s x = y := by
 have := (range_perm h1 h2).mem_iff.2 (List.mem_range.2 hy)
 obtain ⟨x, hx, e⟩ := List.mem_map.1 this
 exact ⟨x, List.mem_range.1 hx, e⟩
theorem EqL.sem {l l' : Poly} (h : EqL l l') (k : SemL l) : SemL l' := by
 obtain ⟨hl, s, s1, s2, s0, se⟩ := h
 have z : ∀ i, i < l.length → (s i = 0 ↔ i = 0) := fun i hi => ⟨fun e => s2 i 0 hi (by omega) (by rw [e, s0 (by omega)]), fun e => by rw [e]; exact s0 (by omega)⟩
 refine ⟨fun i j h1 hi hj hne => ?_, ?_⟩
 ·rw [hl] at hi hj
  have := (se i hi).pp (se j hj) (k.pr (s i) (s j) (by have := z i hi; omega) (s1 i hi) (s1 j hj) (fun e => hne (s2 i j hi hj e)))
  unfold nestW at this ⊢
  by_cases g : j = 0
  ·rwa [if_pos ((z j hj).2 g), if_pos g] at *
  ·rwa [if_neg (fun e => g ((z j hj).1 e)), if_neg g] at *
 ·rintro ⟨F, hF, hc, r, q, hf⟩
  apply k.cyc
  refine ⟨fun r q => ∃ i, i < l.length ∧ s i = r ∧ F i q, ?_, ⟨?_, ?_⟩, s r, q, r, by have := (hF r q hf).1; omega, rfl, hf⟩
  ·rintro r q ⟨i, hi, rfl, hf⟩
   refine ⟨s1 i hi, ?_⟩
   rw [← (se i hi).pl _ (by show (0 : Int) < 1; omega)]
   exact (hF i q hf).2
  ·rintro r q ⟨i, hi, rfl, hf⟩
   obtain ⟨i', hne, hf'⟩ := hc.pt i q hf
   have hi' : i' < l.length := by have := (hF i' q hf').1; omega
   exact ⟨s i', fun e => hne (s2 i' i hi' hi e), i', hi', rfl, hf'⟩
  ·rintro r q ⟨i, hi, rfl, hf⟩
   obtain ⟨q', hne, hf'⟩ := hc.ring i q hf
   exact ⟨q', hne, i, hi, rfl, hf'⟩
theorem EqL.at_ {l l' : Poly} (h : EqL l l') {o' : Ring} (ho : o' ∈ l') : ∃ o ∈ l, Eqv o o' := by
 obtain ⟨hl, s, s1, s2, s0, se⟩ := h
 obtain ⟨i, hi, rfl⟩ := rAt_in ho
 rw [hl] at hi
 exact ⟨_, rAt_mem (s1 i hi), se i hi⟩
theorem EqL.back {l l' : Poly} (h : EqL l l') {o : Ring} (ho : o ∈ l) : ∃ o' ∈ l', Eqv o o' := by
 obtain ⟨hl, s, s1, s2, s0, se⟩ := h
 obtain ⟨j, hj, rfl⟩ := rAt_in ho
 obtain ⟨i, hi, rfl⟩ := inj_onto s1 s2 hj
 exact ⟨_, rAt_mem (by omega), se i hi⟩
theorem EqL.free {l l' : Poly} (h : EqL l l') {p : Spot} (hp : 0 < p.2) (hf : free l p = true) : free l' p = true := by
 obtain ⟨hl, s, s1, s2, s0, se⟩ := h
 rw [free_iff] at hf ⊢
 obtain ⟨a, k, hk, hc⟩ := hf
 refine ⟨fun i hi => by rw [(se i (by omega)).pl p hp]; exact a _ (s1 i (by omega)), ?_⟩
 obtain ⟨i, hi, rfl⟩ := inj_onto s1 s2 hk
 refine ⟨i, by omega, ?_⟩
 rw [(se i hi).pl p hp]
 rcases hc with ⟨e, hc⟩ | ⟨e, hc⟩
 ·exact .inl ⟨s2 i 0 hi (by omega) (by rw [e, s0 (by omega)]), hc⟩
 ·exact .inr ⟨fun e0 => e (by rw [e0]; exact s0 (by omega)), hc⟩
theorem EqL.semP {a a' b b' : Poly} (h : EqL a a') (k : EqL b b') (q : SemP a b) : SemP a' b' := by
 refine ⟨fun A' hA' B' hB' => ?_, fun B' hB' g hg hp hn => ?_⟩
 ·obtain ⟨A, hA, e1⟩ := h.at_ hA'
  obtain ⟨B, hB, e2⟩ := k.at_ hB'
  exact (e1.no2 e2).2 (q.no A hA B hB)
 ·obtain ⟨B, hB, e2⟩ := k.at_ hB'
  refine h.free hg (q.fr B hB g hg (by rw [← e2.pl g hg]; exact hp) fun o ho => ?_)
  obtain ⟨o', ho', e⟩ := h.back ho
  rw [← e.pl g hg]; exact hn o' ho'
structure EqM (m m' : Mult) : Prop where
 len : m'.length = m.length
 ex : ∃ s : Nat → Nat, (∀ i, i < m.length → s i < m.length) ∧ (∀ i j, i < m.length → j < m.length → s i = s j → i = j) ∧ ∀ i, i < m.length → EqL (pAt m (s i)) (pAt m' i)
theorem pAt_in {m : Mult} {l : Poly} (h : l ∈ m) : ∃ i, i < m.length ∧ pAt m i = l := by
 obtain ⟨i, hi⟩ := List.mem_iff_getElem?.1 h
 exact ⟨i, Pl.lt_of_some hi, by unfold pAt; rw [List.getD_eq_getElem?_getD, hi]; rfl⟩
theorem EqM.sem {m m' : Mult} (h : EqM m m') (k : Sem m) : Sem m' := by
 obtain ⟨hl, s, s1, s2, se⟩ := h
 refine ⟨fun l' hl' => ?_, fun I J hI hJ hne => ?_⟩
 ·obtain ⟨i, hi, rfl⟩ := pAt_in hl'
  rw [hl] at hi
  exact (se i hi).sem (k.l _ (pAt_mem (s1 i hi)))
 ·rw [hl] at hI hJ
  exact (se I hI).semP (se J hJ) (k.p _ _ (s1 I hI) (s1 J hJ) fun e => hne (s2 I J hI hJ e))
theorem EqM.vr {m m' : Mult} (h : EqM m m') : ∀ l ∈ m', ∀ r ∈ l, VR r := by
 intro l' hl' r hr
 obtain ⟨hl, s, s1, s2, se⟩ := h
 obtain ⟨i, hi, rfl⟩ := pAt_in hl'
 obtain ⟨o, -, e⟩ := (se i (by omega)).at_ hr
 exact e.v'
theorem EqM.least {m m' : Mult} (h : EqM m m') (hg : Good m) (hg' : Good m') (k : least m = 0) : least m' = 0 := least_sem hg' h.vr (h.sem (sem_of hg k))
inductive More (r : Ring) : Ring → Prop
 | same : More r r
 | ins {p1 : Ring} {a b x : Pnt} {p2 : Ring} : More r (p1 ++ a :: b :: p2) → Ins a b x → More r (p1 ++ a :: x :: b :: p2)
theorem More.eqv {r r' : Ring} (h : More r r') (v : VR r) : Eqv r r' := by
 induction h with
 | same => exact Eqv.refl v
 | ins _ hi ih => exact ih.trans ⟨ih.v', vr_ins hi ih.v', fun p hp => ins_place hi hp, fun o ho => ins_no3 hi ho⟩
theorem More.shut {r r' : Ring} (h : More r r') (s : Shut r) : Shut r' := by
 induction h with
 | same => exact s
 | ins _ hi ih => exact ins_shut ih
def K3 : Ring → Ring
 | a :: b :: c :: t => if side (a, b) (at1 c) ≠ 0 then b :: K3 (b :: c :: t) else K3 (b :: c :: t)
 | _ => []
theorem K3_cons (a b c : Pnt) (t : Ring) : K3 (a :: b :: c :: t) = if side (a, b) (at1 c) ≠ 0 then b :: K3 (b :: c :: t) else K3 (b :: c :: t) := rfl
theorem K3_idx : ∀ (r : Ring), K3 r = ((List.range (r.length - 2)).filter fun i => decide (side (ptAt r i, ptAt r (i + 1)) (at1 (ptAt r (i + 2))) ≠ 0)).map fun i => ptAt r (i + 1) := by
  intro r
  induction r with
  | nil => rfl
  | cons a r ih =>
    cases r with
    | nil => rfl
    | cons b r =>
      cases r with
      | nil => rfl
      | cons c t =>
        rw [K3_cons, ih]
        have e : (a :: b :: c :: t).length - 2 = (b :: c :: t).length - 2 + 1 := by simp
        rw [e, List.range_succ_eq_map, List.filter_cons]
        have sh : ∀ i, ptAt (a :: b :: c :: t) (i + 1) = ptAt (b :: c :: t) i := fun i => by unfold ptAt; simp
        have e0 : ptAt (a :: b :: c :: t) 0 = a := rfl
        have e1 : ptAt (a :: b :: c :: t) 1 = b := rfl
        have e2 : ptAt (a :: b :: c :: t) 2 = c := rfl
        simp only [List.filter_map, List.map_map, Function.comp_def, Nat.zero_add, e0, e1, e2]
        have f : ∀ i, Nat.succ i = i + 1 := fun _ => rfl
        simp only [f, sh]
        by_cases q : side (a, b) (at1 c) ≠ 0
        · rw [if_pos q, decide_eq_true q, if_pos rfl]
          simp only [List.map_cons, List.map_map, Function.comp_def, Nat.zero_add, e1, f, sh]
          rfl
        · rw [if_neg q, decide_eq_false q, if_neg (by simp)]
          simp only [List.map_map, Function.comp_def, f, sh]
theorem corners_K3 {r : Ring} (h : 2 ≤ r.length) : corners r = K3 (r ++ [ptAt r 1]) := by
 rw [K3_idx]
 unfold corners cornersI
 obtain ⟨n, hn⟩ : ∃ n, r.length = n + 2 := ⟨r.length - 2, by omega⟩
 have el : (r ++ [ptAt r 1]).length - 2 = n + 1 := by simp; omega
 rw [el, hn, show n + 2 = (n + 1) + 1 by omega, List.range_succ_eq_map, List.filter_cons]
 have t0 : turns r 0 = false := by unfold turns; simp
 rw [t0, if_neg (by simp)]
 have ap : ∀ i, i < n + 2 → ptAt (r ++ [ptAt r 1]) i = ptAt r i := fun i hi => ptAt_app1 (by omega)
 have al : ptAt (r ++ [ptAt r 1]) (n + 2) = ptAt r 1 := by
  have := ptAt_app2 (p1 := r) (p2 := [ptAt r 1]) 0
  rw [hn] at this
  exact this
 rw [List.filter_map, List.map_map]
 have tr : ∀ i ∈ List.range (n + 1), (turns r ∘ Nat.succ) i = decide (side (ptAt (r ++ [ptAt r 1]) i, ptAt (r ++ [ptAt r 1]) (i + 1)) (at1 (ptAt (r ++ [ptAt r 1]) (i + 2))) ≠ 0) := by
  intro i hi
  have hi := List.mem_range.1 hi
  have nx : nextI r (i + 1) = ptAt (r ++ [ptAt r 1]) (i + 2) := by
   unfold nextI
   by_cases q : i + 1 + 1 < r.length
   ·rw [if_pos q, ap (i + 2) (by omega)]
   ·rw [if_neg q, show i + 2 = n + 2 by omega, al]
  show turns r (i + 1) = _
  unfold turns
  rw [nx, ap i (by omega), ap (i + 1) (by omega), decide_eq_true (by omega : 1 ≤ i + 1), Bool.true_and, Nat.add_sub_cancel]
 rw [List.filter_congr tr]
 refine List.map_congr_left fun i hi => ?_
 have hi := List.mem_range.1 (List.mem_filter.1 hi).1
 show ptAt r (i + 1) = _
 rw [ap (i + 1) (by omega)]
theorem side_eq {a b c a' b' c' : Pnt} (h : cr a b c 1 = 0 ↔ cr a' b' c' 1 = 0) : (side (a, b) (at1 c) ≠ 0) ↔ (side (a', b') (at1 c') ≠ 0) := by
 unfold side at1
 simp only [Ne, sg_zero]
 rw [h]
theorem prop0 {k p x y : Int} (hk : 0 < k) (hp : 0 < p) (e : k * x = p * y) : x = 0 ↔ y = 0 := by
 constructor
 ·intro h; rw [h, Int.mul_zero] at e; rcases Int.mul_eq_zero.1 e.symm with q | q <;> omega
 ·intro h; rw [h, Int.mul_zero] at e; rcases Int.mul_eq_zero.1 e with q | q <;> omega
theorem Ins.after {a b x : Pnt} (h : Ins a b x) (c : Pnt) : cr x b c 1 = 0 ↔ cr a b c 1 = 0 := by
 obtain ⟨p1, p2⟩ := ins_pos h.ab h
 exact prop0 (kk_pos h.ab) (by omega) (ins_parts h.ab h c).2
theorem Ins.ahead {a b x : Pnt} (h : Ins a b x) (q : Pnt) : cr q a x 1 = 0 ↔ cr q a b 1 = 0 := by
 obtain ⟨p1, p2⟩ := ins_pos h.ab h
 have e := cr_on h.on.1 q a
 rw [cr_b, Int.mul_zero, Int.zero_add] at e
 exact prop0 (kk_pos h.ab) p1 e
theorem Ins.flat {a b x : Pnt} (h : Ins a b x) : ¬ (side (a, x) (at1 b) ≠ 0) := by
 intro k
 have e := (ins_parts h.ab h b).1
 rw [cr_b, Int.mul_zero] at e
 have : cr a x b 1 = 0 := by
  have := kk_pos h.ab
  rcases Int.mul_eq_zero.1 e with q | q <;> omega
 exact k (by unfold side at1; simp only; rw [this]; rfl)
theorem K3_head {a b x : Pnt} (h : Ins a b x) (t : Ring) : K3 (x :: b :: t) = K3 (a :: b :: t) := by
  cases t with
  | nil => rfl
  | cons c t =>
    rw [K3_cons, K3_cons]
    by_cases q : side (a, b) (at1 c) ≠ 0
    · rw [if_pos q, if_pos ((side_eq (h.after c)).2 q)]
    · rw [if_neg q, if_neg (fun k => q ((side_eq (h.after c)).1 k))]
theorem K3_ins {a b x : Pnt} (h : Ins a b x) (p2 : Ring) : ∀ p1 : Ring, K3 (p1 ++ a :: x :: b :: p2) = K3 (p1 ++ a :: b :: p2) := by
  have base : K3 (a :: x :: b :: p2) = K3 (a :: b :: p2) := by
    rw [K3_cons, if_neg h.flat]; exact K3_head h p2
  intro p1
  induction p1 with
  | nil => exact base
  | cons q p ih =>
    cases p with
    | nil =>
      simp only [List.cons_append, List.nil_append]
      rw [K3_cons q a x, K3_cons q a b]
      have ih' : K3 (a :: x :: b :: p2) = K3 (a :: b :: p2) := base
      by_cases g : side (q, a) (at1 b) ≠ 0
      · rw [if_pos g, if_pos ((side_eq (h.ahead q)).2 g), ih']
      · rw [if_neg g, if_neg (fun k => g ((side_eq (h.ahead q)).1 k)), ih']
    | cons q2 p =>
      cases p with
      | nil =>
        simp only [List.cons_append, List.nil_append] at ih ⊢
        rw [K3_cons q q2 a, K3_cons q q2 a, ih]
      | cons q3 p =>
        simp only [List.cons_append] at ih ⊢
        rw [K3_cons q q2 q3, K3_cons q q2 q3, ih]
theorem K3_last {q a b x : Pnt} (h : Ins a b x) : ∀ p : Ring, K3 (p ++ [q, a, x]) = K3 (p ++ [q, a, b]) := by
  intro p
  induction p with
  | nil =>
    simp only [List.nil_append]
    rw [K3_cons q a x, K3_cons q a b]
    have : K3 [a, x] = K3 [a, b] := rfl
    by_cases g : side (q, a) (at1 b) ≠ 0
    · rw [if_pos g, if_pos ((side_eq (h.ahead q)).2 g), this]
    · rw [if_neg g, if_neg (fun k => g ((side_eq (h.ahead q)).1 k)), this]
  | cons z p ih =>
    cases p with
    | nil => simp only [List.cons_append, List.nil_append] at ih ⊢; rw [K3_cons z q a, K3_cons z q a, ih]
    | cons z2 p =>
      cases p with
      | nil => simp only [List.cons_append, List.nil_append] at ih ⊢; rw [K3_cons z z2 q, K3_cons z z2 q, ih]
      | cons z3 p => simp only [List.cons_append] at ih ⊢; rw [K3_cons z z2 z3, K3_cons z z2 z3, ih]
theorem ins_corners {p1 : Ring} {a b x : Pnt} {p2 : Ring} (h : Ins a b x) (s : Shut (p1 ++ a :: b :: p2)) : corners (p1 ++ a :: x :: b :: p2) = corners (p1 ++ a :: b :: p2) := by
  have s' := ins_shut (x := x) s
  have l1 := s.len; have l2 := s'.len
  rw [corners_K3 (by omega), corners_K3 (by omega)]
  cases p1 with
  | cons q p =>
    have e : ptAt (q :: p ++ a :: x :: b :: p2) 1 = ptAt (q :: p ++ a :: b :: p2) 1 := by cases p <;> rfl
    rw [e, List.append_assoc, List.append_assoc]
    simp only [List.cons_append]
    have := K3_ins h (p2 ++ [ptAt (q :: (p ++ a :: b :: p2)) 1]) (q :: p)
    simp only [List.cons_append] at this
    exact this
  | nil =>
    have e1 : ptAt ([] ++ a :: x :: b :: p2) 1 = x := rfl
    have e2 : ptAt ([] ++ a :: b :: p2) 1 = b := rfl
    rw [e1, e2]
    simp only [List.nil_append, List.cons_append]
    have k := K3_ins h (p2 ++ [x]) []
    simp only [List.nil_append] at k
    rw [k]
    have en := shut_ends s
    unfold Ends at en
    simp only [List.nil_append, List.head?_cons] at en
    cases hp : p2.reverse with
    | nil =>
      have : p2 = [] := List.reverse_eq_nil_iff.1 hp
      rw [this] at l1; simp at l1
    | cons z w =>
      have e : p2 = w.reverse ++ [z] := by rw [← List.reverse_reverse p2, hp, List.reverse_cons]
      have hz : z = a := by
        rw [e, List.getLast?_cons_cons] at en
        cases hw : (b :: (w.reverse ++ [z])) with
        | nil => cases hw
        | cons y ys =>
          have : (b :: (w.reverse ++ [z])).getLast? = some z := by rw [← List.cons_append, List.getLast?_append]; rfl
          rw [this] at en
          exact (Option.some.inj en).symm
      rw [e, hz]
      have hs : ∃ (u : Pnt) (v : Ring), a :: b :: w.reverse = v ++ [u] := by
        refine ⟨(a :: b :: w.reverse).getLast (by simp), (a :: b :: w.reverse).dropLast, ?_⟩
        exact (List.dropLast_concat_getLast (by simp)).symm
      obtain ⟨u, v, huv⟩ := hs
      have f1 : a :: b :: (w.reverse ++ [a] ++ [x]) = v ++ [u, a, x] := by
        have : a :: b :: (w.reverse ++ [a] ++ [x]) = (a :: b :: w.reverse) ++ [a, x] := by simp
        rw [this, huv]; simp
      have f2 : a :: b :: (w.reverse ++ [a] ++ [b]) = v ++ [u, a, b] := by
        have : a :: b :: (w.reverse ++ [a] ++ [b]) = (a :: b :: w.reverse) ++ [a, b] := by simp
        rw [this, huv]; simp
      rw [f1, f2]
      exact K3_last h v
theorem More.corners {r r' : Ring} (h : More r r') (s : Shut r) : Vd.corners r' = Vd.corners r := by
 induction h with
 | same => rfl
 | ins h hi ih => rw [ins_corners hi (h.shut s), ih]
theorem More.form {r r' : Ring} (h : More r r') (s : Shut r) (b : Bool) : ringForm r' b = ringForm r b := by
 unfold ringForm
 rw [h.corners s]
def hasM (a b : Pnt) : Prop := a ≠ b ∧ (a.1 + b.1) % 2 = 0 ∧ (a.2 + b.2) % 2 = 0
instance (a b : Pnt) : Decidable (hasM a b) := by unfold hasM; infer_instance
theorem Rv.sub {r r' : Ring} (h : Rv r r') {s : Seg} (hs : s ∈ segs r') : s ∈ segs r ∨ sw s ∈ segs r := by
 rcases h.seg with k | k
 ·exact .inl (k.mem_iff.1 hs)
 ·obtain ⟨t, ht, e⟩ := List.mem_map.1 (k.mem_iff.1 hs)
  exact .inr (by rw [← e, sw_sw]; exact ht)
theorem Rv.back {r r' : Ring} (h : Rv r r') {s : Seg} (hs : s ∈ segs r) : s ∈ segs r' ∨ sw s ∈ segs r' := by
 rcases h.seg with k | k
 ·exact .inl (k.mem_iff.2 hs)
 ·exact .inr (k.mem_iff.2 (List.mem_map_of_mem hs))
theorem rv_eqv {r r' : Ring} (v : VR r) (h : Rv r r') (s : Shut r') : Eqv r r' := by
 refine ⟨v, h.vr v s, fun p _ => h.place p, fun o ho => ⟨fun k s hs t ht => ?_, fun k s hs t ht => ?_⟩⟩
 ·rcases h.back hs with q | q
  ·exact k s q t ht
  ·have := k _ q t ht; rwa [meetS_sw] at this
 ·rcases h.sub hs with q | q
  ·exact k s q t ht
  ·have := k _ q t ht; rwa [meetS_sw] at this
theorem VR.inj {r : Ring} (h : VR r) {i j : Nat} (hi : 1 ≤ i) (hj : 1 ≤ j) (hi' : i < r.length) (hj' : j < r.length) (e : ptAt r i = ptAt r j) : i = j := by
 apply Classical.byContradiction
 intro n
 have : twice r = true := by
  rcases Nat.lt_or_gt_of_ne n with g | g
  ·exact twice_iff.2 ⟨i, j, hi, g, hj', e⟩
  ·exact twice_iff.2 ⟨j, i, hj, g, hi', e.symm⟩
 rw [h.tw] at this; cases this
theorem mem_cn {r : Ring} {c : Pnt} : c ∈ corners r ↔ ∃ i, i < r.length ∧ turns r i = true ∧ ptAt r i = c := by
 unfold corners cornersI
 rw [List.mem_map]
 constructor
 ·rintro ⟨i, hi, e⟩
  obtain ⟨h1, h2⟩ := List.mem_filter.1 hi
  exact ⟨i, List.mem_range.1 h1, h2, e⟩
 ·rintro ⟨i, h1, h2, e⟩
  exact ⟨i, List.mem_filter.2 ⟨List.mem_range.2 h1, h2⟩, e⟩
theorem turns_pos {r : Ring} {i : Nat} (h : turns r i = true) : 1 ≤ i := by
 unfold turns at h
 simp only [Bool.and_eq_true, decide_eq_true_eq] at h
 exact h.1
theorem corners_lt {r : Ring} {i : Nat} (h1 : 1 ≤ i) (hi : i < r.length) (hf : turns r i = false) : (corners r).length + 2 ≤ r.length := by
 unfold corners cornersI
 rw [List.length_map]
 have : ((List.range r.length).filter (turns r)).length ≤ ((List.range r.length).filter fun j => decide (j ≠ 0) && decide (j ≠ i)).length := by
  rw [← List.countP_eq_length_filter, ← List.countP_eq_length_filter]
  apply List.countP_mono_left
  intro j hj ht
  have := turns_pos ht
  have : j ≠ i := fun e => by rw [e, hf] at ht; cases ht
  simp; omega
 have c2 : ((List.range r.length).filter fun j => decide (j ≠ 0) && decide (j ≠ i)).length + 2 = r.length := by
  obtain ⟨A, B, e⟩ := List.append_of_mem (List.mem_range.2 hi)
  have e0 : List.range r.length = List.range i ++ i :: (List.range (r.length - (i + 1))).map (fun k => i + 1 + k) := by
   apply List.ext_getElem?
   intro k
   by_cases q : k < r.length
   ·rw [List.getElem?_range q]
    rcases Nat.lt_trichotomy k i with g | g | g
    ·rw [List.getElem?_append_left (by simp; exact g), List.getElem?_range g]
    ·rw [g, List.getElem?_append_right (by simp), List.length_range, Nat.sub_self]; rfl
    ·rw [List.getElem?_append_right (by simp; omega), List.length_range]
     obtain ⟨d, hd⟩ : ∃ d, k - i = d + 1 := ⟨k - i - 1, by omega⟩
     rw [hd, List.getElem?_cons_succ, List.getElem?_map, List.getElem?_range (by omega)]
     simp; omega
   ·rw [List.getElem?_eq_none (by simp; omega), List.getElem?_eq_none (by simp; omega)]
  have f1 : ((List.range i).filter fun j => decide (j ≠ 0) && decide (j ≠ i)).length + 1 = i := by
   have e1 : List.range i = 0 :: (List.range (i - 1)).map (fun k => k + 1) := by
    obtain ⟨d, rfl⟩ : ∃ d, i = d + 1 := ⟨i - 1, by omega⟩
    rw [List.range_succ_eq_map]; rfl
   rw [e1, List.filter_cons, if_neg (by simp), List.filter_eq_self.2]
   ·simp; omega
   ·intro a ha
    obtain ⟨k, hk, rfl⟩ := List.mem_map.1 ha
    have := List.mem_range.1 hk
    simp; omega
  rw [e0, List.filter_append, List.filter_cons, if_neg (by simp), List.length_append]
  rw [show ((List.range (r.length - (i + 1))).map (fun k => i + 1 + k)).filter (fun j => decide (j ≠ 0) && decide (j ≠ i)) = (List.range (r.length - (i + 1))).map (fun k => i + 1 + k) from List.filter_eq_self.2 (by
   intro a ha
   obtain ⟨k, hk, rfl⟩ := List.mem_map.1 ha
   simp; omega)]
  rw [List.length_map, List.length_range]
  omega
 omega
theorem del_shut {p1 : Ring} {a x b : Pnt} {p2 : Ring} (h : Shut (p1 ++ a :: x :: b :: p2)) (h5 : 5 ≤ (p1 ++ a :: x :: b :: p2).length) : Shut (p1 ++ a :: b :: p2) := by
 have e := shut_ends h
 have l0 : 4 ≤ (p1 ++ a :: b :: p2).length := by
  simp only [List.length_append, List.length_cons] at h5 ⊢; omega
 refine ⟨l0, ?_⟩
 have : Ends (p1 ++ a :: b :: p2) := by
  unfold Ends at *
  have k : (p1 ++ a :: x :: b :: p2).getLast? = (p1 ++ a :: b :: p2).getLast? := by
   rw [List.getLast?_append, List.getLast?_append, List.getLast?_cons_cons, List.getLast?_cons_cons, List.getLast?_cons_cons]
  rw [← k, ← e]
  cases p1 <;> rfl
 unfold Ends at this
 rw [List.head?_eq_getElem?, List.getLast?_eq_getElem?] at this
 rw [ptAt_get (by omega), ptAt_get (by omega)] at this
 exact Option.some.inj this
theorem thin : ∀ (n : Nat) (r : Ring), r.length ≤ n → VR r → ptAt r 0 ∈ corners r → ∃ r', More r' r ∧ VR r' ∧ ∀ i, 1 ≤ i → i < r'.length → turns r' i = true := by
  intro n
  induction n with
  | zero => intro r hr h _; have := h.shut.len; omega
  | succ n ih =>
    intro r hr h h0
    by_cases hall : ∀ i, 1 ≤ i → i < r.length → turns r i = true
    · exact ⟨r, .same, h, hall⟩
    · have ex : ∃ i, 1 ≤ i ∧ i < r.length ∧ turns r i = false := by
        apply Classical.byContradiction
        intro q
        exact hall fun i h1 h2 => by
          cases ht : turns r i with
          | true => rfl
          | false => exact absurd ⟨i, h1, h2, ht⟩ q
      obtain ⟨i, h1, h2, hf⟩ := ex
      have h4 := h.shut.len
      have hlast : i + 1 < r.length := by
        apply Classical.byContradiction
        intro q
        obtain ⟨j, hj, tj, ej⟩ := mem_cn.1 h0
        have : j = i := h.inj (turns_pos tj) h1 hj h2 (by rw [ej, h.shut.eq, show i = r.length - 1 by omega])
        rw [this, hf] at tj; cases tj
      have hc := corners_lt h1 h2 hf
      have h3 := h.corners_three
      have e1 := split_at (r := r) (i := i - 1) (by omega)
      rw [show i - 1 + 1 = i by omega, show i - 1 + 2 = i + 1 by omega] at e1
      have e2 : r.drop (i + 1) = ptAt r (i + 1) :: r.drop (i + 2) := by
        rw [List.drop_eq_getElem_cons hlast]
        congr 1
        have := ptAt_get hlast
        rw [List.getElem?_eq_getElem hlast] at this
        exact Option.some.inj this
      rw [e2] at e1
      have nx : nextI r i = ptAt r (i + 1) := by unfold nextI; rw [if_pos hlast]
      have cz : cr (ptAt r (i - 1)) (ptAt r i) (ptAt r (i + 1)) 1 = 0 := by
        unfold turns at hf
        rw [decide_eq_true h1, Bool.true_and, nx] at hf
        have := of_decide_eq_false hf
        have := Classical.not_not.1 this
        unfold side at1 at this
        exact (sg_zero _).1 this
      generalize ptAt r (i - 1) = a at *
      generalize ptAt r i = x at *
      generalize ptAt r (i + 1) = b at *
      generalize r.take (i - 1) = p1 at *
      generalize r.drop (i + 2) = p2 at *
      have v := h
      rw [e1] at v
      have hax : a ≠ x := v.here
      have hxb : x ≠ b := v.next_long
      have hh : has a b x 1 := v.back.resolve_left (fun q => q cz)
      have hi : Ins a b x := ⟨hh, fun e => hax e.symm, hxb⟩
      have s1 : Shut (p1 ++ a :: b :: p2) := del_shut v.shut (by rw [← e1]; omega)
      have v1 := vr_del hi s1 v
      have hm := More.ins (r := p1 ++ a :: b :: p2) .same hi
      have hlen : (p1 ++ a :: b :: p2).length ≤ n := by
        have := congrArg List.length e1
        simp only [List.length_append, List.length_cons] at this ⊢; omega
      have h0' : ptAt (p1 ++ a :: b :: p2) 0 ∈ corners (p1 ++ a :: b :: p2) := by
        rw [← ins_corners hi s1, ← e1]
        have : ptAt (p1 ++ a :: b :: p2) 0 = ptAt r 0 := by rw [e1]; cases p1 <;> rfl
        rw [this]; exact h0
      obtain ⟨r', m', v', t'⟩ := ih _ hlen v1 h0'
      refine ⟨r', ?_, v', t'⟩
      rw [e1]
      exact More.ins m' hi
theorem full_corners {r : Ring} (h : VR r) (ht : ∀ i, 1 ≤ i → i < r.length → turns r i = true) : (corners r).length = per r ∧ ∀ j, j < per r → ptAt (corners r) j = ptAt r (j + 1) := by
 have h4 := h.shut.len
 have e : corners r = (List.range (per r)).map fun j => ptAt r (j + 1) := by
  unfold corners cornersI per
  obtain ⟨n, hn⟩ : ∃ n, r.length = n + 1 := ⟨r.length - 1, by omega⟩
  rw [hn, List.range_succ_eq_map, List.filter_cons]
  have t0 : turns r 0 = false := by unfold turns; simp
  rw [t0, if_neg (by simp), List.filter_eq_self.2 (by
   intro a ha
   obtain ⟨k, hk, rfl⟩ := List.mem_map.1 ha
   have := List.mem_range.1 hk
   exact ht _ (by omega) (by omega)), List.map_map]
  rfl
 refine ⟨by rw [e]; simp, fun j hj => ?_⟩
 rw [e]
 unfold ptAt
 rw [List.getD_eq_getElem?_getD, List.getElem?_map, List.getElem?_range hj]; rfl
theorem Shut.next {r : Ring} (h : Shut r) (x : Nat) : ptAt r (x % per r + 1) = Pr r (x + 1) := by
 have h4 := h.len
 have hp : 0 < per r := by unfold per; omega
 have hl := Nat.mod_lt x hp
 rw [← h.pr (i := x % per r + 1) (by omega)]
 unfold Pr
 rw [Nat.add_mod, Nat.mod_mod, ← Nat.add_mod]
theorem full_form {r : Ring} (h : VR r) (ht : ∀ i, 1 ≤ i → i < r.length → turns r i = true) (b : Bool) : ∃ k, k ≤ per r ∧ (ringForm r b = rotR r k ∨ ringForm r b = (rotR r k).reverse) := by
 have h4 := h.shut.len
 have hp : 3 ≤ per r := by unfold per; omega
 obtain ⟨c1, c2⟩ := full_corners h ht
 have hL : leastI (corners r) < per r := by rw [← c1]; exact leastI_low (fun e => by rw [e] at c1; simp at c1; omega)
 have key : ∀ x, ptAt (corners r) (x % (corners r).length) = Pr r (x + 1) := fun x => by
  rw [c1, c2 _ (Nat.mod_lt _ (by omega)), h.shut.next]
 have e : ringForm r b = (List.range (per r + 1)).map fun i => Pr r (leastI (corners r) + i * stepI (corners r) b + 1) := by
  unfold ringForm
  rw [if_neg (by omega), c1]
  refine List.map_congr_left fun i _ => ?_
  have := key (leastI (corners r) + i * stepI (corners r) b)
  rw [c1] at this
  exact this
 have rl : ∀ k, rotR r k = (List.range (per r + 1)).map fun i => Pr r (i + k) := fun k => rfl
 generalize leastI (corners r) = L at *
 refine ⟨L + 1, by omega, ?_⟩
 unfold stepI at e
 rw [c1] at e
 by_cases q : lefts (corners r) (leastI (corners r)) = b
 ·left
  rw [if_pos q] at e
  rw [e, rl]
  refine List.map_congr_left fun i _ => ?_
  congr 1; omega
 ·right
  rw [if_neg q] at e
  rw [e, rl]
  apply List.ext_getElem?
  intro i
  by_cases hi : i < per r + 1
  ·rw [List.getElem?_map, List.getElem?_range hi, List.getElem?_reverse (by simp; omega), List.length_map, List.length_range, List.getElem?_map, List.getElem?_range (by omega)]
   simp only [Option.map_some]
   congr 1
   unfold Pr
   congr 1
   have a : L + i * (per r - 1) + 1 + i = (L + 1) + i * per r := by
    obtain ⟨n, hn⟩ : ∃ n, per r = n + 1 := ⟨per r - 1, by omega⟩
    rw [hn, Nat.add_sub_cancel, Nat.mul_succ]; omega
   have b1 : (per r + 1 - 1 - i + (L + 1)) + i = (L + 1) + per r := by omega
   have f1 : (L + i * (per r - 1) + 1 + i) % per r = (per r + 1 - 1 - i + (L + 1) + i) % per r := by
    rw [a, b1, Nat.add_mul_mod_self_right, Nat.add_mod_right]
   have hi2 : i ≤ per r := by omega
   have g : ∀ u v : Nat, (u + i) % per r = (v + i) % per r → u % per r = v % per r := by
    intro u v huv
    have h1 : (u + i + (per r - i)) % per r = (v + i + (per r - i)) % per r := by rw [Nat.add_mod, huv, ← Nat.add_mod]
    rw [show u + i + (per r - i) = u + per r by omega, show v + i + (per r - i) = v + per r by omega, Nat.add_mod_right, Nat.add_mod_right] at h1
    exact h1
   exact g _ _ f1
  ·rw [List.getElem?_eq_none (by simp; omega), List.getElem?_eq_none (by simp; omega)]
theorem VR.form_eqv {r : Ring} (h : VR r) (b : Bool) : Eqv r (ringForm r b) ∧ ∀ b', ringForm (ringForm r b) b' = ringForm r b' := by
 have h4 := h.shut.len
 have hp : 3 ≤ per r := by unfold per; omega
 have h3 := h.cU_three
 obtain ⟨c, hc⟩ : ∃ c, c ∈ cornersU r := by
  cases hq : cornersU r with
  | nil => rw [hq] at h3; simp at h3
  | cons c t => exact ⟨c, by simp⟩
 obtain ⟨j, hj, rfl⟩ : ∃ j, j < per r ∧ Pr r j = c := by
  rw [h.shut.cornersU_eq] at hc
  obtain ⟨j, hj, e⟩ := List.mem_map.1 hc
  exact ⟨j, List.mem_range.1 (List.mem_filter.1 hj).1, e⟩
 have rv := rot_rv h.shut j
 have s0 := rotR_shut h.shut j
 have e0 := rv_eqv h rv s0
 have v0 := e0.v'
 have p0 : ptAt (rotR r j) 0 = Pr r j := by rw [rotR_at h.shut j (by omega), Nat.zero_add]
 have hc0 : ptAt (rotR r j) 0 ∈ corners (rotR r j) := by
  rw [p0]
  obtain ⟨M, E, f1, f2⟩ := cornersU_rot h.shut (k := j) (by omega)
  obtain ⟨M0, E0, g1, g2⟩ := v0.corners_split
  rw [f1] at hc
  have : Pr r j ∈ cornersU (rotR r j) := by rw [f2]; simp only [List.mem_append] at hc ⊢; exact hc.symm
  rw [g2] at this
  rw [g1]
  simp only [List.mem_append] at this ⊢; exact this.symm
 obtain ⟨r', m', v', t'⟩ := thin _ _ (Nat.le_refl _) v0 hc0
 have f1 : ∀ b, ringForm r b = ringForm r' b := fun b => by rw [← form_rot h (k := j) (by omega) b, m'.form v'.shut b]
 obtain ⟨k, hk, hf⟩ := full_form v' t' b
 have vk := (rot_rv v'.shut k)
 have sk := rotR_shut v'.shut k
 have ek := rv_eqv v' vk sk
 have er : Eqv r' r := (m'.eqv v').trans e0.symm
 rw [f1 b]
 rcases hf with e | e
 ·rw [e]
  exact ⟨er.symm.trans ek, fun b' => by rw [form_rot v' hk b', f1 b']⟩
 ·rw [e]
  refine ⟨er.symm.trans (ek.trans (rv_eqv ek.v' (rev_rv sk) (rev_shut sk))), fun b' => ?_⟩
  rw [form_rev ek.v' b', form_rot v' hk b', f1 b']
theorem perm_at {α : Type} {l l' : List α} (h : l.Perm l') : ∃ s : Nat → Nat, (∀ i, i < l.length → s i < l.length) ∧ (∀ i j, i < l.length → j < l.length → s i = s j → i = j) ∧ ∀ i, i < l.length → l'[i]? = l[s i]? := by
  induction h with
  | nil => exact ⟨fun i => i, fun i h => h, fun i j _ _ e => e, fun i _ => rfl⟩
  | cons x _ ih =>
    obtain ⟨s, s1, s2, s3⟩ := ih
    refine ⟨fun i => if i = 0 then 0 else s (i - 1) + 1, fun i hi => ?_, fun i j hi hj e => ?_, fun i hi => ?_⟩
    · simp only [List.length_cons] at hi ⊢
      split
      · omega
      · have := s1 (i - 1) (by omega); omega
    · simp only [List.length_cons] at hi hj
      by_cases a : i = 0 <;> by_cases b : j = 0 <;> simp only [a, b, if_true, if_false] at e
      · omega
      · omega
      · omega
      · have := s2 (i - 1) (j - 1) (by omega) (by omega) (by omega); omega
    · simp only [List.length_cons] at hi
      by_cases a : i = 0
      · rw [a]; rfl
      · obtain ⟨k, rfl⟩ : ∃ k, i = k + 1 := ⟨i - 1, by omega⟩
        simp only [Nat.add_eq_zero_iff, Nat.one_ne_zero, and_false, if_false, Nat.add_sub_cancel, List.getElem?_cons_succ]
        exact s3 k (by omega)
  | swap x y l =>
    refine ⟨fun i => if i = 0 then 1 else if i = 1 then 0 else i, fun i hi => ?_, fun i j hi hj e => ?_, fun i hi => ?_⟩
    · simp only [List.length_cons] at hi ⊢
      split
      · omega
      · split <;> omega
    · simp only at e
      split at e <;> split at e <;> (try split at e) <;> (try split at e) <;> omega
    · by_cases a : i = 0
      · rw [a]; rfl
      · by_cases b : i = 1
        · rw [b]; rfl
        · obtain ⟨k, rfl⟩ : ∃ k, i = k + 2 := ⟨i - 2, by omega⟩
          simp only [a, b, if_false, List.getElem?_cons_succ]
  | trans h1 _ ih1 ih2 =>
    obtain ⟨s, s1, s2, s3⟩ := ih1
    obtain ⟨t, t1, t2, t3⟩ := ih2
    have hl := h1.length_eq
    refine ⟨fun i => s (t i), fun i hi => s1 _ (by rw [hl]; exact t1 i (by omega)), fun i j hi hj e => t2 i j (by omega) (by omega) (s2 _ _ (by rw [hl]; exact t1 i (by omega)) (by rw [hl]; exact t1 j (by omega)) e), fun i hi => ?_⟩
    rw [t3 i (by omega), s3 _ (by rw [hl]; exact t1 i (by omega))]
theorem flat_one : ∀ (L : Mult), (∀ x ∈ L, ∃ r, x = [r]) → L.flatten.map (fun r => [r]) = L := by
  intro L
  induction L with
  | nil => intro _; rfl
  | cons x L ih =>
    intro h
    obtain ⟨r, rfl⟩ := h x (by simp)
    rw [List.flatten_cons, List.map_append, ih fun y hy => h y (by simp [hy])]; rfl
theorem holes_perm (t : Poly) : ((inOrder (holesF t)).flatten).Perm (t.map fun r => ringForm r false) := by
 have h := (inOrder_perm (holesF t)).flatten
 refine h.trans (List.Perm.of_eq ?_)
 unfold holesF
 clear h
 induction t with
 | nil => rfl
 | cons r t ih => rw [List.map_cons, List.flatten_cons, ih]; rfl
theorem polyForm_eqL {l : Poly} (hv : ∀ r ∈ l, VR r) : EqL l (polyForm l) := by
  cases l with
  | nil => exact ⟨rfl, fun i => i, fun i h => h, fun i j _ _ e => e, fun _ => rfl, fun i hi => by simp at hi⟩
  | cons r t =>
    obtain ⟨s, s1, s2, s3⟩ := perm_at (holes_perm t).symm
    have hlen := (holes_perm t).length_eq
    rw [List.length_map] at hlen
    simp only [List.length_map] at s1 s2 s3
    have eP : polyForm (r :: t) = ringForm r true :: (inOrder (holesF t)).flatten := rfl
    refine ⟨by rw [eP]; simp only [List.length_cons]; omega, fun i => if i = 0 then 0 else s (i - 1) + 1, fun i hi => ?_, fun i j hi hj e => ?_, fun _ => rfl, fun i hi => ?_⟩
    · simp only [List.length_cons] at hi ⊢
      split
      · omega
      · have := s1 (i - 1) (by omega); omega
    · simp only [List.length_cons] at hi hj
      by_cases a : i = 0 <;> by_cases b : j = 0 <;> simp only [a, b, if_true, if_false] at e
      · omega
      · omega
      · omega
      · have := s2 (i - 1) (j - 1) (by omega) (by omega) (by omega); omega
    · simp only [List.length_cons] at hi
      by_cases a : i = 0
      · rw [a, eP]
        exact ((hv r (by simp)).form_eqv true).1
      · obtain ⟨k, rfl⟩ : ∃ k, i = k + 1 := ⟨i - 1, by omega⟩
        simp only [Nat.add_eq_zero_iff, Nat.one_ne_zero, and_false, if_false, Nat.add_sub_cancel]
        have hk : k < t.length := by omega
        have hs := s1 k hk
        have e1 : rAt (r :: t) (s k + 1) = rAt t (s k) := rfl
        have e2 : rAt (polyForm (r :: t)) (k + 1) = ringForm (rAt t (s k)) false := by
          rw [eP]
          show ((inOrder (holesF t)).flatten).getD k [] = _
          rw [List.getD_eq_getElem?_getD, s3 k hk, List.getElem?_map, List.getElem?_eq_getElem hs]
          unfold rAt
          rw [List.getD_eq_getElem?_getD, List.getElem?_eq_getElem hs]; rfl
        rw [e1, e2]
        exact ((hv _ (by have := rAt_mem hs; simp [this])).form_eqv false).1
theorem form_eqM {m : Mult} (hv : ∀ l ∈ m, ∀ r ∈ l, VR r) : EqM m (form m) := by
 obtain ⟨s, s1, s2, s3⟩ := perm_at (inOrder_perm (m.map polyForm)).symm
 simp only [List.length_map] at s1 s2 s3
 refine ⟨by unfold form; rw [(inOrder_perm _).length_eq, List.length_map], s, s1, s2, fun i hi => ?_⟩
 have e : pAt (form m) i = polyForm (pAt m (s i)) := by
  unfold form pAt
  rw [List.getD_eq_getElem?_getD, s3 i hi, List.getElem?_map, List.getD_eq_getElem?_getD, List.getElem?_eq_getElem (s1 i hi)]; rfl
 rw [e]
 exact polyForm_eqL (hv _ (pAt_mem (s1 i hi)))
theorem form_least {m : Mult} (h0 : Pl.wrong m = 0) (h : least m = 0) : least (form m) = 0 :=
 (form_eqM (vr_of (good_of h0) (least0 h).1)).least (good_of h0) (good_of (form_wrong h0 h)) h
theorem polyForm_again {l : Poly} (hv : ∀ r ∈ l, VR r) : polyForm (polyForm l) = polyForm l := by
  cases l with
  | nil => rfl
  | cons r t =>
    have e1 : polyForm (r :: t) = ringForm r true :: (inOrder (holesF t)).flatten := rfl
    rw [e1]
    have e2 : polyForm (ringForm r true :: (inOrder (holesF t)).flatten) = ringForm (ringForm r true) true :: (inOrder (holesF (inOrder (holesF t)).flatten)).flatten := rfl
    rw [e2, ((hv r (by simp)).form_eqv true).2 true]
    congr 2
    have e3 : holesF (inOrder (holesF t)).flatten = inOrder (holesF t) := by
      have k : ∀ x ∈ (inOrder (holesF t)).flatten, ringForm x false = x := by
        intro x hx
        obtain ⟨o, ho, rfl⟩ := List.mem_map.1 ((holes_perm t).mem_iff.1 hx)
        exact ((hv o (by simp [ho])).form_eqv false).2 false
      unfold holesF
      rw [List.map_congr_left fun x hx => by rw [k x hx]]
      refine flat_one _ fun x hx => ?_
      have := (inOrder_perm (holesF t)).mem_iff.1 hx
      unfold holesF at this
      obtain ⟨o, _, rfl⟩ := List.mem_map.1 this
      exact ⟨_, rfl⟩
    rw [e3]
    exact inOrder_of_perm (inOrder_perm _)
theorem form_again {m : Mult} (hv : ∀ l ∈ m, ∀ r ∈ l, VR r) : form (form m) = form m := by
 have k : (form m).map polyForm = form m := by
  have : ∀ x ∈ form m, polyForm x = x := by
   intro x hx
   unfold form at hx
   obtain ⟨l, hl, rfl⟩ := List.mem_map.1 ((inOrder_perm _).mem_iff.1 hx)
   exact polyForm_again (hv l hl)
  rw [List.map_congr_left fun x hx => this x hx]; simp
 have e : form (form m) = inOrder ((form m).map polyForm) := rfl
 rw [e, k]
 unfold form
 exact inOrder_of_perm (inOrder_perm _)
theorem border_in {m : Mult} (hv : ∀ l ∈ m, ∀ r ∈ l, VR r) (h : Sem m) {l : Poly} (hl : l ∈ m) {r : Ring} (hr : r ∈ l) {p : Spot} (hw : 0 < p.2) (hp : place r p = 1) : inSet m p = true := by
  unfold inSet
  refine List.any_eq_true.2 ⟨l, hl, ?_⟩
  have hs := h.l l hl
  have vl := hv l hl
  obtain ⟨i, hi, ei⟩ := rAt_in hr
  rw [← ei] at hp
  have side : ∀ j, j < l.length → place (rAt l j) p = 1 ∨ place (rAt l j) p = (if j = 0 then 2 else 0) := by
    intro j hj
    by_cases hj1 : place (rAt l j) p = 1
    · exact .inl hj1
    · right
      have hne : i ≠ j := fun e => hj1 (by rw [← e]; exact hp)
      have o := hs.one vl hi hj hne p hw hp hj1
      rcases place_cases _ _ hj1 with ⟨a, b⟩ | ⟨a, b⟩
      · rw [a] at o
        have := of_decide_eq_true o.symm
        rw [if_pos this, b]
      · rw [a] at o
        have := of_decide_eq_false o.symm
        rw [if_neg this, b]
  cases l with
  | nil => cases hr
  | cons s t =>
    unfold inPoly inPolyL
    have h0 := side 0 (by simp)
    have e0 : rAt (s :: t) 0 = s := rfl
    rw [e0, if_pos rfl] at h0
    have n0 : place s p ≠ 0 := by omega
    rw [decide_eq_false n0]
    simp only [Bool.and_false, Bool.not_true, Bool.false_and, Bool.or_self, Bool.false_eq_true, if_false, List.length_cons, Bool.and_eq_true, decide_eq_true_eq]
    refine ⟨?_, by omega⟩
    rw [inPolyL_iff]
    intro o ho q
    obtain ⟨j, hj, ej⟩ := rAt_in ho
    have hj' := side (j + 1) (by simp; omega)
    have ee : rAt (s :: t) (j + 1) = o := by rw [← ej]; rfl
    rw [ee, if_neg (by omega)] at hj'
    omega
theorem form_in {m : Mult} (h0 : Pl.wrong m = 0) (h : least m = 0) {l : Poly} (hl : l ∈ form m) {r : Ring} (hr : r ∈ l) {c : Pnt} (hc : c ∈ r) : inSet m (c, 1) = true := by
 have hg := good_of h0
 have hv := vr_of hg (least0 h).1
 have hv' := vr_of (good_of (form_wrong h0 h)) (least0 (form_least h0 h)).1
 obtain ⟨t, ht, e⟩ := mem_end (by have := (hv' l hl r hr).shut.len; omega) hc
 have hon := vert_on ht e
 obtain ⟨hlen, s, s1, s2, se⟩ := form_eqM hv
 obtain ⟨I, hI, rfl⟩ := pAt_in hl
 rw [hlen] at hI
 obtain ⟨o, ho, eo⟩ := (se I hI).at_ hr
 exact border_in hv (sem_of hg h) (pAt_mem (s1 I hI)) ho (by show (0 : Int) < 1; omega) (by rw [← eo.pl _ (by show (0 : Int) < 1; omega)]; exact hon)
theorem in_form {m : Mult} (h0 : Pl.wrong m = 0) (h : least m = 0) {l : Poly} (hl : l ∈ m) {r : Ring} (hr : r ∈ l) {c : Pnt} (hc : c ∈ r) : inSet (form m) (c, 1) = true := by
 have hg := good_of h0
 have hv := vr_of hg (least0 h).1
 have hg' := good_of (form_wrong h0 h)
 have h' := form_least h0 h
 have hv' := vr_of hg' (least0 h').1
 obtain ⟨t, ht, e⟩ := mem_end (by have := (hv l hl r hr).shut.len; omega) hc
 have hon := vert_on ht e
 obtain ⟨hlen, s, s1, s2, se⟩ := form_eqM hv
 obtain ⟨J, hJ, rfl⟩ := pAt_in hl
 obtain ⟨I, hI, rfl⟩ := inj_onto s1 s2 hJ
 obtain ⟨o, ho, eo⟩ := (se I hI).back hr
 exact border_in hv' (sem_of hg' h') (pAt_mem (by rw [hlen]; exact hI)) ho (by show (0 : Int) < 1; omega) (by rw [eo.pl _ (by show (0 : Int) < 1; omega)]; exact hon)
structure Orn (r : Ring) (b : Bool) : Prop where
 len : 4 ≤ r.length
 first : (0 < cr (ptAt r (per r - 1)) (ptAt r 0) (ptAt r 1) 1) ↔ b = true
 turn : ∀ i, i < per r → cr (ptAt r ((i + per r - 1) % per r)) (ptAt r i) (ptAt r (i + 1)) 1 ≠ 0
 least : ∀ i, i < per r → ¬ bef (ptAt r i) (ptAt r 0)
def AllT (r : Ring) : Prop := ∀ j, cr (Pr r (j + per r - 1)) (Pr r j) (Pr r (j + 1)) 1 ≠ 0
theorem cr_back3 (a b c : Pnt) : cr c b a 1 = - cr a b c 1 := by unfold cr; grind
theorem allT_of {r : Ring} (h : Shut r) (ht : ∀ i, 1 ≤ i → i < r.length → turns r i = true) : AllT r := by
 have h4 := h.len
 have e0 : per r = r.length - 1 := rfl
 intro j
 obtain ⟨i, hi1, hi2, hij⟩ : ∃ i, 1 ≤ i ∧ i ≤ per r ∧ i % per r = j % per r := by
  have hl := Nat.mod_lt j (show 0 < per r by omega)
  by_cases q : j % per r = 0
  ·exact ⟨per r, by omega, Nat.le_refl _, by rw [Nat.mod_self, q]⟩
  ·exact ⟨j % per r, by omega, by omega, Nat.mod_mod _ _⟩
 have t := ht i hi1 (by omega)
 unfold turns at t
 rw [decide_eq_true hi1, Bool.true_and] at t
 have t := of_decide_eq_true t
 have p1 : Pr r j = ptAt r i := by rw [← h.pr hi2]; unfold Pr; rw [hij]
 have p2 : Pr r (j + 1) = nextI r i := by
  unfold nextI
  by_cases q : i + 1 < r.length
  ·rw [if_pos q, ← h.pr (by omega)]
   unfold Pr
   rw [Nat.add_mod, ← hij, ← Nat.add_mod]
  ·rw [if_neg q]
   have : i = per r := by omega
   rw [this, Nat.mod_self] at hij
   have e1 : Pr r (j + 1) = Pr r 1 := by
    unfold Pr
    rw [Nat.add_mod, ← hij, Nat.zero_add, Nat.mod_mod]
   rw [e1, h.pr (by omega)]
 have p3 : Pr r (j + per r - 1) = ptAt r (i - 1) := by
  rw [← h.pr (by omega)]
  unfold Pr
  congr 1
  have a1 : (j + per r - 1 + 1) % per r = (i - 1 + 1) % per r := by
   rw [show j + per r - 1 + 1 = j + per r by omega, Nat.add_mod_right, show i - 1 + 1 = i by omega, hij]
  have h1 : (j + per r - 1 + 1 + (per r - 1)) % per r = (i - 1 + 1 + (per r - 1)) % per r := by rw [Nat.add_mod, a1, ← Nat.add_mod]
  rw [show j + per r - 1 + 1 + (per r - 1) = (j + per r - 1) + per r by omega, show i - 1 + 1 + (per r - 1) = (i - 1) + per r by omega, Nat.add_mod_right, Nat.add_mod_right] at h1
  exact h1
 rw [p1, p2, p3]
 intro q
 apply t
 unfold side at1
 simp only
 rw [q]; rfl
theorem allT_rot {r : Ring} (h : Shut r) (k : Nat) (t : AllT r) : AllT (rotR r k) := by
 have h4 := h.len
 have hp : 3 ≤ per r := by unfold per; omega
 intro j
 rw [rotR_per h, rotR_pr h, rotR_pr h, rotR_pr h]
 have := t (j + k)
 rwa [show j + k + per r - 1 = j + per r - 1 + k by omega, show j + k + 1 = j + 1 + k by omega] at this
theorem pr_rev {r : Ring} (h : Shut r) (j : Nat) : Pr r.reverse j = Pr r (per r - j % per r) := by
 have h4 := h.len
 have hp : 3 ≤ per r := by unfold per; omega
 have : Pr r.reverse j = Pr r.reverse (j % per r) := by
  unfold Pr; rw [rev_per, Nat.mod_mod]
 rw [this, rev_pr h (Nat.le_of_lt (Nat.mod_lt _ (by omega)))]
theorem allT_rev {r : Ring} (h : Shut r) (t : AllT r) : AllT r.reverse := by
 have h4 := h.len
 have hp : 3 ≤ per r := by unfold per; omega
 intro j
 rw [rev_per, pr_rev h, pr_rev h, pr_rev h]
 have hl := Nat.mod_lt j (show 0 < per r by omega)
 have T := t (per r - j % per r)
 rw [cr_back3] at T
 have T : cr (Pr r (per r - j % per r + 1)) (Pr r (per r - j % per r)) (Pr r (per r - j % per r + per r - 1)) 1 ≠ 0 := fun q => T (by rw [q]; rfl)
 have e1 : Pr r (per r - (j + per r - 1) % per r) = Pr r (per r - j % per r + 1) := by
  unfold Pr
  congr 1
  have a : (j + per r - 1) % per r = (j % per r + per r - 1) % per r := by
   rw [show j + per r - 1 = j + (per r - 1) by omega, show j % per r + per r - 1 = j % per r + (per r - 1) by omega, Nat.mod_add_mod]
  rw [a]
  by_cases q : j % per r = 0
  ·rw [q, Nat.zero_add, Nat.mod_eq_of_lt (by omega : per r - 1 < per r), show per r - (per r - 1) = 1 by omega, show per r - 0 + 1 = 1 + per r by omega, Nat.add_mod_right]
  ·rw [show j % per r + per r - 1 = (j % per r - 1) + per r by omega, Nat.add_mod_right, Nat.mod_eq_of_lt (show j % per r - 1 < per r by omega)]
   congr 1; omega
 have e2 : Pr r (per r - (j + 1) % per r) = Pr r (per r - j % per r + per r - 1) := by
  unfold Pr
  congr 1
  have a : (j + 1) % per r = (j % per r + 1) % per r := by rw [Nat.mod_add_mod]
  rw [a]
  by_cases q : j % per r + 1 = per r
  ·rw [q, Nat.mod_self, Nat.sub_zero, Nat.mod_self, show per r - j % per r + per r - 1 = per r by omega, Nat.mod_self]
  ·rw [Nat.mod_eq_of_lt (show j % per r + 1 < per r by omega), show per r - j % per r + per r - 1 = (per r - (j % per r + 1)) + per r by omega, Nat.add_mod_right]
 rw [e1, e2]
 exact T
theorem VR.form_allT {r : Ring} (h : VR r) (b : Bool) : AllT (ringForm r b) := by
 have h4 := h.shut.len
 have hp : 3 ≤ per r := by unfold per; omega
 have h3 := h.cU_three
 obtain ⟨c, hc⟩ : ∃ c, c ∈ cornersU r := by
  cases hq : cornersU r with
  | nil => rw [hq] at h3; simp at h3
  | cons c t => exact ⟨c, by simp⟩
 obtain ⟨j, hj, rfl⟩ : ∃ j, j < per r ∧ Pr r j = c := by
  rw [h.shut.cornersU_eq] at hc
  obtain ⟨j, hj, e⟩ := List.mem_map.1 hc
  exact ⟨j, List.mem_range.1 (List.mem_filter.1 hj).1, e⟩
 have v0 := (rv_eqv h (rot_rv h.shut j) (rotR_shut h.shut j)).v'
 have hc0 : ptAt (rotR r j) 0 ∈ corners (rotR r j) := by
  rw [rotR_at h.shut j (by omega), Nat.zero_add]
  obtain ⟨M, E, f1, f2⟩ := cornersU_rot h.shut (k := j) (by omega)
  obtain ⟨M0, E0, g1, g2⟩ := v0.corners_split
  rw [f1] at hc
  have : Pr r j ∈ cornersU (rotR r j) := by rw [f2]; simp only [List.mem_append] at hc ⊢; exact hc.symm
  rw [g2] at this
  rw [g1]
  simp only [List.mem_append] at this ⊢; exact this.symm
 obtain ⟨r', m', v', t'⟩ := thin _ _ (Nat.le_refl _) v0 hc0
 have f1 : ringForm r b = ringForm r' b := by rw [← form_rot h (k := j) (by omega) b, m'.form v'.shut b]
 obtain ⟨k, hk, hf⟩ := full_form v' t' b
 have a := allT_rot v'.shut k (allT_of v'.shut t')
 rw [f1]
 rcases hf with e | e
 ·rw [e]; exact a
 ·rw [e]; exact allT_rev (rotR_shut v'.shut k) a
theorem VR.orn {r : Ring} (h : VR r) (b : Bool) : Orn (ringForm r b) b := by
  obtain ⟨eq, -⟩ := h.form_eqv b
  have s := eq.v'.shut
  have h4 := s.len
  have h3 := h.corners_three
  have hL := ringForm_len (r := r) (by omega) b
  have hper : per (ringForm r b) = (corners r).length := by unfold per; omega
  have at_ : ∀ i, i ≤ (corners r).length → ptAt (ringForm r b) i = ptAt (corners r) ((leastI (corners r) + i * stepI (corners r) b) % (corners r).length) := fun i hi => ringForm_at (by omega) b (by omega)
  have T := h.form_allT b
  have hl : leastI (corners r) < (corners r).length := leastI_in (fun e => by rw [e] at h3; simp at h3)
  have p0 : ptAt (ringForm r b) 0 = ptAt (corners r) (leastI (corners r)) := by rw [at_ 0 (by omega), Nat.zero_mul, Nat.add_zero, Nat.mod_eq_of_lt hl]
  have turn : ∀ i, i < per (ringForm r b) → cr (ptAt (ringForm r b) ((i + per (ringForm r b) - 1) % per (ringForm r b))) (ptAt (ringForm r b) i) (ptAt (ringForm r b) (i + 1)) 1 ≠ 0 := by
    intro i hi
    have := T i
    rw [s.pr (i := i) (by omega), s.pr (i := i + 1) (by omega)] at this
    exact this
  refine ⟨h4, ?_, turn, ?_⟩
  · have t0 := turn 0 (by omega)
    rw [Nat.zero_add, Nat.mod_eq_of_lt (show per (ringForm r b) - 1 < per (ringForm r b) by omega)] at t0
    have p1 := at_ 1 (by omega)
    have pn := at_ (per (ringForm r b) - 1) (by omega)
    rw [Nat.zero_add] at t0
    rw [p0, p1, pn] at t0 ⊢
    rw [Nat.one_mul] at t0 ⊢
    rw [hper] at t0 ⊢
    generalize hc : corners r = c at *
    generalize hLL : leastI c = L at *
    have side_cr : ∀ a b d : Pnt, side (a, b) (at1 d) = sg (cr a b d 1) := fun a b d => rfl
    by_cases q : lefts c L = b
    · have es : stepI c b = 1 := by unfold stepI; rw [hLL, if_pos q]
      rw [es, Nat.mul_one] at t0 ⊢
      rw [show L + (c.length - 1) = L + c.length - 1 by omega] at t0 ⊢
      unfold lefts at q
      rw [side_cr] at q
      have sp := sg_p (cr (ptAt c ((L + c.length - 1) % c.length)) (ptAt c L) (ptAt c ((L + 1) % c.length)) 1)
      rw [← q, decide_eq_true_eq, sp]
    · have es : stepI c b = c.length - 1 := by unfold stepI; rw [hLL, if_neg q]
      rw [es] at t0 ⊢
      have x1 : (L + (c.length - 1)) % c.length = (L + c.length - 1) % c.length := by congr 1; omega
      have x2 : (L + (c.length - 1) * (c.length - 1)) % c.length = (L + 1) % c.length := by
        obtain ⟨n, hn⟩ : ∃ n, c.length = n + 2 := ⟨c.length - 2, by omega⟩
        rw [hn, show n + 2 - 1 = n + 1 by omega]
        have : L + (n + 1) * (n + 1) = (L + 1) + n * (n + 2) := by grind
        rw [this, Nat.add_mul_mod_self_right]
      rw [x1, x2] at t0 ⊢
      unfold lefts at q
      rw [side_cr] at q
      rw [cr_back3] at t0 ⊢
      have sp := sg_p (cr (ptAt c ((L + c.length - 1) % c.length)) (ptAt c L) (ptAt c ((L + 1) % c.length)) 1)
      generalize cr (ptAt c ((L + c.length - 1) % c.length)) (ptAt c L) (ptAt c ((L + 1) % c.length)) 1 = z at *
      cases b with
      | true =>
        have : ¬ (0 < sg z) := fun g => q (decide_eq_true g)
        constructor
        · intro _; rfl
        · intro _; omega
      | false =>
        have : 0 < sg z := Classical.byContradiction fun g => q (decide_eq_false g)
        constructor
        · intro g; omega
        · intro g; cases g
  · intro i hi
    rw [p0, at_ i (by omega)]
    exact leastI_min (List.mem_of_getElem? (ptAt_get (Nat.mod_lt _ (by omega))))
end Vd
end Go.Proofs.YtcclepohmhdpbabGreatDoor
