import Derived.Test.YtcclepohmhdpbabGreatDoorGiA
import Derived.Test.YtcclepohmhdpbabGreatDoorVdI
namespace Go.Proofs.YtcclepohmhdpbabGreatDoor
set_option linter.all false
namespace Vd
def evF (f : Pnt → Bool) (S : List Seg) : Bool := S.foldr (fun s b => (f s.1 ^^ f s.2) ^^ b) false
def Ev (S : List Seg) : Prop := ∀ f : Pnt → Bool, evF f S = false
theorem evF_cons (f : Pnt → Bool) (s : Seg) (S : List Seg) : evF f (s :: S) = ((f s.1 ^^ f s.2) ^^ evF f S) := rfl
theorem evF_chain (f : Pnt → Bool) : ∀ (t : Ring) (a : Pnt), evF f (segs (a :: t)) = (f a ^^ f ((a :: t).getLast (by simp))) := by
  intro t
  induction t with
  | nil => intro a; simp [segs_one, evF]
  | cons b t ih =>
    intro a
    have k := ih b
    rw [segs_cons2, evF_cons, List.getLast_cons (by simp), k]
    simp only
    clear k ih
    generalize f a = x
    generalize f b = y
    generalize f ((b :: t).getLast (by simp)) = z
    cases x <;> cases y <;> cases z <;> rfl
theorem ev_ring {r : Ring} (h : Ends r) : Ev (segs r) := by
  intro f
  cases r with
  | nil => rfl
  | cons a t =>
    rw [evF_chain]
    have e : (a :: t).getLast (by simp) = a := by
      have := h
      unfold Ends at this
      rw [List.getLast?_eq_some_getLast (by simp)] at this
      simpa using this.symm
    rw [e]; simp
theorem xor_perm {α : Type} (f : α → Bool) {S T : List α} (h : S.Perm T) : S.foldr (fun s b => f s ^^ b) false = T.foldr (fun s b => f s ^^ b) false := by
 induction h with
 | nil => rfl
 | cons x _ ih => simp only [List.foldr_cons, ih]
 | swap x y l => simp only [List.foldr_cons]; generalize f x = a; generalize f y = b; generalize l.foldr (fun s b => f s ^^ b) false = c; cases a <;> cases b <;> cases c <;> rfl
 | trans _ _ h1 h2 => exact h1.trans h2
theorem ev_perm {S T : List Seg} (h : S.Perm T) (k : Ev S) : Ev T := fun f => by
 have := xor_perm (fun s : Seg => f s.1 ^^ f s.2) h
 have e := k f
 unfold evF at *
 rw [← this]; exact e
theorem rays_perm {S T : List Seg} (h : S.Perm T) (p : Spot) : raysS S p = raysS T p := xor_perm (fun s : Seg => ray s.1 s.2 p.1 p.2) h
theorem rays_evF (p q : Pnt) : ∀ S : List Seg, (∀ s ∈ S, Off p q s.1 s.2) → (raysS S (p, 1) ^^ raysS S (q, 1)) = (xsL S p q ^^ evF (dRs p q) S) := by
  intro S
  induction S with
  | nil => intro _; rfl
  | cons s S ih =>
    intro h
    have h1 := h s (by simp)
    have k := ih fun s hs => h s (by simp [hs])
    have e := edge_any h1.ha h1.hb h1.hp h1.hq
    rw [raysS_cons, raysS_cons, xsL_cons, evF_cons]
    simp only at e ⊢
    revert e k
    generalize ray s.1 s.2 p 1 = x1
    generalize ray s.1 s.2 q 1 = x2
    generalize raysS S (p, 1) = x3
    generalize raysS S (q, 1) = x4
    generalize xsL S p q = x5
    generalize decide (Xs p q s.1 s.2) = x6
    generalize dRs p q s.1 = x7
    generalize dRs p q s.2 = x8
    generalize evF (dRs p q) S = x9
    revert x1 x2 x3 x4 x5 x6 x7 x8 x9
    decide
theorem rays_ev {S : List Seg} (hS : Ev S) {p q : Pnt} (h : ∀ s ∈ S, Off p q s.1 s.2) : (raysS S (p, 1) ^^ raysS S (q, 1)) = xsL S p q := by
 rw [rays_evF p q S h, hS]; simp
theorem dxor {P Q R : Prop} [Decidable P] [Decidable Q] [Decidable R] (h : P ↔ ¬ (Q ↔ R)) : decide P = (decide Q ^^ decide R) := by
 by_cases p : P <;> by_cases q : Q <;> by_cases r : R <;> simp_all
theorem ins_parts {a b z : Pnt} (hab : a ≠ b) (h : Ins a b z) (p : Pnt) : kk a b * cr a z p 1 = pos a b z * cr a b p 1 ∧ kk a b * cr z b p 1 = (kk a b - pos a b z) * cr a b p 1 := by
 have h0 := h.on.1
 have h1 := cr_dir (a := a) (b := b) (p := a) (q := z) (cr_a a b) h0 p
 have h2 := cr_dir (a := a) (b := b) (p := z) (q := b) h0 (cr_b a b) p
 rw [pos_a] at h1
 rw [pos_b] at h2
 exact ⟨by rw [h1]; grind, h2⟩
theorem ray_cut {a b z p : Pnt} (hab : a ≠ b) (h : Ins a b z) (hp : ¬ has a b p 1) : ray a b p 1 = (ray a z p 1 ^^ ray z b p 1) := by
 obtain ⟨e1, e2⟩ := ins_parts hab h p
 obtain ⟨q1, q2⟩ := ins_pos hab h
 have hk : 0 < kk a b := by omega
 have s1 : (0 < cr a z p 1 ↔ 0 < cr a b p 1) ∧ (cr a z p 1 < 0 ↔ cr a b p 1 < 0) := by
  have k1 := sgn_of hk e1
  have k2 := sgn_of q1 (rfl : pos a b z * cr a b p 1 = _)
  exact ⟨k1.1.trans k2.1.symm, k1.2.1.trans k2.2.1.symm⟩
 have s2 : (0 < cr z b p 1 ↔ 0 < cr a b p 1) ∧ (cr z b p 1 < 0 ↔ cr a b p 1 < 0) := by
  have k1 := sgn_of hk e2
  have k2 := sgn_of (show 0 < kk a b - pos a b z by omega) (rfl : (kk a b - pos a b z) * cr a b p 1 = _)
  exact ⟨k1.1.trans k2.1.symm, k1.2.1.trans k2.2.1.symm⟩
 have y := ins_y hab h
 rw [ray_one, ray_one, ray_one]
 have g1 : (0 < cr a z p 1) = (0 < cr a b p 1) := propext s1.1
 have g2 : (cr a z p 1 < 0) = (cr a b p 1 < 0) := propext s1.2
 have g3 : (0 < cr z b p 1) = (0 < cr a b p 1) := propext s2.1
 have g4 : (cr z b p 1 < 0) = (cr a b p 1 < 0) := propext s2.2
 simp only [g1, g2, g3, g4]
 generalize cr a b p 1 = c
 apply dxor
 omega
theorem has_cut {a b z p : Pnt} (hab : a ≠ b) (h : Ins a b z) : (has a z p 1 ∨ has z b p 1) → has a b p 1 := by
 rintro (k | k)
 ·have h0 := has_dir hab (fun e => h.na e.symm) (cr_a a b) h.on.1 k
  have := ins_pos hab h
  rw [pos_a] at h0
  exact has_pos hab h0.1 (by have := h0.2; unfold btw at this; omega) (by have := h0.2; unfold btw at this; omega)
 ·have h0 := has_dir hab h.nb h.on.1 (cr_b a b) k
  have := ins_pos hab h
  rw [pos_b] at h0
  exact has_pos hab h0.1 (by have := h0.2; unfold btw at this; omega) (by have := h0.2; unfold btw at this; omega)
theorem has_of_pos {a b p q c : Pnt} (hab : a ≠ b) (hp : cr a b p 1 = 0) (hq : cr a b q 1 = 0) (hc : cr a b c 1 = 0) (h1 : pos a b p ≤ pos a b c) (h2 : pos a b c ≤ pos a b q) : has p q c 1 := by
 have hk := kk_pos hab
 have e := cr_dir hp hq c
 obtain ⟨l1, l2⟩ := dir_lin hp hc
 obtain ⟨m1, m2⟩ := dir_lin hc hq
 rw [hc, Int.mul_zero] at e
 have bt : ∀ {P C Q d : Int}, kk a b * (C - P) = (pos a b c - pos a b p) * d → kk a b * (Q - C) = (pos a b q - pos a b c) * d → btw (P * 1) C (Q * 1) := by
  intro P C Q d f1 f2
  rw [Int.mul_one, Int.mul_one]
  have g1 := sgn_of hk f1
  have g2 := sgn_of hk f2
  unfold btw
  rcases Int.le_total 0 d with hd | hd
  ·have k1 := p0 (show 0 ≤ pos a b c - pos a b p by omega) hd
   have k2 := p0 (show 0 ≤ pos a b q - pos a b c by omega) hd
   left; omega
  ·have k1 := m0 (show 0 ≤ pos a b c - pos a b p by omega) hd
   have k2 := m0 (show 0 ≤ pos a b q - pos a b c by omega) hd
   right; omega
 refine ⟨?_, bt l1 m1, bt l2 m2⟩
 rcases Int.mul_eq_zero.1 e with g | g
 ·omega
 ·exact g
theorem cut_has2 {a b z p : Pnt} (hab : a ≠ b) (h : Ins a b z) (hp : has a b p 1) : has a z p 1 ∨ has z b p 1 := by
 obtain ⟨h1, h2⟩ := pos_le hab hp
 rcases Int.le_total (pos a b p) (pos a b z) with g | g
 ·left; exact has_of_pos hab (cr_a a b) h.on.1 hp.1 (by rw [pos_a]; exact h1) g
 ·right; exact has_of_pos hab h.on.1 (cr_b a b) hp.1 g (by rw [pos_b]; exact h2)
def wy (z y : Pnt) : Pnt := (y.1 - z.1, y.2 - z.2)
theorem wy_ne {z y : Pnt} (h : y ≠ z) : wy z y ≠ (0, 0) := fun e => h (Prod.ext (by have := congrArg Prod.fst e; simp only [wy] at this; omega) (by have := congrArg Prod.snd e; simp only [wy] at this; omega))
structure Spl (r : Ring) (z y x : Pnt) (O : List Seg) : Prop where
 sp : (segs r).Perm ((y, z) :: (z, x) :: O) ∨ ((segs r).Perm ((y, x) :: O) ∧ Ins y x z)
 ny : y ≠ z
 nx : x ≠ z
 nb : ¬ Par (wy z y) (wy z x)
 off : ∀ s ∈ O, ¬ has s.1 s.2 z 1
theorem ins_ne {a b z : Pnt} (h : Ins a b z) : a ≠ b := fun e => by
 subst e
 have h1 := h.on.2.1; have h2 := h.on.2.2
 unfold btw at h1 h2
 exact h.na (Prod.ext (by omega) (by omega))
theorem Spl.ev {r : Ring} {z y x : Pnt} {O : List Seg} (h : Spl r z y x O) (he : Ends r) : Ev ((y, z) :: (z, x) :: O) := by
 rcases h.sp with k | ⟨k, -⟩
 ·exact ev_perm k (ev_ring he)
 ·intro f
  have e := ev_perm k (ev_ring he) f
  rw [evF_cons] at e
  rw [evF_cons, evF_cons]
  simp only at e ⊢
  revert e
  generalize f y = a
  generalize f x = b
  generalize f z = c
  generalize evF f O = d
  revert a b c d
  decide
theorem Spl.free {r : Ring} {z y x : Pnt} {O : List Seg} (h : Spl r z y x O) {p : Pnt} (hp : ∀ s ∈ (y, z) :: (z, x) :: O, ¬ has s.1 s.2 p 1) : ∀ s ∈ segs r, ¬ has s.1 s.2 p 1 := by
 intro s hs
 rcases h.sp with k | ⟨k, hi⟩
 ·exact hp s (k.mem_iff.1 hs)
 ·rcases List.mem_cons.1 (k.mem_iff.1 hs) with rfl | hs
  ·intro q
   rcases cut_has2 (ins_ne hi) hi q with q | q
   ·exact hp (y, z) (by simp) q
   ·exact hp (z, x) (by simp) q
  ·exact hp s (by simp [hs])
theorem Spl.rays {r : Ring} {z y x : Pnt} {O : List Seg} (h : Spl r z y x O) {p : Pnt} (hp : ∀ s ∈ segs r, ¬ has s.1 s.2 p 1) : raysS (segs r) (p, 1) = raysS ((y, z) :: (z, x) :: O) (p, 1) := by
 rcases h.sp with k | ⟨k, hi⟩
 ·exact rays_perm k _
 ·rw [rays_perm k, raysS_cons, raysS_cons, raysS_cons]
  have := ray_cut (ins_ne hi) hi (hp (y, x) (k.mem_iff.2 (by simp)))
  simp only at this ⊢
  rw [this, Bool.xor_assoc]
theorem wy_sc (k : Int) (z y : Pnt) : wy (sc k z) (sc k y) = sc k (wy z y) := by unfold wy sc; simp only; rw [Int.mul_sub, Int.mul_sub]
theorem par_sc {k : Int} (hk : 0 < k) {u v : Pnt} : Par (sc k u) (sc k v) ↔ Par u v := by
 have e1 : xx (sc k u) (sc k v) = k * k * xx u v := by unfold xx sc; grind
 have e2 : dd (sc k u) (sc k v) = k * k * dd u v := by unfold dd sc; grind
 have hkk := pp hk hk
 unfold Par
 rw [e1, e2]
 have s2 := sgn_of hkk (rfl : k * k * dd u v = _)
 have s1 := sgn_of hkk (rfl : k * k * xx u v = _)
 rw [← s1.2.2, ← s2.1]
theorem Spl.scl {r : Ring} {z y x : Pnt} {O : List Seg} (h : Spl r z y x O) {k : Int} (hk : 0 < k) : Spl (scR k r) (Vd.sc k z) (Vd.sc k y) (Vd.sc k x) (O.map (scS k)) := by
 refine ⟨?_, fun e => h.ny ((sc_inj hk).1 e), fun e => h.nx ((sc_inj hk).1 e), ?_, ?_⟩
 ·rw [segs_sc]
  rcases h.sp with g | ⟨g, hi⟩
  ·exact .inl (g.map _)
  ·exact .inr ⟨g.map _, (has_sc1 hk _ _ _).2 hi.on, fun e => hi.na ((sc_inj hk).1 e), fun e => hi.nb ((sc_inj hk).1 e)⟩
 ·rw [wy_sc, wy_sc, par_sc hk]; exact h.nb
 ·intro s hs
  obtain ⟨t, ht, rfl⟩ := List.mem_map.1 hs
  exact fun q => h.off t ht ((has_sc1 hk _ _ _).1 q)
theorem cr_uw (k : Int) (z u w : Pnt) : cr (nrP k z u) (nrP k z w) (sc k z) 1 = xx u w := by unfold cr nrP sc xx; grind
theorem cr_uwy (k : Int) (z u w y : Pnt) : cr (nrP k z u) (nrP k z w) (sc k y) 1 = k * (xx w (wy z y) - xx u (wy z y)) + xx u w := by unfold cr nrP sc xx wy; grind
theorem cr_br (k : Int) (z u y : Pnt) : cr (sc k y) (sc k z) (nrP k z u) 1 = k * xx u (wy z y) := by unfold cr nrP sc xx wy; grind
theorem br_off {z y u : Pnt} (hy : y ≠ z) (hu : u ≠ (0, 0)) (hn : ¬ Par u (wy z y)) {k : Int} (hk : 0 < k) : ¬ has (sc k y) (sc k z) (nrP k z u) 1 := by
 intro h
 have h0 := h.1
 rw [cr_br] at h0
 have hx : xx u (wy z y) = 0 := by rcases Int.mul_eq_zero.1 h0 with g | g; omega; exact g
 have hd := anti_dd hu (wy_ne hy) hx hn
 have b1 := h.2.1
 have b2 := h.2.2
 unfold nrP sc btw at b1 b2
 simp only [Int.mul_one] at b1 b2
 have f : ∀ {t v : Int}, (k * (v) ≤ t ∧ t ≤ 0) ∨ (0 ≤ t ∧ t ≤ k * v) → 0 ≤ t * v := by
  intro t v h
  rcases Int.lt_trichotomy v 0 with g | g | g
  ·have := pn hk g
   exact q0 (by omega) (by omega)
  ·subst g; simp
  ·have := pp hk g
   exact p0 (by omega) (by omega)
 have e1 : k * (y.1 - z.1) = k * y.1 - k * z.1 := by grind
 have e2 : k * (y.2 - z.2) = k * y.2 - k * z.2 := by grind
 have c1 := f (t := u.1) (v := y.1 - z.1) (by rw [e1]; omega)
 have c2 := f (t := u.2) (v := y.2 - z.2) (by rw [e2]; omega)
 unfold dd wy at hd
 simp only at hd
 omega
theorem xs_ends {p q a b : Pnt} : Xs p q b a ↔ Xs p q a b := by
 unfold Xs
 rw [cr_swap a b p 1, cr_swap a b q 1, opp_neg, opp_symm (A := cr p q b 1)]
theorem xs_br {z y u w : Pnt} {k : Int} (hk : 0 < k) (hb : -k < xx u w ∧ xx u w < k) : Xs (nrP k z u) (nrP k z w) (sc k y) (sc k z) ↔ Bt u w (wy z y) := by
 unfold Xs Bt
 rw [cr_uw, cr_uwy, cr_br, cr_br]
 generalize xx u (wy z y) = p
 generalize xx w (wy z y) = q
 generalize xx u w = o at *
 have sp := sgn_of hk (rfl : k * p = _)
 have sq := sgn_of hk (rfl : k * q = _)
 unfold Opp
 have e : k * (q - p) = k * q - k * p := by grind
 rw [e]
 have d1 : p < 0 → 0 < q → k * q - k * p ≥ k + k := by
  intro h1 h2
  have a1 := k_step hk h1; have a2 := k_step hk h2
  rw [Int.mul_zero] at a1 a2; omega
 have d2 : 0 < p → q < 0 → k * q - k * p ≤ -(k + k) := by
  intro h1 h2
  have a1 := k_step hk h1; have a2 := k_step hk h2
  rw [Int.mul_zero] at a1 a2; omega
 omega
def OffR (r : Ring) (p : Spot) : Prop := ∀ s ∈ segs r, ¬ has s.1 s.2 p.1 p.2
def inn (r : Ring) (p : Spot) : Bool := raysS (segs r) p
theorem offR_place {r : Ring} {p : Spot} (h : OffR r p) : place r p = if inn r p = true then 2 else 0 := place_rays h
theorem offR_sc {k : Int} (hk : 0 < k) {r : Ring} {p : Pnt} (h : ∀ s ∈ segs (scR k r), ¬ has s.1 s.2 p 1) : OffR r (p, k) := by
 intro s hs q
 have := h (scS k s) (by rw [segs_sc]; exact List.mem_map_of_mem hs)
 exact this ((has_sc hk s.1 s.2 p 1).2 (by rw [Int.mul_one]; exact q))
theorem inn_sc {k : Int} (hk : 0 < k) (r : Ring) (p : Pnt) : inn r (p, k) = raysS (segs (scR k r)) (p, 1) := by
 unfold inn
 rw [segs_sc, raysS_sc hk, Int.mul_one]
theorem Spl.near0 {r : Ring} {z y x : Pnt} {O : List Seg} (h : Spl r z y x O) (he : Ends r) {u w : Pnt} (hf : Four (wy z y) (wy z x) u w) (hx : xx u w ≠ 0) :
  ∃ K : Int, 2 ≤ K ∧ ∀ k, K ≤ k → OffR r (nrP k z u, k) ∧ OffR r (nrP k z w, k) ∧ (inn r (nrP k z u, k) ^^ inn r (nrP k z w, k)) = (decide (Lt (wy z y) (wy z x) u) ^^ decide (Lt (wy z y) (wy z x) w)) := by
 obtain ⟨K, hK, hbig⟩ := ex_big (fun s => big s u w) ((y, z) :: O)
 refine ⟨K + (xx u w).natAbs + 1, by omega, fun k hk => ?_⟩
 have hk0 : 0 < k := by omega
 have hb : -k < xx u w ∧ xx u w < k := by omega
 obtain ⟨-, u1, u2, w1, w2, -, -⟩ := big_bd (g := (y, z)) (u := u) (v := w) (k := k) (by have := hbig (y, z) (by simp); omega)
 have hs := h.scl hk0
 have hO : ∀ s ∈ O.map (scS k), Off (nrP k z u) (nrP k z w) s.1 s.2 ∧ ¬ Xs (nrP k z u) (nrP k z w) s.1 s.2 := by
  intro s hs
  obtain ⟨t, ht, rfl⟩ := List.mem_map.1 hs
  exact near_off (h.off t ht) (by have := hbig t (by simp [ht]); omega)
 have nz : ¬ has (nrP k z u) (nrP k z w) (sc k z) 1 := fun q => hx (by have := q.1; rwa [cr_uw] at this)
 have o1 : Off (nrP k z u) (nrP k z w) (sc k y) (sc k z) := ⟨near_vert hk0 u1 u2 w1 w2 h.ny, nz, br_off h.ny hf.nu hf.u1 hk0, br_off h.ny hf.nw hf.w1 hk0⟩
 have o2 : Off (nrP k z u) (nrP k z w) (sc k z) (sc k x) := ⟨nz, near_vert hk0 u1 u2 w1 w2 h.nx, fun q => br_off h.nx hf.nu hf.u2 hk0 (has_swap.1 q), fun q => br_off h.nx hf.nw hf.w2 hk0 (has_swap.1 q)⟩
 have hoff : ∀ s ∈ (sc k y, sc k z) :: (sc k z, sc k x) :: O.map (scS k), Off (nrP k z u) (nrP k z w) s.1 s.2 := by
  intro s hs
  rcases List.mem_cons.1 hs with rfl | hs
  ·exact o1
  ·rcases List.mem_cons.1 hs with rfl | hs
   ·exact o2
   ·exact (hO s hs).1
 have f1 := hs.free (p := nrP k z u) fun s hs => (hoff s hs).hp
 have f2 := hs.free (p := nrP k z w) fun s hs => (hoff s hs).hq
 refine ⟨offR_sc hk0 f1, offR_sc hk0 f2, ?_⟩
 rw [inn_sc hk0, inn_sc hk0, hs.rays f1, hs.rays f2, rays_ev (hs.ev (ends_sc he)) hoff, xsL_cons, xsL_cons, xsL_none fun s hs => (hO s hs).2]
 simp only
 rw [← left_bt hf hx]
 have b1 := xs_br (z := z) (y := y) (u := u) (w := w) hk0 hb
 have b2 := (xs_ends (p := nrP k z u) (q := nrP k z w) (a := sc k x) (b := sc k z)).trans (xs_br (z := z) (y := x) (u := u) (w := w) hk0 hb)
 have c1 : decide (Xs (nrP k z u) (nrP k z w) (sc k y) (sc k z)) = decide (Bt u w (wy z y)) := decide_eq_decide.2 b1
 have c2 : decide (Xs (nrP k z u) (nrP k z w) (sc k z) (sc k x)) = decide (Bt u w (wy z x)) := decide_eq_decide.2 b2
 rw [c1, c2]
 simp
theorem ex_way {u a b : Pnt} (hu : u ≠ (0, 0)) : ∃ v : Pnt, xx u v ≠ 0 ∧ ¬ Par v a ∧ ¬ Par v b := by
 have hd := dd_pos hu
 have c : ∀ t : Int, xx u (t * u.1 - u.2, t * u.2 + u.1) = dd u u := fun t => by unfold xx dd; grind
 have one : ∀ {s t : Int} {e : Pnt}, s ≠ t → Par (s * u.1 - u.2, s * u.2 + u.1) e → Par (t * u.1 - u.2, t * u.2 + u.1) e → False := by
  intro s t e hst h1 h2
  have k1 := h1.1; have k2 := h2.1; have k3 := h1.2
  have e1 : (s - t) * (dd u e) = dd (s * u.1 - u.2, s * u.2 + u.1) e - dd (t * u.1 - u.2, t * u.2 + u.1) e := by unfold dd; grind
  have e2 : (s - t) * (xx u e) = xx (s * u.1 - u.2, s * u.2 + u.1) e - xx (t * u.1 - u.2, t * u.2 + u.1) e := by unfold xx; grind
  rw [k1, k2] at e2
  have hz : xx u e = 0 := by
   rcases Int.mul_eq_zero.1 (e2.trans (by rfl)) with g | g
   ·omega
   ·exact g
  have e3 : xx (s * u.1 - u.2, s * u.2 + u.1) e = s * xx u e - dd u e := by unfold xx dd; grind
  rw [hz, Int.mul_zero, k1] at e3
  have hde : dd u e = 0 := by omega
  have e4 : dd u u * dd e e = dd u e * dd u e + xx u e * xx u e := by unfold dd xx; grind
  rw [hde, hz] at e4
  have hee : e ≠ (0, 0) := fun q => by rw [q] at k3; unfold dd at k3; simp at k3
  have := pp hd (dd_pos hee)
  omega
 have nz : ∀ t : Int, xx u (t * u.1 - u.2, t * u.2 + u.1) ≠ 0 := fun t => by rw [c]; omega
 by_cases g0 : Par (0 * u.1 - u.2, 0 * u.2 + u.1) a ∨ Par (0 * u.1 - u.2, 0 * u.2 + u.1) b
 ·by_cases g1 : Par (1 * u.1 - u.2, 1 * u.2 + u.1) a ∨ Par (1 * u.1 - u.2, 1 * u.2 + u.1) b
  ·refine ⟨(2 * u.1 - u.2, 2 * u.2 + u.1), nz 2, ?_, ?_⟩
   ·intro q
    rcases g0 with g0 | g0
    ·exact one (by decide) g0 q
    ·rcases g1 with g1 | g1
     ·exact one (by decide) g1 q
     ·exact one (by decide) g0 g1
   ·intro q
    rcases g0 with g0 | g0
    ·rcases g1 with g1 | g1
     ·exact one (by decide) g0 g1
     ·exact one (by decide) g1 q
    ·exact one (by decide) g0 q
  ·exact ⟨_, nz 1, fun q => g1 (.inl q), fun q => g1 (.inr q)⟩
 ·exact ⟨_, nz 0, fun q => g0 (.inl q), fun q => g0 (.inr q)⟩
theorem xx_line {u v w : Pnt} (hu : u ≠ (0, 0)) (hw : w ≠ (0, 0)) (h0 : xx u w = 0) (h : xx u v ≠ 0) : xx v w ≠ 0 := by
 intro k
 have e : dd u u * xx v w = dd u w * xx v u + xx u w * dd v u := by unfold dd xx; grind
 rw [h0, k] at e
 have e2 : dd u u * dd w w = dd u w * dd u w + xx u w * xx u w := by unfold dd xx; grind
 rw [h0] at e2
 have hp := pp (dd_pos hu) (dd_pos hw)
 have hv : xx v u ≠ 0 := fun q => h (by rw [xx_swap, q]; rfl)
 have : dd u w = 0 ∨ xx v u = 0 := Int.mul_eq_zero.1 (by omega)
 rcases this with g | g
 ·rw [g] at e2; omega
 ·exact hv g
theorem Spl.near {r : Ring} {z y x : Pnt} {O : List Seg} (h : Spl r z y x O) (he : Ends r) {u w : Pnt} (hf : Four (wy z y) (wy z x) u w) :
  ∃ K : Int, 2 ≤ K ∧ ∀ k, K ≤ k → OffR r (nrP k z u, k) ∧ OffR r (nrP k z w, k) ∧ (inn r (nrP k z u, k) ^^ inn r (nrP k z w, k)) = (decide (Lt (wy z y) (wy z x) u) ^^ decide (Lt (wy z y) (wy z x) w)) := by
 by_cases hx : xx u w = 0
 ·obtain ⟨v, v0, v1, v2⟩ := ex_way (u := u) (a := wy z y) (b := wy z x) hf.nu
  have nv : v ≠ (0, 0) := fun q => v0 (by rw [q]; unfold xx; simp)
  obtain ⟨K1, a1, b1⟩ := h.near0 he (u := u) (w := v) ⟨hf.n1, hf.n2, hf.nu, nv, hf.aa, hf.u1, hf.u2, v1, v2⟩ v0
  obtain ⟨K2, a2, b2⟩ := h.near0 he (u := v) (w := w) ⟨hf.n1, hf.n2, nv, hf.nw, hf.aa, v1, v2, hf.w1, hf.w2⟩ (xx_line hf.nu hf.nw hx v0)
  refine ⟨K1 + K2, by omega, fun k hk => ?_⟩
  obtain ⟨c1, c2, c3⟩ := b1 k (by omega)
  obtain ⟨d1, d2, d3⟩ := b2 k (by omega)
  refine ⟨c1, d2, ?_⟩
  revert c3 d3
  generalize inn r (nrP k z u, k) = x1
  generalize inn r (nrP k z v, k) = x2
  generalize inn r (nrP k z w, k) = x3
  generalize decide (Lt (wy z y) (wy z x) u) = x4
  generalize decide (Lt (wy z y) (wy z x) v) = x5
  generalize decide (Lt (wy z y) (wy z x) w) = x6
  revert x1 x2 x3 x4 x5 x6
  decide
 ·exact h.near0 he hf hx
theorem ins_nb {a b z : Pnt} (h : Ins a b z) : ¬ Par (wy z a) (wy z b) := by
 intro k
 have h1 := h.on.2.1; have h2 := h.on.2.2
 unfold btw at h1 h2
 have f : ∀ {p q t : Int}, (p * 1 ≤ t ∧ t ≤ q * 1) ∨ (q * 1 ≤ t ∧ t ≤ p * 1) → (p - t) * (q - t) ≤ 0 := by
  intro p q t h
  rcases h with h | h
  ·exact n0 (by omega) (by omega)
  ·exact m0 (by omega) (by omega)
 have e1 := f h1; have e2 := f h2
 have := k.2
 unfold dd wy at this
 simp only at this
 omega
theorem corner_nb {a b c : Pnt} (h : cr a b c 1 ≠ 0 ∨ has a c b 1) : ¬ Par (wy b a) (wy b c) := by
 intro k
 rcases h with h | h
 ·apply h
  have := k.1
  unfold xx wy at this
  unfold cr
  grind
 ·have h1 := h.2.1; have h2 := h.2.2
  unfold btw at h1 h2
  have f : ∀ {p q t : Int}, (p * 1 ≤ t ∧ t ≤ q * 1) ∨ (q * 1 ≤ t ∧ t ≤ p * 1) → (p - t) * (q - t) ≤ 0 := by
   intro p q t h
   rcases h with h | h
   ·exact n0 (by omega) (by omega)
   ·exact m0 (by omega) (by omega)
  have e1 := f h1; have e2 := f h2
  have := k.2
  unfold dd wy at this
  simp only at this
  omega
theorem segs_two (p1 : Ring) (a b c : Pnt) (p2 : Ring) : (segs (p1 ++ a :: b :: c :: p2)).Perm ((a, b) :: (b, c) :: oth2 p1 a c p2) := by
 rw [segs_split, segs_cons2]
 unfold oth2
 refine List.perm_middle.trans (List.Perm.cons _ ?_)
 exact List.perm_middle
theorem segs_ends {z c : Pnt} {M : Ring} {a : Pnt} : (segs (z :: c :: M ++ [a, z])).Perm ((a, z) :: (z, c) :: segs (c :: M ++ [a])) := by
 have e : z :: c :: M ++ [a, z] = (z :: c :: M) ++ a :: z :: [] := by simp
 rw [e, segs_split]
 have e2 : segs [z] = [] := segs_one z
 rw [e2]
 have e3 : z :: c :: M ++ [a] = z :: c :: (M ++ [a]) := by simp
 rw [e3, segs_cons2]
 have e4 : c :: M ++ [a] = c :: (M ++ [a]) := by simp
 rw [e4]
 exact List.perm_append_comm.trans (by simp)
theorem VR.split {r : Ring} (h : VR r) {z : Pnt} (hz : place r (z, 1) = 1) : ∃ y x O, Spl r z y x O := by
  obtain ⟨s, hs, hh⟩ := place_one.1 hz
  simp only at hh
  have h4 := h.shut.len
  by_cases hv : z ∈ r
  · obtain ⟨i, hi1, hi, rfl⟩ := place_of h.shut hv
    by_cases hl : i + 1 < r.length
    · have e := split_at (r := r) (i := i - 1) (by omega)
      have e1 : i - 1 + 1 = i := by omega
      have e2 : i - 1 + 2 = i + 1 := by omega
      rw [e1, e2] at e
      have e3 : r.drop (i + 1) = ptAt r (i + 1) :: r.drop (i + 2) := by
        rw [List.drop_eq_getElem_cons hl]
        congr 1
        have := ptAt_get hl
        rw [List.getElem?_eq_getElem hl] at this
        exact Option.some.inj this
      rw [e3] at e
      have h' := h
      rw [e] at h'
      have hb := h'.back
      refine ⟨ptAt r (i - 1), ptAt r (i + 1), oth2 (r.take (i - 1)) (ptAt r (i - 1)) (ptAt r (i + 1)) (r.drop (i + 2)), .inl ?_, h'.here, fun q => h'.next_long q.symm, corner_nb hb, fun s hs => h'.vert hs⟩
      have := segs_two (r.take (i - 1)) (ptAt r (i - 1)) (ptAt r i) (ptAt r (i + 1)) (r.drop (i + 2))
      rwa [← e] at this
    · have hi' : i = r.length - 1 := by omega
      have e0 : ptAt r 0 = ptAt r i := by rw [hi']; exact h.shut.eq
      obtain ⟨c, M, a, er⟩ : ∃ c M a, r = ptAt r i :: c :: M ++ [a, ptAt r i] := by
        refine ⟨ptAt r 1, (r.drop 2).take (r.length - 4), ptAt r (i - 1), ?_⟩
        apply List.ext_getElem?
        intro j
        have g : ∀ j, j < r.length → r[j]? = some (ptAt r j) := fun j hj => ptAt_get hj
        rcases Nat.lt_or_ge j r.length with hj | hj
        · rw [g j hj]
          match j, hj with
          | 0, _ => simp [e0]
          | 1, _ => simp
          | j + 2, hj =>
            simp only [List.cons_append, List.getElem?_cons_succ]
            by_cases q : j < r.length - 4
            · rw [List.getElem?_append_left (by simp; omega), List.getElem?_take, if_pos q, List.getElem?_drop, show 2 + j = j + 2 by omega, g _ hj]
            · rw [List.getElem?_append_right (by simp; omega)]
              have hlM : ((r.drop 2).take (r.length - 4)).length = r.length - 4 := by simp; omega
              rw [hlM]
              by_cases q2 : j = r.length - 4
              · rw [q2]; simp; congr 1; omega
              · have q3 : j = r.length - 3 := by omega
                rw [q3, show r.length - 3 - (r.length - 4) = 1 by omega]; simp; congr 1; omega
        · rw [List.getElem?_eq_none hj, List.getElem?_eq_none]
          simp; omega
      have hc : c = ptAt r 1 := by
        have := ptAt_get (r := r) (i := 1) (by omega)
        rw [er] at this; simp at this; rw [← this.symm]; rw [er]; simp [ptAt]
      have ha : a = ptAt r (i - 1) := by
        have hlen : r.length = M.length + 4 := by rw [er]; simp
        have := ptAt_get (r := r) (i := i - 1) (by omega)
        have e5 : r[i - 1]? = some a := by
          rw [hi', hlen]
          conv => lhs; rw [er]
          rw [show M.length + 4 - 1 - 1 = (ptAt r i :: c :: M).length by simp]
          rw [List.getElem?_append_right (by simp)]
          simp
        rw [e5] at this
        exact Option.some.inj this
      have hadj := h.adj (i := i) hi1 hi
      have hnx : nextI r i = ptAt r 1 := by unfold nextI; rw [if_neg hl]
      rw [hnx, ← hc, ← ha] at hadj
      have s0 : (ptAt r i, c) ∈ segs r := by
        have := List.mem_of_getElem? (segs_at (ptAt_get (r := r) (i := 0) (by omega)) (ptAt_get (r := r) (i := 1) (by omega)))
        rwa [e0, ← hc] at this
      have s1 : (a, ptAt r i) ∈ segs r := by
        have := List.mem_of_getElem? (segs_at (ptAt_get (r := r) (i := i - 1) (by omega)) (ptAt_get (r := r) (i := i - 1 + 1) (by omega)))
        rwa [show i - 1 + 1 = i by omega, ← ha] at this
      have n0 : ptAt r i ≠ c := h.long _ s0
      have n1 : a ≠ ptAt r i := h.long _ s1
      refine ⟨a, c, segs (c :: M ++ [a]), .inl ?_, n1, fun q => n0 q.symm, corner_nb (no_back n1 n0 hadj), ?_⟩
      · have := segs_ends (z := ptAt r i) (c := c) (M := M) (a := a)
        rwa [← er] at this
      · intro s hs hh
        obtain ⟨j, hj⟩ := List.mem_iff_getElem?.1 hs
        have hlen : r.length = M.length + 4 := by rw [er]; simp
        have hjl : j < M.length + 1 := by have := Pl.lt_of_some hj; rw [segs_len] at this; simpa using this
        have hseg : s = (ptAt r (j + 1), ptAt r (j + 2)) := by
          have e6 : ∀ t, t < M.length + 2 → (c :: M ++ [a])[t]? = r[t + 1]? := by
            intro t ht
            conv => rhs; rw [er]
            simp only [List.cons_append, List.getElem?_cons_succ]
            rw [show (M ++ [a, ptAt r i] : Ring) = (M ++ [a]) ++ [ptAt r i] by simp]
            have : c :: (M ++ [a] ++ [ptAt r i]) = (c :: (M ++ [a])) ++ [ptAt r i] := by simp
            rw [this, List.getElem?_append_left (by simp; omega)]
          have f1 := (e6 j (by omega)).trans (ptAt_get (r := r) (i := j + 1) (by omega))
          have f2 := (e6 (j + 1) (by omega)).trans (ptAt_get (r := r) (i := j + 1 + 1) (by omega))
          have := segs_at f1 f2
          rw [hj] at this
          exact Option.some.inj this
        have hm := h.meet (i := 0) (j := j + 1) (by omega) (by omega)
        have hne : meetS (ptAt r 0, ptAt r 1) (ptAt r (j + 1), ptAt r (j + 1 + 1)) ≠ 0 := by
          refine meet_pt (z := ptAt r i) ?_ ?_ ?_ ?_
          · rw [e0, ← hc]; exact n0
          · exact h.long (ptAt r (j + 1), ptAt r (j + 1 + 1)) (List.mem_of_getElem? (segs_at (ptAt_get (by omega)) (ptAt_get (by omega))))
          · rw [e0]; exact has_a _ _
          · rw [hseg] at hh; exact hh
        rw [hm] at hne
        have hj0 : j = 0 := by
          unfold wantI at hne
          split at hne
          · rename_i q; omega
          · exact absurd rfl hne
        subst hj0
        have h3 : meetS (ptAt r 0, ptAt r 1) (ptAt r (0 + 1), ptAt r (0 + 1 + 1)) = 3 := by
          refine meet_two (z := ptAt r i) (z' := ptAt r 1) ?_ ?_ ?_ ?_ ?_ ?_ ?_
          · rw [e0, ← hc]; exact n0
          · exact h.long (ptAt r (0 + 1), ptAt r (0 + 1 + 1)) (List.mem_of_getElem? (segs_at (ptAt_get (by omega)) (ptAt_get (by omega))))
          · rw [← hc]; exact n0
          · rw [e0]; exact has_a _ _
          · rw [hseg] at hh; exact hh
          · exact has_b _ _
          · exact has_a _ _
        rw [h3] at hm
        unfold wantI at hm
        split at hm <;> simp at hm
  · obtain ⟨i, hi⟩ := List.mem_iff_getElem?.1 hs
    have hil : i + 1 < r.length := by have := Pl.lt_of_some hi; rw [segs_len] at this; omega
    have es : s = (ptAt r i, ptAt r (i + 1)) := by
      have := segs_at (ptAt_get (r := r) (i := i) (by omega)) (ptAt_get hil)
      rw [hi] at this
      exact Option.some.inj this
    subst es
    have hins : Ins (ptAt r i) (ptAt r (i + 1)) z := ⟨hh, fun q => hv (q ▸ ptAt_mem (by omega)), fun q => hv (q ▸ ptAt_mem hil)⟩
    have e := split_at (r := r) (i := i) hil
    have h' := h
    rw [e] at h'
    refine ⟨ptAt r i, ptAt r (i + 1), oth (r.take i) (ptAt r i) (ptAt r (i + 1)) (r.drop (i + 2)), .inr ⟨?_, hins⟩, fun q => hins.na q.symm, fun q => hins.nb q.symm, ins_nb hins, fun s hs => h'.off hs hins⟩
    have := segs_split (r.take i) (ptAt r i) (ptAt r (i + 1)) (r.drop (i + 2))
    rw [← e] at this
    rw [this]
    unfold oth
    exact List.perm_middle
theorem near_none {r : Ring} (he : Ends r) {z : Pnt} (hz : OffR r (z, 1)) (u w : Pnt) :
  ∃ K : Int, 2 ≤ K ∧ ∀ k, K ≤ k → OffR r (nrP k z u, k) ∧ OffR r (nrP k z w, k) ∧ inn r (nrP k z u, k) = inn r (nrP k z w, k) := by
 obtain ⟨K, hK, hbig⟩ := ex_big (fun s => big s u w) (segs r)
 refine ⟨K, hK, fun k hk => ?_⟩
 have hk0 : 0 < k := by omega
 have hO : ∀ s ∈ segs (scR k r), Off (nrP k z u) (nrP k z w) s.1 s.2 ∧ ¬ Xs (nrP k z u) (nrP k z w) s.1 s.2 := by
  intro s hs
  rw [segs_sc] at hs
  obtain ⟨t, ht, rfl⟩ := List.mem_map.1 hs
  exact near_off (hz t ht) (by have := hbig t ht; omega)
 refine ⟨offR_sc hk0 fun s hs => (hO s hs).1.hp, offR_sc hk0 fun s hs => (hO s hs).1.hq, ?_⟩
 have e := rays_ring (ends_sc (k := k) he) fun s hs => (hO s hs).1
 rw [xsL_none fun s hs => (hO s hs).2] at e
 rw [inn_sc hk0, inn_sc hk0]
 revert e
 generalize raysS (segs (scR k r)) (nrP k z u, 1) = a
 generalize raysS (segs (scR k r)) (nrP k z w, 1) = b
 cases a <;> cases b <;> simp
structure Meet2 (A H : Ring) (z y x y' x' : Pnt) (O O' : List Seg) : Prop where
 a : Spl A z y x O
 h : Spl H z y' x' O'
 p1 : ¬ Par (wy z y) (wy z y')
 p2 : ¬ Par (wy z y) (wy z x')
 p3 : ¬ Par (wy z x) (wy z y')
 p4 : ¬ Par (wy z x) (wy z x')
theorem local_sym {A H : Ring} {z y x y' x' : Pnt} {O O' : List Seg} (m : Meet2 A H z y x y' x' O O') (ha : Ends A) (hh : Ends H) :
  ∃ K : Int, 2 ≤ K ∧ ∀ k, K ≤ k → OffR A (nrP k z (wy z y'), k) ∧ OffR A (nrP k z (wy z x'), k) ∧ OffR H (nrP k z (wy z y), k) ∧ OffR H (nrP k z (wy z x), k) ∧
   (inn A (nrP k z (wy z y'), k) ^^ inn A (nrP k z (wy z x'), k)) = (inn H (nrP k z (wy z y), k) ^^ inn H (nrP k z (wy z x), k)) := by
 have f1 : Four (wy z y) (wy z x) (wy z y') (wy z x') := ⟨wy_ne m.a.ny, wy_ne m.a.nx, wy_ne m.h.ny, wy_ne m.h.nx, m.a.nb, fun q => m.p1 q.symm, fun q => m.p3 q.symm, fun q => m.p2 q.symm, fun q => m.p4 q.symm⟩
 have f2 : Four (wy z y') (wy z x') (wy z y) (wy z x) := ⟨wy_ne m.h.ny, wy_ne m.h.nx, wy_ne m.a.ny, wy_ne m.a.nx, m.h.nb, m.p1, m.p2, m.p3, m.p4⟩
 obtain ⟨K1, a1, b1⟩ := m.a.near ha f1
 obtain ⟨K2, a2, b2⟩ := m.h.near hh f2
 refine ⟨K1 + K2, by omega, fun k hk => ?_⟩
 obtain ⟨c1, c2, c3⟩ := b1 k (by omega)
 obtain ⟨d1, d2, d3⟩ := b2 k (by omega)
 exact ⟨c1, c2, d1, d2, by rw [c3, d3]; exact left_sym f1 m.h.nb⟩
theorem par_btw {u v : Pnt} (h : Par u v) : (btw 0 u.1 v.1 ∧ btw 0 u.2 v.2) ∨ (btw 0 v.1 u.1 ∧ btw 0 v.2 u.2) := by
 have hv : v ≠ (0, 0) := fun q => by have := h.2; rw [q] at this; unfold dd at this; simp at this
 have hV := dd_pos hv
 have hD := h.2
 have e1 : dd v v * u.1 = dd u v * v.1 := by have := h.1; unfold dd xx at *; grind
 have e2 : dd v v * u.2 = dd u v * v.2 := by have := h.1; unfold dd xx at *; grind
 generalize dd v v = V at *
 generalize dd u v = D at *
 have f : ∀ {p q : Int}, V * p = D * q → (D ≤ V → btw 0 p q) ∧ (V ≤ D → btw 0 q p) := by
  intro p q e
  have s1 := sgn_of hV e
  have s2 := sgn_of hD (rfl : D * q = _)
  unfold btw
  constructor
  ·intro hl
   rcases Int.le_total 0 q with g | g
   ·have := Int.mul_le_mul_of_nonneg_right hl g
    have t : V * p ≤ V * q := by omega
    have := Int.le_of_mul_le_mul_left t hV
    left; omega
   ·have := Int.mul_le_mul_of_nonpos_right hl g
    have t : V * q ≤ V * p := by omega
    have := Int.le_of_mul_le_mul_left t hV
    right; omega
  ·intro hl
   rcases Int.le_total 0 q with g | g
   ·have := Int.mul_le_mul_of_nonneg_right hl g
    have t : V * q ≤ V * p := by omega
    have := Int.le_of_mul_le_mul_left t hV
    left; omega
   ·have := Int.mul_le_mul_of_nonpos_right hl g
    have t : V * p ≤ V * q := by omega
    have := Int.le_of_mul_le_mul_left t hV
    right; omega
 rcases Int.le_total D V with g | g
 ·exact .inl ⟨(f e1).1 g, (f e2).1 g⟩
 ·exact .inr ⟨(f e1).2 g, (f e2).2 g⟩
theorem par_has {z y y' : Pnt} (h : Par (wy z y) (wy z y')) : has z y' y 1 ∨ has z y y' 1 := by
 have c1 : cr z y' y 1 = 0 := by have := h.1; unfold xx wy at this; unfold cr; grind
 have c2 : cr z y y' 1 = 0 := by have := h.1; unfold xx wy at this; unfold cr; grind
 rcases par_btw h with ⟨g1, g2⟩ | ⟨g1, g2⟩
 ·left
  refine ⟨c1, ?_, ?_⟩
  ·unfold btw wy at *; simp only at *; omega
  ·unfold btw wy at *; simp only at *; omega
 ·right
  refine ⟨c2, ?_, ?_⟩
  ·unfold btw wy at *; simp only at *; omega
  ·unfold btw wy at *; simp only at *; omega
theorem has_within {a b p q c : Pnt} (hab : a ≠ b) (hp : has a b p 1) (hq : has a b q 1) (hpq : p ≠ q) (h : has p q c 1) : has a b c 1 := by
 obtain ⟨k1, k2⟩ := has_dir hab hpq hp.1 hq.1 h
 obtain ⟨p1, p2⟩ := pos_le hab hp
 obtain ⟨q1, q2⟩ := pos_le hab hq
 exact has_pos hab k1 (by unfold btw at k2; omega) (by unfold btw at k2; omega)
theorem no_par {A H : Ring} (hA : Long A) (hH : Long H) (hx : cross A H = false) {s t : Seg} (hs : s ∈ segs A) (ht : t ∈ segs H) {z y y' : Pnt} (hy : y ≠ z) (hy' : y' ≠ z) (s1 : has s.1 s.2 z 1) (s2 : has s.1 s.2 y 1) (t1 : has t.1 t.2 z 1) (t2 : has t.1 t.2 y' 1) : ¬ Par (wy z y) (wy z y') := by
 intro h
 have : ∃ c, c ≠ z ∧ has s.1 s.2 c 1 ∧ has t.1 t.2 c 1 := by
  rcases par_has h with g | g
  ·exact ⟨y, hy, s2, has_within (hH t ht) t1 t2 (fun q => hy' q.symm) g⟩
  ·exact ⟨y', hy', has_within (hA s hs) s1 s2 (fun q => hy q.symm) g, t2⟩
 obtain ⟨c, hc, c1, c2⟩ := this
 have m := meet_two (hA s hs) (hH t ht) (fun q => hc q.symm) s1 t1 c1 c2
 have : cross A H = true := by
  unfold cross
  refine List.any_eq_true.2 ⟨s, hs, List.any_eq_true.2 ⟨t, ht, ?_⟩⟩
  unfold crossS meetS
  rw [m]; rfl
 rw [hx] at this; cases this
theorem Spl.seg1 {r : Ring} {z y x : Pnt} {O : List Seg} (h : Spl r z y x O) : ∃ s ∈ segs r, has s.1 s.2 z 1 ∧ has s.1 s.2 y 1 := by
 rcases h.sp with k | ⟨k, hi⟩
 ·exact ⟨(y, z), k.mem_iff.2 (by simp), has_b _ _, has_a _ _⟩
 ·exact ⟨(y, x), k.mem_iff.2 (by simp), hi.on, has_a _ _⟩
theorem Spl.seg2 {r : Ring} {z y x : Pnt} {O : List Seg} (h : Spl r z y x O) : ∃ s ∈ segs r, has s.1 s.2 z 1 ∧ has s.1 s.2 x 1 := by
 rcases h.sp with k | ⟨k, hi⟩
 ·exact ⟨(z, x), k.mem_iff.2 (by simp), has_a _ _, has_b _ _⟩
 ·exact ⟨(y, x), k.mem_iff.2 (by simp), hi.on, has_b _ _⟩
theorem meet2_of {A H : Ring} (hA : Long A) (hH : Long H) (hx : cross A H = false) {z y x y' x' : Pnt} {O O' : List Seg} (a : Spl A z y x O) (h : Spl H z y' x' O') : Meet2 A H z y x y' x' O O' := by
 obtain ⟨s1, m1, e1, f1⟩ := a.seg1
 obtain ⟨s2, m2, e2, f2⟩ := a.seg2
 obtain ⟨t1, n1, g1, k1⟩ := h.seg1
 obtain ⟨t2, n2, g2, k2⟩ := h.seg2
 exact ⟨a, h, no_par hA hH hx m1 n1 a.ny h.ny e1 f1 g1 k1, no_par hA hH hx m1 n2 a.ny h.nx e1 f1 g2 k2, no_par hA hH hx m2 n1 a.nx h.ny e2 f2 g1 k1, no_par hA hH hx m2 n2 a.nx h.nx e2 f2 g2 k2⟩
theorem germ_has {z y : Pnt} {k : Int} (hk : 1 ≤ k) : has (sc k z) (sc k y) (nrP k z (wy z y)) 1 := by
 refine ⟨by unfold cr sc nrP wy; grind, ?_, ?_⟩
 ·unfold btw sc nrP wy
  simp only [Int.mul_one]
  have e : k * y.1 - k * z.1 = k * (y.1 - z.1) := by grind
  rcases Int.le_total 0 (y.1 - z.1) with g | g
  ·have := Int.mul_le_mul_of_nonneg_right hk g; left; omega
  ·have := Int.mul_le_mul_of_nonpos_right hk g; right; omega
 ·unfold btw sc nrP wy
  simp only [Int.mul_one]
  have e : k * y.2 - k * z.2 = k * (y.2 - z.2) := by grind
  rcases Int.le_total 0 (y.2 - z.2) with g | g
  ·have := Int.mul_le_mul_of_nonneg_right hk g; left; omega
  ·have := Int.mul_le_mul_of_nonpos_right hk g; right; omega
theorem germ_seg {s : Seg} (hs : s.1 ≠ s.2) {z y : Pnt} (hy : y ≠ z) (h1 : has s.1 s.2 z 1) (h2 : has s.1 s.2 y 1) {k : Int} (hk : 1 ≤ k) : has s.1 s.2 (nrP k z (wy z y)) k := by
 have hk0 : 0 < k := by omega
 have := has_within (a := sc k s.1) (b := sc k s.2) (fun e => hs ((sc_inj hk0).1 e)) ((has_sc1 hk0 _ _ _).2 h1) ((has_sc1 hk0 _ _ _).2 h2) (fun e => hy ((sc_inj hk0).1 e).symm) (germ_has hk)
 have k2 := (has_sc hk0 s.1 s.2 (nrP k z (wy z y)) 1).1 this
 rwa [Int.mul_one] at k2
theorem Spl.on1 {r : Ring} (hl : Long r) {z y x : Pnt} {O : List Seg} (h : Spl r z y x O) {k : Int} (hk : 1 ≤ k) : place r (nrP k z (wy z y), k) = 1 := by
 obtain ⟨s, hs, h1, h2⟩ := h.seg1
 exact place_one.2 ⟨s, hs, germ_seg (hl s hs) h.ny h1 h2 hk⟩
theorem Spl.on2 {r : Ring} (hl : Long r) {z y x : Pnt} {O : List Seg} (h : Spl r z y x O) {k : Int} (hk : 1 ≤ k) : place r (nrP k z (wy z x), k) = 1 := by
 obtain ⟨s, hs, h1, h2⟩ := h.seg2
 exact place_one.2 ⟨s, hs, germ_seg (hl s hs) h.nx h1 h2 hk⟩
theorem cross_sy {A H : Ring} (h : cross A H = false) : cross H A = false := by
  cases hx : cross H A with
  | false => rfl
  | true =>
    unfold cross at hx
    obtain ⟨t, ht, k⟩ := List.any_eq_true.1 hx
    obtain ⟨s, hs, k⟩ := List.any_eq_true.1 k
    have : cross A H = true := by
      unfold cross
      refine List.any_eq_true.2 ⟨s, hs, List.any_eq_true.2 ⟨t, ht, ?_⟩⟩
      unfold crossS at *
      rwa [meetS_symm]
    rw [h] at this; cases this
def NoThru (A H : Ring) : Prop := ∀ z y x O, Spl A z y x O → ∃ K : Int, 2 ≤ K ∧ ∀ k, K ≤ k → OffR H (nrP k z (wy z y), k) ∧ OffR H (nrP k z (wy z x), k) ∧ inn H (nrP k z (wy z y), k) = inn H (nrP k z (wy z x), k)
theorem offR_of {r : Ring} {p : Spot} (h : place r p ≠ 1) : OffR r p := fun s hs q => h (place_one.2 ⟨s, hs, q⟩)
theorem offR_ne {r : Ring} {p : Spot} (h : OffR r p) : place r p ≠ 1 := fun q => by
 obtain ⟨s, hs, k⟩ := place_one.1 q
 exact h s hs k
theorem noThru {A H : Ring} (vA : VR A) (vH : VR H) (hx : cross A H = false) {c : Int} (hl : lies H A c = true) : NoThru A H := by
 intro z y x O sA
 have eA := shut_ends vA.shut
 have eH := shut_ends vH.shut
 by_cases hz : place H (z, 1) = 1
 ·obtain ⟨y', x', O', sH⟩ := vH.split hz
  obtain ⟨K, hK, f⟩ := local_sym (meet2_of vA.long vH.long hx sA sH) eA eH
  refine ⟨K, hK, fun k hk => ?_⟩
  obtain ⟨a1, a2, h1, h2, e⟩ := f k hk
  refine ⟨h1, h2, ?_⟩
  have c1 := lies_out vH.long vA.long eA (cross_sy hx) hl (p := (nrP k z (wy z y'), k)) (by show 0 < k; omega) (sH.on1 vH.long (by omega))
  have c2 := lies_out vH.long vA.long eA (cross_sy hx) hl (p := (nrP k z (wy z x'), k)) (by show 0 < k; omega) (sH.on2 vH.long (by omega))
  have d1 := c1.resolve_left (offR_ne a1)
  have d2 := c2.resolve_left (offR_ne a2)
  rw [offR_place a1] at d1
  rw [offR_place a2] at d2
  revert e d1 d2
  generalize inn A (nrP k z (wy z y'), k) = p
  generalize inn A (nrP k z (wy z x'), k) = q
  generalize inn H (nrP k z (wy z y), k) = s
  generalize inn H (nrP k z (wy z x), k) = t
  cases p <;> cases q <;> cases s <;> cases t <;> simp <;> omega
 ·exact near_none eH (offR_of hz) _ _
theorem cons_up {k : Int} (hk : 0 < k) {a b : Pnt} {l : List Pnt} {y z : Pnt} (h : Cons (pos a b) (Cut a b l) y z) : Cons (pos (sc k a) (sc k b)) (Cut (sc k a) (sc k b) (l.map (sc k))) (sc k y) (sc k z) := by
 have kk2 := pp hk hk
 have e1 : ∀ {x y : Int}, k * k * x < k * k * y ↔ x < y := fun {x y} => ⟨fun h => Int.lt_of_mul_lt_mul_left h (by omega), fun h => Int.mul_lt_mul_of_pos_left h kk2⟩
 refine ⟨(cut_sc hk).2 ⟨y, rfl, h.cx⟩, (cut_sc hk).2 ⟨z, rfl, h.cy⟩, ?_, ?_⟩
 ·rw [pos_sc, pos_sc]; exact e1.2 h.lt
 ·rintro c hc ⟨h1, h2⟩
  obtain ⟨c', rfl, hc'⟩ := (cut_sc hk).1 hc
  rw [pos_sc, pos_sc] at h1 h2
  exact h.no c' hc' ⟨e1.1 h1, e1.1 h2⟩
theorem pos_dt (a b P : Pnt) (w : Int) : pos (sc (2 * w) a) (sc (2 * w) b) (sc 2 P) = (2 * w) * (2 * dt a b P w) := by unfold pos dt sc; grind
theorem piece {a b : Pnt} (hab : a ≠ b) {o : Ring} (he : Ends o) (hl : Long o) (hx : ∀ t ∈ segs o, crossS (a, b) t = false) {y z : Pnt} (hc : Cons (pos a b) (Cut a b o) y z)
  {P : Pnt} {w : Int} (hw : 0 < w) (hp : has a b P w) (h1 : w * pos a b y < dt a b P w) (h2 : dt a b P w < w * pos a b z) : place o (P, w) = place o (midOf y z) := by
 have hK : (0 : Int) < 2 * w := by omega
 have hab' : sc (2 * w) a ≠ sc (2 * w) b := fun e => hab ((sc_inj hK).1 e)
 have hp' : has (sc (2 * w) a) (sc (2 * w) b) (sc 2 P) 1 := by
  rw [has_sc hK, Int.mul_one]
  exact (has_spot (by omega) a b P w).2 hp
 have hc' := cons_up hK hc
 have e1 : place o (P, w) = place (scR (2 * w) o) (sc 2 P, 1) := place_whole (p := (P, w)) hw (k := 2) (by omega)
 have e2 : place o (midOf y z) = place (scR (2 * w) o) (sc w (midOf y z).1, 1) := by
  have := place_whole (r := o) (p := midOf y z) (show (0 : Int) < 2 by omega) (k := w) hw
  rw [show w * (midOf y z).2 = 2 * w by show w * 2 = 2 * w; omega] at this
  exact this
 rw [e1, e2]
 have c0y := (cut_has hc.cx).1
 have c0z := (cut_has hc.cy).1
 have f1 : 2 * pos (sc (2 * w) a) (sc (2 * w) b) (sc w (midOf y z).1) = pos (sc (2 * w) a) (sc (2 * w) b) (sc (2 * w) y) + pos (sc (2 * w) a) (sc (2 * w) b) (sc (2 * w) z) := by unfold pos dt sc midOf; grind
 have f2 : 2 * cr (sc (2 * w) a) (sc (2 * w) b) (sc w (midOf y z).1) 1 = cr (sc (2 * w) a) (sc (2 * w) b) (sc (2 * w) y) 1 + cr (sc (2 * w) a) (sc (2 * w) b) (sc (2 * w) z) 1 := by unfold cr sc midOf; grind
 rw [cr_sc1, cr_sc1, c0y, c0z, Int.mul_zero, Int.add_zero] at f2
 have hlt := hc'.lt
 obtain ⟨y0, y1⟩ := pos_le hab' (cut_has hc'.cx)
 obtain ⟨z0, z1⟩ := pos_le hab' (cut_has hc'.cy)
 have g1 : pos (sc (2 * w) a) (sc (2 * w) b) (sc (2 * w) y) < pos (sc (2 * w) a) (sc (2 * w) b) (sc 2 P) := by
  rw [pos_sc, pos_dt, show 2 * w * (2 * w) * pos a b y = 2 * w * (2 * (w * pos a b y)) by grind]
  exact Int.mul_lt_mul_of_pos_left (by omega) hK
 have g2 : pos (sc (2 * w) a) (sc (2 * w) b) (sc 2 P) < pos (sc (2 * w) a) (sc (2 * w) b) (sc (2 * w) z) := by
  rw [pos_sc, pos_dt, show 2 * w * (2 * w) * pos a b z = 2 * w * (2 * (w * pos a b z)) by grind]
  exact Int.mul_lt_mul_of_pos_left (by omega) hK
 have hx' : ∀ t ∈ segs (scR (2 * w) o), crossS (sc (2 * w) a, sc (2 * w) b) t = false := by
  intro t ht
  rw [segs_sc] at ht
  obtain ⟨t', ht', rfl⟩ := List.mem_map.1 ht
  have := hx t' ht'
  rw [← crossS_sc hK] at this
  exact this
 exact on_place_int hab' (ends_sc he) (long_sc hK hl) hx' hc' hp' (by omega) (by omega) (has_pos hab' (by omega) (by omega) (by omega)) (by omega) (by omega) (mid_off_int hab' (long_sc hK hl) hx' hc' hp' g1 g2)
theorem dt_to (a b c : Pnt) (k : Int) : dt a b (nrP k c (wy c b)) k = (k - 1) * pos a b c + kk a b ∧ dt a b (nrP k c (wy c a)) k = (k - 1) * pos a b c := by
 unfold dt nrP wy pos kk dt; constructor <;> grind
theorem Spl.ins {r : Ring} {z y x : Pnt} {O : List Seg} (h : Spl r z y x O) {a b : Pnt} (hs : (a, b) ∈ segs r) (hi : Ins a b z) : y = a ∧ x = b := by
 rcases h.sp with k | ⟨k, -⟩
 ·rcases List.mem_cons.1 (k.mem_iff.1 hs) with e | hs
  ·cases e; exact absurd rfl hi.nb
  ·rcases List.mem_cons.1 hs with e | hs
   ·cases e; exact absurd rfl hi.na
   ·exact absurd hi.on (h.off _ hs)
 ·rcases List.mem_cons.1 (k.mem_iff.1 hs) with e | hs
  ·cases e; exact ⟨rfl, rfl⟩
  ·exact absurd hi.on (h.off _ hs)
theorem Spl.into {r : Ring} {z y x : Pnt} {O : List Seg} (h : Spl r z y x O) {a : Pnt} (hs : (a, z) ∈ segs r) (ha : a ≠ z) : y = a := by
 rcases h.sp with k | ⟨k, hi⟩
 ·rcases List.mem_cons.1 (k.mem_iff.1 hs) with e | hs
  ·cases e; rfl
  ·rcases List.mem_cons.1 hs with e | hs
   ·cases e; exact absurd rfl ha
   ·exact absurd (has_b _ _) (h.off _ hs)
 ·rcases List.mem_cons.1 (k.mem_iff.1 hs) with e | hs
  ·cases e; exact absurd rfl h.nx
  ·exact absurd (has_b _ _) (h.off _ hs)
theorem Spl.from_ {r : Ring} {z y x : Pnt} {O : List Seg} (h : Spl r z y x O) {b : Pnt} (hs : (z, b) ∈ segs r) (hb : b ≠ z) : x = b := by
 rcases h.sp with k | ⟨k, hi⟩
 ·rcases List.mem_cons.1 (k.mem_iff.1 hs) with e | hs
  ·cases e; exact absurd rfl hb
  ·rcases List.mem_cons.1 hs with e | hs
   ·cases e; rfl
   ·exact absurd (has_a _ _) (h.off _ hs)
 ·rcases List.mem_cons.1 (k.mem_iff.1 hs) with e | hs
  ·cases e; exact absurd rfl h.ny
  ·exact absurd (has_a _ _) (h.off _ hs)
structure TwoR (A H : Ring) : Prop where
 vA : VR A
 vH : VR H
 hx : cross A H = false
 nt : NoThru A H
theorem TwoR.xs {A H : Ring} (h : TwoR A H) {a b : Pnt} (hs : (a, b) ∈ segs A) : ∀ t ∈ segs H, crossS (a, b) t = false := by
  intro t ht
  cases c : crossS (a, b) t with
  | false => rfl
  | true =>
    have : cross A H = true := by
      unfold cross
      exact List.any_eq_true.2 ⟨(a, b), hs, List.any_eq_true.2 ⟨t, ht, c⟩⟩
    rw [h.hx] at this; cases this
theorem place_inn {r : Ring} {p q : Spot} (h1 : OffR r p) (h2 : OffR r q) (e : inn r p = inn r q) : place r p = place r q := by rw [offR_place h1, offR_place h2, e]
theorem cut_num {k px pc pz q : Int} (h0 : 0 ≤ px) (h1 : px < pc) (h2 : pc < pz) (h3 : pz ≤ q) (hk : q < k) : (k * pc < (k - 1) * pc + q ∧ (k - 1) * pc + q < k * pz) ∧ k * px < (k - 1) * pc ∧ (k - 1) * pc < k * pc := by
 have m1 := Int.mul_le_mul_of_nonneg_left (show 1 ≤ pz - pc by omega) (show 0 ≤ k by omega)
 have m2 := Int.mul_le_mul_of_nonneg_left (show 1 ≤ pc - px by omega) (show 0 ≤ k by omega)
 rw [Int.mul_sub] at m1 m2
 have e1 : (k - 1) * pc = k * pc - pc := by rw [Int.sub_mul]; omega
 rw [e1]
 generalize k * pc = a at *
 generalize k * pz = b at *
 generalize k * px = c at *
 omega
theorem TwoR.at_cut {A H : Ring} (h : TwoR A H) {a b : Pnt} (hs : (a, b) ∈ segs A) {x c z : Pnt} (c1 : Cons (pos a b) (Cut a b H) x c) (c2 : Cons (pos a b) (Cut a b H) c z) : place H (midOf x c) = place H (midOf c z) := by
 have hab : a ≠ b := h.vA.long _ hs
 have eH := shut_ends h.vH.shut
 have px := pos_le hab (cut_has c1.cx)
 have pz := pos_le hab (cut_has c2.cy)
 have l1 := c1.lt
 have l2 := c2.lt
 have hc := cut_has c1.cy
 have hi : Ins a b c := ⟨hc, fun e => by rw [e, pos_a] at l1; omega, fun e => by rw [e, pos_b] at l2; omega⟩
 obtain ⟨y', x', O, sA⟩ := h.vA.split (z := c) (place_one.2 ⟨(a, b), hs, hc⟩)
 obtain ⟨e1, e2⟩ := sA.ins hs hi
 rw [e1, e2] at sA
 obtain ⟨K, hK, f⟩ := h.nt _ _ _ _ sA
 have hk := kk_pos hab
 obtain ⟨k, hk1, hk2, hk3⟩ : ∃ k, K ≤ k ∧ kk a b < k ∧ 1 ≤ k := ⟨K + kk a b, by omega, by omega, by omega⟩
 obtain ⟨o1, o2, e⟩ := f k hk1
 obtain ⟨d1, d2⟩ := dt_to a b c k
 obtain ⟨⟨n1, n2⟩, n3, n4⟩ := cut_num px.1 l1 l2 pz.2 hk2
 rw [← d1] at n1 n2
 rw [← d2] at n3 n4
 have g1 : has a b (nrP k c (wy c b)) k := germ_seg (s := (a, b)) hab sA.nx hc (has_b _ _) hk3
 have g2 : has a b (nrP k c (wy c a)) k := germ_seg (s := (a, b)) hab sA.ny hc (has_a _ _) hk3
 have hx' : ∀ t ∈ segs H, crossS (a, b) t = false := h.xs hs
 have hw : 0 < k := Int.lt_of_lt_of_le (by decide) hk3
 have q1 : place H (nrP k c (wy c b), k) = place H (midOf c z) := piece hab eH h.vH.long hx' c2 hw g1 n1 n2
 have q2 : place H (nrP k c (wy c a), k) = place H (midOf x c) := piece hab eH h.vH.long hx' c1 hw g2 n3 n4
 rw [← q1, ← q2]
 exact place_inn o1 o2 e
theorem first_cut {a b : Pnt} (hab : a ≠ b) (l : List Pnt) : ∃ z, Cons (pos a b) (Cut a b l) a z := by
 have hk := kk_pos hab
 obtain ⟨z, hz, ⟨cz, lz⟩, mz⟩ := ex_min (pos a b) (fun x => Cut a b l x ∧ 0 < pos a b x) (a :: b :: l) ⟨b, by simp, .inr (.inl rfl), by rw [pos_b]; exact hk⟩
 refine ⟨z, .inl rfl, cz, by rw [pos_a]; exact lz, fun c hc ⟨h1, h2⟩ => ?_⟩
 rw [pos_a] at h1
 have := mz c (cut_list.1 hc).1 ⟨hc, h1⟩
 omega
theorem TwoR.seg_one {A H : Ring} (h : TwoR A H) {a b : Pnt} (hs : (a, b) ∈ segs A) {z0 : Pnt} (c0 : Cons (pos a b) (Cut a b H) a z0) : ∀ (n : Nat) (y z : Pnt), Cons (pos a b) (Cut a b H) y z → (pos a b y).toNat ≤ n → place H (midOf y z) = place H (midOf a z0) := by
  have hab : _ ≠ _ := h.vA.long _ hs
  simp only at hab
  intro n
  induction n with
  | zero =>
    intro y z hc hn
    have py := pos_le hab (cut_has hc.cx)
    have ya : y = a := pos_inj hab (cut_has hc.cx).1 (cr_a a b) (by rw [pos_a]; omega)
    subst ya
    have e : pos y b z = pos y b z0 := by
      have h1 := hc.no z0 c0.cy; have h2 := c0.no z hc.cy; have h3 := hc.lt; have h4 := c0.lt
      omega
    rw [pos_inj hab (cut_has hc.cy).1 (cut_has c0.cy).1 e]
  | succ n ih =>
    intro y z hc hn
    have py := pos_le hab (cut_has hc.cx)
    by_cases hy : pos a b y = 0
    · exact ih y z hc (by omega)
    · obtain ⟨x, hx, ⟨cx, lx⟩, mx⟩ := ex_max (pos a b) (fun x => Cut a b H x ∧ pos a b x < pos a b y) (a :: b :: H) ⟨a, by simp, .inl rfl, by rw [pos_a]; omega⟩
      have cxy : Cons (pos a b) (Cut a b H) x y := ⟨cx, hc.cx, lx, fun c hc' ⟨h1, h2⟩ => by have := mx c (cut_list.1 hc').1 ⟨hc', h2⟩; omega⟩
      have px := pos_le hab (cut_has cx)
      rw [← h.at_cut hs cxy hc]
      exact ih x y cxy (by omega)
theorem TwoR.seg_all {A H : Ring} (h : TwoR A H) {s : Seg} (hs : s ∈ segs A) {m m' : Spot} (hm : m ∈ mids s [H]) (hm' : m' ∈ mids s [H]) : place H m = place H m' := by
 have hab := h.vA.long _ hs
 obtain ⟨y, z, c, rfl⟩ := (mem_mids hab [H] m).1 hm
 obtain ⟨y', z', c', rfl⟩ := (mem_mids hab [H] m').1 hm'
 simp only [List.flatten_cons, List.flatten_nil, List.append_nil] at c c'
 obtain ⟨z0, c0⟩ := first_cut hab H
 rw [h.seg_one hs c0 _ y z c (Nat.le_refl _), h.seg_one hs c0 _ y' z' c' (Nat.le_refl _)]
theorem mids_some {a b : Pnt} (hab : a ≠ b) (H : Ring) : ∃ m, m ∈ mids (a, b) [H] := by
 obtain ⟨z, c⟩ := first_cut hab H
 exact ⟨_, (mem_mids hab [H] _).2 ⟨a, z, by simpa using c, rfl⟩⟩
theorem TwoR.turn {A H : Ring} (h : TwoR A H) {a v b : Pnt} (s1 : (a, v) ∈ segs A) (s2 : (v, b) ∈ segs A) {m m' : Spot} (hm : m ∈ mids (a, v) [H]) (hm' : m' ∈ mids (v, b) [H]) : place H m = place H m' := by
 have n1 := h.vA.long _ s1
 have n2 := h.vA.long _ s2
 have eH := shut_ends h.vH.shut
 obtain ⟨y, x, O, sA⟩ := h.vA.split (z := v) (place_one.2 ⟨(a, v), s1, has_b _ _⟩)
 obtain rfl := sA.into s1 n1
 obtain rfl := sA.from_ s2 (fun e => n2 e.symm)
 obtain ⟨K, hK, f⟩ := h.nt _ _ _ _ sA
 obtain ⟨o1, o2, e⟩ := f K (Int.le_refl _)
 obtain ⟨q, hq, eq⟩ := on_place n1 eH h.vH.long (h.xs s1) (p := (nrP K v (wy v y), K)) (by show 0 < K; omega) (germ_seg (s := (y, v)) n1 sA.ny (has_b _ _) (has_a _ _) (by omega)) (offR_ne o1)
 obtain ⟨q', hq', eq'⟩ := on_place n2 eH h.vH.long (h.xs s2) (p := (nrP K v (wy v x), K)) (by show 0 < K; omega) (germ_seg (s := (v, x)) n2 sA.nx (has_a _ _) (has_b _ _) (by omega)) (offR_ne o2)
 rw [h.seg_all s1 hm hq, h.seg_all s2 hm' hq', ← eq, ← eq']
 exact place_inn o1 o2 e
theorem TwoR.one {A H : Ring} (h : TwoR A H) : ∃ V : Int, ∀ p : Spot, 0 < p.2 → place A p = 1 → place H p ≠ 1 → place H p = V := by
  have h4 := h.vA.shut.len
  have eH := shut_ends h.vH.shut
  have sg_ : ∀ i, i + 1 < A.length → (ptAt A i, ptAt A (i + 1)) ∈ segs A := fun i hi => List.mem_of_getElem? (segs_at (ptAt_get (by omega)) (ptAt_get hi))
  obtain ⟨m0, hm0⟩ := mids_some (h.vA.long _ (sg_ 0 (by omega))) H
  have key : ∀ i, i + 1 < A.length → ∀ m ∈ mids (ptAt A i, ptAt A (i + 1)) [H], place H m = place H m0 := by
    intro i
    induction i with
    | zero => intro hi m hm; exact h.seg_all (sg_ 0 hi) hm hm0
    | succ i ih =>
      intro hi m hm
      obtain ⟨q, hq⟩ := mids_some (h.vA.long _ (sg_ i (by omega))) H
      rw [← ih (by omega) q hq]
      exact (h.turn (sg_ i (by omega)) (sg_ (i + 1) hi) hq hm).symm
  refine ⟨place H m0, fun p hw hp hn => ?_⟩
  obtain ⟨s, hs, hh⟩ := place_one.1 hp
  obtain ⟨i, hi⟩ := List.mem_iff_getElem?.1 hs
  have hil : i + 1 < A.length := by have := Pl.lt_of_some hi; rw [segs_len] at this; omega
  have es : s = (ptAt A i, ptAt A (i + 1)) := by
    have := segs_at (ptAt_get (r := A) (i := i) (by omega)) (ptAt_get hil)
    rw [hi] at this
    exact Option.some.inj this
  subst es
  obtain ⟨m, hm, e⟩ := on_place (h.vA.long _ hs) eH h.vH.long (h.xs hs) hw hh hn
  rw [e]
  exact key i hil m hm
def sumI {α : Type} (f : α → Int) (l : List α) : Int := (l.map f).sum
theorem sumI_nil {α : Type} (f : α → Int) : sumI f [] = 0 := rfl
theorem sumI_cons {α : Type} (f : α → Int) (a : α) (l : List α) : sumI f (a :: l) = f a + sumI f l := by simp [sumI]
theorem sumI_append {α : Type} (f : α → Int) (l k : List α) : sumI f (l ++ k) = sumI f l + sumI f k := by simp [sumI]
theorem sumI_congr {α : Type} {f g : α → Int} {l : List α} (h : ∀ x ∈ l, f x = g x) : sumI f l = sumI g l := by
 unfold sumI; congr 1; exact List.map_congr_left h
theorem sumI_add {α : Type} (f g : α → Int) (l : List α) : sumI (fun x => f x + g x) l = sumI f l + sumI g l := by
 induction l with
 | nil => rfl
 | cons a t ih => rw [sumI_cons, sumI_cons, sumI_cons, ih]; omega
theorem sumI_mul {α : Type} (k : Int) (f : α → Int) (l : List α) : sumI (fun x => k * f x) l = k * sumI f l := by
 induction l with
 | nil => simp [sumI]
 | cons a t ih => rw [sumI_cons, sumI_cons, ih, Int.mul_add]
theorem sumI_neg {α : Type} (f : α → Int) (l : List α) : sumI (fun x => -(f x)) l = -(sumI f l) := by
 induction l with
 | nil => rfl
 | cons a t ih => rw [sumI_cons, sumI_cons, ih]; omega
theorem sumI_swap {α β : Type} (f : α → β → Int) (l : List α) (k : List β) : sumI (fun x => sumI (f x) k) l = sumI (fun y => sumI (fun x => f x y) l) k := by
  induction l with
  | nil => simp only [sumI_nil]; induction k with
    | nil => rfl
    | cons b t ih => rw [sumI_cons, ← ih]; rfl
  | cons a t ih =>
    rw [sumI_cons, ih, ← sumI_add]
    exact sumI_congr fun y _ => (sumI_cons (fun x => f x y) a t).symm
theorem sumI_nonneg {α : Type} {f : α → Int} {l : List α} (h : ∀ x ∈ l, 0 ≤ f x) : 0 ≤ sumI f l := by
 induction l with
 | nil => exact Int.le_refl _
 | cons a t ih => rw [sumI_cons]; have := h a (by simp); have := ih fun x hx => h x (by simp [hx]); omega
theorem sumI_pos {α : Type} {f : α → Int} {l : List α} (h : ∀ x ∈ l, 0 ≤ f x) (k : ∃ x ∈ l, 0 < f x) : 0 < sumI f l := by
  induction l with
  | nil => obtain ⟨x, hx, _⟩ := k; simp at hx
  | cons a t ih =>
    rw [sumI_cons]
    have h1 := h a (by simp)
    have h2 : 0 ≤ sumI f t := sumI_nonneg fun x hx => h x (by simp [hx])
    obtain ⟨x, hx, hp⟩ := k
    rcases List.mem_cons.1 hx with rfl | hx
    · omega
    · have := ih (fun x hx => h x (by simp [hx])) ⟨x, hx, hp⟩; omega
theorem sumI_filter {α : Type} (p : α → Bool) (f : α → Int) (l : List α) : sumI f (l.filter p) = sumI (fun x => if p x = true then f x else 0) l := by
  induction l with
  | nil => rfl
  | cons a t ih =>
    rw [List.filter_cons]
    by_cases h : p a = true
    · rw [if_pos h, sumI_cons, sumI_cons, if_pos h, ih]
    · rw [if_neg h, sumI_cons, if_neg h, ih]; omega
theorem sum_chain (g : Pnt → Int) : ∀ (t : Ring) (a : Pnt), sumI (fun s : Seg => g s.2 - g s.1) (segs (a :: t)) = g ((a :: t).getLast (by simp)) - g a := by
  intro t
  induction t with
  | nil => intro a; simp [segs, sumI]
  | cons b t ih =>
    intro a
    rw [segs_cons2, sumI_cons, ih b]
    simp only [List.getLast_cons_cons]
    omega
theorem sum_ring (g : Pnt → Int) {r : Ring} (h : Ends r) : sumI (fun s : Seg => g s.2 - g s.1) (segs r) = 0 := by
  cases r with
  | nil => rfl
  | cons a t =>
    rw [sum_chain]
    unfold Ends at h
    rw [List.head?_cons, List.getLast?_eq_some_getLast (by simp)] at h
    rw [← Option.some.inj h]; omega
abbrev XU := Int × Bool
def cntG (P : List XU) (x : Int) : Bool := P.foldr (fun p b => decide (x < p.1) ^^ b) false
theorem cntG_cons (p : XU) (P : List XU) (x : Int) : cntG (p :: P) x = (decide (x < p.1) ^^ cntG P x) := rfl
theorem cntG_append (P Q : List XU) (x : Int) : cntG (P ++ Q) x = (cntG P x ^^ cntG Q x) := by
 induction P with
 | nil => simp [cntG]
 | cons p t ih => rw [List.cons_append, cntG_cons, cntG_cons, ih, Bool.xor_assoc]
theorem cntG_out (P Q : List XU) (p : XU) (x : Int) : cntG (P ++ p :: Q) x = (decide (x < p.1) ^^ cntG (P ++ Q) x) := by
 rw [cntG_append, cntG_cons, cntG_append]
 cases decide (x < p.1) <;> cases cntG P x <;> cases cntG Q x <;> rfl
def sgU (u : Bool) : Int := if u = true then 1 else -1
def sgX (p : XU) : Int := sgU p.2 * p.1
theorem cntG_none {P : List XU} {x : Int} (h : ∀ p ∈ P, p.1 ≤ x) : cntG P x = false := by
  induction P with
  | nil => rfl
  | cons p t ih =>
    rw [cntG_cons, ih fun q hq => h q (by simp [hq]), decide_eq_false (by have := h p (by simp); omega)]; rfl
theorem ex_top {P : List XU} (h : P ≠ []) : ∃ A p B, P = A ++ p :: B ∧ ∀ q ∈ P, q.1 ≤ p.1 := by
 obtain ⟨p, hp, -, hm⟩ := ex_max (fun q : XU => q.1) (fun _ => True) P (by
  cases P with
  | nil => exact absurd rfl h
  | cons a t => exact ⟨a, by simp, trivial⟩)
 obtain ⟨A, B, e⟩ := List.append_of_mem hp
 exact ⟨A, p, B, e, fun q hq => hm q hq trivial⟩
structure Alt (P : List XU) : Prop where
 nd : (P.map (·.1)).Nodup
 al : ∀ p ∈ P, (cntG P p.1 ^^ p.2) = true
theorem nd_out {A B : List XU} {p : XU} (h : ((A ++ p :: B).map (·.1)).Nodup) : ((A ++ B).map (·.1)).Nodup ∧ ∀ q ∈ A ++ B, q.1 ≠ p.1 := by
 rw [List.map_append, List.map_cons, List.nodup_append] at h
 obtain ⟨h1, h2, h3⟩ := h
 rw [List.nodup_cons] at h2
 constructor
 ·rw [List.map_append, List.nodup_append]
  exact ⟨h1, h2.2, fun a ha b hb => h3 a ha b (List.mem_cons_of_mem _ hb)⟩
 ·intro q hq e
  rcases List.mem_append.1 hq with hq | hq
  ·exact h3 q.1 (List.mem_map_of_mem hq) p.1 (by simp) e
  ·exact h2.1 (e ▸ List.mem_map_of_mem hq)
theorem sum_out {α : Type} (f : α → Int) (A B : List α) (p : α) : sumI f (A ++ p :: B) = f p + sumI f (A ++ B) := by
 rw [sumI_append, sumI_cons, sumI_append]; omega
theorem alt_pos : ∀ (n : Nat) (P : List XU), P.length ≤ n → Alt P → sumI (fun p => sgU p.2) P = 0 → P ≠ [] → 0 < sumI sgX P := by
  intro n
  induction n with
  | zero => intro P hl _ _ hne; exact absurd (List.eq_nil_of_length_eq_zero (by omega)) hne
  | succ n ih =>
    intro P hl h hs hne
    obtain ⟨A, p, B, rfl, hp⟩ := ex_top hne
    obtain ⟨nd1, ne1⟩ := nd_out h.nd
    have up : p.2 = true := by
      have := h.al p (by simp)
      rw [cntG_none fun q hq => hp q hq] at this
      simpa using this
    rw [sum_out] at hs
    have hne2 : A ++ B ≠ [] := by
      intro e
      rw [e, sumI_nil, up] at hs
      simp [sgU] at hs
    obtain ⟨C, q, D, e2, hq⟩ := ex_top hne2
    rw [e2] at hs nd1 ne1 hq
    obtain ⟨nd2, ne2⟩ := nd_out nd1
    have lt1 : ∀ x ∈ C ++ q :: D, x.1 < p.1 := fun x hx => by
      have h1 := hp x (by
        have : x ∈ A ++ B := by rw [e2]; exact hx
        rcases List.mem_append.1 this with k | k <;> simp [k])
      have := ne1 x hx
      omega
    have lt2 : ∀ x ∈ C ++ D, x.1 < q.1 := fun x hx => by
      have h1 := hq x (by rcases List.mem_append.1 hx with k | k <;> simp [k])
      have := ne2 x hx
      omega
    have cn : ∀ x : Int, cntG (A ++ p :: B) x = (decide (x < p.1) ^^ (decide (x < q.1) ^^ cntG (C ++ D) x)) := fun x => by rw [cntG_out, e2, cntG_out]
    have uq : q.2 = false := by
      have := h.al q (by
        have : q ∈ A ++ B := by rw [e2]; simp
        rcases List.mem_append.1 this with k | k <;> simp [k])
      rw [cn, decide_eq_true (lt1 q (by simp)), decide_eq_false (by omega), cntG_none fun x hx => by have := lt2 x hx; omega] at this
      simpa using this
    rw [sum_out, e2, sum_out]
    rw [sum_out, up, uq] at hs
    have hpq := lt1 q (by simp)
    have e1 : sgX p = p.1 := by simp [sgX, sgU, up]
    have e3 : sgX q = -q.1 := by simp [sgX, sgU, uq]
    have alt2 : Alt (C ++ D) := ⟨nd2, fun x hx => by
      have := h.al x (by
        have : x ∈ A ++ B := by rw [e2]; rcases List.mem_append.1 hx with k | k <;> simp [k]
        rcases List.mem_append.1 this with k | k <;> simp [k])
      rw [cn, decide_eq_true (lt1 x (by rcases List.mem_append.1 hx with k | k <;> simp [k])), decide_eq_true (lt2 x hx)] at this
      simpa using this⟩
    have hs2 : sumI (fun p => sgU p.2) (C ++ D) = 0 := by
      have a1 : sgU true = 1 := rfl
      have a2 : sgU false = -1 := rfl
      rw [a1, a2] at hs
      omega
    have hl2 : (C ++ D).length ≤ n := by
      have := congrArg List.length e2
      simp only [List.length_append, List.length_cons] at this hl ⊢
      omega
    by_cases hz : C ++ D = []
    · rw [hz, sumI_nil, e1, e3]; omega
    · have := ih (C ++ D) hl2 alt2 hs2 hz
      rw [e1, e3]; omega
def flipU (P : List XU) : List XU := P.map fun p => (p.1, !p.2)
theorem cntG_flip (P : List XU) (x : Int) : cntG (flipU P) x = cntG P x := by
 induction P with
 | nil => rfl
 | cons p t ih => show (_ ^^ cntG (flipU t) x) = _; rw [ih]; rfl
theorem sum_flip (P : List XU) : sumI sgX (flipU P) = -(sumI sgX P) ∧ sumI (fun p => sgU p.2) (flipU P) = -(sumI (fun p => sgU p.2) P) := by
  induction P with
  | nil => exact ⟨rfl, rfl⟩
  | cons p t ih =>
    show sumI sgX ((p.1, !p.2) :: flipU t) = _ ∧ sumI (fun p => sgU p.2) ((p.1, !p.2) :: flipU t) = _
    rw [sumI_cons, sumI_cons, sumI_cons, sumI_cons, ih.1, ih.2]
    unfold sgX sgU
    cases p.2 <;> simp <;> omega
theorem alt_any {P : List XU} {L : Bool} (nd : (P.map (·.1)).Nodup) (al : ∀ p ∈ P, (cntG P p.1 ^^ p.2) = L) (hs : sumI (fun p => sgU p.2) P = 0) :
    (P = [] → sumI sgX P = 0) ∧ (P ≠ [] → 0 < sgU L * sumI sgX P) := by
  refine ⟨fun e => by rw [e]; rfl, fun hne => ?_⟩
  cases L with
  | true =>
    have := alt_pos P.length P (Nat.le_refl _) ⟨nd, al⟩ hs hne
    simpa [sgU] using this
  | false =>
    have h1 : Alt (flipU P) := by
      refine ⟨by unfold flipU; rw [List.map_map]; exact nd, fun p hp => ?_⟩
      obtain ⟨q, hq, rfl⟩ := List.mem_map.1 hp
      have := al q hq
      simp only [cntG_flip]
      revert this
      cases cntG P q.1 <;> cases q.2 <;> simp
    have := alt_pos (flipU P).length (flipU P) (Nat.le_refl _) h1 (by rw [(sum_flip P).2, hs]; rfl) (fun e => hne (by unfold flipU at e; simpa using e))
    rw [(sum_flip P).1] at this
    simp [sgU]; omega
def dyS (s : Seg) : Int := s.2.2 - s.1.2
def KOk (K : Int) (l : List Seg) : Prop := 0 < K ∧ ∀ s ∈ l, ∃ q, q * dyS s = K ∨ dyS s = 0
def qd (K : Int) (s : Seg) : Int := K / dyS s
theorem qd_mul {K : Int} {s : Seg} (h : ∃ q, q * dyS s = K ∨ dyS s = 0) (h0 : dyS s ≠ 0) : qd K s * dyS s = K := by
 obtain ⟨q, h | h⟩ := h
 ·unfold qd; rw [← h, Int.mul_ediv_cancel _ h0]
 ·exact absurd h h0
theorem ex_K : ∀ l : List Seg, ∃ K, KOk K l := by
  intro l
  induction l with
  | nil => exact ⟨1, by omega, fun s hs => by simp at hs⟩
  | cons a t ih =>
    obtain ⟨K, hK, h⟩ := ih
    by_cases h0 : dyS a = 0
    · refine ⟨K, hK, fun s hs => ?_⟩
      rcases List.mem_cons.1 hs with rfl | hs
      · exact ⟨0, .inr h0⟩
      · exact h s hs
    · refine ⟨K * (dyS a * dyS a), pp hK (sq_pos h0), fun s hs => ?_⟩
      rcases List.mem_cons.1 hs with rfl | hs
      · exact ⟨K * dyS s, .inl (by rw [Int.mul_assoc])⟩
      · obtain ⟨q, hq | hq⟩ := h s hs
        · exact ⟨q * (dyS a * dyS a), .inl (by rw [← hq]; grind)⟩
        · exact ⟨0, .inr hq⟩
def cj (s : Seg) (j : Int) : Bool := decide ((s.1.2 ≤ j ∧ j < s.2.2) ∨ (s.2.2 ≤ j ∧ j < s.1.2))
theorem cj_ne {s : Seg} {j : Int} (h : cj s j = true) : dyS s ≠ 0 := by unfold cj at h; have := of_decide_eq_true h; unfold dyS; omega
def Xk (K : Int) (s : Seg) (j : Int) : Int := 2 * K * s.1.1 + (s.2.1 - s.1.1) * (2 * j + 1 - 2 * s.1.2) * qd K s
def ms (K : Int) (x j : Int) : Spot := ((x, K * (2 * j + 1)), 2 * K)
theorem cr_X {K : Int} {s : Seg} (hq : qd K s * dyS s = K) (x j : Int) : cr s.1 s.2 (ms K x j).1 (ms K x j).2 = dyS s * (Xk K s j - x) := by
 unfold cr ms Xk dyS at *
 simp only
 generalize qd K s = q at *
 grind
theorem hgt {K y j : Int} (hK : 0 < K) : y * (2 * K) > K * (2 * j + 1) ↔ j < y := by
 rw [show y * (2 * K) = K * (2 * y) by grind]
 constructor
 ·intro h
  have := Int.lt_of_mul_lt_mul_left h (by omega)
  omega
 ·intro h
  exact Int.mul_lt_mul_of_pos_left (by omega) hK
theorem ray_X {K : Int} {s : Seg} (hK : 0 < K) (h : ∃ q, q * dyS s = K ∨ dyS s = 0) (x j : Int) : ray s.1 s.2 (ms K x j).1 (ms K x j).2 = decide (cj s j = true ∧ x < Xk K s j) := by
 unfold ray
 have e1 : decide (s.1.2 * (ms K x j).2 > (ms K x j).1.2) = decide (j < s.1.2) := decide_eq_decide.2 (hgt hK)
 have e2 : (s.2.2 * (ms K x j).2 > (ms K x j).1.2) ↔ j < s.2.2 := hgt hK
 have e2' : decide (s.2.2 * (ms K x j).2 > (ms K x j).1.2) = decide (j < s.2.2) := decide_eq_decide.2 e2
 rw [e1, e2']
 by_cases c : cj s j = true
 ·have hq := qd_mul h (cj_ne c)
  have hc := of_decide_eq_true c
  rw [cr_X hq]
  have d0 : dyS s = s.2.2 - s.1.2 := rfl
  rcases hc with ⟨h1, h2⟩ | ⟨h1, h2⟩
  ·rw [decide_eq_false (by omega : ¬ j < s.1.2), decide_eq_true h2, if_neg (by decide), if_pos (e2.2 h2)]
   apply decide_eq_decide.2
   rw [sg_pos]
   have dp : 0 < dyS s := by omega
   constructor
   ·intro k; refine ⟨c, ?_⟩; rcases Int.lt_or_le x (Xk K s j) with g | g; exact g; exact absurd k (by have := m0 (x := dyS s) (y := Xk K s j - x) (by omega) (by omega); omega)
   ·intro k; exact pp dp (by omega)
  ·rw [decide_eq_true h2, decide_eq_false (by omega : ¬ j < s.2.2), if_neg (by decide), if_neg (fun k => by have := e2.1 k; omega)]
   apply decide_eq_decide.2
   rw [sg_neg]
   have dn : dyS s < 0 := by omega
   constructor
   ·intro k; refine ⟨c, ?_⟩; rcases Int.lt_or_le x (Xk K s j) with g | g; exact g; exact absurd k (by have := q0 (x := dyS s) (y := Xk K s j - x) (by omega) (by omega); omega)
   ·intro k; exact np dn (by omega)
 ·have hc : ¬ ((s.1.2 ≤ j ∧ j < s.2.2) ∨ (s.2.2 ≤ j ∧ j < s.1.2)) := fun k => c (decide_eq_true k)
  rw [if_pos (by apply decide_eq_decide.2; omega)]
  exact (decide_eq_false fun k => c k.1).symm
theorem ins_X {K : Int} {s : Seg} (hK : 0 < K) (h : ∃ q, q * dyS s = K ∨ dyS s = 0) {j : Int} (c : cj s j = true) : InsS s.1 s.2 (ms K (Xk K s j) j) := by
 have hq := qd_mul h (cj_ne c)
 have hc := of_decide_eq_true c
 have h2K : (0 : Int) < 2 * K := by omega
 have hg := fun y => hgt (K := K) (y := y) (j := j) hK
 have par : ∀ y : Int, K * (2 * j + 1) ≠ 2 * K * y := fun y e => by
  rw [show 2 * K * y = K * (2 * y) by grind] at e
  have := Int.eq_of_mul_eq_mul_left (by omega) e
  omega
 refine ⟨h2K, ?_, ?_, ?_⟩
 ·have e0 : cr s.1 s.2 (ms K (Xk K s j) j).1 (ms K (Xk K s j) j).2 = 0 := by rw [cr_X hq, Int.sub_self, Int.mul_zero]
  have k1 : has (sc (2 * K) s.1) (sc (2 * K) s.2) (ms K (Xk K s j) j).1 1 := by
   refine has_line_y ?_ ?_
   ·rw [cr_sc, Int.mul_one]
    have : cr s.1 s.2 (ms K (Xk K s j) j).1 (2 * K) = 0 := e0
    rw [this, Int.mul_zero]
   ·show (2 * K * s.1.2 ≤ K * (2 * j + 1) ∧ K * (2 * j + 1) ≤ 2 * K * s.2.2 ∧ 2 * K * s.1.2 < 2 * K * s.2.2) ∨ (2 * K * s.2.2 ≤ K * (2 * j + 1) ∧ K * (2 * j + 1) ≤ 2 * K * s.1.2 ∧ 2 * K * s.2.2 < 2 * K * s.1.2)
    have g1 := hg s.1.2
    have g2 := hg s.2.2
    rw [show s.1.2 * (2 * K) = 2 * K * s.1.2 by grind] at g1
    rw [show s.2.2 * (2 * K) = 2 * K * s.2.2 by grind] at g2
    rcases hc with ⟨h1, h2⟩ | ⟨h1, h2⟩
    ·left
     have a1 : ¬ 2 * K * s.1.2 > K * (2 * j + 1) := fun k => by have := g1.1 k; omega
     have a2 := g2.2 h2
     omega
    ·right
     have a1 : ¬ 2 * K * s.2.2 > K * (2 * j + 1) := fun k => by have := g2.1 k; omega
     have a2 := g1.2 h2
     omega
  rw [has_sc h2K, Int.mul_one] at k1
  exact k1
 ·intro e
  have : K * (2 * j + 1) = 2 * K * s.1.2 := congrArg Prod.snd e
  exact par _ this
 ·intro e
  have : K * (2 * j + 1) = 2 * K * s.2.2 := congrArg Prod.snd e
  exact par _ this
theorem VR.offS {p1 : Ring} {a b : Pnt} {p2 : Ring} (h : VR (p1 ++ a :: b :: p2)) {t : Seg} (ht : t ∈ oth p1 a b p2) {m : Spot} (hm : InsS a b m) : ¬ has t.1 t.2 m.1 m.2 := by
 have h' := vr_sc hm.w h
 rw [scR_append, scR_cons, scR_cons] at h'
 have i1 := hm.int (k := 1) (by omega)
 rw [Int.one_mul] at i1
 have ht' : scS m.2 t ∈ oth (scR m.2 p1) (sc m.2 a) (sc m.2 b) (scR m.2 p2) := by rw [oth_sc]; exact List.mem_map_of_mem ht
 have := h'.off ht' i1
 intro hh
 apply this
 show has (sc m.2 t.1) (sc m.2 t.2) (sc 1 m.1) 1
 rw [has_sc hm.w, Int.mul_one]
 have e : sc 1 m.1 = m.1 := by unfold sc; exact Prod.ext (by simp) (by simp)
 rw [e]; exact hh
theorem on_X {K : Int} {s : Seg} (hK : 0 < K) (h : ∃ q, q * dyS s = K ∨ dyS s = 0) {j : Int} (c : cj s j = true) : has s.1 s.2 (ms K (Xk K s j) j).1 (ms K (Xk K s j) j).2 := (ins_X hK h c).on
theorem later_oth {r : Ring} {i k : Nat} (hi : i + 1 < r.length) (hk : k + 1 < r.length) (hne : i ≠ k) : (ptAt r k, ptAt r (k + 1)) ∈ oth (r.take i) (ptAt r i) (ptAt r (i + 1)) (r.drop (i + 2)) := by
 have e := split_at hi
 have es := segs_split (r.take i) (ptAt r i) (ptAt r (i + 1)) (r.drop (i + 2))
 rw [← e] at es
 have hs := segs_at (ptAt_get (r := r) (i := k) (by omega)) (ptAt_get hk)
 rw [es] at hs
 have hl : (segs (r.take i ++ [ptAt r i])).length = i := by rw [segs_len, List.length_append, List.length_take]; simp; omega
 unfold oth
 rcases Nat.lt_or_ge k i with g | g
 ·rw [List.getElem?_append_left (by omega)] at hs
  exact List.mem_append_left _ (Pl.mem_of_some hs)
 ·rw [List.getElem?_append_right (by omega), hl, show k - i = (k - i - 1) + 1 by omega, List.getElem?_cons_succ] at hs
  exact List.mem_append_right _ (Pl.mem_of_some hs)
def atJ (K j : Int) (l : List Seg) : List XU := (l.filter fun s => cj s j).map fun s => (Xk K s j, upS s.1 s.2)
theorem cnt_rays {K : Int} (hK : 0 < K) (x j : Int) : ∀ l : List Seg, (∀ s ∈ l, ∃ q, q * dyS s = K ∨ dyS s = 0) → cntG (atJ K j l) x = raysS l (ms K x j) := by
  intro l
  induction l with
  | nil => intro _; rfl
  | cons s t ih =>
    intro h
    rw [raysS_cons, ray_X hK (h s (by simp)), ← ih fun y hy => h y (by simp [hy])]
    unfold atJ
    rw [List.filter_cons]
    by_cases c : cj s j = true
    · rw [if_pos c, List.map_cons, cntG_cons]
      congr 1
      exact decide_eq_decide.2 ⟨fun k => ⟨c, k⟩, fun k => k.2⟩
    · rw [if_neg c, decide_eq_false (fun k => c k.1)]; simp
theorem at_height {r : Ring} (h : VR r) {K : Int} (hK : KOk K (segs r)) (j : Int) :
  (atJ K j (segs r) = [] → sumI sgX (atJ K j (segs r)) = 0) ∧ (atJ K j (segs r) ≠ [] → 0 < sgU (LhI r 0) * sumI sgX (atJ K j (segs r))) := by
 refine alt_any ?_ ?_ ?_
 ·unfold atJ
  rw [List.map_map]
  have key : (segs r).Pairwise fun s t => cj s j = true → cj t j = true → Xk K s j ≠ Xk K t j := by
   rw [List.pairwise_iff_getElem]
   intro i k hi hk hik c1 c2 e
   rw [segs_len] at hi hk
   have e1 : (segs r)[i] = (ptAt r i, ptAt r (i + 1)) := by
    have := segs_at (ptAt_get (r := r) (i := i) (by omega)) (ptAt_get (by omega)); rw [List.getElem?_eq_getElem (by rw [segs_len]; omega)] at this; exact Option.some.inj this
   have e2 : (segs r)[k] = (ptAt r k, ptAt r (k + 1)) := by
    have := segs_at (ptAt_get (r := r) (i := k) (by omega)) (ptAt_get (by omega)); rw [List.getElem?_eq_getElem (by rw [segs_len]; omega)] at this; exact Option.some.inj this
   rw [e1] at c1 e
   rw [e2] at c2 e
   have m1 : (ptAt r i, ptAt r (i + 1)) ∈ segs r := e1 ▸ List.getElem_mem _
   have m2 : (ptAt r k, ptAt r (k + 1)) ∈ segs r := e2 ▸ List.getElem_mem _
   have hi' : i + 1 < r.length := by omega
   have hr : VR (r.take i ++ ptAt r i :: ptAt r (i + 1) :: r.drop (i + 2)) := by rw [← split_at hi']; exact h
   have := hr.offS (later_oth (k := k) hi' (by omega) (by omega)) (ins_X hK.1 (hK.2 _ m1) c1)
   rw [e] at this
   exact this (on_X hK.1 (hK.2 _ m2) c2)
  unfold List.Nodup
  rw [List.pairwise_map]
  refine (List.pairwise_filter.2 ?_)
  exact key.imp fun {s t} hst c1 c2 => hst c1 c2
 ·intro p hp
  unfold atJ at hp
  obtain ⟨s, hs, rfl⟩ := List.mem_map.1 hp
  obtain ⟨hs, c⟩ := List.mem_filter.1 hs
  simp only
  rw [cnt_rays hK.1 _ _ _ hK.2]
  obtain ⟨i, hi, rfl⟩ := segs_mem_at hs
  have hr : VR (r.take i ++ ptAt r i :: ptAt r (i + 1) :: r.drop (i + 2)) := by rw [← split_at hi]; exact h
  have hm := ins_X hK.1 (hK.2 _ hs) c
  have e1 : raysS (segs r) (ms K (Xk K (ptAt r i, ptAt r (i + 1)) j) j) = raysS (oth (r.take i) (ptAt r i) (ptAt r (i + 1)) (r.drop (i + 2))) (ms K (Xk K (ptAt r i, ptAt r (i + 1)) j) j) := by
   have rs : ∀ M : Spot, raysS (segs r) M = (ray (ptAt r i) (ptAt r (i + 1)) M.1 M.2 ^^ raysS (oth (r.take i) (ptAt r i) (ptAt r (i + 1)) (r.drop (i + 2))) M) := fun M => by
    have := rays_oth (r.take i) (ptAt r i) (ptAt r (i + 1)) (r.drop (i + 2)) M
    rw [← split_at hi] at this
    exact this
   rw [rs]
   have := ray_X hK.1 (hK.2 _ hs) (Xk K (ptAt r i, ptAt r (i + 1)) j) j
   simp only at this
   rw [this, decide_eq_false (by omega)]; simp
  rw [e1]
  have e2 := hr.lh_spots hm (mid_ins hr.here)
  have e3 := h.lhI_all i hi
  exact e2.trans e3
 ·unfold atJ
  have e1 : sumI (fun p : XU => sgU p.2) (((segs r).filter fun s => cj s j).map fun s => (Xk K s j, upS s.1 s.2)) = sumI (fun s : Seg => sgU (upS s.1 s.2)) ((segs r).filter fun s => cj s j) := by
   unfold sumI; rw [List.map_map]; rfl
  rw [e1, sumI_filter]
  have e2 := sum_ring (fun p : Pnt => if j < p.2 then (1 : Int) else 0) (shut_ends h.shut)
  refine Eq.trans ?_ e2
  refine sumI_congr fun s hs => ?_
  by_cases c : cj s j = true
  ·rw [if_pos c]
   rcases of_decide_eq_true c with ⟨h1, h2⟩ | ⟨h1, h2⟩
   ·rw [if_pos h2, if_neg (by omega)]
    have : upS s.1 s.2 = true := by unfold upS; exact decide_eq_true (by omega)
    rw [this]; rfl
   ·rw [if_neg (by omega), if_pos h2]
    have : upS s.1 s.2 = false := by unfold upS; exact decide_eq_false (by omega)
    rw [this]; rfl
  ·have hc : ¬ ((s.1.2 ≤ j ∧ j < s.2.2) ∨ (s.2.2 ≤ j ∧ j < s.1.2)) := fun k => c (decide_eq_true k)
   rw [if_neg c]
   by_cases k1 : j < s.2.2
   ·rw [if_pos k1, if_pos (by omega)]; rfl
   ·rw [if_neg k1, if_neg (by omega)]; rfl
def Js (lo : Int) (N : Nat) : List Int := (List.range N).map fun (i : Nat) => lo + (i : Int)
theorem Js_succ (lo : Int) (N : Nat) : Js lo (N + 1) = Js lo N ++ [lo + (N : Int)] := by unfold Js; rw [List.range_succ, List.map_append]; rfl
theorem mem_Js {lo j : Int} {N : Nat} : j ∈ Js lo N ↔ lo ≤ j ∧ j < lo + N := by
 unfold Js
 rw [List.mem_map]
 constructor
 ·rintro ⟨i, hi, rfl⟩; have := List.mem_range.1 hi; omega
 ·rintro ⟨h1, h2⟩; exact ⟨(j - lo).toNat, List.mem_range.2 (by omega), by omega⟩
def Fn (K : Int) (s : Seg) (n : Int) : Int := 2 * K * s.1.1 * n + (s.2.1 - s.1.1) * qd K s * (n * n)
theorem Fn_step (K : Int) (s : Seg) (j : Int) : Fn K s (j + 1 - s.1.2) = Fn K s (j - s.1.2) + Xk K s j := by unfold Fn Xk; grind
def clampN (lo a d : Int) (N : Nat) : Int := if lo + N ≤ a then 0 else if lo + N ≤ a + d then lo + N - a else d
theorem col_up {K : Int} {s : Seg} (lo : Int) (h1 : lo ≤ s.1.2) (h2 : s.1.2 < s.2.2) : ∀ N : Nat, sumI (fun j => if s.1.2 ≤ j ∧ j < s.2.2 then Xk K s j else 0) (Js lo N) = Fn K s (clampN lo s.1.2 (dyS s) N) := by
  intro N
  have d0 : dyS s = s.2.2 - s.1.2 := rfl
  induction N with
  | zero =>
    unfold clampN
    rw [if_pos (by omega)]
    simp [Js, sumI, Fn]
  | succ N ih =>
    rw [Js_succ, sumI_append, ih, sumI_cons, sumI_nil]
    unfold clampN
    by_cases c1 : lo + (N : Int) < s.1.2
    · rw [if_pos (by omega), if_neg (by omega), if_pos (by omega)]; omega
    · by_cases c2 : lo + (N : Int) < s.2.2
      · rw [if_pos (show s.1.2 ≤ lo + (N : Int) ∧ lo + (N : Int) < s.2.2 by omega)]
        have e := Fn_step K s (lo + N)
        have e1 : (if lo + (N : Int) ≤ s.1.2 then (0 : Int) else if lo + (N : Int) ≤ s.1.2 + dyS s then lo + N - s.1.2 else dyS s) = lo + N - s.1.2 := by
          by_cases c3 : lo + (N : Int) ≤ s.1.2
          · rw [if_pos c3]; omega
          · rw [if_neg c3, if_pos (by omega)]
        have e2 : (if lo + ((N + 1 : Nat) : Int) ≤ s.1.2 then (0 : Int) else if lo + ((N + 1 : Nat) : Int) ≤ s.1.2 + dyS s then lo + ((N + 1 : Nat) : Int) - s.1.2 else dyS s) = lo + N + 1 - s.1.2 := by
          rw [if_neg (by omega), if_pos (by omega)]; omega
        rw [e1, e2, e]; omega
      · rw [if_neg (show ¬ (s.1.2 ≤ lo + (N : Int) ∧ lo + (N : Int) < s.2.2) by omega)]
        have e1 : (if lo + (N : Int) ≤ s.1.2 then (0 : Int) else if lo + (N : Int) ≤ s.1.2 + dyS s then lo + N - s.1.2 else dyS s) = dyS s := by
          rw [if_neg (by omega)]
          by_cases c3 : lo + (N : Int) ≤ s.1.2 + dyS s
          · rw [if_pos c3]; omega
          · rw [if_neg c3]
        have e2 : (if lo + ((N + 1 : Nat) : Int) ≤ s.1.2 then (0 : Int) else if lo + ((N + 1 : Nat) : Int) ≤ s.1.2 + dyS s then lo + ((N + 1 : Nat) : Int) - s.1.2 else dyS s) = dyS s := by
          rw [if_neg (by omega), if_neg (by omega)]
        rw [e1, e2]; omega
theorem col_all {K : Int} {s : Seg} (hq : qd K s * dyS s = K) {lo : Int} {N : Nat} (h1 : lo ≤ s.1.2) (h2 : s.1.2 < s.2.2) (h3 : s.2.2 ≤ lo + N) : sumI (fun j => if s.1.2 ≤ j ∧ j < s.2.2 then Xk K s j else 0) (Js lo N) = K * (dyS s * (s.1.1 + s.2.1)) := by
 rw [col_up lo h1 h2]
 have d0 : dyS s = s.2.2 - s.1.2 := rfl
 have e : clampN lo s.1.2 (dyS s) N = dyS s := by
  unfold clampN
  rw [if_neg (by omega)]
  by_cases c3 : lo + (N : Int) ≤ s.1.2 + dyS s
  ·rw [if_pos c3]; omega
  ·rw [if_neg c3]
 rw [e]
 unfold Fn
 generalize qd K s = q at *
 generalize dyS s = d at *
 grind
theorem qd_swap {K : Int} {s : Seg} : qd K (s.2, s.1) = -(qd K s) := by
 unfold qd dyS
 simp only
 rw [show s.1.2 - s.2.2 = -(s.2.2 - s.1.2) by omega, Int.ediv_neg]
theorem Xk_swap {K : Int} {s : Seg} (hq : qd K s * dyS s = K) (j : Int) : Xk K (s.2, s.1) j = Xk K s j := by
 unfold Xk
 rw [qd_swap]
 simp only
 unfold dyS at hq
 generalize qd K s = q at *
 grind
def fS (K : Int) (s : Seg) (j : Int) : Int := if cj s j = true then sgU (upS s.1 s.2) * Xk K s j else 0
theorem sum_col {K : Int} {s : Seg} (h : ∃ q, q * dyS s = K ∨ dyS s = 0) {lo : Int} {N : Nat} (h1 : lo ≤ s.1.2) (h2 : lo ≤ s.2.2) (h3 : s.1.2 ≤ lo + N) (h4 : s.2.2 ≤ lo + N) : sumI (fS K s) (Js lo N) = K * (dyS s * (s.1.1 + s.2.1)) := by
 have d0 : dyS s = s.2.2 - s.1.2 := rfl
 rcases (show s.1.2 < s.2.2 ∨ s.2.2 < s.1.2 ∨ s.1.2 = s.2.2 by omega) with c | c | c
 ·have hq := qd_mul h (by omega)
  rw [← col_all hq h1 c h4]
  refine sumI_congr fun j _ => ?_
  unfold fS
  have u : upS s.1 s.2 = true := by unfold upS; exact decide_eq_true (by omega)
  rw [u]
  by_cases k : cj s j = true
  ·rw [if_pos k, if_pos (by have := of_decide_eq_true k; omega)]; simp [sgU]
  ·rw [if_neg k, if_neg (fun k2 => k (decide_eq_true (.inl k2)))]
 ·have hq := qd_mul h (by omega)
  have hq' : qd K (s.2, s.1) * dyS (s.2, s.1) = K := by
   rw [qd_swap]; unfold dyS at *; simp only; grind
  have e := col_all (s := (s.2, s.1)) hq' (lo := lo) (N := N) h2 c h3
  have e2 : K * (dyS s * (s.1.1 + s.2.1)) = -(K * (dyS (s.2, s.1) * (s.2.1 + s.1.1))) := by unfold dyS; simp only; grind
  rw [e2, ← e, ← sumI_neg]
  refine sumI_congr fun j _ => ?_
  unfold fS
  have u : upS s.1 s.2 = false := by unfold upS; exact decide_eq_false (by omega)
  rw [u]
  simp only
  by_cases k : cj s j = true
  ·rw [if_pos k, if_pos (by have := of_decide_eq_true k; omega), Xk_swap hq]; simp [sgU]
  ·rw [if_neg k, if_neg (fun k2 => k (decide_eq_true (.inr k2)))]; rfl
 ·rw [show dyS s = 0 by omega, Int.zero_mul, Int.mul_zero]
  have : sumI (fS K s) (Js lo N) = sumI (fun _ => (0 : Int)) (Js lo N) := sumI_congr fun j _ => by
   unfold fS; rw [if_neg (fun k => by have := of_decide_eq_true k; omega)]
  rw [this]
  generalize Js lo N = l
  induction l with
  | nil => rfl
  | cons a t ih => rw [sumI_cons, ih]; rfl
def area2 (r : Ring) : Int := sumI (fun s : Seg => dyS s * (s.1.1 + s.2.1)) (segs r)
theorem ex_low : ∀ l : List Seg, ∃ (lo : Int) (N : Nat), ∀ s ∈ l, lo ≤ s.1.2 ∧ lo ≤ s.2.2 ∧ s.1.2 ≤ lo + N ∧ s.2.2 ≤ lo + N := by
  intro l
  induction l with
  | nil => exact ⟨0, 0, fun s hs => by simp at hs⟩
  | cons a t ih =>
    obtain ⟨lo, N, h⟩ := ih
    refine ⟨lo - a.1.2.natAbs - a.2.2.natAbs - lo.natAbs, N + 2 * (a.1.2.natAbs + a.2.2.natAbs + lo.natAbs), fun s hs => ?_⟩
    rcases List.mem_cons.1 hs with rfl | hs
    · omega
    · have := h s hs; omega
theorem sum_at (K j : Int) (l : List Seg) : sumI (fun s => fS K s j) l = sumI sgX (atJ K j l) := by
 unfold atJ
 have : sumI sgX ((l.filter fun s => cj s j).map fun s => (Xk K s j, upS s.1 s.2)) = sumI (fun s : Seg => sgU (upS s.1 s.2) * Xk K s j) (l.filter fun s => cj s j) := by
  unfold sumI; rw [List.map_map]; rfl
 rw [this, sumI_filter]
 rfl
theorem area_hand {r : Ring} (h : VR r) (hn : ∃ s ∈ segs r, dyS s ≠ 0) : 0 < sgU (LhI r 0) * area2 r := by
 obtain ⟨K, hK⟩ := ex_K (segs r)
 obtain ⟨lo, N, hl⟩ := ex_low (segs r)
 have e1 : sumI (fun s => sumI (fS K s) (Js lo N)) (segs r) = K * area2 r := by
  unfold area2
  rw [← sumI_mul]
  refine sumI_congr fun s hs => ?_
  obtain ⟨a, b, c, d⟩ := hl s hs
  exact sum_col (hK.2 s hs) a b c d
 rw [sumI_swap] at e1
 have e2 : sumI (fun j => sgU (LhI r 0) * sumI (fun s => fS K s j) (segs r)) (Js lo N) = sgU (LhI r 0) * (K * area2 r) := by rw [sumI_mul, e1]
 have pos : 0 < sumI (fun j => sgU (LhI r 0) * sumI (fun s => fS K s j) (segs r)) (Js lo N) := by
  have hh : ∀ j, (atJ K j (segs r) = [] → sgU (LhI r 0) * sumI (fun s => fS K s j) (segs r) = 0) ∧ (atJ K j (segs r) ≠ [] → 0 < sgU (LhI r 0) * sumI (fun s => fS K s j) (segs r)) := fun j => by
   obtain ⟨k1, k2⟩ := at_height h hK j
   rw [sum_at]
   exact ⟨fun e => by rw [k1 e, Int.mul_zero], k2⟩
  refine sumI_pos (fun j _ => ?_) ?_
  ·by_cases c : atJ K j (segs r) = []
   ·rw [(hh j).1 c]; exact Int.le_refl _
   ·have := (hh j).2 c; omega
  ·obtain ⟨s, hs, hd⟩ := hn
   obtain ⟨a, b, c, d⟩ := hl s hs
   have d0 : dyS s = s.2.2 - s.1.2 := rfl
   obtain ⟨j, hj, hc⟩ : ∃ j, j ∈ Js lo N ∧ cj s j = true := by
    rcases (show s.1.2 < s.2.2 ∨ s.2.2 < s.1.2 by omega) with k | k
    ·exact ⟨s.1.2, mem_Js.2 (by omega), decide_eq_true (.inl ⟨Int.le_refl _, k⟩)⟩
    ·exact ⟨s.2.2, mem_Js.2 (by omega), decide_eq_true (.inr ⟨Int.le_refl _, k⟩)⟩
   refine ⟨j, hj, (hh j).2 fun e => ?_⟩
   unfold atJ at e
   have : s ∈ (segs r).filter fun s => cj s j := List.mem_filter.2 ⟨hs, hc⟩
   have e3 : (segs r).filter (fun s => cj s j) = [] := by simpa using e
   rw [e3] at this
   simp at this
 rw [e2] at pos
 have : sgU (LhI r 0) * (K * area2 r) = K * (sgU (LhI r 0) * area2 r) := by grind
 rw [this] at pos
 rcases Int.lt_or_le 0 (sgU (LhI r 0) * area2 r) with k | k
 ·exact k
 ·have := m0 (x := K) (y := sgU (LhI r 0) * area2 r) (by have := hK.1; omega) k; omega
theorem ray_left {a b p : Pnt} (h1 : p.1 < a.1) (h2 : p.1 < b.1) : ray a b p 1 = (decide (p.2 < a.2) ^^ decide (p.2 < b.2)) := by
 have id : cr a b p 1 = (p.2 - a.2) * (b.1 - p.1) + (b.2 - p.2) * (a.1 - p.1) := by unfold cr; grind
 unfold ray
 simp only [Int.mul_one]
 by_cases c1 : p.2 < a.2
 ·by_cases c2 : p.2 < b.2
  ·rw [if_pos (by rw [decide_eq_true c1, decide_eq_true c2]), decide_eq_true c1, decide_eq_true c2]; rfl
  ·rw [decide_eq_true c1, decide_eq_false c2, if_neg (by decide), if_neg (by omega)]
   have k1 : (p.2 - a.2) * (b.1 - p.1) < 0 := np (by omega) (by omega)
   have k2 : (b.2 - p.2) * (a.1 - p.1) ≤ 0 := n0 (by omega) (by omega)
   rw [decide_eq_true ((sg_neg _).2 (by omega))]; rfl
 ·by_cases c2 : p.2 < b.2
  ·rw [decide_eq_false c1, decide_eq_true c2, if_neg (by decide), if_pos (by omega)]
   have k1 : 0 ≤ (p.2 - a.2) * (b.1 - p.1) := p0 (by omega) (by omega)
   have k2 : 0 < (b.2 - p.2) * (a.1 - p.1) := pp (by omega) (by omega)
   rw [decide_eq_true ((sg_pos _).2 (by omega))]; rfl
  ·rw [if_pos (by rw [decide_eq_false c1, decide_eq_false c2]), decide_eq_false c1, decide_eq_false c2]; rfl
theorem rays_left {p : Pnt} : ∀ (t : Ring) (a : Pnt), (∀ v ∈ a :: t, p.1 < v.1) → raysS (segs (a :: t)) (p, 1) = (decide (p.2 < a.2) ^^ decide (p.2 < ((a :: t).getLast (by simp)).2)) := by
  intro t
  induction t with
  | nil =>
    intro a _
    simp [segs, raysS]
    try exact decide_eq_decide.2 Iff.rfl
  | cons b t ih =>
    intro a h
    rw [segs_cons2, raysS_cons, ih b fun v hv => h v (by simp [hv]), ray_left (h a (by simp)) (h b (by simp))]
    simp only [List.getLast_cons_cons]
    cases decide (p.2 < a.2) <;> cases decide (p.2 < b.2) <;> simp <;> exact decide_eq_decide.2 Iff.rfl
theorem left_out {r : Ring} (he : Ends r) {p : Pnt} (h : ∀ v ∈ r, p.1 < v.1) : place r (p, 1) = 0 := by
  have hn : ∀ s ∈ segs r, ¬ has s.1 s.2 p 1 := fun s hs k => by
    obtain ⟨m1, m2⟩ := segs_mem hs
    have a1 := h _ m1
    have a2 := h _ m2
    have := k.2.1
    unfold btw at this
    simp only [Int.mul_one] at this
    omega
  rw [place_rays (p := (p, 1)) hn]
  cases r with
  | nil => rfl
  | cons a t =>
    rw [rays_left t a h]
    unfold Ends at he
    rw [List.head?_cons, List.getLast?_eq_some_getLast (by simp)] at he
    rw [← Option.some.inj he]
    simp
theorem least_turn {a b c : Pnt} (hab : a ≠ b) (hcb : c ≠ b) (ha : ¬ bef a b) (hc : ¬ bef c b) (h : cr a b c 1 ≠ 0 ∨ has a c b 1) : cr a b c 1 ≠ 0 := by
 rcases h with h | h
 ·exact h
 ·exfalso
  have ne1 : a.1 ≠ b.1 ∨ a.2 ≠ b.2 := by
   by_cases k : a.1 = b.1
   ·exact .inr fun e => hab (Prod.ext k e)
   ·exact .inl k
  have ne2 : c.1 ≠ b.1 ∨ c.2 ≠ b.2 := by
   by_cases k : c.1 = b.1
   ·exact .inr fun e => hcb (Prod.ext k e)
   ·exact .inl k
  unfold bef at ha hc
  obtain ⟨h0, h1, h2⟩ := h
  unfold btw at h1 h2
  simp only [Int.mul_one] at h1 h2
  have e : a.1 = b.1 ∨ c.1 = b.1 := by omega
  have id : (c.1 - a.1) * (b.2 - a.2) - (c.2 - a.2) * (b.1 - a.1) = 0 := by unfold cr at h0; simpa using h0
  rcases e with e | e
  ·rw [← e, Int.sub_self, Int.mul_zero, Int.sub_zero] at id
   rcases Int.mul_eq_zero.1 id with k | k <;> omega
  ·have : (b.1 - a.1) * (b.2 - a.2 - (c.2 - a.2)) = 0 := by rw [← e] at id ⊢; grind
   rcases Int.mul_eq_zero.1 this with k | k <;> omega
theorem near_next {b c u v : Pnt} {k : Int} (hk : 0 < k) (hu : u.1 < 0) (hd : b.1 ≤ c.1) {σ : Int}
  (h1 : 0 < σ * (v.1 * u.2 - v.2 * u.1)) (h2 : σ * (v.1 * (c.2 - b.2) - v.2 * (c.1 - b.1)) < 0) (hs : σ = 1 ∨ σ = -1) :
  Off (nrP k b u) (nrP k b v) (sc k b) (sc k c) ∧ ¬ Xs (nrP k b u) (nrP k b v) (sc k b) (sc k c) := by
 have cb : cr (nrP k b u) (nrP k b v) (sc k b) 1 = -(v.1 * u.2 - v.2 * u.1) := by unfold cr nrP sc; grind
 have cc : cr (nrP k b u) (nrP k b v) (sc k c) 1 = k * ((v.1 * (c.2 - b.2) - v.2 * (c.1 - b.1)) + ((c.1 - b.1) * u.2 - (c.2 - b.2) * u.1)) - (v.1 * u.2 - v.2 * u.1) := by unfold cr nrP sc; grind
 have cz : cr (sc k b) (sc k c) (nrP k b u) 1 = k * ((c.1 - b.1) * u.2 - (c.2 - b.2) * u.1) := by unfold cr nrP sc; grind
 have cm : cr (sc k b) (sc k c) (nrP k b v) 1 = -(k * (v.1 * (c.2 - b.2) - v.2 * (c.1 - b.1))) := by unfold cr nrP sc; grind
 have bz : cr (sc k b) (nrP k b v) (nrP k b u) 1 = v.1 * u.2 - v.2 * u.1 := by unfold cr nrP sc; grind
 have bc : cr (sc k b) (nrP k b v) (sc k c) 1 = k * (v.1 * (c.2 - b.2) - v.2 * (c.1 - b.1)) := by unfold cr nrP sc; grind
 have bm : cr (sc k b) (nrP k b v) (nrP k b v) 1 = 0 := by unfold cr nrP sc; grind
 generalize hX : v.1 * u.2 - v.2 * u.1 = X at *
 generalize hD : v.1 * (c.2 - b.2) - v.2 * (c.1 - b.1) = D at *
 generalize hE : (c.1 - b.1) * u.2 - (c.2 - b.2) * u.1 = E at *
 have hX0 : X ≠ 0 := by rcases hs with rfl | rfl <;> omega
 have hD0 : D ≠ 0 := by rcases hs with rfl | rfl <;> omega
 have hkD : k * D ≠ 0 := fun e => by rcases Int.mul_eq_zero.1 e with g | g <;> omega
 have hzm : nrP k b u ≠ nrP k b v := fun e => by
  have : X = 0 := by rw [← bz, e, bm]
  exact hX0 this
 refine ⟨⟨fun q => ?_, fun q => ?_, fun q => ?_, fun q => ?_⟩, fun q => ?_⟩
 ·have := q.1; rw [cb] at this; omega
 ·obtain ⟨q0', q1, q2⟩ := (has_on hzm (by omega)).1 q
  have e := cr_on q.1 (sc k b) (nrP k b v)
  rw [bc, bz, bm, Int.mul_zero, Int.add_zero] at e
  have kp := kk_pos hzm
  have p1 : 0 ≤ kk (nrP k b u) (nrP k b v) - pos (nrP k b u) (nrP k b v) (sc k c) := by
   rw [Int.mul_one] at q2
   unfold pos
   omega
  rcases hs with rfl | rfl
  ·have g1 : D < 0 := by omega
   have g2 : 0 < X := by omega
   have g3 := pn kp (pn hk g1)
   have g4 := p0 p1 (show 0 ≤ X by omega)
   omega
  ·have g1 : 0 < D := by omega
   have g2 : X < 0 := by omega
   have g3 := pp kp (pp hk g1)
   have g4 := m0 p1 (show X ≤ 0 by omega)
   omega
 ·have := q.2.1
  unfold btw sc nrP at this
  simp only [Int.mul_one] at this
  have : k * b.1 ≤ k * c.1 := Int.mul_le_mul_of_nonneg_left hd (by omega)
  omega
 ·have := q.1; rw [cm] at this; omega
 ·obtain ⟨o1, o2⟩ := q
  rw [cb, cc] at o1
  rw [cz, cm] at o2
  unfold Opp at o1 o2
  rcases hs with rfl | rfl
  ·have g1 : D < 0 := by omega
   have g3 := pn hk g1
   have g2 : k * E < 0 := by omega
   have : k * (D + E) = k * D + k * E := Int.mul_add _ _ _
   omega
  ·have g1 : 0 < D := by omega
   have g3 := pp hk g1
   have g2 : 0 < k * E := by omega
   have : k * (D + E) = k * D + k * E := Int.mul_add _ _ _
   omega
theorem VR.hand_turn {p1 : Ring} {a b c : Pnt} {p2 : Ring} (h : VR (p1 ++ a :: b :: p2)) (hbc : (b, c) ∈ oth p1 a b p2) (hun : ∀ t ∈ oth p1 a b p2, t.1 = b → t = (b, c)) (hm : ∀ v ∈ p1 ++ a :: b :: p2, ¬ bef v b) :
    cr a b c 1 ≠ 0 ∧ Lh p1 a b p2 (midOf a b) = decide (0 < cr a b c 1) := by
  have hab := h.here
  have hbc' : b ≠ c := h.oth_long hbc
  have hma := hm a (by simp)
  have hmc : ¬ bef c b := by
    have hs : (b, c) ∈ segs (p1 ++ a :: b :: p2) := mem_oth.2 (.inr hbc)
    exact hm c (segs_mem hs).2
  have hcr : cr a b c 1 ≠ 0 := by
    refine least_turn hab (Ne.symm hbc') hma hmc ?_
    rcases h.other hbc with e | ⟨e, -⟩
    · exact absurd e (meet_pt hab hbc' (has_b a b) (has_a b c))
    · exact no_back hab hbc' e
  refine ⟨hcr, ?_⟩
  have hon : ∀ t ∈ oth p1 a b p2, ¬ has t.1 t.2 b 1 ∨ t = (b, c) := by
    intro t ht
    by_cases hh : has t.1 t.2 b 1
    · right
      rcases h.other ht with e | ⟨e, q | q⟩
      · exact absurd e (meet_pt hab (h.oth_long ht) (has_b a b) hh)
      · exact hun t ht q
      · have := meet_two hab (h.oth_long ht) (Ne.symm hab) (has_b a b) hh (has_a a b) (by rw [← q]; exact has_b _ _)
        omega
    · exact .inl hh
  obtain ⟨v, hv⟩ : ∃ v : Pnt, v = (a.1 - b.1, a.2 - b.2) := ⟨_, rfl⟩
  have v1 : v.1 = a.1 - b.1 := by rw [hv]
  have v2 : v.2 = a.2 - b.2 := by rw [hv]
  have hcv : cr a b c 1 = -(v.1 * (c.2 - b.2) - v.2 * (c.1 - b.1)) := by rw [v1, v2]; unfold cr; grind
  unfold bef at hma hmc
  have hd : b.1 ≤ c.1 := by omega
  have hv0 : 0 ≤ v.1 := by omega
  have hv1 : v.1 = 0 → 0 < v.2 := fun e => by
    have : a.2 ≠ b.2 := fun k => hab (Prod.ext (by omega) k)
    omega
  obtain ⟨σ, hs, hσ⟩ : ∃ σ : Int, (σ = 1 ∨ σ = -1) ∧ σ * (v.1 * (c.2 - b.2) - v.2 * (c.1 - b.1)) < 0 ∧ (σ = 1 ↔ 0 < cr a b c 1) := by
    rcases Int.lt_or_gt_of_ne hcr with g | g
    · exact ⟨-1, .inr rfl, by omega, by omega⟩
    · exact ⟨1, .inl rfl, by omega, by omega⟩
  obtain ⟨hσ1, hσ2⟩ := hσ
  obtain ⟨Y, hY⟩ : ∃ Y : Int, Y = v.2.natAbs + 1 := ⟨_, rfl⟩
  obtain ⟨u, hu⟩ : ∃ u : Pnt, u = (-1, σ * Y) := ⟨_, rfl⟩
  have u1 : u.1 = -1 := by rw [hu]
  have u2 : u.2 = σ * Y := by rw [hu]
  have hX : 0 < σ * (v.1 * u.2 - v.2 * u.1) := by
    rw [u1, u2]
    have e : σ * (v.1 * (σ * Y) - v.2 * -1) = v.1 * Y + σ * v.2 := by
      rcases hs with rfl | rfl <;> grind
    rw [e]
    rcases Int.lt_or_le 0 v.1 with g | g
    · have k : Y ≤ v.1 * Y := by
        have := Int.mul_le_mul_of_nonneg_right (show (1 : Int) ≤ v.1 by omega) (show (0 : Int) ≤ Y by omega)
        omega
      rcases hs with rfl | rfl <;> omega
    · have z : v.1 = 0 := by omega
      have p := hv1 z
      have s1 : σ = 1 := by
        rcases hs with r | r
        · exact r
        · exfalso
          rw [r, z] at hσ1
          have := p0 (x := v.2) (y := c.1 - b.1) (by omega) (by omega)
          omega
      rw [z, s1]; omega
  obtain ⟨k, hk2, hkb⟩ := ex_big (fun t => big t u v) (oth p1 a b p2)
  have hk : (0 : Int) < k := by omega
  have h' := vr_sc hk h
  rw [scR_append, scR_cons, scR_cons] at h'
  have bes : Bes (scR k p1) (sc k a) (sc k b) (scR k p2) (nrP k b v) (nrP k b u) := by
    have key : ∀ s ∈ oth (scR k p1) (sc k a) (sc k b) (scR k p2), Off (nrP k b u) (nrP k b v) s.1 s.2 ∧ ¬ Xs (nrP k b u) (nrP k b v) s.1 s.2 := by
      intro s hs'
      rw [oth_sc] at hs'
      obtain ⟨t, ht, rfl⟩ := List.mem_map.1 hs'
      rcases hon t ht with g | g
      · exact near_off g (hkb t ht)
      · rw [g]; exact near_next hk (by omega) hd hX hσ1 hs
    exact ⟨by rw [hv]; exact near_ins hab hk2, fun s hs' => (key s hs').1, fun s hs' => (key s hs').2⟩
  have crz : cr (sc k a) (sc k b) (nrP k b u) 1 = -(k * (v.1 * u.2 - v.2 * u.1)) := by
    rw [v1, v2]; unfold cr sc nrP; grind
  have hx0 : v.1 * u.2 - v.2 * u.1 ≠ 0 := fun e => by rw [e] at hX; simp at hX
  have crz0 : cr (sc k a) (sc k b) (nrP k b u) 1 ≠ 0 := by
    rw [crz]
    intro e
    have : k * (v.1 * u.2 - v.2 * u.1) = 0 := by omega
    rcases Int.mul_eq_zero.1 this with g | g <;> omega
  have hout : place (scR k p1 ++ sc k a :: sc k b :: scR k p2) (nrP k b u, 1) = 0 := by
    refine left_out (shut_ends h'.shut) fun w hw => ?_
    have e : scR k p1 ++ sc k a :: sc k b :: scR k p2 = scR k (p1 ++ a :: b :: p2) := by rw [scR_append, scR_cons, scR_cons]
    rw [e] at hw
    obtain ⟨x, hx, rfl⟩ := List.mem_map.1 hw
    have hbx := hm x hx
    unfold bef at hbx
    have : k * b.1 ≤ k * x.1 := Int.mul_le_mul_of_nonneg_left (by omega) (by omega)
    show k * b.1 + u.1 < k * x.1
    omega
  have hb := beside (shut_ends h'.shut) h'.here bes crz0
  rw [hout] at hb
  have e1 : Lh (scR k p1) (sc k a) (sc k b) (scR k p2) (nrP k b v, 1) = Lh p1 a b p2 (midOf a b) := by
    rw [lh_sc hk, Int.mul_one]
    have n1 : InsS a b (nrP k b v, k) := by rw [hv]; exact near_insS hab hk2
    exact h.lh_spots n1 (mid_ins hab)
  rw [e1] at hb
  have hp : 0 < cr (sc k a) (sc k b) (nrP k b u) 1 ↔ σ = -1 := by
    rw [crz]
    rcases hs with rfl | rfl
    · have := pp hk (show 0 < v.1 * u.2 - v.2 * u.1 by omega)
      omega
    · have := pn hk (show v.1 * u.2 - v.2 * u.1 < 0 by omega)
      omega
  have hb' : ¬ (σ = -1 ↔ Lh p1 a b p2 (midOf a b) = true) := fun q => by
    rw [if_pos (hp.trans q)] at hb; omega
  clear hb
  cases hL : Lh p1 a b p2 (midOf a b) with
  | true =>
    rw [hL] at hb'
    have : σ = 1 := by
      rcases hs with r | r
      · exact r
      · exact absurd (by simp [r]) hb'
    exact (decide_eq_true (hσ2.1 this)).symm
  | false =>
    rw [hL] at hb'
    have : σ = -1 := by
      rcases hs with r | r
      · exact absurd (by simp [r]) hb'
      · exact r
    exact (decide_eq_false fun g => by have := hσ2.2 g; omega).symm
def Fw (d : Pnt) : Prop := 0 < d.1 ∨ (d.1 = 0 ∧ 0 < d.2)
theorem fw_of {v y : Pnt} (h : bef v y) : Fw (wy v y) := by unfold bef at h; unfold Fw wy; simp only; omega
theorem fw_ne {d : Pnt} (h : Fw d) : d ≠ (0, 0) := fun e => by rw [e] at h; unfold Fw at h; simp at h
theorem fw_x {u w : Pnt} (hu : Fw u) (hw : Fw w) (hn : ¬ Par u w) : xx u w ≠ 0 := by
 intro h0
 have hd := anti_dd (fw_ne hu) (fw_ne hw) h0 hn
 unfold Fw at hu hw
 unfold xx at h0
 unfold dd at hd
 have a1 := p0 (show 0 ≤ u.1 by omega) (show 0 ≤ w.1 by omega)
 have m := mulc' u.2 w.2
 rcases m.1 (by omega) with ⟨g1, g2⟩ | ⟨g1, g2⟩
 ·have b1 := m0 (show 0 ≤ u.1 by omega) (show w.2 ≤ 0 by omega)
  have b2 := p0 (show 0 ≤ u.2 by omega) (show 0 ≤ w.1 by omega)
  have z2 : u.2 * w.1 = 0 := by omega
  have : w.1 = 0 := by rcases Int.mul_eq_zero.1 z2 with q | q; omega; exact q
  omega
 ·have b1 := p0 (show 0 ≤ u.1 by omega) (show 0 ≤ w.2 by omega)
  have b2 := n0 (show u.2 ≤ 0 by omega) (show 0 ≤ w.1 by omega)
  have z2 : u.1 * w.2 = 0 := by omega
  have : u.1 = 0 := by rcases Int.mul_eq_zero.1 z2 with q | q; exact q; omega
  omega
theorem fw_trans {u w v : Pnt} (hu : Fw u) (hw : Fw w) (hv : Fw v) (h1 : 0 < xx u w) (h2 : 0 < xx w v) : 0 < xx u v := by
 have e : w.1 * xx u v = u.1 * xx w v + v.1 * xx u w := by unfold xx; grind
 unfold Fw at hu hw hv
 rcases hw with hw | ⟨hw, hw2⟩
 ·have hu1 : 0 < u.1 := by
   rcases hu with g | ⟨g, g2⟩
   ·exact g
   ·exfalso
    unfold xx at h1
    rw [g] at h1
    have := pp g2 hw
    omega
  have a := pp hu1 h2
  have b := p0 (show 0 ≤ v.1 by omega) (show 0 ≤ xx u w by omega)
  exact (sgn_of hw (rfl : w.1 * xx u v = _)).1.2 (by omega)
 ·exfalso
  unfold xx at h2
  rw [hw] at h2
  have := p0 (show 0 ≤ w.2 by omega) (show 0 ≤ v.1 by omega)
  omega
def eW : Pnt := (-1, 0)
theorem fw_par {d : Pnt} (h : Fw d) : ¬ Par eW d := fun k => by
 have h2 := k.2; have h1 := k.1
 unfold Fw at h; unfold dd xx eW at *
 simp only at h1 h2
 omega
def Btw2 (h1 h2 u : Pnt) : Prop := (0 < xx h1 u ∧ 0 < xx u h2) ∨ (0 < xx h2 u ∧ 0 < xx u h1)
theorem btw_of {h1 h2 u : Pnt} (f1 : Fw h1) (f2 : Fw h2) (fu : Fw u) (n12 : ¬ Par h1 h2) (n1 : ¬ Par u h1) (n2 : ¬ Par u h2) (h : (decide (Lt h1 h2 u) ^^ decide (Lt h1 h2 eW)) = true) : Btw2 h1 h2 u := by
 have x12 := fw_x f2 f1 (fun q => n12 q.symm)
 have xu1 := fw_x fu f1 n1
 have xu2 := fw_x fu f2 n2
 have s1 := xx_swap u h1
 have s2 := xx_swap h2 u
 have ee1 : xx eW h1 = - h1.2 := by unfold xx eW; simp
 have ee2 : xx h2 eW = h2.2 := by unfold xx eW; simp
 unfold Btw2
 by_cases g : 0 < xx h2 h1
 ·have le : ¬ Lt h1 h2 eW := by
   unfold Lt
   rw [if_pos g, ee1, ee2]
   rintro ⟨q1, q2⟩
   unfold Fw at f1 f2
   have a1 := m0 (show 0 ≤ h2.1 by omega) (show h1.2 ≤ 0 by omega)
   have a2 := p0 (show 0 ≤ h2.2 by omega) (show 0 ≤ h1.1 by omega)
   unfold xx at g
   omega
  have lu : Lt h1 h2 u := by
   by_cases q : Lt h1 h2 u
   ·exact q
   ·simp [q, le] at h
  unfold Lt at lu
  rw [if_pos g] at lu
  exact .inr ⟨lu.2, lu.1⟩
 ·have le : Lt h1 h2 eW := by
   unfold Lt
   rw [if_neg g, ee1, ee2]
   by_cases q1 : 0 < - h1.2
   ·exact .inl q1
   ·by_cases q2 : 0 < h2.2
    ·exact .inr q2
    ·exfalso
     unfold Fw at f1 f2
     have a1 := p0 (show 0 ≤ h2.1 by omega) (show 0 ≤ h1.2 by omega)
     have a2 := n0 (show h2.2 ≤ 0 by omega) (show 0 ≤ h1.1 by omega)
     apply g
     unfold xx at x12 ⊢
     omega
  have lu : ¬ Lt h1 h2 u := by
   intro q
   simp [q, le] at h
  unfold Lt at lu
  rw [if_neg g] at lu
  left
  omega
theorem btw_no {a1 a2 h1 h2 : Pnt} (fa1 : Fw a1) (fa2 : Fw a2) (f1 : Fw h1) (f2 : Fw h2) (b1 : Btw2 h1 h2 a1) (b2 : Btw2 h1 h2 a2) (b3 : Btw2 a1 a2 h1) : False := by
 have s1 := xx_swap a1 h1
 have s2 := xx_swap a2 h1
 have s3 := xx_swap h1 h2
 unfold Btw2 at *
 rcases b1 with ⟨p, q⟩ | ⟨p, q⟩
 ·rcases b2 with ⟨p', q'⟩ | ⟨p', q'⟩
  ·omega
  ·have := fw_trans f1 fa1 f2 p q
   have := fw_trans f2 fa2 f1 p' q'
   omega
 ·rcases b2 with ⟨p', q'⟩ | ⟨p', q'⟩
  ·have := fw_trans f2 fa1 f1 p q
   have := fw_trans f1 fa2 f2 p' q'
   omega
  ·omega
theorem left_near {r : Ring} (he : Ends r) {v : Pnt} (h : ∀ p ∈ r, ¬ bef p v) {k : Int} (hk : 0 < k) : place r (nrP k v eW, k) = 0 := by
 have e : place r (nrP k v eW, k) = place (scR k r) (nrP k v eW, 1) := by rw [place_sc hk, Int.mul_one]
 rw [e]
 apply left_out (ends_sc he)
 intro p hp
 obtain ⟨q, hq, rfl⟩ := List.mem_map.1 hp
 have := h q hq
 unfold bef at this
 unfold nrP eW sc
 simp only
 have := Int.mul_le_mul_of_nonneg_left (show v.1 ≤ q.1 by omega) (Int.le_of_lt hk)
 omega
theorem on_after {r : Ring} {v : Pnt} (h : ∀ p ∈ r, ¬ bef p v) {z : Pnt} (hz : place r (z, 1) = 1) : ¬ bef z v := by
 intro hb
 obtain ⟨s, hs, hh⟩ := place_one.1 hz
 have h1 : ¬ bef z (fwd s.1 s.2).1 := (has_fwd hh).1
 have m := segs_mem hs
 have : (fwd s.1 s.2).1 ∈ r := by
  unfold fwd
  split
  ·exact m.2
  ·exact m.1
 have := h _ this
 unfold bef at *
 omega
theorem before_out {r : Ring} (he : Ends r) {v : Pnt} (h : ∀ p ∈ r, ¬ bef p v) {z : Pnt} (hz : bef z v) : place r (z, 1) = 0 := by
 have off : OffR r (z, 1) := offR_of fun q => on_after h q hz
 obtain ⟨K, hK, f⟩ := near_none he off (0, 0) eW
 obtain ⟨o1, o2, e⟩ := f K (Int.le_refl _)
 have hz' : ∀ p ∈ r, ¬ bef p z := fun p hp q => h p hp (bef_trans q hz)
 have e0 := left_near he hz' (show 0 < K by omega)
 have e1 : nrP K z (0, 0) = sc K z := by unfold nrP sc; simp
 rw [place_inn o2 o1 e.symm, e1] at e0
 have := place_spot (show 0 < K by omega) r z 1
 rw [Int.mul_one] at this
 rw [this] at e0
 exact e0
theorem Spl.mem {r : Ring} {z y x : Pnt} {O : List Seg} (h : Spl r z y x O) : y ∈ r ∧ x ∈ r := by
 rcases h.sp with k | ⟨k, -⟩
 ·exact ⟨(segs_mem (k.mem_iff.2 (by simp : (y, z) ∈ (y, z) :: (z, x) :: O))).1, (segs_mem (k.mem_iff.2 (by simp : (z, x) ∈ (y, z) :: (z, x) :: O))).2⟩
 ·have := segs_mem (k.mem_iff.2 (by simp : (y, x) ∈ (y, x) :: O))
  exact this
theorem bef_total {p q : Pnt} (h : ¬ bef p q) (hn : p ≠ q) : bef q p := by
 unfold bef at *
 by_cases e : p.1 = q.1
 ·by_cases e2 : p.2 = q.2
  ·exact absurd (Prod.ext e e2) hn
  ·omega
 ·omega
theorem nest_sym {A H : Ring} (vA : VR A) (vH : VR H) (hx : cross A H = false) (hl : lies H A 2 = true) {p : Spot} (hw : 0 < p.2) (hp : place A p = 1) : place H p ≠ 2 := by
 intro h2
 have eA := shut_ends vA.shut
 have eH := shut_ends vH.shut
 obtain ⟨V, hV⟩ := TwoR.one ⟨vA, vH, hx, noThru vA vH hx hl⟩
 have e2 : V = 2 := by rw [← hV p hw hp (by rw [h2]; decide)]; exact h2
 subst e2
 have hne : A ≠ [] := fun e => by have := vA.shut.len; rw [e] at this; simp at this
 obtain ⟨v, hv, hle⟩ := least_of hne
 have hA : ∀ q ∈ A, ¬ bef q v := fun q hq k => by
  rcases hle q hq with e | e
  ·rw [e] at k; unfold bef at k; omega
  ·unfold bef at *; omega
 have hH : ∀ q ∈ H, ¬ bef q v := fun q hq k => by
  have h0 := before_out eA hA k
  have hon : place H (q, 1) = 1 := by
   obtain ⟨i, hi1, hi, rfl⟩ := place_of vH.shut hq
   have := List.mem_of_getElem? (segs_at (ptAt_get (r := H) (i := i - 1) (by omega)) (ptAt_get (r := H) (i := i - 1 + 1) (by omega)))
   rw [show i - 1 + 1 = i by omega] at this
   exact place_one.2 ⟨_, this, has_b _ _⟩
  rcases lies_out vH.long vA.long eA (cross_sy hx) hl (p := (q, 1)) (show (0 : Int) < 1 by decide) hon with g | g <;> omega
 have hvA : place A (v, 1) = 1 := by
  obtain ⟨i, hi1, hi, rfl⟩ := place_of vA.shut hv
  have := List.mem_of_getElem? (segs_at (ptAt_get (r := A) (i := i - 1) (by omega)) (ptAt_get (r := A) (i := i - 1 + 1) (by omega)))
  rw [show i - 1 + 1 = i by omega] at this
  exact place_one.2 ⟨_, this, has_b _ _⟩
 obtain ⟨y, x, O, sA⟩ := vA.split hvA
 have fa1 : Fw (wy v y) := fw_of (bef_total (hA y sA.mem.1) sA.ny)
 have fa2 : Fw (wy v x) := fw_of (bef_total (hA x sA.mem.2) sA.nx)
 by_cases hvH : place H (v, 1) = 1
 ·obtain ⟨y', x', O', sH⟩ := vH.split hvH
  have m := meet2_of vA.long vH.long hx sA sH
  have f1 : Fw (wy v y') := fw_of (bef_total (hH y' sH.mem.1) sH.ny)
  have f2 : Fw (wy v x') := fw_of (bef_total (hH x' sH.mem.2) sH.nx)
  have ne : eW ≠ (0, 0) := by decide
  have inH : ∀ {y : Pnt}, Fw (wy v y) → ¬ Par (wy v y) (wy v y') → ¬ Par (wy v y) (wy v x') → (∀ k, 1 ≤ k → place A (nrP k v (wy v y), k) = 1) → Btw2 (wy v y') (wy v x') (wy v y) := by
   intro y fy p1 p2 hon
   obtain ⟨K, hK, f⟩ := sH.near eH (u := wy v y) (w := eW) ⟨fw_ne f1, fw_ne f2, fw_ne fy, ne, sH.nb, p1, p2, fw_par f1, fw_par f2⟩
   obtain ⟨o1, o2, e⟩ := f K (Int.le_refl _)
   have q1 := hV (nrP K v (wy v y), K) (by show 0 < K; omega) (hon K (by omega)) (offR_ne o1)
   have q2 := left_near eH hH (show 0 < K by omega)
   rw [offR_place o1] at q1
   rw [offR_place o2] at q2
   refine btw_of f1 f2 fy sH.nb p1 p2 ?_
   rw [← e]
   revert q1 q2
   generalize inn H (nrP K v (wy v y), K) = s
   generalize inn H (nrP K v eW, K) = t
   cases s <;> cases t <;> simp
  have b1 := inH fa1 m.p1 m.p2 (fun k hk => sA.on1 vA.long hk)
  have b2 := inH fa2 m.p3 m.p4 (fun k hk => sA.on2 vA.long hk)
  have b3 : Btw2 (wy v y) (wy v x) (wy v y') := by
   obtain ⟨K, hK, f⟩ := sA.near eA (u := wy v y') (w := eW) ⟨fw_ne fa1, fw_ne fa2, fw_ne f1, ne, sA.nb, fun q => m.p1 q.symm, fun q => m.p3 q.symm, fw_par fa1, fw_par fa2⟩
   obtain ⟨o1, o2, e⟩ := f K (Int.le_refl _)
   have q1 := (lies_out vH.long vA.long eA (cross_sy hx) hl (p := (nrP K v (wy v y'), K)) (by show 0 < K; omega) (sH.on1 vH.long (by omega))).resolve_left (offR_ne o1)
   have q2 := left_near eA hA (show 0 < K by omega)
   rw [offR_place o1] at q1
   rw [offR_place o2] at q2
   refine btw_of fa1 fa2 f1 sA.nb (fun q => m.p1 q.symm) (fun q => m.p3 q.symm) ?_
   rw [← e]
   revert q1 q2
   generalize inn A (nrP K v (wy v y'), K) = s
   generalize inn A (nrP K v eW, K) = t
   cases s <;> cases t <;> simp
  exact btw_no fa1 fa2 f1 f2 b1 b2 b3
 ·obtain ⟨K, hK, f⟩ := near_none eH (offR_of hvH) (wy v y) eW
  obtain ⟨o1, o2, e⟩ := f K (Int.le_refl _)
  have q1 := hV (nrP K v (wy v y), K) (by show 0 < K; omega) (sA.on1 vA.long (by omega)) (offR_ne o1)
  have q2 := left_near eH hH (show 0 < K by omega)
  rw [place_inn o1 o2 e] at q1
  omega
theorem VR.distinct {r : Ring} (h : VR r) {i j : Nat} (hi : 1 ≤ i) (hj : 1 ≤ j) (hil : i < r.length) (hjl : j < r.length) (e : ptAt r i = ptAt r j) : i = j := by
 rcases Nat.lt_trichotomy i j with g | g | g
 ·have : twice r = true := twice_iff.2 ⟨i, j, hi, g, hjl, e⟩
  rw [h.tw] at this; cases this
 ·exact g
 ·have : twice r = true := twice_iff.2 ⟨j, i, hj, g, hil, e.symm⟩
  rw [h.tw] at this; cases this
theorem VR.wrap {r : Ring} (h : VR r) : ptAt r 0 = ptAt r (r.length - 1) := h.shut.eq
theorem VR.least_hand {r : Ring} (h : VR r) {i : Nat} (hi : 1 ≤ i) (hil : i < r.length) (hm : ∀ v ∈ r, ¬ bef v (ptAt r i)) :
  cr (ptAt r (i - 1)) (ptAt r i) (nextI r i) 1 ≠ 0 ∧ LhI r 0 = decide (0 < cr (ptAt r (i - 1)) (ptAt r i) (nextI r i) 1) := by
 have h4 := h.shut.len
 obtain ⟨k, rfl⟩ : ∃ k, i = k + 1 := ⟨i - 1, by omega⟩
 rw [show k + 1 - 1 = k from rfl]
 have e := split_at (r := r) (i := k) hil
 have hr : VR (r.take k ++ ptAt r k :: ptAt r (k + 1) :: r.drop (k + 2)) := by rw [← e]; exact h
 have hnx : ∃ j, j ≠ k ∧ j + 1 < r.length ∧ ptAt r j = ptAt r (k + 1) ∧ ptAt r (j + 1) = nextI r (k + 1) := by
  unfold nextI
  by_cases g : k + 1 + 1 < r.length
  ·exact ⟨k + 1, by omega, g, rfl, by rw [if_pos g]⟩
  ·exact ⟨0, by omega, by omega, by rw [h.wrap]; congr 1; omega, by rw [if_neg g]⟩
 obtain ⟨j, hjk, hjl, ej1, ej2⟩ := hnx
 have hbc : (ptAt r (k + 1), nextI r (k + 1)) ∈ oth (r.take k) (ptAt r k) (ptAt r (k + 1)) (r.drop (k + 2)) := by
  rw [← ej1, ← ej2, ej1]
  have := later_oth (r := r) (i := k) (k := j) hil hjl (Ne.symm hjk)
  rw [ej1] at this
  exact this
 have hun : ∀ t ∈ oth (r.take k) (ptAt r k) (ptAt r (k + 1)) (r.drop (k + 2)), t.1 = ptAt r (k + 1) → t = (ptAt r (k + 1), nextI r (k + 1)) := by
  intro t ht e1
  obtain ⟨q, hq, hql, eq⟩ := oth_at ht
  rw [← e] at hql eq
  rw [eq] at e1 ⊢
  simp only at e1
  have : q = j := by
   have norm : ∀ x, x + 1 < r.length → ptAt r x = ptAt r (k + 1) → (x = 0 ∧ k + 1 = r.length - 1) ∨ x = k + 1 := by
    intro x hx ex
    rcases Nat.eq_zero_or_pos x with g | g
    ·left
     refine ⟨g, ?_⟩
     rw [g, h.wrap] at ex
     have := h.distinct (by omega) (by omega) (by omega) (by omega) ex
     omega
    ·right; exact h.distinct g (by omega) (by omega) (by omega) ex
   have a1 := norm q hql e1
   have a2 := norm j hjl ej1
   omega
  subst this
  rw [ej1, ej2]
 have key := hr.hand_turn hbc hun (by rw [← e]; exact hm)
 refine ⟨key.1, ?_⟩
 rw [← key.2, ← h.lhI_all k hil]
 rfl
theorem VR.area {r : Ring} (h : VR r) {i : Nat} (hi : 1 ≤ i) (hil : i < r.length) (hm : ∀ v ∈ r, ¬ bef v (ptAt r i)) :
    decide (0 < area2 r) = decide (0 < cr (ptAt r (i - 1)) (ptAt r i) (nextI r i) 1) := by
  obtain ⟨k1, k2⟩ := h.least_hand hi hil hm
  have hn : ∃ s ∈ segs r, dyS s ≠ 0 := by
    refine Classical.byContradiction fun hno => ?_
    have all : ∀ s ∈ segs r, s.2.2 = s.1.2 := fun s hs => by
      refine Classical.byContradiction fun e => hno ⟨s, hs, ?_⟩
      unfold dyS; omega
    have h4 := h.shut.len
    have seg : ∀ x, x + 1 < r.length → ptAt r (x + 1) = ptAt r (x + 1) ∧ (ptAt r (x + 1)).2 = (ptAt r x).2 := fun x hx => by
      have := all (ptAt r x, ptAt r (x + 1)) (Pl.mem_of_some (segs_at (ptAt_get (by omega)) (ptAt_get hx)))
      exact ⟨rfl, this⟩
    have yall : ∀ x, x < r.length → (ptAt r x).2 = (ptAt r 0).2 := by
      intro x
      induction x with
      | zero => intro _; rfl
      | succ x ih => intro hx; rw [(seg x hx).2, ih (by omega)]
    apply k1
    have y1 := yall (i - 1) (by omega)
    have y2 := yall i hil
    have y3 : (nextI r i).2 = (ptAt r 0).2 := by
      unfold nextI
      split
      · exact yall _ (by omega)
      · exact yall _ (by omega)
    unfold cr
    simp only [Int.mul_one]
    rw [y1, y2, y3, Int.sub_self, Int.mul_zero, Int.zero_mul]; rfl
  have ha := area_hand h hn
  cases hL : LhI r 0 with
  | true =>
    rw [hL] at ha k2
    have : 0 < area2 r := by simpa [sgU] using ha
    rw [decide_eq_true this, ← k2]
  | false =>
    rw [hL] at ha k2
    have : ¬ 0 < area2 r := by
      have : sgU false = -1 := rfl
      rw [this] at ha
      omega
    rw [decide_eq_false this, ← k2]
def twiceA (p0 : Pnt) (r : Ring) : Int := sumI (fun s : Seg => (s.1.1 - p0.1) * (s.2.2 - p0.2) - (s.1.2 - p0.2) * (s.2.1 - p0.1)) (segs r)
theorem twiceA_eq {r : Ring} (he : Ends r) (p0 : Pnt) : twiceA p0 r = area2 r := by
 have e := sum_ring (fun p : Pnt => p.2 * p.1 - p0.2 * p.1 + p0.1 * p.2) he
 have : area2 r = twiceA p0 r + sumI (fun s : Seg => (s.2.2 * s.2.1 - p0.2 * s.2.1 + p0.1 * s.2.2) - (s.1.2 * s.1.1 - p0.2 * s.1.1 + p0.1 * s.1.2)) (segs r) := by
  unfold area2 twiceA
  rw [← sumI_add]
  refine sumI_congr fun s _ => ?_
  unfold dyS
  grind
 rw [e] at this
 omega
def xp (u v : Pnt) : Int := u.1 * v.2 - u.2 * v.1
def dp (u v : Pnt) : Int := u.1 * v.1 + u.2 * v.2
def sub (a b : Pnt) : Pnt := (b.1 - a.1, b.2 - a.2)
structure Dir (u v : Pnt) : Prop where
 x : xp u v = 0
 d : 0 < dp u v
theorem dp_pos {u v : Pnt} (h : Dir u v) : 0 < dp u u ∧ 0 < dp v v := by
 have h1 : u.1 ≠ 0 ∨ u.2 ≠ 0 := by
  refine Classical.byContradiction fun k => ?_
  have := h.d
  unfold dp at this
  have a1 : u.1 = 0 := by omega
  have a2 : u.2 = 0 := by omega
  rw [a1, a2] at this; simp at this
 have h2 : v.1 ≠ 0 ∨ v.2 ≠ 0 := by
  refine Classical.byContradiction fun k => ?_
  have := h.d
  unfold dp at this
  have a1 : v.1 = 0 := by omega
  have a2 : v.2 = 0 := by omega
  rw [a1, a2] at this; simp at this
 have sq : ∀ z : Pnt, z.1 ≠ 0 ∨ z.2 ≠ 0 → 0 < dp z z := fun z hz => by
  unfold dp
  have b1 := sq_nn z.1
  have b2 := sq_nn z.2
  rcases hz with k | k
  ·have := sq_pos k; omega
  ·have := sq_pos k; omega
 exact ⟨sq u h1, sq v h2⟩
theorem Dir.symm {u v : Pnt} (h : Dir u v) : Dir v u := ⟨by have := h.x; unfold xp at *; grind, by have := h.d; unfold dp at *; grind⟩
theorem Dir.trans {u v w : Pnt} (h : Dir u v) (k : Dir v w) : Dir u w := by
 have hv := (dp_pos h).2
 have e1 : dp v v * xp u w = dp u v * xp v w + xp u v * dp v w := by unfold dp xp; grind
 have e2 : dp v v * dp u w = dp u v * dp v w - xp u v * xp v w := by unfold dp xp; grind
 rw [h.x, k.x, Int.mul_zero, Int.zero_mul] at e1
 rw [h.x, Int.zero_mul, Int.sub_zero] at e2
 constructor
 ·rcases Int.mul_eq_zero.1 (show dp v v * xp u w = 0 by omega) with g | g
  ·omega
  ·exact g
 ·have := pp h.d k.d
  exact ((sgn_of hv e2).1).2 this
theorem Dir.self {u : Pnt} (h : u ≠ (0, 0)) : Dir u u := by
 refine ⟨by unfold xp; grind, ?_⟩
 unfold dp
 have b1 := sq_nn u.1
 have b2 := sq_nn u.2
 by_cases k : u.1 = 0
 ·have k2 : u.2 ≠ 0 := fun e => h (Prod.ext k e)
  have := sq_pos k2; omega
 ·have := sq_pos k; omega
theorem Dir.add {u v w : Pnt} (h : Dir u v) (k : Dir u w) : Dir u (v.1 + w.1, v.2 + w.2) := by
 constructor
 ·have := h.x; have := k.x; unfold xp at *; simp only; grind
 ·have e : dp u (v.1 + w.1, v.2 + w.2) = dp u v + dp u w := by unfold dp; simp only; grind
  rw [e]; have := h.d; have := k.d; omega
theorem dir_sign {u u' v v' : Pnt} (h : Dir u u') (k : Dir v v') : (0 < xp u v ↔ 0 < xp u' v') ∧ (xp u v = 0 ↔ xp u' v' = 0) := by
 have hu := (dp_pos h).1
 have hv := (dp_pos k).1
 have e1 : dp u u * xp u' v = dp u u' * xp u v + xp u u' * (-(dp u v)) := by unfold dp xp; grind
 rw [h.x, Int.zero_mul, Int.add_zero] at e1
 have e2 : dp v v * xp u' v' = dp v v' * xp u' v + xp v v' * dp u' v := by unfold dp xp; grind
 rw [k.x, Int.zero_mul, Int.add_zero] at e2
 have s1 := sgn_of hu e1
 have s2 := sgn_of hv e2
 have t1 : (0 < dp u u' * xp u v ↔ 0 < xp u v) ∧ (dp u u' * xp u v = 0 ↔ xp u v = 0) := by
  have := sgn_of h.d (rfl : dp u u' * xp u v = dp u u' * xp u v)
  exact ⟨this.1.symm, this.2.2.symm⟩
 have t2 : (0 < dp v v' * xp u' v ↔ 0 < xp u' v) ∧ (dp v v' * xp u' v = 0 ↔ xp u' v = 0) := by
  have := sgn_of k.d (rfl : dp v v' * xp u' v = dp v v' * xp u' v)
  exact ⟨this.1.symm, this.2.2.symm⟩
 exact ⟨by rw [s2.1, t2.1, s1.1, t1.1], by rw [s2.2.2, t2.2, s1.2.2, t1.2]⟩
theorem cr_xp (a b c : Pnt) : cr a b c 1 = xp (sub a b) (sub b c) := by unfold cr xp sub; grind
theorem on_dir {a b c : Pnt} (hab : a ≠ b) (hbc : b ≠ c) (h : has a c b 1) : Dir (sub a b) (sub b c) := by
 have ne1 : a.1 ≠ b.1 ∨ a.2 ≠ b.2 := by
  by_cases k : a.1 = b.1
  ·exact .inr fun e => hab (Prod.ext k e)
  ·exact .inl k
 have ne2 : b.1 ≠ c.1 ∨ b.2 ≠ c.2 := by
  by_cases k : b.1 = c.1
  ·exact .inr fun e => hbc (Prod.ext k e)
  ·exact .inl k
 obtain ⟨h0, h1, h2⟩ := h
 have e0 : (b.1 - a.1) * (c.2 - b.2) - (b.2 - a.2) * (c.1 - b.1) = 0 := by unfold cr at h0; grind
 unfold btw at h1 h2
 simp only [Int.mul_one] at h1 h2
 refine ⟨by unfold xp sub; exact e0, ?_⟩
 unfold dp sub
 simp only
 have x0 : 0 ≤ (b.1 - a.1) * (c.1 - b.1) := by
  rcases h1 with h1 | h1
  ·exact p0 (by omega) (by omega)
  ·exact q0 (by omega) (by omega)
 have y0 : 0 ≤ (b.2 - a.2) * (c.2 - b.2) := by
  rcases h2 with h2 | h2
  ·exact p0 (by omega) (by omega)
  ·exact q0 (by omega) (by omega)
 rcases Int.lt_or_le 0 ((b.1 - a.1) * (c.1 - b.1) + (b.2 - a.2) * (c.2 - b.2)) with g | g
 ·exact g
 ·exfalso
  have zx : (b.1 - a.1) * (c.1 - b.1) = 0 := by omega
  have zy : (b.2 - a.2) * (c.2 - b.2) = 0 := by omega
  rcases Int.mul_eq_zero.1 zx with k1 | k1 <;> rcases Int.mul_eq_zero.1 zy with k2 | k2
  ·omega
  ·rw [k1, k2] at e0
   simp only [Int.zero_mul, Int.zero_sub] at e0
   have : (b.2 - a.2) * (c.1 - b.1) = 0 := by omega
   rcases Int.mul_eq_zero.1 this with g1 | g1 <;> omega
  ·rw [k1, k2] at e0
   simp only [Int.zero_mul, Int.sub_zero] at e0
   rcases Int.mul_eq_zero.1 e0 with g1 | g1 <;> omega
  ·omega
def per (r : Ring) : Nat := r.length - 1
def Pr (r : Ring) (i : Nat) : Pnt := ptAt r (i % per r)
def Wr (r : Ring) (i : Nat) : Pnt := sub (Pr r i) (Pr r (i + 1))
theorem Pr_per (r : Ring) (i : Nat) : Pr r (i + per r) = Pr r i := by unfold Pr; rw [Nat.add_mod_right]
theorem Wr_per (r : Ring) (i : Nat) : Wr r (i + per r) = Wr r i := by unfold Wr; rw [show i + per r + 1 = i + 1 + per r by omega, Pr_per, Pr_per]
theorem VR.pr {r : Ring} (h : VR r) {i : Nat} (hi : i ≤ per r) : Pr r i = ptAt r i := by
 have h4 := h.shut.len
 unfold Pr
 rcases Nat.lt_or_ge i (per r) with g | g
 ·rw [Nat.mod_eq_of_lt g]
 ·have e : i = per r := by omega
  rw [e, Nat.mod_self, h.wrap]; rfl
theorem VR.pr_next {r : Ring} (h : VR r) {i : Nat} (h1 : 1 ≤ i) (hi : i ≤ per r) : Pr r (i + 1) = nextI r i := by
 have h4 := h.shut.len
 have e0 : per r = r.length - 1 := rfl
 unfold nextI
 by_cases g : i + 1 < r.length
 ·rw [if_pos g, h.pr (by omega)]
 ·rw [if_neg g]
  have e : i + 1 = 1 + per r := by omega
  rw [e, Pr_per, h.pr (by omega)]
theorem VR.turns_iff {r : Ring} (h : VR r) {i : Nat} (h1 : 1 ≤ i) (hi : i ≤ per r) : Vd.turns r i = decide (xp (Wr r (i - 1)) (Wr r i) ≠ 0) := by
 unfold Vd.turns
 rw [decide_eq_true h1, Bool.true_and]
 apply decide_eq_decide.2
 unfold Wr
 rw [show i - 1 + 1 = i by omega, h.pr (i := i - 1) (by omega), h.pr hi, h.pr_next h1 hi, ← cr_xp]
 unfold side at1
 constructor
 ·intro k e; apply k; rw [e]; rfl
 ·intro k e
  rcases sg_cases (cr (ptAt r (i - 1)) (ptAt r i) (nextI r i) 1) with ⟨g, e2⟩ | ⟨g, e2⟩ | ⟨g, e2⟩
  ·rw [e2] at e; omega
  ·exact k g
  ·rw [e2] at e; omega
theorem VR.back_at {r : Ring} (h : VR r) {i : Nat} (h1 : 1 ≤ i) (hi : i ≤ per r) : (ptAt r (i - 1) ≠ ptAt r i ∧ ptAt r i ≠ nextI r i) ∧ (cr (ptAt r (i - 1)) (ptAt r i) (nextI r i) 1 ≠ 0 ∨ has (ptAt r (i - 1)) (nextI r i) (ptAt r i) 1) := by
 have h4 := h.shut.len
 have e0 : per r = r.length - 1 := rfl
 obtain ⟨k, rfl⟩ : ∃ k, i = k + 1 := ⟨i - 1, by omega⟩
 rw [show k + 1 - 1 = k from rfl]
 have hil : k + 1 < r.length := by omega
 have e := split_at (r := r) (i := k) hil
 have hr : VR (r.take k ++ ptAt r k :: ptAt r (k + 1) :: r.drop (k + 2)) := by rw [← e]; exact h
 have hnx : ∃ j, j ≠ k ∧ j + 1 < r.length ∧ ptAt r j = ptAt r (k + 1) ∧ ptAt r (j + 1) = nextI r (k + 1) := by
  unfold nextI
  by_cases g : k + 1 + 1 < r.length
  ·exact ⟨k + 1, by omega, g, rfl, by rw [if_pos g]⟩
  ·exact ⟨0, by omega, by omega, by rw [h.wrap]; congr 1; omega, by rw [if_neg g]⟩
 obtain ⟨j, hjk, hjl, ej1, ej2⟩ := hnx
 have hbc : (ptAt r (k + 1), nextI r (k + 1)) ∈ oth (r.take k) (ptAt r k) (ptAt r (k + 1)) (r.drop (k + 2)) := by
  have := later_oth (r := r) (i := k) (k := j) hil hjl (Ne.symm hjk)
  rw [ej1, ej2] at this
  exact this
 have hne : ptAt r (k + 1) ≠ nextI r (k + 1) := hr.oth_long hbc
 refine ⟨⟨hr.here, hne⟩, ?_⟩
 rcases hr.other hbc with e1 | ⟨e1, -⟩
 ·exact absurd e1 (meet_pt hr.here hne (has_b _ _) (has_a _ _))
 ·exact no_back hr.here hne e1
theorem VR.step_ne {r : Ring} (h : VR r) (i : Nat) : Wr r i ≠ (0, 0) := by
 have h4 := h.shut.len
 have e0 : per r = r.length - 1 := rfl
 have key : ∀ x, x < per r → Wr r x ≠ (0, 0) := fun x hx e => by
  have := (h.back_at (i := x + 1) (by omega) (by omega)).1.1
  rw [show x + 1 - 1 = x from rfl] at this
  unfold Wr at e
  rw [h.pr (by omega), h.pr (by omega)] at e
  unfold sub at e
  simp only [Prod.mk.injEq] at e
  exact this (Prod.ext (by omega) (by omega))
 have e2 : Wr r i = Wr r (i % per r) := by
  have := Nat.mod_add_div i (per r)
  have k : ∀ q x, Wr r (x + per r * q) = Wr r x := by
   intro q
   induction q with
   | zero => intro x; rfl
   | succ q ih => intro x; rw [Nat.mul_succ, ← Nat.add_assoc, Wr_per, ih]
  conv => lhs; rw [← this]
  exact k _ _
 rw [e2]
 exact key _ (Nat.mod_lt _ (by omega))
theorem VR.on_dir {r : Ring} (h : VR r) {i : Nat} (h1 : 1 ≤ i) (ht : xp (Wr r (i - 1)) (Wr r i) = 0) : Dir (Wr r (i - 1)) (Wr r i) := by
 have h4 := h.shut.len
 have e0 : per r = r.length - 1 := rfl
 have key : ∀ x, 1 ≤ x → x ≤ per r → xp (Wr r (x - 1)) (Wr r x) = 0 → Dir (Wr r (x - 1)) (Wr r x) := fun x a b t => by
  obtain ⟨⟨n1, n2⟩, k⟩ := h.back_at a b
  unfold Wr at *
  rw [show x - 1 + 1 = x by omega, h.pr (i := x - 1) (by omega), h.pr b, h.pr_next a b] at *
  rw [← cr_xp] at t
  rcases k with k | k
  ·exact absurd t k
  ·exact Vd.on_dir n1 n2 k
 obtain ⟨x, q, hx1, hx2, e⟩ : ∃ x q, 1 ≤ x ∧ x ≤ per r ∧ i = x + per r * q := by
  have hm := Nat.mod_add_div (i - 1) (per r)
  have hl := Nat.mod_lt (i - 1) (show per r > 0 by omega)
  exact ⟨(i - 1) % per r + 1, (i - 1) / per r, by omega, by omega, by omega⟩
 have k : ∀ q x, Wr r (x + per r * q) = Wr r x := by
  intro q
  induction q with
  | zero => intro x; rfl
  | succ q ih => intro x; rw [Nat.mul_succ, ← Nat.add_assoc, Wr_per, ih]
 rw [e, show x + per r * q - 1 = (x - 1) + per r * q by omega, k, k] at ht ⊢
 exact key x hx1 hx2 ht
theorem VR.run {r : Ring} (h : VR r) {i : Nat} : ∀ d : Nat, (∀ k, i < k → k < i + d + 1 → xp (Wr r (k - 1)) (Wr r k) = 0) → Dir (Wr r i) (Wr r (i + d)) ∧ Dir (Wr r i) (sub (Pr r i) (Pr r (i + d + 1))) := by
  intro d
  induction d with
  | zero => intro _; exact ⟨Dir.self (h.step_ne i), Dir.self (h.step_ne i)⟩
  | succ d ih =>
    intro ht
    obtain ⟨k1, k2⟩ := ih fun k a b => ht k a (by omega)
    have k3 := h.on_dir (i := i + d + 1) (by omega) (ht (i + d + 1) (by omega) (by omega))
    rw [show i + d + 1 - 1 = i + d by omega] at k3
    have k4 := k1.trans k3
    refine ⟨k4, ?_⟩
    have e : sub (Pr r i) (Pr r (i + (d + 1) + 1)) = ((sub (Pr r i) (Pr r (i + d + 1))).1 + (Wr r (i + d + 1)).1, (sub (Pr r i) (Pr r (i + d + 1))).2 + (Wr r (i + d + 1)).2) := by
      unfold Wr sub
      simp only [show i + (d + 1) + 1 = i + d + 1 + 1 by omega]
      exact Prod.ext (by simp only; omega) (by simp only; omega)
    rw [e]
    exact k2.add k4
theorem VR.run2 {r : Ring} (h : VR r) {i j : Nat} (hij : i < j) (ht : ∀ k, i < k → k < j → xp (Wr r (k - 1)) (Wr r k) = 0) : Dir (Wr r i) (sub (Pr r i) (Pr r j)) ∧ Dir (Wr r (j - 1)) (sub (Pr r i) (Pr r j)) := by
 obtain ⟨k1, k2⟩ := h.run (i := i) (j - i - 1) fun k a b => ht k a (by omega)
 rw [show i + (j - i - 1) + 1 = j by omega] at k2
 rw [show i + (j - i - 1) = j - 1 by omega] at k1
 exact ⟨k2, k1.symm.trans k2⟩
theorem leastN_s (v : Ring) (n : Nat) : leastN v (n + 1) = leastS v (leastN v n) n := by
 unfold leastN; rw [List.range_succ, List.foldl_append]; rfl
theorem leastN_b (v : Ring) : ∀ n, leastN v n ≤ n - 1
  | 0 => Nat.le_refl _
  | n + 1 => by
    rw [leastN_s]; unfold leastS
    have := leastN_b v n
    split <;> omega
theorem bef_tr {p q r : Pnt} (h : ¬ bef p q) (k : ¬ bef q r) : ¬ bef p r := by unfold bef at *; omega
theorem leastN_min (v : Ring) : ∀ n x, x < n → ¬ bef (ptAt v x) (ptAt v (leastN v n)) := by
  intro n
  induction n with
  | zero => intro x hx; omega
  | succ n ih =>
    intro x hx
    rw [leastN_s]
    unfold leastS
    by_cases c : bef (ptAt v n) (ptAt v (leastN v n))
    · rw [if_pos c]
      rcases Nat.lt_or_ge x n with g | g
      · have := ih x g
        unfold bef at *; omega
      · rw [show x = n by omega]; intro k; unfold bef at k; omega
    · rw [if_neg c]
      rcases Nat.lt_or_ge x n with g | g
      · exact ih x g
      · rw [show x = n by omega]; exact c
theorem leastI_min {v : Ring} {p : Pnt} (h : p ∈ v) : ¬ bef p (ptAt v (leastI v)) := by
 obtain ⟨i, hi⟩ := List.getElem?_of_mem h
 have hl := Pl.lt_of_some hi
 have : ptAt v i = p := by unfold ptAt; rw [List.getD_eq_getElem?_getD, hi]; rfl
 rw [← this]
 exact leastN_min v v.length i hl
theorem leastI_in {v : Ring} (h : v ≠ []) : leastI v < v.length := by
 have := leastN_b v v.length
 have : 0 < v.length := List.length_pos_iff.2 h
 unfold leastI; omega
def Ci (r : Ring) : List Nat := (List.range r.length).filter (Vd.turns r)
theorem corners_Ci (r : Ring) : corners r = (Ci r).map (ptAt r) := rfl
theorem mem_Ci {r : Ring} {k : Nat} : k ∈ Ci r ↔ k < r.length ∧ Vd.turns r k = true := by unfold Ci; rw [List.mem_filter, List.mem_range]
theorem Ci_pos {r : Ring} {k : Nat} (h : k ∈ Ci r) : 1 ≤ k ∧ k ≤ per r := by
 obtain ⟨h1, h2⟩ := mem_Ci.1 h
 unfold Vd.turns at h2
 simp only [Bool.and_eq_true, decide_eq_true_eq] at h2
 unfold per; omega
theorem Ci_lt (r : Ring) : (Ci r).Pairwise (· < ·) := List.pairwise_lt_range.filter _
def cAt (r : Ring) (x : Nat) : Nat := (Ci r).getD x 0
theorem cAt_get {r : Ring} {x : Nat} (h : x < (Ci r).length) : (Ci r)[x]? = some (cAt r x) := by
 unfold cAt; rw [List.getD_eq_getElem?_getD, List.getElem?_eq_getElem h]; rfl
theorem cAt_mem {r : Ring} {x : Nat} (h : x < (Ci r).length) : cAt r x ∈ Ci r := Pl.mem_of_some (cAt_get h)
theorem cAt_lt {r : Ring} {x y : Nat} (h : x < y) (hy : y < (Ci r).length) : cAt r x < cAt r y := by
 have := List.pairwise_iff_getElem.1 (Ci_lt r) x y (by omega) hy h
 have e1 := cAt_get (r := r) (x := x) (by omega)
 have e2 := cAt_get hy
 rw [List.getElem?_eq_getElem (by omega)] at e1
 rw [List.getElem?_eq_getElem hy] at e2
 rw [Option.some.inj e1, Option.some.inj e2] at this
 exact this
theorem at_Ci {r : Ring} {k : Nat} (h : k ∈ Ci r) : ∃ x, x < (Ci r).length ∧ cAt r x = k := by
 obtain ⟨x, hx⟩ := List.getElem?_of_mem h
 have hl := Pl.lt_of_some hx
 exact ⟨x, hl, by have := cAt_get hl; rw [hx] at this; exact (Option.some.inj this).symm⟩
theorem corner_at {r : Ring} {x : Nat} (h : x < (Ci r).length) : ptAt (corners r) x = ptAt r (cAt r x) := by
 rw [corners_Ci]
 show ((Ci r).map (ptAt r)).getD x (0, 0) = _
 rw [List.getD_eq_getElem?_getD, List.getElem?_map, cAt_get h]; rfl
theorem corners_len (r : Ring) : (corners r).length = (Ci r).length := by rw [corners_Ci, List.length_map]
def nx (r : Ring) (x : Nat) : Nat := if x + 1 < (Ci r).length then cAt r (x + 1) else cAt r 0 + per r
theorem VR.gapC {r : Ring} (h : VR r) {x : Nat} (hx : x < (Ci r).length) : cAt r x < nx r x ∧ ∀ k, cAt r x < k → k < nx r x → xp (Wr r (k - 1)) (Wr r k) = 0 := by
  have h4 := h.shut.len
  have e0 : per r = r.length - 1 := rfl
  have bx := Ci_pos (cAt_mem hx)
  have b0 := Ci_pos (cAt_mem (r := r) (x := 0) (by omega))
  have no : ∀ k, 1 ≤ k → k ≤ per r → (∀ y, y < (Ci r).length → cAt r y ≠ k) → xp (Wr r (k - 1)) (Wr r k) = 0 := fun k k1 k2 hk => by
    have ht : Vd.turns r k = false := by
      cases hh : Vd.turns r k with
      | false => rfl
      | true =>
        obtain ⟨y, hy, e⟩ := at_Ci (mem_Ci.2 ⟨by omega, hh⟩)
        exact absurd e (hk y hy)
    rw [h.turns_iff k1 k2] at ht
    have := of_decide_eq_false ht
    exact Classical.byContradiction fun g => this g
  unfold nx
  by_cases g : x + 1 < (Ci r).length
  · rw [if_pos g]
    refine ⟨cAt_lt (by omega) g, fun k k1 k2 => ?_⟩
    have b1 := Ci_pos (cAt_mem g)
    refine no k (by omega) (by omega) fun y hy e => ?_
    rcases Nat.lt_trichotomy y x with q | q | q
    · have := cAt_lt q hx; omega
    · subst q; omega
    · rcases Nat.lt_or_ge (x + 1) y with q2 | q2
      · have := cAt_lt q2 hy; omega
      · have : y = x + 1 := by omega
        subst this; omega
  · rw [if_neg g]
    refine ⟨by omega, fun k k1 k2 => ?_⟩
    rcases Nat.lt_or_ge (per r) k with q | q
    · obtain ⟨k', rfl⟩ : ∃ k', k = k' + per r := ⟨k - per r, by omega⟩
      rw [show k' + per r - 1 = (k' - 1) + per r by omega, Wr_per, Wr_per]
      refine no k' (by omega) (by omega) fun y hy e => ?_
      rcases Nat.eq_zero_or_pos y with z | z
      · subst z; omega
      · have := cAt_lt z hy; omega
    · refine no k (by omega) q fun y hy e => ?_
      rcases Nat.lt_trichotomy y x with z | z | z
      · have := cAt_lt z hx; omega
      · subst z; omega
      · omega
theorem VR.at_nx {r : Ring} (h : VR r) {x : Nat} (hx : x < (Ci r).length) : Pr r (nx r x) = ptAt (corners r) ((x + 1) % (corners r).length) ∧ Wr r (nx r x - 1) = Wr r (cAt r ((x + 1) % (corners r).length) - 1 + 0) ∧ Pr r (cAt r x) = ptAt (corners r) x := by
 have b0 := Ci_pos (cAt_mem (r := r) (x := 0) (by omega))
 have bx := Ci_pos (cAt_mem hx)
 rw [corners_len]
 unfold nx
 by_cases g : x + 1 < (Ci r).length
 ·rw [if_pos g, Nat.mod_eq_of_lt g, corner_at g, corner_at hx, h.pr bx.2]
  exact ⟨h.pr (Ci_pos (cAt_mem g)).2, rfl, rfl⟩
 ·rw [if_neg g, show x + 1 = (Ci r).length by omega, Nat.mod_self, corner_at (by omega), corner_at hx, Pr_per, h.pr bx.2]
  exact ⟨h.pr b0.2, by rw [show cAt r 0 + per r - 1 = (cAt r 0 - 1) + per r by omega, Wr_per]; rfl, rfl⟩
theorem VR.corner_turn {r : Ring} (h : VR r) {f : Nat} (hf : f < (Ci r).length) :
  (0 < cr (ptAt (corners r) ((f + (corners r).length - 1) % (corners r).length)) (ptAt (corners r) f) (ptAt (corners r) ((f + 1) % (corners r).length)) 1 ↔ 0 < cr (ptAt r (cAt r f - 1)) (ptAt r (cAt r f)) (nextI r (cAt r f)) 1) := by
 have bf := Ci_pos (cAt_mem hf)
 have cl := corners_len r
 obtain ⟨x, hx, e1, e2⟩ : ∃ x, x < (Ci r).length ∧ (f + (corners r).length - 1) % (corners r).length = x ∧ (x + 1) % (corners r).length = f := by
  rw [cl]
  rcases Nat.eq_zero_or_pos f with z | z
  ·subst z
   refine ⟨(Ci r).length - 1, by omega, ?_, ?_⟩
   ·rw [Nat.zero_add, Nat.mod_eq_of_lt (by omega)]
   ·rw [show (Ci r).length - 1 + 1 = (Ci r).length by omega, Nat.mod_self]
  ·refine ⟨f - 1, by omega, ?_, ?_⟩
   ·rw [show f + (Ci r).length - 1 = (f - 1) + (Ci r).length by omega, Nat.add_mod_right, Nat.mod_eq_of_lt (by omega)]
   ·rw [show f - 1 + 1 = f by omega, Nat.mod_eq_of_lt hf]
 obtain ⟨p1, p2⟩ := h.gapC hx
 obtain ⟨q1, q2⟩ := h.gapC hf
 obtain ⟨-, d1⟩ := h.run2 p1 p2
 obtain ⟨d2, -⟩ := h.run2 q1 q2
 obtain ⟨a1, a2, a3⟩ := h.at_nx hx
 obtain ⟨b1, b2, b3⟩ := h.at_nx hf
 rw [e2] at a1 a2
 rw [a1, a3, a2, Nat.add_zero] at d1
 rw [b1, b3] at d2
 rw [e1, cr_xp, cr_xp]
 have := (dir_sign d1 d2).1
 rw [← this]
 unfold Wr
 rw [show cAt r f - 1 + 1 = cAt r f by omega, h.pr (i := cAt r f - 1) (by omega), h.pr bf.2, h.pr_next bf.1 bf.2]
theorem VR.lefts_area {r : Ring} (h : VR r) : lefts (corners r) (leastI (corners r)) = decide (0 < area2 r) := by
 have hne : corners r ≠ [] := fun e => by have := h.corners_two; rw [e] at this; simp at this
 have hf := leastI_in hne
 have hfl : leastI (corners r) < (Ci r).length := by rw [← corners_len]; exact hf
 have bf := Ci_pos (cAt_mem hfl)
 have e1 := corner_at hfl
 have h4 := h.shut.len
 have e0 : per r = r.length - 1 := rfl
 have hm : ∀ v ∈ r, ¬ bef v (ptAt r (cAt r (leastI (corners r)))) := by
  obtain ⟨i, hi1, hil, hmin⟩ : ∃ i, 1 ≤ i ∧ i < r.length ∧ ∀ v ∈ r, ¬ bef v (ptAt r i) := by
   have hr : r ≠ [] := fun e => by rw [e] at h4; simp at h4
   have hl := leastI_in hr
   by_cases z : leastI r = 0
   ·refine ⟨r.length - 1, by omega, by omega, fun v hv => ?_⟩
    rw [← h.wrap]
    have := leastI_min hv
    rw [z] at this
    exact this
   ·exact ⟨leastI r, by omega, hl, fun v hv => leastI_min hv⟩
  have ht : Vd.turns r i = true := by
   rw [h.turns_iff hi1 (by omega)]
   apply decide_eq_true
   intro e
   apply (h.least_hand hi1 hil hmin).1
   rw [cr_xp, ← e]
   unfold Wr
   rw [show i - 1 + 1 = i by omega, h.pr (i := i - 1) (by omega), h.pr (i := i) (by omega), h.pr_next hi1 (by omega)]
  have hin : ptAt r i ∈ corners r := by rw [corners_Ci]; exact List.mem_map_of_mem (mem_Ci.2 ⟨hil, ht⟩)
  have k := leastI_min hin
  rw [e1] at k
  intro v hv
  exact bef_tr (hmin v hv) k
 rw [h.area bf.1 (by omega) hm]
 unfold lefts side at1
 apply decide_eq_decide.2
 rw [← h.corner_turn hfl]
 exact sg_pos _
theorem VR.corners_three {r : Ring} (h : VR r) : 3 ≤ (corners r).length := by
 have h2 := h.corners_two
 rcases Nat.lt_or_ge 2 (corners r).length with g | g
 ·omega
 ·exfalso
  have e : (Ci r).length = 2 := by rw [← corners_len]; omega
  obtain ⟨p1, p2⟩ := h.gapC (x := 0) (by omega)
  obtain ⟨q1, q2⟩ := h.gapC (x := 1) (by omega)
  obtain ⟨-, d1⟩ := h.run2 p1 p2
  obtain ⟨d2, -⟩ := h.run2 q1 q2
  obtain ⟨a1, a2, a3⟩ := h.at_nx (x := 0) (by omega)
  obtain ⟨b1, b2, b3⟩ := h.at_nx (x := 1) (by omega)
  rw [corners_len, e] at a1 a2 b1
  rw [a1, a3, a2] at d1
  rw [b1, b3] at d2
  have bc := Ci_pos (cAt_mem (r := r) (x := 1) (by omega))
  have z : xp (sub (ptAt (corners r) 0) (ptAt (corners r) ((0 + 1) % 2))) (sub (ptAt (corners r) 1) (ptAt (corners r) ((1 + 1) % 2))) = 0 := by
   show xp (sub (ptAt (corners r) 0) (ptAt (corners r) 1)) (sub (ptAt (corners r) 1) (ptAt (corners r) 0)) = 0
   unfold xp sub; grind
  have := (dir_sign d1 d2).2.2 z
  have ht := (mem_Ci.1 (cAt_mem (r := r) (x := 1) (by omega))).2
  rw [h.turns_iff bc.1 bc.2] at ht
  exact of_decide_eq_true ht this
def rotL (l : Ring) : Ring := l.drop (leastI l) ++ l.take (leastI l)
theorem ptAt_mid (A : Ring) (b : Pnt) (B : Ring) : ptAt (A ++ b :: B) A.length = b := by
 unfold ptAt; rw [List.getD_eq_getElem?_getD, List.getElem?_append_right (Nat.le_refl _), Nat.sub_self]; rfl
theorem leastI_at {A B : Ring} {b : Pnt} (h : ∀ p ∈ A ++ B, bef b p) : leastI (A ++ b :: B) = A.length := by
 have hl : leastI (A ++ b :: B) < (A ++ b :: B).length := leastI_in (by simp)
 have hm : ¬ bef b (ptAt (A ++ b :: B) (leastI (A ++ b :: B))) := leastI_min (by simp)
 rcases Nat.lt_trichotomy (leastI (A ++ b :: B)) A.length with g | g | g
 ·have : ptAt (A ++ b :: B) (leastI (A ++ b :: B)) = ptAt A (leastI (A ++ b :: B)) := ptAt_app1 g
  rw [this] at hm
  exact absurd (h _ (List.mem_append_left _ (ptAt_mem g))) hm
 ·exact g
 ·obtain ⟨k, hk⟩ : ∃ k, leastI (A ++ b :: B) = A.length + (k + 1) := ⟨leastI (A ++ b :: B) - A.length - 1, by omega⟩
  rw [hk] at hm hl
  have : ptAt (A ++ b :: B) (A.length + (k + 1)) = ptAt B k := by rw [ptAt_app2]; unfold ptAt; rfl
  rw [this] at hm
  exact absurd (h _ (List.mem_append_right _ (ptAt_mem (by simp at hl; omega)))) hm
theorem rotL_at {A B : Ring} {b : Pnt} (h : ∀ p ∈ A ++ B, bef b p) : rotL (A ++ b :: B) = b :: B ++ A := by
 unfold rotL
 rw [leastI_at h, List.drop_left, List.take_left]
def roundD (l : Ring) : Ring := rotL l ++ [ptAt l (leastI l)]
theorem roundD_at {A B : Ring} {b : Pnt} (h : ∀ p ∈ A ++ B, bef b p) : roundD (A ++ b :: B) = b :: B ++ A ++ [b] := by
 unfold roundD
 rw [rotL_at h, leastI_at h, ptAt_mid]
theorem roundD_rev {A B : Ring} {b : Pnt} (h : ∀ p ∈ A ++ B, bef b p) : roundD (A ++ b :: B).reverse = b :: A.reverse ++ B.reverse ++ [b] := by
 have e : (A ++ b :: B).reverse = B.reverse ++ b :: A.reverse := by simp
 rw [e, roundD_at]
 intro p hp
 rcases List.mem_append.1 hp with k | k
 ·exact h p (List.mem_append_right _ (List.mem_reverse.1 k))
 ·exact h p (List.mem_append_left _ (List.mem_reverse.1 k))
theorem least_split {l : Ring} (hne : l ≠ []) (hnd : l.Nodup) : ∃ A b B, l = A ++ b :: B ∧ ∀ p ∈ A ++ B, bef b p := by
 have hl := leastI_in hne
 obtain ⟨A, B, e⟩ := List.append_of_mem (ptAt_mem hl)
 refine ⟨A, _, B, e, fun p hp => ?_⟩
 have hm := leastI_min (v := l) (p := p) (by rw [e]; rcases List.mem_append.1 hp with k | k <;> simp [k])
 have hn : p ≠ ptAt l (leastI l) := by
  intro e2
  rw [e] at hnd
  rw [List.nodup_append, List.nodup_cons] at hnd
  rcases List.mem_append.1 hp with k | k
  ·exact hnd.2.2 p k _ (by simp) e2
  ·exact hnd.2.1.1 (e2 ▸ k)
 have : p.1 ≠ (ptAt l (leastI l)).1 ∨ p.2 ≠ (ptAt l (leastI l)).2 := by
  by_cases k : p.1 = (ptAt l (leastI l)).1
  ·exact .inr fun e => hn (Prod.ext k e)
  ·exact .inl k
 unfold bef at *
 omega
theorem round_turn {E M : Ring} (hne : M ++ E ≠ []) (hnd : (M ++ E).Nodup) : roundD (E ++ M) = roundD (M ++ E) ∧ roundD (E ++ M).reverse = roundD (M ++ E).reverse := by
  obtain ⟨A, b, B, e, h⟩ := least_split hne hnd
  rcases List.append_eq_append_iff.1 e with ⟨as, e1, e2⟩ | ⟨bs, e1, e2⟩
  · -- the least stands in E
    cases as with
    | nil =>
      simp only [List.append_nil, List.nil_append] at e1 e2
      subst e1
      subst e2
      have h' : ∀ p ∈ [] ++ (B ++ A), bef b p := fun p hp => h p (by simp at hp ⊢; grind)
      have r1 := roundD_at h
      have r2 := roundD_at (A := []) (B := B ++ A) (b := b) h'
      have s1 := roundD_rev h
      have s2 := roundD_rev (A := []) (B := B ++ A) (b := b) h'
      simp only [List.nil_append, List.cons_append] at r1 r2 s1 s2 ⊢
      rw [r1, r2, s1, s2]
      simp
    | cons a as =>
      simp only [List.cons_append, List.cons.injEq] at e2
      subst e1
      have e3 : E = (a :: as) ++ b :: B := by rw [e2]; rfl
      subst e3
      have h1 : ∀ p ∈ (a :: as) ++ (B ++ M), bef b p := fun p hp => h p (by simp at hp ⊢; grind)
      have r1 := roundD_at (A := M ++ a :: as) (B := B) (b := b) h
      have r2 := roundD_at h1
      have s1 := roundD_rev (A := M ++ a :: as) (B := B) (b := b) h
      have s2 := roundD_rev h1
      rw [show (a :: as) ++ b :: B ++ M = (a :: as) ++ b :: (B ++ M) by simp, show M ++ ((a :: as) ++ b :: B) = (M ++ a :: as) ++ b :: B by simp, r1, r2, s1, s2]
      simp
  · -- the least stands in M
    cases bs with
    | nil =>
      simp only [List.append_nil, List.nil_append] at e1 e2
      subst e1
      subst e2
      have h' : ∀ p ∈ [] ++ (B ++ M), bef b p := fun p hp => h p (by simp at hp ⊢; grind)
      have r1 := roundD_at h
      have r2 := roundD_at (A := []) (B := B ++ M) (b := b) h'
      have s1 := roundD_rev h
      have s2 := roundD_rev (A := []) (B := B ++ M) (b := b) h'
      simp only [List.nil_append, List.cons_append] at r1 r2 s1 s2 ⊢
      rw [r1, r2, s1, s2]
      simp
    | cons a bs =>
      simp only [List.cons_append, List.cons.injEq] at e2
      obtain ⟨rfl, rfl⟩ := e2
      subst e1
      have h1 : ∀ p ∈ (E ++ A) ++ bs, bef b p := fun p hp => h p (by simp at hp ⊢; grind)
      have h2 : ∀ p ∈ A ++ (bs ++ E), bef b p := h
      have r1 := roundD_at h1
      have r2 := roundD_at h2
      have s1 := roundD_rev h1
      have s2 := roundD_rev h2
      rw [show E ++ (A ++ b :: bs) = (E ++ A) ++ b :: bs by simp, show A ++ b :: bs ++ E = A ++ b :: (bs ++ E) by simp, r1, r2, s1, s2]
      simp
theorem ext_pt {l k : Ring} (hl : l.length = k.length) (h : ∀ i, i < l.length → ptAt l i = ptAt k i) : l = k := by
 refine List.ext_getElem? fun i => ?_
 rcases Nat.lt_or_ge i l.length with g | g
 ·rw [ptAt_get g, ptAt_get (by omega), h i g]
 ·rw [List.getElem?_eq_none g, List.getElem?_eq_none (by omega)]
theorem ptAt_map_range {n i : Nat} {f : Nat → Pnt} (h : i < n) : ptAt ((List.range n).map f) i = f i := by
 unfold ptAt; rw [List.getD_eq_getElem?_getD, List.getElem?_map, List.getElem?_range h]; rfl
theorem ptAt_cons_succ (b : Pnt) (l : Ring) (i : Nat) : ptAt (b :: l) (i + 1) = ptAt l i := by unfold ptAt; rfl
theorem ptAt_rev {l : Ring} {i : Nat} (h : i < l.length) : ptAt l.reverse i = ptAt l (l.length - 1 - i) := by
 unfold ptAt; rw [List.getD_eq_getElem?_getD, List.getD_eq_getElem?_getD, List.getElem?_reverse h]
theorem ptAt_left {l k : Ring} {i : Nat} (h : i < l.length) : ptAt (l ++ k) i = ptAt l i := ptAt_app1 h
theorem ptAt_right {l k : Ring} {i : Nat} (h : l.length ≤ i) : ptAt (l ++ k) i = ptAt k (i - l.length) := by
 have := ptAt_app2 (p1 := l) (p2 := k) (i - l.length)
 rw [show l.length + (i - l.length) = i by omega] at this
 exact this
theorem form_fwd (A : Ring) (b : Pnt) (B : Ring) : (List.range ((A ++ b :: B).length + 1)).map (fun t => ptAt (A ++ b :: B) ((A.length + t * 1) % (A ++ b :: B).length)) = b :: B ++ A ++ [b] := by
 have hc : (A ++ b :: B).length = A.length + B.length + 1 := by simp; omega
 refine ext_pt (by simp; omega) fun t ht => ?_
 rw [List.length_map, List.length_range] at ht
 rw [ptAt_map_range ht, Nat.mul_one]
 have lb : (b :: B).length = B.length + 1 := by simp
 have lba : (b :: B ++ A).length = B.length + 1 + A.length := by simp; omega
 rcases Nat.lt_or_ge t (B.length + 1) with g | g
 ·rw [Nat.mod_eq_of_lt (by omega), ptAt_right (by omega), ptAt_left (by omega), ptAt_left (by omega)]
  congr 1; omega
 ·rcases Nat.lt_or_ge t (A ++ b :: B).length with g2 | g2
  ·have e : (A.length + t) % (A ++ b :: B).length = A.length + t - (A ++ b :: B).length := by
    rw [Nat.mod_eq_sub_mod (by omega), Nat.mod_eq_of_lt (by omega)]
   rw [e, ptAt_left (by omega), ptAt_left (by omega), ptAt_right (by omega)]
   congr 1; omega
  ·have et : t = (A ++ b :: B).length := by omega
   rw [et, Nat.add_mod_right, Nat.mod_eq_of_lt (by omega), ptAt_mid, ptAt_right (by omega), show (A ++ b :: B).length - (b :: B ++ A).length = 0 by omega]; rfl
theorem mod_back {f c t : Nat} (hc : 1 ≤ c) (ht : t ≤ c) : (f + t * (c - 1)) % c = (f + (c - t)) % c := by
 rcases Nat.eq_zero_or_pos t with z | z
 ·subst z; rw [Nat.zero_mul, Nat.add_zero, Nat.sub_zero, Nat.add_mod_right]
 ·have e : f + t * (c - 1) = (f + (c - t)) + c * (t - 1) := by
   obtain ⟨t', rfl⟩ : ∃ t', t = t' + 1 := ⟨t - 1, by omega⟩
   obtain ⟨c', rfl⟩ : ∃ c', c = c' + 1 := ⟨c - 1, by omega⟩
   rw [show c' + 1 - 1 = c' from rfl, show t' + 1 - 1 = t' from rfl]
   have : (t' + 1) * c' = t' * c' + c' := Nat.succ_mul _ _
   have : (c' + 1) * t' = c' * t' + t' := Nat.succ_mul _ _
   have : t' * c' = c' * t' := Nat.mul_comm _ _
   omega
  rw [e, Nat.add_mul_mod_self_left]
theorem form_bwd (A : Ring) (b : Pnt) (B : Ring) : (List.range ((A ++ b :: B).length + 1)).map (fun t => ptAt (A ++ b :: B) ((A.length + t * ((A ++ b :: B).length - 1)) % (A ++ b :: B).length)) = b :: A.reverse ++ B.reverse ++ [b] := by
 have hc : (A ++ b :: B).length = A.length + B.length + 1 := by simp; omega
 refine ext_pt (by simp <;> omega) fun t ht => ?_
 rw [List.length_map, List.length_range] at ht
 rw [ptAt_map_range ht, mod_back (by omega) (by omega)]
 have lba : (b :: A.reverse ++ B.reverse).length = A.length + 1 + B.length := by simp; omega
 have lb : (b :: A.reverse).length = A.length + 1 := by simp
 rcases Nat.eq_zero_or_pos t with z | z
 ·subst z
  rw [Nat.sub_zero, Nat.add_mod_right, Nat.mod_eq_of_lt (by omega), ptAt_mid]; rfl
 ·obtain ⟨s, rfl⟩ : ∃ s, t = s + 1 := ⟨t - 1, by omega⟩
  rcases Nat.lt_or_ge s A.length with g | g
  ·have e : (A.length + ((A ++ b :: B).length - (s + 1))) % (A ++ b :: B).length = A.length - (s + 1) := by
    rw [Nat.mod_eq_sub_mod (by omega), Nat.mod_eq_of_lt (by omega)]; omega
   rw [e, ptAt_left (by omega), ptAt_left (by omega), ptAt_left (by omega), ptAt_cons_succ, ptAt_rev g]
   congr 1; omega
  ·rcases Nat.lt_or_ge (s + 1) (A ++ b :: B).length with g2 | g2
   ·rw [Nat.mod_eq_of_lt (by omega), ptAt_right (by omega), ptAt_left (by omega), ptAt_right (by omega), lb, ptAt_rev (by omega)]
    rw [show A.length + ((A ++ b :: B).length - (s + 1)) - A.length = ((A ++ b :: B).length - (s + 1) - 1) + 1 by omega, ptAt_cons_succ]
    congr 1; omega
   ·have et : s + 1 = (A ++ b :: B).length := by omega
    rw [et, Nat.sub_self, Nat.add_zero, Nat.mod_eq_of_lt (by omega), ptAt_mid, ptAt_right (by omega), show (A ++ b :: B).length - (b :: A.reverse ++ B.reverse).length = 0 by omega]; rfl
def turnD (r : Ring) (i : Nat) : Bool := decide (xp (sub (ptAt r ((i + (r.length - 1) - 1) % (r.length - 1))) (ptAt r i)) (sub (ptAt r i) (ptAt r (i + 1))) ≠ 0)
def cornersU (r : Ring) : Ring := ((List.range (r.length - 1)).filter (turnD r)).map (ptAt r)
def cornersD (r : Ring) (left : Bool) : Ring := if decide (0 < twiceA (ptAt r 0) r) = left then cornersU r else (cornersU r).reverse
def ringD (r : Ring) (left : Bool) : Ring := roundD (cornersD r left)
theorem VR.turnD_eq {r : Ring} (h : VR r) {i : Nat} (h1 : 1 ≤ i) (hi : i < r.length - 1) : turnD r i = Vd.turns r i := by
 have e0 : per r = r.length - 1 := rfl
 rw [h.turns_iff h1 (by omega)]
 unfold turnD Wr
 rw [show i + (r.length - 1) - 1 = (i - 1) + (r.length - 1) by omega, Nat.add_mod_right, Nat.mod_eq_of_lt (by omega), show i - 1 + 1 = i by omega, h.pr (i := i - 1) (by omega), h.pr (i := i) (by omega), h.pr (i := i + 1) (by omega)]
theorem VR.turnD_zero {r : Ring} (h : VR r) : turnD r 0 = Vd.turns r (r.length - 1) := by
 have e0 : per r = r.length - 1 := rfl
 have h4 := h.shut.len
 rw [h.turns_iff (by omega) (by omega)]
 unfold turnD Wr
 rw [show 0 + (r.length - 1) - 1 = r.length - 2 by omega, Nat.mod_eq_of_lt (by omega), show r.length - 1 - 1 + 1 = r.length - 1 by omega, h.pr (i := r.length - 1 - 1) (by omega), h.pr (i := r.length - 1) (by omega), h.pr_next (by omega) (by omega), ← h.wrap]
 unfold nextI
 rw [if_neg (by omega)]
 rfl
theorem VR.corners_split {r : Ring} (h : VR r) : ∃ M E : Ring, corners r = M ++ E ∧ cornersU r = E ++ M := by
 have h4 := h.shut.len
 obtain ⟨n, hn⟩ : ∃ n, r.length = n + 2 := ⟨r.length - 2, by omega⟩
 have r1 : List.range r.length = 0 :: (List.range' 1 n ++ [n + 1]) := by
  rw [hn, List.range_succ, List.range_eq_range', List.range'_succ]; rfl
 have r2 : List.range (r.length - 1) = 0 :: List.range' 1 n := by
  rw [hn, show n + 2 - 1 = n + 1 from rfl, List.range_eq_range', List.range'_succ]
 have t0 : Vd.turns r 0 = false := by unfold Vd.turns; simp
 refine ⟨((List.range' 1 n).filter (Vd.turns r)).map (ptAt r), if Vd.turns r (n + 1) = true then [ptAt r (n + 1)] else [], ?_, ?_⟩
 ·rw [corners_Ci]
  unfold Ci
  rw [r1, List.filter_cons, t0, if_neg (by decide), List.filter_append, List.map_append]
  congr 1
  by_cases k : Vd.turns r (n + 1) = true
  ·rw [if_pos k]; simp [k]
  ·rw [if_neg k]; simp [k]
 ·unfold cornersU
  rw [r2, List.filter_cons, h.turnD_zero, show r.length - 1 = n + 1 by omega]
  have e : (List.range' 1 n).filter (turnD r) = (List.range' 1 n).filter (Vd.turns r) := by
   refine List.filter_congr fun i hi => ?_
   have := List.mem_range'_1.1 hi
   exact h.turnD_eq (by omega) (by omega)
  by_cases k : Vd.turns r (n + 1) = true
  ·rw [if_pos k, if_pos k, List.map_cons, e, h.wrap, show r.length - 1 = n + 1 by omega]; rfl
  ·rw [if_neg k, if_neg k, e]; rfl
theorem VR.ring_eq {r : Ring} (h : VR r) (left : Bool) : ringForm r left = ringD r left := by
 have h3 := h.corners_three
 obtain ⟨M, E, e1, e2⟩ := h.corners_split
 have hne : M ++ E ≠ [] := fun e => by rw [← e1] at e; rw [e] at h3; simp at h3
 have hnd : (M ++ E).Nodup := by rw [← e1]; exact h.corners_nodup
 obtain ⟨t1, t2⟩ := round_turn hne hnd
 have hl := h.lefts_area
 have ha : twiceA (ptAt r 0) r = area2 r := twiceA_eq (shut_ends h.shut) _
 unfold ringD cornersD
 rw [ha, e2]
 unfold ringForm stepI
 rw [if_neg (by omega), hl]
 obtain ⟨A, b, B, es, hb⟩ := least_split hne hnd
 by_cases c : decide (0 < area2 r) = left
 ·rw [if_pos c, if_pos c, t1, e1, es, leastI_at hb, form_fwd, roundD_at hb]
 ·rw [if_neg c, if_neg c, t2, e1, es, leastI_at hb, form_bwd, roundD_rev hb]
def insR {α : Type} (c : α → α → Int) (x : α) : List α → List α
 | [] => [x]
 | y :: t => if c x y < 0 then y :: insR c x t else x :: y :: t
def insB {α : Type} (c : α → α → Int) (l : List α) (x : α) : List α := (insR c x l.reverse).reverse
theorem insB_snoc {α : Type} (c : α → α → Int) (l : List α) (y x : α) : insB c (l ++ [y]) x = if c x y < 0 then insB c l x ++ [y] else l ++ [y] ++ [x] := by
 unfold insB
 rw [List.reverse_append, show [y].reverse ++ l.reverse = y :: l.reverse from rfl, insR]
 split
 ·rw [List.reverse_cons]
 ·rw [List.reverse_cons, List.reverse_cons, List.reverse_reverse]
theorem snoc_ind {α : Type} {P : List α → Prop} (h0 : P []) (h1 : ∀ l x, P l → P (l ++ [x])) : ∀ l, P l := by
  intro l
  have : ∀ n (l : List α), l.length = n → P l := by
    intro n
    induction n with
    | zero => intro l hl; rw [List.eq_nil_of_length_eq_zero hl]; exact h0
    | succ n ih =>
      intro l hl
      rcases List.eq_nil_or_concat l with e | ⟨t, x, e⟩
      · rw [e]; exact h0
      · rw [e, List.concat_eq_append]
        rw [e] at hl
        exact h1 t x (ih t (by simp at hl; omega))
  exact this l.length l rfl
theorem insB_perm {α : Type} (c : α → α → Int) (x : α) : ∀ l, (insB c l x).Perm (l ++ [x]) := by
  intro l
  induction l using snoc_ind with
  | h0 => exact List.Perm.refl _
  | h1 l y ih =>
    rw [insB_snoc]
    split
    · have k : (insB c l x ++ [y]).Perm (l ++ [x] ++ [y]) := ih.append_right _
      refine k.trans ?_
      rw [List.append_assoc, List.append_assoc]
      exact List.Perm.append_left _ (List.Perm.swap y x [])
    · exact List.Perm.refl _
theorem Cmp.le_trans {α : Type} {c : α → α → Int} (h : Cmp c) {x y z : α} (h1 : c x y ≤ 0) (h2 : c y z ≤ 0) : c x z ≤ 0 := by
 rcases Int.lt_or_le (c x y) 0 with g | g
 ·rcases Int.lt_or_le (c y z) 0 with g2 | g2
  ·have := h.trans x y z g g2; omega
  ·rw [← h.eq y z (by omega)]; exact h1
 ·rw [h.eq x y (by omega)]; exact h2
theorem insB_sorted {α : Type} {c : α → α → Int} (h : Cmp c) (x : α) : ∀ l, l.Pairwise (fun a b => c a b ≤ 0) → (insB c l x).Pairwise (fun a b => c a b ≤ 0) := by
  intro l
  induction l using snoc_ind with
  | h0 => intro _; exact List.pairwise_singleton _ _
  | h1 l y ih =>
    intro hp
    obtain ⟨p1, p2, p3⟩ := List.pairwise_append.1 hp
    rw [insB_snoc]
    split
    · rename_i k
      refine List.pairwise_append.2 ⟨ih p1, List.pairwise_singleton _ _, fun a ha b hb => ?_⟩
      rw [List.mem_singleton.1 hb]
      rcases List.mem_append.1 ((insB_perm c x l).mem_iff.1 ha) with g | g
      · exact p3 a g y (by simp)
      · rw [List.mem_singleton.1 g]; omega
    · rename_i k
      refine List.pairwise_append.2 ⟨hp, List.pairwise_singleton _ _, fun a ha b hb => ?_⟩
      rw [List.mem_singleton.1 hb]
      have hy : c y x ≤ 0 := by have := h.anti x y; omega
      rcases List.mem_append.1 ha with g | g
      · exact h.le_trans (p3 a g y (by simp)) hy
      · rw [List.mem_singleton.1 g]; exact hy
def sortD {α : Type} (c : α → α → Int) (l : List α) : List α := l.foldl (insB c) []
theorem sortD_snoc {α : Type} (c : α → α → Int) (l : List α) (x : α) : sortD c (l ++ [x]) = insB c (sortD c l) x := by unfold sortD; rw [List.foldl_append]; rfl
theorem sortD_perm {α : Type} (c : α → α → Int) : ∀ l, (sortD c l).Perm l := by
 intro l
 induction l using snoc_ind with
 | h0 => exact List.Perm.refl _
 | h1 l x ih => rw [sortD_snoc]; exact (insB_perm c x _).trans (ih.append_right _)
theorem sortD_sorted {α : Type} {c : α → α → Int} (h : Cmp c) : ∀ l, (sortD c l).Pairwise (fun a b => c a b ≤ 0) := by
 intro l
 induction l using snoc_ind with
 | h0 => exact List.Pairwise.nil
 | h1 l x ih => rw [sortD_snoc]; exact insB_sorted h x _ ih
theorem sort_unique {α : Type} {c : α → α → Int} (h : Cmp c) {l k : List α} (hl : l.Pairwise (fun a b => c a b ≤ 0)) (hk : k.Pairwise (fun a b => c a b ≤ 0)) (hp : l.Perm k) : l = k :=
 List.Perm.eq_of_pairwise (le := fun a b => c a b ≤ 0) (fun a b _ _ h1 h2 => h.eq a b (by have := h.anti a b; omega)) hl hk hp
theorem pAt_list (m : Mult) : (List.range m.length).map (pAt m) = m := by
 refine List.ext_getElem? fun i => ?_
 rcases Nat.lt_or_ge i m.length with g | g
 ·rw [List.getElem?_map, List.getElem?_range g]
  unfold pAt
  rw [Option.map_some, List.getD_eq_getElem?_getD, List.getElem?_eq_getElem g]; rfl
 ·rw [List.getElem?_eq_none (by simpa using g), List.getElem?_eq_none g]
noncomputable def inv (m : Mult) (j : Nat) : Nat := if h : j < m.length then Classical.choose (cnt_surj (m := m) h) else 0
theorem inv_at {m : Mult} {j : Nat} (h : j < m.length) : inv m j < m.length ∧ cntA m (inv m j) m.length = j := by
 unfold inv; rw [dif_pos h]; exact Classical.choose_spec (cnt_surj (m := m) h)
theorem inOrder_inv (m : Mult) : inOrder m = (List.range m.length).map fun j => pAt m (inv m j) := by
 refine List.ext_getElem? fun j => ?_
 rcases Nat.lt_or_ge j m.length with g | g
 ·obtain ⟨h1, h2⟩ := inv_at g
  have := inOrder_at m h1
  rw [h2] at this
  rw [this, List.getElem?_map, List.getElem?_range g]; rfl
 ·rw [List.getElem?_eq_none (by rw [inOrder_len]; exact g), List.getElem?_eq_none (by simpa using g)]
theorem inOrder_perm (m : Mult) : (inOrder m).Perm m := by
 have e : (fun j => pAt m (inv m j)) = pAt m ∘ inv m := rfl
 have h : ((List.range m.length).map (inv m)).Perm (List.range m.length) := by
  refine (List.perm_ext_iff_of_nodup ?_ List.nodup_range).2 fun a => ?_
  ·exact nodup_map (n := m.length) (fun i k hi hk e => by
    have a1 := (inv_at hi).2
    have a2 := (inv_at hk).2
    rw [e] at a1
    omega) m.length (Nat.le_refl _)
  ·rw [List.mem_map, List.mem_range]
   constructor
   ·rintro ⟨j, hj, rfl⟩; exact (inv_at (List.mem_range.1 hj)).1
   ·intro ha
    refine ⟨cntA m a m.length, List.mem_range.2 (cnt_small ha), ?_⟩
    obtain ⟨h1, h2⟩ := inv_at (m := m) (cnt_small ha)
    exact cnt_inj h1 ha h2
 have k := h.map (pAt m)
 rw [pAt_list, List.map_map, ← e, ← inOrder_inv] at k
 exact k
theorem inOrder_sorted (m : Mult) : (inOrder m).Pairwise (fun a b => cmpP a b ≤ 0) := by
 rw [inOrder_inv, List.pairwise_map]
 have hr : (List.range m.length).Pairwise (fun i j => i < j ∧ j < m.length) := by
  rw [List.pairwise_iff_getElem]
  intro i j hi hj hij
  simp only [List.length_range] at hi hj
  rw [List.getElem_range, List.getElem_range]
  exact ⟨hij, hj⟩
 refine hr.imp fun {i j} ⟨h1, h2⟩ => ?_
 obtain ⟨a1, a2⟩ := inv_at (m := m) (j := i) (by omega)
 obtain ⟨b1, b2⟩ := inv_at (m := m) h2
 have hne : inv m i ≠ inv m j := fun e => by rw [e] at a2; omega
 rcases aheadM_tot m hne with k | k
 ·unfold aheadM at k; omega
 ·have := cnt_lt b1 k; omega
theorem order_eq (m : Mult) : inOrder m = sortD cmpP m := sort_unique cmpP_cmp (inOrder_sorted m) (sortD_sorted cmpP_cmp m) ((inOrder_perm m).trans (sortD_perm cmpP m).symm)
theorem cmpP_one (a b : Ring) : cmpP [a] [b] = cmpR a b := by
 rw [cmpP]
 split
 ·rfl
 ·rename_i k; rw [cmpP]; omega
theorem order_ones (t : List Ring) : inOrder (t.map fun r => [r]) = (sortD cmpR t).map fun r => [r] := by
 refine sort_unique cmpP_cmp (inOrder_sorted _) ?_ ((inOrder_perm _).trans ((sortD_perm cmpR t).map _).symm)
 rw [List.pairwise_map]
 exact (sortD_sorted cmpR_cmp t).imp fun {a b} h => by rw [cmpP_one]; exact h
theorem flat_ones {α : Type} (t : List α) : (t.map fun r => [r]).flatten = t := by
 induction t with
 | nil => rfl
 | cons a t ih => simp [ih]
def polyD : Poly → Poly
 | [] => []
 | r :: t => ringD r true :: sortD cmpR (t.map fun r => ringD r false)
def canonD (m : Mult) : Mult := sortD cmpP (m.map polyD)
theorem poly_eq {l : Poly} (h : ∀ r ∈ l, VR r) : polyForm l = polyD l := by
  cases l with
  | nil => rfl
  | cons r t =>
    rw [polyForm, polyD, (h r (by simp)).ring_eq]
    congr 1
    have e : holesF t = (t.map fun r => ringD r false).map fun r => [r] := by
      unfold holesF
      rw [List.map_map]
      refine List.map_congr_left fun x hx => ?_
      show [ringForm x false] = [ringD x false]
      rw [(h x (by simp [hx])).ring_eq]
    rw [e, order_ones, flat_ones]
theorem form_eq {m : Mult} (h : ∀ l ∈ m, ∀ r ∈ l, VR r) : form m = canonD m := by
 unfold form canonD
 rw [order_eq]
 congr 1
 exact List.map_congr_left fun l hl => poly_eq (h l hl)
end Vd
end Go.Proofs.YtcclepohmhdpbabGreatDoor
