import Derived.Test.YtcclepohmhdpbaaGreatDoorVdG
import Derived.Test.YtcclepohmhdpbaaGreatDoorGgE
import Derived.Test.YtcclepohmhdpbaaGreatDoorVsA
/- THE ONE WAY, PLAINLY: the order is an order, each has a place of its own. -/
namespace Go.Proofs.YtcclepohmhdpbaaGreatDoor
set_option linter.all false
namespace Vd

/-! ### comparing, one behind the other -/
structure Cmp {α : Type} (c : α → α → Int) : Prop where
  anti : ∀ x y, c x y = -(c y x)
  eq : ∀ x y, c x y = 0 → x = y
  trans : ∀ x y z, c x y < 0 → c y z < 0 → c x z < 0
theorem Cmp.self {α : Type} {c : α → α → Int} (h : Cmp c) (x : α) : c x x = 0 := by have := h.anti x x; omega
def lexC {α : Type} (c : α → α → Int) : List α → List α → Int
  | [], [] => 0
  | [], _ :: _ => -1
  | _ :: _, [] => 1
  | p :: t, q :: u => if c p q ≠ 0 then c p q else lexC c t u
theorem lexC_anti {α : Type} {c : α → α → Int} (h : Cmp c) : ∀ a b, lexC c a b = -(lexC c b a) := by
  intro a
  induction a with
  | nil => intro b; cases b <;> simp [lexC]
  | cons p t ih =>
    intro b
    cases b with
    | nil => simp [lexC]
    | cons q u =>
      simp only [lexC]
      rw [h.anti p q]
      by_cases k : c q p = 0
      · rw [if_neg (by omega), if_neg (by omega)]; exact ih u
      · rw [if_pos (by omega), if_pos k]
theorem lexC_eq {α : Type} {c : α → α → Int} (h : Cmp c) : ∀ a b, lexC c a b = 0 → a = b := by
  intro a
  induction a with
  | nil => intro b; cases b <;> simp [lexC]
  | cons p t ih =>
    intro b
    cases b with
    | nil => simp [lexC]
    | cons q u =>
      simp only [lexC]
      intro e
      by_cases k : c p q = 0
      · rw [if_neg (by omega)] at e; rw [h.eq p q k, ih u e]
      · rw [if_pos k] at e; exact absurd e k
theorem lexC_trans {α : Type} {c : α → α → Int} (h : Cmp c) : ∀ a b d, lexC c a b < 0 → lexC c b d < 0 → lexC c a d < 0 := by
  intro a
  induction a with
  | nil =>
    intro b d h1 h2
    cases b with
    | nil => simp [lexC] at h1
    | cons q u =>
      cases d with
      | nil => simp [lexC] at h2
      | cons r v => simp [lexC]
  | cons p t ih =>
    intro b d h1 h2
    cases b with
    | nil => simp [lexC] at h1
    | cons q u =>
      cases d with
      | nil => simp [lexC] at h2
      | cons r v =>
        simp only [lexC] at *
        by_cases k1 : c p q = 0
        · rw [if_neg (by omega)] at h1
          obtain rfl := h.eq p q k1
          by_cases k2 : c p r = 0
          · rw [if_neg (by omega)] at h2 ⊢; exact ih u v h1 h2
          · rw [if_pos k2] at h2 ⊢; exact h2
        · rw [if_pos k1] at h1
          by_cases k2 : c q r = 0
          · obtain rfl := h.eq q r k2
            rw [if_pos k1]; exact h1
          · rw [if_pos k2] at h2
            have := h.trans p q r h1 h2
            rw [if_pos (by omega)]; exact this
theorem lexC_cmp {α : Type} {c : α → α → Int} (h : Cmp c) : Cmp (lexC c) := ⟨lexC_anti h, lexC_eq h, lexC_trans h⟩
def cP (p q : Pnt) : Int := if bef q p then 1 else if bef p q then -1 else 0
theorem cP_cmp : Cmp cP := by
  refine ⟨fun p q => ?_, fun p q => ?_, fun p q r => ?_⟩
  · unfold cP bef; repeat' split
    all_goals omega
  · unfold cP bef
    obtain ⟨a, b⟩ := p; obtain ⟨c, d⟩ := q
    simp only [Prod.mk.injEq]
    repeat' split
    all_goals omega
  · unfold cP bef; repeat' split
    all_goals omega
theorem cmpR_lex : ∀ a b, cmpR a b = lexC cP a b := by
  intro a
  induction a with
  | nil => intro b; cases b <;> simp [lexC, cmpR]
  | cons p t ih =>
    intro b
    cases b with
    | nil => simp [lexC, cmpR]
    | cons q u =>
      simp only [lexC, cmpR, ih u]
      unfold cP
      by_cases k : bef q p
      · rw [if_pos k, if_pos k, if_pos (by omega)]
      · rw [if_neg k, if_neg k]
        by_cases k2 : bef p q
        · rw [if_pos k2, if_pos k2, if_pos (by omega)]
        · rw [if_neg k2, if_neg k2, if_neg (by omega)]
theorem cmpR_cmp : Cmp cmpR := by
  have := lexC_cmp cP_cmp
  rwa [show lexC cP = cmpR from funext fun a => funext fun b => (cmpR_lex a b).symm] at this
theorem cmpP_lex : ∀ a b, cmpP a b = lexC cmpR a b := by
  intro a
  induction a with
  | nil => intro b; cases b <;> simp [lexC, cmpP]
  | cons p t ih =>
    intro b
    cases b with
    | nil => simp [lexC, cmpP]
    | cons q u => simp only [lexC, cmpP, ih u]
theorem cmpP_cmp : Cmp cmpP := by
  have := lexC_cmp cmpR_cmp
  rwa [show lexC cmpR = cmpP from funext fun a => funext fun b => (cmpP_lex a b).symm] at this

/-! ### who stands ahead of whom -/
def aheadM (m : Mult) (i k : Nat) : Prop := cmpP (pAt m i) (pAt m k) < 0 ∨ (cmpP (pAt m i) (pAt m k) = 0 ∧ i < k)
theorem isA_iff (m : Mult) (a i : Nat) : isA m a i = true ↔ aheadM m i a := by unfold isA aheadM; simp
theorem aheadM_irr (m : Mult) (i : Nat) : ¬ aheadM m i i := by unfold aheadM; have := cmpP_cmp.self (pAt m i); omega
theorem aheadM_tot (m : Mult) {i k : Nat} (h : i ≠ k) : aheadM m i k ∨ aheadM m k i := by unfold aheadM; have := cmpP_cmp.anti (pAt m i) (pAt m k); omega
theorem aheadM_trans (m : Mult) {i j k : Nat} (h1 : aheadM m i j) (h2 : aheadM m j k) : aheadM m i k := by
  unfold aheadM at *
  rcases h1 with h1 | ⟨h1, l1⟩
  · rcases h2 with h2 | ⟨h2, l2⟩
    · exact .inl (cmpP_cmp.trans _ _ _ h1 h2)
    · rw [← cmpP_cmp.eq _ _ h2]; exact .inl h1
  · rw [cmpP_cmp.eq _ _ h1]
    rcases h2 with h2 | ⟨h2, l2⟩
    · exact .inl h2
    · exact .inr ⟨h2, by omega⟩
theorem countP_lt {α : Type} {p q : α → Bool} : ∀ {l : List α}, (∀ x ∈ l, p x = true → q x = true) → (∃ x ∈ l, q x = true ∧ p x = false) → l.countP p < l.countP q := by
  intro l
  induction l with
  | nil => rintro _ ⟨x, hx, _⟩; simp at hx
  | cons a t ih =>
    rintro h ⟨x, hx, hq, hp⟩
    have mono : ∀ s : List α, (∀ x ∈ s, p x = true → q x = true) → s.countP p ≤ s.countP q := fun s hs => List.countP_mono_left hs
    rw [List.countP_cons, List.countP_cons]
    have hm := mono t fun y hy => h y (List.mem_cons_of_mem _ hy)
    rcases List.mem_cons.1 hx with rfl | hx
    · rw [if_pos hq, if_neg (by rw [hp]; decide)]; omega
    · have := ih (fun y hy => h y (List.mem_cons_of_mem _ hy)) ⟨x, hx, hq, hp⟩
      have h1 : (if p a = true then 1 else 0) ≤ (if q a = true then 1 else 0) := by
        by_cases k : p a = true
        · rw [if_pos k, if_pos (h a (by simp) k)]; exact Nat.le_refl _
        · rw [if_neg k]; exact Nat.zero_le _
      omega
theorem cnt_lt {m : Mult} {n i k : Nat} (hi : i < n) (h : aheadM m i k) : cntA m i n < cntA m k n := by
  unfold cntA
  refine countP_lt (fun x _ hx => ?_) ⟨i, List.mem_range.2 hi, (isA_iff m k i).2 h, ?_⟩
  · exact (isA_iff m k x).2 (aheadM_trans m ((isA_iff m i x).1 hx) h)
  · cases e : isA m i i with
    | false => rfl
    | true => exact absurd ((isA_iff m i i).1 e) (aheadM_irr m i)
theorem cnt_inj {m : Mult} {n i k : Nat} (hi : i < n) (hk : k < n) (h : cntA m i n = cntA m k n) : i = k := by
  by_cases e : i = k
  · exact e
  · rcases aheadM_tot m e with a | a
    · have := cnt_lt hi a; omega
    · have := cnt_lt hk a; omega
theorem cnt_small {m : Mult} {n i : Nat} (hi : i < n) : cntA m i n < n := by
  have : cntA m i n < (List.range n).countP fun _ => true := by
    unfold cntA
    refine countP_lt (fun _ _ _ => rfl) ⟨i, List.mem_range.2 hi, rfl, ?_⟩
    cases e : isA m i i with
    | false => rfl
    | true => exact absurd ((isA_iff m i i).1 e) (aheadM_irr m i)
  simpa using this
/-! ### pigeons -/
theorem len_sub {α : Type} [DecidableEq α] : ∀ (l r : List α), l.Nodup → (∀ x ∈ l, x ∈ r) → l.length ≤ r.length := by
  intro l
  induction l with
  | nil => intro r _ _; exact Nat.zero_le _
  | cons a t ih =>
    intro r hn hs
    have ha := hs a (by simp)
    have hn' := List.nodup_cons.1 hn
    have := ih (r.erase a) hn'.2 fun x hx => by
      have hne : x ≠ a := fun e => hn'.1 (e ▸ hx)
      exact (List.mem_erase_of_ne hne).2 (hs x (List.mem_cons_of_mem _ hx))
    rw [List.length_erase_of_mem ha] at this
    have hp : 0 < r.length := List.length_pos_of_mem ha
    simp only [List.length_cons]; omega
theorem nodup_map {n : Nat} {f : Nat → Nat} (hf : ∀ i k, i < n → k < n → f i = f k → i = k) : ∀ s, s ≤ n → ((List.range s).map f).Nodup := by
  intro s
  induction s with
  | zero => intro _; exact List.nodup_nil
  | succ s ih =>
    intro hs
    rw [List.range_succ, List.map_append, List.nodup_append]
    refine ⟨ih (by omega), by simp, ?_⟩
    intro a ha b hb e
    simp only [List.map_cons, List.map_nil, List.mem_singleton] at hb
    obtain ⟨i, hi, rfl⟩ := List.mem_map.1 ha
    have := List.mem_range.1 hi
    have := hf i s (by omega) (by omega) (by rw [e, hb])
    omega
theorem surj_of {n : Nat} {f : Nat → Nat} (h1 : ∀ i, i < n → f i < n) (hf : ∀ i k, i < n → k < n → f i = f k → i = k) {j : Nat} (hj : j < n) : ∃ i, i < n ∧ f i = j := by
  refine Classical.byContradiction fun hno => ?_
  have hno' : ∀ i, i < n → f i ≠ j := fun i hi e => hno ⟨i, hi, e⟩
  have hnd : (j :: (List.range n).map f).Nodup := by
    refine List.nodup_cons.2 ⟨fun hm => ?_, nodup_map hf n (Nat.le_refl _)⟩
    obtain ⟨i, hi, e⟩ := List.mem_map.1 hm
    exact hno' i (List.mem_range.1 hi) e
  have := len_sub _ (List.range n) hnd fun x hx => by
    rcases List.mem_cons.1 hx with rfl | hx
    · exact List.mem_range.2 hj
    · obtain ⟨i, hi, rfl⟩ := List.mem_map.1 hx
      exact List.mem_range.2 (h1 i (List.mem_range.1 hi))
  simp at this
  omega
theorem cnt_surj {m : Mult} {n j : Nat} (hj : j < n) : ∃ i, i < n ∧ cntA m i n = j := surj_of (f := fun i => cntA m i n) (fun i hi => cnt_small hi) (fun i k hi hk => cnt_inj hi hk) hj

/-! ### laying each at its place: any values -/
def layS {α : Type} (f : Nat → Nat) (g : Nat → α) (o : List α) (i : Nat) : List α := o.set (f i) (g i)
def layN {α : Type} (f : Nat → Nat) (g : Nat → α) (z : List α) (n : Nat) : List α := (List.range n).foldl (layS f g) z
theorem layN_succ {α : Type} (f : Nat → Nat) (g : Nat → α) (z : List α) (n : Nat) : layN f g z (n + 1) = (layN f g z n).set (f n) (g n) := by
  unfold layN; rw [List.range_succ, List.foldl_append]; rfl
theorem layN_len {α : Type} (f : Nat → Nat) (g : Nat → α) (z : List α) : ∀ n, (layN f g z n).length = z.length
  | 0 => rfl
  | n + 1 => by rw [layN_succ, List.length_set]; exact layN_len f g z n
theorem layN_at {α : Type} {f : Nat → Nat} {g : Nat → α} {z : List α} {N : Nat} (h1 : ∀ i, i < N → f i < z.length) (hf : ∀ i k, i < N → k < N → f i = f k → i = k) : ∀ n, n ≤ N → ∀ i, i < n → (layN f g z n)[f i]? = some (g i) := by
  intro n
  induction n with
  | zero => intro _ i hi; omega
  | succ n ih =>
    intro hn i hi
    rw [layN_succ]
    by_cases e : i = n
    · subst e; rw [List.getElem?_set_self (by rw [layN_len]; exact h1 i (by omega))]
    · rw [List.getElem?_set_ne (fun e2 => e (hf i n (by omega) (by omega) e2.symm))]
      exact ih (by omega) i (by omega)
theorem inOrder_lay (m : Mult) : inOrder m = layN (fun i => cntA m i m.length) (pAt m) (List.replicate m.length []) m.length := rfl
theorem inOrder_len (m : Mult) : (inOrder m).length = m.length := by rw [inOrder_lay, layN_len]; simp
theorem inOrder_at (m : Mult) {i : Nat} (hi : i < m.length) : (inOrder m)[cntA m i m.length]? = some (pAt m i) := by
  rw [inOrder_lay]
  exact layN_at (N := m.length) (fun i h => by simpa using cnt_small h) (fun i k h1 h2 => cnt_inj h1 h2) m.length (Nat.le_refl _) i hi
end Vd
end Go.Proofs.YtcclepohmhdpbaaGreatDoor

/- GEOMETRY, PLAINLY: the corners of a ring. -/
namespace Go.Proofs.YtcclepohmhdpbaaGreatDoor
set_option linter.all false
namespace Vd

/-! ### directions -/
def xp (u v : Pnt) : Int := u.1 * v.2 - u.2 * v.1
def dp (u v : Pnt) : Int := u.1 * v.1 + u.2 * v.2
def sub (a b : Pnt) : Pnt := (b.1 - a.1, b.2 - a.2)
structure Dir (u v : Pnt) : Prop where
  x : xp u v = 0
  d : 0 < dp u v
theorem dp_pos {u v : Pnt} (h : Dir u v) : 0 < dp u u ∧ 0 < dp v v := by
  have h1 : u.1 ≠ 0 ∨ u.2 ≠ 0 := by
    refine Classical.byContradiction fun k => ?_
    have := h.d
    unfold dp at this
    have a1 : u.1 = 0 := by omega
    have a2 : u.2 = 0 := by omega
    rw [a1, a2] at this; simp at this
  have h2 : v.1 ≠ 0 ∨ v.2 ≠ 0 := by
    refine Classical.byContradiction fun k => ?_
    have := h.d
    unfold dp at this
    have a1 : v.1 = 0 := by omega
    have a2 : v.2 = 0 := by omega
    rw [a1, a2] at this; simp at this
  have sq : ∀ z : Pnt, z.1 ≠ 0 ∨ z.2 ≠ 0 → 0 < dp z z := fun z hz => by
    unfold dp
    have b1 := sq_nn z.1
    have b2 := sq_nn z.2
    rcases hz with k | k
    · have := sq_pos k; omega
    · have := sq_pos k; omega
  exact ⟨sq u h1, sq v h2⟩
theorem Dir.symm {u v : Pnt} (h : Dir u v) : Dir v u := ⟨by have := h.x; unfold xp at *; grind, by have := h.d; unfold dp at *; grind⟩
theorem Dir.trans {u v w : Pnt} (h : Dir u v) (k : Dir v w) : Dir u w := by
  have hv := (dp_pos h).2
  have e1 : dp v v * xp u w = dp u v * xp v w + xp u v * dp v w := by unfold dp xp; grind
  have e2 : dp v v * dp u w = dp u v * dp v w - xp u v * xp v w := by unfold dp xp; grind
  rw [h.x, k.x, Int.mul_zero, Int.zero_mul] at e1
  rw [h.x, Int.zero_mul, Int.sub_zero] at e2
  constructor
  · rcases Int.mul_eq_zero.1 (show dp v v * xp u w = 0 by omega) with g | g
    · omega
    · exact g
  · have := pp h.d k.d
    exact ((sgn_of hv e2).1).2 this
theorem Dir.self {u : Pnt} (h : u ≠ (0, 0)) : Dir u u := by
  refine ⟨by unfold xp; grind, ?_⟩
  unfold dp
  have b1 := sq_nn u.1
  have b2 := sq_nn u.2
  by_cases k : u.1 = 0
  · have k2 : u.2 ≠ 0 := fun e => h (Prod.ext k e)
    have := sq_pos k2; omega
  · have := sq_pos k; omega
theorem Dir.add {u v w : Pnt} (h : Dir u v) (k : Dir u w) : Dir u (v.1 + w.1, v.2 + w.2) := by
  constructor
  · have := h.x; have := k.x; unfold xp at *; simp only; grind
  · have e : dp u (v.1 + w.1, v.2 + w.2) = dp u v + dp u w := by unfold dp; simp only; grind
    rw [e]; have := h.d; have := k.d; omega
/-- the turn between two ways hangs on their directions. -/
theorem dir_sign {u u' v v' : Pnt} (h : Dir u u') (k : Dir v v') : (0 < xp u v ↔ 0 < xp u' v') ∧ (xp u v = 0 ↔ xp u' v' = 0) := by
  have hu := (dp_pos h).1
  have hv := (dp_pos k).1
  have e1 : dp u u * xp u' v = dp u u' * xp u v + xp u u' * (-(dp u v)) := by unfold dp xp; grind
  rw [h.x, Int.zero_mul, Int.add_zero] at e1
  have e2 : dp v v * xp u' v' = dp v v' * xp u' v + xp v v' * dp u' v := by unfold dp xp; grind
  rw [k.x, Int.zero_mul, Int.add_zero] at e2
  have s1 := sgn_of hu e1
  have s2 := sgn_of hv e2
  have t1 : (0 < dp u u' * xp u v ↔ 0 < xp u v) ∧ (dp u u' * xp u v = 0 ↔ xp u v = 0) := by
    have := sgn_of h.d (rfl : dp u u' * xp u v = dp u u' * xp u v)
    exact ⟨this.1.symm, this.2.2.symm⟩
  have t2 : (0 < dp v v' * xp u' v ↔ 0 < xp u' v) ∧ (dp v v' * xp u' v = 0 ↔ xp u' v = 0) := by
    have := sgn_of k.d (rfl : dp v v' * xp u' v = dp v v' * xp u' v)
    exact ⟨this.1.symm, this.2.2.symm⟩
  exact ⟨by rw [s2.1, t2.1, s1.1, t1.1], by rw [s2.2.2, t2.2, s1.2.2, t1.2]⟩
theorem cr_xp (a b c : Pnt) : cr a b c 1 = xp (sub a b) (sub b c) := by unfold cr xp sub; grind
theorem on_dir {a b c : Pnt} (hab : a ≠ b) (hbc : b ≠ c) (h : has a c b 1) : Dir (sub a b) (sub b c) := by
  have ne1 : a.1 ≠ b.1 ∨ a.2 ≠ b.2 := by
    by_cases k : a.1 = b.1
    · exact .inr fun e => hab (Prod.ext k e)
    · exact .inl k
  have ne2 : b.1 ≠ c.1 ∨ b.2 ≠ c.2 := by
    by_cases k : b.1 = c.1
    · exact .inr fun e => hbc (Prod.ext k e)
    · exact .inl k
  obtain ⟨h0, h1, h2⟩ := h
  have e0 : (b.1 - a.1) * (c.2 - b.2) - (b.2 - a.2) * (c.1 - b.1) = 0 := by unfold cr at h0; grind
  unfold btw at h1 h2
  simp only [Int.mul_one] at h1 h2
  refine ⟨by unfold xp sub; exact e0, ?_⟩
  unfold dp sub
  simp only
  have x0 : 0 ≤ (b.1 - a.1) * (c.1 - b.1) := by
    rcases h1 with h1 | h1
    · exact p0 (by omega) (by omega)
    · exact q0 (by omega) (by omega)
  have y0 : 0 ≤ (b.2 - a.2) * (c.2 - b.2) := by
    rcases h2 with h2 | h2
    · exact p0 (by omega) (by omega)
    · exact q0 (by omega) (by omega)
  rcases Int.lt_or_le 0 ((b.1 - a.1) * (c.1 - b.1) + (b.2 - a.2) * (c.2 - b.2)) with g | g
  · exact g
  · exfalso
    have zx : (b.1 - a.1) * (c.1 - b.1) = 0 := by omega
    have zy : (b.2 - a.2) * (c.2 - b.2) = 0 := by omega
    rcases Int.mul_eq_zero.1 zx with k1 | k1 <;> rcases Int.mul_eq_zero.1 zy with k2 | k2
    · omega
    · rw [k1, k2] at e0
      simp only [Int.zero_mul, Int.zero_sub] at e0
      have : (b.2 - a.2) * (c.1 - b.1) = 0 := by omega
      rcases Int.mul_eq_zero.1 this with g1 | g1 <;> omega
    · rw [k1, k2] at e0
      simp only [Int.zero_mul, Int.sub_zero] at e0
      rcases Int.mul_eq_zero.1 e0 with g1 | g1 <;> omega
    · omega

/-! ### a ring, round and round -/
def per (r : Ring) : Nat := r.length - 1
def Pr (r : Ring) (i : Nat) : Pnt := ptAt r (i % per r)
def Wr (r : Ring) (i : Nat) : Pnt := sub (Pr r i) (Pr r (i + 1))
theorem Pr_per (r : Ring) (i : Nat) : Pr r (i + per r) = Pr r i := by unfold Pr; rw [Nat.add_mod_right]
theorem Wr_per (r : Ring) (i : Nat) : Wr r (i + per r) = Wr r i := by unfold Wr; rw [show i + per r + 1 = i + 1 + per r by omega, Pr_per, Pr_per]
theorem VR.pr {r : Ring} (h : VR r) {i : Nat} (hi : i ≤ per r) : Pr r i = ptAt r i := by
  have h4 := h.shut.len
  unfold Pr
  rcases Nat.lt_or_ge i (per r) with g | g
  · rw [Nat.mod_eq_of_lt g]
  · have e : i = per r := by omega
    rw [e, Nat.mod_self, h.wrap]; rfl
theorem VR.pr_next {r : Ring} (h : VR r) {i : Nat} (h1 : 1 ≤ i) (hi : i ≤ per r) : Pr r (i + 1) = nextI r i := by
  have h4 := h.shut.len
  have e0 : per r = r.length - 1 := rfl
  unfold nextI
  by_cases g : i + 1 < r.length
  · rw [if_pos g, h.pr (by omega)]
  · rw [if_neg g]
    have e : i + 1 = 1 + per r := by omega
    rw [e, Pr_per, h.pr (by omega)]
theorem VR.turns_iff {r : Ring} (h : VR r) {i : Nat} (h1 : 1 ≤ i) (hi : i ≤ per r) : Vd.turns r i = decide (xp (Wr r (i - 1)) (Wr r i) ≠ 0) := by
  unfold Vd.turns
  rw [decide_eq_true h1, Bool.true_and]
  apply decide_eq_decide.2
  unfold Wr
  rw [show i - 1 + 1 = i by omega, h.pr (i := i - 1) (by omega), h.pr hi, h.pr_next h1 hi, ← cr_xp]
  unfold side at1
  constructor
  · intro k e; apply k; rw [e]; rfl
  · intro k e
    rcases sg_cases (cr (ptAt r (i - 1)) (ptAt r i) (nextI r i) 1) with ⟨g, e2⟩ | ⟨g, e2⟩ | ⟨g, e2⟩
    · rw [e2] at e; omega
    · exact k g
    · rw [e2] at e; omega
theorem VR.back_at {r : Ring} (h : VR r) {i : Nat} (h1 : 1 ≤ i) (hi : i ≤ per r) : (ptAt r (i - 1) ≠ ptAt r i ∧ ptAt r i ≠ nextI r i) ∧ (cr (ptAt r (i - 1)) (ptAt r i) (nextI r i) 1 ≠ 0 ∨ has (ptAt r (i - 1)) (nextI r i) (ptAt r i) 1) := by
  have h4 := h.shut.len
  have e0 : per r = r.length - 1 := rfl
  obtain ⟨k, rfl⟩ : ∃ k, i = k + 1 := ⟨i - 1, by omega⟩
  rw [show k + 1 - 1 = k from rfl]
  have hil : k + 1 < r.length := by omega
  have e := split_at (r := r) (i := k) hil
  have hr : VR (r.take k ++ ptAt r k :: ptAt r (k + 1) :: r.drop (k + 2)) := by rw [← e]; exact h
  have hnx : ∃ j, j ≠ k ∧ j + 1 < r.length ∧ ptAt r j = ptAt r (k + 1) ∧ ptAt r (j + 1) = nextI r (k + 1) := by
    unfold nextI
    by_cases g : k + 1 + 1 < r.length
    · exact ⟨k + 1, by omega, g, rfl, by rw [if_pos g]⟩
    · exact ⟨0, by omega, by omega, by rw [h.wrap]; congr 1; omega, by rw [if_neg g]⟩
  obtain ⟨j, hjk, hjl, ej1, ej2⟩ := hnx
  have hbc : (ptAt r (k + 1), nextI r (k + 1)) ∈ oth (r.take k) (ptAt r k) (ptAt r (k + 1)) (r.drop (k + 2)) := by
    have := later_oth (r := r) (i := k) (k := j) hil hjl (Ne.symm hjk)
    rw [ej1, ej2] at this
    exact this
  have hne : ptAt r (k + 1) ≠ nextI r (k + 1) := hr.oth_long hbc
  refine ⟨⟨hr.here, hne⟩, ?_⟩
  rcases hr.other hbc with e1 | ⟨e1, -⟩
  · exact absurd e1 (meet_pt hr.here hne (has_b _ _) (has_a _ _))
  · exact no_back hr.here hne e1
theorem VR.step_ne {r : Ring} (h : VR r) (i : Nat) : Wr r i ≠ (0, 0) := by
  have h4 := h.shut.len
  have e0 : per r = r.length - 1 := rfl
  have key : ∀ x, x < per r → Wr r x ≠ (0, 0) := fun x hx e => by
    have := (h.back_at (i := x + 1) (by omega) (by omega)).1.1
    rw [show x + 1 - 1 = x from rfl] at this
    unfold Wr at e
    rw [h.pr (by omega), h.pr (by omega)] at e
    unfold sub at e
    simp only [Prod.mk.injEq] at e
    exact this (Prod.ext (by omega) (by omega))
  have e2 : Wr r i = Wr r (i % per r) := by
    have := Nat.mod_add_div i (per r)
    have k : ∀ q x, Wr r (x + per r * q) = Wr r x := by
      intro q
      induction q with
      | zero => intro x; rfl
      | succ q ih => intro x; rw [Nat.mul_succ, ← Nat.add_assoc, Wr_per, ih]
    conv => lhs; rw [← this]
    exact k _ _
  rw [e2]
  exact key _ (Nat.mod_lt _ (by omega))
/-- where it does not turn, it goes on. -/
theorem VR.on_dir {r : Ring} (h : VR r) {i : Nat} (h1 : 1 ≤ i) (ht : xp (Wr r (i - 1)) (Wr r i) = 0) : Dir (Wr r (i - 1)) (Wr r i) := by
  have h4 := h.shut.len
  have e0 : per r = r.length - 1 := rfl
  have key : ∀ x, 1 ≤ x → x ≤ per r → xp (Wr r (x - 1)) (Wr r x) = 0 → Dir (Wr r (x - 1)) (Wr r x) := fun x a b t => by
    obtain ⟨⟨n1, n2⟩, k⟩ := h.back_at a b
    unfold Wr at *
    rw [show x - 1 + 1 = x by omega, h.pr (i := x - 1) (by omega), h.pr b, h.pr_next a b] at *
    rw [← cr_xp] at t
    rcases k with k | k
    · exact absurd t k
    · exact Vd.on_dir n1 n2 k
  -- the same place, once round
  obtain ⟨x, q, hx1, hx2, e⟩ : ∃ x q, 1 ≤ x ∧ x ≤ per r ∧ i = x + per r * q := by
    have hm := Nat.mod_add_div (i - 1) (per r)
    have hl := Nat.mod_lt (i - 1) (show per r > 0 by omega)
    exact ⟨(i - 1) % per r + 1, (i - 1) / per r, by omega, by omega, by omega⟩
  have k : ∀ q x, Wr r (x + per r * q) = Wr r x := by
    intro q
    induction q with
    | zero => intro x; rfl
    | succ q ih => intro x; rw [Nat.mul_succ, ← Nat.add_assoc, Wr_per, ih]
  rw [e, show x + per r * q - 1 = (x - 1) + per r * q by omega, k, k] at ht ⊢
  exact key x hx1 hx2 ht
/-- from a place on to a later one, with no turn between. -/
theorem VR.run {r : Ring} (h : VR r) {i : Nat} : ∀ d : Nat, (∀ k, i < k → k < i + d + 1 → xp (Wr r (k - 1)) (Wr r k) = 0) → Dir (Wr r i) (Wr r (i + d)) ∧ Dir (Wr r i) (sub (Pr r i) (Pr r (i + d + 1))) := by
  intro d
  induction d with
  | zero => intro _; exact ⟨Dir.self (h.step_ne i), Dir.self (h.step_ne i)⟩
  | succ d ih =>
    intro ht
    obtain ⟨k1, k2⟩ := ih fun k a b => ht k a (by omega)
    have k3 := h.on_dir (i := i + d + 1) (by omega) (ht (i + d + 1) (by omega) (by omega))
    rw [show i + d + 1 - 1 = i + d by omega] at k3
    have k4 := k1.trans k3
    refine ⟨k4, ?_⟩
    have e : sub (Pr r i) (Pr r (i + (d + 1) + 1)) = ((sub (Pr r i) (Pr r (i + d + 1))).1 + (Wr r (i + d + 1)).1, (sub (Pr r i) (Pr r (i + d + 1))).2 + (Wr r (i + d + 1)).2) := by
      unfold Wr sub
      simp only [show i + (d + 1) + 1 = i + d + 1 + 1 by omega]
      exact Prod.ext (by simp only; omega) (by simp only; omega)
    rw [e]
    exact k2.add k4
theorem VR.run2 {r : Ring} (h : VR r) {i j : Nat} (hij : i < j) (ht : ∀ k, i < k → k < j → xp (Wr r (k - 1)) (Wr r k) = 0) : Dir (Wr r i) (sub (Pr r i) (Pr r j)) ∧ Dir (Wr r (j - 1)) (sub (Pr r i) (Pr r j)) := by
  obtain ⟨k1, k2⟩ := h.run (i := i) (j - i - 1) fun k a b => ht k a (by omega)
  rw [show i + (j - i - 1) + 1 = j by omega] at k2
  rw [show i + (j - i - 1) = j - 1 by omega] at k1
  exact ⟨k2, k1.symm.trans k2⟩
end Vd
end Go.Proofs.YtcclepohmhdpbaaGreatDoor

/- GEOMETRY, PLAINLY: the corners of a ring, and the way it turns at the least. -/
namespace Go.Proofs.YtcclepohmhdpbaaGreatDoor
set_option linter.all false
namespace Vd

/-! ### the least of a list -/
theorem leastN_s (v : Ring) (n : Nat) : leastN v (n + 1) = leastS v (leastN v n) n := by
  unfold leastN; rw [List.range_succ, List.foldl_append]; rfl
theorem leastN_b (v : Ring) : ∀ n, leastN v n ≤ n - 1
  | 0 => Nat.le_refl _
  | n + 1 => by
    rw [leastN_s]; unfold leastS
    have := leastN_b v n
    split <;> omega
theorem bef_tr {p q r : Pnt} (h : ¬ bef p q) (k : ¬ bef q r) : ¬ bef p r := by unfold bef at *; omega
theorem leastN_min (v : Ring) : ∀ n x, x < n → ¬ bef (ptAt v x) (ptAt v (leastN v n)) := by
  intro n
  induction n with
  | zero => intro x hx; omega
  | succ n ih =>
    intro x hx
    rw [leastN_s]
    unfold leastS
    by_cases c : bef (ptAt v n) (ptAt v (leastN v n))
    · rw [if_pos c]
      rcases Nat.lt_or_ge x n with g | g
      · have := ih x g
        unfold bef at *; omega
      · rw [show x = n by omega]; intro k; unfold bef at k; omega
    · rw [if_neg c]
      rcases Nat.lt_or_ge x n with g | g
      · exact ih x g
      · rw [show x = n by omega]; exact c
theorem leastI_min {v : Ring} {p : Pnt} (h : p ∈ v) : ¬ bef p (ptAt v (leastI v)) := by
  obtain ⟨i, hi⟩ := List.getElem?_of_mem h
  have hl := Pl.lt_of_some hi
  have : ptAt v i = p := by unfold ptAt; rw [List.getD_eq_getElem?_getD, hi]; rfl
  rw [← this]
  exact leastN_min v v.length i hl
theorem leastI_in {v : Ring} (h : v ≠ []) : leastI v < v.length := by
  have := leastN_b v v.length
  have : 0 < v.length := List.length_pos_iff.2 h
  unfold leastI; omega

/-! ### the corners' places -/
def Ci (r : Ring) : List Nat := (List.range r.length).filter (Vd.turns r)
theorem corners_Ci (r : Ring) : corners r = (Ci r).map (ptAt r) := rfl
theorem mem_Ci {r : Ring} {k : Nat} : k ∈ Ci r ↔ k < r.length ∧ Vd.turns r k = true := by unfold Ci; rw [List.mem_filter, List.mem_range]
theorem Ci_pos {r : Ring} {k : Nat} (h : k ∈ Ci r) : 1 ≤ k ∧ k ≤ per r := by
  obtain ⟨h1, h2⟩ := mem_Ci.1 h
  unfold Vd.turns at h2
  simp only [Bool.and_eq_true, decide_eq_true_eq] at h2
  unfold per; omega
theorem Ci_lt (r : Ring) : (Ci r).Pairwise (· < ·) := List.pairwise_lt_range.filter _
def cAt (r : Ring) (x : Nat) : Nat := (Ci r).getD x 0
theorem cAt_get {r : Ring} {x : Nat} (h : x < (Ci r).length) : (Ci r)[x]? = some (cAt r x) := by
  unfold cAt; rw [List.getD_eq_getElem?_getD, List.getElem?_eq_getElem h]; rfl
theorem cAt_mem {r : Ring} {x : Nat} (h : x < (Ci r).length) : cAt r x ∈ Ci r := Pl.mem_of_some (cAt_get h)
theorem cAt_lt {r : Ring} {x y : Nat} (h : x < y) (hy : y < (Ci r).length) : cAt r x < cAt r y := by
  have := List.pairwise_iff_getElem.1 (Ci_lt r) x y (by omega) hy h
  have e1 := cAt_get (r := r) (x := x) (by omega)
  have e2 := cAt_get hy
  rw [List.getElem?_eq_getElem (by omega)] at e1
  rw [List.getElem?_eq_getElem hy] at e2
  rw [Option.some.inj e1, Option.some.inj e2] at this
  exact this
theorem at_Ci {r : Ring} {k : Nat} (h : k ∈ Ci r) : ∃ x, x < (Ci r).length ∧ cAt r x = k := by
  obtain ⟨x, hx⟩ := List.getElem?_of_mem h
  have hl := Pl.lt_of_some hx
  exact ⟨x, hl, by have := cAt_get hl; rw [hx] at this; exact (Option.some.inj this).symm⟩
theorem corner_at {r : Ring} {x : Nat} (h : x < (Ci r).length) : ptAt (corners r) x = ptAt r (cAt r x) := by
  rw [corners_Ci]
  show ((Ci r).map (ptAt r)).getD x (0, 0) = _
  rw [List.getD_eq_getElem?_getD, List.getElem?_map, cAt_get h]; rfl
theorem corners_len (r : Ring) : (corners r).length = (Ci r).length := by rw [corners_Ci, List.length_map]
/-- the next corner's place, round and round. -/
def nx (r : Ring) (x : Nat) : Nat := if x + 1 < (Ci r).length then cAt r (x + 1) else cAt r 0 + per r
theorem VR.gapC {r : Ring} (h : VR r) {x : Nat} (hx : x < (Ci r).length) : cAt r x < nx r x ∧ ∀ k, cAt r x < k → k < nx r x → xp (Wr r (k - 1)) (Wr r k) = 0 := by
  have h4 := h.shut.len
  have e0 : per r = r.length - 1 := rfl
  have bx := Ci_pos (cAt_mem hx)
  have b0 := Ci_pos (cAt_mem (r := r) (x := 0) (by omega))
  have no : ∀ k, 1 ≤ k → k ≤ per r → (∀ y, y < (Ci r).length → cAt r y ≠ k) → xp (Wr r (k - 1)) (Wr r k) = 0 := fun k k1 k2 hk => by
    have ht : Vd.turns r k = false := by
      cases hh : Vd.turns r k with
      | false => rfl
      | true =>
        obtain ⟨y, hy, e⟩ := at_Ci (mem_Ci.2 ⟨by omega, hh⟩)
        exact absurd e (hk y hy)
    rw [h.turns_iff k1 k2] at ht
    have := of_decide_eq_false ht
    exact Classical.byContradiction fun g => this g
  unfold nx
  by_cases g : x + 1 < (Ci r).length
  · rw [if_pos g]
    refine ⟨cAt_lt (by omega) g, fun k k1 k2 => ?_⟩
    have b1 := Ci_pos (cAt_mem g)
    refine no k (by omega) (by omega) fun y hy e => ?_
    rcases Nat.lt_trichotomy y x with q | q | q
    · have := cAt_lt q hx; omega
    · subst q; omega
    · rcases Nat.lt_or_ge (x + 1) y with q2 | q2
      · have := cAt_lt q2 hy; omega
      · have : y = x + 1 := by omega
        subst this; omega
  · rw [if_neg g]
    refine ⟨by omega, fun k k1 k2 => ?_⟩
    rcases Nat.lt_or_ge (per r) k with q | q
    · obtain ⟨k', rfl⟩ : ∃ k', k = k' + per r := ⟨k - per r, by omega⟩
      rw [show k' + per r - 1 = (k' - 1) + per r by omega, Wr_per, Wr_per]
      refine no k' (by omega) (by omega) fun y hy e => ?_
      rcases Nat.eq_zero_or_pos y with z | z
      · subst z; omega
      · have := cAt_lt z hy; omega
    · refine no k (by omega) q fun y hy e => ?_
      rcases Nat.lt_trichotomy y x with z | z | z
      · have := cAt_lt z hx; omega
      · subst z; omega
      · omega
theorem VR.at_nx {r : Ring} (h : VR r) {x : Nat} (hx : x < (Ci r).length) : Pr r (nx r x) = ptAt (corners r) ((x + 1) % (corners r).length) ∧ Wr r (nx r x - 1) = Wr r (cAt r ((x + 1) % (corners r).length) - 1 + 0) ∧ Pr r (cAt r x) = ptAt (corners r) x := by
  have b0 := Ci_pos (cAt_mem (r := r) (x := 0) (by omega))
  have bx := Ci_pos (cAt_mem hx)
  rw [corners_len]
  unfold nx
  by_cases g : x + 1 < (Ci r).length
  · rw [if_pos g, Nat.mod_eq_of_lt g, corner_at g, corner_at hx, h.pr bx.2]
    exact ⟨h.pr (Ci_pos (cAt_mem g)).2, rfl, rfl⟩
  · rw [if_neg g, show x + 1 = (Ci r).length by omega, Nat.mod_self, corner_at (by omega), corner_at hx, Pr_per, h.pr bx.2]
    exact ⟨h.pr b0.2, by rw [show cAt r 0 + per r - 1 = (cAt r 0 - 1) + per r by omega, Wr_per]; rfl, rfl⟩
/-- at a corner, along the corners, a ring turns as it does. -/
theorem VR.corner_turn {r : Ring} (h : VR r) {f : Nat} (hf : f < (Ci r).length) :
    (0 < cr (ptAt (corners r) ((f + (corners r).length - 1) % (corners r).length)) (ptAt (corners r) f) (ptAt (corners r) ((f + 1) % (corners r).length)) 1 ↔ 0 < cr (ptAt r (cAt r f - 1)) (ptAt r (cAt r f)) (nextI r (cAt r f)) 1) := by
  have bf := Ci_pos (cAt_mem hf)
  have cl := corners_len r
  obtain ⟨x, hx, e1, e2⟩ : ∃ x, x < (Ci r).length ∧ (f + (corners r).length - 1) % (corners r).length = x ∧ (x + 1) % (corners r).length = f := by
    rw [cl]
    rcases Nat.eq_zero_or_pos f with z | z
    · subst z
      refine ⟨(Ci r).length - 1, by omega, ?_, ?_⟩
      · rw [Nat.zero_add, Nat.mod_eq_of_lt (by omega)]
      · rw [show (Ci r).length - 1 + 1 = (Ci r).length by omega, Nat.mod_self]
    · refine ⟨f - 1, by omega, ?_, ?_⟩
      · rw [show f + (Ci r).length - 1 = (f - 1) + (Ci r).length by omega, Nat.add_mod_right, Nat.mod_eq_of_lt (by omega)]
      · rw [show f - 1 + 1 = f by omega, Nat.mod_eq_of_lt hf]
  obtain ⟨p1, p2⟩ := h.gapC hx
  obtain ⟨q1, q2⟩ := h.gapC hf
  obtain ⟨-, d1⟩ := h.run2 p1 p2
  obtain ⟨d2, -⟩ := h.run2 q1 q2
  obtain ⟨a1, a2, a3⟩ := h.at_nx hx
  obtain ⟨b1, b2, b3⟩ := h.at_nx hf
  rw [e2] at a1 a2
  rw [a1, a3, a2, Nat.add_zero] at d1
  rw [b1, b3] at d2
  rw [e1, cr_xp, cr_xp]
  have := (dir_sign d1 d2).1
  rw [← this]
  unfold Wr
  rw [show cAt r f - 1 + 1 = cAt r f by omega, h.pr (i := cAt r f - 1) (by omega), h.pr bf.2, h.pr_next bf.1 bf.2]
/-- THE PROGRAM's TURN AT THE LEAST CORNER IS THE SIGN OF THE AREA. -/
theorem VR.lefts_area {r : Ring} (h : VR r) : lefts (corners r) (leastI (corners r)) = decide (0 < area2 r) := by
  have hne : corners r ≠ [] := fun e => by have := h.corners_two; rw [e] at this; simp at this
  have hf := leastI_in hne
  have hfl : leastI (corners r) < (Ci r).length := by rw [← corners_len]; exact hf
  have bf := Ci_pos (cAt_mem hfl)
  have e1 := corner_at hfl
  have h4 := h.shut.len
  have e0 : per r = r.length - 1 := rfl
  have hm : ∀ v ∈ r, ¬ bef v (ptAt r (cAt r (leastI (corners r)))) := by
    -- the least of all turns, and so stands among the corners
    obtain ⟨i, hi1, hil, hmin⟩ : ∃ i, 1 ≤ i ∧ i < r.length ∧ ∀ v ∈ r, ¬ bef v (ptAt r i) := by
      have hr : r ≠ [] := fun e => by rw [e] at h4; simp at h4
      have hl := leastI_in hr
      by_cases z : leastI r = 0
      · refine ⟨r.length - 1, by omega, by omega, fun v hv => ?_⟩
        rw [← h.wrap]
        have := leastI_min hv
        rw [z] at this
        exact this
      · exact ⟨leastI r, by omega, hl, fun v hv => leastI_min hv⟩
    have ht : Vd.turns r i = true := by
      rw [h.turns_iff hi1 (by omega)]
      apply decide_eq_true
      intro e
      apply (h.least_hand hi1 hil hmin).1
      rw [cr_xp, ← e]
      unfold Wr
      rw [show i - 1 + 1 = i by omega, h.pr (i := i - 1) (by omega), h.pr (i := i) (by omega), h.pr_next hi1 (by omega)]
    have hin : ptAt r i ∈ corners r := by rw [corners_Ci]; exact List.mem_map_of_mem (mem_Ci.2 ⟨hil, ht⟩)
    have k := leastI_min hin
    rw [e1] at k
    intro v hv
    exact bef_tr (hmin v hv) k
  rw [h.area bf.1 (by omega) hm]
  unfold lefts side at1
  apply decide_eq_decide.2
  rw [← h.corner_turn hfl]
  exact sg_pos _
end Vd
end Go.Proofs.YtcclepohmhdpbaaGreatDoor

/- THE ONE WAY, PLAINLY: a ring's form is the document's. -/
namespace Go.Proofs.YtcclepohmhdpbaaGreatDoor
set_option linter.all false
namespace Vd

theorem VR.corners_three {r : Ring} (h : VR r) : 3 ≤ (corners r).length := by
  have h2 := h.corners_two
  rcases Nat.lt_or_ge 2 (corners r).length with g | g
  · omega
  · exfalso
    have e : (Ci r).length = 2 := by rw [← corners_len]; omega
    obtain ⟨p1, p2⟩ := h.gapC (x := 0) (by omega)
    obtain ⟨q1, q2⟩ := h.gapC (x := 1) (by omega)
    obtain ⟨-, d1⟩ := h.run2 p1 p2
    obtain ⟨d2, -⟩ := h.run2 q1 q2
    obtain ⟨a1, a2, a3⟩ := h.at_nx (x := 0) (by omega)
    obtain ⟨b1, b2, b3⟩ := h.at_nx (x := 1) (by omega)
    rw [corners_len, e] at a1 a2 b1
    rw [a1, a3, a2] at d1
    rw [b1, b3] at d2
    have bc := Ci_pos (cAt_mem (r := r) (x := 1) (by omega))
    have z : xp (sub (ptAt (corners r) 0) (ptAt (corners r) ((0 + 1) % 2))) (sub (ptAt (corners r) 1) (ptAt (corners r) ((1 + 1) % 2))) = 0 := by
      show xp (sub (ptAt (corners r) 0) (ptAt (corners r) 1)) (sub (ptAt (corners r) 1) (ptAt (corners r) 0)) = 0
      unfold xp sub; grind
    have := (dir_sign d1 d2).2.2 z
    have ht := (mem_Ci.1 (cAt_mem (r := r) (x := 1) (by omega))).2
    rw [h.turns_iff bc.1 bc.2] at ht
    exact of_decide_eq_true ht this

/-! ### from the least on -/
def rotL (l : Ring) : Ring := l.drop (leastI l) ++ l.take (leastI l)
theorem ptAt_mid (A : Ring) (b : Pnt) (B : Ring) : ptAt (A ++ b :: B) A.length = b := by
  unfold ptAt; rw [List.getD_eq_getElem?_getD, List.getElem?_append_right (Nat.le_refl _), Nat.sub_self]; rfl
theorem leastI_at {A B : Ring} {b : Pnt} (h : ∀ p ∈ A ++ B, bef b p) : leastI (A ++ b :: B) = A.length := by
  have hl : leastI (A ++ b :: B) < (A ++ b :: B).length := leastI_in (by simp)
  have hm : ¬ bef b (ptAt (A ++ b :: B) (leastI (A ++ b :: B))) := leastI_min (by simp)
  rcases Nat.lt_trichotomy (leastI (A ++ b :: B)) A.length with g | g | g
  · have : ptAt (A ++ b :: B) (leastI (A ++ b :: B)) = ptAt A (leastI (A ++ b :: B)) := ptAt_app1 g
    rw [this] at hm
    exact absurd (h _ (List.mem_append_left _ (ptAt_mem g))) hm
  · exact g
  · obtain ⟨k, hk⟩ : ∃ k, leastI (A ++ b :: B) = A.length + (k + 1) := ⟨leastI (A ++ b :: B) - A.length - 1, by omega⟩
    rw [hk] at hm hl
    have : ptAt (A ++ b :: B) (A.length + (k + 1)) = ptAt B k := by rw [ptAt_app2]; unfold ptAt; rfl
    rw [this] at hm
    exact absurd (h _ (List.mem_append_right _ (ptAt_mem (by simp at hl; omega)))) hm
theorem rotL_at {A B : Ring} {b : Pnt} (h : ∀ p ∈ A ++ B, bef b p) : rotL (A ++ b :: B) = b :: B ++ A := by
  unfold rotL
  rw [leastI_at h, List.drop_left, List.take_left]
/-- the document's. -/
def roundD (l : Ring) : Ring := rotL l ++ [ptAt l (leastI l)]
theorem roundD_at {A B : Ring} {b : Pnt} (h : ∀ p ∈ A ++ B, bef b p) : roundD (A ++ b :: B) = b :: B ++ A ++ [b] := by
  unfold roundD
  rw [rotL_at h, leastI_at h, ptAt_mid]
theorem roundD_rev {A B : Ring} {b : Pnt} (h : ∀ p ∈ A ++ B, bef b p) : roundD (A ++ b :: B).reverse = b :: A.reverse ++ B.reverse ++ [b] := by
  have e : (A ++ b :: B).reverse = B.reverse ++ b :: A.reverse := by simp
  rw [e, roundD_at]
  intro p hp
  rcases List.mem_append.1 hp with k | k
  · exact h p (List.mem_append_right _ (List.mem_reverse.1 k))
  · exact h p (List.mem_append_left _ (List.mem_reverse.1 k))
/-- a list of unlike points has one least. -/
theorem least_split {l : Ring} (hne : l ≠ []) (hnd : l.Nodup) : ∃ A b B, l = A ++ b :: B ∧ ∀ p ∈ A ++ B, bef b p := by
  have hl := leastI_in hne
  obtain ⟨A, B, e⟩ := List.append_of_mem (ptAt_mem hl)
  refine ⟨A, _, B, e, fun p hp => ?_⟩
  have hm := leastI_min (v := l) (p := p) (by rw [e]; rcases List.mem_append.1 hp with k | k <;> simp [k])
  have hn : p ≠ ptAt l (leastI l) := by
    intro e2
    rw [e] at hnd
    rw [List.nodup_append, List.nodup_cons] at hnd
    rcases List.mem_append.1 hp with k | k
    · exact hnd.2.2 p k _ (by simp) e2
    · exact hnd.2.1.1 (e2 ▸ k)
  have : p.1 ≠ (ptAt l (leastI l)).1 ∨ p.2 ≠ (ptAt l (leastI l)).2 := by
    by_cases k : p.1 = (ptAt l (leastI l)).1
    · exact .inr fun e => hn (Prod.ext k e)
    · exact .inl k
  unfold bef at *
  omega
/-- it matters not where a round list begins. -/
theorem round_turn {E M : Ring} (hne : M ++ E ≠ []) (hnd : (M ++ E).Nodup) : roundD (E ++ M) = roundD (M ++ E) ∧ roundD (E ++ M).reverse = roundD (M ++ E).reverse := by
  obtain ⟨A, b, B, e, h⟩ := least_split hne hnd
  rcases List.append_eq_append_iff.1 e with ⟨as, e1, e2⟩ | ⟨bs, e1, e2⟩
  · -- the least stands in E
    cases as with
    | nil =>
      simp only [List.append_nil, List.nil_append] at e1 e2
      subst e1
      subst e2
      have h' : ∀ p ∈ [] ++ (B ++ A), bef b p := fun p hp => h p (by simp at hp ⊢; grind)
      have r1 := roundD_at h
      have r2 := roundD_at (A := []) (B := B ++ A) (b := b) h'
      have s1 := roundD_rev h
      have s2 := roundD_rev (A := []) (B := B ++ A) (b := b) h'
      simp only [List.nil_append, List.cons_append] at r1 r2 s1 s2 ⊢
      rw [r1, r2, s1, s2]
      simp
    | cons a as =>
      simp only [List.cons_append, List.cons.injEq] at e2
      subst e1
      -- A = M ++ a :: as ; E = a :: as ++ b :: B
      have e3 : E = (a :: as) ++ b :: B := by rw [e2]; rfl
      subst e3
      have h1 : ∀ p ∈ (a :: as) ++ (B ++ M), bef b p := fun p hp => h p (by simp at hp ⊢; grind)
      have r1 := roundD_at (A := M ++ a :: as) (B := B) (b := b) h
      have r2 := roundD_at h1
      have s1 := roundD_rev (A := M ++ a :: as) (B := B) (b := b) h
      have s2 := roundD_rev h1
      rw [show (a :: as) ++ b :: B ++ M = (a :: as) ++ b :: (B ++ M) by simp, show M ++ ((a :: as) ++ b :: B) = (M ++ a :: as) ++ b :: B by simp, r1, r2, s1, s2]
      simp
  · -- the least stands in M
    cases bs with
    | nil =>
      simp only [List.append_nil, List.nil_append] at e1 e2
      subst e1
      subst e2
      have h' : ∀ p ∈ [] ++ (B ++ M), bef b p := fun p hp => h p (by simp at hp ⊢; grind)
      have r1 := roundD_at h
      have r2 := roundD_at (A := []) (B := B ++ M) (b := b) h'
      have s1 := roundD_rev h
      have s2 := roundD_rev (A := []) (B := B ++ M) (b := b) h'
      simp only [List.nil_append, List.cons_append] at r1 r2 s1 s2 ⊢
      rw [r1, r2, s1, s2]
      simp
    | cons a bs =>
      simp only [List.cons_append, List.cons.injEq] at e2
      obtain ⟨rfl, rfl⟩ := e2
      subst e1
      have h1 : ∀ p ∈ (E ++ A) ++ bs, bef b p := fun p hp => h p (by simp at hp ⊢; grind)
      have h2 : ∀ p ∈ A ++ (bs ++ E), bef b p := h
      have r1 := roundD_at h1
      have r2 := roundD_at h2
      have s1 := roundD_rev h1
      have s2 := roundD_rev h2
      rw [show E ++ (A ++ b :: bs) = (E ++ A) ++ b :: bs by simp, show A ++ b :: bs ++ E = A ++ b :: (bs ++ E) by simp, r1, r2, s1, s2]
      simp
end Vd
end Go.Proofs.YtcclepohmhdpbaaGreatDoor

/- THE ONE WAY, PLAINLY: a ring's form is the document's (2). -/
namespace Go.Proofs.YtcclepohmhdpbaaGreatDoor
set_option linter.all false
namespace Vd

theorem ext_pt {l k : Ring} (hl : l.length = k.length) (h : ∀ i, i < l.length → ptAt l i = ptAt k i) : l = k := by
  refine List.ext_getElem? fun i => ?_
  rcases Nat.lt_or_ge i l.length with g | g
  · rw [ptAt_get g, ptAt_get (by omega), h i g]
  · rw [List.getElem?_eq_none g, List.getElem?_eq_none (by omega)]
theorem ptAt_map_range {n i : Nat} {f : Nat → Pnt} (h : i < n) : ptAt ((List.range n).map f) i = f i := by
  unfold ptAt; rw [List.getD_eq_getElem?_getD, List.getElem?_map, List.getElem?_range h]; rfl
theorem ptAt_cons_succ (b : Pnt) (l : Ring) (i : Nat) : ptAt (b :: l) (i + 1) = ptAt l i := by unfold ptAt; rfl
theorem ptAt_cons_zero (b : Pnt) (l : Ring) : ptAt (b :: l) 0 = b := rfl
theorem ptAt_rev {l : Ring} {i : Nat} (h : i < l.length) : ptAt l.reverse i = ptAt l (l.length - 1 - i) := by
  unfold ptAt; rw [List.getD_eq_getElem?_getD, List.getD_eq_getElem?_getD, List.getElem?_reverse h]
theorem ptAt_left {l k : Ring} {i : Nat} (h : i < l.length) : ptAt (l ++ k) i = ptAt l i := ptAt_app1 h
theorem ptAt_right {l k : Ring} {i : Nat} (h : l.length ≤ i) : ptAt (l ++ k) i = ptAt k (i - l.length) := by
  have := ptAt_app2 (p1 := l) (p2 := k) (i - l.length)
  rw [show l.length + (i - l.length) = i by omega] at this
  exact this
theorem form_fwd (A : Ring) (b : Pnt) (B : Ring) : (List.range ((A ++ b :: B).length + 1)).map (fun t => ptAt (A ++ b :: B) ((A.length + t * 1) % (A ++ b :: B).length)) = b :: B ++ A ++ [b] := by
  have hc : (A ++ b :: B).length = A.length + B.length + 1 := by simp; omega
  refine ext_pt (by simp; omega) fun t ht => ?_
  rw [List.length_map, List.length_range] at ht
  rw [ptAt_map_range ht, Nat.mul_one]
  have lb : (b :: B).length = B.length + 1 := by simp
  have lba : (b :: B ++ A).length = B.length + 1 + A.length := by simp; omega
  rcases Nat.lt_or_ge t (B.length + 1) with g | g
  · rw [Nat.mod_eq_of_lt (by omega), ptAt_right (by omega), ptAt_left (by omega), ptAt_left (by omega)]
    congr 1; omega
  · rcases Nat.lt_or_ge t (A ++ b :: B).length with g2 | g2
    · have e : (A.length + t) % (A ++ b :: B).length = A.length + t - (A ++ b :: B).length := by
        rw [Nat.mod_eq_sub_mod (by omega), Nat.mod_eq_of_lt (by omega)]
      rw [e, ptAt_left (by omega), ptAt_left (by omega), ptAt_right (by omega)]
      congr 1; omega
    · have et : t = (A ++ b :: B).length := by omega
      rw [et, Nat.add_mod_right, Nat.mod_eq_of_lt (by omega), ptAt_mid, ptAt_right (by omega), show (A ++ b :: B).length - (b :: B ++ A).length = 0 by omega]; rfl
theorem mod_back {f c t : Nat} (hc : 1 ≤ c) (ht : t ≤ c) : (f + t * (c - 1)) % c = (f + (c - t)) % c := by
  rcases Nat.eq_zero_or_pos t with z | z
  · subst z; rw [Nat.zero_mul, Nat.add_zero, Nat.sub_zero, Nat.add_mod_right]
  · have e : f + t * (c - 1) = (f + (c - t)) + c * (t - 1) := by
      obtain ⟨t', rfl⟩ : ∃ t', t = t' + 1 := ⟨t - 1, by omega⟩
      obtain ⟨c', rfl⟩ : ∃ c', c = c' + 1 := ⟨c - 1, by omega⟩
      rw [show c' + 1 - 1 = c' from rfl, show t' + 1 - 1 = t' from rfl]
      have : (t' + 1) * c' = t' * c' + c' := Nat.succ_mul _ _
      have : (c' + 1) * t' = c' * t' + t' := Nat.succ_mul _ _
      have : t' * c' = c' * t' := Nat.mul_comm _ _
      omega
    rw [e, Nat.add_mul_mod_self_left]
theorem form_bwd (A : Ring) (b : Pnt) (B : Ring) : (List.range ((A ++ b :: B).length + 1)).map (fun t => ptAt (A ++ b :: B) ((A.length + t * ((A ++ b :: B).length - 1)) % (A ++ b :: B).length)) = b :: A.reverse ++ B.reverse ++ [b] := by
  have hc : (A ++ b :: B).length = A.length + B.length + 1 := by simp; omega
  refine ext_pt (by simp <;> omega) fun t ht => ?_
  rw [List.length_map, List.length_range] at ht
  rw [ptAt_map_range ht, mod_back (by omega) (by omega)]
  have lba : (b :: A.reverse ++ B.reverse).length = A.length + 1 + B.length := by simp; omega
  have lb : (b :: A.reverse).length = A.length + 1 := by simp
  rcases Nat.eq_zero_or_pos t with z | z
  · subst z
    rw [Nat.sub_zero, Nat.add_mod_right, Nat.mod_eq_of_lt (by omega), ptAt_mid]; rfl
  · obtain ⟨s, rfl⟩ : ∃ s, t = s + 1 := ⟨t - 1, by omega⟩
    rcases Nat.lt_or_ge s A.length with g | g
    · have e : (A.length + ((A ++ b :: B).length - (s + 1))) % (A ++ b :: B).length = A.length - (s + 1) := by
        rw [Nat.mod_eq_sub_mod (by omega), Nat.mod_eq_of_lt (by omega)]; omega
      rw [e, ptAt_left (by omega), ptAt_left (by omega), ptAt_left (by omega), ptAt_cons_succ, ptAt_rev g]
      congr 1; omega
    · rcases Nat.lt_or_ge (s + 1) (A ++ b :: B).length with g2 | g2
      · rw [Nat.mod_eq_of_lt (by omega), ptAt_right (by omega), ptAt_left (by omega), ptAt_right (by omega), lb, ptAt_rev (by omega)]
        rw [show A.length + ((A ++ b :: B).length - (s + 1)) - A.length = ((A ++ b :: B).length - (s + 1) - 1) + 1 by omega, ptAt_cons_succ]
        congr 1; omega
      · have et : s + 1 = (A ++ b :: B).length := by omega
        rw [et, Nat.sub_self, Nat.add_zero, Nat.mod_eq_of_lt (by omega), ptAt_mid, ptAt_right (by omega), show (A ++ b :: B).length - (b :: A.reverse ++ B.reverse).length = 0 by omega]; rfl

/-! ### the document's corners -/
def turnD (r : Ring) (i : Nat) : Bool := decide (xp (sub (ptAt r ((i + (r.length - 1) - 1) % (r.length - 1))) (ptAt r i)) (sub (ptAt r i) (ptAt r (i + 1))) ≠ 0)
def cornersU (r : Ring) : Ring := ((List.range (r.length - 1)).filter (turnD r)).map (ptAt r)
def cornersD (r : Ring) (left : Bool) : Ring := if decide (0 < twiceA (ptAt r 0) r) = left then cornersU r else (cornersU r).reverse
def ringD (r : Ring) (left : Bool) : Ring := roundD (cornersD r left)
theorem VR.turnD_eq {r : Ring} (h : VR r) {i : Nat} (h1 : 1 ≤ i) (hi : i < r.length - 1) : turnD r i = Vd.turns r i := by
  have e0 : per r = r.length - 1 := rfl
  rw [h.turns_iff h1 (by omega)]
  unfold turnD Wr
  rw [show i + (r.length - 1) - 1 = (i - 1) + (r.length - 1) by omega, Nat.add_mod_right, Nat.mod_eq_of_lt (by omega), show i - 1 + 1 = i by omega, h.pr (i := i - 1) (by omega), h.pr (i := i) (by omega), h.pr (i := i + 1) (by omega)]
theorem VR.turnD_zero {r : Ring} (h : VR r) : turnD r 0 = Vd.turns r (r.length - 1) := by
  have e0 : per r = r.length - 1 := rfl
  have h4 := h.shut.len
  rw [h.turns_iff (by omega) (by omega)]
  unfold turnD Wr
  rw [show 0 + (r.length - 1) - 1 = r.length - 2 by omega, Nat.mod_eq_of_lt (by omega), show r.length - 1 - 1 + 1 = r.length - 1 by omega, h.pr (i := r.length - 1 - 1) (by omega), h.pr (i := r.length - 1) (by omega), h.pr_next (by omega) (by omega), ← h.wrap]
  unfold nextI
  rw [if_neg (by omega)]
  rfl
theorem VR.corners_split {r : Ring} (h : VR r) : ∃ M E : Ring, corners r = M ++ E ∧ cornersU r = E ++ M := by
  have h4 := h.shut.len
  obtain ⟨n, hn⟩ : ∃ n, r.length = n + 2 := ⟨r.length - 2, by omega⟩
  have r1 : List.range r.length = 0 :: (List.range' 1 n ++ [n + 1]) := by
    rw [hn, List.range_succ, List.range_eq_range', List.range'_succ]; rfl
  have r2 : List.range (r.length - 1) = 0 :: List.range' 1 n := by
    rw [hn, show n + 2 - 1 = n + 1 from rfl, List.range_eq_range', List.range'_succ]
  have t0 : Vd.turns r 0 = false := by unfold Vd.turns; simp
  refine ⟨((List.range' 1 n).filter (Vd.turns r)).map (ptAt r), if Vd.turns r (n + 1) = true then [ptAt r (n + 1)] else [], ?_, ?_⟩
  · rw [corners_Ci]
    unfold Ci
    rw [r1, List.filter_cons, t0, if_neg (by decide), List.filter_append, List.map_append]
    congr 1
    by_cases k : Vd.turns r (n + 1) = true
    · rw [if_pos k]; simp [k]
    · rw [if_neg k]; simp [k]
  · unfold cornersU
    rw [r2, List.filter_cons, h.turnD_zero, show r.length - 1 = n + 1 by omega]
    have e : (List.range' 1 n).filter (turnD r) = (List.range' 1 n).filter (Vd.turns r) := by
      refine List.filter_congr fun i hi => ?_
      have := List.mem_range'_1.1 hi
      exact h.turnD_eq (by omega) (by omega)
    by_cases k : Vd.turns r (n + 1) = true
    · rw [if_pos k, if_pos k, List.map_cons, e, h.wrap, show r.length - 1 = n + 1 by omega]; rfl
    · rw [if_neg k, if_neg k, e]; rfl
/-- A RING IN THE ONE WAY: the program's is the document's. -/
theorem VR.ring_eq {r : Ring} (h : VR r) (left : Bool) : ringForm r left = ringD r left := by
  have h3 := h.corners_three
  obtain ⟨M, E, e1, e2⟩ := h.corners_split
  have hne : M ++ E ≠ [] := fun e => by rw [← e1] at e; rw [e] at h3; simp at h3
  have hnd : (M ++ E).Nodup := by rw [← e1]; exact h.corners_nodup
  obtain ⟨t1, t2⟩ := round_turn hne hnd
  have hl := h.lefts_area
  have ha : twiceA (ptAt r 0) r = area2 r := twiceA_eq (shut_ends h.shut) _
  unfold ringD cornersD
  rw [ha, e2]
  unfold ringForm stepI
  rw [if_neg (by omega), hl]
  obtain ⟨A, b, B, es, hb⟩ := least_split hne hnd
  by_cases c : decide (0 < area2 r) = left
  · rw [if_pos c, if_pos c, t1, e1, es, leastI_at hb, form_fwd, roundD_at hb]
  · rw [if_neg c, if_neg c, t2, e1, es, leastI_at hb, form_bwd, roundD_rev hb]
end Vd
end Go.Proofs.YtcclepohmhdpbaaGreatDoor

/- THE ONE WAY, PLAINLY: the order is the document's. -/
namespace Go.Proofs.YtcclepohmhdpbaaGreatDoor
set_option linter.all false
namespace Vd

/-! ### putting one in its place, from behind -/
def insR {α : Type} (c : α → α → Int) (x : α) : List α → List α
  | [] => [x]
  | y :: t => if c x y < 0 then y :: insR c x t else x :: y :: t
def insB {α : Type} (c : α → α → Int) (l : List α) (x : α) : List α := (insR c x l.reverse).reverse
theorem insB_nil {α : Type} (c : α → α → Int) (x : α) : insB c [] x = [x] := rfl
theorem insB_snoc {α : Type} (c : α → α → Int) (l : List α) (y x : α) : insB c (l ++ [y]) x = if c x y < 0 then insB c l x ++ [y] else l ++ [y] ++ [x] := by
  unfold insB
  rw [List.reverse_append, show [y].reverse ++ l.reverse = y :: l.reverse from rfl, insR]
  split
  · rw [List.reverse_cons]
  · rw [List.reverse_cons, List.reverse_cons, List.reverse_reverse]
theorem snoc_ind {α : Type} {P : List α → Prop} (h0 : P []) (h1 : ∀ l x, P l → P (l ++ [x])) : ∀ l, P l := by
  intro l
  have : ∀ n (l : List α), l.length = n → P l := by
    intro n
    induction n with
    | zero => intro l hl; rw [List.eq_nil_of_length_eq_zero hl]; exact h0
    | succ n ih =>
      intro l hl
      rcases List.eq_nil_or_concat l with e | ⟨t, x, e⟩
      · rw [e]; exact h0
      · rw [e, List.concat_eq_append]
        rw [e] at hl
        exact h1 t x (ih t (by simp at hl; omega))
  exact this l.length l rfl
theorem insB_perm {α : Type} (c : α → α → Int) (x : α) : ∀ l, (insB c l x).Perm (l ++ [x]) := by
  intro l
  induction l using snoc_ind with
  | h0 => exact List.Perm.refl _
  | h1 l y ih =>
    rw [insB_snoc]
    split
    · have k : (insB c l x ++ [y]).Perm (l ++ [x] ++ [y]) := ih.append_right _
      refine k.trans ?_
      rw [List.append_assoc, List.append_assoc]
      exact List.Perm.append_left _ (List.Perm.swap y x [])
    · exact List.Perm.refl _
theorem Cmp.le_trans {α : Type} {c : α → α → Int} (h : Cmp c) {x y z : α} (h1 : c x y ≤ 0) (h2 : c y z ≤ 0) : c x z ≤ 0 := by
  rcases Int.lt_or_le (c x y) 0 with g | g
  · rcases Int.lt_or_le (c y z) 0 with g2 | g2
    · have := h.trans x y z g g2; omega
    · rw [← h.eq y z (by omega)]; exact h1
  · rw [h.eq x y (by omega)]; exact h2
theorem insB_sorted {α : Type} {c : α → α → Int} (h : Cmp c) (x : α) : ∀ l, l.Pairwise (fun a b => c a b ≤ 0) → (insB c l x).Pairwise (fun a b => c a b ≤ 0) := by
  intro l
  induction l using snoc_ind with
  | h0 => intro _; exact List.pairwise_singleton _ _
  | h1 l y ih =>
    intro hp
    obtain ⟨p1, p2, p3⟩ := List.pairwise_append.1 hp
    rw [insB_snoc]
    split
    · rename_i k
      refine List.pairwise_append.2 ⟨ih p1, List.pairwise_singleton _ _, fun a ha b hb => ?_⟩
      rw [List.mem_singleton.1 hb]
      rcases List.mem_append.1 ((insB_perm c x l).mem_iff.1 ha) with g | g
      · exact p3 a g y (by simp)
      · rw [List.mem_singleton.1 g]; omega
    · rename_i k
      refine List.pairwise_append.2 ⟨hp, List.pairwise_singleton _ _, fun a ha b hb => ?_⟩
      rw [List.mem_singleton.1 hb]
      have hy : c y x ≤ 0 := by have := h.anti x y; omega
      rcases List.mem_append.1 ha with g | g
      · exact h.le_trans (p3 a g y (by simp)) hy
      · rw [List.mem_singleton.1 g]; exact hy
def sortD {α : Type} (c : α → α → Int) (l : List α) : List α := l.foldl (insB c) []
theorem sortD_snoc {α : Type} (c : α → α → Int) (l : List α) (x : α) : sortD c (l ++ [x]) = insB c (sortD c l) x := by unfold sortD; rw [List.foldl_append]; rfl
theorem sortD_perm {α : Type} (c : α → α → Int) : ∀ l, (sortD c l).Perm l := by
  intro l
  induction l using snoc_ind with
  | h0 => exact List.Perm.refl _
  | h1 l x ih => rw [sortD_snoc]; exact (insB_perm c x _).trans (ih.append_right _)
theorem sortD_sorted {α : Type} {c : α → α → Int} (h : Cmp c) : ∀ l, (sortD c l).Pairwise (fun a b => c a b ≤ 0) := by
  intro l
  induction l using snoc_ind with
  | h0 => exact List.Pairwise.nil
  | h1 l x ih => rw [sortD_snoc]; exact insB_sorted h x _ ih
theorem sort_unique {α : Type} {c : α → α → Int} (h : Cmp c) {l k : List α} (hl : l.Pairwise (fun a b => c a b ≤ 0)) (hk : k.Pairwise (fun a b => c a b ≤ 0)) (hp : l.Perm k) : l = k :=
  List.Perm.eq_of_pairwise (le := fun a b => c a b ≤ 0) (fun a b _ _ h1 h2 => h.eq a b (by have := h.anti a b; omega)) hl hk hp

/-! ### the program's order -/
theorem pAt_list (m : Mult) : (List.range m.length).map (pAt m) = m := by
  refine List.ext_getElem? fun i => ?_
  rcases Nat.lt_or_ge i m.length with g | g
  · rw [List.getElem?_map, List.getElem?_range g]
    unfold pAt
    rw [Option.map_some, List.getD_eq_getElem?_getD, List.getElem?_eq_getElem g]; rfl
  · rw [List.getElem?_eq_none (by simpa using g), List.getElem?_eq_none g]
/-- who stands at a place. -/
noncomputable def inv (m : Mult) (j : Nat) : Nat := if h : j < m.length then Classical.choose (cnt_surj (m := m) h) else 0
theorem inv_at {m : Mult} {j : Nat} (h : j < m.length) : inv m j < m.length ∧ cntA m (inv m j) m.length = j := by
  unfold inv; rw [dif_pos h]; exact Classical.choose_spec (cnt_surj (m := m) h)
theorem inOrder_inv (m : Mult) : inOrder m = (List.range m.length).map fun j => pAt m (inv m j) := by
  refine List.ext_getElem? fun j => ?_
  rcases Nat.lt_or_ge j m.length with g | g
  · obtain ⟨h1, h2⟩ := inv_at g
    have := inOrder_at m h1
    rw [h2] at this
    rw [this, List.getElem?_map, List.getElem?_range g]; rfl
  · rw [List.getElem?_eq_none (by rw [inOrder_len]; exact g), List.getElem?_eq_none (by simpa using g)]
theorem inOrder_perm (m : Mult) : (inOrder m).Perm m := by
  have e : (fun j => pAt m (inv m j)) = pAt m ∘ inv m := rfl
  have h : ((List.range m.length).map (inv m)).Perm (List.range m.length) := by
    refine (List.perm_ext_iff_of_nodup ?_ List.nodup_range).2 fun a => ?_
    · exact nodup_map (n := m.length) (fun i k hi hk e => by
        have a1 := (inv_at hi).2
        have a2 := (inv_at hk).2
        rw [e] at a1
        omega) m.length (Nat.le_refl _)
    · rw [List.mem_map, List.mem_range]
      constructor
      · rintro ⟨j, hj, rfl⟩; exact (inv_at (List.mem_range.1 hj)).1
      · intro ha
        refine ⟨cntA m a m.length, List.mem_range.2 (cnt_small ha), ?_⟩
        obtain ⟨h1, h2⟩ := inv_at (m := m) (cnt_small ha)
        exact cnt_inj h1 ha h2
  have k := h.map (pAt m)
  rw [pAt_list, List.map_map, ← e, ← inOrder_inv] at k
  exact k
theorem inOrder_sorted (m : Mult) : (inOrder m).Pairwise (fun a b => cmpP a b ≤ 0) := by
  rw [inOrder_inv, List.pairwise_map]
  have hr : (List.range m.length).Pairwise (fun i j => i < j ∧ j < m.length) := by
    rw [List.pairwise_iff_getElem]
    intro i j hi hj hij
    simp only [List.length_range] at hi hj
    rw [List.getElem_range, List.getElem_range]
    exact ⟨hij, hj⟩
  refine hr.imp fun {i j} ⟨h1, h2⟩ => ?_
  obtain ⟨a1, a2⟩ := inv_at (m := m) (j := i) (by omega)
  obtain ⟨b1, b2⟩ := inv_at (m := m) h2
  have hne : inv m i ≠ inv m j := fun e => by rw [e] at a2; omega
  rcases aheadM_tot m hne with k | k
  · unfold aheadM at k; omega
  · have := cnt_lt b1 k; omega
theorem order_eq (m : Mult) : inOrder m = sortD cmpP m := sort_unique cmpP_cmp (inOrder_sorted m) (sortD_sorted cmpP_cmp m) ((inOrder_perm m).trans (sortD_perm cmpP m).symm)
theorem cmpP_one (a b : Ring) : cmpP [a] [b] = cmpR a b := by
  rw [cmpP]
  split
  · rfl
  · rename_i k; rw [cmpP]; omega
theorem order_ones (t : List Ring) : inOrder (t.map fun r => [r]) = (sortD cmpR t).map fun r => [r] := by
  refine sort_unique cmpP_cmp (inOrder_sorted _) ?_ ((inOrder_perm _).trans ((sortD_perm cmpR t).map _).symm)
  rw [List.pairwise_map]
  exact (sortD_sorted cmpR_cmp t).imp fun {a b} h => by rw [cmpP_one]; exact h
theorem flat_ones {α : Type} (t : List α) : (t.map fun r => [r]).flatten = t := by
  induction t with
  | nil => rfl
  | cons a t ih => simp [ih]
/-- THE DOCUMENT's ONE WAY. -/
def polyD : Poly → Poly
  | [] => []
  | r :: t => ringD r true :: sortD cmpR (t.map fun r => ringD r false)
def canonD (m : Mult) : Mult := sortD cmpP (m.map polyD)
theorem poly_eq {l : Poly} (h : ∀ r ∈ l, VR r) : polyForm l = polyD l := by
  cases l with
  | nil => rfl
  | cons r t =>
    rw [polyForm, polyD, (h r (by simp)).ring_eq]
    congr 1
    have e : holesF t = (t.map fun r => ringD r false).map fun r => [r] := by
      unfold holesF
      rw [List.map_map]
      refine List.map_congr_left fun x hx => ?_
      show [ringForm x false] = [ringD x false]
      rw [(h x (by simp [hx])).ring_eq]
    rw [e, order_ones, flat_ones]
theorem form_eq {m : Mult} (h : ∀ l ∈ m, ∀ r ∈ l, VR r) : form m = canonD m := by
  unfold form canonD
  rw [order_eq]
  congr 1
  exact List.map_congr_left fun l hl => poly_eq (h l hl)
end Vd
end Go.Proofs.YtcclepohmhdpbaaGreatDoor

/- THE ONE WAY, PLAINLY: it is a set again. -/
namespace Go.Proofs.YtcclepohmhdpbaaGreatDoor
set_option linter.all false
namespace Vd

theorem polyD_size (l : Poly) : (polyD l).length = l.length := by
  cases l with
  | nil => rfl
  | cons r t => rw [polyD, List.length_cons, (sortD_perm cmpR _).length_eq, List.length_map]; rfl
theorem polyD_mem {l : Poly} {x : Ring} (h : x ∈ polyD l) : ∃ r ∈ l, ∃ b, x = ringD r b := by
  cases l with
  | nil => cases h
  | cons r t =>
    rw [polyD] at h
    rcases List.mem_cons.1 h with h | h
    · exact ⟨r, by simp, true, h⟩
    · obtain ⟨q, hq, e⟩ := List.mem_map.1 ((sortD_perm cmpR _).mem_iff.1 h)
      exact ⟨q, by simp [hq], false, e.symm⟩
theorem canonD_perm (m : Mult) : (canonD m).Perm (m.map polyD) := sortD_perm cmpP _
theorem canonD_mem {m : Mult} {x : Poly} (h : x ∈ canonD m) : ∃ l ∈ m, x = polyD l := by
  obtain ⟨q, hq, e⟩ := List.mem_map.1 ((canonD_perm m).mem_iff.1 h)
  exact ⟨q, hq, e.symm⟩
theorem cornersU_size (r : Ring) : (cornersU r).length ≤ r.length - 1 := by
  unfold cornersU
  rw [List.length_map]
  have := List.length_filter_le (turnD r) (List.range (r.length - 1))
  simpa using this
theorem cornersU_mem {r : Ring} {p : Pnt} (h : p ∈ cornersU r) : p ∈ r := by
  unfold cornersU at h
  obtain ⟨i, hi, rfl⟩ := List.mem_map.1 h
  have hi2 := List.mem_range.1 (List.mem_filter.1 hi).1
  obtain ⟨p, hp⟩ := Pl.some_of_lt (show i < r.length by omega)
  have : ptAt r i = p := by unfold ptAt; rw [List.getD_eq_getElem?_getD, hp]; rfl
  rw [this]; exact Pl.mem_of_some hp
theorem cornersD_size (r : Ring) (b : Bool) : (cornersD r b).length = (cornersU r).length := by
  unfold cornersD; split
  · rfl
  · rw [List.length_reverse]
theorem cornersD_mem {r : Ring} {b : Bool} {p : Pnt} (h : p ∈ cornersD r b) : p ∈ r := by
  unfold cornersD at h; split at h
  · exact cornersU_mem h
  · exact cornersU_mem (List.mem_reverse.1 h)
theorem leastI_low {l : Ring} (h : l ≠ []) : leastI l < l.length := by
  have h1 : leastI l = leastN l l.length := rfl
  have h2 := leastN_b l l.length
  have h3 : 0 < l.length := List.length_pos_iff.2 h
  rw [h1]; omega
theorem ptAt_in {l : Ring} {i : Nat} (h : i < l.length) : ptAt l i ∈ l := by
  obtain ⟨p, hp⟩ := Pl.some_of_lt h
  have : ptAt l i = p := by unfold ptAt; rw [List.getD_eq_getElem?_getD, hp]; rfl
  rw [this]; exact Pl.mem_of_some hp
theorem roundD_split (l : Ring) : roundD l = l.drop (leastI l) ++ l.take (leastI l) ++ [ptAt l (leastI l)] := rfl
theorem roundD_size {l : Ring} : (roundD l).length = l.length + 1 := by
  rw [roundD_split]
  have := leastN_b l l.length
  have h1 : leastI l = leastN l l.length := rfl
  simp only [List.length_append, List.length_drop, List.length_take, List.length_cons, List.length_nil]; omega
theorem roundD_mem {l : Ring} (h : l ≠ []) {p : Pnt} (hp : p ∈ roundD l) : p ∈ l := by
  rw [roundD_split] at hp
  rcases List.mem_append.1 hp with hp | hp
  · rcases List.mem_append.1 hp with hp | hp
    · exact List.mem_of_mem_drop hp
    · exact List.mem_of_mem_take hp
  · rw [List.mem_singleton.1 hp]; exact ptAt_in (leastI_low h)
theorem roundD_ends {l : Ring} (h : l ≠ []) : (roundD l).head? = (roundD l).getLast? := by
  have hl := leastI_low h
  rw [roundD_split, List.getLast?_append, List.append_assoc, List.head?_append]
  have : (l.drop (leastI l)).head? = some (ptAt l (leastI l)) := by
    rw [List.head?_drop]
    obtain ⟨p, hp⟩ := Pl.some_of_lt hl
    have e : ptAt l (leastI l) = p := by unfold ptAt; rw [List.getD_eq_getElem?_getD, hp]; rfl
    rw [hp, e]
  rw [this]; rfl
theorem VR.cornersU_three {r : Ring} (h : VR r) : 3 ≤ (cornersU r).length := by
  obtain ⟨M, E, e1, e2⟩ := h.corners_split
  have := h.corners_three
  rw [e1] at this
  rw [e2]
  simp only [List.length_append] at this ⊢
  omega
theorem ringD_size (r : Ring) (b : Bool) : (ringD r b).length = (cornersU r).length + 1 := by unfold ringD; rw [roundD_size, cornersD_size]
theorem VR.cornersD_ne {r : Ring} (h : VR r) (b : Bool) : cornersD r b ≠ [] := by
  intro e
  have h1 := h.cornersU_three
  have h2 := cornersD_size r b
  rw [e] at h2
  simp at h2; omega
theorem VR.bad {r : Ring} (h : VR r) (b : Bool) : Pl.badR (ringD r b) = false := by
  unfold Pl.badR
  have h1 := h.cornersU_three
  have h2 := ringD_size r b
  have h3 : (ringD r b).head? = (ringD r b).getLast? := roundD_ends (h.cornersD_ne b)
  rw [decide_eq_false (show ¬ (ringD r b).length < 4 by omega), decide_eq_true h3]; rfl
theorem VR.wide {r : Ring} (h : VR r) (b : Bool) (k : Pl.wideR r = false) : Pl.wideR (ringD r b) = false := by
  unfold Pl.wideR at *
  rw [List.any_eq_false] at *
  intro p hp
  exact k p (cornersD_mem (roundD_mem (h.cornersD_ne b) hp))
theorem perm_sum {α : Type} (f : α → Nat) {l k : List α} (h : l.Perm k) : (l.map f).sum = (k.map f).sum := (h.map f).sum_nat
theorem nR_canon (m : Mult) : Pl.nR (canonD m) = Pl.nR m := by
  unfold Pl.nR
  rw [perm_sum List.length (canonD_perm m), List.map_map]
  congr 1
  exact List.map_congr_left fun l _ => polyD_size l
theorem sum_le {α : Type} (f g : α → Nat) : ∀ l : List α, (∀ x ∈ l, f x ≤ g x) → (l.map f).sum ≤ (l.map g).sum := by
  intro l
  induction l with
  | nil => intro _; exact Nat.le_refl _
  | cons a t ih =>
    intro h
    rw [List.map_cons, List.map_cons, List.sum_cons, List.sum_cons]
    have h1 := h a (by simp)
    have h2 := ih fun x hx => h x (by simp [hx])
    omega
theorem nPl_poly {l : Poly} (h : ∀ r ∈ l, 1 ≤ r.length) : Pl.nPl (polyD l) ≤ Pl.nPl l := by
  have one : ∀ r ∈ l, ∀ b, (ringD r b).length ≤ r.length := fun r hr b => by
    have h1 := ringD_size r b
    have h2 := cornersU_size r
    have h3 := h r hr
    omega
  cases l with
  | nil => exact Nat.le_refl _
  | cons r t =>
    unfold Pl.nPl
    rw [polyD, List.map_cons, List.map_cons, List.sum_cons, List.sum_cons, perm_sum List.length (sortD_perm cmpR _), List.map_map]
    have h1 := one r (by simp) true
    have h2 := sum_le (List.length ∘ fun r => ringD r false) List.length t fun x hx => one x (by simp [hx]) false
    omega
theorem nP_canon {m : Mult} (h : ∀ l ∈ m, ∀ r ∈ l, 1 ≤ r.length) : Pl.nP (canonD m) ≤ Pl.nP m := by
  unfold Pl.nP
  rw [perm_sum Pl.nPl (canonD_perm m), List.map_map]
  exact sum_le (Pl.nPl ∘ polyD) Pl.nPl m fun l hl => nPl_poly (h l hl)
theorem wrong0 {m : Mult} (h : Pl.wrong m = 0) : Pl.many m = false ∧ m.any Pl.badL = false ∧ m.any Pl.wideL = false := by
  unfold Pl.wrong at h
  cases h1 : Pl.many m <;> cases h2 : m.any Pl.badL <;> cases h3 : m.any Pl.wideL <;> simp_all
theorem canon_wrong {m : Mult} (h0 : Pl.wrong m = 0) (hv : ∀ l ∈ m, ∀ r ∈ l, VR r) : Pl.wrong (canonD m) = 0 := by
  obtain ⟨h1, h2, h3⟩ := wrong0 h0
  have hg := good_of h0
  have k1 : Pl.many (canonD m) = false := by
    unfold Pl.many at *
    simp only [Bool.or_eq_false_iff, decide_eq_false_iff_not] at *
    have e1 := (canonD_perm m).length_eq
    rw [List.length_map] at e1
    have e2 := nR_canon m
    have e3 := nP_canon (m := m) fun l hl r hr => by have := (hv l hl r hr).shut.len; omega
    omega
  have k2 : (canonD m).any Pl.badL = false := by
    rw [List.any_eq_false]
    intro x hx
    obtain ⟨l, hl, rfl⟩ := canonD_mem hx
    have hne := hg.ne l hl
    unfold Pl.badL Pl.badRs
    simp only [Bool.or_eq_true, not_or, Bool.not_eq_true]
    constructor
    · have e := polyD_size l
      cases hp : polyD l with
      | nil => rw [hp] at e; exact absurd (List.eq_nil_of_length_eq_zero e.symm) hne
      | cons a t => rfl
    · rw [List.any_eq_false]
      intro y hy
      obtain ⟨r, hr, b, rfl⟩ := polyD_mem hy
      rw [(hv l hl r hr).bad b]; simp
  have k3 : (canonD m).any Pl.wideL = false := by
    rw [List.any_eq_false] at h3 ⊢
    intro x hx
    obtain ⟨l, hl, rfl⟩ := canonD_mem hx
    have h4 := h3 l hl
    unfold Pl.wideL at h4 ⊢
    rw [Bool.not_eq_true, List.any_eq_false] at h4 ⊢
    intro y hy
    obtain ⟨r, hr, b, rfl⟩ := polyD_mem hy
    have h5 := h4 r hr
    rw [Bool.not_eq_true] at h5 ⊢
    exact (hv l hl r hr).wide b h5
  unfold Pl.wrong
  rw [k1, k2, k3]; rfl
end Vd
end Go.Proofs.YtcclepohmhdpbaaGreatDoor

/- THE DOCUMENT's WAY ROUND, PLAINLY: a table of rings and points, thinned out. -/
namespace Go.Proofs.YtcclepohmhdpbaaGreatDoor
set_option linter.all false
namespace Vd

/-- F is a part of the table M in which no one stands alone. -/
structure IC (M : Nat → Nat → Bool) (F : Nat → Nat → Prop) : Prop where
  le : ∀ r k, F r k → M r k = true
  pt : ∀ r k, F r k → ∃ s, s ≠ r ∧ F s k
  ring : ∀ r k, F r k → ∃ j, j ≠ k ∧ F r j
/-- a table with one place struck. -/
def strike (M : Nat → Nat → Bool) (r k : Nat) : Nat → Nat → Bool := fun s j => if s = r ∧ j = k then false else M s j
theorem strike_le {M : Nat → Nat → Bool} {r k s j : Nat} (h : strike M r k s j = true) : M s j = true := by
  unfold strike at h; split at h
  · cases h
  · exact h
theorem strike_at (M : Nat → Nat → Bool) (r k : Nat) : strike M r k r k = false := by unfold strike; rw [if_pos ⟨rfl, rfl⟩]
theorem strike_ne {M : Nat → Nat → Bool} {r k s j : Nat} (h : ¬ (s = r ∧ j = k)) : strike M r k s j = M s j := by unfold strike; rw [if_neg h]
/-- a point of one ring alone goes. -/
theorem IC.strike_pt {M : Nat → Nat → Bool} {F : Nat → Nat → Prop} (h : IC M F) {r k : Nat} (hk : ∀ s, s ≠ r → M s k = false) : IC (strike M r k) F := by
  have no : ¬ F r k := fun hf => by
    obtain ⟨s, hs, hf2⟩ := h.pt r k hf
    have := h.le s k hf2
    rw [hk s hs] at this
    cases this
  refine ⟨fun s j hf => ?_, h.pt, h.ring⟩
  rw [strike_ne (fun e => no (by rw [← e.1, ← e.2]; exact hf))]
  exact h.le s j hf
/-- a ring with one point goes. -/
theorem IC.strike_ring {M : Nat → Nat → Bool} {F : Nat → Nat → Prop} (h : IC M F) {r k : Nat} (hk : ∀ j, j ≠ k → M r j = false) : IC (strike M r k) F := by
  have no : ¬ F r k := fun hf => by
    obtain ⟨j, hj, hf2⟩ := h.ring r k hf
    have := h.le r j hf2
    rw [hk j hj] at this
    cases this
  refine ⟨fun s j hf => ?_, h.pt, h.ring⟩
  rw [strike_ne (fun e => no (by rw [← e.1, ← e.2]; exact hf))]
  exact h.le s j hf

/-- The table at the beginning. -/
def tab0 (l : Poly) (pts : List Pnt) (r k : Nat) : Bool := match pts[k]? with
  | some p => decide (r < l.length) && decide (inRing (rAt l r) (at1 p) = 0)
  | none => false
theorem tab0_some {l : Poly} {pts : List Pnt} {r k : Nat} (h : tab0 l pts r k = true) : ∃ p, pts[k]? = some p ∧ r < l.length ∧ inRing (rAt l r) (at1 p) = 0 := by
  unfold tab0 at h
  split at h
  · rename_i p e
    rw [Bool.and_eq_true] at h
    exact ⟨p, e, of_decide_eq_true h.1, of_decide_eq_true h.2⟩
  · cases h
theorem tab0_of {l : Poly} {pts : List Pnt} {r k : Nat} {p : Pnt} (e : pts[k]? = some p) (h1 : r < l.length) (h2 : inRing (rAt l r) (at1 p) = 0) : tab0 l pts r k = true := by
  unfold tab0; rw [e]; simp [h1, h2]
theorem nodupR_at {pts : List Pnt} (h : pts.Nodup) {i j : Nat} {p : Pnt} (hi : pts[i]? = some p) (hj : pts[j]? = some p) : i = j := by
  obtain ⟨h1, e1⟩ := List.getElem?_eq_some_iff.1 hi
  obtain ⟨h2, e2⟩ := List.getElem?_eq_some_iff.1 hj
  rcases Nat.lt_trichotomy i j with q | q | q
  · exact absurd (e1.trans e2.symm) (List.pairwise_iff_getElem.1 h i j h1 h2 q)
  · exact q
  · exact absurd (e2.trans e1.symm) (List.pairwise_iff_getElem.1 h j i h2 h1 q)
theorem docCore_tab {l : Poly} {pts : List Pnt} (hn : pts.Nodup) (hm : ∀ p, p ∈ pts ↔ p ∈ l.flatten) : docCore l ↔ ∃ F, IC (tab0 l pts) F ∧ ∃ r k, F r k := by
  constructor
  · rintro ⟨F, h1, h2, r, q, hf⟩
    have at_ : ∀ r q, F r q → ∃ k, pts[k]? = some q := fun r q hf => by
      obtain ⟨k, hk, e⟩ := List.getElem_of_mem ((hm q).2 (h1 r q hf).2.2)
      exact ⟨k, by rw [List.getElem?_eq_getElem hk, e]⟩
    refine ⟨fun r k => ∃ p, pts[k]? = some p ∧ F r p, ⟨?_, ?_, ?_⟩, ?_⟩
    · rintro r k ⟨p, e, hf⟩
      exact tab0_of e (h1 r p hf).1 (h1 r p hf).2.1
    · rintro r k ⟨p, e, hf⟩
      obtain ⟨s, hs, hf2⟩ := h2.pt r p hf
      exact ⟨s, hs, p, e, hf2⟩
    · rintro r k ⟨p, e, hf⟩
      obtain ⟨p', hp, hf2⟩ := h2.ring r p hf
      obtain ⟨j, ej⟩ := at_ r p' hf2
      exact ⟨j, fun e2 => hp (by rw [e2, e] at ej; exact (Option.some.inj ej).symm), p', ej, hf2⟩
    · obtain ⟨k, e⟩ := at_ r q hf
      exact ⟨r, k, q, e, hf⟩
  · rintro ⟨F, h, r, k, hf⟩
    refine ⟨fun r p => ∃ k, pts[k]? = some p ∧ F r k, ?_, ⟨?_, ?_⟩, ?_⟩
    · rintro r q ⟨k, e, hf⟩
      obtain ⟨p, e1, e2, e3⟩ := tab0_some (h.le r k hf)
      obtain rfl := Option.some.inj (e.symm.trans e1)
      exact ⟨e2, e3, (hm q).1 (List.mem_of_getElem? e)⟩
    · rintro r p ⟨k, e, hf⟩
      obtain ⟨s, hs, hf2⟩ := h.pt r k hf
      exact ⟨s, hs, k, e, hf2⟩
    · rintro r p ⟨k, e, hf⟩
      obtain ⟨j, hj, hf2⟩ := h.ring r k hf
      obtain ⟨p', e1, -, -⟩ := tab0_some (h.le r j hf2)
      exact ⟨p', fun e2 => hj (nodupR_at hn (by rw [e2] at e1; exact e1) e), j, e1, hf2⟩
    · obtain ⟨p, e1, -, -⟩ := tab0_some (h.le r k hf)
      exact ⟨r, p, k, e1, hf⟩
/-- What the thinning keeps: M is a part of M0, and every part that stands is still in M. -/
structure Thin (M0 M : Nat → Nat → Bool) : Prop where
  le : ∀ r k, M r k = true → M0 r k = true
  all : ∀ F, IC M0 F → IC M F
theorem Thin.refl (M : Nat → Nat → Bool) : Thin M M := ⟨fun _ _ h => h, fun _ h => h⟩
theorem Thin.pt {M0 M : Nat → Nat → Bool} (h : Thin M0 M) {r k : Nat} (hk : ∀ s, s ≠ r → M s k = false) : Thin M0 (strike M r k) := ⟨fun s j hs => h.le s j (strike_le hs), fun F hF => (h.all F hF).strike_pt hk⟩
theorem Thin.ring {M0 M : Nat → Nat → Bool} (h : Thin M0 M) {r k : Nat} (hk : ∀ j, j ≠ k → M r j = false) : Thin M0 (strike M r k) := ⟨fun s j hs => h.le s j (strike_le hs), fun F hF => (h.all F hF).strike_ring hk⟩
/-- At the end: nobody stands alone in M: is anything left? -/
theorem Thin.done {M0 M : Nat → Nat → Bool} (h : Thin M0 M) (hp : ∀ r k, M r k = true → ∃ s, s ≠ r ∧ M s k = true) (hr : ∀ r k, M r k = true → ∃ j, j ≠ k ∧ M r j = true) : (∃ r k, M r k = true) ↔ ∃ F, IC M0 F ∧ ∃ r k, F r k := by
  constructor
  · rintro ⟨r, k, hm⟩
    exact ⟨fun r k => M r k = true, ⟨h.le, hp, hr⟩, r, k, hm⟩
  · rintro ⟨F, hF, r, k, hf⟩
    exact ⟨r, k, (h.all F hF).le r k hf⟩
end Vd
end Go.Proofs.YtcclepohmhdpbaaGreatDoor
