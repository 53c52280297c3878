import Derived.Test.YtcclepohmhdpbaaGreatDoorClK
import Derived.Test.YtcclepohmhdpbaaGreatDoorRfO
import Derived.Test.YtcclepohmhdpbaaGreatDoorVdN
import Derived.Test.YtcclepohmhdpbaaGreatDoorPlD
/- THE WALKS: Validate, isValid. -/
namespace Go.Proofs.YtcclepohmhdpbaaGreatDoor
set_option linter.all false
open Go.RowKit Go.Deep

/-- A set in memory, as it is read. -/
structure SetR (w : World) (v : Value) (m : Mult) (b : Nat) (u : Value) : Prop where
  ptr : v = .pointer (some ⟨b, 0, none⟩)
  cell : VRow w b 78 [u]
  rd : Rd3 w u m
theorem SetR.up {w w' : World} {v : Value} {m : Mult} {b : Nat} {u : Value} (h : SetR w v m b u) (k : Up w w') : SetR w' v m b u := ⟨h.ptr, h.cell.up k, h.rd.up k⟩
theorem Set3.r {w : World} {v : Value} {m : Mult} {b : Nat} {d : D3} (h : Set3 w v m b d) : SetR w v m b d.v := ⟨h.ptr, h.cell, by have := h.ok.rd; rw [h.pts] at this; exact this⟩
set_option maxHeartbeats 1000000 in
theorem validate_any (v : Value) (m : Mult) (w : World) (b : Nat) (u : Value) (hs : SetR w v m b u) (hz : Sz m) :
    Calls Tryz.prog 33 #[v] w fun e w' => e = .returned (.int .i64 (Vd.least m)) ∧ Up w w' := by
  have HZ := hide hz
  have HR := hide hs.rd
  obtain ⟨rfl, hc, hr⟩ := hs
  obtain ⟨ao, cap, rfl, -⟩ := hr
  have c0 := hc.cell (i := 0) rfl
  clear hc hz
  go_enter Tryz.func33, Tryz.ntmps33
  go_wp2_with (go_at_call 55; refine (least_any _ m _ HR.out HZ.out).mono ?_; rintro e w2 ⟨rfl, hz2⟩; replace hz2 := hide hz2)
  go_ret
  exact ⟨rfl, hz2.out⟩
set_option maxHeartbeats 1000000 in
theorem isValid_any (v : Value) (m : Mult) (w : World) (b : Nat) (u : Value) (hs : SetR w v m b u) (hz : Sz m) :
    Calls Tryz.prog 92 #[v] w fun e w' => e = .returned (.bool (decide (Vd.least m = 0))) ∧ Up w w' := by
  have HZ := hide hz
  have HR := hide hs.rd
  obtain ⟨rfl, hc, hr⟩ := hs
  obtain ⟨ao, cap, rfl, -⟩ := hr
  have c0 := hc.cell (i := 0) rfl
  clear hc hz
  by_cases h : Vd.least m = 0
  · have H := hide h
    clear h
    go_enter Tryz.func92, Tryz.ntmps92
    go_wp2_with (go_at_call 55; refine (least_any _ m _ HR.out HZ.out).mono ?_; rintro e w2 ⟨rfl, hz2⟩; rw [H.out]; replace hz2 := hide hz2)
    go_ret
    exact ⟨ret_b (by rw [H.out]; rfl), hz2.out⟩
  · have H := hide h
    have h' := beq_eq_false_iff_ne.2 h
    go_enter Tryz.func92, Tryz.ntmps92
    go_wp2_with (go_at_call 55; refine (least_any _ m _ HR.out HZ.out).mono ?_; rintro e w2 ⟨rfl, hz2⟩; replace hz2 := hide hz2)
    go_ret
    exact ⟨ret_b (decide_eq_false H.out).symm, hz2.out⟩
end Go.Proofs.YtcclepohmhdpbaaGreatDoor

/- THE DOCUMENT's WALKS: Clause, Valid. -/
namespace Go.Proofs.YtcclepohmhdpbaaGreatDoor
set_option linter.all false
open Go.RowKit Go.Deep

set_option maxHeartbeats 4000000 in
theorem clause_gen (v : Value) (m : Mult) (c : Int) (B : Nat → Bool) (w : World) (hv : Rc3 w v m) (hm : m.length ≤ 1048576)
    (hp : ∀ p : Nat, p < m.length → ∀ w', Up w w' → Calls Tryz.prog 91 #[v, .int .i64 p, .int .i64 c] w' fun e w'' => e = .returned (.bool (!(B p))) ∧ Up w' w'') :
    Calls Tryz.prog 56 #[v, .int .i64 c] w fun e w' => e = .returned (.bool (!(Vd.anyI m.length B))) ∧ Up w w' := by
  obtain ⟨mb, mc, rfl, hM⟩ := hv
  have HP := hide hp
  clear hM hp
  go_enter Tryz.func56, Tryz.ntmps56
  go_wp2
  go_loopw [5] (fun i wr => ∃ k : Nat, i = .int .i64 k ∧ k ≤ m.length ∧ Hid (Up w wr) ∧ Hid (Vd.anyI k B = false)) (fun i _ => m.length - (intOf i).toNat)
  case atStart => exact ⟨0, rfl, Nat.zero_le _, Up.refl _, rfl⟩
  case round =>
    obtain ⟨k, rfl, hk, HU, HA⟩ := hrel
    by_cases hlt : k < m.length
    · have HK := hide (HP.out k hlt wr HU.out)
      have fin : Hid (B k = true → Vd.anyI m.length B = true) := fun h => Vd.anyI_true hlt h
      have st : Hid (B k = false → Vd.anyI (k + 1) B = false) := fun h => anyI_step HA.out h
      generalize B k = X at *
      have i4 : (k : Int) < (m.length : Int) := by omega
      go_wp2_with fail
      refine HK.out.mono ?_
      rintro e w2 ⟨rfl, hz2⟩
      have HU2 := hide (HU.out.trans hz2)
      clear hz2 HK
      cases X
      · have HA2 := hide (st.out rfl)
        go_wp2
        go_roundw
        case rel => exact ⟨k + 1, by go_num, by omega, HU2, HA2⟩
        case measure => simp [intOf]; omega
      · have HR := hide (fin.out rfl)
        go_wp2
        go_ret
        exact ⟨ret_b (by rw [HR.out]; rfl), HU2.out⟩
    · have hk2 : k = m.length := by omega
      subst hk2
      go_wp2
      go_ret
      exact ⟨ret_b (by rw [HA.out]; rfl), HU.out⟩

theorem pAt_get {m : Mult} {p : Nat} (h : p < m.length) : m[p]? = some (Vd.pAt m p) := by
  obtain ⟨l, hl⟩ := Pl.some_of_lt h
  rw [hl, pAt_some hl]
theorem any_pAt (m : Mult) (f : Poly → Bool) : m.any f = Vd.anyI m.length fun i => f (Vd.pAt m i) := by
  apply Vd.bool_iff
  rw [List.any_eq_true, Vd.anyI_iff]
  constructor
  · rintro ⟨r, hr, h⟩
    obtain ⟨i, hi⟩ := List.getElem?_of_mem hr
    exact ⟨i, Pl.lt_of_some hi, by rw [pAt_some hi]; exact h⟩
  · rintro ⟨i, hi, h⟩; exact ⟨_, Vd.pAt_mem hi, h⟩
theorem pz_of {m : Mult} (hz : Sz m) (hg : Vd.Good m) : ∀ l ∈ m, PZ l := fun l hl => ⟨hz.poly l hl, hz.ring l hl, hz.flat l hl, hz.cd l hl, hg.shut l hl, hg.ne l hl⟩

/-- What a clause asks, by its number. -/
def badK (m : Mult) (k : Nat) : Bool := if k = 5 then Vd.overlap m else Vd.badC k m
theorem c4_eq {m : Mult} (hl : ∀ l ∈ m, ∀ r ∈ l, Vd.Long r) : Vd.badC 4 m = m.any partD := by
  unfold Vd.badC
  refine Vd.any_congr fun l h => ?_
  unfold Vd.holdsC
  rw [if_neg (by decide), if_neg (by decide), if_neg (by decide), Bool.not_not]
  exact Vd.bool_iff ((Vd.core_eq (hl l h)).trans (partD_iff l).symm)
theorem clause_any (v : Value) (m : Mult) (k : Nat) (w : World) (hv : Rc3 w v m) (hz : Sz m) (hg : Vd.Good m) (hk : k < 5) (hb : ∀ j, 1 ≤ j → j ≤ k → badK m j = false) :
    Calls Tryz.prog 56 #[v, .int .i64 ((k : Int) + 1)] w fun e w' => e = .returned (.bool (!(badK m (k + 1)))) ∧ Up w w' := by
  have hp := pz_of hz hg
  have lg : 1 ≤ k → ∀ l ∈ m, ∀ r ∈ l, Vd.Long r := fun h => Vd.long_all hg (by have := hb 1 (by omega) h; exact this)
  rcases (show k = 0 ∨ k = 1 ∨ k = 2 ∨ k = 3 ∨ k = 4 from by omega) with rfl | rfl | rfl | rfl | rfl
  · have e : badK m 1 = Vd.anyI m.length fun p => Vd.anyI (Vd.pAt m p).length (dcF (Vd.pAt m p)) := by
      show Vd.badC 1 m = _
      rw [Vd.c1_eq hg]; unfold Vd.d1; rw [any_pAt]
      exact Vd.anyI_congr fun i _ => any_rAt _ _
    rw [show (0 : Nat) + 1 = 1 from rfl, e]
    exact clause_gen v m 1 _ w hv hz.len fun p h w' hu => poly1_any v m p _ w' (hv.up hu) (pAt_get h) (hp _ (Vd.pAt_mem h)) hz.len
  · have e : badK m 2 = Vd.anyI m.length fun p => Vd.anyI (Vd.pAt m p).length (dpF (Vd.pAt m p)) := by
      show Vd.badC 2 m = _
      rw [Vd.c2_eq (lg (by omega))]; unfold Vd.d2; rw [any_pAt]; rfl
    rw [show (1 : Nat) + 1 = 2 from rfl, e]
    exact clause_gen v m 2 _ w hv hz.len fun p h w' hu => poly2_any v m p _ w' (hv.up hu) (pAt_get h) (hp _ (Vd.pAt_mem h)) hz.len
  · have e : badK m 3 = Vd.anyI m.length fun p => Vd.anyI (Vd.pAt m p).length (dnF (Vd.pAt m p)) := by
      show Vd.badC 3 m = _
      rw [Vd.c3_eq (lg (by omega))]; unfold Vd.d3; rw [any_pAt]; rfl
    rw [show (2 : Nat) + 1 = 3 from rfl, e]
    exact clause_gen v m 3 _ w hv hz.len fun p h w' hu => poly3_any v m p _ w' (hv.up hu) (pAt_get h) (hp _ (Vd.pAt_mem h)) hz.len
  · have e : badK m 4 = Vd.anyI m.length fun p => partD (Vd.pAt m p) := by
      show Vd.badC 4 m = _
      rw [c4_eq (lg (by omega)), any_pAt]
    rw [show (3 : Nat) + 1 = 4 from rfl, e]
    exact clause_gen v m 4 _ w hv hz.len fun p h w' hu => poly4_any v m p _ w' (hv.up hu) (pAt_get h) (hp _ (Vd.pAt_mem h)) hz.len
  · have e : badK m 5 = Vd.anyI m.length fun p => Vd.anyI (Vd.pAt m p).length (dqF m p (Vd.pAt m p)) := by
      show Vd.overlap m = _
      rw [Vd.c5_eq hg (lg (by omega))]; unfold Vd.d5
      refine Vd.anyI_congr fun p _ => ?_
      rw [any_rAt]; rfl
    rw [show (4 : Nat) + 1 = 5 from rfl, e]
    exact clause_gen v m 5 _ w hv hz.len fun p h w' hu => poly5_any v m p _ w' (hv.up hu) (pAt_get h) hp hz.len
theorem least_bad {m : Mult} {k : Nat} (hk : k < 5) (h : ∀ j, 1 ≤ j → j ≤ k → badK m j = false) (hb : badK m (k + 1) = true) : Vd.least m = (k : Int) + 1 := by
  have e : ∀ j, j ≤ k → badK m j = Vd.badC j m := fun j hj => by unfold badK; rw [if_neg (by omega)]
  rcases Nat.lt_or_ge k 4 with h4 | h4
  · refine least_at h4 (fun j h1 h2 => by rw [← e j h2]; exact h j h1 h2) ?_
    unfold badK at hb; rw [if_neg (by omega)] at hb; exact hb
  · have hk4 : k = 4 := by omega
    subst hk4
    rw [least_last fun j h1 h2 => by rw [← e j h2]; exact h j h1 h2]
    have : Vd.overlap m = true := hb
    rw [if_pos this]; rfl
theorem least_none {m : Mult} (h : ∀ j, 1 ≤ j → j ≤ 5 → badK m j = false) : Vd.least m = 0 := by
  rw [least_last fun j h1 h2 => by have := h j h1 (by omega); unfold badK at this; rw [if_neg (by omega)] at this; exact this]
  have : Vd.overlap m = false := h 5 (by omega) (by omega)
  rw [this]; rfl

set_option maxHeartbeats 4000000 in
theorem valid_any (v : Value) (m : Mult) (w : World) (hv : Rc3 w v m) (hz : Sz m) (hg : Vd.Good m) :
    Calls Tryz.prog 34 #[v] w fun e w' => e = .returned (.int .i64 (Vd.least m)) ∧ Up w w' := by
  have HK : Hid (∀ k : Nat, k < 5 → (∀ j, 1 ≤ j → j ≤ k → badK m j = false) → ∀ w', Up w w' → Calls Tryz.prog 56 #[v, .int .i64 ((k : Int) + 1)] w' fun e w'' => e = .returned (.bool (!(badK m (k + 1)))) ∧ Up w' w'') :=
    fun k hk hb w' hu => clause_any v m k w' (hv.up hu) hz hg hk hb
  have HL := hide (fun k => least_bad (m := m) (k := k))
  have HN := hide (least_none (m := m))
  obtain ⟨mb, mc, rfl, -⟩ := hv
  clear hz hg
  go_enter Tryz.func34, Tryz.ntmps34
  go_wp2
  go_loopw [3] (fun i wr => ∃ k : Nat, i = .int .i64 ((k : Int) + 1) ∧ k ≤ 5 ∧ Hid (Up w wr) ∧ Hid (∀ j, 1 ≤ j → j ≤ k → badK m j = false)) (fun i _ => 6 - (intOf i).toNat)
  case atStart => exact ⟨0, rfl, Nat.zero_le _, Up.refl _, fun j h1 h2 => by omega⟩
  case round =>
    obtain ⟨k, rfl, hk, HU, HA⟩ := hrel
    by_cases hlt : k < 5
    · have i1 : (k : Int) + 1 ≤ 5 := by omega
      have HKk := hide (HK.out k hlt HA.out wr HU.out)
      have HLk := hide (HL.out k hlt HA.out)
      have HA2 : Hid (badK m (k + 1) = false → ∀ j, 1 ≤ j → j ≤ k + 1 → badK m j = false) := fun h j h1 h2 => by
        by_cases e : j = k + 1
        · rw [e]; exact h
        · exact HA.out j h1 (by omega)
      generalize badK m (k + 1) = X at *
      go_wp2_with fail
      refine HKk.out.mono ?_
      rintro e w2 ⟨rfl, hz2⟩
      have HU2 := hide (HU.out.trans hz2)
      clear hz2 HKk
      cases X
      · have HA3 := hide (HA2.out rfl)
        go_wp2
        go_roundw
        case rel => exact ⟨k + 1, by go_num, by omega, HU2, HA3⟩
        case measure => simp [intOf]; omega
      · have HR := hide (HLk.out rfl)
        go_wp2
        go_ret
        exact ⟨ret_i HR.out.symm, HU2.out⟩
    · have hk2 : k = 5 := by omega
      have HR := hide (HN.out (by rw [← hk2]; exact HA.out))
      have i1 : ¬ (k : Int) + 1 ≤ 5 := by omega
      go_wp2
      go_ret
      exact ⟨ret_i HR.out.symm, HU.out⟩
end Go.Proofs.YtcclepohmhdpbaaGreatDoor

/- GEOMETRY, PLAINLY: a segment between two points, and how often a ring crosses it. -/
namespace Go.Proofs.YtcclepohmhdpbaaGreatDoor
set_option linter.all false
namespace Vd
theorem pp {x y : Int} (hx : 0 < x) (hy : 0 < y) : 0 < x * y := Int.mul_pos hx hy
theorem pn {x y : Int} (hx : 0 < x) (hy : y < 0) : x * y < 0 := Int.mul_neg_of_pos_of_neg hx hy
theorem np {x y : Int} (hx : x < 0) (hy : 0 < y) : x * y < 0 := Int.mul_neg_of_neg_of_pos hx hy
theorem nng {x y : Int} (hx : x < 0) (hy : y < 0) : 0 < x * y := Int.mul_pos_of_neg_of_neg hx hy
theorem p0 {x y : Int} (hx : 0 ≤ x) (hy : 0 ≤ y) : 0 ≤ x * y := Int.mul_nonneg hx hy
theorem m0 {x y : Int} (hx : 0 ≤ x) (hy : y ≤ 0) : x * y ≤ 0 := Int.mul_nonpos_of_nonneg_of_nonpos hx hy
theorem n0 {x y : Int} (hx : x ≤ 0) (hy : 0 ≤ y) : x * y ≤ 0 := Int.mul_nonpos_of_nonpos_of_nonneg hx hy
theorem q0 {x y : Int} (hx : x ≤ 0) (hy : y ≤ 0) : 0 ≤ x * y := Int.mul_nonneg_of_nonpos_of_nonpos hx hy
theorem sgn_of {u P z : Int} (hu : 0 < u) (e : u * P = z) : (0 < P ↔ 0 < z) ∧ (P < 0 ↔ z < 0) ∧ (P = 0 ↔ z = 0) := by
  rcases Int.lt_trichotomy P 0 with h | h | h
  · have := pn hu h; omega
  · have : u * P = 0 := by rw [h]; simp
    omega
  · have := pp hu h; omega
def Opp (A B : Int) : Prop := (A < 0 ∧ 0 < B) ∨ (0 < A ∧ B < 0)
instance (A B : Int) : Decidable (Opp A B) := by unfold Opp; infer_instance
theorem opp_symm {A B : Int} : Opp A B ↔ Opp B A := by unfold Opp; omega
theorem opp_neg {A B : Int} : Opp (-A) (-B) ↔ Opp A B := by unfold Opp; omega
theorem core_le {u A B a b P Q : Int} (hu : 0 < u) (hab : a ≤ b) (e1 : u * P = B * a - A * b) (e2 : u * Q = B * (a - u) - A * (b - u))
    (h1 : 0 < a → a ≤ u → A ≠ 0) (h2 : 0 < b → b ≤ u → B ≠ 0) (h3 : (a ≤ 0 ∧ 0 < b) ∨ (b ≤ 0 ∧ 0 < a) → P ≠ 0) (h4 : (a ≤ u ∧ u < b) ∨ (b ≤ u ∧ u < a) → Q ≠ 0)
    (h5 : a = u → b = u → ¬ Opp A B) :
    (((a ≤ 0 ∧ 0 < b ∧ 0 < P) ∨ (b ≤ 0 ∧ 0 < a ∧ P < 0)) ↔ ((a ≤ u ∧ u < b ∧ 0 < Q) ∨ (b ≤ u ∧ u < a ∧ Q < 0))) ↔
      ¬ ((Opp A B ∧ Opp P Q) ↔ ((0 < a ∧ a ≤ u ∧ A < 0) ↔ (0 < b ∧ b ≤ u ∧ B < 0))) := by
  obtain ⟨P1, P2, P3⟩ := sgn_of hu e1
  obtain ⟨Q1, Q2, Q3⟩ := sgn_of hu e2
  clear e1 e2
  by_cases zb : b ≤ 0
  · -- both below
    have n : ¬ (Opp A B ∧ Opp P Q) := by
      rintro ⟨k | k, k2⟩
      · have := m0 (Int.le_of_lt k.2) (show a ≤ 0 by omega); have := q0 (Int.le_of_lt k.1) zb
        have := m0 (Int.le_of_lt k.2) (show a - u ≤ 0 by omega); have := q0 (Int.le_of_lt k.1) (show b - u ≤ 0 by omega)
        unfold Opp at k2; omega
      · have := q0 (Int.le_of_lt k.2) (show a ≤ 0 by omega); have := m0 (Int.le_of_lt k.1) zb
        have := q0 (Int.le_of_lt k.2) (show a - u ≤ 0 by omega); have := m0 (Int.le_of_lt k.1) (show b - u ≤ 0 by omega)
        unfold Opp at k2; omega
    simp only [n, false_iff]
    clear n h5
    constructor
    · intro _; omega
    · intro _; omega
  by_cases za : u < a
  · have n : ¬ (Opp A B ∧ Opp P Q) := by
      rintro ⟨k | k, k2⟩
      · have := p0 (Int.le_of_lt k.2) (show 0 ≤ a by omega); have := n0 (Int.le_of_lt k.1) (show 0 ≤ b by omega)
        have := p0 (Int.le_of_lt k.2) (show 0 ≤ a - u by omega); have := n0 (Int.le_of_lt k.1) (show 0 ≤ b - u by omega)
        unfold Opp at k2; omega
      · have := n0 (Int.le_of_lt k.2) (show 0 ≤ a by omega); have := p0 (Int.le_of_lt k.1) (show 0 ≤ b by omega)
        have := n0 (Int.le_of_lt k.2) (show 0 ≤ a - u by omega); have := p0 (Int.le_of_lt k.1) (show 0 ≤ b - u by omega)
        unfold Opp at k2; omega
    simp only [n, false_iff]
    clear n h5
    constructor
    · intro _; omega
    · intro _; omega
  by_cases ya : 0 < a
  · have hA := h1 ya (by omega)
    by_cases yb : b ≤ u
    · -- both between
      have hB := h2 (by omega) yb
      have d : Opp A B → Opp P Q := by
        intro k
        have k5 := fun e1 e2 => h5 e1 e2 k
        rcases k with k | k
        · have := pp k.2 ya; have := np k.1 (show 0 < b by omega)
          have : 0 < P := P1.2 (by omega)
          rcases Int.lt_or_eq_of_le (show a ≤ u by omega) with g | g
          · have := pn k.2 (show a - u < 0 by omega); have := q0 (Int.le_of_lt k.1) (show b - u ≤ 0 by omega)
            have : Q < 0 := Q2.2 (by omega)
            unfold Opp; omega
          · exact absurd (show b = u by omega) (k5 g)
        · have := np k.2 ya; have := pp k.1 (show 0 < b by omega)
          have : P < 0 := P2.2 (by omega)
          rcases Int.lt_or_eq_of_le (show a ≤ u by omega) with g | g
          · have := nng k.2 (show a - u < 0 by omega); have := m0 (Int.le_of_lt k.1) (show b - u ≤ 0 by omega)
            have : 0 < Q := Q1.2 (by omega)
            unfold Opp; omega
          · exact absurd (show b = u by omega) (k5 g)
      have e : (Opp A B ∧ Opp P Q) ↔ Opp A B := ⟨fun k => k.1, fun k => ⟨k, d k⟩⟩
      rw [e]
      clear d e h5 P1 P2 P3 Q1 Q2 Q3 h3 h4
      unfold Opp
      omega
    · -- a between, b above
      have hQ := h4 (by omega)
      have e : (Opp A B ∧ Opp P Q) ↔ ((A < 0 ∧ Q < 0) ∨ (0 < A ∧ 0 < Q)) := by
        rcases Int.lt_or_gt_of_ne hA with k | k
        · have t1 := np k (show 0 < b by omega)
          have t2 := np k (show 0 < b - u by omega)
          constructor
          · rintro ⟨o1 | o1, o2⟩
            · have := pp o1.2 ya
              have : 0 < P := P1.2 (by omega)
              unfold Opp at o2; omega
            · omega
          · intro o
            have hq : Q < 0 := by omega
            have hB : 0 < B := by
              rcases Int.lt_or_le 0 B with g | g
              · exact g
              · have := q0 g (show a - u ≤ 0 by omega)
                have := Q2.1 hq; omega
            have := pp hB ya
            have : 0 < P := P1.2 (by omega)
            unfold Opp; omega
        · have t1 := pp k (show 0 < b by omega)
          have t2 := pp k (show 0 < b - u by omega)
          constructor
          · rintro ⟨o1 | o1, o2⟩
            · omega
            · have := np o1.2 ya
              have : P < 0 := P2.2 (by omega)
              unfold Opp at o2; omega
          · intro o
            have hq : 0 < Q := by omega
            have hB : B < 0 := by
              rcases Int.lt_or_le B 0 with g | g
              · exact g
              · have := m0 g (show a - u ≤ 0 by omega)
                have := Q1.1 hq; omega
            have := np hB ya
            have : P < 0 := P2.2 (by omega)
            unfold Opp; omega
      rw [e]
      clear e h5 P1 P2 P3 Q1 Q2 Q3 h3 h4
      omega
  · by_cases yb : b ≤ u
    · -- a below, b between
      have hB := h2 (by omega) yb
      have hP := h3 (by omega)
      have e : (Opp A B ∧ Opp P Q) ↔ ((B < 0 ∧ P < 0) ∨ (0 < B ∧ 0 < P)) := by
        rcases Int.lt_or_gt_of_ne hB with k | k
        · have t1 := q0 (Int.le_of_lt k) (show a ≤ 0 by omega)
          have t2 := nng k (show a - u < 0 by omega)
          constructor
          · rintro ⟨o1 | o1, o2⟩
            · omega
            · have := m0 (Int.le_of_lt o1.1) (show b - u ≤ 0 by omega)
              have : 0 < Q := Q1.2 (by omega)
              unfold Opp at o2; omega
          · intro o
            have hp : P < 0 := by omega
            have hA : 0 < A := by
              rcases Int.lt_or_le 0 A with g | g
              · exact g
              · have := n0 g (show 0 ≤ b by omega)
                have := P2.1 hp; omega
            have := m0 (Int.le_of_lt hA) (show b - u ≤ 0 by omega)
            have : 0 < Q := Q1.2 (by omega)
            unfold Opp; omega
        · have t1 := m0 (Int.le_of_lt k) (show a ≤ 0 by omega)
          have t2 := pn k (show a - u < 0 by omega)
          constructor
          · rintro ⟨o1 | o1, o2⟩
            · have := q0 (Int.le_of_lt o1.1) (show b - u ≤ 0 by omega)
              have : Q < 0 := Q2.2 (by omega)
              unfold Opp at o2; omega
            · omega
          · intro o
            have hp : 0 < P := by omega
            have hA : A < 0 := by
              rcases Int.lt_or_le A 0 with g | g
              · exact g
              · have := p0 g (show 0 ≤ b by omega)
                have := P1.1 hp; omega
            have := q0 (Int.le_of_lt hA) (show b - u ≤ 0 by omega)
            have : Q < 0 := Q2.2 (by omega)
            unfold Opp; omega
      rw [e]
      clear e h5 P1 P2 P3 Q1 Q2 Q3 h3 h4
      omega
    · -- a below, b above
      have hP := h3 (by omega)
      have hQ := h4 (by omega)
      have d : Opp P Q → Opp A B := by
        rintro (k | k)
        · have f1 := P2.1 k.1
          have f2 := Q1.1 k.2
          have hA : 0 < A := by
            rcases Int.lt_or_le 0 A with g | g
            · exact g
            · have := n0 g (show 0 ≤ b by omega)
              have hB : 0 < B := by
                rcases Int.lt_or_le 0 B with g2 | g2
                · exact g2
                · have := q0 g2 (show a ≤ 0 by omega); omega
              have := m0 (Int.le_of_lt hB) (show a - u ≤ 0 by omega)
              have : B * a - B * (a - u) = B * u := by rw [← Int.mul_sub]; congr 1; omega
              have : A * b - A * (b - u) = A * u := by rw [← Int.mul_sub]; congr 1; omega
              have := pp hB hu
              have := n0 g (Int.le_of_lt hu)
              omega
          have := pp hA (show 0 < b by omega)
          have := pp hA (show 0 < b - u by omega)
          have hB : B < 0 := by
            rcases Int.lt_or_le B 0 with g2 | g2
            · exact g2
            · have := m0 g2 (show a - u ≤ 0 by omega); omega
          exact .inr ⟨hA, hB⟩
        · have f1 := P1.1 k.1
          have f2 := Q2.1 k.2
          have hA : A < 0 := by
            rcases Int.lt_or_le A 0 with g | g
            · exact g
            · have := p0 g (show 0 ≤ b by omega)
              have hB : B < 0 := by
                rcases Int.lt_or_le B 0 with g2 | g2
                · exact g2
                · have := m0 g2 (show a ≤ 0 by omega); omega
              have := q0 (Int.le_of_lt hB) (show a - u ≤ 0 by omega)
              have : B * a - B * (a - u) = B * u := by rw [← Int.mul_sub]; congr 1; omega
              have : A * b - A * (b - u) = A * u := by rw [← Int.mul_sub]; congr 1; omega
              have := np hB hu
              have := p0 g (Int.le_of_lt hu)
              omega
          have := np hA (show 0 < b by omega)
          have := np hA (show 0 < b - u by omega)
          have hB : 0 < B := by
            rcases Int.lt_or_le 0 B with g2 | g2
            · exact g2
            · have := q0 g2 (show a - u ≤ 0 by omega); omega
          exact .inl ⟨hA, hB⟩
      have e : (Opp A B ∧ Opp P Q) ↔ Opp P Q := ⟨fun k => k.2, fun k => ⟨d k, k⟩⟩
      rw [e]
      clear d e h5 P1 P2 P3 Q1 Q2 Q3 h3 h4 h1 h2
      unfold Opp
      omega
theorem core_x {u A B a b P Q : Int} (hu : 0 < u) (e1 : u * P = B * a - A * b) (e2 : u * Q = B * (a - u) - A * (b - u))
    (h1 : 0 < a → a ≤ u → A ≠ 0) (h2 : 0 < b → b ≤ u → B ≠ 0) (h3 : (a ≤ 0 ∧ 0 < b) ∨ (b ≤ 0 ∧ 0 < a) → P ≠ 0) (h4 : (a ≤ u ∧ u < b) ∨ (b ≤ u ∧ u < a) → Q ≠ 0)
    (h5 : a = u → b = u → ¬ Opp A B) :
    (((a ≤ 0 ∧ 0 < b ∧ 0 < P) ∨ (b ≤ 0 ∧ 0 < a ∧ P < 0)) ↔ ((a ≤ u ∧ u < b ∧ 0 < Q) ∨ (b ≤ u ∧ u < a ∧ Q < 0))) ↔
      ¬ ((Opp A B ∧ Opp P Q) ↔ ((0 < a ∧ a ≤ u ∧ A < 0) ↔ (0 < b ∧ b ≤ u ∧ B < 0))) := by
  rcases Int.le_total a b with h | h
  · exact core_le hu h e1 e2 h1 h2 h3 h4 h5
  · have := core_le (P := -P) (Q := -Q) (A := B) (B := A) hu h (by rw [Int.mul_neg, e1]; omega) (by rw [Int.mul_neg, e2]; omega) h2 h1
      (fun k => by have := h3 (by omega); omega) (fun k => by have := h4 (by omega); omega) (fun k1 k2 o => h5 k2 k1 (opp_symm.1 o))
    rw [opp_symm (A := B), opp_neg] at this
    have t1 : ((a ≤ 0 ∧ 0 < b ∧ 0 < P) ∨ (b ≤ 0 ∧ 0 < a ∧ P < 0)) ↔ ((b ≤ 0 ∧ 0 < a ∧ 0 < -P) ∨ (a ≤ 0 ∧ 0 < b ∧ -P < 0)) := by omega
    have t2 : ((a ≤ u ∧ u < b ∧ 0 < Q) ∨ (b ≤ u ∧ u < a ∧ Q < 0)) ↔ ((b ≤ u ∧ u < a ∧ 0 < -Q) ∨ (a ≤ u ∧ u < b ∧ -Q < 0)) := by omega
    rw [t1, t2, this, iff_comm (a := (0 < b ∧ b ≤ u ∧ B < 0))]
end Vd
end Go.Proofs.YtcclepohmhdpbaaGreatDoor

/- GEOMETRY, PLAINLY: an edge, and two points: rays against crossings. -/
namespace Go.Proofs.YtcclepohmhdpbaaGreatDoor
set_option linter.all false
namespace Vd
/-- The segment from p to q is crossed by the one from a to b, within both. -/
def Xs (p q a b : Pnt) : Prop := Opp (cr p q a 1) (cr p q b 1) ∧ Opp (cr a b p 1) (cr a b q 1)
instance (p q a b : Pnt) : Decidable (Xs p q a b) := by unfold Xs; infer_instance
def dR (p q v : Pnt) : Bool := decide (p.2 < v.2 ∧ v.2 ≤ q.2 ∧ cr p q v 1 < 0)
theorem ray_one (a b p : Pnt) : ray a b p 1 = decide ((a.2 - p.2 ≤ 0 ∧ 0 < b.2 - p.2 ∧ 0 < cr a b p 1) ∨ (b.2 - p.2 ≤ 0 ∧ 0 < a.2 - p.2 ∧ cr a b p 1 < 0)) := by
  unfold ray
  simp only [Int.mul_one, sg_pos, sg_neg]
  by_cases h1 : a.2 > p.2 <;> by_cases h2 : b.2 > p.2
  · rw [if_pos (by simp [h1, h2])]; symm; exact decide_eq_false (by omega)
  · rw [if_neg (by simp [h1, h2]), if_neg h2]; exact decide_eq_decide.2 (by omega)
  · rw [if_neg (by simp [h1, h2]), if_pos h2]; exact decide_eq_decide.2 (by omega)
  · rw [if_pos (by simp [h1, h2])]; symm; exact decide_eq_false (by omega)
/-- On a line, what lies between by height lies between by width. -/
theorem line_btw {u U x al : Int} (hu : 0 < u) (h0 : 0 ≤ al) (h1 : al ≤ u) (e : U * al = u * x) : btw 0 x U := by
  rcases Int.le_total 0 U with g | g
  · left
    have k1 := p0 g h0
    have k2 : U * al ≤ U * u := Int.mul_le_mul_of_nonneg_left h1 g
    rw [e] at k1 k2
    refine ⟨Int.nonneg_of_mul_nonneg_right k1 hu, ?_⟩
    rw [Int.mul_comm U u] at k2
    exact Int.le_of_mul_le_mul_left k2 hu
  · right
    have k1 := n0 g h0
    have k2 : U * u ≤ U * al := Int.mul_le_mul_of_nonpos_left g h1
    rw [e] at k1 k2
    rw [Int.mul_comm U u] at k2
    refine ⟨Int.le_of_mul_le_mul_left k2 hu, ?_⟩
    rcases Int.lt_or_le 0 x with g2 | g2
    · have := pp hu g2; omega
    · exact g2
/-- On the line from a to b, between their heights: on the segment. -/
theorem has_line_y {a b p : Pnt} (h0 : cr a b p 1 = 0) (h : (a.2 ≤ p.2 ∧ p.2 ≤ b.2 ∧ a.2 < b.2) ∨ (b.2 ≤ p.2 ∧ p.2 ≤ a.2 ∧ b.2 < a.2)) : has a b p 1 := by
  refine ⟨h0, ?_, by unfold btw; omega⟩
  unfold cr at h0
  rcases h with ⟨h1, h2, h3⟩ | ⟨h1, h2, h3⟩
  · have := line_btw (u := b.2 - a.2) (U := b.1 - a.1) (x := p.1 - a.1) (al := p.2 - a.2) (by omega) (by omega) (by omega) (by simp only [Int.mul_one] at h0; omega)
    unfold btw at *; omega
  · have := line_btw (u := a.2 - b.2) (U := b.1 - a.1) (x := p.1 - a.1) (al := a.2 - p.2) (by omega) (by omega) (by omega) (by
      simp only [Int.mul_one] at h0
      have e1 : (b.1 - a.1) * (a.2 - p.2) = - ((b.1 - a.1) * (p.2 - a.2)) := by grind
      have e2 : (a.2 - b.2) * (p.1 - a.1) = - ((b.2 - a.2) * (p.1 - a.1)) := by grind
      omega)
    unfold btw at *; omega
theorem cr_flat {p q a : Pnt} (h : a.2 = q.2) : cr p q a 1 = (q.2 - p.2) * (q.1 - a.1) := by unfold cr; rw [h]; grind
theorem bxor_of {r1 r2 x d1 d2 : Prop} [Decidable r1] [Decidable r2] [Decidable x] [Decidable d1] [Decidable d2] (h : (r1 ↔ r2) ↔ ¬ (x ↔ (d1 ↔ d2))) : (decide r1 ^^ decide r2) = (decide x ^^ (decide d1 ^^ decide d2)) := by
  by_cases c1 : r1 <;> by_cases c2 : r2 <;> by_cases c3 : x <;> by_cases c4 : d1 <;> by_cases c5 : d2 <;> simp_all
theorem edge_up {p q a b : Pnt} (hpq : p.2 < q.2) (ha : ¬ has p q a 1) (hb : ¬ has p q b 1) (hp : ¬ has a b p 1) (hq : ¬ has a b q 1) :
    (ray a b p 1 ^^ ray a b q 1) = (decide (Xs p q a b) ^^ (dR p q a ^^ dR p q b)) := by
  have key := core_x (u := q.2 - p.2) (A := cr p q a 1) (B := cr p q b 1) (a := a.2 - p.2) (b := b.2 - p.2) (P := cr a b p 1) (Q := cr a b q 1) (by omega)
    (by unfold cr; grind) (by unfold cr; grind)
    (fun h1 h2 e => ha (has_line_y e (by omega))) (fun h1 h2 e => hb (has_line_y e (by omega)))
    (fun h e => hp (has_line_y e (by omega))) (fun h e => hq (has_line_y e (by omega)))
    (fun h1 h2 o => hq (by
      have e1 := cr_flat (p := p) (q := q) (a := a) (by omega)
      have e2 := cr_flat (p := p) (q := q) (a := b) (by omega)
      rw [e1, e2] at o
      have s1 := sgn_of (u := q.2 - p.2) (P := q.1 - a.1) (by omega) rfl
      have s2 := sgn_of (u := q.2 - p.2) (P := q.1 - b.1) (by omega) rfl
      refine ⟨?_, ?_, by unfold btw; omega⟩
      · unfold cr; rw [show b.2 - a.2 = 0 by omega, show q.2 - a.2 * 1 = 0 by omega]; simp
      · unfold Opp at o; unfold btw; omega))
  rw [ray_one, ray_one]
  have t : ((a.2 - q.2 ≤ 0 ∧ 0 < b.2 - q.2 ∧ 0 < cr a b q 1) ∨ (b.2 - q.2 ≤ 0 ∧ 0 < a.2 - q.2 ∧ cr a b q 1 < 0)) ↔ ((a.2 - p.2 ≤ q.2 - p.2 ∧ q.2 - p.2 < b.2 - p.2 ∧ 0 < cr a b q 1) ∨ (b.2 - p.2 ≤ q.2 - p.2 ∧ q.2 - p.2 < a.2 - p.2 ∧ cr a b q 1 < 0)) := by omega
  have t1 : (p.2 < a.2 ∧ a.2 ≤ q.2 ∧ cr p q a 1 < 0) ↔ (0 < a.2 - p.2 ∧ a.2 - p.2 ≤ q.2 - p.2 ∧ cr p q a 1 < 0) := by omega
  have t2 : (p.2 < b.2 ∧ b.2 ≤ q.2 ∧ cr p q b 1 < 0) ↔ (0 < b.2 - p.2 ∧ b.2 - p.2 ≤ q.2 - p.2 ∧ cr p q b 1 < 0) := by omega
  unfold dR
  rw [decide_eq_decide.2 t, decide_eq_decide.2 t1, decide_eq_decide.2 t2]
  exact bxor_of key
theorem edge_flat {p q a b : Pnt} (hpq : p.2 = q.2) (ha : ¬ has p q a 1) (hb : ¬ has p q b 1) (hp : ¬ has a b p 1) (hq : ¬ has a b q 1) :
    (ray a b p 1 ^^ ray a b q 1) = decide (Xs p q a b) := by
  have eA : cr p q a 1 = (q.1 - p.1) * (a.2 - p.2) := by unfold cr; rw [hpq]; grind
  have eB : cr p q b 1 = (q.1 - p.1) * (b.2 - p.2) := by unfold cr; rw [hpq]; grind
  rw [ray_one, ray_one]
  unfold Xs
  have hP : (a.2 - p.2 ≤ 0 ∧ 0 < b.2 - p.2) ∨ (b.2 - p.2 ≤ 0 ∧ 0 < a.2 - p.2) → cr a b p 1 ≠ 0 := fun h e => hp (has_line_y e (by omega))
  have hQ : (a.2 - p.2 ≤ 0 ∧ 0 < b.2 - p.2) ∨ (b.2 - p.2 ≤ 0 ∧ 0 < a.2 - p.2) → cr a b q 1 ≠ 0 := fun h e => hq (has_line_y e (by omega))
  have key : Opp (cr a b p 1) (cr a b q 1) → ((a.2 - p.2 ≤ 0 ∧ 0 < b.2 - p.2) ∨ (b.2 - p.2 ≤ 0 ∧ 0 < a.2 - p.2)) → Opp (cr p q a 1) (cr p q b 1) := by
    intro o h
    have hne : q.1 - p.1 ≠ 0 := by
      intro e
      have : p = q := Prod.ext (by omega) hpq
      rw [this] at o; unfold Opp at o; omega
    -- neither end is at the height of p
    have ia : a.2 ≠ p.2 := by
      intro e
      have f1 : cr a b p 1 = - ((b.2 - a.2) * (p.1 - a.1)) := by unfold cr; rw [e]; grind
      have f2 : cr a b q 1 = - ((b.2 - a.2) * (q.1 - a.1)) := by unfold cr; rw [e, hpq]; grind
      have s1 := sgn_of (u := b.2 - a.2) (P := p.1 - a.1) (by omega) rfl
      have s2 := sgn_of (u := b.2 - a.2) (P := q.1 - a.1) (by omega) rfl
      rw [f1, f2] at o
      refine ha ⟨by rw [eA, e]; simp, ?_, by unfold btw; omega⟩
      unfold Opp at o; unfold btw; omega
    have ib : b.2 ≠ p.2 := by
      intro e
      have f1 : cr a b p 1 = - ((a.2 - b.2) * (b.1 - p.1)) := by unfold cr; rw [e]; grind
      have f2 : cr a b q 1 = - ((a.2 - b.2) * (b.1 - q.1)) := by unfold cr; rw [e, hpq]; grind
      have s1 := sgn_of (u := a.2 - b.2) (P := b.1 - p.1) (by omega) rfl
      have s2 := sgn_of (u := a.2 - b.2) (P := b.1 - q.1) (by omega) rfl
      rw [f1, f2] at o
      refine hb ⟨by rw [eB, e]; simp, ?_, by unfold btw; omega⟩
      unfold Opp at o; unfold btw; omega
    rw [eA, eB]
    have m1 := Int.lt_or_gt_of_ne hne
    rcases m1 with m | m <;> rcases h with h | h
    · exact .inr ⟨nng m (by omega), np m (by omega)⟩
    · exact .inl ⟨np m (by omega), nng m (by omega)⟩
    · exact .inl ⟨pn m (by omega), pp m (by omega)⟩
    · exact .inr ⟨pp m (by omega), pn m (by omega)⟩
  have back : Opp (cr p q a 1) (cr p q b 1) → ((a.2 - p.2 ≤ 0 ∧ 0 < b.2 - p.2) ∨ (b.2 - p.2 ≤ 0 ∧ 0 < a.2 - p.2)) := by
    intro o
    rw [eA, eB] at o
    rcases Int.lt_trichotomy (q.1 - p.1) 0 with m | m | m
    · have s1 := sgn_of (u := -(q.1 - p.1)) (P := a.2 - p.2) (by omega) rfl
      have s2 := sgn_of (u := -(q.1 - p.1)) (P := b.2 - p.2) (by omega) rfl
      rw [Int.neg_mul] at s1 s2
      unfold Opp at o; omega
    · rw [m] at o; unfold Opp at o; simp at o
    · have s1 := sgn_of (u := q.1 - p.1) (P := a.2 - p.2) (by omega) rfl
      have s2 := sgn_of (u := q.1 - p.1) (P := b.2 - p.2) (by omega) rfl
      unfold Opp at o; omega
  have k := bxor_of (r1 := (a.2 - p.2 ≤ 0 ∧ 0 < b.2 - p.2 ∧ 0 < cr a b p 1) ∨ (b.2 - p.2 ≤ 0 ∧ 0 < a.2 - p.2 ∧ cr a b p 1 < 0)) (r2 := (a.2 - q.2 ≤ 0 ∧ 0 < b.2 - q.2 ∧ 0 < cr a b q 1) ∨ (b.2 - q.2 ≤ 0 ∧ 0 < a.2 - q.2 ∧ cr a b q 1 < 0))
    (x := Opp (cr p q a 1) (cr p q b 1) ∧ Opp (cr a b p 1) (cr a b q 1)) (d1 := False) (d2 := False) (by
      by_cases h : (a.2 - p.2 ≤ 0 ∧ 0 < b.2 - p.2) ∨ (b.2 - p.2 ≤ 0 ∧ 0 < a.2 - p.2)
      · have g1 := hP h
        have g2 := hQ h
        have g3 := fun o => key o h
        have e : (Opp (cr p q a 1) (cr p q b 1) ∧ Opp (cr a b p 1) (cr a b q 1)) ↔ Opp (cr a b p 1) (cr a b q 1) := ⟨fun x => x.2, fun x => ⟨g3 x, x⟩⟩
        rw [e]
        clear e g3 key back hP hQ eA eB
        simp only [iff_self, iff_true]
        unfold Opp
        omega
      · have e : ¬ (Opp (cr p q a 1) (cr p q b 1) ∧ Opp (cr a b p 1) (cr a b q 1)) := fun x => h (back x.1)
        have r1 : ¬ ((a.2 - p.2 ≤ 0 ∧ 0 < b.2 - p.2 ∧ 0 < cr a b p 1) ∨ (b.2 - p.2 ≤ 0 ∧ 0 < a.2 - p.2 ∧ cr a b p 1 < 0)) := by omega
        have r2 : ¬ ((a.2 - q.2 ≤ 0 ∧ 0 < b.2 - q.2 ∧ 0 < cr a b q 1) ∨ (b.2 - q.2 ≤ 0 ∧ 0 < a.2 - q.2 ∧ cr a b q 1 < 0)) := by omega
        simp only [e, r1, r2]
        simp)
  rw [k]
  rw [show (decide False ^^ decide False) = false from rfl, Bool.xor_false]
theorem xs_swap {p q a b : Pnt} : Xs q p a b ↔ Xs p q a b := by
  unfold Xs
  rw [cr_swap p q a 1, cr_swap p q b 1, opp_neg, opp_symm (A := cr a b q 1)]
/-- From a ring's fold: the bits that run round. -/
def dRs (p q v : Pnt) : Bool := if p.2 < q.2 then dR p q v else if q.2 < p.2 then dR q p v else false
theorem edge_any {p q a b : Pnt} (ha : ¬ has p q a 1) (hb : ¬ has p q b 1) (hp : ¬ has a b p 1) (hq : ¬ has a b q 1) :
    (ray a b p 1 ^^ ray a b q 1) = (decide (Xs p q a b) ^^ (dRs p q a ^^ dRs p q b)) := by
  unfold dRs
  rcases Int.lt_trichotomy p.2 q.2 with h | h | h
  · rw [if_pos h, if_pos h]; exact edge_up h ha hb hp hq
  · rw [if_neg (by omega), if_neg (by omega), if_neg (by omega), if_neg (by omega), edge_flat h ha hb hp hq]; simp
  · rw [if_neg (by omega), if_pos h, if_neg (by omega), if_pos h]
    rw [Bool.xor_comm, edge_up h (fun k => ha (has_swap.1 k)) (fun k => hb (has_swap.1 k)) hq hp, decide_eq_decide.2 xs_swap]
end Vd
end Go.Proofs.YtcclepohmhdpbaaGreatDoor

/- GEOMETRY, PLAINLY: a ring, and two points. -/
namespace Go.Proofs.YtcclepohmhdpbaaGreatDoor
set_option linter.all false
namespace Vd
def raysS (l : List Seg) (p : Spot) : Bool := l.foldr (fun s b => ray s.1 s.2 p.1 p.2 ^^ b) false
def xsL (l : List Seg) (p q : Pnt) : Bool := l.foldr (fun s b => decide (Xs p q s.1 s.2) ^^ b) false
theorem raysS_cons (s : Seg) (l : List Seg) (p : Spot) : raysS (s :: l) p = (ray s.1 s.2 p.1 p.2 ^^ raysS l p) := rfl
theorem xsL_cons (s : Seg) (l : List Seg) (p q : Pnt) : xsL (s :: l) p q = (decide (Xs p q s.1 s.2) ^^ xsL l p q) := rfl
theorem raysS_append (a b : List Seg) (p : Spot) : raysS (a ++ b) p = (raysS a p ^^ raysS b p) := by
  induction a with
  | nil => simp [raysS]
  | cons s a ih => rw [List.cons_append, raysS_cons, raysS_cons, ih, Bool.xor_assoc]
theorem xsL_append (a b : List Seg) (p q : Pnt) : xsL (a ++ b) p q = (xsL a p q ^^ xsL b p q) := by
  induction a with
  | nil => simp [xsL]
  | cons s a ih => rw [List.cons_append, xsL_cons, xsL_cons, ih, Bool.xor_assoc]
theorem segs_cons2 (a b : Pnt) (t : Ring) : segs (a :: b :: t) = (a, b) :: segs (b :: t) := rfl
theorem segs_one (a : Pnt) : segs [a] = [] := rfl
/-- No end of the one lies on the other. -/
structure Off (p q a b : Pnt) : Prop where
  ha : ¬ has p q a 1
  hb : ¬ has p q b 1
  hp : ¬ has a b p 1
  hq : ¬ has a b q 1
theorem rays_chain (p q : Pnt) : ∀ (t : Ring) (a : Pnt), (∀ s ∈ segs (a :: t), Off p q s.1 s.2) →
    (raysS (segs (a :: t)) (p, 1) ^^ raysS (segs (a :: t)) (q, 1)) = (xsL (segs (a :: t)) p q ^^ (dRs p q a ^^ dRs p q ((a :: t).getLast (by simp)))) := by
  intro t
  induction t with
  | nil => intro a _; simp [segs_one, raysS, xsL]
  | cons b t ih =>
    intro a h
    rw [segs_cons2] at h
    have h1 := h (a, b) (by simp)
    have k := ih b fun s hs => h s (by simp [hs])
    have e := edge_any h1.ha h1.hb h1.hp h1.hq
    rw [segs_cons2, raysS_cons, raysS_cons, xsL_cons, List.getLast_cons (by simp)]
    simp only at e ⊢
    revert e k
    generalize ray a b p 1 = x1
    generalize ray a b q 1 = x2
    generalize raysS (segs (b :: t)) (p, 1) = x3
    generalize raysS (segs (b :: t)) (q, 1) = x4
    generalize xsL (segs (b :: t)) p q = x5
    generalize decide (Xs p q a b) = x6
    generalize dRs p q a = x7
    generalize dRs p q b = x8
    generalize dRs p q ((b :: t).getLast (by simp)) = x9
    revert x1 x2 x3 x4 x5 x6 x7 x8 x9
    decide
/-- A ring that is shut. -/
def Ends (r : Ring) : Prop := r.head? = r.getLast?
theorem shut_ends {r : Ring} (h : Shut r) : Ends r := by
  have h4 := h.len
  unfold Ends
  rw [List.head?_eq_getElem?, List.getLast?_eq_getElem?, ptAt_get (by omega), ptAt_get (by omega), h.eq]
theorem rays_ring {r : Ring} (hr : Ends r) {p q : Pnt} (h : ∀ s ∈ segs r, Off p q s.1 s.2) : (raysS (segs r) (p, 1) ^^ raysS (segs r) (q, 1)) = xsL (segs r) p q := by
  cases r with
  | nil => rfl
  | cons a t =>
    have k := rays_chain p q t a h
    have e : a = (a :: t).getLast (by simp) := by
      unfold Ends at hr
      rw [List.getLast?_eq_some_getLast (by simp)] at hr
      simpa using hr
    rw [k, ← e]; simp
theorem placeL_rays : ∀ (l : List Seg) (i : Bool) (p : Spot), (∀ s ∈ l, ¬ has s.1 s.2 p.1 p.2) → placeL l i p = if (i ^^ raysS l p) = true then 2 else 0 := by
  intro l
  induction l with
  | nil => intro i p _; simp [placeL, raysS]
  | cons s l ih =>
    intro i p h
    have h1 := h s (by simp)
    unfold placeL
    rw [if_neg (by unfold hasB; simpa using h1), ih _ p fun t ht => h t (by simp [ht]), raysS_cons]
    cases ray s.1 s.2 p.1 p.2 <;> cases i <;> simp
theorem place_rays {r : Ring} {p : Spot} (h : ∀ s ∈ segs r, ¬ has s.1 s.2 p.1 p.2) : place r p = if raysS (segs r) p = true then 2 else 0 := by
  unfold place; rw [placeL_rays _ _ _ h]; simp
theorem xsL_none {l : List Seg} {p q : Pnt} (h : ∀ s ∈ l, ¬ Xs p q s.1 s.2) : xsL l p q = false := by
  induction l with
  | nil => rfl
  | cons s l ih => rw [xsL_cons, ih fun t ht => h t (by simp [ht]), decide_eq_false (h s (by simp))]; rfl
/-- No segment of the ring meets the way from p to q: both lie at one place. -/
theorem place_same {r : Ring} (hr : Ends r) {p q : Pnt} (h : ∀ s ∈ segs r, Off p q s.1 s.2) (hx : ∀ s ∈ segs r, ¬ Xs p q s.1 s.2) : place r (p, 1) = place r (q, 1) := by
  have k := rays_ring hr h
  rw [xsL_none hx] at k
  rw [place_rays (p := (p, 1)) fun s hs => (h s hs).hp, place_rays (p := (q, 1)) fun s hs => (h s hs).hq]
  have : raysS (segs r) (p, 1) = raysS (segs r) (q, 1) := by
    revert k
    generalize raysS (segs r) (p, 1) = x
    generalize raysS (segs r) (q, 1) = y
    cases x <;> cases y <;> simp
  rw [this]
/-- Just one segment of the ring is crossed: the places are opposite. -/
theorem place_flip {r : Ring} (hr : Ends r) {p q : Pnt} (h : ∀ s ∈ segs r, Off p q s.1 s.2) {l1 l2 : List Seg} {t : Seg} (e : segs r = l1 ++ t :: l2) (h1 : ∀ s ∈ l1, ¬ Xs p q s.1 s.2) (h2 : ∀ s ∈ l2, ¬ Xs p q s.1 s.2) (ht : Xs p q t.1 t.2) :
    (place r (p, 1) = 0 ∧ place r (q, 1) = 2) ∨ (place r (p, 1) = 2 ∧ place r (q, 1) = 0) := by
  have k := rays_ring hr h
  have ex : xsL (segs r) p q = true := by rw [e, xsL_append, xsL_cons, xsL_none h1, xsL_none h2, decide_eq_true ht]; rfl
  rw [ex] at k
  rw [place_rays (p := (p, 1)) fun s hs => (h s hs).hp, place_rays (p := (q, 1)) fun s hs => (h s hs).hq]
  revert k
  generalize raysS (segs r) (p, 1) = x
  generalize raysS (segs r) (q, 1) = y
  cases x <;> cases y <;> simp

/-! ### greater and smaller -/
def sc (k : Int) (p : Pnt) : Pnt := (k * p.1, k * p.2)
def scR (k : Int) (r : Ring) : Ring := r.map (sc k)
def scS (k : Int) (s : Seg) : Seg := (sc k s.1, sc k s.2)
theorem cr_sc (k : Int) (a b p : Pnt) (w : Int) : cr (sc k a) (sc k b) p w = k * cr a b p (k * w) := by unfold cr sc; grind
theorem sg_mul {k : Int} (hk : 0 < k) (n : Int) : sg (k * n) = sg n := by
  have s := sgn_of hk (rfl : k * n = k * n)
  rcases sg_cases n with ⟨h, e⟩ | ⟨h, e⟩ | ⟨h, e⟩ <;> rcases sg_cases (k * n) with ⟨h', e'⟩ | ⟨h', e'⟩ | ⟨h', e'⟩ <;> first | omega | (rw [e, e'])
theorem has_sc {k : Int} (hk : 0 < k) (a b p : Pnt) (w : Int) : has (sc k a) (sc k b) p w ↔ has a b p (k * w) := by
  have s := sgn_of hk (rfl : k * cr a b p (k * w) = _)
  have e : ∀ x : Int, k * x * w = x * (k * w) := fun x => by grind
  unfold has
  rw [cr_sc]
  unfold sc
  simp only [e]
  constructor
  · rintro ⟨h1, h2⟩; exact ⟨s.2.2.2 h1, h2⟩
  · rintro ⟨h1, h2⟩; exact ⟨s.2.2.1 h1, h2⟩
theorem ray_sc {k : Int} (hk : 0 < k) (a b p : Pnt) (w : Int) : ray (sc k a) (sc k b) p w = ray a b p (k * w) := by
  have e : ∀ x : Int, k * x * w = x * (k * w) := fun x => by grind
  unfold ray
  rw [cr_sc, sg_mul hk]
  unfold sc
  simp only [e]
theorem segs_sc (k : Int) (r : Ring) : segs (scR k r) = (segs r).map (scS k) := by
  unfold segs scR
  rw [← List.map_tail, List.zip_map]
  rfl
theorem placeL_sc {k : Int} (hk : 0 < k) : ∀ (l : List Seg) (i : Bool) (p : Pnt) (w : Int), placeL (l.map (scS k)) i (p, w) = placeL l i (p, k * w) := by
  intro l
  induction l with
  | nil => intro i p w; rfl
  | cons s l ih =>
    intro i p w
    rw [List.map_cons]
    unfold placeL
    have e1 : hasB (scS k s) (p, w) = hasB s (p, k * w) := decide_eq_decide.2 (has_sc hk s.1 s.2 p w)
    have e2 : ray (scS k s).1 (scS k s).2 p w = ray s.1 s.2 p (k * w) := ray_sc hk s.1 s.2 p w
    rw [e1, ih]
    simp only [e2]
theorem place_sc {k : Int} (hk : 0 < k) (r : Ring) (p : Pnt) (w : Int) : place (scR k r) (p, w) = place r (p, k * w) := by
  unfold place; rw [segs_sc, placeL_sc hk]
theorem ends_sc {k : Int} {r : Ring} (h : Ends r) : Ends (scR k r) := by
  unfold Ends scR at *; rw [List.head?_map, List.getLast?_map, h]
/-- the spot itself. -/
theorem cr_spot (k : Int) (a b p : Pnt) (w : Int) : cr a b (sc k p) (k * w) = k * cr a b p w := by unfold cr sc; grind
theorem btw_mul {k : Int} (hk : 0 < k) {a p b : Int} : btw (k * a) (k * p) (k * b) ↔ btw a p b := by
  have e1 : ∀ {x y : Int}, k * x ≤ k * y ↔ x ≤ y := fun {x y} => ⟨fun h => Int.le_of_mul_le_mul_left h hk, fun h => Int.mul_le_mul_of_nonneg_left h (by omega)⟩
  unfold btw
  simp only [e1]
theorem has_spot {k : Int} (hk : 0 < k) (a b p : Pnt) (w : Int) : has a b (sc k p) (k * w) ↔ has a b p w := by
  have s := sgn_of hk (rfl : k * cr a b p w = _)
  have e : ∀ x : Int, x * (k * w) = k * (x * w) := fun x => by grind
  unfold has
  rw [cr_spot]
  unfold sc
  simp only [e, btw_mul hk]
  constructor
  · rintro ⟨h1, h2⟩; exact ⟨s.2.2.2 h1, h2⟩
  · rintro ⟨h1, h2⟩; exact ⟨s.2.2.1 h1, h2⟩
theorem ray_spot {k : Int} (hk : 0 < k) (a b p : Pnt) (w : Int) : ray a b (sc k p) (k * w) = ray a b p w := by
  have e : ∀ x : Int, x * (k * w) = k * (x * w) := fun x => by grind
  have e1 : ∀ {x y : Int}, k * x > k * y ↔ x > y := fun {x y} => ⟨fun h => Int.lt_of_mul_lt_mul_left h (by omega), fun h => Int.mul_lt_mul_of_pos_left h hk⟩
  unfold ray
  rw [cr_spot, sg_mul hk]
  unfold sc
  simp only [e, e1]
theorem placeL_spot {k : Int} (hk : 0 < k) (p : Pnt) (w : Int) : ∀ (l : List Seg) (i : Bool), placeL l i (sc k p, k * w) = placeL l i (p, w) := by
  intro l
  induction l with
  | nil => intro i; rfl
  | cons s l ih =>
    intro i
    unfold placeL
    have e1 : hasB s (sc k p, k * w) = hasB s (p, w) := decide_eq_decide.2 (has_spot hk s.1 s.2 p w)
    rw [e1, ih]
    simp only [ray_spot hk]
theorem place_spot {k : Int} (hk : 0 < k) (r : Ring) (p : Pnt) (w : Int) : place r (sc k p, k * w) = place r (p, w) := by
  unfold place; rw [placeL_spot hk]
/-- Any spot, as a whole point beside a ring that is greater. -/
theorem place_whole {r : Ring} {p : Spot} (hp : 0 < p.2) {k : Int} (hk : 0 < k) : place r p = place (scR (k * p.2) r) (sc k p.1, 1) := by
  rw [place_sc (pp hk hp), Int.mul_one, place_spot hk]
end Vd
end Go.Proofs.YtcclepohmhdpbaaGreatDoor

/- GEOMETRY, PLAINLY: what lies on a segment lies as a middle of its parts does. -/
namespace Go.Proofs.YtcclepohmhdpbaaGreatDoor
set_option linter.all false
namespace Vd
theorem ex_max {α : Type} (f : α → Int) (P : α → Prop) : ∀ (l : List α), (∃ x ∈ l, P x) → ∃ x ∈ l, P x ∧ ∀ y ∈ l, P y → f y ≤ f x := by
  intro l
  induction l with
  | nil => rintro ⟨x, hx, _⟩; cases hx
  | cons a t ih =>
    rintro ⟨x, hx, hp⟩
    by_cases ht : ∃ y ∈ t, P y
    · obtain ⟨y, hy, py, my⟩ := ih ht
      by_cases ha : P a ∧ f y < f a
      · refine ⟨a, by simp, ha.1, fun z hz pz => ?_⟩
        rcases List.mem_cons.1 hz with rfl | hz
        · exact Int.le_refl _
        · have := my z hz pz; omega
      · refine ⟨y, by simp [hy], py, fun z hz pz => ?_⟩
        rcases List.mem_cons.1 hz with rfl | hz
        · by_cases c : f y < f z
          · exact absurd ⟨pz, c⟩ ha
          · omega
        · exact my z hz pz
    · rcases List.mem_cons.1 hx with rfl | hx
      · refine ⟨x, by simp, hp, fun z hz pz => ?_⟩
        rcases List.mem_cons.1 hz with rfl | hz
        · exact Int.le_refl _
        · exact absurd ⟨z, hz, pz⟩ ht
      · exact absurd ⟨x, hx, hp⟩ ht
theorem ex_min {α : Type} (f : α → Int) (P : α → Prop) (l : List α) (h : ∃ x ∈ l, P x) : ∃ x ∈ l, P x ∧ ∀ y ∈ l, P y → f x ≤ f y := by
  obtain ⟨x, hx, hp, m⟩ := ex_max (fun x => - f x) P l h
  exact ⟨x, hx, hp, fun y hy py => by have := m y hy py; omega⟩
/-- the cuts, as a list. -/
theorem cut_list {a b : Pnt} {l : List Pnt} {x : Pnt} : Cut a b l x ↔ x ∈ a :: b :: l ∧ (x = a ∨ x = b ∨ (x ∈ l ∧ has a b x 1)) := by
  unfold Cut
  constructor
  · intro h
    refine ⟨?_, h⟩
    rcases h with rfl | rfl | h
    · simp
    · simp
    · simp [h.1]
  · exact fun h => h.2
/-- On a line: the place along it. -/
theorem on_line {a b p : Pnt} (h0 : cr a b p 1 = 0) : kk a b * p.1 = kk a b * a.1 + pos a b p * (b.1 - a.1) ∧ kk a b * p.2 = kk a b * a.2 + pos a b p * (b.2 - a.2) := by
  unfold cr at h0; unfold pos dt kk; constructor <;> grind
theorem lin_cr {k D a1 a2 b1 b2 p1 p2 c1 c2 d1 d2 : Int} (e1 : k * p1 = k * a1 + D * (b1 - a1)) (e2 : k * p2 = k * a2 + D * (b2 - a2)) :
    k * ((d1 - c1) * (p2 - c2) - (d2 - c2) * (p1 - c1)) = (k - D) * ((d1 - c1) * (a2 - c2) - (d2 - c2) * (a1 - c1)) + D * ((d1 - c1) * (b2 - c2) - (d2 - c2) * (b1 - c1)) := by grind
theorem cr_on {a b p : Pnt} (h0 : cr a b p 1 = 0) (c d : Pnt) : kk a b * cr c d p 1 = (kk a b - pos a b p) * cr c d a 1 + pos a b p * cr c d b 1 := by
  obtain ⟨e1, e2⟩ := on_line h0
  have := lin_cr (c1 := c.1) (c2 := c.2) (d1 := d.1) (d2 := d.2) e1 e2
  unfold cr
  simpa only [Int.mul_one] using this
theorem lin_dir {k D E a1 a2 b1 b2 p1 p2 q1 q2 : Int} (e1 : k * p1 = k * a1 + D * (b1 - a1)) (e2 : k * p2 = k * a2 + D * (b2 - a2)) (f1 : k * q1 = k * a1 + E * (b1 - a1)) (f2 : k * q2 = k * a2 + E * (b2 - a2)) :
    k * (q1 - p1) = (E - D) * (b1 - a1) ∧ k * (q2 - p2) = (E - D) * (b2 - a2) := by constructor <;> grind
theorem dir_lin {a b p q : Pnt} (hp : cr a b p 1 = 0) (hq : cr a b q 1 = 0) : kk a b * (q.1 - p.1) = (pos a b q - pos a b p) * (b.1 - a.1) ∧ kk a b * (q.2 - p.2) = (pos a b q - pos a b p) * (b.2 - a.2) := by
  obtain ⟨e1, e2⟩ := on_line hp
  obtain ⟨f1, f2⟩ := on_line hq
  exact lin_dir e1 e2 f1 f2
theorem lin_cr2 {k L u1 u2 v1 v2 x1 x2 : Int} (e1 : k * v1 = L * u1) (e2 : k * v2 = L * u2) : k * (v1 * x2 - v2 * x1) = L * (u1 * x2 - u2 * x1) ∧ k * (x1 * v1 + x2 * v2) = L * (x1 * u1 + x2 * u2) := by constructor <;> grind
theorem cr_from {a b p : Pnt} (hp : cr a b p 1 = 0) (c : Pnt) : (b.1 - a.1) * (c.2 - p.2) - (b.2 - a.2) * (c.1 - p.1) = cr a b c 1 := by unfold cr at *; grind
theorem cr_dir {a b p q : Pnt} (hp : cr a b p 1 = 0) (hq : cr a b q 1 = 0) (c : Pnt) : kk a b * cr p q c 1 = (pos a b q - pos a b p) * cr a b c 1 := by
  obtain ⟨e1, e2⟩ := dir_lin hp hq
  have := (lin_cr2 (x1 := c.1 - p.1) (x2 := c.2 - p.2) e1 e2).1
  rw [cr_from hp] at this
  rw [← this]
  unfold cr; simp only [Int.mul_one]
theorem pos_from (a b p c : Pnt) : (c.1 - p.1) * (b.1 - a.1) + (c.2 - p.2) * (b.2 - a.2) = pos a b c - pos a b p := by unfold pos dt; grind
theorem dt_dir {a b p q : Pnt} (hp : cr a b p 1 = 0) (hq : cr a b q 1 = 0) (c : Pnt) : kk a b * dt p q c 1 = (pos a b q - pos a b p) * (pos a b c - pos a b p) := by
  obtain ⟨e1, e2⟩ := dir_lin hp hq
  have := (lin_cr2 (x1 := c.1 - p.1) (x2 := c.2 - p.2) e1 e2).2
  rw [pos_from a b p c] at this
  rw [← this]
  unfold dt; simp only [Int.mul_one]
theorem kk_dt (p q : Pnt) : kk p q = dt p q q 1 := by unfold kk dt; simp
theorem has_dir {a b p q c : Pnt} (hab : a ≠ b) (hpq : p ≠ q) (hp : cr a b p 1 = 0) (hq : cr a b q 1 = 0) (h : has p q c 1) : cr a b c 1 = 0 ∧ btw (pos a b p) (pos a b c) (pos a b q) := by
  have hk := kk_pos hab
  obtain ⟨h0, h1, h2⟩ := (has_on hpq (by omega)).1 h
  have hne : pos a b q - pos a b p ≠ 0 := fun e => hpq (pos_inj hab hp hq (by omega))
  have e := cr_dir hp hq c
  rw [h0, Int.mul_zero] at e
  have e1 := dt_dir hp hq c
  have e2 := dt_dir hp hq q
  rw [Int.mul_one, kk_dt] at h2
  have m1 := p0 (Int.le_of_lt hk) h1
  have m2 := Int.mul_le_mul_of_nonneg_left h2 (Int.le_of_lt hk)
  rw [e1] at m1
  rw [e1, e2] at m2
  refine ⟨?_, ?_⟩
  · rcases Int.mul_eq_zero.1 e.symm with g | g
    · exact absurd g hne
    · exact g
  · unfold btw
    rcases Int.lt_or_gt_of_ne hne with g | g
    · right
      constructor
      · rcases Int.lt_or_le (pos a b c) (pos a b q) with q' | q'
        · have := Int.mul_lt_mul_of_neg_left (show pos a b c - pos a b p < pos a b q - pos a b p by omega) g
          omega
        · exact q'
      · rcases Int.lt_or_le (pos a b p) (pos a b c) with q | q
        · have := np g (show 0 < pos a b c - pos a b p by omega); omega
        · exact q
    · left
      constructor
      · rcases Int.lt_or_le (pos a b c) (pos a b p) with q | q
        · have := pn g (show pos a b c - pos a b p < 0 by omega); omega
        · exact q
      · have := Int.le_of_mul_le_mul_left m2 g
        omega
theorem opp_comb {x y s t s' t' X Y : Int} (hs : 0 ≤ s) (ht : 0 ≤ t) (hs' : 0 ≤ s') (ht' : 0 ≤ t') {k : Int} (hk : 0 < k) (e1 : k * X = s * x + t * y) (e2 : k * Y = s' * x + t' * y) (o : Opp X Y) : Opp x y := by
  obtain ⟨P1, P2, -⟩ := sgn_of hk e1
  obtain ⟨Q1, Q2, -⟩ := sgn_of hk e2
  have both : ¬ (0 ≤ x ∧ 0 ≤ y) := by
    rintro ⟨hx, hy⟩
    have := p0 hs hx; have := p0 ht hy; have := p0 hs' hx; have := p0 ht' hy
    unfold Opp at o; omega
  have none : ¬ (x ≤ 0 ∧ y ≤ 0) := by
    rintro ⟨hx, hy⟩
    have := m0 hs hx; have := m0 ht hy; have := m0 hs' hx; have := m0 ht' hy
    unfold Opp at o; omega
  unfold Opp; omega
theorem meet_opp {a b c d : Pnt} (h1 : Opp (cr a b c 1) (cr a b d 1)) (h2 : Opp (cr c d a 1) (cr c d b 1)) : meet a b c d = 2 := by
  unfold meet Opp at *
  rcases sg_cases (cr a b c 1) with ⟨g1, k1⟩ | ⟨g1, k1⟩ | ⟨g1, k1⟩ <;> rcases sg_cases (cr a b d 1) with ⟨g2, k2⟩ | ⟨g2, k2⟩ | ⟨g2, k2⟩ <;>
  rcases sg_cases (cr c d a 1) with ⟨g3, k3⟩ | ⟨g3, k3⟩ | ⟨g3, k3⟩ <;> rcases sg_cases (cr c d b 1) with ⟨g4, k4⟩ | ⟨g4, k4⟩ | ⟨g4, k4⟩ <;>
  first | (exfalso; omega) | (simp [k1, k2, k3, k4])
theorem mulc' (x y : Int) : (x * y < 0 → (0 < x ∧ y < 0) ∨ (x < 0 ∧ 0 < y)) ∧ (0 < x * y → (0 < x ∧ 0 < y) ∨ (x < 0 ∧ y < 0)) := by
  rcases Int.lt_trichotomy x 0 with h | h | h <;> rcases Int.lt_trichotomy y 0 with k | k | k
  · have := nng h k; omega
  · rw [k]; simp
  · have := np h k; omega
  · rw [h]; simp
  · rw [h]; simp
  · rw [h]; simp
  · have := pn h k; omega
  · rw [k]; simp
  · have := pp h k; omega
/-- Two points of one line between which no vertex of the ring lies, and no segment crosses: they lie at one place. -/
theorem line_same {a b : Pnt} (hab : a ≠ b) {o : Ring} (he : Ends o) {p q : Pnt} (hp : cr a b p 1 = 0) (hq : cr a b q 1 = 0) (np : place o (p, 1) ≠ 1) (nq : place o (q, 1) ≠ 1)
    (hv : ∀ t ∈ segs o, ∀ c, c = t.1 ∨ c = t.2 → cr a b c 1 = 0 → ¬ btw (pos a b p) (pos a b c) (pos a b q))
    (hx : ∀ t ∈ segs o, ¬ (Opp (cr a b t.1 1) (cr a b t.2 1) ∧ Opp (cr t.1 t.2 p 1) (cr t.1 t.2 q 1))) : place o (p, 1) = place o (q, 1) := by
  by_cases hpq : p = q
  · rw [hpq]
  have hk := kk_pos hab
  refine place_same he (fun t ht => ⟨fun h => ?_, fun h => ?_, fun h => np (place_one.2 ⟨t, ht, h⟩), fun h => nq (place_one.2 ⟨t, ht, h⟩)⟩) (fun t ht h => ?_)
  · obtain ⟨k1, k2⟩ := has_dir hab hpq hp hq h
    exact hv t ht _ (.inl rfl) k1 k2
  · obtain ⟨k1, k2⟩ := has_dir hab hpq hp hq h
    exact hv t ht _ (.inr rfl) k1 k2
  · refine hx t ht ⟨?_, h.2⟩
    have e1 := cr_dir hp hq t.1
    have e2 := cr_dir hp hq t.2
    have s1 := sgn_of hk e1
    have s2 := sgn_of hk e2
    have o := h.1
    have m1 := mulc' (pos a b q - pos a b p) (cr a b t.1 1)
    have m2 := mulc' (pos a b q - pos a b p) (cr a b t.2 1)
    unfold Opp at o ⊢
    omega
/-- Two consecutive cuts about a point of the segment. -/
theorem cuts_about {a b p : Pnt} (hab : a ≠ b) (hp : has a b p 1) (l : List Pnt) :
    ∃ y z, Cons (pos a b) (Cut a b l) y z ∧ pos a b y ≤ pos a b p ∧ pos a b p ≤ pos a b z := by
  obtain ⟨d0, d1⟩ := pos_le hab hp
  have hk := kk_pos hab
  obtain ⟨y, hy, ⟨cy, ly, ny⟩, my⟩ := ex_max (pos a b) (fun x => Cut a b l x ∧ pos a b x ≤ pos a b p ∧ pos a b x < kk a b) (a :: b :: l) ⟨a, by simp, .inl rfl, by rw [pos_a]; exact d0, by rw [pos_a]; exact hk⟩
  obtain ⟨z, hz, ⟨cz, lz⟩, mz⟩ := ex_min (pos a b) (fun x => Cut a b l x ∧ pos a b y < pos a b x) (a :: b :: l) ⟨b, by simp, .inr (.inl rfl), by rw [pos_b]; exact ny⟩
  refine ⟨y, z, ⟨cy, cz, lz, fun c hc ⟨h1, h2⟩ => ?_⟩, ly, ?_⟩
  · have := mz c (cut_list.1 hc).1 ⟨hc, h1⟩; omega
  · rcases Int.le_total (pos a b p) (pos a b z) with g | g
    · exact g
    · by_cases e : pos a b z < kk a b
      · have := my z hz ⟨cz, g, e⟩; omega
      · have h1 := (pos_le hab (cut_has cz)).2
        omega

end Vd
end Go.Proofs.YtcclepohmhdpbaaGreatDoor

/- GEOMETRY, PLAINLY: what lies on a segment lies as a middle of its parts does. -/
namespace Go.Proofs.YtcclepohmhdpbaaGreatDoor
set_option linter.all false
namespace Vd
theorem has_pos {a b p : Pnt} (hab : a ≠ b) (h0 : cr a b p 1 = 0) (h1 : 0 ≤ pos a b p) (h2 : pos a b p ≤ kk a b) : has a b p 1 := (has_on hab (by omega)).2 ⟨h0, h1, by rw [Int.mul_one]; exact h2⟩
theorem vert_on {o : Ring} {t : Seg} (ht : t ∈ segs o) {c : Pnt} (hc : c = t.1 ∨ c = t.2) : place o (c, 1) = 1 := by
  refine place_one.2 ⟨t, ht, ?_⟩
  rcases hc with rfl | rfl
  · exact has_a _ _
  · exact has_b _ _
theorem mid_off_int {a b : Pnt} (hab : a ≠ b) {o : Ring} (hl : Long o) (hx : ∀ t ∈ segs o, crossS (a, b) t = false) {y z M : Pnt} (hc : Cons (pos a b) (Cut a b o) y z) (hM : has a b M 1) (h1 : pos a b y < pos a b M) (h2 : pos a b M < pos a b z) : place o (M, 1) ≠ 1 := by
  intro h
  obtain ⟨t, ht, hh⟩ := place_one.1 h
  simp only at hh
  obtain ⟨y0, -⟩ := pos_le hab (cut_has hc.cx)
  obtain ⟨-, z1⟩ := pos_le hab (cut_has hc.cy)
  have nocut : ¬ Cut a b o M := fun c => hc.no M c ⟨h1, h2⟩
  have nv : ∀ c, c = t.1 ∨ c = t.2 → M ≠ c := by
    rintro c hc' rfl
    have := segs_mem ht
    exact nocut (.inr (.inr ⟨by rcases hc' with e | e <;> rw [e]; exact this.1; exact this.2, hM⟩))
  have two : ∀ c : Pnt, M ≠ c → sc 2 M ≠ (c.1 * 2, c.2 * 2) := by
    intro c hne e
    unfold sc at e
    simp only [Prod.mk.injEq] at e
    exact hne (Prod.ext (by omega) (by omega))
  have i1 : Inn a b (sc 2 M) := by
    refine ⟨?_, two a ?_, two b ?_⟩
    · have := (has_spot (k := 2) (by omega) a b M 1).2 hM; simpa using this
    · rintro rfl; rw [pos_a] at h1; omega
    · rintro rfl; rw [pos_b] at h2; omega
  have i2 : Inn t.1 t.2 (sc 2 M) := by
    refine ⟨?_, two _ (nv _ (.inl rfl)), two _ (nv _ (.inr rfl))⟩
    have := (has_spot (k := 2) (by omega) t.1 t.2 M 1).2 hh; simpa using this
  have k := inn_cross hab (hl t ht) i1 i2
  have := hx t ht
  unfold crossS meetS at this
  rcases k with k | k <;> simp [k] at this
theorem on_place_int {a b : Pnt} (hab : a ≠ b) {o : Ring} (he : Ends o) (hl : Long o) (hx : ∀ t ∈ segs o, crossS (a, b) t = false) {y z p M : Pnt} (hc : Cons (pos a b) (Cut a b o) y z) (hp : has a b p 1) (p1 : pos a b y ≤ pos a b p) (p2 : pos a b p ≤ pos a b z) (hM : has a b M 1) (h1 : pos a b y < pos a b M) (h2 : pos a b M < pos a b z) (hn : place o (p, 1) ≠ 1) : place o (p, 1) = place o (M, 1) := by
  have hk := kk_pos hab
  obtain ⟨y0, -⟩ := pos_le hab (cut_has hc.cx)
  obtain ⟨-, z1⟩ := pos_le hab (cut_has hc.cy)
  obtain ⟨q0', q1⟩ := pos_le hab hp
  obtain ⟨m0', m1⟩ := pos_le hab hM
  refine line_same hab he hp.1 hM.1 hn (mid_off_int hab hl hx hc hM h1 h2) ?_ ?_
  · intro t ht c hc' hcr hb
    have hcut : Cut a b o c := by
      refine .inr (.inr ⟨?_, has_pos hab hcr (by unfold btw at hb; omega) (by unfold btw at hb; omega)⟩)
      have := segs_mem ht
      rcases hc' with e | e <;> rw [e]
      · exact this.1
      · exact this.2
    have := hc.no c hcut
    have e : pos a b c = pos a b p := by unfold btw at hb; omega
    have := pos_inj hab hcr hp.1 e
    rw [← this] at hn
    exact hn (vert_on ht hc')
  · rintro t ht ⟨o1, o2⟩
    have e1 := cr_on hp.1 t.1 t.2
    have e2 := cr_on hM.1 t.1 t.2
    have o3 := opp_comb (by omega) q0' (by omega) m0' hk e1 e2 o2
    have := hx t ht
    unfold crossS meetS at this
    rw [meet_opp o1 o3] at this
    simp at this
/-! ### scaled -/
theorem sc_inj {k : Int} (hk : 0 < k) {p q : Pnt} : sc k p = sc k q ↔ p = q := by
  constructor
  · intro h
    unfold sc at h
    simp only [Prod.mk.injEq] at h
    exact Prod.ext (Int.eq_of_mul_eq_mul_left (by omega) h.1) (Int.eq_of_mul_eq_mul_left (by omega) h.2)
  · rintro rfl; rfl
theorem bef_sc {k : Int} (hk : 0 < k) {p q : Pnt} : bef (sc k p) (sc k q) ↔ bef p q := by
  have e1 : ∀ {x y : Int}, k * x < k * y ↔ x < y := fun {x y} => ⟨fun h => Int.lt_of_mul_lt_mul_left h (by omega), fun h => Int.mul_lt_mul_of_pos_left h hk⟩
  have e2 : ∀ {x y : Int}, k * x = k * y ↔ x = y := fun {x y} => ⟨fun h => Int.eq_of_mul_eq_mul_left (by omega) h, fun h => by rw [h]⟩
  unfold bef sc
  simp only [e1, e2]
theorem fwd_sc {k : Int} (hk : 0 < k) (a b : Pnt) : fwd (sc k a) (sc k b) = scS k (fwd a b) := by
  unfold fwd
  by_cases h : bef b a
  · rw [if_pos h, if_pos ((bef_sc hk).2 h)]; rfl
  · rw [if_neg h, if_neg (fun g => h ((bef_sc hk).1 g))]; rfl
theorem ite_sc (k : Int) (c : Prop) [Decidable c] (a b : Pnt) : (if c then sc k a else sc k b) = sc k (if c then a else b) := by split <;> rfl
theorem onLine_sc {k : Int} (hk : 0 < k) (s t : Seg) : onLine (scS k s) (scS k t) = onLine s t := by
  unfold onLine scS
  simp only [bef_sc hk, ite_sc, sc_inj hk]
theorem cr_sc1 (k : Int) (a b p : Pnt) : cr (sc k a) (sc k b) (sc k p) 1 = k * k * cr a b p 1 := by unfold cr sc; grind
theorem meet_sc {k : Int} (hk : 0 < k) (a b c d : Pnt) : meet (sc k a) (sc k b) (sc k c) (sc k d) = meet a b c d := by
  unfold meet
  simp only [cr_sc1, sg_mul (pp hk hk), fwd_sc hk, onLine_sc hk]
theorem crossS_sc {k : Int} (hk : 0 < k) (s t : Seg) : crossS (scS k s) (scS k t) = crossS s t := by
  unfold crossS meetS scS
  simp only [meet_sc hk]
theorem pos_sc (k : Int) (a b p : Pnt) : pos (sc k a) (sc k b) (sc k p) = k * k * pos a b p := by unfold pos dt sc; grind
theorem has_sc1 {k : Int} (hk : 0 < k) (a b p : Pnt) : has (sc k a) (sc k b) (sc k p) 1 ↔ has a b p 1 := by
  rw [has_sc hk, has_spot hk]
theorem cut_sc {k : Int} (hk : 0 < k) {a b : Pnt} {l : List Pnt} {x : Pnt} : Cut (sc k a) (sc k b) (l.map (sc k)) x ↔ ∃ x', x = sc k x' ∧ Cut a b l x' := by
  unfold Cut
  constructor
  · rintro (rfl | rfl | ⟨h1, h2⟩)
    · exact ⟨a, rfl, .inl rfl⟩
    · exact ⟨b, rfl, .inr (.inl rfl)⟩
    · obtain ⟨x', hx', rfl⟩ := List.mem_map.1 h1
      exact ⟨x', rfl, .inr (.inr ⟨hx', (has_sc1 hk _ _ _).1 h2⟩)⟩
  · rintro ⟨x', rfl, rfl | rfl | ⟨h1, h2⟩⟩
    · exact .inl rfl
    · exact .inr (.inl rfl)
    · exact .inr (.inr ⟨List.mem_map.2 ⟨x', h1, rfl⟩, (has_sc1 hk _ _ _).2 h2⟩)
theorem cons_sc {k : Int} (hk : 0 < k) {a b : Pnt} {l : List Pnt} {y z : Pnt} (h : Cons (pos (sc k a) (sc k b)) (Cut (sc k a) (sc k b) (l.map (sc k))) y z) : ∃ y' z', y = sc k y' ∧ z = sc k z' ∧ Cons (pos a b) (Cut a b l) y' z' := by
  obtain ⟨y', rfl, cy⟩ := (cut_sc hk).1 h.cx
  obtain ⟨z', rfl, cz⟩ := (cut_sc hk).1 h.cy
  have kk2 := pp hk hk
  have e1 : ∀ {x y : Int}, k * k * x < k * k * y ↔ x < y := fun {x y} => ⟨fun h => Int.lt_of_mul_lt_mul_left h (by omega), fun h => Int.mul_lt_mul_of_pos_left h kk2⟩
  refine ⟨y', z', rfl, rfl, cy, cz, ?_, ?_⟩
  · have := h.lt; rw [pos_sc, pos_sc] at this; exact e1.1 this
  · rintro c hc ⟨h1, h2⟩
    refine h.no (sc k c) ((cut_sc hk).2 ⟨c, rfl, hc⟩) ?_
    rw [pos_sc, pos_sc, pos_sc]
    exact ⟨e1.2 h1, e1.2 h2⟩
theorem long_sc {k : Int} (hk : 0 < k) {r : Ring} (h : Long r) : Long (scR k r) := by
  intro s hs
  rw [segs_sc] at hs
  obtain ⟨t, ht, rfl⟩ := List.mem_map.1 hs
  intro e
  exact h t ht ((sc_inj hk).1 e)
/-- A spot on a segment that a ring does not cross lies on the ring, or as one of the middles does. -/
theorem on_place {a b : Pnt} (hab : a ≠ b) {o : Ring} (he : Ends o) (hl : Long o) (hx : ∀ t ∈ segs o, crossS (a, b) t = false) {p : Spot} (hw : 0 < p.2) (hp : has a b p.1 p.2) (hn : place o p ≠ 1) :
    ∃ m ∈ mids (a, b) [o], place o p = place o m := by
  obtain ⟨P, w⟩ := p
  simp only at hw hp
  have hK : (0 : Int) < 2 * w := by omega
  have hab' : sc (2 * w) a ≠ sc (2 * w) b := fun e => hab ((sc_inj hK).1 e)
  have hp' : has (sc (2 * w) a) (sc (2 * w) b) (sc 2 P) 1 := by
    rw [has_sc hK, Int.mul_one]
    exact (has_spot (by omega) a b P w).2 hp
  obtain ⟨y', z', hc', l1, l2⟩ := cuts_about hab' hp' (scR (2 * w) o)
  obtain ⟨y, z, rfl, rfl, hc⟩ := cons_sc hK (l := o) hc'
  have hm : midOf y z ∈ mids (a, b) [o] := (mem_mids hab [o] _).2 ⟨y, z, by simpa using hc, rfl⟩
  refine ⟨_, hm, ?_⟩
  have e1 : place o (P, w) = place (scR (2 * w) o) (sc 2 P, 1) := place_whole (p := (P, w)) hw (k := 2) (by omega)
  have e2 : place o (midOf y z) = place (scR (2 * w) o) (sc w (midOf y z).1, 1) := by
    have := place_whole (r := o) (p := midOf y z) (show (0 : Int) < 2 by omega) (k := w) hw
    rw [show w * (midOf y z).2 = 2 * w by show w * 2 = 2 * w; omega] at this
    exact this
  rw [e1, e2]
  have c0y := (cut_has hc.cx).1
  have c0z := (cut_has hc.cy).1
  have f1 : 2 * pos (sc (2 * w) a) (sc (2 * w) b) (sc w (midOf y z).1) = pos (sc (2 * w) a) (sc (2 * w) b) (sc (2 * w) y) + pos (sc (2 * w) a) (sc (2 * w) b) (sc (2 * w) z) := by unfold pos dt sc midOf; grind
  have f2 : 2 * cr (sc (2 * w) a) (sc (2 * w) b) (sc w (midOf y z).1) 1 = cr (sc (2 * w) a) (sc (2 * w) b) (sc (2 * w) y) 1 + cr (sc (2 * w) a) (sc (2 * w) b) (sc (2 * w) z) 1 := by unfold cr sc midOf; grind
  rw [cr_sc1, cr_sc1, c0y, c0z, Int.mul_zero, Int.add_zero] at f2
  have hlt := hc'.lt
  obtain ⟨y0, y1⟩ := pos_le hab' (cut_has hc'.cx)
  obtain ⟨z0, z1⟩ := pos_le hab' (cut_has hc'.cy)
  refine on_place_int hab' (ends_sc he) (long_sc hK hl) ?_ hc' hp' l1 l2 (has_pos hab' (by omega) (by omega) (by omega)) (by omega) (by omega) ?_
  · intro t ht
    rw [segs_sc] at ht
    obtain ⟨t', ht', rfl⟩ := List.mem_map.1 ht
    have := hx t' ht'
    rw [← crossS_sc hK] at this
    exact this
  · rw [← e1]; exact hn
/-- A ring that lies outside another but for what they touch in: no point of it is within. -/
theorem lies_out {r o : Ring} (hr : Long r) (ho : Long o) (he : Ends o) (hx : cross r o = false) {k : Int} (hk : lies r o k = true) {p : Spot} (hw : 0 < p.2) (hp : place r p = 1) : place o p = 1 ∨ place o p = k := by
  obtain ⟨s, hs, h⟩ := place_one.1 hp
  by_cases h1 : place o p = 1
  · exact .inl h1
  right
  obtain ⟨m, hm, e⟩ := on_place (hr s hs) he ho (fun t ht => by
    cases c : crossS (s.1, s.2) t with
    | false => rfl
    | true =>
      have : cross r o = true := by
        unfold cross
        exact List.any_eq_true.2 ⟨s, hs, List.any_eq_true.2 ⟨t, ht, c⟩⟩
      rw [hx] at this; cases this) hw h h1
  rw [e]
  unfold lies at hk
  rw [Bool.not_eq_true'] at hk
  by_cases g : place o m = k
  · exact g
  · have : ((segs r).any fun s => (mids s [o]).any fun m => decide (place o m ≠ k)) = true := List.any_eq_true.2 ⟨s, hs, List.any_eq_true.2 ⟨m, hm, decide_eq_true g⟩⟩
    rw [hk] at this; cases this
end Vd
end Go.Proofs.YtcclepohmhdpbaaGreatDoor

/- POINTS, PLAINLY: the program's answer and the document's, of a valid set. -/
namespace Go.Proofs.YtcclepohmhdpbaaGreatDoor
set_option linter.all false
namespace Vd
theorem inL_nn {p : Spot} : ∀ (t : List Ring) (s : Int), (s = 0 ∨ s = 1 ∨ s = -1) → (∀ r ∈ t, inRing r p = 0 ∨ inRing r p = 1 ∨ inRing r p = -1) → (∀ r ∈ t, ∀ r' ∈ t, inRing r p = 0 → inRing r' p ≠ 1) →
    (0 ≤ inL s t p ↔ 0 ≤ s ∧ ∀ r ∈ t, inRing r p ≠ 1) := by
  intro t
  induction t with
  | nil => intro s _ _ _; simp [inL]
  | cons r t ih =>
    intro s hs hr hx
    unfold inL
    have ih' := ih s hs (fun r hr' => hr r (by simp [hr'])) (fun a ha b hb => hx a (by simp [ha]) b (by simp [hb]))
    by_cases h0 : inRing r p = 0 ∧ 0 ≤ s
    · rw [if_pos h0]
      refine ⟨fun _ => ⟨h0.2, fun r' hr' => hx r (by simp) r' hr' h0.1⟩, fun _ => Int.le_refl _⟩
    · rw [if_neg h0]
      by_cases h1 : inRing r p = 1
      · rw [if_pos h1]
        refine ⟨fun h => by omega, fun h => absurd h1 (h.2 r (by simp))⟩
      · rw [if_neg h1, ih']
        constructor
        · rintro ⟨g1, g2⟩
          refine ⟨g1, fun r' hr' => ?_⟩
          rcases List.mem_cons.1 hr' with rfl | hr'
          · exact h1
          · exact g2 r' hr'
        · rintro ⟨g1, g2⟩; exact ⟨g1, fun r' hr' => g2 r' (by simp [hr'])⟩
theorem inPolyL_iff {p : Spot} : ∀ (t : List Ring), inPolyL t false p = true ↔ ∀ r ∈ t, place r p ≠ 2 := by
  intro t
  induction t with
  | nil => simp [inPolyL]
  | cons r t ih =>
    unfold inPolyL
    by_cases h : place r p = 2
    · simp [h]
    · simp [h, ih]
/-- The holes of a polygon that is valid. -/
structure Holes (t : List Ring) : Prop where
  long : ∀ r ∈ t, Long r
  out : ∀ r ∈ t, ∀ o ∈ t, ∀ p : Spot, 0 < p.2 → place r p = 1 → place o p ≠ 2
theorem in_poly {r : Ring} {t : List Ring} (hr : Long r) (ht : Holes t) {p : Spot} (hw : 0 < p.2) : decide (0 ≤ inP (r :: t) p) = inPoly (r :: t) p := by
  have er := place_eq hr hw
  have e : ∀ o ∈ t, place o p = pl (inRing o p) ∧ (inRing o p = 0 ∨ inRing o p = 1 ∨ inRing o p = -1) := fun o ho => place_eq (ht.long o ho) hw
  have k1 : ∀ o ∈ t, (place o p = 1 ↔ inRing o p = 0) := by
    intro o ho
    obtain ⟨a, b⟩ := e o ho
    rw [a]; unfold pl; rcases b with b | b | b <;> rw [b] <;> simp
  have k2 : ∀ o ∈ t, (place o p = 2 ↔ inRing o p = 1) := by
    intro o ho
    obtain ⟨a, b⟩ := e o ho
    rw [a]; unfold pl; rcases b with b | b | b <;> rw [b] <;> simp
  have key := inL_nn (p := p) t (inRing r p) er.2 (fun o ho => (e o ho).2) (fun a ha b hb h1 h2 => ht.out a ha b hb p hw ((k1 a ha).2 h1) ((k2 b hb).2 h2))
  apply bool_iff
  rw [decide_eq_true_eq]
  show 0 ≤ inL (inRing r p) t p ↔ _
  rw [key]
  unfold inPoly inPolyL
  have kr : place r p = 0 ↔ ¬ 0 ≤ inRing r p := by
    rw [er.1]; unfold pl; rcases er.2 with b | b | b <;> rw [b] <;> simp
  by_cases h0 : place r p = 0
  · have := kr.1 h0
    simp [h0, this]
  · have h1 : 0 ≤ inRing r p := by
      rcases Int.lt_or_le (inRing r p) 0 with g | g
      · exact absurd (kr.2 (by omega)) h0
      · exact g
    simp only [h0, h1, decide_false, Bool.and_false, Bool.not_true, Bool.false_and, Bool.or_self, Bool.false_eq_true, if_false, true_and]
    simp only [List.length_cons, Nat.zero_lt_succ, decide_true, Bool.and_true, inPolyL_iff]
    constructor
    · intro g o ho h2; exact g o ho ((k2 o ho).1 h2)
    · intro g o ho h2; exact g o ho ((k2 o ho).2 h2)
/-- Of a valid set. -/
theorem holes_of {l : Poly} (hs : ∀ r ∈ l, Shut r) (hl : ∀ r ∈ l, Long r) (h2 : touch l = true) (h3 : nested l = true) : Holes l.tail := by
  refine ⟨fun r hr => hl r (List.mem_of_mem_tail hr), ?_⟩
  intro r hr o ho p hw hp h
  cases l with
  | nil => cases hr
  | cons s t =>
    simp only [List.tail_cons] at hr ho
    obtain ⟨i, hi, ei⟩ := List.getElem_of_mem hr
    obtain ⟨j, hj, ej⟩ := List.getElem_of_mem ho
    by_cases hij : i = j
    · subst hij
      have : r = o := ei.symm.trans ej
      rw [this] at hp; rw [hp] at h; omega
    have ra : ∀ {k : Nat} (hk : k < t.length), rAt (s :: t) (k + 1) = t[k] := by
      intro k hk; unfold rAt; rw [List.getD_eq_getElem?_getD, List.getElem?_cons_succ, List.getElem?_eq_getElem hk]; rfl
    have hx : cross r o = false := by
      unfold touch at h2
      rw [Bool.not_eq_true', pairs_eq (f := fun i j => cross (rAt (s :: t) i) (rAt (s :: t) j)) (fun i j => cross_symm _ _)] at h2
      cases c : cross r o with
      | false => rfl
      | true =>
        have : (anyI (s :: t).length fun i => anyI (s :: t).length fun j => decide (j ≠ i) && cross (rAt (s :: t) i) (rAt (s :: t) j)) = true := by
          rw [anyI_iff]
          refine ⟨i + 1, by simp; omega, ?_⟩
          rw [anyI_iff]
          refine ⟨j + 1, by simp; omega, ?_⟩
          rw [ra hi, ra hj, ei, ej, c]
          simp; omega
        rw [h2] at this; cases this
    have hy : lies r o 0 = true := by
      unfold nested at h3
      rw [Bool.not_eq_true'] at h3
      cases c : lies r o 0 with
      | true => rfl
      | false =>
        have : (anyI (s :: t).length fun i => decide (1 ≤ i) && anyI (s :: t).length fun j => decide (i ≠ j) && !(lies (rAt (s :: t) i) (rAt (s :: t) j) (nestW j))) = true := by
          rw [anyI_iff]
          refine ⟨i + 1, by simp; omega, ?_⟩
          rw [Bool.and_eq_true, anyI_iff]
          refine ⟨by simp, j + 1, by simp; omega, ?_⟩
          rw [ra hi, ra hj, ei, ej, show nestW (j + 1) = 0 from rfl, c]
          simp; omega
        rw [h3] at this; cases this
    have := lies_out (hl r (by simp [hr])) (hl o (by simp [ho])) (shut_ends (hs o (by simp [ho]))) hx hy hw hp
    omega
theorem holds_eq {m : Mult} (hg : Good m) (h : least m = 0) {p : Spot} (hw : 0 < p.2) : (m.any fun l => decide (0 ≤ inP l p)) = inSet m p := by
  unfold inSet
  have b1 : badC 1 m = false ∧ badC 2 m = false ∧ badC 3 m = false := by
    unfold least at h
    repeat' split at h
    all_goals first | omega | (simp_all)
  have hl := long_all hg b1.1
  have one : ∀ (c : Nat), badC c m = false → ∀ l ∈ m, holdsC c l = true := by
    intro c hc l hm
    unfold badC at hc
    cases x : holdsC c l with
    | true => rfl
    | false => rw [List.any_eq_true.2 ⟨l, hm, by rw [x]; rfl⟩] at hc; cases hc
  refine any_congr fun l hm => ?_
  have h2 := one 2 b1.2.1 l hm
  have h3 := one 3 b1.2.2 l hm
  have hh := holes_of (hg.shut l hm) (hl l hm) (by simpa [holdsC] using h2) (by simpa [holdsC] using h3)
  cases l with
  | nil => exact absurd rfl (hg.ne [] hm)
  | cons r t => exact in_poly (hl _ hm r (by simp)) hh hw
end Vd
end Go.Proofs.YtcclepohmhdpbaaGreatDoor
