/- THE DOCUMENT's WALKS: Clause, Valid. -/
import Derived.Test.YtcclepohmhdpbaaGreatDoorRfO
import Derived.Test.YtcclepohmhdpbaaGreatDoorCnH
namespace Go.Proofs.YtcclepohmhdpbaaGreatDoor
set_option linter.all false
open Go.RowKit Go.Deep

set_option maxHeartbeats 4000000 in
theorem clause_gen (v : Value) (m : Mult) (c : Int) (B : Nat → Bool) (w : World) (hv : Rc3 w v m) (hm : m.length ≤ 1048576)
    (hp : ∀ p : Nat, p < m.length → ∀ w', Up w w' → Calls Tryz.prog 91 #[v, .int .i64 p, .int .i64 c] w' fun e w'' => e = .returned (.bool (!(B p))) ∧ Up w' w'') :
    Calls Tryz.prog 56 #[v, .int .i64 c] w fun e w' => e = .returned (.bool (!(Vd.anyI m.length B))) ∧ Up w w' := by
  obtain ⟨mb, mc, rfl, hM⟩ := hv
  have HP := hide hp
  clear hM hp
  go_enter Tryz.func56, Tryz.ntmps56
  go_wp2
  go_loopw [5] (fun i wr => ∃ k : Nat, i = .int .i64 k ∧ k ≤ m.length ∧ Hid (Up w wr) ∧ Hid (Vd.anyI k B = false)) (fun i _ => m.length - (intOf i).toNat)
  case atStart => exact ⟨0, rfl, Nat.zero_le _, Up.refl _, rfl⟩
  case round =>
    obtain ⟨k, rfl, hk, HU, HA⟩ := hrel
    by_cases hlt : k < m.length
    · have HK := hide (HP.out k hlt wr HU.out)
      have fin : Hid (B k = true → Vd.anyI m.length B = true) := fun h => Vd.anyI_true hlt h
      have st : Hid (B k = false → Vd.anyI (k + 1) B = false) := fun h => anyI_step HA.out h
      generalize B k = X at *
      have i4 : (k : Int) < (m.length : Int) := by omega
      go_wp2_with fail
      refine HK.out.mono ?_
      rintro e w2 ⟨rfl, hz2⟩
      have HU2 := hide (HU.out.trans hz2)
      clear hz2 HK
      cases X
      · have HA2 := hide (st.out rfl)
        go_wp2
        go_roundw
        case rel => exact ⟨k + 1, by go_num, by omega, HU2, HA2⟩
        case measure => simp [intOf]; omega
      · have HR := hide (fin.out rfl)
        go_wp2
        go_ret
        exact ⟨ret_b (by rw [HR.out]; rfl), HU2.out⟩
    · have hk2 : k = m.length := by omega
      subst hk2
      go_wp2
      go_ret
      exact ⟨ret_b (by rw [HA.out]; rfl), HU.out⟩

theorem pAt_get {m : Mult} {p : Nat} (h : p < m.length) : m[p]? = some (Vd.pAt m p) := by
  obtain ⟨l, hl⟩ := Pl.some_of_lt h
  rw [hl, pAt_some hl]
theorem any_pAt (m : Mult) (f : Poly → Bool) : m.any f = Vd.anyI m.length fun i => f (Vd.pAt m i) := by
  apply Vd.bool_iff
  rw [List.any_eq_true, Vd.anyI_iff]
  constructor
  · rintro ⟨r, hr, h⟩
    obtain ⟨i, hi⟩ := List.getElem?_of_mem hr
    exact ⟨i, Pl.lt_of_some hi, by rw [pAt_some hi]; exact h⟩
  · rintro ⟨i, hi, h⟩; exact ⟨_, Vd.pAt_mem hi, h⟩
theorem pz_of {m : Mult} (hz : Sz m) (hg : Vd.Good m) : ∀ l ∈ m, PZ l := fun l hl => ⟨hz.poly l hl, hz.ring l hl, hz.flat l hl, hz.cd l hl, hg.shut l hl, hg.ne l hl⟩

/-- What a clause asks, by its number. -/
def badK (m : Mult) (k : Nat) : Bool := if k = 5 then Vd.overlap m else Vd.badC k m
theorem c4_eq {m : Mult} (hl : ∀ l ∈ m, ∀ r ∈ l, Vd.Long r) : Vd.badC 4 m = m.any partD := by
  unfold Vd.badC
  refine Vd.any_congr fun l h => ?_
  unfold Vd.holdsC
  rw [if_neg (by decide), if_neg (by decide), if_neg (by decide), Bool.not_not]
  exact Vd.bool_iff ((Vd.core_eq (hl l h)).trans (partD_iff l).symm)
theorem clause_any (v : Value) (m : Mult) (k : Nat) (w : World) (hv : Rc3 w v m) (hz : Sz m) (hg : Vd.Good m) (hk : k < 5) (hb : ∀ j, 1 ≤ j → j ≤ k → badK m j = false) :
    Calls Tryz.prog 56 #[v, .int .i64 ((k : Int) + 1)] w fun e w' => e = .returned (.bool (!(badK m (k + 1)))) ∧ Up w w' := by
  have hp := pz_of hz hg
  have lg : 1 ≤ k → ∀ l ∈ m, ∀ r ∈ l, Vd.Long r := fun h => Vd.long_all hg (by have := hb 1 (by omega) h; exact this)
  rcases (show k = 0 ∨ k = 1 ∨ k = 2 ∨ k = 3 ∨ k = 4 from by omega) with rfl | rfl | rfl | rfl | rfl
  · have e : badK m 1 = Vd.anyI m.length fun p => Vd.anyI (Vd.pAt m p).length (dcF (Vd.pAt m p)) := by
      show Vd.badC 1 m = _
      rw [Vd.c1_eq hg]; unfold Vd.d1; rw [any_pAt]
      exact Vd.anyI_congr fun i _ => any_rAt _ _
    rw [show (0 : Nat) + 1 = 1 from rfl, e]
    exact clause_gen v m 1 _ w hv hz.len fun p h w' hu => poly1_any v m p _ w' (hv.up hu) (pAt_get h) (hp _ (Vd.pAt_mem h)) hz.len
  · have e : badK m 2 = Vd.anyI m.length fun p => Vd.anyI (Vd.pAt m p).length (dpF (Vd.pAt m p)) := by
      show Vd.badC 2 m = _
      rw [Vd.c2_eq (lg (by omega))]; unfold Vd.d2; rw [any_pAt]; rfl
    rw [show (1 : Nat) + 1 = 2 from rfl, e]
    exact clause_gen v m 2 _ w hv hz.len fun p h w' hu => poly2_any v m p _ w' (hv.up hu) (pAt_get h) (hp _ (Vd.pAt_mem h)) hz.len
  · have e : badK m 3 = Vd.anyI m.length fun p => Vd.anyI (Vd.pAt m p).length (dnF (Vd.pAt m p)) := by
      show Vd.badC 3 m = _
      rw [Vd.c3_eq (lg (by omega))]; unfold Vd.d3; rw [any_pAt]; rfl
    rw [show (2 : Nat) + 1 = 3 from rfl, e]
    exact clause_gen v m 3 _ w hv hz.len fun p h w' hu => poly3_any v m p _ w' (hv.up hu) (pAt_get h) (hp _ (Vd.pAt_mem h)) hz.len
  · have e : badK m 4 = Vd.anyI m.length fun p => partD (Vd.pAt m p) := by
      show Vd.badC 4 m = _
      rw [c4_eq (lg (by omega)), any_pAt]
    rw [show (3 : Nat) + 1 = 4 from rfl, e]
    exact clause_gen v m 4 _ w hv hz.len fun p h w' hu => poly4_any v m p _ w' (hv.up hu) (pAt_get h) (hp _ (Vd.pAt_mem h)) hz.len
  · have e : badK m 5 = Vd.anyI m.length fun p => Vd.anyI (Vd.pAt m p).length (dqF m p (Vd.pAt m p)) := by
      show Vd.overlap m = _
      rw [Vd.c5_eq hg (lg (by omega))]; unfold Vd.d5
      refine Vd.anyI_congr fun p _ => ?_
      rw [any_rAt]; rfl
    rw [show (4 : Nat) + 1 = 5 from rfl, e]
    exact clause_gen v m 5 _ w hv hz.len fun p h w' hu => poly5_any v m p _ w' (hv.up hu) (pAt_get h) hp hz.len
theorem least_bad {m : Mult} {k : Nat} (hk : k < 5) (h : ∀ j, 1 ≤ j → j ≤ k → badK m j = false) (hb : badK m (k + 1) = true) : Vd.least m = (k : Int) + 1 := by
  have e : ∀ j, j ≤ k → badK m j = Vd.badC j m := fun j hj => by unfold badK; rw [if_neg (by omega)]
  rcases Nat.lt_or_ge k 4 with h4 | h4
  · refine least_at h4 (fun j h1 h2 => by rw [← e j h2]; exact h j h1 h2) ?_
    unfold badK at hb; rw [if_neg (by omega)] at hb; exact hb
  · have hk4 : k = 4 := by omega
    subst hk4
    rw [least_last fun j h1 h2 => by rw [← e j h2]; exact h j h1 h2]
    have : Vd.overlap m = true := hb
    rw [if_pos this]; rfl
theorem least_none {m : Mult} (h : ∀ j, 1 ≤ j → j ≤ 5 → badK m j = false) : Vd.least m = 0 := by
  rw [least_last fun j h1 h2 => by have := h j h1 (by omega); unfold badK at this; rw [if_neg (by omega)] at this; exact this]
  have : Vd.overlap m = false := h 5 (by omega) (by omega)
  rw [this]; rfl

set_option maxHeartbeats 4000000 in
theorem valid_any (v : Value) (m : Mult) (w : World) (hv : Rc3 w v m) (hz : Sz m) (hg : Vd.Good m) :
    Calls Tryz.prog 34 #[v] w fun e w' => e = .returned (.int .i64 (Vd.least m)) ∧ Up w w' := by
  have HK : Hid (∀ k : Nat, k < 5 → (∀ j, 1 ≤ j → j ≤ k → badK m j = false) → ∀ w', Up w w' → Calls Tryz.prog 56 #[v, .int .i64 ((k : Int) + 1)] w' fun e w'' => e = .returned (.bool (!(badK m (k + 1)))) ∧ Up w' w'') :=
    fun k hk hb w' hu => clause_any v m k w' (hv.up hu) hz hg hk hb
  have HL := hide (fun k => least_bad (m := m) (k := k))
  have HN := hide (least_none (m := m))
  obtain ⟨mb, mc, rfl, -⟩ := hv
  clear hz hg
  go_enter Tryz.func34, Tryz.ntmps34
  go_wp2
  go_loopw [3] (fun i wr => ∃ k : Nat, i = .int .i64 ((k : Int) + 1) ∧ k ≤ 5 ∧ Hid (Up w wr) ∧ Hid (∀ j, 1 ≤ j → j ≤ k → badK m j = false)) (fun i _ => 6 - (intOf i).toNat)
  case atStart => exact ⟨0, rfl, Nat.zero_le _, Up.refl _, fun j h1 h2 => by omega⟩
  case round =>
    obtain ⟨k, rfl, hk, HU, HA⟩ := hrel
    by_cases hlt : k < 5
    · have i1 : (k : Int) + 1 ≤ 5 := by omega
      have HKk := hide (HK.out k hlt HA.out wr HU.out)
      have HLk := hide (HL.out k hlt HA.out)
      have HA2 : Hid (badK m (k + 1) = false → ∀ j, 1 ≤ j → j ≤ k + 1 → badK m j = false) := fun h j h1 h2 => by
        by_cases e : j = k + 1
        · rw [e]; exact h
        · exact HA.out j h1 (by omega)
      generalize badK m (k + 1) = X at *
      go_wp2_with fail
      refine HKk.out.mono ?_
      rintro e w2 ⟨rfl, hz2⟩
      have HU2 := hide (HU.out.trans hz2)
      clear hz2 HKk
      cases X
      · have HA3 := hide (HA2.out rfl)
        go_wp2
        go_roundw
        case rel => exact ⟨k + 1, by go_num, by omega, HU2, HA3⟩
        case measure => simp [intOf]; omega
      · have HR := hide (HLk.out rfl)
        go_wp2
        go_ret
        exact ⟨ret_i HR.out.symm, HU2.out⟩
    · have hk2 : k = 5 := by omega
      have HR := hide (HN.out (by rw [← hk2]; exact HA.out))
      have i1 : ¬ (k : Int) + 1 ≤ 5 := by omega
      go_wp2
      go_ret
      exact ⟨ret_i HR.out.symm, HU.out⟩
end Go.Proofs.YtcclepohmhdpbaaGreatDoor
