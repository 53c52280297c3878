/- THE PROGRAM's BYTES, READ: units. -/
import Derived.Test.YtcclepohmhdpbaaBnRead
namespace Go.Proofs.Ytcclepohmhdpbaa
set_option linter.all false
open Go.RowKit Go.Deep

def optI : Option Int → Value
  | some k => .tuple #[.int .i64 k, .bool true]
  | none => .tuple #[.int .i64 0, .bool false]

set_option maxRecDepth 100000 in
set_option maxHeartbeats 2000000 in
theorem wunits_any (X : Nat) (w : World) (hX : X < 18446744073709551616) :
    Calls Try.prog 56 #[.int .u64 X] w fun e w' => e = .returned (optI (Bn.units X)) ∧ w' = w := by
  by_cases h0 : X = 0
  · subst h0
    go_enter Try.func56, Try.ntmps56
    go_wp2
    go_ret2
    exact ⟨rfl, rfl⟩
  · have h0b : ((X : Int) == 0) = false := beq_eq_false_iff_ne.2 (by omega)
    have hE : X / 4503599627370496 % 2048 < 2048 := Nat.mod_lt _ (by omega)
    have q1 : bits .and .u64 ((X : Int) / 4503599627370496) 2047 = ((X / 4503599627370496 % 2048 : Nat) : Int) := by
      have := Bn.u64_mask (X / 4503599627370496) 11 2047 (by omega) rfl (by omega)
      simpa using this
    have HU := hide (show Bn.units X = _ by unfold Bn.units; rw [if_neg h0])
    obtain ⟨E, hE1⟩ : ∃ E, E = X / 4503599627370496 % 2048 := ⟨_, rfl⟩
    rw [← hE1] at HU q1 hE
    have HE := hide hE1
    clear hE1
    by_cases h1 : E < 1019
    · have HV : Hid (Bn.units X = none) := by rw [HU.out, if_pos (.inl h1)]; exact rfl
      clear HU
      go_enter Try.func56, Try.ntmps56
      go_wp2
      go_ret2
      rw [HV.out]
      exact ⟨rfl, rfl⟩
    · by_cases h2 : 1071 < E
      · have HV : Hid (Bn.units X = none) := by rw [HU.out, if_pos (.inr h2)]; exact rfl
        clear HU
        go_enter Try.func56, Try.ntmps56
        go_wp2
        go_ret2
        rw [HV.out]
        exact ⟨rfl, rfl⟩
      · obtain ⟨p, hp⟩ : ∃ p, E = p + 1019 := ⟨E - 1019, by omega⟩
        have hp2 : p ≤ 52 := by omega
        have e1 : 1071 - E = 52 - p := by omega
        have e2 : (E : Int) = (p : Int) + 1019 := by omega
        have e3 : ¬ (E < 1019 ∨ 1071 < E) := by omega
        rw [e2] at q1
        rw [if_neg e3, e1] at HU
        clear e1 e2 e3 hp h1 h2 hE HE
        have q2 : bits .and .u64 (X : Int) 4503599627370495 = ((X % 4503599627370496 : Nat) : Int) := by
          have := Bn.u64_mask X 52 4503599627370495 hX rfl (by omega)
          simpa using this
        have q3 := Bn.u64_first (X % 4503599627370496) (Nat.mod_lt _ (by omega))
        have hM : X % 4503599627370496 + 4503599627370496 < 9007199254740992 := by omega
        obtain ⟨L, hL⟩ : ∃ L, L = X % 4503599627370496 := ⟨_, rfl⟩
        rw [← hL] at q2 q3 HU hM
        obtain ⟨M, hM1⟩ : ∃ M, M = L + 4503599627370496 := ⟨_, rfl⟩
        rw [← hM1] at q3 HU hM
        clear hL hM1
        have q4 := Bn.u64_sign X hX
        obtain ⟨Q, hQ⟩ : ∃ Q, Q = M / 2 ^ (52 - p) := ⟨_, rfl⟩
        obtain ⟨S, hS⟩ : ∃ S, S = Q * 2 ^ (52 - p) := ⟨_, rfl⟩
        have r1 : (M : Int) / 2 ^ (52 - p) = (Q : Int) := by rw [hQ]; simp
        have r2 : (Q : Int) * 2 ^ (52 - p) = (S : Int) := by rw [hS]; simp
        have hSM : S ≤ M := by rw [hS, hQ]; exact Nat.div_mul_le_self _ _
        have hQM : Q ≤ M := by rw [hQ]; exact Nat.div_le_self _ _
        have HSM : Hid (M % 2 ^ (52 - p) = M - S) := by
          have := Nat.div_add_mod M (2 ^ (52 - p))
          rw [Nat.mul_comm, ← hQ, ← hS] at this
          show _ = _
          omega
        rw [← hQ, HSM.out] at HU
        clear hQ hS HSM
        by_cases hs : S = M
        · by_cases hq : 32768 < Q
          · have HV : Hid (Bn.units X = none) := by rw [HU.out, if_pos (.inr hq)]; exact rfl
            clear HU
            subst hs
            have hqi : (32768 : Int) < (Q : Int) := by omega
            go_enter Try.func56, Try.ntmps56
            go_wp2
            go_ret2
            rw [HV.out]
            exact ⟨rfl, rfl⟩
          · rw [if_neg (by omega)] at HU
            subst hs
            have hqi : ¬ (32768 : Int) < (Q : Int) := by omega
            by_cases hx : 9223372036854775808 ≤ X
            · rw [if_pos hx] at HU q4
              go_enter Try.func56, Try.ntmps56
              go_wp2
              go_ret2
              rw [HU.out]
              exact ⟨rfl, rfl⟩
            · rw [if_neg hx] at HU q4
              go_enter Try.func56, Try.ntmps56
              go_wp2
              go_ret2
              rw [HU.out]
              exact ⟨rfl, rfl⟩
        · have HV : Hid (Bn.units X = none) := by rw [HU.out, if_pos (.inl (by omega))]; exact rfl
          have hne : ((S : Int) == (M : Int)) = false := beq_eq_false_iff_ne.2 (by omega)
          have hlt : S < M := by omega
          clear HU
          go_enter Try.func56, Try.ntmps56
          go_wp2
          go_ret2
          rw [HV.out]
          exact ⟨rfl, rfl⟩
end Go.Proofs.Ytcclepohmhdpbaa
