/- THE PROGRAM's BYTES, WRITTEN: doubles, heads, rings, sets. -/
import Derived.Test.YtcclepohmhdpbaaGreatDoorBnWrite
namespace Go.Proofs.YtcclepohmhdpbaaGreatDoor
set_option linter.all false
open Go.RowKit Go.Deep

namespace Bn
theorem pow_lt {k i : Nat} (hk : 0 < k) (h : k * 2 ^ i < 9007199254740992) : i ≤ 52 := by
  rcases Nat.lt_or_ge 52 i with h1 | h1
  · have : 2 ^ 53 ≤ 2 ^ i := Nat.pow_le_pow_right (by omega) h1
    have h2 : 1 * 2 ^ i ≤ k * 2 ^ i := Nat.mul_le_mul_right _ hk
    have e : (2 : Nat) ^ 53 = 9007199254740992 := rfl
    omega
  · exact h1
end Bn

set_option maxRecDepth 100000 in
set_option maxHeartbeats 2000000 in
theorem wdouble_any (u : Int) (w : World) (h1 : -32768 ≤ u) (h2 : u ≤ 32768) :
    Calls Tryz.prog 190 #[.int .i64 u] w fun e w' => e = .returned (.int .u64 (Bn.dbl u)) ∧ w' = w := by
  by_cases h0 : u = 0
  · subst h0
    go_enter Tryz.func190, Tryz.ntmps190
    go_wp2
    go_ret
    exact ⟨rfl, rfl⟩
  · by_cases hs : u < 0
    · obtain ⟨K, rfl⟩ : ∃ K : Nat, u = -(K : Int) := ⟨u.natAbs, by omega⟩
      have HB := hide (show Bn.dbl (-(K : Int)) = Bn.dblOf true K (Bn.sh 60 K) by unfold Bn.dbl; rw [if_neg h0, Int.natAbs_neg, Int.natAbs_natCast, decide_eq_true hs])
      have hK1 : 0 < K := by omega
      have hK2 : K ≤ 32768 := by omega
      go_enter Tryz.func190, Tryz.ntmps190
      go_wp2
      go_loop [4, 5] (fun a e => ∃ i x y : Nat, i ≤ 52 ∧ Hid (x + i = 1071) ∧ a = .int .u64 y ∧ e = .int .u64 x ∧ Hid (y = K * 2 ^ i) ∧ Hid (y < 9007199254740992) ∧ Hid (Bn.sh 60 K = i + Bn.sh (60 - i) y)) (fun _ e => (intOf e).toNat)
      case atStart => exact ⟨0, 1071, K, by omega, rfl, rfl, rfl, by simp [Hid], by show _ < _; omega, by simp [Hid]⟩
      case round =>
        obtain ⟨i, x, a, hi, hx, rfl, rfl, HA, hlt, HS⟩ := hrel
        replace hx := hx.out
        replace hlt := hlt.out
        have HP : Hid (2 * a = K * 2 ^ (i + 1)) := by show _ = _; rw [HA.out, Nat.pow_succ, Nat.mul_comm 2, Nat.mul_assoc]
        have hpos : 0 < a := by rw [HA.out]; exact Nat.mul_pos hK1 (Nat.pow_pos (by omega))
        have HI := hide (fun h => Bn.pow_lt (k := K) (i := i + 1) hK1 h)
        rw [show 60 - i = (60 - (i + 1)) + 1 by omega] at HS
        by_cases hc : a < 4503599627370496
        · have HT := hide (Bn.sh_step HS.out hc)
          have hi2 : i + 1 ≤ 52 := HI.out (by rw [← HP.out]; omega)
          have hc' : (a : Int) < 4503599627370496 := by omega
          have HL := hide hlt
          have HC := hide hc
          clear HS hlt hc
          go_wp2
          go_round
          case rel => exact ⟨i + 1, x - 1, 2 * a, hi2, by show _ = _; omega, by go_num, by go_num, HP, by have := HC.out; show _ < _; omega, HT⟩
          case measure => simp [intOf]; omega
        · have HT := hide (Bn.sh_end HS.out hc)
          obtain ⟨r, hr⟩ : ∃ r, a = r + 4503599627370496 := ⟨a - 4503599627370496, by omega⟩
          have q1 : bits .and .u64 (a : Int) 4503599627370495 = (r : Int) := by
            have := Bn.u64_mask a 52 4503599627370495 (by omega) rfl (by omega)
            rw [show a % 2 ^ 52 = r by show a % 4503599627370496 = _; omega] at this
            exact this
          have q2 := Bn.u64_parts true x r (by omega) (by omega)
          have HF : Hid (Bn.dbl (-(K : Int)) = (if true = true then 9223372036854775808 else 0) + x * 4503599627370496 + r) := by
            have e1 : 1071 - i = x := by omega
            have e2 : K * 2 ^ i - 4503599627370496 = r := by rw [← HA.out]; omega
            rw [HB.out, HT.out]
            unfold Bn.dblOf
            rw [e1, e2]
            show _ = _
            rfl
          obtain ⟨Z, hZ⟩ : ∃ Z, Z = (if true = true then 9223372036854775808 else 0) + x * 4503599627370496 + r := ⟨_, rfl⟩
          rw [← hZ] at q2 HF
          simp only [Bool.false_eq_true, if_true, if_false] at q2
          have hc' : ¬ (a : Int) < 4503599627370496 := by omega
          have hl' : (a : Int) < 9007199254740992 := by omega
          have hx' : x ≤ 1071 := by omega
          have hr' : (r : Int) < 4503599627370496 := by omega
          clear HS hr hZ hc hlt hx hpos HI HP HA
          go_wp2
          go_ret
          exact ⟨by rw [HF.out]; rfl, rfl⟩
    · obtain ⟨K, rfl⟩ := Int.eq_ofNat_of_zero_le (Int.not_lt.1 hs)
      have HB := hide (show Bn.dbl (K : Int) = Bn.dblOf false K (Bn.sh 60 K) by unfold Bn.dbl; rw [if_neg h0, Int.natAbs_natCast, decide_eq_false hs])
      have hK1 : 0 < K := by omega
      have hK2 : K ≤ 32768 := by omega
      go_enter Tryz.func190, Tryz.ntmps190
      go_wp2
      go_loop [4, 5] (fun a e => ∃ i x y : Nat, i ≤ 52 ∧ Hid (x + i = 1071) ∧ a = .int .u64 y ∧ e = .int .u64 x ∧ Hid (y = K * 2 ^ i) ∧ Hid (y < 9007199254740992) ∧ Hid (Bn.sh 60 K = i + Bn.sh (60 - i) y)) (fun _ e => (intOf e).toNat)
      case atStart => exact ⟨0, 1071, K, by omega, rfl, rfl, rfl, by simp [Hid], by show _ < _; omega, by simp [Hid]⟩
      case round =>
        obtain ⟨i, x, a, hi, hx, rfl, rfl, HA, hlt, HS⟩ := hrel
        replace hx := hx.out
        replace hlt := hlt.out
        have HP : Hid (2 * a = K * 2 ^ (i + 1)) := by show _ = _; rw [HA.out, Nat.pow_succ, Nat.mul_comm 2, Nat.mul_assoc]
        have hpos : 0 < a := by rw [HA.out]; exact Nat.mul_pos hK1 (Nat.pow_pos (by omega))
        have HI := hide (fun h => Bn.pow_lt (k := K) (i := i + 1) hK1 h)
        rw [show 60 - i = (60 - (i + 1)) + 1 by omega] at HS
        by_cases hc : a < 4503599627370496
        · have HT := hide (Bn.sh_step HS.out hc)
          have hi2 : i + 1 ≤ 52 := HI.out (by rw [← HP.out]; omega)
          have hc' : (a : Int) < 4503599627370496 := by omega
          have HL := hide hlt
          have HC := hide hc
          clear HS hlt hc
          go_wp2
          go_round
          case rel => exact ⟨i + 1, x - 1, 2 * a, hi2, by show _ = _; omega, by go_num, by go_num, HP, by have := HC.out; show _ < _; omega, HT⟩
          case measure => simp [intOf]; omega
        · have HT := hide (Bn.sh_end HS.out hc)
          obtain ⟨r, hr⟩ : ∃ r, a = r + 4503599627370496 := ⟨a - 4503599627370496, by omega⟩
          have q1 : bits .and .u64 (a : Int) 4503599627370495 = (r : Int) := by
            have := Bn.u64_mask a 52 4503599627370495 (by omega) rfl (by omega)
            rw [show a % 2 ^ 52 = r by show a % 4503599627370496 = _; omega] at this
            exact this
          have q2 := Bn.u64_parts false x r (by omega) (by omega)
          have HF : Hid (Bn.dbl (K : Int) = (if false = true then 9223372036854775808 else 0) + x * 4503599627370496 + r) := by
            have e1 : 1071 - i = x := by omega
            have e2 : K * 2 ^ i - 4503599627370496 = r := by rw [← HA.out]; omega
            rw [HB.out, HT.out]
            unfold Bn.dblOf
            rw [e1, e2]
            show _ = _
            rfl
          obtain ⟨Z, hZ⟩ : ∃ Z, Z = (if false = true then 9223372036854775808 else 0) + x * 4503599627370496 + r := ⟨_, rfl⟩
          rw [← hZ] at q2 HF
          simp only [Bool.false_eq_true, if_true, if_false] at q2
          have hc' : ¬ (a : Int) < 4503599627370496 := by omega
          have hl' : (a : Int) < 9007199254740992 := by omega
          have hx' : x ≤ 1071 := by omega
          have hr' : (r : Int) < 4503599627370496 := by omega
          clear HS hr hZ hc hlt hx hpos HI HP HA
          go_wp2
          go_ret
          exact ⟨by rw [HF.out]; rfl, rfl⟩
end Go.Proofs.YtcclepohmhdpbaaGreatDoor
