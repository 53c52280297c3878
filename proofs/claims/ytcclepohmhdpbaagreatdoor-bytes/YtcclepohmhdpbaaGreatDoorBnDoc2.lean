/- THE DOCUMENT's BYTES, READ: doubles. -/
import Derived.Test.YtcclepohmhdpbaaGreatDoorBnDoc
namespace Go.Proofs.YtcclepohmhdpbaaGreatDoor
set_option linter.all false
open Go.RowKit Go.Deep

namespace Bn
/-- The units, by the two halves. -/
theorem units_halves (hi lo : Nat) (h1 : hi < 4294967296) (h2 : lo < 4294967296) :
    (hi * 4294967296 + lo) / 4503599627370496 % 2048 = hi / 1048576 % 2048 ∧ (hi * 4294967296 + lo) % 4503599627370496 = hi % 1048576 * 4294967296 + lo ∧ (9223372036854775808 ≤ hi * 4294967296 + lo ↔ 2147483648 ≤ hi) := by
  refine ⟨by omega, by omega, by omega⟩
theorem odd_mod {M Q j F : Nat} (h : M = Q * 2 ^ j) (hj : j < F) (hq : Q % 2 = 1) : M % 2 ^ F ≠ 0 := by
  intro e
  have d := Nat.dvd_of_mod_eq_zero e
  have e1 : (2 : Nat) ^ F = 2 ^ j * 2 ^ (F - j) := by rw [← Nat.pow_add]; congr 1; omega
  rw [e1, h, Nat.mul_comm Q] at d
  have d2 := Nat.dvd_of_mul_dvd_mul_left (Nat.pow_pos (by omega)) d
  have d3 : 2 ∣ 2 ^ (F - j) := ⟨2 ^ (F - j - 1), by rw [← Nat.pow_succ']; congr 1; omega⟩
  have := Nat.mod_eq_zero_of_dvd (Nat.dvd_trans d3 d2)
  omega
/-- The units of a double whose parts are known. -/
def unitsAt (neg : Bool) (m f : Nat) : Option Int := if m % 2 ^ f ≠ 0 ∨ 32768 < m / 2 ^ f then none else some (if neg = true then -(m / 2 ^ f : Nat) else (m / 2 ^ f : Nat))
theorem unitsAt_odd {neg : Bool} {m f q j : Nat} (h : m = q * 2 ^ j) (hj : j < f) (hq : q % 2 = 1) : unitsAt neg m f = none := by unfold unitsAt; rw [if_pos (.inl (odd_mod h hj hq))]
theorem unitsAt_end {neg : Bool} {m f q : Nat} (h : m = q * 2 ^ f) : unitsAt neg m f = if 32768 < q then none else some (if neg = true then -(q : Int) else q) := by
  have hm : m % 2 ^ f = 0 := by rw [h]; exact Nat.mul_mod_left _ _
  have hd : m / 2 ^ f = q := by rw [h]; exact Nat.mul_div_cancel _ (Nat.pow_pos (by omega))
  unfold unitsAt
  rw [hm, hd]
  by_cases hq : 32768 < q
  · rw [if_pos (.inr hq), if_pos hq]
  · rw [if_neg (by omega), if_neg hq]
/-- (A bound that no simp looks into.) -/
def Sm (q : Nat) : Prop := q < 9007199254740992
theorem wrap_half {q : Nat} (h : Sm q) : wrap64 ((q : Int) / 2) = ((q / 2 : Nat) : Int) := by
  have : q < 9007199254740992 := h
  unfold wrap64
  omega
end Bn

set_option maxRecDepth 100000 in
set_option maxHeartbeats 4000000 in
theorem ddouble_any (hi lo : Nat) (w : World) (h1 : hi < 4294967296) (h2 : lo < 4294967296) :
    Calls Tryz.prog 115 #[.int .i64 hi, .int .i64 lo] w fun e w' => e = .returned (optI (Bn.units (hi * 4294967296 + lo))) ∧ w' = w := by
  obtain ⟨a1, a2, a3⟩ := Bn.units_halves hi lo h1 h2
  obtain ⟨X, hX⟩ : ∃ X, X = hi * 4294967296 + lo := ⟨_, rfl⟩
  rw [← hX] at a1 a2 a3 ⊢
  obtain ⟨E, hE⟩ : ∃ E, E = hi / 1048576 % 2048 := ⟨_, rfl⟩
  obtain ⟨M, hM⟩ : ∃ M, M = hi % 1048576 * 4294967296 + lo := ⟨_, rfl⟩
  have hE2 : E < 2048 := by omega
  have hM2 : (M : Int) < 4503599627370496 := by omega
  have q1 : ((hi : Int) / 1048576) % 2048 = (E : Int) := by omega
  have q2 : ((hi : Int) % 1048576) * 4294967296 + (lo : Int) = (M : Int) := by omega
  have HU := hide (fun h : X ≠ 0 => show Bn.units X = _ by unfold Bn.units; rw [if_neg h, a1, a2])
  rw [← hE, ← hM] at HU
  have HA := hide a3
  have HX : Hid (X = 0 ↔ (E = 0 ∧ M = 0 ∧ ¬ 2147483648 ≤ hi)) := by
    show _ ↔ _
    constructor
    · intro h; omega
    · intro h; omega
  have h1' : (hi : Int) < 4294967296 := by omega
  have h2' : (lo : Int) < 4294967296 := by omega
  clear a1 a2 a3 hX
  clear hE hM h1 h2
  by_cases hE0 : E = 0
  · rw [show (E : Int) = 0 by omega] at q1
    by_cases hm : M = 0
    · rw [show (M : Int) = 0 by omega] at q2
      by_cases hneg : 2147483648 ≤ hi
      · have HV : Hid (Bn.units X = none) := by
          rw [HU.out (fun e => (HX.out.1 e).2.2 hneg), if_pos (.inl (by omega))]; exact rfl
        have hn : (2147483648 : Int) ≤ hi := by omega
        clear HU HX HA hneg
        go_enter Tryz.func115, Tryz.ntmps115
        go_wp2
        go_ret2
        rw [HV.out]
        exact ⟨rfl, rfl⟩
      · have HV : Hid (Bn.units X = some 0) := by
          rw [HX.out.2 ⟨hE0, hm, hneg⟩]; exact rfl
        have hn : ¬ (2147483648 : Int) ≤ hi := by omega
        clear HU HX HA hneg
        go_enter Tryz.func115, Tryz.ntmps115
        go_wp2
        go_ret2
        rw [HV.out]
        exact ⟨rfl, rfl⟩
    · have HV : Hid (Bn.units X = none) := by
        rw [HU.out (fun e => hm (HX.out.1 e).2.1), if_pos (.inl (by omega))]; exact rfl
      have hmb : ((M : Int) == 0) = false := beq_eq_false_iff_ne.2 (by omega)
      clear HU HX HA
      go_enter Tryz.func115, Tryz.ntmps115
      go_wp2
      go_ret2
      rw [HV.out]
      exact ⟨rfl, rfl⟩
  · have hEb : ((E : Int) == 0) = false := beq_eq_false_iff_ne.2 (by omega)
    have HY := hide (HU.out (fun e => hE0 (HX.out.1 e).1))
    obtain ⟨M5, hM5⟩ : ∃ M5, M5 = M + 4503599627370496 := ⟨_, rfl⟩
    have q3 : (M : Int) + 4503599627370496 = (M5 : Int) := by omega
    have H5 : Bn.Sm M5 := by show _ < _; omega
    rw [← hM5] at HY
    clear HU HX hM5
    by_cases h3 : E < 1019 ∨ 1071 < E
    · have HV : Hid (Bn.units X = none) := by rw [HY.out, if_pos h3]; exact rfl
      have hk : (((E : Int) - 1071) != 0) = true := bne_iff_ne.2 (by omega)
      have hk2 : (0 : Int) < (E : Int) - 1071 ∨ (E : Int) - 1071 < -52 := by omega
      clear HY HA h3
      rcases hk2 with hk2 | hk2
      all_goals
        go_enter Tryz.func115, Tryz.ntmps115
        go_wp2
        clear q1 q2 q3 hM2 h1' h2'
        go_loop [8, 9] (fun m k => m = .int .i64 (M5 : Int) ∧ k = .int .i64 ((E : Int) - 1071)) (fun _ _ => 0)
        case atStart => exact ⟨rfl, rfl⟩
        case round =>
          obtain ⟨rfl, rfl⟩ := hrel
          go_wp2
          go_ret2
          rw [HV.out]
          exact ⟨rfl, rfl⟩
    · rw [if_neg h3] at HY
      obtain ⟨F, hF, hF2⟩ : ∃ F : Nat, E + F = 1071 ∧ F ≤ 52 := ⟨1071 - E, by omega, by omega⟩
      have e1 : 1071 - E = F := by omega
      have e2 : (E : Int) = 1071 - F := by omega
      rw [e1] at HY
      rw [e2] at q1 hEb
      obtain ⟨neg, hneg⟩ : ∃ neg : Bool, neg = decide (2147483648 ≤ hi) := ⟨_, rfl⟩
      have HZ : Hid (Bn.units X = Bn.unitsAt neg M5 F) := by
        rw [HY.out]
        unfold Bn.unitsAt
        have := HA.out
        by_cases hh : 2147483648 ≤ hi
        · rw [if_pos (this.2 hh), hneg, decide_eq_true hh]; exact rfl
        · rw [if_neg (fun e => hh (this.1 e)), hneg, decide_eq_false hh]; exact rfl
      have hN : (decide ((2147483648 : Int) ≤ (hi : Int))) = neg := by
        rw [hneg]
        congr 1
        exact propext (by omega)
      clear h3 e1 e2 hF hE0 hE2 HY HA hneg
      go_enter Tryz.func115, Tryz.ntmps115
      go_wp2
      clear q1 q2 q3 hM2 h1' h2' hEb hN
      go_loop [8, 9] (fun m k => ∃ j Q : Nat, j ≤ F ∧ k = .int .i64 ((j : Int) - F) ∧ m = .int .i64 Q ∧ Hid (M5 = Q * 2 ^ j) ∧ Bn.Sm Q) (fun _ k => (- (intOf k)).toNat)
      case atStart => exact ⟨0, M5, by omega, by go_num, rfl, by simp [Hid], H5⟩
      case round =>
        obtain ⟨j, Q, hj, rfl, rfl, HQ, hQ⟩ := hrel
        by_cases hlt : j < F
        · have hk : (((j : Int) - F) != 0) = true := bne_iff_ne.2 (by omega)
          by_cases hodd : Q % 2 = 1
          · have HV : Hid (Bn.units X = none) := HZ.out.trans (Bn.unitsAt_odd HQ.out hlt hodd)
            have ho2 : ((Q : Int) % 2 == 1) = true := beq_iff_eq.2 (by omega)
            clear hodd HZ HQ
            go_wp2
            go_ret2
            rw [HV.out]
            exact ⟨rfl, rfl⟩
          · have HP : Hid (M5 = (Q / 2) * 2 ^ (j + 1)) := by
              show _ = _
              rw [HQ.out, Nat.pow_succ, Nat.mul_comm (2 ^ j) 2, ← Nat.mul_assoc]
              congr 1
              omega
            have ho2 : ((Q : Int) % 2 == 1) = false := beq_eq_false_iff_ne.2 (by omega)
            clear hodd HQ
            go_wp2
            go_round
            case rel =>
              have hQ2 : Q < 9007199254740992 := hQ
              exact ⟨j + 1, Q / 2, by omega, by go_num, by rw [Bn.wrap_half hQ], HP, by show _ < _; omega⟩
            case measure => simp [intOf]; omega
        · have hjF : j = F := by omega
          subst hjF
          have HW := hide (HZ.out.trans (Bn.unitsAt_end HQ.out))
          clear HZ HQ
          by_cases hq : 32768 < Q
          · have HV : Hid (Bn.units X = none) := by rw [HW.out, if_pos hq]; exact rfl
            have hqi : (32768 : Int) < (Q : Int) := by omega
            clear HW
            go_wp2
            go_ret2
            rw [HV.out]
            exact ⟨rfl, rfl⟩
          · rw [if_neg hq] at HW
            have hqi : ¬ (32768 : Int) < (Q : Int) := by omega
            cases neg
            all_goals
              go_wp2
              go_ret2
              rw [HW.out]
              exact ⟨rfl, rfl⟩
end Go.Proofs.YtcclepohmhdpbaaGreatDoor
