/- THE PROGRAM's NUMBERS: the amount. -/
import Derived.Test.YtcclepohmhdpbabGreatDoorTxD
namespace Go.Proofs.YtcclepohmhdpbabGreatDoor
set_option linter.all false
open Go.RowKit Go.Deep

namespace Tx
/-- What digits say, read on from v. -/
def val (l : List UInt8) (v : Nat) : Nat := l.foldl (fun v c => v * 10 + (c.toNat - 48)) v
theorem val_step {l : List UInt8} {i : Nat} (hi : i < l.length) (v : Nat) : val (l.drop i) v = val (l.drop (i + 1)) (v * 10 + (l[i].toNat - 48)) := by
  rw [drop_cons hi]; rfl
theorem val_end {l : List UInt8} {i : Nat} (hi : ¬ i < l.length) (v : Nat) : val (l.drop i) v = v := by
  rw [List.drop_of_length_le (Nat.le_of_not_lt hi)]; rfl
theorem dig_get {l : List UInt8} {i : Nat} (h : allDig l) (hi : i < l.length) : 48 ≤ l[i].toNat ∧ l[i].toNat ≤ 57 := by
  have := h _ (List.getElem_mem hi)
  have := (show (48 : Int) ≤ (l[i].toNat : Int) ∧ (l[i].toNat : Int) ≤ 57 by simpa [digit] using this)
  omega
/-- The amount in units of digits, trimmed, times ten to the p. -/
def amt (l : List UInt8) (p : Int) : Option Nat :=
  if l = [] then some 0
  else if p < -4 ∨ (l.length : Int) + p > 4 then none
  else if val l 0 * 10 ^ (p + 4).toNat % 625 ≠ 0 ∨ val l 0 * 10 ^ (p + 4).toNat / 625 > 32768 then none
  else some (val l 0 * 10 ^ (p + 4).toNat / 625)
end Tx

def optV : Option Nat → Value
  | some k => .tuple #[.int .i64 (k : Nat), .bool true]
  | none => .tuple #[.int .i64 0, .bool false]

theorem amt_none {l : List UInt8} {p : Int} (h0 : l ≠ []) (h : p < -4 ∨ (l.length : Int) + p > 4) : Tx.amt l p = none := by
  simp [Tx.amt, h0, h]

set_option maxHeartbeats 4000000 in
theorem amountOf_any (b : Bool) (l : List UInt8) (p : Int) (w : World) (hl : l.length ≤ 6000) (hp : -1000000 ≤ p) (hp2 : p ≤ 1000000) (hd : Tx.allDig l) :
    Calls Tryz.prog 167 #[.agg #[.bool b, .string (bs l), .int .i64 p]] w fun e w' => e = .returned (optV (Tx.amt l p)) ∧ Up w w' := by
  obtain ⟨e0, e1, e2, e3, e4, e5⟩ := bs_tells l
  clear e2 e3 e4 e5
  have HD := hide hd
  clear hd
  by_cases hz : l = []
  · have hz' : l.length = 0 := by rw [hz]; rfl
    have HA := hide (show Tx.amt l p = some 0 by simp [Tx.amt, hz])
    clear hz
    go_enter Tryz.func167, Tryz.ntmps167
    go_wp2
    go_ret2
    exact ⟨by rw [HA.out]; rfl, (Up.refl _).alloc _⟩
  · have h1 : 0 < l.length := by cases l with
      | nil => exact absurd rfl hz
      | cons a t => simp
    have hz' : ((l.length : Int) == 0) = false := beq_eq_false_iff_ne.2 (by omega)
    by_cases hlo : p < -4
    · have HA := hide (amt_none hz (.inl hlo))
      clear hz
      go_enter Tryz.func167, Tryz.ntmps167
      go_wp2
      go_ret2
      exact ⟨by rw [HA.out]; rfl, (Up.refl _).alloc _⟩
    · by_cases hhi : (l.length : Int) + p > 4
      · have HA := hide (amt_none hz (.inr hhi))
        clear hz
        go_enter Tryz.func167, Tryz.ntmps167
        go_wp2
        go_ret2
        exact ⟨by rw [HA.out]; rfl, (Up.refl _).alloc _⟩
      · obtain ⟨V, hV⟩ : ∃ V, V = Tx.val l 0 := ⟨_, rfl⟩
        obtain ⟨T, hT⟩ : ∃ T, T = Tx.val l 0 * 10 ^ (p + 4).toNat := ⟨_, rfl⟩
        have HA := hide (show Tx.amt l p = (if T % 625 ≠ 0 ∨ T / 625 > 32768 then none else some (T / 625)) by
          rw [hT]; unfold Tx.amt; rw [if_neg hz, if_neg (by omega)])
        have HV := hide hV
        have HT := hide hT
        clear hz hV hT
        have h8 : l.length ≤ 8 := by omega
        go_enter Tryz.func167, Tryz.ntmps167
        go_wp2
        go_loop [4, 5] (fun s i => ∃ q v : Nat, q ≤ l.length ∧ i = .int .i64 q ∧ s = .int .i64 v ∧ v < 100000000 ∧ Hid (v < 10 ^ q) ∧ Hid (V = Tx.val (l.drop q) v)) (fun _ i => l.length - (intOf i).toNat)
        case atStart => exact ⟨0, 0, Nat.zero_le _, rfl, rfl, by omega, by simp [Hid], HV⟩
        case round =>
          obtain ⟨q, v, hq, rfl, rfl, hv8, Hv, HW⟩ := hrel
          by_cases hlt : q < l.length
          · obtain ⟨d1, d2⟩ := Tx.dig_get HD.out hlt
            have HS := hide (HW.out.trans (Tx.val_step hlt v))
            have e6 : Tx.at_ l q = (l[q].toNat : Int) := Tx.at_lt hlt
            generalize l[q].toNat = c at d1 d2 HS e6
            have Hn : v * 10 + (c - 48) < 10 ^ (q + 1) := by have := Hv.out; rw [Nat.pow_succ]; omega
            have hn8 : v * 10 + (c - 48) < 100000000 := Nat.lt_of_lt_of_le Hn (Nat.pow_le_pow_right (n := 10) (by omega) (show q + 1 ≤ 8 by omega))
            have HN := hide Hn
            clear Hn HW Hv
            go_wp2
            go_round
            case rel => exact ⟨q + 1, v * 10 + (c - 48), by omega, by go_num, by go_num, hn8, HN, HS⟩
            case measure => simp [intOf]; omega
          · obtain rfl : V = v := HW.out.trans (Tx.val_end hlt v)
            obtain rfl : q = l.length := by omega
            clear HW
            obtain ⟨J, hJ⟩ : ∃ J : Nat, J = (p + 4).toNat := ⟨_, rfl⟩
            have hJ' : (J : Int) = p + 4 := by omega
            have hJ8 : l.length + J ≤ 8 := by omega
            have HT' : Hid (T = V * 10 ^ J) := by have := HT.out; rw [← HV.out, ← hJ] at this; exact this
            clear HT HV hJ
            obtain rfl : p = (J : Int) - 4 := by omega
            clear hJ'
            go_wp2
            go_loop [4, 6] (fun s i => ∃ j u : Nat, j ≤ J ∧ i = .int .i64 ((J : Int) - 4 - j) ∧ s = .int .i64 u ∧ u < 100000000 ∧ Hid (u = V * 10 ^ j)) (fun _ i => (intOf i + 4).toNat)
            case atStart => exact ⟨0, V, Nat.zero_le _, by simp, rfl, hv8, by simp [Hid]⟩
            case round =>
              obtain ⟨j, u, hj, rfl, rfl, hu8, HU⟩ := hrel
              by_cases hlt2 : j < J
              · have Hn : u * 10 = V * 10 ^ (j + 1) := by rw [HU.out, Nat.pow_succ, Nat.mul_assoc]
                have hn8 : u * 10 < 100000000 := by
                  rw [Hn]
                  have a1 : V * 10 ^ (j + 1) < 10 ^ l.length * 10 ^ (j + 1) := Nat.mul_lt_mul_of_pos_right Hv.out (Nat.pos_of_ne_zero (by simp))
                  rw [← Nat.pow_add] at a1
                  exact Nat.lt_of_lt_of_le a1 (Nat.pow_le_pow_right (n := 10) (by omega) (show l.length + (j + 1) ≤ 8 by omega))
                have HN := hide Hn
                clear Hn HU
                go_wp2
                go_round
                case rel => exact ⟨j + 1, u * 10, by omega, by go_num, by go_num, hn8, HN⟩
                case measure => simp [intOf]; omega
              · obtain rfl : j = J := by omega
                obtain rfl : T = u := HT'.out.trans HU.out.symm
                clear HU HT' Hv
                by_cases r1 : T % 625 = 0
                · by_cases r2 : T / 625 > 32768
                  · have HB := hide (HA.out.trans (if_pos (.inr r2)))
                    go_wp2
                    go_ret2
                    exact ⟨by rw [HB.out]; rfl, (Up.refl _).alloc _⟩
                  · have HB := hide (HA.out.trans (if_neg (by omega)))
                    go_wp2
                    go_ret2
                    exact ⟨by rw [HB.out]; rfl, (Up.refl _).alloc _⟩
                · have HB := hide (HA.out.trans (if_pos (.inl r1)))
                  go_wp2
                  go_ret2
                  exact ⟨by rw [HB.out]; rfl, (Up.refl _).alloc _⟩
end Go.Proofs.YtcclepohmhdpbabGreatDoor
