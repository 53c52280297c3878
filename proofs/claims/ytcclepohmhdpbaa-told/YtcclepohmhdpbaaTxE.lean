import Derived.Test.YtcclepohmhdpbaaTuD
import Derived.Deep.DeepCutAuto
/- HOW LONG A NUMBER IS: the program's Length, the document's Number. -/
namespace Go.Proofs.Ytcclepohmhdpbaa
set_option linter.all false
open Go.RowKit Go.Deep

namespace Tx
def sgn (p : Bool) (l : List UInt8) (n : Nat) : Nat := if at_ l n = 45 ∨ (p = true ∧ at_ l n = 43) then 1 else 0
def num3 (l : List UInt8) (n : Nat) : Nat :=
  if at_ l n = 101 ∨ at_ l n = 69 then
    if lead (l.drop (n + 1 + sgn true l (n + 1))) = 0 then 0 else n + 1 + sgn true l (n + 1) + lead (l.drop (n + 1 + sgn true l (n + 1)))
  else n
def num2 (l : List UInt8) (n : Nat) : Nat :=
  if at_ l n = 46 then if lead (l.drop (n + 1)) = 0 then 0 else num3 l (n + 1 + lead (l.drop (n + 1)))
  else num3 l n
def num1 (p : Bool) (l : List UInt8) (n : Nat) : Nat :=
  if lead (l.drop n) = 0 then 0
  else if p = false ∧ 1 < lead (l.drop n) ∧ at_ l n = 48 then 0
  else num2 l (n + lead (l.drop n))
/-- How many bytes of l are a number. -/
def num (p : Bool) (l : List UInt8) : Nat := num1 p l (sgn p l 0)
theorem sgn_01 (p : Bool) (l : List UInt8) (n : Nat) : sgn p l n = 1 ∨ sgn p l n = 0 := by
  unfold sgn; split <;> simp
theorem sgn_drop (p : Bool) (l : List UInt8) (k n : Nat) : sgn p (l.drop k) n = sgn p l (k + n) := by simp [sgn, at_drop]
theorem sgn_le (p : Bool) (l : List UInt8) (n : Nat) (hn : n ≤ l.length) : sgn p l n + n ≤ l.length := by
  unfold sgn
  split
  · rename_i h
    have : n < l.length := lt_of_at (by rcases h with h | ⟨_, h⟩ <;> omega)
    omega
  · omega
end Tx

set_option maxHeartbeats 400000 in
theorem signLength_any (l : List UInt8) (w : World) (hl : l.length ≤ 9223372036854775807) :
    Calls Try.prog 59 #[.string (bs l)] w fun e w' => ∃ k : Nat, e = .returned (.int .i64 k) ∧ w' = w ∧ Hid (k = Tx.sgn true l 0) ∧ k ≤ l.length := by
  obtain ⟨S, hS, e0, e1, e2, e3, e4, e5⟩ := tells l
  rw [hS]
  clear e2 e3 e4 e5 hS
  by_cases h0 : 0 < l.length
  · go_enter Try.func59, Try.ntmps59
    go_wp2
    all_goals
      go_ret
    · exact ⟨1, rfl, rfl, by simp [Hid, Tx.sgn, *], h0⟩
    · exact ⟨1, rfl, rfl, by simp_all [Hid, Tx.sgn], h0⟩
    · exact ⟨0, rfl, rfl, by simp_all [Hid, Tx.sgn], by omega⟩
  · have : Tx.at_ l 0 = -1 := Tx.at_ge h0
    go_enter Try.func59, Try.ntmps59
    go_wp2
    go_ret
    exact ⟨0, rfl, rfl, by simp [Hid, Tx.sgn, *], by omega⟩

theorem digitsLength_let (l : List UInt8) (w : World) (hl : l.length ≤ 9223372036854775807) :
    Calls Try.prog 60 #[.string (bs l)] w fun e w' => ∃ k : Nat, e = .returned (.int .i64 k) ∧ w' = w ∧ Hid (k = Tx.lead l) ∧ k ≤ l.length :=
  (digitsLength_any l w hl).mono fun e w' ⟨h1, h2⟩ => ⟨_, h1, h2, rfl, Tx.lead_le l⟩
theorem Tx.at_ge' {l : List UInt8} {i : Nat} (h : l.length ≤ i) : Tx.at_ l i = -1 := Tx.at_ge (by omega)

set_option maxHeartbeats 4000000 in
theorem Length_any (l : List UInt8) (w : World) (hl : l.length ≤ 9223372036854775807) :
    Calls Try.prog 54 #[.string (bs l)] w fun e w' => e = .returned (.int .i64 (Tx.num true l : Nat)) ∧ w' = w := by
  obtain ⟨e0, e1, e2, e3, e4, e5⟩ := bs_tells l
  clear e3 e4 e5
  go_enter Try.func54, Try.ntmps54
  go_wp2_with (first
    | (go_at_call 60; refine (digitsLength_let _ _ (by simp only [List.length_drop]; omega)).mono ?_; rintro e w' ⟨k, rfl, rfl, hk, hle⟩; rw [List.length_drop] at hle)
    | (go_at_call 59; refine (signLength_any _ _ (by first | exact hl | (simp only [List.length_drop]; omega))).mono ?_; rintro e w' ⟨k, rfl, rfl, hk, hle⟩; try rw [List.length_drop] at hle))
  all_goals
    go_ret
    refine ⟨?_, rfl⟩
    clear e0 e1 e2
    simp only [Hid, Tx.sgn_drop, Nat.add_zero, ← Nat.add_assoc, ← Int.add_assoc, Int.not_lt, ← Int.natCast_add, Int.ofNat_le, Int.ofNat_lt] at *
    subst_vars
    try norm_cast at *
    try simp only [← Nat.add_assoc] at *
    show Ending.returned (.int .i64 _) = _
    refine congrArg (fun k : Nat => Ending.returned (.int .i64 (k : Int))) ?_
    simp_all [Tx.num, Tx.num1, Tx.num2, Tx.num3, Tx.at_ge']
end Go.Proofs.Ytcclepohmhdpbaa

/- THE PROGRAM's NUMBERS: the exponent. -/
namespace Go.Proofs.Ytcclepohmhdpbaa
set_option linter.all false
open Go.RowKit Go.Deep

namespace Tx
/-- Digits read on from e, which no longer grows at B. -/
def cap (B : Int) (l : List UInt8) (e : Int) : Int := l.foldl (fun e c => if e < B then e * 10 + ((c.toNat : Int) - 48) else e) e
def allDig (l : List UInt8) : Prop := ∀ c ∈ l, digit c.toNat = true
theorem cap_cons (B : Int) (c : UInt8) (l : List UInt8) (e : Int) : cap B (c :: l) e = cap B l (if e < B then e * 10 + ((c.toNat : Int) - 48) else e) := rfl
theorem dig_at {l : List UInt8} {n i : Nat} (h : allDig (l.drop n)) (hn : n ≤ i) (hi : i < l.length) : 48 ≤ at_ l i ∧ at_ l i ≤ 57 := by
  have hm : l[i] ∈ l.drop n := by
    rw [List.mem_drop_iff_getElem]
    exact ⟨i - n, by omega, by congr 1; omega⟩
  have := h _ hm
  rw [at_lt hi]
  simpa [digit] using this
theorem cap_step {B : Int} {l : List UInt8} {i : Nat} (hi : i < l.length) (e : Int) : cap B (l.drop i) e = cap B (l.drop (i + 1)) (if e < B then e * 10 + (at_ l i - 48) else e) := by
  rw [drop_cons hi, cap_cons, at_lt hi]
theorem cap_end {B : Int} {l : List UInt8} {i : Nat} (hi : ¬ i < l.length) (e : Int) : cap B (l.drop i) e = e := by
  rw [List.drop_of_length_le (Nat.le_of_not_lt hi)]; rfl
end Tx

set_option maxHeartbeats 1000000 in
theorem exponent_any (l : List UInt8) (w : World) (hl : l.length ≤ 9223372036854775807) (hd : Tx.allDig (l.drop (Tx.sgn true l 0))) :
    Calls Try.prog 72 #[.string (bs l)] w fun e w' => e = .returned (.int .i64 (if Tx.at_ l 0 = 45 then - Tx.cap 60000 (l.drop (Tx.sgn true l 0)) 0 else Tx.cap 60000 (l.drop (Tx.sgn true l 0)) 0)) ∧ w' = w := by
  obtain ⟨e0, e1, e2, e3, e4, e5⟩ := bs_tells l
  clear e2 e3 e4 e5
  obtain ⟨n, hn⟩ : ∃ n, n = Tx.sgn true l 0 := ⟨_, rfl⟩
  have hs : n ≤ l.length := by have := Tx.sgn_le true l 0 (Nat.zero_le _); rw [hn]; omega
  rw [← hn] at hd ⊢
  have HN : Hid (n = Tx.sgn true l 0) := hn
  have HD : Hid (Tx.allDig (l.drop n)) := hd
  clear hn hd
  obtain ⟨R, hR⟩ : ∃ R, R = Tx.cap 60000 (l.drop n) 0 := ⟨_, rfl⟩
  rw [← hR]
  have HR : Hid (R = Tx.cap 60000 (l.drop n) 0) := hR
  clear hR
  go_enter Try.func72, Try.ntmps72
  go_wp2_with (go_at_call 59; refine (signLength_any _ _ hl).mono ?_; rintro e w' ⟨k, rfl, rfl, hk, hle⟩; obtain rfl : n = k := HN.out.trans hk.out.symm; clear hk hle)
  go_loop [3, 4] (fun p i => ∃ (q : Nat) (e : Int), q ≤ l.length ∧ n ≤ q ∧ i = .int .i64 q ∧ p = .int .i64 e ∧ 0 ≤ e ∧ e ≤ 600000 ∧ Hid (R = Tx.cap 60000 (l.drop q) e)) (fun _ i => l.length - (intOf i).toNat)
  case atStart => exact ⟨n, 0, hs, Nat.le_refl _, rfl, rfl, by omega, by omega, HR⟩
  case round =>
    obtain ⟨q, e, hq, hnq, rfl, rfl, h0, h6, HE⟩ := hrel
    by_cases hlt : q < l.length
    · obtain ⟨d1, d2⟩ := Tx.dig_at HD.out hnq hlt
      have HS := hide (HE.out.trans (Tx.cap_step hlt e))
      clear HE
      by_cases hc : e < 60000
      · go_wp2
        go_round
        case rel => exact ⟨q + 1, e * 10 + (Tx.at_ l q - 48), by omega, by omega, by go_num, by go_num, by omega, by omega, by have := HS.out; rw [if_pos hc] at this; exact this⟩
        case measure => simp [intOf]; omega
      · go_wp2
        go_round
        case rel => exact ⟨q + 1, e, by omega, by omega, by go_num, rfl, by omega, by omega, by have := HS.out; rw [if_neg hc] at this; exact this⟩
        case measure => simp [intOf]; omega
    · have HS := hide (HE.out.trans (Tx.cap_end hlt e))
      clear HE
      by_cases hz : 0 < l.length
      · by_cases h45 : Tx.at_ l 0 = 45
        · go_wp2
          go_ret
          exact ⟨by rw [HS.out]; rfl, rfl⟩
        · go_wp2
          go_ret
          exact ⟨by rw [HS.out]; rfl, rfl⟩
      · have h45 : ¬ Tx.at_ l 0 = 45 := by rw [Tx.at_ge hz]; decide
        go_wp2
        go_ret
        exact ⟨by rw [HS.out]; rfl, rfl⟩
end Go.Proofs.Ytcclepohmhdpbaa

/- THE PROGRAM's NUMBERS: the amount. -/
namespace Go.Proofs.Ytcclepohmhdpbaa
set_option linter.all false
open Go.RowKit Go.Deep

namespace Tx
/-- What digits say, read on from v. -/
def val (l : List UInt8) (v : Nat) : Nat := l.foldl (fun v c => v * 10 + (c.toNat - 48)) v
theorem val_step {l : List UInt8} {i : Nat} (hi : i < l.length) (v : Nat) : val (l.drop i) v = val (l.drop (i + 1)) (v * 10 + (l[i].toNat - 48)) := by
  rw [drop_cons hi]; rfl
theorem val_end {l : List UInt8} {i : Nat} (hi : ¬ i < l.length) (v : Nat) : val (l.drop i) v = v := by
  rw [List.drop_of_length_le (Nat.le_of_not_lt hi)]; rfl
theorem dig_get {l : List UInt8} {i : Nat} (h : allDig l) (hi : i < l.length) : 48 ≤ l[i].toNat ∧ l[i].toNat ≤ 57 := by
  have := h _ (List.getElem_mem hi)
  have := (show (48 : Int) ≤ (l[i].toNat : Int) ∧ (l[i].toNat : Int) ≤ 57 by simpa [digit] using this)
  omega
/-- The amount in units of digits, trimmed, times ten to the p. -/
def amt (l : List UInt8) (p : Int) : Option Nat :=
  if l = [] then some 0
  else if p < -4 ∨ (l.length : Int) + p > 4 then none
  else if val l 0 * 10 ^ (p + 4).toNat % 625 ≠ 0 ∨ val l 0 * 10 ^ (p + 4).toNat / 625 > 32768 then none
  else some (val l 0 * 10 ^ (p + 4).toNat / 625)
end Tx

def optV : Option Nat → Value
  | some k => .tuple #[.int .i64 (k : Nat), .bool true]
  | none => .tuple #[.int .i64 0, .bool false]

theorem amt_none {l : List UInt8} {p : Int} (h0 : l ≠ []) (h : p < -4 ∨ (l.length : Int) + p > 4) : Tx.amt l p = none := by
  simp [Tx.amt, h0, h]

set_option maxHeartbeats 4000000 in
theorem amountOf_any (b : Bool) (l : List UInt8) (p : Int) (w : World) (hl : l.length ≤ 6000) (hp : -1000000 ≤ p) (hp2 : p ≤ 1000000) (hd : Tx.allDig l) :
    Calls Try.prog 71 #[.agg #[.bool b, .string (bs l), .int .i64 p]] w fun e w' => e = .returned (optV (Tx.amt l p)) ∧ Up w w' := by
  obtain ⟨e0, e1, e2, e3, e4, e5⟩ := bs_tells l
  clear e2 e3 e4 e5
  have HD := hide hd
  clear hd
  by_cases hz : l = []
  · have hz' : l.length = 0 := by rw [hz]; rfl
    have HA := hide (show Tx.amt l p = some 0 by simp [Tx.amt, hz])
    clear hz
    go_enter Try.func71, Try.ntmps71
    go_wp2
    go_ret2
    exact ⟨by rw [HA.out]; rfl, (Up.refl _).alloc _⟩
  · have h1 : 0 < l.length := by cases l with
      | nil => exact absurd rfl hz
      | cons a t => simp
    have hz' : ((l.length : Int) == 0) = false := beq_eq_false_iff_ne.2 (by omega)
    by_cases hlo : p < -4
    · have HA := hide (amt_none hz (.inl hlo))
      clear hz
      go_enter Try.func71, Try.ntmps71
      go_wp2
      go_ret2
      exact ⟨by rw [HA.out]; rfl, (Up.refl _).alloc _⟩
    · by_cases hhi : (l.length : Int) + p > 4
      · have HA := hide (amt_none hz (.inr hhi))
        clear hz
        go_enter Try.func71, Try.ntmps71
        go_wp2
        go_ret2
        exact ⟨by rw [HA.out]; rfl, (Up.refl _).alloc _⟩
      · obtain ⟨V, hV⟩ : ∃ V, V = Tx.val l 0 := ⟨_, rfl⟩
        obtain ⟨T, hT⟩ : ∃ T, T = Tx.val l 0 * 10 ^ (p + 4).toNat := ⟨_, rfl⟩
        have HA := hide (show Tx.amt l p = (if T % 625 ≠ 0 ∨ T / 625 > 32768 then none else some (T / 625)) by
          rw [hT]; unfold Tx.amt; rw [if_neg hz, if_neg (by omega)])
        have HV := hide hV
        have HT := hide hT
        clear hz hV hT
        have h8 : l.length ≤ 8 := by omega
        go_enter Try.func71, Try.ntmps71
        go_wp2
        go_loop [4, 5] (fun s i => ∃ q v : Nat, q ≤ l.length ∧ i = .int .i64 q ∧ s = .int .i64 v ∧ v < 100000000 ∧ Hid (v < 10 ^ q) ∧ Hid (V = Tx.val (l.drop q) v)) (fun _ i => l.length - (intOf i).toNat)
        case atStart => exact ⟨0, 0, Nat.zero_le _, rfl, rfl, by omega, by simp [Hid], HV⟩
        case round =>
          obtain ⟨q, v, hq, rfl, rfl, hv8, Hv, HW⟩ := hrel
          by_cases hlt : q < l.length
          · obtain ⟨d1, d2⟩ := Tx.dig_get HD.out hlt
            have HS := hide (HW.out.trans (Tx.val_step hlt v))
            have e6 : Tx.at_ l q = (l[q].toNat : Int) := Tx.at_lt hlt
            generalize l[q].toNat = c at d1 d2 HS e6
            have Hn : v * 10 + (c - 48) < 10 ^ (q + 1) := by have := Hv.out; rw [Nat.pow_succ]; omega
            have hn8 : v * 10 + (c - 48) < 100000000 := Nat.lt_of_lt_of_le Hn (Nat.pow_le_pow_right (n := 10) (by omega) (show q + 1 ≤ 8 by omega))
            have HN := hide Hn
            clear Hn HW Hv
            go_wp2
            go_round
            case rel => exact ⟨q + 1, v * 10 + (c - 48), by omega, by go_num, by go_num, hn8, HN, HS⟩
            case measure => simp [intOf]; omega
          · obtain rfl : V = v := HW.out.trans (Tx.val_end hlt v)
            obtain rfl : q = l.length := by omega
            clear HW
            obtain ⟨J, hJ⟩ : ∃ J : Nat, J = (p + 4).toNat := ⟨_, rfl⟩
            have hJ' : (J : Int) = p + 4 := by omega
            have hJ8 : l.length + J ≤ 8 := by omega
            have HT' : Hid (T = V * 10 ^ J) := by have := HT.out; rw [← HV.out, ← hJ] at this; exact this
            clear HT HV hJ
            obtain rfl : p = (J : Int) - 4 := by omega
            clear hJ'
            go_wp2
            go_loop [4, 6] (fun s i => ∃ j u : Nat, j ≤ J ∧ i = .int .i64 ((J : Int) - 4 - j) ∧ s = .int .i64 u ∧ u < 100000000 ∧ Hid (u = V * 10 ^ j)) (fun _ i => (intOf i + 4).toNat)
            case atStart => exact ⟨0, V, Nat.zero_le _, by simp, rfl, hv8, by simp [Hid]⟩
            case round =>
              obtain ⟨j, u, hj, rfl, rfl, hu8, HU⟩ := hrel
              by_cases hlt2 : j < J
              · have Hn : u * 10 = V * 10 ^ (j + 1) := by rw [HU.out, Nat.pow_succ, Nat.mul_assoc]
                have hn8 : u * 10 < 100000000 := by
                  rw [Hn]
                  have a1 : V * 10 ^ (j + 1) < 10 ^ l.length * 10 ^ (j + 1) := Nat.mul_lt_mul_of_pos_right Hv.out (Nat.pos_of_ne_zero (by simp))
                  rw [← Nat.pow_add] at a1
                  exact Nat.lt_of_lt_of_le a1 (Nat.pow_le_pow_right (n := 10) (by omega) (show l.length + (j + 1) ≤ 8 by omega))
                have HN := hide Hn
                clear Hn HU
                go_wp2
                go_round
                case rel => exact ⟨j + 1, u * 10, by omega, by go_num, by go_num, hn8, HN⟩
                case measure => simp [intOf]; omega
              · obtain rfl : j = J := by omega
                obtain rfl : T = u := HT'.out.trans HU.out.symm
                clear HU HT' Hv
                by_cases r1 : T % 625 = 0
                · by_cases r2 : T / 625 > 32768
                  · have HB := hide (HA.out.trans (if_pos (.inr r2)))
                    go_wp2
                    go_ret2
                    exact ⟨by rw [HB.out]; rfl, (Up.refl _).alloc _⟩
                  · have HB := hide (HA.out.trans (if_neg (by omega)))
                    go_wp2
                    go_ret2
                    exact ⟨by rw [HB.out]; rfl, (Up.refl _).alloc _⟩
                · have HB := hide (HA.out.trans (if_pos (.inl r1)))
                  go_wp2
                  go_ret2
                  exact ⟨by rw [HB.out]; rfl, (Up.refl _).alloc _⟩
end Go.Proofs.Ytcclepohmhdpbaa
