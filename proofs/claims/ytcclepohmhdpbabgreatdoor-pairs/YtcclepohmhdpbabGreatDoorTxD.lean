/- THE PROGRAM's NUMBERS: the exponent. -/
import Derived.Test.YtcclepohmhdpbabGreatDoorTxB
namespace Go.Proofs.YtcclepohmhdpbabGreatDoor
set_option linter.all false
open Go.RowKit Go.Deep

namespace Tx
/-- Digits read on from e, which no longer grows at B. -/
def cap (B : Int) (l : List UInt8) (e : Int) : Int := l.foldl (fun e c => if e < B then e * 10 + ((c.toNat : Int) - 48) else e) e
def allDig (l : List UInt8) : Prop := ∀ c ∈ l, digit c.toNat = true
theorem cap_cons (B : Int) (c : UInt8) (l : List UInt8) (e : Int) : cap B (c :: l) e = cap B l (if e < B then e * 10 + ((c.toNat : Int) - 48) else e) := rfl
theorem dig_at {l : List UInt8} {n i : Nat} (h : allDig (l.drop n)) (hn : n ≤ i) (hi : i < l.length) : 48 ≤ at_ l i ∧ at_ l i ≤ 57 := by
  have hm : l[i] ∈ l.drop n := by
    rw [List.mem_drop_iff_getElem]
    exact ⟨i - n, by omega, by congr 1; omega⟩
  have := h _ hm
  rw [at_lt hi]
  simpa [digit] using this
theorem cap_step {B : Int} {l : List UInt8} {i : Nat} (hi : i < l.length) (e : Int) : cap B (l.drop i) e = cap B (l.drop (i + 1)) (if e < B then e * 10 + (at_ l i - 48) else e) := by
  rw [drop_cons hi, cap_cons, at_lt hi]
theorem cap_end {B : Int} {l : List UInt8} {i : Nat} (hi : ¬ i < l.length) (e : Int) : cap B (l.drop i) e = e := by
  rw [List.drop_of_length_le (Nat.le_of_not_lt hi)]; rfl
end Tx

set_option maxHeartbeats 1000000 in
theorem exponent_any (l : List UInt8) (w : World) (hl : l.length ≤ 9223372036854775807) (hd : Tx.allDig (l.drop (Tx.sgn true l 0))) :
    Calls Tryz.prog 168 #[.string (bs l)] w fun e w' => e = .returned (.int .i64 (if Tx.at_ l 0 = 45 then - Tx.cap 60000 (l.drop (Tx.sgn true l 0)) 0 else Tx.cap 60000 (l.drop (Tx.sgn true l 0)) 0)) ∧ w' = w := by
  obtain ⟨e0, e1, e2, e3, e4, e5⟩ := bs_tells l
  clear e2 e3 e4 e5
  obtain ⟨n, hn⟩ : ∃ n, n = Tx.sgn true l 0 := ⟨_, rfl⟩
  have hs : n ≤ l.length := by have := Tx.sgn_le true l 0 (Nat.zero_le _); rw [hn]; omega
  rw [← hn] at hd ⊢
  have HN : Hid (n = Tx.sgn true l 0) := hn
  have HD : Hid (Tx.allDig (l.drop n)) := hd
  clear hn hd
  obtain ⟨R, hR⟩ : ∃ R, R = Tx.cap 60000 (l.drop n) 0 := ⟨_, rfl⟩
  rw [← hR]
  have HR : Hid (R = Tx.cap 60000 (l.drop n) 0) := hR
  clear hR
  go_enter Tryz.func168, Tryz.ntmps168
  go_wp2_with (go_at_call 155; refine (signLength_any _ _ hl).mono ?_; rintro e w' ⟨k, rfl, rfl, hk, hle⟩; obtain rfl : n = k := HN.out.trans hk.out.symm; clear hk hle)
  go_loop [3, 4] (fun p i => ∃ (q : Nat) (e : Int), q ≤ l.length ∧ n ≤ q ∧ i = .int .i64 q ∧ p = .int .i64 e ∧ 0 ≤ e ∧ e ≤ 600000 ∧ Hid (R = Tx.cap 60000 (l.drop q) e)) (fun _ i => l.length - (intOf i).toNat)
  case atStart => exact ⟨n, 0, hs, Nat.le_refl _, rfl, rfl, by omega, by omega, HR⟩
  case round =>
    obtain ⟨q, e, hq, hnq, rfl, rfl, h0, h6, HE⟩ := hrel
    by_cases hlt : q < l.length
    · obtain ⟨d1, d2⟩ := Tx.dig_at HD.out hnq hlt
      have HS := hide (HE.out.trans (Tx.cap_step hlt e))
      clear HE
      by_cases hc : e < 60000
      · go_wp2
        go_round
        case rel => exact ⟨q + 1, e * 10 + (Tx.at_ l q - 48), by omega, by omega, by go_num, by go_num, by omega, by omega, by have := HS.out; rw [if_pos hc] at this; exact this⟩
        case measure => simp [intOf]; omega
      · go_wp2
        go_round
        case rel => exact ⟨q + 1, e, by omega, by omega, by go_num, rfl, by omega, by omega, by have := HS.out; rw [if_neg hc] at this; exact this⟩
        case measure => simp [intOf]; omega
    · have HS := hide (HE.out.trans (Tx.cap_end hlt e))
      clear HE
      by_cases hz : 0 < l.length
      · by_cases h45 : Tx.at_ l 0 = 45
        · go_wp2
          go_ret
          exact ⟨by rw [HS.out]; rfl, rfl⟩
        · go_wp2
          go_ret
          exact ⟨by rw [HS.out]; rfl, rfl⟩
      · have h45 : ¬ Tx.at_ l 0 = 45 := by rw [Tx.at_ge hz]; decide
        go_wp2
        go_ret
        exact ⟨by rw [HS.out]; rfl, rfl⟩
end Go.Proofs.YtcclepohmhdpbabGreatDoor
