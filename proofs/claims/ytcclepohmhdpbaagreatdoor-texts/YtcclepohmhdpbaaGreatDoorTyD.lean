/- THE DOCUMENT's NUMBERS, WRITTEN: their digits. -/
import Derived.Test.YtcclepohmhdpbaaGreatDoorTxL
import Derived.Test.YtcclepohmhdpbaaGreatDoorTxF
namespace Go.Proofs.YtcclepohmhdpbaaGreatDoor
set_option linter.all false
open Go.RowKit Go.Deep

namespace Dc
/-- The digits, four at the least. -/
def dl : Nat → Nat → Nat → List UInt8 → List UInt8
  | 0, _, _, s => s
  | f + 1, i, n, s => if i < 4 ∨ 0 < n then dl f (i + 1) (n / 10) (UInt8.ofNat (48 + n % 10) :: s) else s
def digs (k : Nat) : List UInt8 := dl 30 0 (k * 625) []
def whole (s : List UInt8) : List UInt8 := if s.take (s.length - 4) = [] then [48] else s.take (s.length - 4)
def part (s : List UInt8) : List UInt8 := if Tx.trR (s.drop (s.length - 4)) = [] then [] else 46 :: Tx.trR (s.drop (s.length - 4))
def txt (x : Int) : List UInt8 := (if x < 0 then [45] else []) ++ (whole (digs x.natAbs) ++ part (digs x.natAbs))
theorem dl_step {f i n : Nat} {s : List UInt8} (h : i < 4 ∨ 0 < n) : dl (f + 1) i n s = dl f (i + 1) (n / 10) (UInt8.ofNat (48 + n % 10) :: s) := by rw [dl, if_pos h]
theorem dl_end {f i n : Nat} {s : List UInt8} (h : ¬ (i < 4 ∨ 0 < n)) : dl (f + 1) i n s = s := by rw [dl, if_neg h]
/-- (A bound that no simp looks into.) -/
def Bd (i n : Nat) : Prop := n < 10 ^ (12 - i)
theorem Bd.step {i n : Nat} (h : Bd i n) (hi : i < 12) : Bd (i + 1) (n / 10) := by
  unfold Bd at *
  rw [show 12 - i = 12 - (i + 1) + 1 by omega, Nat.pow_succ] at h
  omega
theorem Bd.last {n : Nat} (h : Bd 12 n) : n = 0 := by unfold Bd at h; simp at h; exact h
end Dc

namespace Dc
/-- The digits of n ahead of s (none for nought). -/
def dn (n : Nat) : List UInt8 := if n = 0 then [] else Lib.decDigits n
theorem dn_step {n : Nat} (h : 0 < n) : dn n = dn (n / 10) ++ [UInt8.ofNat (48 + n % 10)] := by
  unfold dn
  rw [if_neg (by omega)]
  by_cases hs : n < 10
  · rw [Lib.decDigits, dif_pos hs, if_pos (by omega), Nat.mod_eq_of_lt hs]; rfl
  · rw [Lib.decDigits, dif_neg hs, if_neg (by omega)]
theorem dl_high : ∀ (f i n : Nat) (s : List UInt8), 4 ≤ i → n < 10 ^ f → dl (f + 1) i n s = dn n ++ s
  | f, i, n, s, hi, hn => by
    by_cases h0 : n = 0
    · subst h0
      rw [dl_end (by omega)]; rfl
    · rw [dl_step (.inr (by omega)), dn_step (by omega)]
      cases f with
      | zero => simp at hn; omega
      | succ f =>
        rw [dl_high f (i + 1) (n / 10) _ (by omega) (by rw [Nat.pow_succ] at hn; omega)]
        simp
theorem digs_eq (K : Nat) (hK : K ≤ 32768) : digs K = dn (K * 625 / 10000) ++ [UInt8.ofNat (48 + K * 625 / 1000 % 10), UInt8.ofNat (48 + K * 625 / 100 % 10), UInt8.ofNat (48 + K * 625 / 10 % 10), UInt8.ofNat (48 + K * 625 % 10)] := by
  unfold digs
  rw [dl_step (.inl (by omega)), dl_step (.inl (by omega)), dl_step (.inl (by omega)), dl_step (.inl (by omega))]
  rw [dl_high 25 _ _ _ (by omega) (by simp only [Nat.div_div_eq_div_mul]; omega)]
  simp only [Nat.div_div_eq_div_mul]
theorem txt_eq (x : Int) (h1 : -32768 ≤ x) (h2 : x ≤ 32768) : txt x = Tx.txt x := by
  unfold txt Tx.txt
  obtain ⟨K, hK⟩ : ∃ K, K = x.natAbs := ⟨_, rfl⟩
  rw [← hK, digs_eq K (by omega), List.append_assoc]
  congr 1
  have a1 : K * 625 / 10000 = K / 16 := by omega
  have b2 : K * 625 / 1000 = K % 16 * 625 / 1000 + 10 * (K / 16) := by omega
  have b3 : K * 625 / 100 = K % 16 * 625 / 100 + 10 * (10 * (K / 16)) := by omega
  have b4 : K * 625 / 10 = K % 16 * 625 / 10 + 10 * (100 * (K / 16)) := by omega
  have a2 : K * 625 / 1000 % 10 = K % 16 * 625 / 1000 % 10 := by rw [b2, Nat.add_mul_mod_self_left]
  have a3 : K * 625 / 100 % 10 = K % 16 * 625 / 100 % 10 := by rw [b3, Nat.add_mul_mod_self_left]
  have a4 : K * 625 / 10 % 10 = K % 16 * 625 / 10 % 10 := by rw [b4, Nat.add_mul_mod_self_left]
  clear b2 b3 b4
  have a5 : K * 625 % 10 = K % 16 * 625 % 10 := by omega
  rw [a1, a2, a3, a4, a5]
  have hu : K % 16 < 16 := Nat.mod_lt _ (by omega)
  generalize K % 16 = u at *
  generalize K / 16 = v at *
  congr 1
  · unfold whole
    simp only [List.length_append, List.length_cons, List.length_nil, Nat.add_sub_cancel, List.take_left']
    unfold dn
    by_cases hv : v = 0
    · subst hv
      simp [Lib.decDigits]
    · rw [if_neg hv]
      have : Lib.decDigits v ≠ [] := by
        intro e
        rw [Lib.decDigits] at e
        split at e <;> simp at e
      simp [this]
  · unfold part
    simp only [List.length_append, List.length_cons, List.length_nil, Nat.add_sub_cancel, List.drop_left']
    clear a1 a2 a3 a4 a5 hK h1 h2
    revert u
    decide
end Dc
end Go.Proofs.YtcclepohmhdpbaaGreatDoor
