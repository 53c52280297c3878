/- BYTES: bits of unsigned numbers, as arithmetic. -/
import Derived.Test.YtcclepohmhdpbaaBnOut
import Derived.Laws.Bits64b
namespace Go.Proofs.Ytcclepohmhdpbaa
set_option linter.all false

namespace Bn
theorem or_low (a b i : Nat) (hb : b < 2 ^ i) : (a * 2 ^ i) ||| b = a * 2 ^ i + b := by
  rw [Nat.mul_comm]
  exact (Nat.two_pow_add_eq_or_of_lt hb a).symm
/-- One byte more. -/
theorem u64_byte (v b : Nat) (hv : v < 72057594037927936) (hb : b < 256) : bits .or .u64 ((v : Int) * 256) (b : Int) = ((v * 256 + b : Nat) : Int) := by
  have h := bits_or_u64_nat (v * 256) b (by omega) (by omega)
  have e : ((v * 256 : Nat) : Int) = (v : Int) * 256 := by omega
  rw [e] at h
  rw [h, show 256 = 2 ^ 8 from rfl, or_low v b 8 hb]
theorem u64_mask (x : Nat) (n m : Nat) (hx : x < 18446744073709551616) (hm : m = 2 ^ n - 1) (hn : m < 18446744073709551616) : bits .and .u64 (x : Int) (m : Int) = ((x % 2 ^ n : Nat) : Int) := by
  rw [bits_and_u64_nat x m hx hn, hm, Nat.and_two_pow_sub_one_eq_mod]
theorem u64_first (x : Nat) (hx : x < 4503599627370496) : bits .or .u64 (x : Int) 4503599627370496 = ((x + 4503599627370496 : Nat) : Int) := by
  have h := bits_or_u64_nat x 4503599627370496 (by omega) (by omega)
  rw [show ((4503599627370496 : Nat) : Int) = 4503599627370496 from rfl] at h
  rw [h, Nat.or_comm]
  have := or_low 1 x 52 (by simpa using hx)
  simp only [Nat.one_mul, show 2 ^ 52 = 4503599627370496 from rfl] at this
  rw [this, Nat.add_comm]
theorem and_sign (x : Nat) (hx : x < 18446744073709551616) : x &&& 9223372036854775808 = if 9223372036854775808 ≤ x then 9223372036854775808 else 0 := by
  have h1 : (x &&& 2 ^ 63) / 2 ^ 63 = x / 2 ^ 63 &&& 2 ^ 63 / 2 ^ 63 := Nat.and_div_two_pow
  have h2 : (x &&& 2 ^ 63) % 2 ^ 63 = x % 2 ^ 63 &&& 2 ^ 63 % 2 ^ 63 := Nat.and_mod_two_pow
  rw [show (2 ^ 63 : Nat) = 9223372036854775808 from rfl] at h1 h2
  rw [show (9223372036854775808 : Nat) / 9223372036854775808 = 1 from rfl] at h1
  rw [show (9223372036854775808 : Nat) % 9223372036854775808 = 0 from rfl, Nat.and_zero] at h2
  generalize x &&& 9223372036854775808 = y at *
  by_cases hs : 9223372036854775808 ≤ x
  · rw [show x / 9223372036854775808 = 1 by omega, Nat.and_self] at h1
    rw [if_pos hs]
    omega
  · rw [show x / 9223372036854775808 = 0 by omega, Nat.zero_and] at h1
    rw [if_neg hs]
    omega
theorem u64_sign (x : Nat) (hx : x < 18446744073709551616) : bits .and .u64 (x : Int) 9223372036854775808 = if 9223372036854775808 ≤ x then 9223372036854775808 else 0 := by
  have h := bits_and_u64_nat x 9223372036854775808 hx (by omega)
  rw [show ((9223372036854775808 : Nat) : Int) = 9223372036854775808 from rfl] at h
  rw [h, and_sign x hx]
  split <;> rfl
/-- A double's three parts. -/
theorem u64_parts (neg : Bool) (e m : Nat) (he : e < 2048) (hm : m < 4503599627370496) :
    bits .or .u64 (bits .or .u64 (if neg = true then 9223372036854775808 else 0) ((e : Int) * 4503599627370496)) (m : Int) = (((if neg = true then 9223372036854775808 else 0) + e * 4503599627370496 + m : Nat) : Int) := by
  have a1 : bits .or .u64 (if neg = true then 9223372036854775808 else 0) ((e : Int) * 4503599627370496) = (((if neg = true then 2048 else 0) + e) * 4503599627370496 : Nat) := by
    have h := bits_or_u64_nat (if neg = true then 9223372036854775808 else 0) (e * 4503599627370496) (by split <;> omega) (by omega)
    have c1 : ((if neg = true then 9223372036854775808 else 0 : Nat) : Int) = if neg = true then 9223372036854775808 else 0 := by split <;> rfl
    have c2 : ((e * 4503599627370496 : Nat) : Int) = (e : Int) * 4503599627370496 := by omega
    rw [c1, c2] at h
    rw [h]
    congr 1
    cases neg
    · simp
    · have := or_low 1 (e * 4503599627370496) 63 (by show _ < 9223372036854775808; omega)
      rw [show 1 * 2 ^ 63 = 9223372036854775808 from rfl] at this
      rw [if_pos rfl, if_pos rfl, this]
      omega
  rw [a1]
  have b1 : ((if neg = true then 2048 else 0) + e) * 4503599627370496 < 18446744073709551616 := by split <;> omega
  rw [bits_or_u64_nat _ m b1 (by omega)]
  have := or_low ((if neg = true then 2048 else 0) + e) m 52 (by show _ < 4503599627370496; omega)
  rw [show 2 ^ 52 = 4503599627370496 from rfl] at this
  rw [this]
  congr 1
  cases neg <;> simp <;> omega
end Bn
end Go.Proofs.Ytcclepohmhdpbaa
