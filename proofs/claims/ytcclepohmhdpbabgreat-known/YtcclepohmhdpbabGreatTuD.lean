import Derived.Test.YtcclepohmhdpbabGreatStr
/- THE WALKS OVER TEXTS: bytes, blanks, digits. -/
namespace Go.Proofs.YtcclepohmhdpbabGreat
set_option linter.all false
open Go.RowKit Go.Deep

set_option maxHeartbeats 400000 in
theorem wisBlank_any (x : Int) (w : World) :
    Calls Tryz.prog 80 #[.int .u8 x] w fun e w' => e = .returned (.bool (Tx.blank x)) ∧ w' = w := by
  unfold Tx.blank
  go_enter Tryz.func80, Tryz.ntmps80
  go_wp2
  all_goals
    go_ret
    exact ⟨by simp [*], rfl⟩

set_option maxHeartbeats 1000000 in
theorem digitsLength_any (l : List UInt8) (w : World) (hl : l.length ≤ 9223372036854775807) :
    Calls Tryz.prog 105 #[.string (bs l)] w fun e w' => e = .returned (.int .i64 (Tx.lead l : Nat)) ∧ w' = w := by
  obtain ⟨e0, e1, e2, e3, e4, e5⟩ := bs_tells l
  clear e2 e3 e4 e5
  generalize bs l = S at e0 e1 ⊢
  go_enter Tryz.func105, Tryz.ntmps105
  go_wp2
  go_loop [3] (fun s => ∃ n : Nat, n ≤ l.length ∧ s = .int .i64 n ∧ Tx.lead l = n + Tx.lead (l.drop n)) (fun s => l.length - (intOf s).toNat)
  case atStart => exact ⟨0, Nat.zero_le _, rfl, by simp⟩
  case round =>
    obtain ⟨n, hk, rfl, hb⟩ := hrel
    by_cases hn : n < l.length
    · have HB : Hid (Tx.lead l = _) := Tx.lead_drop hn hb
      clear hb
      by_cases h1 : 48 ≤ Tx.at_ l n
      · by_cases h2 : Tx.at_ l n ≤ 57
        · have hd : Hid (Tx.digit (Tx.at_ l n) = true) := by simp [Hid, Tx.digit, h1, h2]
          go_wp2
          go_round
          case rel => exact ⟨n + 1, by omega, by go_num, by rw [HB.out, if_pos hd.out]⟩
          case measure => simp [intOf]; omega
        · have hd : Hid (Tx.digit (Tx.at_ l n) = false) := by simp [Hid, Tx.digit, h1, h2]
          go_wp2
          go_ret
          exact ⟨by rw [HB.out, hd.out]; rfl, rfl⟩
      · have hd : Hid (Tx.digit (Tx.at_ l n) = false) := by simp [Hid, Tx.digit, h1]
        go_wp2
        go_ret
        exact ⟨by rw [HB.out, hd.out]; rfl, rfl⟩
    · have HB : Hid (Tx.lead l = n) := Tx.lead_end hn hb
      clear hb
      go_wp2
      go_ret
      exact ⟨by rw [HB.out]; rfl, rfl⟩
end Go.Proofs.YtcclepohmhdpbabGreat

/- THE DOCUMENT's NUMBERS: what its units are, plainly. -/
namespace Go.Proofs.YtcclepohmhdpbabGreat
set_option linter.all false
open Go.RowKit Go.Deep

namespace Du
/-- The digits ahead of the e; where the point stands; the e and what follows. -/
def scan : List UInt8 → List Nat → Int → List Nat × Int × List UInt8
  | [], d, p => (d, p, [])
  | c :: t, d, p => if c.toNat = 101 ∨ c.toNat = 69 then (d, p, c :: t) else scan t (if Tx.digit c.toNat = true then d ++ [c.toNat - 48] else d) (if c.toNat = 46 then (d.length : Int) else p)
theorem scan_e {l : List UInt8} {i : Nat} {d : List Nat} {p : Int} (hi : i < l.length) (h : Tx.at_ l i = 101 ∨ Tx.at_ l i = 69) : scan (l.drop i) d p = (d, p, l.drop i) := by
  rw [Tx.at_lt hi] at h
  rw [Tx.drop_cons hi, scan, if_pos (by omega)]
theorem scan_step {l : List UInt8} {i : Nat} {d : List Nat} {p : Int} (hi : i < l.length) (h1 : Tx.at_ l i ≠ 101) (h2 : Tx.at_ l i ≠ 69) : scan (l.drop i) d p = scan (l.drop (i + 1)) (if Tx.digit (Tx.at_ l i) = true then d ++ [(Tx.at_ l i - 48).toNat] else d) (if Tx.at_ l i = 46 then (d.length : Int) else p) := by
  rw [Tx.at_lt hi] at h1 h2
  rw [Tx.drop_cons hi, scan, if_neg (by omega), Tx.at_lt hi]
  have e1 : ((l[i].toNat : Int) - 48).toNat = l[i].toNat - 48 := by omega
  have e2 : ((l[i].toNat : Int) = 46) = (l[i].toNat = 46) := by apply propext; omega
  rw [e1]
  simp only [e2]
theorem scan_end {l : List UInt8} {i : Nat} {d : List Nat} {p : Int} (hi : ¬ i < l.length) : scan (l.drop i) d p = (d, p, l.drop i) := by
  rw [List.drop_of_length_le (Nat.le_of_not_lt hi)]; rfl
def capD : List UInt8 → Nat → Nat
  | [], e => e
  | c :: t, e => capD t (if Tx.digit c.toNat = true ∧ e < 100000 then 10 * e + (c.toNat - 48) else e)
theorem capD_step {l : List UInt8} {i e : Nat} (hi : i < l.length) : capD (l.drop i) e = capD (l.drop (i + 1)) (if Tx.digit (Tx.at_ l i) = true ∧ e < 100000 then 10 * e + (Tx.at_ l i - 48).toNat else e) := by
  rw [Tx.drop_cons hi, capD, Tx.at_lt hi]
  have e1 : ((l[i].toNat : Int) - 48).toNat = l[i].toNat - 48 := by omega
  rw [e1]
theorem capD_end {l : List UInt8} {i e : Nat} (hi : ¬ i < l.length) : capD (l.drop i) e = e := by
  rw [List.drop_of_length_le (Nat.le_of_not_lt hi)]; rfl
/-- The digits' sum, in ten-thousandths. -/
def sumD (q : Int) : List Nat → Nat → Nat → Option Nat
  | [], _, v => some v
  | d :: t, k, v => if d = 0 then sumD q t (k + 1) v else if q - 1 - k < -4 ∨ 4 < q - 1 - k then none else sumD q t (k + 1) (v + d * 10 ^ (q - 1 - k + 4).toNat)
theorem sumD_step (q : Int) {D : List Nat} {k d : Nat} (v : Nat) (h : D[k]? = some d) : sumD q (D.drop k) k v = if d = 0 then sumD q (D.drop (k + 1)) (k + 1) v else if q - 1 - k < -4 ∨ 4 < q - 1 - k then none else sumD q (D.drop (k + 1)) (k + 1) (v + d * 10 ^ (q - 1 - k + 4).toNat) := by
  have hk := Pl.lt_of_some h
  rw [List.drop_eq_getElem_cons hk]
  have : D[k] = d := by rw [List.getElem?_eq_getElem hk] at h; exact Option.some.inj h
  rw [this, sumD]
theorem sumD_end (q : Int) {D : List Nat} {k v : Nat} (h : ¬ k < D.length) : sumD q (D.drop k) k v = some v := by
  rw [List.drop_of_length_le (Nat.le_of_not_lt h)]; rfl
def fin (v : Nat) : Option Nat := if v % 625 ≠ 0 ∨ 32768 < v / 625 then none else some (v / 625)
def place (s : List Nat × Int × List UInt8) : Int := (if s.2.1 < 0 then (s.1.length : Int) else s.2.1) + (if Tx.at_ s.2.2 1 = 45 then -(capD s.2.2 0 : Int) else (capD s.2.2 0 : Int))
def units (l : List UInt8) : Option Nat := (sumD (place (scan l [] (-1))) (scan l [] (-1)).1 0 0).bind fin
def ints (d : List Nat) : List Value := d.map fun (n : Nat) => Value.int .i64 (n : Int)
theorem ints_snoc (d : List Nat) (n : Nat) : ints (d ++ [n]) = ints d ++ [.int .i64 (n : Int)] := by simp [ints]
theorem ten_le {n m : Nat} (hn : n ≤ 9) (hm : m ≤ 8) : n * 10 ^ m ≤ 900000000 := by
  have : 10 ^ m ≤ 10 ^ 8 := Nat.pow_le_pow_right (by omega) hm
  have e : (10 : Nat) ^ 8 = 100000000 := rfl
  have := Nat.mul_le_mul hn this
  omega
theorem fin_bad {v : Nat} (h : v % 625 ≠ 0 ∨ 32768 < v / 625) : fin v = none := by unfold fin; rw [if_pos h]
theorem fin_ok {v : Nat} (h1 : v % 625 = 0) (h2 : ¬ 32768 < v / 625) : fin v = some (v / 625) := by unfold fin; rw [if_neg (by omega)]
end Du
end Go.Proofs.YtcclepohmhdpbabGreat
