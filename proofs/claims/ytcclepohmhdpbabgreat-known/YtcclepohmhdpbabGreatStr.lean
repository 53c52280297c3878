/- TEXTS AS LISTS OF BYTES. -/
import Derived.Test.YtcclepohmhdpbabGreatProg
import Derived.Test.YtcclepohmhdpbabGreatTree
import Derived.WalkLawsBesides
import Derived.Lib.Strings
namespace Go.Proofs.YtcclepohmhdpbabGreat
set_option linter.all false
open Go.RowKit Go.Deep

/-- A text. -/
def bs (l : List UInt8) : ByteArray := ⟨l.toArray⟩
theorem bs_size (l : List UInt8) : (bs l).size = l.length := by simp [bs, ByteArray.size]
theorem bs_toList (l : List UInt8) : (bs l).toList = l := by simp [bs]
theorem bs_get (l : List UInt8) (i : Nat) (h : i < (bs l).size) : (bs l)[i]'h = l[i]'(by simpa [bs_size] using h) := by
  simp [bs, ByteArray.getElem_eq_getElem_data]
theorem bs_extract (l : List UInt8) (a b : Nat) : (bs l).extract a b = bs ((l.drop a).take (b - a)) := by
  simp [bs, Lib.extract_eq]
theorem bs_drop (l : List UInt8) (a : Nat) : (bs l).extract a l.length = bs (l.drop a) := by
  rw [bs_extract]; congr 1; apply List.take_of_length_le; simp
theorem bs_take (l : List UInt8) (b : Nat) : (bs l).extract 0 b = bs (l.take b) := by
  rw [bs_extract]; simp
theorem bs_append (a b : List UInt8) : bs a ++ bs b = bs (a ++ b) := by
  simp [bs, ByteArray.mk_append_mk]
theorem bs_of (s : ByteArray) : s = bs s.data.toList := by simp [bs]
theorem bs_lit (a : List UInt8) : ByteArray.mk a.toArray = bs a := rfl

def lenOf : Value → Nat
  | .string b => b.size
  | _ => 0

namespace Tx
/-- Byte i, or -1. -/
def at_ (l : List UInt8) (i : Nat) : Int := match l[i]? with
  | some c => (c.toNat : Int)
  | none => -1
def blank (x : Int) : Bool := x == 32 || x == 9 || x == 10 || x == 13
def digit (x : Int) : Bool := decide (48 ≤ x) && decide (x ≤ 57)
def bare (l : List UInt8) : List UInt8 := l.dropWhile fun c => blank c.toNat
def lead (l : List UInt8) : Nat := (l.takeWhile fun c => digit c.toNat).length

theorem at_nil (i : Nat) : at_ [] i = -1 := rfl
theorem at_zero (c : UInt8) (r : List UInt8) : at_ (c :: r) 0 = c.toNat := rfl
theorem at_lt {l : List UInt8} {i : Nat} (h : i < l.length) : at_ l i = (l[i].toNat : Int) := by simp [at_, h]
theorem at_ge {l : List UInt8} {i : Nat} (h : ¬ i < l.length) : at_ l i = -1 := by simp [at_, Nat.le_of_not_lt h]
theorem lt_of_at {l : List UInt8} {i : Nat} (h : at_ l i ≠ -1) : i < l.length := by
  by_cases k : i < l.length
  · exact k
  · exact absurd (at_ge k) h
theorem at_nn {l : List UInt8} {i : Nat} (h : i < l.length) : 0 ≤ at_ l i ∧ at_ l i ≤ 255 := by
  rw [at_lt h]; have := l[i].toNat_lt; omega
theorem at_drop (l : List UInt8) (k i : Nat) : at_ (l.drop k) i = at_ l (k + i) := by simp [at_]
theorem drop_cons {l : List UInt8} {k : Nat} (h : k < l.length) : l.drop k = l[k] :: l.drop (k + 1) := List.drop_eq_getElem_cons h

theorem bare_nil : bare [] = [] := rfl
theorem bare_cons (c : UInt8) (r : List UInt8) : bare (c :: r) = if blank c.toNat then bare r else c :: r := by
  cases h : blank c.toNat <;> simp [bare, List.dropWhile_cons, h]
theorem bare_le (l : List UInt8) : (bare l).length ≤ l.length := by
  induction l with
  | nil => simp [bare]
  | cons c r ih => rw [bare_cons]; split <;> simp <;> omega
theorem lead_nil : lead [] = 0 := rfl
theorem lead_cons (c : UInt8) (r : List UInt8) : lead (c :: r) = if digit c.toNat then lead r + 1 else 0 := by
  cases h : digit c.toNat <;> simp [lead, List.takeWhile_cons, h]
theorem lead_drop {l : List UInt8} {n : Nat} (hn : n < l.length) (h : lead l = n + lead (l.drop n)) : lead l = if digit (at_ l n) then n + 1 + lead (l.drop (n + 1)) else n := by
  rw [h, drop_cons hn, lead_cons, at_lt hn]; split <;> omega
theorem lead_end {l : List UInt8} {n : Nat} (hn : ¬ n < l.length) (h : lead l = n + lead (l.drop n)) : lead l = n := by
  rw [h, List.drop_of_length_le (Nat.le_of_not_lt hn)]; rfl
theorem lead_le (l : List UInt8) : lead l ≤ l.length := by
  induction l with
  | nil => simp [lead]
  | cons c r ih => rw [lead_cons]; split <;> simp <;> omega
end Tx

/-- What a walk is told of a text. -/
structure Tells (S : ByteArray) (l : List UInt8) : Prop where
  size : S.size = l.length
  get : ∀ i (h : i < S.size), ((S[i]'h).toNat : Int) = Tx.at_ l i
  drop : ∀ a, S.extract a l.length = bs (l.drop a)
  take : ∀ b, S.extract 0 b = bs (l.take b)
  list : S.toList = l
  out : S = bs l

theorem tells_of {S : ByteArray} {l : List UInt8} (h : bs l = S) : Tells S l := by
  subst h
  exact ⟨bs_size l, fun i h => by rw [bs_get, Tx.at_lt], bs_drop l, bs_take l, bs_toList l, rfl⟩
theorem tells (l : List UInt8) : ∃ S, bs l = S ∧ Tells S l := ⟨_, rfl, tells_of rfl⟩
theorem bs_tells (l : List UInt8) : Tells (bs l) l :=
  ⟨bs_size l, fun i h => by rw [bs_get, Tx.at_lt], bs_drop l, bs_take l, bs_toList l, rfl⟩
end Go.Proofs.YtcclepohmhdpbabGreat
