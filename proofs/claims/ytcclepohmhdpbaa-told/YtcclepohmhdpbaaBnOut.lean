/- BYTES, WRITTEN: the plain mathematics. -/
import Derived.Test.YtcclepohmhdpbaaJpA
namespace Go.Proofs.Ytcclepohmhdpbaa
set_option linter.all false

namespace Bn

/-- So many bytes of a number, the lowest first. -/
def low : Nat → Nat → List UInt8
  | 0, _ => []
  | n + 1, v => UInt8.ofNat (v % 256) :: low n (v / 256)
def put (lit : Bool) (n v : Nat) : List UInt8 := if lit = true then low n v else (low n v).reverse
theorem low_length (n v : Nat) : (low n v).length = n := by
  induction n generalizing v with
  | zero => rfl
  | succ n ih => simp [low, ih]
theorem put_length (lit : Bool) (n v : Nat) : (put lit n v).length = n := by unfold put; split <;> simp [low_length]
theorem low_add (m n v : Nat) : low (m + n) v = low m v ++ low n (v / 256 ^ m) := by
  induction m generalizing v with
  | zero => simp [low]
  | succ m ih =>
    rw [show m + 1 + n = (m + n) + 1 by omega]
    simp only [low, List.cons_append, ih]
    rw [Nat.div_div_eq_div_mul, Nat.pow_succ, Nat.mul_comm 256]
theorem low_mod (n v : Nat) : low n (v % 256 ^ n) = low n v := by
  induction n generalizing v with
  | zero => rfl
  | succ n ih =>
    simp only [low]
    have h1 : v % 256 ^ (n + 1) % 256 = v % 256 := by rw [Nat.pow_succ]; exact Nat.mod_mod_of_dvd _ (Nat.dvd_mul_left _ _)
    have h2 : v % 256 ^ (n + 1) / 256 = v / 256 % 256 ^ n := by rw [Nat.pow_succ, Nat.mul_comm]; exact Nat.mod_mul_right_div_self _ _ _
    rw [h1, h2, ih]
theorem low_halves (hi lo : Nat) (h : lo < 4294967296) : low 8 (hi * 4294967296 + lo) = low 4 lo ++ low 4 hi := by
  rw [show 8 = 4 + 4 from rfl, low_add]
  congr 1
  · rw [← low_mod]; congr 1; show (hi * 4294967296 + lo) % 4294967296 = lo; omega
  · congr 1; show (hi * 4294967296 + lo) / 4294967296 = hi; omega
theorem put_halves (lit : Bool) (hi lo : Nat) (h : lo < 4294967296) : put lit 8 (hi * 4294967296 + lo) = if lit = true then put lit 4 lo ++ put lit 4 hi else put lit 4 hi ++ put lit 4 lo := by
  cases lit
  · show (low 8 _).reverse = (low 4 hi).reverse ++ (low 4 lo).reverse
    rw [low_halves _ _ h, List.reverse_append]
  · show low 8 _ = low 4 lo ++ low 4 hi
    rw [low_halves _ _ h]

/-- How often a number is doubled till its first bit stands at 2^52. -/
def sh : Nat → Nat → Nat
  | 0, _ => 0
  | f + 1, k => if k < 4503599627370496 then sh f (2 * k) + 1 else 0
def dblOf (neg : Bool) (k j : Nat) : Nat := (if neg = true then 9223372036854775808 else 0) + (1071 - j) * 4503599627370496 + (k * 2 ^ j - 4503599627370496)
/-- The bits of the double that so many units are. -/
def dbl (u : Int) : Nat := if u = 0 then 0 else dblOf (decide (u < 0)) u.natAbs (sh 60 u.natAbs)
theorem sh_step {f k i a : Nat} (h : sh 60 k = i + sh (f + 1) a) (ha : a < 4503599627370496) : sh 60 k = (i + 1) + sh f (2 * a) := by
  rw [h, sh, if_pos ha]; omega
theorem sh_end {f k i a : Nat} (h : sh 60 k = i + sh (f + 1) a) (ha : ¬ a < 4503599627370496) : sh 60 k = i := by
  rw [h, sh, if_neg ha]; omega

def geom (lit : Bool) (kind n : Nat) : List UInt8 := put lit 1 (if lit = true then 1 else 0) ++ put lit 4 kind ++ put lit 4 n
def ptT (lit : Bool) (p : Pnt) : List UInt8 := put lit 8 (dbl p.1) ++ put lit 8 (dbl p.2)
def ringT (lit : Bool) (r : Ring) : List UInt8 := put lit 4 r.length ++ r.flatMap (ptT lit)
def polyT (lit : Bool) (l : Poly) : List UInt8 := geom lit 3 l.length ++ l.flatMap (ringT lit)
def setT (lit : Bool) (m : Mult) : List UInt8 := geom lit 6 m.length ++ m.flatMap (polyT lit)
theorem geom_length (lit : Bool) (kind n : Nat) : (geom lit kind n).length = 9 := by simp [geom, put_length]
theorem ptT_length (lit : Bool) (p : Pnt) : (ptT lit p).length = 16 := by simp [ptT, put_length]
theorem fm_le {α : Type} (f : α → List UInt8) (b : Nat) : ∀ l : List α, (∀ a ∈ l, (f a).length ≤ b) → (l.flatMap f).length ≤ l.length * b
  | [], _ => by simp
  | a :: t, h => by
    have h1 := fm_le f b t fun x hx => h x (List.mem_cons_of_mem _ hx)
    have h2 := h a (by simp)
    simp only [List.flatMap_cons, List.length_append, List.length_cons, Nat.add_mul]
    omega
theorem ringT_le (lit : Bool) {r : Ring} (h : r.length ≤ 6000) : (ringT lit r).length ≤ 100000 := by
  have := fm_le (ptT lit) 16 r fun p _ => Nat.le_of_eq (ptT_length lit p)
  simp only [ringT, List.length_append, put_length]
  omega
theorem polyT_le (lit : Bool) {l : Poly} (h : okL l) : (polyT lit l).length ≤ 600000100 := by
  have := fm_le (ringT lit) 100000 l fun r hr => ringT_le lit (h.2 r hr).1
  have := h.1
  simp only [polyT, List.length_append, geom_length]
  omega
theorem fm_step {α : Type} (f : α → List UInt8) {l : List α} {n : Nat} {a : α} (h : l[n]? = some a) : (l.drop n).flatMap f = f a ++ (l.drop (n + 1)).flatMap f := by
  have hn : n < l.length := Pl.lt_of_some h
  rw [List.drop_eq_getElem_cons hn]
  have : l[n] = a := by rw [List.getElem?_eq_getElem hn] at h; exact Option.some.inj h
  rw [this]; rfl
theorem fm_end {α : Type} (f : α → List UInt8) {l : List α} {n : Nat} (h : ¬ n < l.length) : (l.drop n).flatMap f = [] := by
  rw [List.drop_of_length_le (Nat.le_of_not_lt h)]; rfl
end Bn
end Go.Proofs.Ytcclepohmhdpbaa
