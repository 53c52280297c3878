import Derived.Test.YtcclepohmhdpbabGreatTree
import Derived.Test.YtcclepohmhdpbabGreatTuAB
import Derived.Test.YtcclepohmhdpbabGreatSaid
import Derived.Test.YtcclepohmhdpbabGreatTxH
/- BYTES: the plain mathematics. Nothing of the dump. -/
namespace Go.Proofs.YtcclepohmhdpbabGreat
set_option linter.all false

namespace Bn

/-- The number that bytes say, the highest first. -/
def bigA (a : Nat) : List UInt8 → Nat
  | [] => a
  | c :: t => bigA (a * 256 + c.toNat) t
def big (l : List UInt8) : Nat := bigA 0 l
/-- The bytes in the order in which they are read. -/
def ord (lit : Bool) (l : List UInt8) : List UInt8 := if lit = true then l.reverse else l
def num (lit : Bool) (l : List UInt8) : Nat := big (ord lit l)

theorem bigA_append (a : Nat) (x y : List UInt8) : bigA a (x ++ y) = bigA (bigA a x) y := by
  induction x generalizing a with
  | nil => rfl
  | cons c t ih => simp only [List.cons_append, bigA]; exact ih _
theorem bigA_eq (a : Nat) (l : List UInt8) : bigA a l = a * 256 ^ l.length + big l := by
  induction l generalizing a with
  | nil => simp [bigA, big]
  | cons c t ih =>
    have h1 : big (c :: t) = bigA (0 * 256 + c.toNat) t := rfl
    rw [h1, bigA, ih, ih (0 * 256 + c.toNat), List.length_cons, Nat.pow_succ]
    simp only [Nat.zero_mul, Nat.zero_add, Nat.add_mul]
    rw [Nat.mul_comm (256 ^ t.length) 256, ← Nat.mul_assoc, Nat.add_assoc]
theorem big_append (x y : List UInt8) : big (x ++ y) = big x * 256 ^ y.length + big y := by
  unfold big
  rw [bigA_append, bigA_eq]; rfl
theorem big_nil : big [] = 0 := rfl
theorem big_one (c : UInt8) : big [c] = c.toNat := by simp [big, bigA]
theorem big_snoc (x : List UInt8) (c : UInt8) : big (x ++ [c]) = big x * 256 + c.toNat := by
  rw [big_append, big_one]; rfl
theorem big_lt (l : List UInt8) : big l < 256 ^ l.length := by
  induction l with
  | nil => simp [big, bigA]
  | cons c t ih =>
    have h : big (c :: t) = big ([c] ++ t) := rfl
    rw [h, big_append, big_one, List.length_cons, Nat.pow_succ]
    have h1 := c.toNat_lt
    have h2 : c.toNat * 256 ^ t.length ≤ 255 * 256 ^ t.length := Nat.mul_le_mul_right _ (by omega)
    omega
theorem ord_length (lit : Bool) (l : List UInt8) : (ord lit l).length = l.length := by unfold ord; split <;> simp
theorem num_lt (lit : Bool) (l : List UInt8) : num lit l < 256 ^ l.length := by
  have := big_lt (ord lit l)
  rwa [ord_length] at this
theorem num_lt4 {lit : Bool} {l : List UInt8} (h : l.length = 4) : num lit l < 4294967296 := by
  have := num_lt lit l
  rw [h] at this
  exact this
theorem num_lt8 {lit : Bool} {l : List UInt8} (h : l.length = 8) : num lit l < 18446744073709551616 := by
  have := num_lt lit l
  rw [h] at this
  exact this
/-- A number of eight bytes is two of four. -/
theorem num_halves (lit : Bool) {a b : List UInt8} (ha : a.length = 4) (hb : b.length = 4) :
    num lit (a ++ b) = if lit = true then num lit b * 4294967296 + num lit a else num lit a * 4294967296 + num lit b := by
  cases lit
  · show big (a ++ b) = big a * 4294967296 + big b
    rw [big_append, hb]
  · show big (a ++ b).reverse = big b.reverse * 4294967296 + big a.reverse
    rw [List.reverse_append, big_append, List.length_reverse, ha]

/-- The first so many bytes as a number. -/
def cut (n : Nat) (lit : Bool) (l : List UInt8) : Option (Nat × List UInt8) := if l.length < n then none else some (num lit (l.take n), l.drop n)
theorem cut_none {n : Nat} {lit : Bool} {l : List UInt8} (h : l.length < n) : cut n lit l = none := by unfold cut; rw [if_pos h]
theorem cut_some {n : Nat} {lit : Bool} {l : List UInt8} (h : ¬ l.length < n) : cut n lit l = some (num lit (l.take n), l.drop n) := by unfold cut; rw [if_neg h]

/-- The units that a double's bits are. -/
def units (bits : Nat) : Option Int :=
  if bits = 0 then some 0
  else if bits / 4503599627370496 % 2048 < 1019 ∨ 1071 < bits / 4503599627370496 % 2048 then none
  else if (bits % 4503599627370496 + 4503599627370496) % 2 ^ (1071 - bits / 4503599627370496 % 2048) ≠ 0 ∨ 32768 < (bits % 4503599627370496 + 4503599627370496) / 2 ^ (1071 - bits / 4503599627370496 % 2048) then none
  else some (if 9223372036854775808 ≤ bits then -((bits % 4503599627370496 + 4503599627370496) / 2 ^ (1071 - bits / 4503599627370496 % 2048) : Nat) else ((bits % 4503599627370496 + 4503599627370496) / 2 ^ (1071 - bits / 4503599627370496 % 2048) : Nat))
def coord (bits : Nat) : Int := (units bits).getD 0
theorem units_le {bits : Nat} {k : Int} (h : units bits = some k) : -32768 ≤ k ∧ k ≤ 32768 := by
  unfold units at h
  split at h
  · simp at h; omega
  · split at h
    · simp at h
    · split at h
      · simp at h
      · rename_i h3
        generalize (bits % 4503599627370496 + 4503599627370496) / 2 ^ (1071 - bits / 4503599627370496 % 2048) = q at *
        have h4 : ¬ 32768 < q := fun e => h3 (.inr e)
        have := Option.some.inj h
        split at this <;> omega
theorem coord_le (bits : Nat) : -32768 ≤ coord bits ∧ coord bits ≤ 32768 := by
  unfold coord
  cases h : units bits with
  | none => simp
  | some k => exact units_le h

abbrev Res (α : Type) := Option (α × List UInt8 × Bool)

def point (lit : Bool) (l : List UInt8) (o : Bool) : Res Pnt :=
  if l.length < 16 then none else some ((coord (num lit (l.take 8)), coord (num lit ((l.drop 8).take 8))), l.drop 16, o || (units (num lit (l.take 8))).isNone || (units (num lit ((l.drop 8).take 8))).isNone)

/-- So many, one behind the other. -/
def many {α : Type} (f : List UInt8 → Bool → Res α) : Nat → List UInt8 → Bool → Res (List α)
  | 0, l, o => some ([], l, o)
  | n + 1, l, o => (f l o).bind fun x => (many f n x.2.1 x.2.2).map fun y => (x.1 :: y.1, y.2)

def pre {α : Type} (acc : List α) (x : Res (List α)) : Res (List α) := x.map fun y => (acc ++ y.1, y.2)
theorem pre_nil {α : Type} (x : Res (List α)) : pre [] x = x := by cases x <;> simp [pre]
theorem many_none {α : Type} {f : List UInt8 → Bool → Res α} {n : Nat} {l : List UInt8} {o : Bool} (acc : List α) (h : f l o = none) : pre acc (many f (n + 1) l o) = none := by simp [many, h, pre]
theorem many_some {α : Type} {f : List UInt8 → Bool → Res α} {n : Nat} {l t : List UInt8} {o o' : Bool} {a : α} (acc : List α) (h : f l o = some (a, t, o')) : pre acc (many f (n + 1) l o) = pre (acc ++ [a]) (many f n t o') := by
  simp only [many, h, pre, Option.bind_some, Option.map_map]
  congr 1
  funext y
  simp
theorem many_zero {α : Type} {f : List UInt8 → Bool → Res α} (acc : List α) (l : List UInt8) (o : Bool) : pre acc (many f 0 l o) = some (acc, l, o) := by simp [many, pre]

def ring (lit : Bool) (l : List UInt8) (o : Bool) : Res Ring := (cut 4 lit l).bind fun x => many (point lit) x.1 x.2 o
/-- How a geometry begins. -/
def head (kind : Nat) (l : List UInt8) : Option (Bool × Nat × List UInt8) :=
  (cut 1 false l).bind fun x => if 1 < x.1 then none else (cut 4 (x.1 == 1) x.2).bind fun y => if y.1 ≠ kind then none else (cut 4 (x.1 == 1) y.2).bind fun z => some (x.1 == 1, z.1, z.2)
def poly (l : List UInt8) (o : Bool) : Res Poly := (head 3 l).bind fun x => many (ring x.1) x.2.1 x.2.2 o
def set (l : List UInt8) : Res Mult := (head 6 l).bind fun x => many poly x.2.1 x.2.2 false

/-- What the bytes are told to be: an error, or a set. -/
def err (l : List UInt8) : Int := match set l with
  | none => 3
  | some x => if x.2.1 ≠ [] then 3 else if x.2.2 = true then 4 else 0

/-- Each takes some bytes; what it gives is small. -/
theorem cut_lt {n : Nat} {lit : Bool} {l t : List UInt8} {x : Nat} (h : cut n lit l = some (x, t)) : t.length + n = l.length := by
  unfold cut at h
  split at h
  · cases h
  · have := Option.some.inj h
    simp only [Prod.mk.injEq] at this
    rw [← this.2]; simp; omega
theorem point_lt {lit : Bool} {l t : List UInt8} {o o' : Bool} {a : Pnt} (h : point lit l o = some (a, t, o')) : t.length + 1 ≤ l.length := by
  unfold point at h
  split at h
  · cases h
  · have := Option.some.inj h
    simp only [Prod.mk.injEq] at this
    rw [← this.2.1]; simp; omega
theorem many_le {α : Type} {f : List UInt8 → Bool → Res α} {Q : α → Prop} (hf : ∀ l o a t o', f l o = some (a, t, o') → t.length + 1 ≤ l.length ∧ (l.length ≤ 6000 → Q a)) :
    ∀ (n : Nat) (l : List UInt8) (o : Bool) (r : List α) (t : List UInt8) (o' : Bool), many f n l o = some (r, t, o') → t.length + r.length ≤ l.length ∧ (l.length ≤ 6000 → ∀ a ∈ r, Q a)
  | 0, l, o, r, t, o', h => by
    simp only [many, Option.some.injEq, Prod.mk.injEq] at h
    obtain ⟨rfl, rfl, rfl⟩ := h
    simp
  | n + 1, l, o, r, t, o', h => by
    simp only [many] at h
    cases hx : f l o with
    | none => rw [hx] at h; simp at h
    | some x =>
      obtain ⟨a, t1, o1⟩ := x
      rw [hx] at h
      simp only [Option.bind_some, Option.map_eq_some_iff] at h
      obtain ⟨⟨r2, t2, o2⟩, h2, h3⟩ := h
      simp only [Prod.mk.injEq] at h3
      obtain ⟨rfl, rfl, rfl⟩ := h3
      have h4 := hf _ _ _ _ _ hx
      have h5 := many_le hf n t1 o1 r2 t2 o2 h2
      refine ⟨by simp; omega, fun hl b hb => ?_⟩
      rcases List.mem_cons.1 hb with rfl | hb
      · exact h4.2 hl
      · exact h5.2 (by omega) b hb
def okR (r : Ring) : Prop := r.length ≤ 6000 ∧ ∀ p ∈ r, (-32768 ≤ p.1 ∧ p.1 ≤ 32768) ∧ -32768 ≤ p.2 ∧ p.2 ≤ 32768
def okL (l : Poly) : Prop := l.length ≤ 6000 ∧ ∀ r ∈ l, okR r
def okM (m : Mult) : Prop := m.length ≤ 6000 ∧ ∀ l ∈ m, okL l
theorem ring_lt {lit : Bool} {l t : List UInt8} {o o' : Bool} {r : Ring} (h : ring lit l o = some (r, t, o')) : t.length + 1 ≤ l.length ∧ (l.length ≤ 6000 → okR r) := by
  unfold ring at h
  cases hx : cut 4 lit l with
  | none => rw [hx] at h; simp at h
  | some x =>
    obtain ⟨n, u⟩ := x
    rw [hx] at h
    simp only [Option.bind_some] at h
    have h1 := cut_lt hx
    have h2 := many_le (Q := fun p : Pnt => (-32768 ≤ p.1 ∧ p.1 ≤ 32768) ∧ -32768 ≤ p.2 ∧ p.2 ≤ 32768) (fun l o a t o' h => ⟨point_lt h, fun _ => by
      unfold point at h
      split at h
      · cases h
      · have := Option.some.inj h
        simp only [Prod.mk.injEq] at this
        rw [← this.1]
        exact ⟨coord_le _, coord_le _⟩⟩) n u o r t o' h
    exact ⟨by omega, fun hl => ⟨by omega, h2.2 (by omega)⟩⟩
theorem head_lt {kind n : Nat} {lit : Bool} {l t : List UInt8} (h : head kind l = some (lit, n, t)) : t.length + 9 = l.length := by
  unfold head at h
  cases hx : cut 1 false l with
  | none => rw [hx] at h; simp at h
  | some x =>
    rw [hx] at h
    simp only [Option.bind_some] at h
    split at h
    · cases h
    · cases hy : cut 4 (x.1 == 1) x.2 with
      | none => rw [hy] at h; simp at h
      | some y =>
        rw [hy] at h
        simp only [Option.bind_some] at h
        split at h
        · cases h
        · cases hz : cut 4 (x.1 == 1) y.2 with
          | none => rw [hz] at h; simp at h
          | some z =>
            rw [hz] at h
            simp only [Option.bind_some, Option.some.injEq, Prod.mk.injEq] at h
            have a1 := cut_lt hx
            have a2 := cut_lt hy
            have a3 := cut_lt hz
            rw [← h.2.2]
            omega
theorem poly_lt {l t : List UInt8} {o o' : Bool} {r : Poly} (h : poly l o = some (r, t, o')) : t.length + 1 ≤ l.length ∧ (l.length ≤ 6000 → okL r) := by
  unfold poly at h
  cases hx : head 3 l with
  | none => rw [hx] at h; simp at h
  | some x =>
    obtain ⟨lit, n, u⟩ := x
    rw [hx] at h
    simp only [Option.bind_some] at h
    have h1 := head_lt hx
    have h2 := many_le (Q := okR) (fun l o a t o' h => ring_lt h) n u o r t o' h
    exact ⟨by omega, fun hl => ⟨by omega, h2.2 (by omega)⟩⟩
theorem set_ok {l t : List UInt8} {o' : Bool} {r : Mult} (h : set l = some (r, t, o')) (hl : l.length ≤ 6000) : okM r := by
  unfold set at h
  cases hx : head 6 l with
  | none => rw [hx] at h; simp at h
  | some x =>
    obtain ⟨lit, n, u⟩ := x
    rw [hx] at h
    simp only [Option.bind_some] at h
    have h1 := head_lt hx
    have h2 := many_le (Q := okL) (fun l o a t o' h => poly_lt h) n u false r t o' h
    exact ⟨by omega, h2.2 (by omega)⟩
theorem okM.bd {m : Mult} (h : okM m) : Pl.Bd m := ⟨by have := h.1; omega, fun l hl => by have := (h.2 l hl).1; omega, fun l hl r hr => by have := ((h.2 l hl).2 r hr).1; omega⟩
end Bn
end Go.Proofs.YtcclepohmhdpbabGreat

/- TEXTS, READ: the plain parser; coordinates on both sides. -/
namespace Go.Proofs.YtcclepohmhdpbabGreat
set_option linter.all false
open Go.RowKit Go.Deep

theorem Tx.num3_le {l : List UInt8} {n : Nat} (hn : n ≤ l.length) : Tx.num3 l n ≤ l.length := by
  unfold Tx.num3
  split
  · rename_i h
    have h1 : n < l.length := Tx.lt_of_at (by omega)
    have h2 := Tx.sgn_le true l (n + 1) (by omega)
    have h3 := Tx.lead_le (l.drop (n + 1 + Tx.sgn true l (n + 1)))
    rw [List.length_drop] at h3
    split <;> omega
  · exact hn
theorem Tx.num_le (p : Bool) (l : List UInt8) : Tx.num p l ≤ l.length := by
  unfold Tx.num Tx.num1
  have h1 := Tx.sgn_le p l 0 (Nat.zero_le _)
  generalize Tx.sgn p l 0 = n at *
  have h2 := Tx.lead_le (l.drop n)
  rw [List.length_drop] at h2
  split
  · omega
  · split
    · omega
    · unfold Tx.num2
      split
      · rename_i h
        have h3 : n + Tx.lead (l.drop n) < l.length := Tx.lt_of_at (by omega)
        have h4 := Tx.lead_le (l.drop (n + Tx.lead (l.drop n) + 1))
        rw [List.length_drop] at h4
        split
        · omega
        · exact Tx.num3_le (by omega)
      · exact Tx.num3_le (by omega)

namespace Wt
open Bn (Res)
/-- The number that a text says, in units; nought, if it may not be. -/
def cv (s : List UInt8) : Int := match Du.units s with
  | some k => if (Tx.at_ s 0 == 45) = true then -(k : Int) else k
  | none => 0
/-- What a number's units are, and whether they may be. -/
theorem unitsV_eq (s : List UInt8) : unitsV (Tx.at_ s 0 == 45) (Du.units s) = .tuple #[.int .i64 (cv s), .bool (!(Du.units s).isNone)] := by
  unfold cv
  cases Du.units s <;> rfl
def coord (p : Bool) (l : List UInt8) (o : Bool) : Res Int :=
  if Tx.num p (Tx.bare l) = 0 then none else some (cv ((Tx.bare l).take (Tx.num p (Tx.bare l))), (Tx.bare l).drop (Tx.num p (Tx.bare l)), o || (Du.units ((Tx.bare l).take (Tx.num p (Tx.bare l)))).isNone)
theorem coord_none {p : Bool} {l : List UInt8} {o : Bool} (h : Tx.num p (Tx.bare l) = 0) : coord p l o = none := by unfold coord; rw [if_pos h]
theorem coord_some {p : Bool} {l : List UInt8} {o : Bool} (h : ¬ Tx.num p (Tx.bare l) = 0) : coord p l o = some (cv ((Tx.bare l).take (Tx.num p (Tx.bare l))), (Tx.bare l).drop (Tx.num p (Tx.bare l)), o || (Du.units ((Tx.bare l).take (Tx.num p (Tx.bare l)))).isNone) := by unfold coord; rw [if_neg h]
/-- A blank stands next. -/
def gap (l : List UInt8) : Bool := Tx.blank (Tx.at_ l 0)
def point (l : List UInt8) (o : Bool) : Res Pnt :=
  (coord true l o).bind fun x => if gap x.2.1 = false then none else (coord true x.2.1 x.2.2).map fun y => ((x.1, y.1), y.2)
/-- One at the least, commas between, up to a bracket. -/
def items {α : Type} (f : List UInt8 → Bool → Res α) : Nat → List UInt8 → Bool → Res (List α)
  | 0, _, _ => none
  | k + 1, l, o => (f l o).bind fun x =>
    if Tx.pre [44] (Tx.bare x.2.1) = true then (items f k (Tx.aft [44] (Tx.bare x.2.1)) x.2.2).map fun y => (x.1 :: y.1, y.2)
    else if Tx.pre [41] (Tx.bare x.2.1) = true then some ([x.1], Tx.aft [41] (Tx.bare x.2.1), x.2.2) else none
def list {α : Type} (f : List UInt8 → Bool → Res α) (l : List UInt8) (o : Bool) : Res (List α) :=
  if Tx.pre [40] (Tx.bare l) = true then items f ((Tx.bare l).length + 1) (Tx.aft [40] (Tx.bare l)) o else none
def ring := list point
def poly := list ring
def polys := list poly
end Wt

end Go.Proofs.YtcclepohmhdpbabGreat

/- TEXTS, READ: steps of the plain parser. -/
namespace Go.Proofs.YtcclepohmhdpbabGreat
set_option linter.all false
open Go.RowKit Go.Deep

def lenS : Value → Nat
  | .slice _ n _ => n
  | _ => 0

namespace Wt
open Bn (Res)
theorem coord_lt {p : Bool} {l t : List UInt8} {o o' : Bool} {x : Int} (h : coord p l o = some (x, t, o')) : t.length + 1 ≤ l.length := by
  unfold coord at h
  split at h
  · cases h
  · rename_i h0
    have := Option.some.inj h
    simp only [Prod.mk.injEq] at this
    have h1 := Tx.num_le p (Tx.bare l)
    have h2 := Tx.bare_le l
    rw [← this.2.1, List.length_drop]
    omega
theorem point_of {l l1 l3 : List UInt8} {o o1 o3 bad b1 b3 : Bool} {x y : Int} (h1 : (if bad = true then none else coord true l o) = (if b1 = true then none else some (x, l1, o1))) (h2 : (if (b1 || !gap l1) = true then none else coord true l1 o1) = (if b3 = true then none else some (y, l3, o3))) :
    (if bad = true then none else point l o) = (if b3 = true then none else some ((x, y), l3, o3)) ∧ (b3 = false → l3.length + 1 ≤ l.length) := by
  cases bad
  · simp only [Bool.false_eq_true, if_false] at h1 ⊢
    unfold point
    rw [h1]
    cases b1
    · simp only [Bool.false_eq_true, if_false, Option.bind_some, Bool.false_or] at h2 ⊢
      have hl1 := coord_lt h1
      cases hg : gap l1
      · rw [hg] at h2
        simp at h2
        cases b3
        · simp at h2
        · simp
      · rw [hg] at h2
        simp at h2
        rw [h2]
        cases b3
        · refine ⟨by simp, fun _ => ?_⟩
          have := coord_lt (h2.trans (by rfl))
          omega
        · simp
    · simp at h2
      cases b3
      · simp at h2
      · simp
  · simp only [if_true] at h1 ⊢
    cases b1
    · simp at h1
    · simp at h2
      cases b3
      · simp at h2
      · simp
/-- One item more. -/
theorem go_on {α : Type} {f : List UInt8 → Bool → Res α} {T : Res (List α)} {acc : List α} {k : Nat} {l t : List UInt8} {o o' bad b : Bool} {a : α} (hT : T = if bad = true then none else Bn.pre acc (items f (k + 1) l o)) (hf : (if bad = true then none else f l o) = if b = true then none else some (a, t, o')) :
    ((!b && Tx.pre [44] (Tx.bare t)) = true → T = Bn.pre (acc ++ [a]) (items f k (Tx.aft [44] (Tx.bare t)) o')) ∧ ((!b && Tx.pre [44] (Tx.bare t)) = false → T = if (b || !Tx.pre [41] (Tx.bare t)) = true then none else some (acc ++ [a], Tx.aft [41] (Tx.bare t), o')) := by
  cases bad
  · simp only [Bool.false_eq_true, if_false] at hT hf
    cases b
    · simp only [Bool.false_eq_true, if_false] at hf
      constructor
      · intro h
        simp at h
        rw [hT]
        simp only [items, hf, Option.bind_some, h, if_true, Bn.pre, Option.map_map]
        congr 1
        funext y
        simp
      · intro h
        simp at h
        rw [hT]
        simp only [items, hf, Option.bind_some, h, Bool.false_eq_true, if_false, Bool.false_or]
        cases h2 : Tx.pre [41] (Tx.bare t)
        · simp [Bn.pre]
        · simp [Bn.pre]
    · simp at hf
      constructor
      · intro h; simp at h
      · intro _
        rw [hT]
        simp [items, hf, Bn.pre]
  · simp only [if_true] at hT hf
    cases b
    · simp at hf
    · constructor
      · intro h; simp at h
      · intro _; rw [hT]; simp
theorem begin_ {α : Type} (f : List UInt8 → Bool → Res α) (l : List UInt8) (o bad : Bool) : (if bad = true then none else list f l o) = if (bad || !Tx.pre [40] (Tx.bare l)) = true then none else Bn.pre [] (items f ((Tx.bare l).length + 1) (Tx.aft [40] (Tx.bare l)) o) := by
  cases bad
  · unfold list
    cases Tx.pre [40] (Tx.bare l)
    · simp
    · simp [Bn.pre_nil]
  · simp
theorem aft_len {c : UInt8} {l : List UInt8} (h : Tx.pre [c] l = true) : (Tx.aft [c] l).length + 1 ≤ l.length := by
  rw [Tx.aft_t h, List.length_drop]
  cases l with
  | nil => simp [Tx.pre] at h
  | cons a t => simp
/-- A list that is read takes some bytes. -/
theorem items_lt {α : Type} {f : List UInt8 → Bool → Res α} {Q : α → Prop} (hf : ∀ l o a t o', f l o = some (a, t, o') → t.length + 1 ≤ l.length ∧ (l.length ≤ 6000 → Q a)) :
    ∀ (k : Nat) (l : List UInt8) (o : Bool) (r : List α) (t : List UInt8) (o' : Bool), items f k l o = some (r, t, o') → t.length + r.length ≤ l.length ∧ (l.length ≤ 6000 → ∀ a ∈ r, Q a) ∧ 0 < r.length
  | 0, l, o, r, t, o', h => by simp [items] at h
  | k + 1, l, o, r, t, o', h => by
    simp only [items] at h
    cases hx : f l o with
    | none => rw [hx] at h; simp at h
    | some x =>
      obtain ⟨a, t1, o1⟩ := x
      have h4 := hf _ _ _ _ _ hx
      have hb := Tx.bare_le t1
      rw [hx] at h
      simp only [Option.bind_some] at h
      split at h
      · rename_i hc
        simp only [Option.map_eq_some_iff] at h
        obtain ⟨⟨r2, t2, o2⟩, h2, h3⟩ := h
        simp only [Prod.mk.injEq] at h3
        obtain ⟨rfl, rfl, rfl⟩ := h3
        have h5 := items_lt hf k _ o1 r2 t2 o2 h2
        have h6 := aft_len hc
        refine ⟨by simp; omega, fun hl b hb' => ?_, by simp⟩
        rcases List.mem_cons.1 hb' with rfl | hb'
        · exact h4.2 hl
        · exact h5.2.1 (by omega) b hb'
      · split at h
        · rename_i hc
          simp only [Option.some.injEq, Prod.mk.injEq] at h
          obtain ⟨rfl, rfl, rfl⟩ := h
          have h6 := aft_len hc
          refine ⟨by simp; omega, fun hl b hb' => ?_, by simp⟩
          simp at hb'
          rw [hb']
          exact h4.2 hl
        · cases h
theorem list_lt {α : Type} {f : List UInt8 → Bool → Res α} {Q : α → Prop} (hf : ∀ l o a t o', f l o = some (a, t, o') → t.length + 1 ≤ l.length ∧ (l.length ≤ 6000 → Q a)) {l t : List UInt8} {o o' : Bool} {r : List α} (h : list f l o = some (r, t, o')) : t.length + 1 ≤ l.length ∧ (l.length ≤ 6000 → r.length ≤ 6000 ∧ ∀ a ∈ r, Q a) := by
  unfold list at h
  split at h
  · rename_i hc
    have h1 := items_lt hf _ _ _ _ _ _ h
    have h2 := Tx.aft_le [40] (Tx.bare l)
    have h3 := Tx.bare_le l
    exact ⟨by omega, fun hl => ⟨by omega, h1.2.1 (by omega)⟩⟩
  · cases h
theorem cv_le (s : List UInt8) : -32768 ≤ cv s ∧ cv s ≤ 32768 := by
  unfold cv
  cases h : Du.units s with
  | none => simp
  | some k =>
    have : k ≤ 32768 := by
      unfold Du.units at h
      cases h2 : Du.sumD (Du.place (Du.scan s [] (-1))) (Du.scan s [] (-1)).1 0 0 with
      | none => rw [h2] at h; simp at h
      | some v =>
        rw [h2] at h
        simp only [Option.bind_some, Du.fin] at h
        split at h
        · cases h
        · have := Option.some.inj h; omega
    simp only
    split <;> omega
theorem point_lt {l t : List UInt8} {o o' : Bool} {a : Pnt} (h : point l o = some (a, t, o')) : t.length + 1 ≤ l.length ∧ (l.length ≤ 6000 → (-32768 ≤ a.1 ∧ a.1 ≤ 32768) ∧ -32768 ≤ a.2 ∧ a.2 ≤ 32768) := by
  unfold point at h
  cases hx : coord true l o with
  | none => rw [hx] at h; simp at h
  | some x =>
    obtain ⟨x1, l1, o1⟩ := x
    rw [hx] at h
    simp only [Option.bind_some] at h
    split at h
    · cases h
    · simp only [Option.map_eq_some_iff] at h
      obtain ⟨⟨y, t2, o2⟩, h2, h3⟩ := h
      simp only [Prod.mk.injEq] at h3
      obtain ⟨rfl, rfl, rfl⟩ := h3
      have a1 := coord_lt hx
      have a2 := coord_lt h2
      have cx : x1 = cv ((Tx.bare l).take (Tx.num true (Tx.bare l))) := by
        unfold coord at hx
        split at hx
        · cases hx
        · have := Option.some.inj hx; simp only [Prod.mk.injEq] at this; exact this.1.symm
      have cy : y = cv ((Tx.bare l1).take (Tx.num true (Tx.bare l1))) := by
        unfold coord at h2
        split at h2
        · cases h2
        · have := Option.some.inj h2; simp only [Prod.mk.injEq] at this; exact this.1.symm
      refine ⟨by omega, fun _ => ⟨?_, ?_⟩⟩
      · rw [cx]; exact cv_le _
      · rw [cy]; exact cv_le _
theorem ring_lt {l t : List UInt8} {o o' : Bool} {r : Ring} (h : ring l o = some (r, t, o')) : t.length + 1 ≤ l.length ∧ (l.length ≤ 6000 → Bn.okR r) := list_lt (fun _ _ _ _ _ h => point_lt h) h
theorem poly_lt {l t : List UInt8} {o o' : Bool} {r : Poly} (h : poly l o = some (r, t, o')) : t.length + 1 ≤ l.length ∧ (l.length ≤ 6000 → Bn.okL r) := list_lt (fun _ _ _ _ _ h => ring_lt h) h
theorem polys_lt {l t : List UInt8} {o o' : Bool} {r : Mult} (h : polys l o = some (r, t, o')) : t.length + 1 ≤ l.length ∧ (l.length ≤ 6000 → Bn.okM r) := list_lt (fun _ _ _ _ _ h => poly_lt h) h
end Wt
end Go.Proofs.YtcclepohmhdpbabGreat

/- THE PROGRAM's READER OF TEXTS: what a list needs, numbers. -/
namespace Go.Proofs.YtcclepohmhdpbabGreat
set_option linter.all false
open Go.RowKit Go.Deep

namespace Tx
theorem bare_bare (l : List UInt8) : bare (bare l) = bare l := by
  induction l with
  | nil => rfl
  | cons c t ih =>
    rw [bare_cons]
    split
    · exact ih
    · rename_i h
      rw [bare_cons, if_neg h]
theorem bare_gap (l : List UInt8) : (l.length - (bare l).length = 0) ↔ Wt.gap l = false := by
  cases l with
  | nil => simp [bare, Wt.gap, at_, blank]
  | cons c t =>
    have e : Wt.gap (c :: t) = blank c.toNat := rfl
    rw [bare_cons, e]
    have := bare_le t
    cases blank c.toNat
    · simp
    · simp
      omega
end Tx

def NeedPost (k l : List UInt8) (bad off : Bool) (rb : Nat) (w : World) (e : Ending) (w' : World) : Prop :=
  e = .returned (.bool (!(bad || !Tx.pre k (Tx.bare l)))) ∧ RT w' rb (Tx.aft k (Tx.bare l)) (bad || !Tx.pre k (Tx.bare l)) off ∧ Fr (· = rb) w w'

set_option maxHeartbeats 1000000 in
theorem need_any (k l : List UInt8) (bad off : Bool) (rb : Nat) (w : World) (hr : RT w rb l bad off) (hl : l.length ≤ 6000) (hk : k.length ≤ 6000) :
    Calls Tryz.prog 52 #[.pointer (some ⟨rb, 0, none⟩), .string (bs k)] w (NeedPost k l bad off rb w) := by
  have HR := hide hr
  clear hr
  go_enter Tryz.func52, Tryz.ntmps52
  go_wp2_with fail
  refine (mark_any k l bad off rb _ HR.out hl hk).mono ?_
  rintro e w1 ⟨rfl, h1, u1⟩
  obtain ⟨P, hP⟩ : ∃ P, P = Tx.pre k (Tx.bare l) := ⟨_, rfl⟩
  have HPP := hide hP
  rw [← hP]
  obtain ⟨c0, c1, c2, f0, f1, f2⟩ := h1.facts
  replace h1 := hide h1
  replace u1 := hide u1
  clear hP c0 c2 f0 f2
  cases P
  · go_wp2
    go_ret
    unfold NeedPost
    rw [← HPP.out]
    refine ⟨by simp, ?_, u1.out.setCell (p := ⟨rb, 1, none⟩) rfl _⟩
    have := h1.out.bad true
    simpa using this
  · go_wp2
    go_ret
    unfold NeedPost
    rw [← HPP.out]
    exact ⟨by simp, by simpa using h1.out, u1.out⟩

def NextPost (l : List UInt8) (bad off : Bool) (rb : Nat) (w : World) (e : Ending) (w' : World) : Prop :=
  ∃ (l' : List UInt8) (bad' : Bool), e = .returned (.bool (!bad && Tx.pre [44] (Tx.bare l))) ∧ RT w' rb l' bad' off ∧ Fr (· = rb) w w' ∧ l'.length ≤ l.length ∧
    ((!bad && Tx.pre [44] (Tx.bare l)) = true → bad' = false ∧ l' = Tx.aft [44] (Tx.bare l)) ∧ ((!bad && Tx.pre [44] (Tx.bare l)) = false → bad' = (bad || !Tx.pre [41] (Tx.bare l)) ∧ (bad' = false → l' = Tx.aft [41] (Tx.bare l)))

set_option maxHeartbeats 1000000 in
theorem next_any (l : List UInt8) (bad off : Bool) (rb : Nat) (w : World) (hr : RT w rb l bad off) (hl : l.length ≤ 6000) :
    Calls Tryz.prog 45 #[.pointer (some ⟨rb, 0, none⟩), .string ⟨#[41]⟩] w (NextPost l bad off rb w) := by
  obtain ⟨c0, c1, c2, f0, f1, f2⟩ := hr.facts
  have HR := hide hr
  clear hr c0 c2 f0 f1 f2
  cases bad
  · have hle := Tx.bare_le l
    obtain ⟨P, hP⟩ : ∃ P, P = Tx.pre [44] (Tx.bare l) := ⟨_, rfl⟩
    have HPP := hide hP
    have HM := hide (mark_any [44] l false off rb w HR.out hl (by simp))
    rw [← hP] at HM
    clear hP
    cases P
    · have hbl : (Tx.bare l).length ≤ 6000 := by omega
      have HA : Hid (Tx.aft [44] (Tx.bare l) = Tx.bare l) := Tx.aft_f HPP.out.symm
      have HB := hide (Tx.bare_bare l)
      go_enter Tryz.func45, Tryz.ntmps45
      go_wp2_with fail
      refine HM.out.mono ?_
      rintro e w1 ⟨rfl, h1, u1⟩
      rw [HA.out] at h1
      replace h1 := hide h1
      replace u1 := hide u1
      go_wp2_with fail
      refine (need_any [41] (Tx.bare l) false off rb _ h1.out hbl (by simp)).mono ?_
      rintro e w2 ⟨rfl, h2, u2⟩
      rw [HB.out] at h2
      replace h2 := hide h2
      replace u2 := hide u2
      go_wp2
      go_ret
      unfold NextPost
      rw [← HPP.out]
      exact ⟨_, _, by simp, h2.out, u1.out.trans u2.out, Nat.le_trans (Tx.aft_le _ _) hle, by simp, fun _ => ⟨rfl, fun _ => rfl⟩⟩
    · go_enter Tryz.func45, Tryz.ntmps45
      go_wp2_with fail
      refine HM.out.mono ?_
      rintro e w1 ⟨rfl, h1, u1⟩
      replace h1 := hide h1
      replace u1 := hide u1
      go_wp2
      go_ret
      unfold NextPost
      rw [← HPP.out]
      exact ⟨_, _, by simp, h1.out, u1.out, Nat.le_trans (Tx.aft_le _ _) hle, fun _ => ⟨rfl, rfl⟩, by simp⟩
  · go_enter Tryz.func45, Tryz.ntmps45
    go_wp2
    go_ret
    unfold NextPost
    exact ⟨l, true, by simp, HR.out, Fr.refl _ _, Nat.le_refl _, by simp, by simp⟩

set_option maxHeartbeats 1000000 in
theorem number_bad (l : List UInt8) (bad off : Bool) (rb : Nat) (w : World) (hr : RT w rb l bad off) :
    Calls Tryz.prog 79 #[.pointer (some ⟨rb, 0, none⟩), .int .i64 0] w fun e w' => e = .returned (.string (bs [])) ∧ RT w' rb l true off ∧ Fr (· = rb) w w' := by
  obtain ⟨c0, c1, c2, f0, f1, f2⟩ := hr.facts
  have HR := hide hr
  clear hr c2 f0 f2
  go_enter Tryz.func79, Tryz.ntmps79
  go_wp2
  go_ret
  exact ⟨rfl, HR.out.bad true, (Fr.refl (· = rb) _).setCell (p := ⟨rb, 1, none⟩) rfl _⟩

set_option maxHeartbeats 1000000 in
theorem number_ok (l : List UInt8) (n : Nat) (bad off : Bool) (rb : Nat) (w : World) (hr : RT w rb l bad off) (hl : l.length ≤ 6000) (hn : 0 < n) (hnl : n ≤ l.length) :
    Calls Tryz.prog 79 #[.pointer (some ⟨rb, 0, none⟩), .int .i64 n] w fun e w' => e = .returned (.string (bs (l.take n))) ∧ RT w' rb (l.drop n) bad off ∧ Fr (· = rb) w w' := by
  obtain ⟨c0, c1, c2, f0, f1, f2⟩ := hr.facts
  obtain ⟨e0, e1, e2, e3, e4, e5⟩ := bs_tells l
  have HR := hide hr
  clear hr c2 f1 f2 e1 e4 e5
  go_enter Tryz.func79, Tryz.ntmps79
  go_wp2
  go_ret
  exact ⟨rfl, HR.out.rest _, (Fr.refl (· = rb) _).setCell (p := ⟨rb, 0, none⟩) rfl _⟩
end Go.Proofs.YtcclepohmhdpbabGreat
