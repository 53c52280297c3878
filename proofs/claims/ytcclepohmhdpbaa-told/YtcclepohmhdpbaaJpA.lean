import Derived.Test.YtcclepohmhdpbaaMath
import Derived.Test.YtcclepohmhdpbaaTuE
import Derived.Test.YtcclepohmhdpbaaTuAB
import Derived.Test.YtcclepohmhdpbaaTuAC
import Derived.Test.YtcclepohmhdpbaaTxH
/- BYTES: the plain mathematics. Nothing of the dump. -/
namespace Go.Proofs.Ytcclepohmhdpbaa
set_option linter.all false

namespace Bn

/-- The number that bytes say, the highest first. -/
def bigA (a : Nat) : List UInt8 → Nat
  | [] => a
  | c :: t => bigA (a * 256 + c.toNat) t
def big (l : List UInt8) : Nat := bigA 0 l
/-- The bytes in the order in which they are read. -/
def ord (lit : Bool) (l : List UInt8) : List UInt8 := if lit = true then l.reverse else l
def num (lit : Bool) (l : List UInt8) : Nat := big (ord lit l)

theorem bigA_append (a : Nat) (x y : List UInt8) : bigA a (x ++ y) = bigA (bigA a x) y := by
  induction x generalizing a with
  | nil => rfl
  | cons c t ih => simp only [List.cons_append, bigA]; exact ih _
theorem bigA_eq (a : Nat) (l : List UInt8) : bigA a l = a * 256 ^ l.length + big l := by
  induction l generalizing a with
  | nil => simp [bigA, big]
  | cons c t ih =>
    have h1 : big (c :: t) = bigA (0 * 256 + c.toNat) t := rfl
    rw [h1, bigA, ih, ih (0 * 256 + c.toNat), List.length_cons, Nat.pow_succ]
    simp only [Nat.zero_mul, Nat.zero_add, Nat.add_mul]
    rw [Nat.mul_comm (256 ^ t.length) 256, ← Nat.mul_assoc, Nat.add_assoc]
theorem big_append (x y : List UInt8) : big (x ++ y) = big x * 256 ^ y.length + big y := by
  unfold big
  rw [bigA_append, bigA_eq]; rfl
theorem big_nil : big [] = 0 := rfl
theorem big_one (c : UInt8) : big [c] = c.toNat := by simp [big, bigA]
theorem big_snoc (x : List UInt8) (c : UInt8) : big (x ++ [c]) = big x * 256 + c.toNat := by
  rw [big_append, big_one]; rfl
theorem big_lt (l : List UInt8) : big l < 256 ^ l.length := by
  induction l with
  | nil => simp [big, bigA]
  | cons c t ih =>
    have h : big (c :: t) = big ([c] ++ t) := rfl
    rw [h, big_append, big_one, List.length_cons, Nat.pow_succ]
    have h1 := c.toNat_lt
    have h2 : c.toNat * 256 ^ t.length ≤ 255 * 256 ^ t.length := Nat.mul_le_mul_right _ (by omega)
    omega
theorem ord_length (lit : Bool) (l : List UInt8) : (ord lit l).length = l.length := by unfold ord; split <;> simp
theorem num_lt (lit : Bool) (l : List UInt8) : num lit l < 256 ^ l.length := by
  have := big_lt (ord lit l)
  rwa [ord_length] at this
theorem num_lt4 {lit : Bool} {l : List UInt8} (h : l.length = 4) : num lit l < 4294967296 := by
  have := num_lt lit l
  rw [h] at this
  exact this
theorem num_lt8 {lit : Bool} {l : List UInt8} (h : l.length = 8) : num lit l < 18446744073709551616 := by
  have := num_lt lit l
  rw [h] at this
  exact this
/-- A number of eight bytes is two of four. -/
theorem num_halves (lit : Bool) {a b : List UInt8} (ha : a.length = 4) (hb : b.length = 4) :
    num lit (a ++ b) = if lit = true then num lit b * 4294967296 + num lit a else num lit a * 4294967296 + num lit b := by
  cases lit
  · show big (a ++ b) = big a * 4294967296 + big b
    rw [big_append, hb]
  · show big (a ++ b).reverse = big b.reverse * 4294967296 + big a.reverse
    rw [List.reverse_append, big_append, List.length_reverse, ha]

/-- The first so many bytes as a number. -/
def cut (n : Nat) (lit : Bool) (l : List UInt8) : Option (Nat × List UInt8) := if l.length < n then none else some (num lit (l.take n), l.drop n)
theorem cut_none {n : Nat} {lit : Bool} {l : List UInt8} (h : l.length < n) : cut n lit l = none := by unfold cut; rw [if_pos h]
theorem cut_some {n : Nat} {lit : Bool} {l : List UInt8} (h : ¬ l.length < n) : cut n lit l = some (num lit (l.take n), l.drop n) := by unfold cut; rw [if_neg h]

/-- The units that a double's bits are. -/
def units (bits : Nat) : Option Int :=
  if bits = 0 then some 0
  else if bits / 4503599627370496 % 2048 < 1019 ∨ 1071 < bits / 4503599627370496 % 2048 then none
  else if (bits % 4503599627370496 + 4503599627370496) % 2 ^ (1071 - bits / 4503599627370496 % 2048) ≠ 0 ∨ 32768 < (bits % 4503599627370496 + 4503599627370496) / 2 ^ (1071 - bits / 4503599627370496 % 2048) then none
  else some (if 9223372036854775808 ≤ bits then -((bits % 4503599627370496 + 4503599627370496) / 2 ^ (1071 - bits / 4503599627370496 % 2048) : Nat) else ((bits % 4503599627370496 + 4503599627370496) / 2 ^ (1071 - bits / 4503599627370496 % 2048) : Nat))
def coord (bits : Nat) : Int := (units bits).getD 0
theorem units_le {bits : Nat} {k : Int} (h : units bits = some k) : -32768 ≤ k ∧ k ≤ 32768 := by
  unfold units at h
  split at h
  · simp at h; omega
  · split at h
    · simp at h
    · split at h
      · simp at h
      · rename_i h3
        generalize (bits % 4503599627370496 + 4503599627370496) / 2 ^ (1071 - bits / 4503599627370496 % 2048) = q at *
        have h4 : ¬ 32768 < q := fun e => h3 (.inr e)
        have := Option.some.inj h
        split at this <;> omega
theorem coord_le (bits : Nat) : -32768 ≤ coord bits ∧ coord bits ≤ 32768 := by
  unfold coord
  cases h : units bits with
  | none => simp
  | some k => exact units_le h

abbrev Res (α : Type) := Option (α × List UInt8 × Bool)

def point (lit : Bool) (l : List UInt8) (o : Bool) : Res Pnt :=
  if l.length < 16 then none else some ((coord (num lit (l.take 8)), coord (num lit ((l.drop 8).take 8))), l.drop 16, o || (units (num lit (l.take 8))).isNone || (units (num lit ((l.drop 8).take 8))).isNone)

/-- So many, one behind the other. -/
def many {α : Type} (f : List UInt8 → Bool → Res α) : Nat → List UInt8 → Bool → Res (List α)
  | 0, l, o => some ([], l, o)
  | n + 1, l, o => (f l o).bind fun x => (many f n x.2.1 x.2.2).map fun y => (x.1 :: y.1, y.2)

def pre {α : Type} (acc : List α) (x : Res (List α)) : Res (List α) := x.map fun y => (acc ++ y.1, y.2)
theorem pre_nil {α : Type} (x : Res (List α)) : pre [] x = x := by cases x <;> simp [pre]
theorem many_none {α : Type} {f : List UInt8 → Bool → Res α} {n : Nat} {l : List UInt8} {o : Bool} (acc : List α) (h : f l o = none) : pre acc (many f (n + 1) l o) = none := by simp [many, h, pre]
theorem many_some {α : Type} {f : List UInt8 → Bool → Res α} {n : Nat} {l t : List UInt8} {o o' : Bool} {a : α} (acc : List α) (h : f l o = some (a, t, o')) : pre acc (many f (n + 1) l o) = pre (acc ++ [a]) (many f n t o') := by
  simp only [many, h, pre, Option.bind_some, Option.map_map]
  congr 1
  funext y
  simp
theorem many_zero {α : Type} {f : List UInt8 → Bool → Res α} (acc : List α) (l : List UInt8) (o : Bool) : pre acc (many f 0 l o) = some (acc, l, o) := by simp [many, pre]

def ring (lit : Bool) (l : List UInt8) (o : Bool) : Res Ring := (cut 4 lit l).bind fun x => many (point lit) x.1 x.2 o
/-- How a geometry begins. -/
def head (kind : Nat) (l : List UInt8) : Option (Bool × Nat × List UInt8) :=
  (cut 1 false l).bind fun x => if 1 < x.1 then none else (cut 4 (x.1 == 1) x.2).bind fun y => if y.1 ≠ kind then none else (cut 4 (x.1 == 1) y.2).bind fun z => some (x.1 == 1, z.1, z.2)
def poly (l : List UInt8) (o : Bool) : Res Poly := (head 3 l).bind fun x => many (ring x.1) x.2.1 x.2.2 o
def set (l : List UInt8) : Res Mult := (head 6 l).bind fun x => many poly x.2.1 x.2.2 false

/-- What the bytes are told to be: an error, or a set. -/
def err (l : List UInt8) : Int := match set l with
  | none => 3
  | some x => if x.2.1 ≠ [] then 3 else if x.2.2 = true then 4 else 0

/-- Each takes some bytes; what it gives is small. -/
theorem cut_lt {n : Nat} {lit : Bool} {l t : List UInt8} {x : Nat} (h : cut n lit l = some (x, t)) : t.length + n = l.length := by
  unfold cut at h
  split at h
  · cases h
  · have := Option.some.inj h
    simp only [Prod.mk.injEq] at this
    rw [← this.2]; simp; omega
theorem point_lt {lit : Bool} {l t : List UInt8} {o o' : Bool} {a : Pnt} (h : point lit l o = some (a, t, o')) : t.length + 1 ≤ l.length := by
  unfold point at h
  split at h
  · cases h
  · have := Option.some.inj h
    simp only [Prod.mk.injEq] at this
    rw [← this.2.1]; simp; omega
theorem many_le {α : Type} {f : List UInt8 → Bool → Res α} {Q : α → Prop} (hf : ∀ l o a t o', f l o = some (a, t, o') → t.length + 1 ≤ l.length ∧ (l.length ≤ 6000 → Q a)) :
    ∀ (n : Nat) (l : List UInt8) (o : Bool) (r : List α) (t : List UInt8) (o' : Bool), many f n l o = some (r, t, o') → t.length + r.length ≤ l.length ∧ (l.length ≤ 6000 → ∀ a ∈ r, Q a)
  | 0, l, o, r, t, o', h => by
    simp only [many, Option.some.injEq, Prod.mk.injEq] at h
    obtain ⟨rfl, rfl, rfl⟩ := h
    simp
  | n + 1, l, o, r, t, o', h => by
    simp only [many] at h
    cases hx : f l o with
    | none => rw [hx] at h; simp at h
    | some x =>
      obtain ⟨a, t1, o1⟩ := x
      rw [hx] at h
      simp only [Option.bind_some, Option.map_eq_some_iff] at h
      obtain ⟨⟨r2, t2, o2⟩, h2, h3⟩ := h
      simp only [Prod.mk.injEq] at h3
      obtain ⟨rfl, rfl, rfl⟩ := h3
      have h4 := hf _ _ _ _ _ hx
      have h5 := many_le hf n t1 o1 r2 t2 o2 h2
      refine ⟨by simp; omega, fun hl b hb => ?_⟩
      rcases List.mem_cons.1 hb with rfl | hb
      · exact h4.2 hl
      · exact h5.2 (by omega) b hb
def okR (r : Ring) : Prop := r.length ≤ 6000 ∧ ∀ p ∈ r, (-32768 ≤ p.1 ∧ p.1 ≤ 32768) ∧ -32768 ≤ p.2 ∧ p.2 ≤ 32768
def okL (l : Poly) : Prop := l.length ≤ 6000 ∧ ∀ r ∈ l, okR r
def okM (m : Mult) : Prop := m.length ≤ 6000 ∧ ∀ l ∈ m, okL l
theorem ring_lt {lit : Bool} {l t : List UInt8} {o o' : Bool} {r : Ring} (h : ring lit l o = some (r, t, o')) : t.length + 1 ≤ l.length ∧ (l.length ≤ 6000 → okR r) := by
  unfold ring at h
  cases hx : cut 4 lit l with
  | none => rw [hx] at h; simp at h
  | some x =>
    obtain ⟨n, u⟩ := x
    rw [hx] at h
    simp only [Option.bind_some] at h
    have h1 := cut_lt hx
    have h2 := many_le (Q := fun p : Pnt => (-32768 ≤ p.1 ∧ p.1 ≤ 32768) ∧ -32768 ≤ p.2 ∧ p.2 ≤ 32768) (fun l o a t o' h => ⟨point_lt h, fun _ => by
      unfold point at h
      split at h
      · cases h
      · have := Option.some.inj h
        simp only [Prod.mk.injEq] at this
        rw [← this.1]
        exact ⟨coord_le _, coord_le _⟩⟩) n u o r t o' h
    exact ⟨by omega, fun hl => ⟨by omega, h2.2 (by omega)⟩⟩
theorem head_lt {kind n : Nat} {lit : Bool} {l t : List UInt8} (h : head kind l = some (lit, n, t)) : t.length + 9 = l.length := by
  unfold head at h
  cases hx : cut 1 false l with
  | none => rw [hx] at h; simp at h
  | some x =>
    rw [hx] at h
    simp only [Option.bind_some] at h
    split at h
    · cases h
    · cases hy : cut 4 (x.1 == 1) x.2 with
      | none => rw [hy] at h; simp at h
      | some y =>
        rw [hy] at h
        simp only [Option.bind_some] at h
        split at h
        · cases h
        · cases hz : cut 4 (x.1 == 1) y.2 with
          | none => rw [hz] at h; simp at h
          | some z =>
            rw [hz] at h
            simp only [Option.bind_some, Option.some.injEq, Prod.mk.injEq] at h
            have a1 := cut_lt hx
            have a2 := cut_lt hy
            have a3 := cut_lt hz
            rw [← h.2.2]
            omega
theorem poly_lt {l t : List UInt8} {o o' : Bool} {r : Poly} (h : poly l o = some (r, t, o')) : t.length + 1 ≤ l.length ∧ (l.length ≤ 6000 → okL r) := by
  unfold poly at h
  cases hx : head 3 l with
  | none => rw [hx] at h; simp at h
  | some x =>
    obtain ⟨lit, n, u⟩ := x
    rw [hx] at h
    simp only [Option.bind_some] at h
    have h1 := head_lt hx
    have h2 := many_le (Q := okR) (fun l o a t o' h => ring_lt h) n u o r t o' h
    exact ⟨by omega, fun hl => ⟨by omega, h2.2 (by omega)⟩⟩
theorem set_ok {l t : List UInt8} {o' : Bool} {r : Mult} (h : set l = some (r, t, o')) (hl : l.length ≤ 6000) : okM r := by
  unfold set at h
  cases hx : head 6 l with
  | none => rw [hx] at h; simp at h
  | some x =>
    obtain ⟨lit, n, u⟩ := x
    rw [hx] at h
    simp only [Option.bind_some] at h
    have h1 := head_lt hx
    have h2 := many_le (Q := okL) (fun l o a t o' h => poly_lt h) n u false r t o' h
    exact ⟨by omega, h2.2 (by omega)⟩
theorem okM.bd {m : Mult} (h : okM m) : Pl.Bd m := ⟨by have := h.1; omega, fun l hl => by have := (h.2 l hl).1; omega, fun l hl r hr => by have := ((h.2 l hl).2 r hr).1; omega⟩
end Bn
end Go.Proofs.Ytcclepohmhdpbaa

/- TEXTS, READ: the plain parser; coordinates on both sides. -/
namespace Go.Proofs.Ytcclepohmhdpbaa
set_option linter.all false
open Go.RowKit Go.Deep

theorem Tx.num3_le {l : List UInt8} {n : Nat} (hn : n ≤ l.length) : Tx.num3 l n ≤ l.length := by
  unfold Tx.num3
  split
  · rename_i h
    have h1 : n < l.length := Tx.lt_of_at (by omega)
    have h2 := Tx.sgn_le true l (n + 1) (by omega)
    have h3 := Tx.lead_le (l.drop (n + 1 + Tx.sgn true l (n + 1)))
    rw [List.length_drop] at h3
    split <;> omega
  · exact hn
theorem Tx.num_le (p : Bool) (l : List UInt8) : Tx.num p l ≤ l.length := by
  unfold Tx.num Tx.num1
  have h1 := Tx.sgn_le p l 0 (Nat.zero_le _)
  generalize Tx.sgn p l 0 = n at *
  have h2 := Tx.lead_le (l.drop n)
  rw [List.length_drop] at h2
  split
  · omega
  · split
    · omega
    · unfold Tx.num2
      split
      · rename_i h
        have h3 : n + Tx.lead (l.drop n) < l.length := Tx.lt_of_at (by omega)
        have h4 := Tx.lead_le (l.drop (n + Tx.lead (l.drop n) + 1))
        rw [List.length_drop] at h4
        split
        · omega
        · exact Tx.num3_le (by omega)
      · exact Tx.num3_le (by omega)

namespace Wt
open Bn (Res)
/-- The number that a text says, in units; nought, if it may not be. -/
def cv (s : List UInt8) : Int := match Du.units s with
  | some k => if (Tx.at_ s 0 == 45) = true then -(k : Int) else k
  | none => 0
/-- What a number's units are, and whether they may be. -/
theorem unitsV_eq (s : List UInt8) : unitsV (Tx.at_ s 0 == 45) (Du.units s) = .tuple #[.int .i64 (cv s), .bool (!(Du.units s).isNone)] := by
  unfold cv
  cases Du.units s <;> rfl
def coord (p : Bool) (l : List UInt8) (o : Bool) : Res Int :=
  if Tx.num p (Tx.bare l) = 0 then none else some (cv ((Tx.bare l).take (Tx.num p (Tx.bare l))), (Tx.bare l).drop (Tx.num p (Tx.bare l)), o || (Du.units ((Tx.bare l).take (Tx.num p (Tx.bare l)))).isNone)
theorem coord_none {p : Bool} {l : List UInt8} {o : Bool} (h : Tx.num p (Tx.bare l) = 0) : coord p l o = none := by unfold coord; rw [if_pos h]
theorem coord_some {p : Bool} {l : List UInt8} {o : Bool} (h : ¬ Tx.num p (Tx.bare l) = 0) : coord p l o = some (cv ((Tx.bare l).take (Tx.num p (Tx.bare l))), (Tx.bare l).drop (Tx.num p (Tx.bare l)), o || (Du.units ((Tx.bare l).take (Tx.num p (Tx.bare l)))).isNone) := by unfold coord; rw [if_neg h]
/-- A blank stands next. -/
def gap (l : List UInt8) : Bool := Tx.blank (Tx.at_ l 0)
def point (l : List UInt8) (o : Bool) : Res Pnt :=
  (coord true l o).bind fun x => if gap x.2.1 = false then none else (coord true x.2.1 x.2.2).map fun y => ((x.1, y.1), y.2)
/-- One at the least, commas between, up to a bracket. -/
def items {α : Type} (f : List UInt8 → Bool → Res α) : Nat → List UInt8 → Bool → Res (List α)
  | 0, _, _ => none
  | k + 1, l, o => (f l o).bind fun x =>
    if Tx.pre [44] (Tx.bare x.2.1) = true then (items f k (Tx.aft [44] (Tx.bare x.2.1)) x.2.2).map fun y => (x.1 :: y.1, y.2)
    else if Tx.pre [41] (Tx.bare x.2.1) = true then some ([x.1], Tx.aft [41] (Tx.bare x.2.1), x.2.2) else none
def list {α : Type} (f : List UInt8 → Bool → Res α) (l : List UInt8) (o : Bool) : Res (List α) :=
  if Tx.pre [40] (Tx.bare l) = true then items f ((Tx.bare l).length + 1) (Tx.aft [40] (Tx.bare l)) o else none
def ring := list point
def poly := list ring
def polys := list poly
end Wt

end Go.Proofs.Ytcclepohmhdpbaa

/- TEXTS, READ: steps of the plain parser. -/
namespace Go.Proofs.Ytcclepohmhdpbaa
set_option linter.all false
open Go.RowKit Go.Deep

def lenS : Value → Nat
  | .slice _ n _ => n
  | _ => 0

namespace Wt
open Bn (Res)
theorem coord_lt {p : Bool} {l t : List UInt8} {o o' : Bool} {x : Int} (h : coord p l o = some (x, t, o')) : t.length + 1 ≤ l.length := by
  unfold coord at h
  split at h
  · cases h
  · rename_i h0
    have := Option.some.inj h
    simp only [Prod.mk.injEq] at this
    have h1 := Tx.num_le p (Tx.bare l)
    have h2 := Tx.bare_le l
    rw [← this.2.1, List.length_drop]
    omega
theorem point_of {l l1 l3 : List UInt8} {o o1 o3 bad b1 b3 : Bool} {x y : Int} (h1 : (if bad = true then none else coord true l o) = (if b1 = true then none else some (x, l1, o1))) (h2 : (if (b1 || !gap l1) = true then none else coord true l1 o1) = (if b3 = true then none else some (y, l3, o3))) :
    (if bad = true then none else point l o) = (if b3 = true then none else some ((x, y), l3, o3)) ∧ (b3 = false → l3.length + 1 ≤ l.length) := by
  cases bad
  · simp only [Bool.false_eq_true, if_false] at h1 ⊢
    unfold point
    rw [h1]
    cases b1
    · simp only [Bool.false_eq_true, if_false, Option.bind_some, Bool.false_or] at h2 ⊢
      have hl1 := coord_lt h1
      cases hg : gap l1
      · rw [hg] at h2
        simp at h2
        cases b3
        · simp at h2
        · simp
      · rw [hg] at h2
        simp at h2
        rw [h2]
        cases b3
        · refine ⟨by simp, fun _ => ?_⟩
          have := coord_lt (h2.trans (by rfl))
          omega
        · simp
    · simp at h2
      cases b3
      · simp at h2
      · simp
  · simp only [if_true] at h1 ⊢
    cases b1
    · simp at h1
    · simp at h2
      cases b3
      · simp at h2
      · simp
/-- One item more. -/
theorem go_on {α : Type} {f : List UInt8 → Bool → Res α} {T : Res (List α)} {acc : List α} {k : Nat} {l t : List UInt8} {o o' bad b : Bool} {a : α} (hT : T = if bad = true then none else Bn.pre acc (items f (k + 1) l o)) (hf : (if bad = true then none else f l o) = if b = true then none else some (a, t, o')) :
    ((!b && Tx.pre [44] (Tx.bare t)) = true → T = Bn.pre (acc ++ [a]) (items f k (Tx.aft [44] (Tx.bare t)) o')) ∧ ((!b && Tx.pre [44] (Tx.bare t)) = false → T = if (b || !Tx.pre [41] (Tx.bare t)) = true then none else some (acc ++ [a], Tx.aft [41] (Tx.bare t), o')) := by
  cases bad
  · simp only [Bool.false_eq_true, if_false] at hT hf
    cases b
    · simp only [Bool.false_eq_true, if_false] at hf
      constructor
      · intro h
        simp at h
        rw [hT]
        simp only [items, hf, Option.bind_some, h, if_true, Bn.pre, Option.map_map]
        congr 1
        funext y
        simp
      · intro h
        simp at h
        rw [hT]
        simp only [items, hf, Option.bind_some, h, Bool.false_eq_true, if_false, Bool.false_or]
        cases h2 : Tx.pre [41] (Tx.bare t)
        · simp [Bn.pre]
        · simp [Bn.pre]
    · simp at hf
      constructor
      · intro h; simp at h
      · intro _
        rw [hT]
        simp [items, hf, Bn.pre]
  · simp only [if_true] at hT hf
    cases b
    · simp at hf
    · constructor
      · intro h; simp at h
      · intro _; rw [hT]; simp
theorem begin_ {α : Type} (f : List UInt8 → Bool → Res α) (l : List UInt8) (o bad : Bool) : (if bad = true then none else list f l o) = if (bad || !Tx.pre [40] (Tx.bare l)) = true then none else Bn.pre [] (items f ((Tx.bare l).length + 1) (Tx.aft [40] (Tx.bare l)) o) := by
  cases bad
  · unfold list
    cases Tx.pre [40] (Tx.bare l)
    · simp
    · simp [Bn.pre_nil]
  · simp
theorem aft_len {c : UInt8} {l : List UInt8} (h : Tx.pre [c] l = true) : (Tx.aft [c] l).length + 1 ≤ l.length := by
  rw [Tx.aft_t h, List.length_drop]
  cases l with
  | nil => simp [Tx.pre] at h
  | cons a t => simp
/-- A list that is read takes some bytes. -/
theorem items_lt {α : Type} {f : List UInt8 → Bool → Res α} {Q : α → Prop} (hf : ∀ l o a t o', f l o = some (a, t, o') → t.length + 1 ≤ l.length ∧ (l.length ≤ 6000 → Q a)) :
    ∀ (k : Nat) (l : List UInt8) (o : Bool) (r : List α) (t : List UInt8) (o' : Bool), items f k l o = some (r, t, o') → t.length + r.length ≤ l.length ∧ (l.length ≤ 6000 → ∀ a ∈ r, Q a) ∧ 0 < r.length
  | 0, l, o, r, t, o', h => by simp [items] at h
  | k + 1, l, o, r, t, o', h => by
    simp only [items] at h
    cases hx : f l o with
    | none => rw [hx] at h; simp at h
    | some x =>
      obtain ⟨a, t1, o1⟩ := x
      have h4 := hf _ _ _ _ _ hx
      have hb := Tx.bare_le t1
      rw [hx] at h
      simp only [Option.bind_some] at h
      split at h
      · rename_i hc
        simp only [Option.map_eq_some_iff] at h
        obtain ⟨⟨r2, t2, o2⟩, h2, h3⟩ := h
        simp only [Prod.mk.injEq] at h3
        obtain ⟨rfl, rfl, rfl⟩ := h3
        have h5 := items_lt hf k _ o1 r2 t2 o2 h2
        have h6 := aft_len hc
        refine ⟨by simp; omega, fun hl b hb' => ?_, by simp⟩
        rcases List.mem_cons.1 hb' with rfl | hb'
        · exact h4.2 hl
        · exact h5.2.1 (by omega) b hb'
      · split at h
        · rename_i hc
          simp only [Option.some.injEq, Prod.mk.injEq] at h
          obtain ⟨rfl, rfl, rfl⟩ := h
          have h6 := aft_len hc
          refine ⟨by simp; omega, fun hl b hb' => ?_, by simp⟩
          simp at hb'
          rw [hb']
          exact h4.2 hl
        · cases h
theorem list_lt {α : Type} {f : List UInt8 → Bool → Res α} {Q : α → Prop} (hf : ∀ l o a t o', f l o = some (a, t, o') → t.length + 1 ≤ l.length ∧ (l.length ≤ 6000 → Q a)) {l t : List UInt8} {o o' : Bool} {r : List α} (h : list f l o = some (r, t, o')) : t.length + 1 ≤ l.length ∧ (l.length ≤ 6000 → r.length ≤ 6000 ∧ ∀ a ∈ r, Q a) := by
  unfold list at h
  split at h
  · rename_i hc
    have h1 := items_lt hf _ _ _ _ _ _ h
    have h2 := Tx.aft_le [40] (Tx.bare l)
    have h3 := Tx.bare_le l
    exact ⟨by omega, fun hl => ⟨by omega, h1.2.1 (by omega)⟩⟩
  · cases h
theorem cv_le (s : List UInt8) : -32768 ≤ cv s ∧ cv s ≤ 32768 := by
  unfold cv
  cases h : Du.units s with
  | none => simp
  | some k =>
    have : k ≤ 32768 := by
      unfold Du.units at h
      cases h2 : Du.sumD (Du.place (Du.scan s [] (-1))) (Du.scan s [] (-1)).1 0 0 with
      | none => rw [h2] at h; simp at h
      | some v =>
        rw [h2] at h
        simp only [Option.bind_some, Du.fin] at h
        split at h
        · cases h
        · have := Option.some.inj h; omega
    simp only
    split <;> omega
theorem point_lt {l t : List UInt8} {o o' : Bool} {a : Pnt} (h : point l o = some (a, t, o')) : t.length + 1 ≤ l.length ∧ (l.length ≤ 6000 → (-32768 ≤ a.1 ∧ a.1 ≤ 32768) ∧ -32768 ≤ a.2 ∧ a.2 ≤ 32768) := by
  unfold point at h
  cases hx : coord true l o with
  | none => rw [hx] at h; simp at h
  | some x =>
    obtain ⟨x1, l1, o1⟩ := x
    rw [hx] at h
    simp only [Option.bind_some] at h
    split at h
    · cases h
    · simp only [Option.map_eq_some_iff] at h
      obtain ⟨⟨y, t2, o2⟩, h2, h3⟩ := h
      simp only [Prod.mk.injEq] at h3
      obtain ⟨rfl, rfl, rfl⟩ := h3
      have a1 := coord_lt hx
      have a2 := coord_lt h2
      have cx : x1 = cv ((Tx.bare l).take (Tx.num true (Tx.bare l))) := by
        unfold coord at hx
        split at hx
        · cases hx
        · have := Option.some.inj hx; simp only [Prod.mk.injEq] at this; exact this.1.symm
      have cy : y = cv ((Tx.bare l1).take (Tx.num true (Tx.bare l1))) := by
        unfold coord at h2
        split at h2
        · cases h2
        · have := Option.some.inj h2; simp only [Prod.mk.injEq] at this; exact this.1.symm
      refine ⟨by omega, fun _ => ⟨?_, ?_⟩⟩
      · rw [cx]; exact cv_le _
      · rw [cy]; exact cv_le _
theorem ring_lt {l t : List UInt8} {o o' : Bool} {r : Ring} (h : ring l o = some (r, t, o')) : t.length + 1 ≤ l.length ∧ (l.length ≤ 6000 → Bn.okR r) := list_lt (fun _ _ _ _ _ h => point_lt h) h
theorem poly_lt {l t : List UInt8} {o o' : Bool} {r : Poly} (h : poly l o = some (r, t, o')) : t.length + 1 ≤ l.length ∧ (l.length ≤ 6000 → Bn.okL r) := list_lt (fun _ _ _ _ _ h => ring_lt h) h
theorem polys_lt {l t : List UInt8} {o o' : Bool} {r : Mult} (h : polys l o = some (r, t, o')) : t.length + 1 ≤ l.length ∧ (l.length ≤ 6000 → Bn.okM r) := list_lt (fun _ _ _ _ _ h => poly_lt h) h
end Wt
end Go.Proofs.Ytcclepohmhdpbaa

/- THE PROGRAM's READER OF TEXTS: what a list needs, numbers. -/
namespace Go.Proofs.Ytcclepohmhdpbaa
set_option linter.all false
open Go.RowKit Go.Deep

namespace Tx
theorem bare_bare (l : List UInt8) : bare (bare l) = bare l := by
  induction l with
  | nil => rfl
  | cons c t ih =>
    rw [bare_cons]
    split
    · exact ih
    · rename_i h
      rw [bare_cons, if_neg h]
theorem bare_gap (l : List UInt8) : (l.length - (bare l).length = 0) ↔ Wt.gap l = false := by
  cases l with
  | nil => simp [bare, Wt.gap, at_, blank]
  | cons c t =>
    have e : Wt.gap (c :: t) = blank c.toNat := rfl
    rw [bare_cons, e]
    have := bare_le t
    cases blank c.toNat
    · simp
    · simp
      omega
end Tx

def NeedPost (k l : List UInt8) (bad off : Bool) (rb : Nat) (w : World) (e : Ending) (w' : World) : Prop :=
  e = .returned (.bool (!(bad || !Tx.pre k (Tx.bare l)))) ∧ RT w' rb (Tx.aft k (Tx.bare l)) (bad || !Tx.pre k (Tx.bare l)) off ∧ Fr (· = rb) w w'

set_option maxHeartbeats 1000000 in
theorem need_any (k l : List UInt8) (bad off : Bool) (rb : Nat) (w : World) (hr : RT w rb l bad off) (hl : l.length ≤ 6000) (hk : k.length ≤ 6000) :
    Calls Try.prog 35 #[.pointer (some ⟨rb, 0, none⟩), .string (bs k)] w (NeedPost k l bad off rb w) := by
  have HR := hide hr
  clear hr
  go_enter Try.func35, Try.ntmps35
  go_wp2_with fail
  refine (mark_any k l bad off rb _ HR.out hl hk).mono ?_
  rintro e w1 ⟨rfl, h1, u1⟩
  obtain ⟨P, hP⟩ : ∃ P, P = Tx.pre k (Tx.bare l) := ⟨_, rfl⟩
  have HPP := hide hP
  rw [← hP]
  obtain ⟨c0, c1, c2, f0, f1, f2⟩ := h1.facts
  replace h1 := hide h1
  replace u1 := hide u1
  clear hP c0 c2 f0 f2
  cases P
  · go_wp2
    go_ret
    unfold NeedPost
    rw [← HPP.out]
    refine ⟨by simp, ?_, u1.out.setCell (p := ⟨rb, 1, none⟩) rfl _⟩
    have := h1.out.bad true
    simpa using this
  · go_wp2
    go_ret
    unfold NeedPost
    rw [← HPP.out]
    exact ⟨by simp, by simpa using h1.out, u1.out⟩

def NextPost (l : List UInt8) (bad off : Bool) (rb : Nat) (w : World) (e : Ending) (w' : World) : Prop :=
  ∃ (l' : List UInt8) (bad' : Bool), e = .returned (.bool (!bad && Tx.pre [44] (Tx.bare l))) ∧ RT w' rb l' bad' off ∧ Fr (· = rb) w w' ∧ l'.length ≤ l.length ∧
    ((!bad && Tx.pre [44] (Tx.bare l)) = true → bad' = false ∧ l' = Tx.aft [44] (Tx.bare l)) ∧ ((!bad && Tx.pre [44] (Tx.bare l)) = false → bad' = (bad || !Tx.pre [41] (Tx.bare l)) ∧ (bad' = false → l' = Tx.aft [41] (Tx.bare l)))

set_option maxHeartbeats 1000000 in
theorem next_any (l : List UInt8) (bad off : Bool) (rb : Nat) (w : World) (hr : RT w rb l bad off) (hl : l.length ≤ 6000) :
    Calls Try.prog 28 #[.pointer (some ⟨rb, 0, none⟩), .string ⟨#[41]⟩] w (NextPost l bad off rb w) := by
  obtain ⟨c0, c1, c2, f0, f1, f2⟩ := hr.facts
  have HR := hide hr
  clear hr c0 c2 f0 f1 f2
  cases bad
  · have hle := Tx.bare_le l
    obtain ⟨P, hP⟩ : ∃ P, P = Tx.pre [44] (Tx.bare l) := ⟨_, rfl⟩
    have HPP := hide hP
    have HM := hide (mark_any [44] l false off rb w HR.out hl (by simp))
    rw [← hP] at HM
    clear hP
    cases P
    · have hbl : (Tx.bare l).length ≤ 6000 := by omega
      have HA : Hid (Tx.aft [44] (Tx.bare l) = Tx.bare l) := Tx.aft_f HPP.out.symm
      have HB := hide (Tx.bare_bare l)
      go_enter Try.func28, Try.ntmps28
      go_wp2_with fail
      refine HM.out.mono ?_
      rintro e w1 ⟨rfl, h1, u1⟩
      rw [HA.out] at h1
      replace h1 := hide h1
      replace u1 := hide u1
      go_wp2_with fail
      refine (need_any [41] (Tx.bare l) false off rb _ h1.out hbl (by simp)).mono ?_
      rintro e w2 ⟨rfl, h2, u2⟩
      rw [HB.out] at h2
      replace h2 := hide h2
      replace u2 := hide u2
      go_wp2
      go_ret
      unfold NextPost
      rw [← HPP.out]
      exact ⟨_, _, by simp, h2.out, u1.out.trans u2.out, Nat.le_trans (Tx.aft_le _ _) hle, by simp, fun _ => ⟨rfl, fun _ => rfl⟩⟩
    · go_enter Try.func28, Try.ntmps28
      go_wp2_with fail
      refine HM.out.mono ?_
      rintro e w1 ⟨rfl, h1, u1⟩
      replace h1 := hide h1
      replace u1 := hide u1
      go_wp2
      go_ret
      unfold NextPost
      rw [← HPP.out]
      exact ⟨_, _, by simp, h1.out, u1.out, Nat.le_trans (Tx.aft_le _ _) hle, fun _ => ⟨rfl, rfl⟩, by simp⟩
  · go_enter Try.func28, Try.ntmps28
    go_wp2
    go_ret
    unfold NextPost
    exact ⟨l, true, by simp, HR.out, Fr.refl _ _, Nat.le_refl _, by simp, by simp⟩

set_option maxHeartbeats 1000000 in
theorem number_bad (l : List UInt8) (bad off : Bool) (rb : Nat) (w : World) (hr : RT w rb l bad off) :
    Calls Try.prog 48 #[.pointer (some ⟨rb, 0, none⟩), .int .i64 0] w fun e w' => e = .returned (.string (bs [])) ∧ RT w' rb l true off ∧ Fr (· = rb) w w' := by
  obtain ⟨c0, c1, c2, f0, f1, f2⟩ := hr.facts
  have HR := hide hr
  clear hr c2 f0 f2
  go_enter Try.func48, Try.ntmps48
  go_wp2
  go_ret
  exact ⟨rfl, HR.out.bad true, (Fr.refl (· = rb) _).setCell (p := ⟨rb, 1, none⟩) rfl _⟩

set_option maxHeartbeats 1000000 in
theorem number_ok (l : List UInt8) (n : Nat) (bad off : Bool) (rb : Nat) (w : World) (hr : RT w rb l bad off) (hl : l.length ≤ 6000) (hn : 0 < n) (hnl : n ≤ l.length) :
    Calls Try.prog 48 #[.pointer (some ⟨rb, 0, none⟩), .int .i64 n] w fun e w' => e = .returned (.string (bs (l.take n))) ∧ RT w' rb (l.drop n) bad off ∧ Fr (· = rb) w w' := by
  obtain ⟨c0, c1, c2, f0, f1, f2⟩ := hr.facts
  obtain ⟨e0, e1, e2, e3, e4, e5⟩ := bs_tells l
  have HR := hide hr
  clear hr c2 f1 f2 e1 e4 e5
  go_enter Try.func48, Try.ntmps48
  go_wp2
  go_ret
  exact ⟨rfl, HR.out.rest _, (Fr.refl (· = rb) _).setCell (p := ⟨rb, 0, none⟩) rfl _⟩
end Go.Proofs.Ytcclepohmhdpbaa

/- JSON, READ: the plain parser. -/
namespace Go.Proofs.Ytcclepohmhdpbaa
set_option linter.all false
open Go.RowKit Go.Deep

namespace Js
open Bn (Res)
def hexd (x : Int) : Option Int := if 48 ≤ x ∧ x ≤ 57 then some (x - 48) else if 97 ≤ x ∧ x ≤ 102 then some (x - 87) else if 65 ≤ x ∧ x ≤ 70 then some (x - 55) else none
def mean (x : Int) : Option Int := if x = 34 ∨ x = 92 ∨ x = 47 then some x else if x = 98 then some 8 else if x = 102 then some 12 else if x = 110 then some 10 else if x = 114 then some 13 else if x = 116 then some 9 else none
/-- Digits of base 16. -/
def code : Nat → Int → List UInt8 → Option (Int × List UInt8)
  | 0, v, l => some (v, l)
  | k + 1, v, l => (hexd (Tx.at_ l 0)).bind fun d => code k (v * 16 + d) (l.drop 1)
/-- What stands behind a backslash. -/
def esc (l : List UInt8) : Option (Int × List UInt8) := if Tx.at_ l 0 = 117 then code 4 0 (l.drop 1) else (mean (Tx.at_ l 0)).map fun v => (v, l.drop 1)
/-- A character. -/
def chr (l : List UInt8) : Option (Int × List UInt8) := if Tx.at_ l 0 = 92 then esc (l.drop 1) else if 32 ≤ Tx.at_ l 0 ∧ Tx.at_ l 0 ≤ 126 then some (Tx.at_ l 0, l.drop 1) else none
def body : Nat → List UInt8 → Option (List Int × List UInt8)
  | 0, _ => none
  | k + 1, l => if Tx.at_ l 0 = 34 then some ([], l.drop 1) else (chr l).bind fun x => (body k x.2).map fun y => (x.1 :: y.1, y.2)
def str (l : List UInt8) : Option (List Int × List UInt8) := if Tx.at_ l 0 = 34 then body (l.length + 1) (l.drop 1) else none

/-- Values; the members of lists and objects in a row. -/
inductive V where
  | word
  | num (s : List UInt8)
  | txt (c : List Int)
  | nil
  | cons (n : List Int) (v r : V)
  | lst (m : V)
  | obj (m : V)
def V.deep : V → Nat
  | .word => 0
  | .num _ => 0
  | .txt _ => 0
  | .nil => 0
  | .cons _ v r => Nat.max v.deep r.deep
  | .lst m => m.deep + 1
  | .obj m => m.deep + 1
def ofM : List (List Int × V) → V
  | [] => .nil
  | x :: r => .cons x.1 x.2 (ofM r)

def items0 {α : Type} (e : UInt8) (f : List UInt8 → Option (α × List UInt8)) : Nat → List UInt8 → Option (List α × List UInt8)
  | 0, _ => none
  | k + 1, l => (f l).bind fun x =>
    if Tx.pre [44] (Tx.bare x.2) = true then (items0 e f k (Tx.aft [44] (Tx.bare x.2))).map fun y => (x.1 :: y.1, y.2)
    else if Tx.pre [e] (Tx.bare x.2) = true then some ([x.1], Tx.aft [e] (Tx.bare x.2)) else none
def list0 {α : Type} (b e : UInt8) (f : List UInt8 → Option (α × List UInt8)) (l : List UInt8) : Option (List α × List UInt8) :=
  if Tx.pre [b] (Tx.bare l) = true then
    if Tx.pre [e] (Tx.bare (Tx.aft [b] (Tx.bare l))) = true then some ([], Tx.aft [e] (Tx.bare (Tx.aft [b] (Tx.bare l))))
    else items0 e f ((Tx.bare l).length + 1) (Tx.bare (Tx.aft [b] (Tx.bare l)))
  else none
def items {α : Type} (e : UInt8) (f : List UInt8 → Bool → Res α) : Nat → List UInt8 → Bool → Res (List α)
  | 0, _, _ => none
  | k + 1, l, o => (f l o).bind fun x =>
    if Tx.pre [44] (Tx.bare x.2.1) = true then (items e f k (Tx.aft [44] (Tx.bare x.2.1)) x.2.2).map fun y => (x.1 :: y.1, y.2)
    else if Tx.pre [e] (Tx.bare x.2.1) = true then some ([x.1], Tx.aft [e] (Tx.bare x.2.1), x.2.2) else none
def list {α : Type} (b e : UInt8) (f : List UInt8 → Bool → Res α) (l : List UInt8) (o : Bool) : Res (List α) :=
  if Tx.pre [b] (Tx.bare l) = true then
    if Tx.pre [e] (Tx.bare (Tx.aft [b] (Tx.bare l))) = true then some ([], Tx.aft [e] (Tx.bare (Tx.aft [b] (Tx.bare l))), o)
    else items e f ((Tx.bare l).length + 1) (Tx.bare (Tx.aft [b] (Tx.bare l))) o
  else none

/-- A member: with a name, or without one. -/
def mem (named : Bool) (f : List UInt8 → Option (V × List UInt8)) (l : List UInt8) : Option ((List Int × V) × List UInt8) :=
  if named = true then (str (Tx.bare l)).bind fun x => if Tx.pre [58] (Tx.bare x.2) = true then (f (Tx.aft [58] (Tx.bare x.2))).map fun y => ((x.1, y.1), y.2) else none
  else (f l).map fun y => (([], y.1), y.2)

def tru : List UInt8 := [116, 114, 117, 101]
def fal : List UInt8 := [102, 97, 108, 115, 101]
def nul : List UInt8 := [110, 117, 108, 108]
def leaf (s : List UInt8) : Option (V × List UInt8) :=
  if Tx.pre tru s = true then some (.word, s.drop 4) else if Tx.pre fal s = true then some (.word, s.drop 5) else if Tx.pre nul s = true then some (.word, s.drop 4)
  else if Tx.at_ s 0 = 34 then (str s).map fun x => (.txt x.1, x.2)
  else if Tx.num false s = 0 then none else some (.num (s.take (Tx.num false s)), s.drop (Tx.num false s))
/-- A value, lists and objects at most so deep within each other. -/
def rd : Nat → List UInt8 → Option (V × List UInt8)
  | 0, l => if Tx.at_ (Tx.bare l) 0 = 91 ∨ Tx.at_ (Tx.bare l) 0 = 123 then none else leaf (Tx.bare l)
  | d + 1, l => if Tx.at_ (Tx.bare l) 0 = 91 then (list0 91 93 (mem false (rd d)) l).map fun x => (.lst (ofM x.1), x.2)
    else if Tx.at_ (Tx.bare l) 0 = 123 then (list0 123 125 (mem true (rd d)) l).map fun x => (.obj (ofM x.1), x.2)
    else leaf (Tx.bare l)

def pt (l : List UInt8) (o : Bool) : Res Pnt :=
  if Tx.pre [91] (Tx.bare l) = true then
    (Wt.coord false (Tx.aft [91] (Tx.bare l)) o).bind fun x => if Tx.pre [44] (Tx.bare x.2.1) = true then
      (Wt.coord false (Tx.aft [44] (Tx.bare x.2.1)) x.2.2).bind fun y => if Tx.pre [93] (Tx.bare y.2.1) = true then some ((x.1, y.1), Tx.aft [93] (Tx.bare y.2.1), y.2.2) else none
    else none
  else none
def ring := list 91 93 pt
def poly := list 91 93 ring
def polys := list 91 93 poly

inductive M where
  | type
  | coords (m : Mult)
  | other
def typeN : List Int := [116, 121, 112, 101]
def typeT : List Int := [77, 117, 108, 116, 105, 80, 111, 108, 121, 103, 111, 110]
def listN : List Int := [99, 111, 111, 114, 100, 105, 110, 97, 116, 101, 115]
def memV (n : List Int) (l : List UInt8) (o : Bool) : Res M :=
  if n = typeN then (str (Tx.bare l)).bind fun y => if y.1 = typeT then some (.type, y.2, o) else none
  else if n = listN then (polys l o).map fun y => (.coords y.1, y.2)
  else (rd 16 l).map fun y => (.other, y.2, o)
def memS (l : List UInt8) (o : Bool) : Res M :=
  (str (Tx.bare l)).bind fun x => if Tx.pre [58] (Tx.bare x.2) = true then memV x.1 (Tx.aft [58] (Tx.bare x.2)) o else none
def M.isT : M → Bool
  | .type => true
  | _ => false
def M.co : M → Option Mult
  | .coords m => some m
  | _ => none
def types (r : List M) : Nat := (r.filter M.isT).length
def places (r : List M) : List Mult := r.filterMap M.co
def fit (r : List M) : Bool := types r == 1 && (places r).length == 1
def last (r : List M) : Mult := (places r).getLast?.getD []
def set (l : List UInt8) : Res Mult := (list 123 125 memS l false).bind fun x => if fit x.1 = true then some (last x.1, x.2) else none
def err (l : List UInt8) : Int := match set l with
  | none => 3
  | some x => Tx.fin (Tx.bare x.2.1) false x.2.2
def got (l : List UInt8) : Mult := match set l with
  | none => []
  | some x => x.1
end Js
end Go.Proofs.Ytcclepohmhdpbaa

/- JSON, READ: the parser along the text, and that of values. -/
namespace Go.Proofs.Ytcclepohmhdpbaa
set_option linter.all false
open Go.RowKit Go.Deep

namespace Js
open Bn (Res)
/-- What is read, taken as something. -/
def lift {α β : Type} (c : α → Bool → Option (β × Bool)) (f : List UInt8 → Option (α × List UInt8)) (l : List UInt8) (o : Bool) : Res β := (f l).bind fun x => (c x.1 o).map fun y => (y.1, x.2, y.2)
def mapS {α β : Type} (c : α → Bool → Option (β × Bool)) : List α → Bool → Option (List β × Bool)
  | [], o => some ([], o)
  | a :: r, o => (c a o).bind fun y => (mapS c r y.2).map fun z => (y.1 :: z.1, z.2)

theorem items_lift {α β : Type} (e : UInt8) (c : α → Bool → Option (β × Bool)) (f : List UInt8 → Option (α × List UInt8)) :
    ∀ (k : Nat) (l : List UInt8) (o : Bool), items e (lift c f) k l o = (items0 e f k l).bind fun x => (mapS c x.1 o).map fun y => (y.1, x.2, y.2)
  | 0, l, o => rfl
  | k + 1, l, o => by
    simp only [items, items0, lift]
    cases hf : f l with
    | none => rfl
    | some x =>
      obtain ⟨a, t⟩ := x
      simp only [Option.bind_some]
      cases hc : c a o with
      | none =>
        simp only [Option.map_none, Option.bind_none]
        split
        · cases items0 e f k (Tx.aft [44] (Tx.bare t)) with
          | none => rfl
          | some y => simp [mapS, hc]
        · split
          · simp [mapS, hc]
          · rfl
      | some y =>
        obtain ⟨b, o'⟩ := y
        simp only [Option.map_some, Option.bind_some]
        split
        · rw [items_lift e c f k]
          cases items0 e f k (Tx.aft [44] (Tx.bare t)) with
          | none => rfl
          | some z =>
            simp only [Option.bind_some, Option.map_some, mapS, hc]
            cases mapS c z.1 o' <;> rfl
        · split
          · simp [mapS, hc]
          · rfl
theorem list_lift {α β : Type} (b e : UInt8) (c : α → Bool → Option (β × Bool)) (f : List UInt8 → Option (α × List UInt8)) (l : List UInt8) (o : Bool) :
    list b e (lift c f) l o = (list0 b e f l).bind fun x => (mapS c x.1 o).map fun y => (y.1, x.2, y.2) := by
  unfold list list0
  split
  · split
    · simp [mapS]
    · exact items_lift e c f _ _ o
  · rfl

theorem items0_keep {α : Type} (e : UInt8) (c : α → Bool) (f g : List UInt8 → Option (α × List UInt8)) (h : ∀ l, g l = (f l).bind fun x => if c x.1 = true then some x else none) :
    ∀ (k : Nat) (l : List UInt8), items0 e g k l = (items0 e f k l).bind fun x => if x.1.all c = true then some x else none
  | 0, l => rfl
  | k + 1, l => by
    simp only [items0, h]
    cases hf : f l with
    | none => rfl
    | some x =>
      obtain ⟨a, t⟩ := x
      simp only [Option.bind_some]
      cases hc : c a with
      | false =>
        simp only [Bool.false_eq_true, if_false, Option.bind_none]
        split
        · cases items0 e f k (Tx.aft [44] (Tx.bare t)) with
          | none => rfl
          | some y => simp [hc]
        · split
          · simp [hc]
          · rfl
      | true =>
        simp only [if_true, Option.bind_some]
        split
        · rw [items0_keep e c f g h k]
          cases items0 e f k (Tx.aft [44] (Tx.bare t)) with
          | none => rfl
          | some z =>
            simp only [Option.bind_some, Option.map_some, List.all_cons, hc, Bool.true_and]
            split <;> simp
        · split
          · simp [hc]
          · rfl
theorem list0_keep {α : Type} (b e : UInt8) (c : α → Bool) (f g : List UInt8 → Option (α × List UInt8)) (h : ∀ l, g l = (f l).bind fun x => if c x.1 = true then some x else none) (l : List UInt8) :
    list0 b e g l = (list0 b e f l).bind fun x => if x.1.all c = true then some x else none := by
  unfold list0
  split
  · split
    · simp
    · exact items0_keep e c f g h _ _
  · rfl

theorem mem_keep (nm : Bool) (c : V → Bool) (f g : List UInt8 → Option (V × List UInt8)) (h : ∀ l, g l = (f l).bind fun x => if c x.1 = true then some x else none) (l : List UInt8) :
    mem nm g l = (mem nm f l).bind fun x => if c x.1.2 = true then some x else none := by
  have key : ∀ (n : List Int) (t : List UInt8), ((g t).map fun y => ((n, y.1), y.2)) = ((f t).map fun y => ((n, y.1), y.2)).bind fun x => if c x.1.2 = true then some x else none := by
    intro n t
    rw [h]
    cases f t with
    | none => rfl
    | some y =>
      simp only [Option.bind_some, Option.map_some]
      split <;> rfl
  unfold mem
  split
  · cases str (Tx.bare l) with
    | none => rfl
    | some x =>
      simp only [Option.bind_some]
      split
      · exact key _ _
      · rfl
  · exact key _ _

theorem deep_ofM (d : Nat) : ∀ r : List (List Int × V), decide ((ofM r).deep ≤ d) = r.all fun x => decide (x.2.deep ≤ d)
  | [] => by simp [ofM, V.deep]
  | x :: r => by
    rw [List.all_cons, ← deep_ofM d r]
    simp only [ofM, V.deep]
    rw [Bool.eq_iff_iff]
    simp only [decide_eq_true_eq, Bool.and_eq_true]
    exact Nat.max_le
theorem leaf_deep {s : List UInt8} {v : V} {t : List UInt8} (h : leaf s = some (v, t)) : v.deep = 0 ∧ (∀ m, v ≠ .lst m) ∧ ∀ m, v ≠ .obj m := by
  unfold leaf at h
  split at h
  · cases h; simp [V.deep]
  · split at h
    · cases h; simp [V.deep]
    · split at h
      · cases h; simp [V.deep]
      · split at h
        · simp only [Option.map_eq_some_iff] at h
          obtain ⟨x, -, h⟩ := h
          cases h; simp [V.deep]
        · split at h
          · cases h
          · cases h; simp [V.deep]
theorem leaf_keep (s : List UInt8) (d : Nat) : leaf s = (leaf s).bind fun x => if decide (x.1.deep ≤ d) = true then some x else none := by
  cases h : leaf s with
  | none => rfl
  | some x =>
    obtain ⟨v, t⟩ := x
    simp [(leaf_deep h).1]
theorem rd_keep : ∀ (d D : Nat), d ≤ D → ∀ l, rd d l = (rd D l).bind fun x => if decide (x.1.deep ≤ d) = true then some x else none
  | 0, 0, _, l => by
    simp only [rd]
    split
    · rfl
    · exact leaf_keep _ _
  | 0, D + 1, _, l => by
    simp only [rd]
    by_cases h1 : Tx.at_ (Tx.bare l) 0 = 91
    · simp only [h1, true_or, if_true]
      cases list0 91 93 (mem false (rd D)) l with
      | none => rfl
      | some x => simp [V.deep]
    · by_cases h2 : Tx.at_ (Tx.bare l) 0 = 123
      · simp only [h2, or_true, if_true]
        rw [if_neg (by decide)]
        cases list0 123 125 (mem true (rd D)) l with
        | none => rfl
        | some x => simp [V.deep]
      · simp only [h1, h2, or_self, if_false]
        exact leaf_keep _ _
  | d + 1, D + 1, h, l => by
    have ih := rd_keep d D (by omega)
    simp only [rd]
    split
    · rw [list0_keep 91 93 (fun x => decide (x.2.deep ≤ d)) _ _ (mem_keep false (fun v => decide (v.deep ≤ d)) _ _ ih)]
      cases list0 91 93 (mem false (rd D)) l with
      | none => rfl
      | some x =>
        simp only [Option.bind_some, Option.map_some, V.deep]
        rw [← deep_ofM]
        simp only [decide_eq_true_eq, Nat.add_le_add_iff_right]
        split <;> rfl
    · split
      · rw [list0_keep 123 125 (fun x => decide (x.2.deep ≤ d)) _ _ (mem_keep true (fun v => decide (v.deep ≤ d)) _ _ ih)]
        cases list0 123 125 (mem true (rd D)) l with
        | none => rfl
        | some x =>
          simp only [Option.bind_some, Option.map_some, V.deep]
          rw [← deep_ofM]
          simp only [decide_eq_true_eq, Nat.add_le_add_iff_right]
          split <;> rfl
      · exact leaf_keep _ _

/-! ### Lists, taken as lists -/
def mapV {β : Type} (c : V → Bool → Option (β × Bool)) : V → Bool → Option (List β × Bool)
  | .nil, o => some ([], o)
  | .cons _ v r, o => (c v o).bind fun y => (mapV c r y.2).map fun z => (y.1 :: z.1, z.2)
  | _, _ => none
def cList {β : Type} (c : V → Bool → Option (β × Bool)) : V → Bool → Option (List β × Bool)
  | .lst m, o => mapV c m o
  | _, _ => none
def cNum : V → Bool → Option (Int × Bool)
  | .num s, o => some (Wt.cv s, o || (Du.units s).isNone)
  | _, _ => none
def cPt : V → Bool → Option (Pnt × Bool)
  | .lst (.cons _ a (.cons _ b .nil)), o => (cNum a o).bind fun x => (cNum b x.2).map fun y => ((x.1, y.1), y.2)
  | _, _ => none
def cRing := cList cPt
def cPoly := cList cRing
def cPolys := cList cPoly

theorem pre1 (c : UInt8) (l : List UInt8) : (Tx.pre [c] l = true) ↔ Tx.at_ l 0 = c.toNat := by
  cases l with
  | nil => simp [Tx.pre, Tx.at_]
  | cons a r => rw [Tx.pre_cons, Tx.at_zero]; simp
theorem pre1f {c : UInt8} {l : List UInt8} (h : Tx.at_ l 0 ≠ c.toNat) : Tx.pre [c] l = false := by
  cases hp : Tx.pre [c] l
  · rfl
  · exact absurd ((pre1 c l).1 hp) h
theorem mapV_ofM {β : Type} (c : V → Bool → Option (β × Bool)) : ∀ (r : List (List Int × V)) (o : Bool), mapV c (ofM r) o = mapS (fun x o => c x.2 o) r o
  | [], o => rfl
  | x :: r, o => by
    simp only [ofM, mapV, mapS]
    congr 1
    funext y
    rw [mapV_ofM c r]
theorem mem_lift {β : Type} (c : V → Bool → Option (β × Bool)) (f : List UInt8 → Option (V × List UInt8)) : lift (fun (x : List Int × V) o => c x.2 o) (mem false f) = lift c f := by
  funext l o
  simp only [lift, mem, Bool.false_eq_true, if_false]
  cases f l <;> rfl
theorem cList_rd {β : Type} (c : V → Bool → Option (β × Bool)) (d : Nat) : lift (cList c) (rd (d + 1)) = list 91 93 (lift c (rd d)) := by
  funext l o
  rw [← mem_lift c (rd d), list_lift]
  unfold lift
  simp only [rd]
  by_cases h1 : Tx.at_ (Tx.bare l) 0 = 91
  · rw [if_pos h1]
    cases list0 91 93 (mem false (rd d)) l with
    | none => rfl
    | some x =>
      simp only [Option.map_some, Option.bind_some, cList, mapV_ofM]
  · have hn : list0 91 93 (mem false (rd d)) l = none := by
      unfold list0
      rw [pre1f (by simpa using h1)]
      rfl
    rw [if_neg h1, hn]
    split
    · cases list0 123 125 (mem true (rd d)) l <;> rfl
    · cases h : leaf (Tx.bare l) with
      | none => rfl
      | some x =>
        obtain ⟨v, t⟩ := x
        have h2 := (leaf_deep h).2.1
        simp only [Option.bind_some]
        cases v <;> first | rfl | exact absurd rfl (h2 _)

theorem num_first {l : List UInt8} (h : Tx.num false l ≠ 0) : Tx.at_ l 0 = 45 ∨ (48 ≤ Tx.at_ l 0 ∧ Tx.at_ l 0 ≤ 57) := by
  by_cases h0 : Tx.at_ l 0 = 45
  · exact .inl h0
  · refine .inr ?_
    have hs : Tx.sgn false l 0 = 0 := by simp [Tx.sgn, h0]
    unfold Tx.num Tx.num1 at h
    rw [hs, List.drop_zero] at h
    cases l with
    | nil => simp [Tx.lead] at h
    | cons a r =>
      rw [Tx.at_zero]
      cases hd : Tx.digit a.toNat
      · rw [Tx.lead_cons, hd] at h
        simp at h
      · simpa [Tx.digit] using hd
theorem word_first {c : UInt8} {k l : List UInt8} (h : Tx.pre (c :: k) l = true) : Tx.at_ l 0 = c.toNat := by
  unfold Tx.pre at h
  cases l with
  | nil => simp at h
  | cons a r =>
    simp at h
    rw [Tx.at_zero, h.1]
theorem leaf_num {s : List UInt8} (h : Tx.num false s ≠ 0) : leaf s = some (.num (s.take (Tx.num false s)), s.drop (Tx.num false s)) := by
  have h1 := num_first h
  have w : ∀ (c : UInt8) (k : List UInt8), (c.toNat : Int) ≠ 45 → (57 : Int) < c.toNat → Tx.pre (c :: k) s = false := by
    intro c k h2 h3
    cases hp : Tx.pre (c :: k) s
    · rfl
    · have := word_first hp; omega
  have w1 : Tx.pre tru s = false := w 116 _ (by decide) (by decide)
  have w2 : Tx.pre fal s = false := w 102 _ (by decide) (by decide)
  have w3 : Tx.pre nul s = false := w 110 _ (by decide) (by decide)
  unfold leaf
  rw [w1, w2, w3]
  simp only [Bool.false_eq_true, if_false]
  rw [if_neg (by omega), if_neg h]
theorem cNum_leaf {s : List UInt8} (h : Tx.num false s = 0) (o : Bool) : ((leaf s).bind fun x => (cNum x.1 o).map fun y => (y.1, x.2, y.2)) = none := by
  unfold leaf
  split
  · rfl
  · split
    · rfl
    · split
      · rfl
      · split
        · cases str s <;> rfl
        · first
          | rfl
          | (rw [if_pos h]; rfl)
theorem coord_rd (d : Nat) : Wt.coord false = lift cNum (rd d) := by
  funext l o
  by_cases h : Tx.num false (Tx.bare l) = 0
  · rw [Wt.coord_none h]
    unfold lift
    cases d with
    | zero =>
      simp only [rd]
      split
      · rfl
      · exact (cNum_leaf h o).symm
    | succ d =>
      simp only [rd]
      split
      · cases list0 91 93 (mem false (rd d)) l <;> rfl
      · split
        · cases list0 123 125 (mem true (rd d)) l <;> rfl
        · exact (cNum_leaf h o).symm
  · rw [Wt.coord_some h]
    have h1 := num_first h
    have h2 : rd d l = leaf (Tx.bare l) := by
      cases d with
      | zero => simp only [rd]; rw [if_neg (by omega)]
      | succ d => simp only [rd]; rw [if_neg (by omega), if_neg (by omega)]
    unfold lift
    rw [h2, leaf_num h]
    rfl
theorem coord_bare (p : Bool) (l : List UInt8) (o : Bool) : Wt.coord p (Tx.bare l) o = Wt.coord p l o := by unfold Wt.coord; rw [Tx.bare_bare]
theorem coord_end {c : UInt8} {l : List UInt8} (h : Tx.pre [c] (Tx.bare l) = true) (hc : (57 : Int) < c.toNat) (o : Bool) : Wt.coord false l o = none := by
  refine Wt.coord_none ?_
  have h1 := (pre1 c _).1 h
  by_cases h0 : Tx.num false (Tx.bare l) = 0
  · exact h0
  · have := num_first h0; omega
theorem pt_rd (d : Nat) : pt = lift cPt (rd (d + 1)) := by
  funext l o
  unfold pt
  rw [coord_rd d]
  unfold lift
  simp only [rd]
  by_cases h1 : Tx.at_ (Tx.bare l) 0 = 91
  · rw [if_pos h1, if_pos ((pre1 91 _).2 (by simpa using h1))]
    unfold list0
    rw [if_pos ((pre1 91 _).2 (by simpa using h1))]
    obtain ⟨l1, hl1⟩ : ∃ l1, l1 = Tx.aft [91] (Tx.bare l) := ⟨_, rfl⟩
    rw [← hl1]
    have hlen : ∃ k, (Tx.bare l).length + 1 = k + 2 := by
      have : Tx.bare l ≠ [] := fun e => by rw [e] at h1; simp [Tx.at_] at h1
      have := List.length_pos_iff.2 this
      exact ⟨(Tx.bare l).length - 1, by omega⟩
    obtain ⟨k, hk⟩ := hlen
    rw [hk]
    have e0 : ∀ (t : List UInt8) (o : Bool), lift cNum (rd d) t o = Wt.coord false t o := fun t o => by rw [coord_rd d]
    have hb : rd d (Tx.bare l1) = rd d l1 := by cases d <;> simp only [rd, list0, Tx.bare_bare]
    by_cases hE : Tx.pre [93] (Tx.bare l1) = true
    · rw [if_pos hE]
      have := coord_end (c := 93) hE (by decide) o
      rw [← e0] at this
      unfold lift at this
      rw [this]
      rfl
    · rw [if_neg hE]
      have hm : ∀ t, mem false (rd d) t = (rd d t).map fun y => (([], y.1), y.2) := fun t => rfl
      simp only [items0]
      rw [hm (Tx.bare l1), hb]
      cases hx : rd d l1 with
      | none => rfl
      | some x =>
        obtain ⟨v, t⟩ := x
        simp only [Option.bind_some, Option.map_some]
        by_cases hc : Tx.pre [44] (Tx.bare t) = true
        · rw [if_pos hc, hm (Tx.aft [44] (Tx.bare t))]
          cases hy : rd d (Tx.aft [44] (Tx.bare t)) with
          | none =>
            cases cNum v o <;> simp [hc, hy]
          | some y =>
            obtain ⟨v2, t2⟩ := y
            simp only [Option.map_some, Option.bind_some]
            by_cases hc2 : Tx.pre [44] (Tx.bare t2) = true
            · have hn : Tx.pre [93] (Tx.bare t2) = false := pre1f (by rw [(pre1 44 _).1 hc2]; decide)
              rw [if_pos hc2]
              have hL : ((cNum v o).map fun y => (y.1, t, y.2)).bind (fun x => if Tx.pre [44] (Tx.bare x.2.1) = true then ((rd d (Tx.aft [44] (Tx.bare x.2.1))).bind fun y => (cNum y.1 x.2.2).map fun z => (z.1, y.2, z.2)).bind (fun y => if Tx.pre [93] (Tx.bare y.2.1) = true then some ((x.1, y.1), Tx.aft [93] (Tx.bare y.2.1), y.2.2) else none) else none) = none := by
                cases cNum v o with
                | none => rfl
                | some a =>
                  simp only [Option.map_some, Option.bind_some, hc, if_true, hy]
                  cases cNum v2 a.2 <;> simp [hn]
              refine hL.trans ?_
              cases hz : items0 93 (mem false (rd d)) k (Tx.aft [44] (Tx.bare t2)) with
              | none => rfl
              | some z =>
                simp only [Option.map_some, Option.bind_some]
                have hp : 0 < z.1.length := by
                  cases k with
                  | zero => cases hz
                  | succ k =>
                    simp only [items0, Option.bind_eq_some_iff] at hz
                    obtain ⟨u, -, hz⟩ := hz
                    split at hz
                    · simp only [Option.map_eq_some_iff] at hz
                      obtain ⟨q, -, hz⟩ := hz
                      rw [← hz]; simp
                    · split at hz
                      · cases hz; simp
                      · cases hz
                obtain ⟨zs, zt⟩ := z
                cases zs with
                | nil => simp at hp
                | cons z0 zs => rfl
            · rw [if_neg hc2]
              by_cases he2 : Tx.pre [93] (Tx.bare t2) = true
              · simp only [he2, if_true, Option.map_some, Option.bind_some, ofM, cPt]
                cases cNum v o with
                | none => rfl
                | some a =>
                  simp only [Option.map_some, Option.bind_some, hc, if_true, hy]
                  cases cNum v2 a.2 <;> simp [he2]
              · cases cNum v o with
                | none => simp [he2]
                | some a =>
                  simp only [Option.map_some, Option.bind_some, hc, if_true, hy]
                  cases cNum v2 a.2 <;> simp [he2]
        · rw [if_neg hc]
          split
          · cases cNum v o <;> simp [ofM, cPt, hc]
          · cases cNum v o <;> simp [hc]
  · have hn : Tx.pre [91] (Tx.bare l) = false := pre1f (by simpa using h1)
    rw [if_neg h1, hn]
    simp only [Bool.false_eq_true, if_false]
    split
    · cases list0 123 125 (mem true (rd d)) l <;> rfl
    · cases h : leaf (Tx.bare l) with
      | none => rfl
      | some x =>
        obtain ⟨v, t⟩ := x
        have h2 := (leaf_deep h).2.1
        simp only [Option.bind_some]
        cases v <;> first | rfl | exact absurd rfl (h2 _)
theorem polys_rd (d : Nat) : polys = lift cPolys (rd (d + 4)) := by
  unfold polys poly ring cPolys cPoly cRing
  rw [cList_rd, cList_rd, cList_rd, ← pt_rd]
end Js
end Go.Proofs.Ytcclepohmhdpbaa

/- JSON, READ: the members of the object. -/
namespace Go.Proofs.Ytcclepohmhdpbaa
set_option linter.all false
open Go.RowKit Go.Deep

namespace Js
open Bn (Res)
def isTT : V → Bool
  | .txt c => decide (c = typeT)
  | _ => false
def cM (x : List Int × V) (o : Bool) : Option (M × Bool) :=
  if x.1 = typeN then (if isTT x.2 = true then some (.type, o) else none)
  else if x.1 = listN then (cPolys x.2 o).map fun y => (.coords y.1, y.2)
  else if decide (x.2.deep ≤ 16) = true then some (.other, o) else none
theorem leaf_txt {s : List UInt8} (h : Tx.at_ s 0 = 34) : leaf s = (str s).map fun x => (.txt x.1, x.2) := by
  have w : ∀ (c : UInt8) (k : List UInt8), (c.toNat : Int) ≠ 34 → Tx.pre (c :: k) s = false := by
    intro c k h2
    cases hp : Tx.pre (c :: k) s
    · rfl
    · have := word_first hp; omega
  have w1 : Tx.pre tru s = false := w 116 _ (by decide)
  have w2 : Tx.pre fal s = false := w 102 _ (by decide)
  have w3 : Tx.pre nul s = false := w 110 _ (by decide)
  unfold leaf
  rw [w1, w2, w3]
  simp only [Bool.false_eq_true, if_false]
  rw [if_pos h]
theorem leaf_else {s : List UInt8} (h : Tx.at_ s 0 ≠ 34) {v : V} {t : List UInt8} (hl : leaf s = some (v, t)) : isTT v = false := by
  unfold leaf at hl
  split at hl
  · cases hl; rfl
  · split at hl
    · cases hl; rfl
    · split at hl
      · cases hl; rfl
      · first
        | rw [if_neg h] at hl
        | skip
        split at hl
        · cases hl
        · cases hl; rfl
theorem type_rd (D : Nat) (t : List UInt8) (o : Bool) : ((str (Tx.bare t)).bind fun y => if y.1 = typeT then some (M.type, y.2, o) else none) = (rd D t).bind fun x => (if isTT x.1 = true then some (M.type, o) else none).map fun y => (y.1, x.2, y.2) := by
  by_cases h : Tx.at_ (Tx.bare t) 0 = 34
  · have h2 : rd D t = leaf (Tx.bare t) := by
      cases D with
      | zero => simp only [rd]; rw [if_neg (by omega)]
      | succ d => simp only [rd]; rw [if_neg (by omega), if_neg (by omega)]
    rw [h2, leaf_txt h]
    cases str (Tx.bare t) with
    | none => rfl
    | some x =>
      simp only [Option.bind_some, Option.map_some, isTT, decide_eq_true_eq]
      split <;> rfl
  · have h1 : str (Tx.bare t) = none := by unfold str; rw [if_neg h]
    rw [h1]
    have key : ((leaf (Tx.bare t)).bind fun x => (if isTT x.1 = true then some (M.type, o) else none).map fun y => (y.1, x.2, y.2)) = none := by
      cases hl : leaf (Tx.bare t) with
      | none => rfl
      | some x =>
        obtain ⟨v, s⟩ := x
        simp [leaf_else h hl]
    cases D with
    | zero =>
      simp only [rd]
      split
      · rfl
      · exact key.symm
    | succ d =>
      simp only [rd]
      split
      · cases list0 91 93 (mem false (rd d)) t <;> rfl
      · split
        · cases list0 123 125 (mem true (rd d)) t <;> rfl
        · exact key.symm
theorem memS_rd (D : Nat) (hD : 16 ≤ D) : memS = lift cM (mem true (rd D)) := by
  funext l o
  unfold memS lift mem
  simp only [if_true]
  cases str (Tx.bare l) with
  | none => rfl
  | some x =>
    obtain ⟨n, s⟩ := x
    simp only [Option.bind_some]
    by_cases hc : Tx.pre [58] (Tx.bare s) = true
    · simp only [hc, if_true]
      obtain ⟨t, ht⟩ : ∃ t, t = Tx.aft [58] (Tx.bare s) := ⟨_, rfl⟩
      rw [← ht]
      unfold memV cM
      by_cases h1 : n = typeN
      · rw [if_pos h1, type_rd D t o]
        cases rd D t with
        | none => rfl
        | some v => simp [h1]
      · rw [if_neg h1]
        by_cases h2 : n = listN
        · rw [if_pos h2]
          obtain ⟨d, rfl⟩ : ∃ d, D = d + 4 := ⟨D - 4, by omega⟩
          rw [polys_rd d]
          unfold lift
          cases rd (d + 4) t with
          | none => rfl
          | some v =>
            simp only [Option.bind_some, Option.map_some]
            rw [if_neg h1, if_pos h2]
            cases cPolys v.1 o <;> rfl
        · rw [if_neg h2, rd_keep 16 D hD t]
          cases rd D t with
          | none => rfl
          | some v =>
            simp only [Option.bind_some, Option.map_some]
            rw [if_neg h1, if_neg h2]
            split <;> rfl
    · simp [hc]

def named (n : List Int) (ms : List (List Int × V)) : List V := (ms.filter fun x => decide (x.1 = n)).map Prod.snd
def good (ms : List (List Int × V)) : Bool := ms.all fun x => if x.1 = typeN then isTT x.2 else if x.1 = listN then true else decide (x.2.deep ≤ 16)
theorem listN_ne : listN ≠ typeN := by decide
theorem mapS_cM : ∀ (ms : List (List Int × V)) (o : Bool), ((mapS cM ms o).map fun y => (types y.1, places y.1, y.2)) = if good ms = true then (mapS cPolys (named listN ms) o).map fun z => ((named typeN ms).length, z.1, z.2) else none
  | [], o => rfl
  | x :: r, o => by
    obtain ⟨n, v⟩ := x
    have ih := mapS_cM r
    simp only [mapS, cM]
    by_cases h1 : n = typeN
    · have h2 : ¬ n = listN := fun e => listN_ne (e.symm.trans h1)
      have hn : named listN ((n, v) :: r) = named listN r := by simp [named, h2]
      have ht : (named typeN ((n, v) :: r)).length = (named typeN r).length + 1 := by simp [named, h1]
      have hg : good ((n, v) :: r) = (isTT v && good r) := by simp [good, h1]
      rw [hn, ht, hg, if_pos h1]
      cases isTT v
      · simp
      · simp only [if_true, Option.bind_some, Bool.true_and]
        have := congrArg (Option.map fun (z : Nat × List Mult × Bool) => (z.1 + 1, z.2)) (ih o)
        rw [Option.map_map] at this
        rw [Option.map_map]
        refine Eq.trans ?_ (this.trans ?_)
        · cases mapS cM r o <;> rfl
        · cases good r
          · rfl
          · cases mapS cPolys (named listN r) o <;> rfl
    · have ht : (named typeN ((n, v) :: r)).length = (named typeN r).length := by simp [named, h1]
      rw [if_neg h1, ht]
      by_cases h2 : n = listN
      · have hn : named listN ((n, v) :: r) = v :: named listN r := by simp [named, h2]
        have hg : good ((n, v) :: r) = good r := by simp [good, h1, h2, listN_ne]
        rw [hn, hg, if_pos h2]
        simp only [mapS]
        cases cPolys v o with
        | none => simp
        | some y =>
          obtain ⟨m, o'⟩ := y
          simp only [Option.map_some, Option.bind_some]
          have := congrArg (Option.map fun (z : Nat × List Mult × Bool) => (z.1, m :: z.2.1, z.2.2)) (ih o')
          rw [Option.map_map] at this
          rw [Option.map_map]
          refine Eq.trans ?_ (this.trans ?_)
          · cases mapS cM r o' <;> rfl
          · cases good r
            · rfl
            · cases mapS cPolys (named listN r) o' <;> rfl
      · have hn : named listN ((n, v) :: r) = named listN r := by simp [named, h2]
        have hg : good ((n, v) :: r) = (decide (v.deep ≤ 16) && good r) := by simp [good, h1, h2]
        rw [hn, hg, if_neg h2]
        cases decide (v.deep ≤ 16)
        · simp
        · simp only [if_true, Option.bind_some, Bool.true_and]
          have := ih o
          rw [← this]
          cases mapS cM r o <;> rfl
theorem mapS_len {α β : Type} (c : α → Bool → Option (β × Bool)) : ∀ (l : List α) (o : Bool) (r : List β) (o' : Bool), mapS c l o = some (r, o') → r.length = l.length
  | [], o, r, o', h => by cases h; rfl
  | a :: l, o, r, o', h => by
    simp only [mapS] at h
    cases hc : c a o with
    | none => rw [hc] at h; cases h
    | some y =>
      rw [hc] at h
      simp only [Option.bind_some, Option.map_eq_some_iff] at h
      obtain ⟨⟨z, o2⟩, h1, h2⟩ := h
      cases h2
      simp [mapS_len c l y.2 z o2 h1]
/-- What an object says, by its members. -/
def answer (ms : List (List Int × V)) : Option (Mult × Bool) :=
  if (named typeN ms).length = 1 ∧ (named listN ms).length = 1 ∧ good ms = true then (match named listN ms with
    | v :: _ => cPolys v false
    | [] => none) else none
theorem answer_eq (ms : List (List Int × V)) : ((mapS cM ms false).bind fun y => if fit y.1 = true then some (last y.1, y.2) else none) = answer ms := by
  have h0 : ((mapS cM ms false).bind fun y => if fit y.1 = true then some (last y.1, y.2) else none) = ((mapS cM ms false).map fun y => (types y.1, places y.1, y.2)).bind fun z => if (z.1 == 1 && z.2.1.length == 1) = true then some (z.2.1.getLast?.getD [], z.2.2) else none := by
    cases mapS cM ms false <;> rfl
  rw [h0, mapS_cM]
  unfold answer
  cases hg : good ms
  · simp
  · simp only [if_true, and_true]
    by_cases h1 : (named typeN ms).length = 1
    · by_cases h2 : (named listN ms).length = 1
      · rw [if_pos ⟨h1, h2⟩]
        obtain ⟨v, hv⟩ : ∃ v, named listN ms = [v] := List.length_eq_one_iff.1 h2
        rw [hv, h1]
        simp only [mapS]
        cases cPolys v false with
        | none => rfl
        | some y => simp
      · rw [if_neg (fun h => h2 h.2)]
        cases hm : mapS cPolys (named listN ms) false with
        | none => rfl
        | some z =>
          have := mapS_len _ _ _ _ _ hm
          simp
          intro _ h3
          exact absurd (this.symm.trans h3) h2
    · rw [if_neg (fun h => h1 h.1)]
      cases mapS cPolys (named listN ms) false with
      | none => rfl
      | some z => simp [h1]
theorem set_rd (D : Nat) (hD : 16 ≤ D) (l : List UInt8) : set l = (list0 123 125 (mem true (rd D)) l).bind fun x => (answer x.1).map fun y => (y.1, x.2, y.2) := by
  unfold set
  rw [memS_rd D hD, list_lift]
  cases list0 123 125 (mem true (rd D)) l with
  | none => rfl
  | some x =>
    simp only [Option.bind_some]
    rw [← answer_eq]
    cases mapS cM x.1 false with
    | none => rfl
    | some y =>
      simp only [Option.map_some, Option.bind_some]
      split <;> rfl
end Js
end Go.Proofs.Ytcclepohmhdpbaa

/- TEXTS, READ: sets, plainly. -/
namespace Go.Proofs.Ytcclepohmhdpbaa
set_option linter.all false
open Go.RowKit Go.Deep

namespace Wt
open Bn (Res)
def name : List UInt8 := [77, 85, 76, 84, 73, 80, 79, 76, 89, 71, 79, 78]
def empty : List UInt8 := [69, 77, 80, 84, 89]
theorem polys_bare (l : List UInt8) (o : Bool) : polys (Tx.bare l) o = polys l o := by unfold polys list; rw [Tx.bare_bare]
def rest (r : List UInt8) : Res Mult := if (Tx.pre empty (Tx.bare r) && gap r) = true then some ([], Tx.aft empty (Tx.bare r), false) else polys r false
def set (l : List UInt8) : Res Mult := if Tx.pre name (Tx.bare l) = true then rest (Tx.aft name (Tx.bare l)) else none
def err (l : List UInt8) : Int := match set l with
  | none => 3
  | some x => Tx.fin (Tx.bare x.2.1) false x.2.2
def got (l : List UInt8) : Mult := match set l with
  | none => []
  | some x => x.1
theorem err_of {l t : List UInt8} {m : Mult} {bad o : Bool} (h : set l = if bad = true then none else some (m, t, o)) : err l = Tx.fin (Tx.bare t) bad o := by
  unfold err
  rw [h]
  cases bad
  · rfl
  · simp [Tx.fin]
theorem got_of {l t : List UInt8} {m : Mult} {bad o : Bool} (h : set l = if bad = true then none else some (m, t, o)) (hb : bad = false) : got l = m := by
  unfold got
  rw [h, hb]
  rfl
theorem fin_bad {t : List UInt8} {bad o : Bool} (h : Tx.fin t bad o = 0) : bad = false := by
  cases bad
  · rfl
  · simp [Tx.fin] at h
theorem got_ok {l : List UInt8} (hl : l.length ≤ 6000) : Bn.okM (got l) := by
  unfold got
  cases h : set l with
  | none => exact ⟨by simp, by simp⟩
  | some x =>
    unfold set at h
    split at h
    · unfold rest at h
      have hle : (Tx.aft name (Tx.bare l)).length ≤ 6000 := Nat.le_trans (Nat.le_trans (Tx.aft_le _ _) (Tx.bare_le l)) hl
      split at h
      · have := Option.some.inj h
        rw [← this]
        exact ⟨by simp, by simp⟩
      · exact (polys_lt h).2 hle
    · cases h
end Wt
end Go.Proofs.Ytcclepohmhdpbaa

/- JSON, READ: steps of the plain parsers; what is read takes some bytes. -/
namespace Go.Proofs.Ytcclepohmhdpbaa
set_option linter.all false
open Go.RowKit Go.Deep

namespace Js
open Bn (Res)
def pre0 {α : Type} (acc : List α) (x : Option (List α × List UInt8)) : Option (List α × List UInt8) := x.map fun y => (acc ++ y.1, y.2)
theorem pre0_nil {α : Type} (x : Option (List α × List UInt8)) : pre0 [] x = x := by cases x <;> simp [pre0]
/-- One item more. -/
theorem go_on {α : Type} {e : UInt8} {f : List UInt8 → Bool → Res α} {T : Res (List α)} {acc : List α} {k : Nat} {l t : List UInt8} {o o' bad b : Bool} {a : α} (hT : T = if bad = true then none else Bn.pre acc (items e f (k + 1) l o)) (hf : (if bad = true then none else f l o) = if b = true then none else some (a, t, o')) :
    ((!b && Tx.pre [44] (Tx.bare t)) = true → T = Bn.pre (acc ++ [a]) (items e f k (Tx.aft [44] (Tx.bare t)) o')) ∧ ((!b && Tx.pre [44] (Tx.bare t)) = false → T = if (b || !Tx.pre [e] (Tx.bare t)) = true then none else some (acc ++ [a], Tx.aft [e] (Tx.bare t), o')) := by
  cases bad
  · simp only [Bool.false_eq_true, if_false] at hT hf
    cases b
    · simp only [Bool.false_eq_true, if_false] at hf
      constructor
      · intro h
        simp at h
        rw [hT]
        simp only [items, hf, Option.bind_some, h, if_true, Bn.pre, Option.map_map]
        congr 1
        funext y
        simp
      · intro h
        simp at h
        rw [hT]
        simp only [items, hf, Option.bind_some, h, Bool.false_eq_true, if_false, Bool.false_or]
        cases h2 : Tx.pre [e] (Tx.bare t)
        · simp [Bn.pre]
        · simp [Bn.pre]
    · simp at hf
      constructor
      · intro h; simp at h
      · intro _
        rw [hT]
        simp [items, hf, Bn.pre]
  · simp only [if_true] at hT hf
    cases b
    · simp at hf
    · constructor
      · intro h; simp at h
      · intro _; rw [hT]; simp
theorem go_on0 {α : Type} {e : UInt8} {f : List UInt8 → Option (α × List UInt8)} {T : Option (List α × List UInt8)} {acc : List α} {k : Nat} {l t : List UInt8} {bad b : Bool} {a : α} (hT : T = if bad = true then none else pre0 acc (items0 e f (k + 1) l)) (hf : (if bad = true then none else f l) = if b = true then none else some (a, t)) :
    ((!b && Tx.pre [44] (Tx.bare t)) = true → T = pre0 (acc ++ [a]) (items0 e f k (Tx.aft [44] (Tx.bare t)))) ∧ ((!b && Tx.pre [44] (Tx.bare t)) = false → T = if (b || !Tx.pre [e] (Tx.bare t)) = true then none else some (acc ++ [a], Tx.aft [e] (Tx.bare t))) := by
  cases bad
  · simp only [Bool.false_eq_true, if_false] at hT hf
    cases b
    · simp only [Bool.false_eq_true, if_false] at hf
      constructor
      · intro h
        simp at h
        rw [hT]
        simp only [items0, hf, Option.bind_some, h, if_true, pre0, Option.map_map]
        congr 1
        funext y
        simp
      · intro h
        simp at h
        rw [hT]
        simp only [items0, hf, Option.bind_some, h, Bool.false_eq_true, if_false, Bool.false_or]
        cases h2 : Tx.pre [e] (Tx.bare t)
        · simp [pre0]
        · simp [pre0]
    · simp at hf
      constructor
      · intro h; simp at h
      · intro _
        rw [hT]
        simp [items0, hf, pre0]
  · simp only [if_true] at hT hf
    cases b
    · simp at hf
    · constructor
      · intro h; simp at h
      · intro _; rw [hT]; simp

/-! ### What is read takes some bytes -/
theorem code_lt : ∀ (k : Nat) (v : Int) (l : List UInt8) (x : Int) (t : List UInt8), code k v l = some (x, t) → t.length ≤ l.length
  | 0, v, l, x, t, h => by cases h; exact Nat.le_refl _
  | k + 1, v, l, x, t, h => by
    simp only [code, Option.bind_eq_some_iff] at h
    obtain ⟨d, -, h⟩ := h
    have := code_lt k _ _ _ _ h
    rw [List.length_drop] at this
    omega
theorem esc_lt {l : List UInt8} {x : Int} {t : List UInt8} (h : esc l = some (x, t)) : t.length ≤ l.length := by
  unfold esc at h
  split at h
  · have := code_lt _ _ _ _ _ h
    rw [List.length_drop] at this
    omega
  · simp only [Option.map_eq_some_iff] at h
    obtain ⟨d, -, h⟩ := h
    cases h
    simp
theorem len_of_at {l : List UInt8} (h : Tx.at_ l 0 ≠ -1) : (l.drop 1).length + 1 = l.length := by
  have := Tx.lt_of_at h
  rw [List.length_drop]; omega
theorem chr_lt {l : List UInt8} {x : Int} {t : List UInt8} (h : chr l = some (x, t)) : t.length + 1 ≤ l.length := by
  unfold chr at h
  split at h
  · rename_i h0
    have h1 := len_of_at (l := l) (by omega)
    have := esc_lt h
    omega
  · split at h
    · rename_i h0
      cases h
      have h1 := len_of_at (l := l) (by omega)
      omega
    · cases h
theorem body_lt : ∀ (k : Nat) (l : List UInt8) (c : List Int) (t : List UInt8), body k l = some (c, t) → t.length + 1 + c.length ≤ l.length
  | 0, l, c, t, h => by cases h
  | k + 1, l, c, t, h => by
    simp only [body] at h
    split at h
    · rename_i h0
      cases h
      have h1 := len_of_at (l := l) (by omega)
      simp at h1 ⊢; omega
    · simp only [Option.bind_eq_some_iff, Option.map_eq_some_iff] at h
      obtain ⟨⟨v, s⟩, h1, ⟨c2, t2⟩, h2, h3⟩ := h
      cases h3
      try dsimp only at *
      have h4 := chr_lt h1
      have h5 := body_lt k s _ _ h2
      simp at h5 ⊢; omega
theorem str_lt {l : List UInt8} {c : List Int} {t : List UInt8} (h : str l = some (c, t)) : t.length + 2 + c.length ≤ l.length := by
  unfold str at h
  split at h
  · rename_i h0
    have h1 := len_of_at (l := l) (by omega)
    have := body_lt _ _ _ _ h
    omega
  · cases h
theorem items0_lt {α : Type} {e : UInt8} {f : List UInt8 → Option (α × List UInt8)} (hf : ∀ l a t, f l = some (a, t) → t.length + 1 ≤ l.length) :
    ∀ (k : Nat) (l : List UInt8) (r : List α) (t : List UInt8), items0 e f k l = some (r, t) → t.length + 1 + r.length ≤ l.length
  | 0, l, r, t, h => by cases h
  | k + 1, l, r, t, h => by
    simp only [items0, Option.bind_eq_some_iff] at h
    obtain ⟨⟨a, s⟩, h1, h⟩ := h
    have h2 := hf _ _ _ h1
    have hb := Tx.bare_le s
    simp only at h
    split at h
    · rename_i hc
      simp only [Option.map_eq_some_iff] at h
      obtain ⟨⟨r2, t2⟩, h3, h4⟩ := h
      cases h4
      try dsimp only at *
      have h5 := items0_lt hf k _ _ _ h3
      have h6 := Wt.aft_len hc
      simp; omega
    · split at h
      · rename_i hc
        cases h
        have h6 := Wt.aft_len hc
        simp; omega
      · cases h
theorem list0_lt {α : Type} {b e : UInt8} {f : List UInt8 → Option (α × List UInt8)} (hf : ∀ l a t, f l = some (a, t) → t.length + 1 ≤ l.length) {l : List UInt8} {r : List α} {t : List UInt8} (h : list0 b e f l = some (r, t)) : t.length + 2 + r.length ≤ l.length := by
  unfold list0 at h
  have hb := Tx.bare_le l
  split at h
  · rename_i hc
    have h1 := Wt.aft_len hc
    have h2 := Tx.bare_le (Tx.aft [b] (Tx.bare l))
    split at h
    · rename_i he
      cases h
      have h3 := Wt.aft_len he
      simp; omega
    · have := items0_lt hf _ _ _ _ h
      omega
  · cases h
theorem mem_lt {nm : Bool} {f : List UInt8 → Option (V × List UInt8)} (hf : ∀ l a t, f l = some (a, t) → t.length + 1 ≤ l.length) (l : List UInt8) (x : List Int × V) (t : List UInt8) (h : mem nm f l = some (x, t)) : t.length + 1 ≤ l.length := by
  unfold mem at h
  split at h
  · simp only [Option.bind_eq_some_iff] at h
    obtain ⟨⟨c, s⟩, h1, h⟩ := h
    have h2 := str_lt h1
    have h3 := Tx.bare_le l
    have h4 := Tx.bare_le s
    simp only at h
    split at h
    · rename_i hc
      have h5 := Wt.aft_len hc
      simp only [Option.map_eq_some_iff] at h
      obtain ⟨⟨v, s2⟩, h6, h7⟩ := h
      cases h7
      try dsimp only at *
      have := hf _ _ _ h6
      omega
    · cases h
  · simp only [Option.map_eq_some_iff] at h
    obtain ⟨⟨v, s2⟩, h6, h7⟩ := h
    cases h7
    try dsimp only at *
    exact hf _ _ _ h6
theorem pre_len {k l : List UInt8} (h : Tx.pre k l = true) : k.length ≤ l.length := by
  unfold Tx.pre at h
  have := congrArg List.length (beq_iff_eq.1 h)
  rw [List.length_take] at this
  omega
theorem leaf_lt {s : List UInt8} {v : V} {t : List UInt8} (h : leaf s = some (v, t)) : t.length + 1 ≤ s.length := by
  unfold leaf at h
  split at h
  · rename_i h0
    have := pre_len h0
    cases h; simp [tru] at this ⊢; omega
  · split at h
    · rename_i h0
      have := pre_len h0
      cases h; simp [fal] at this ⊢; omega
    · split at h
      · rename_i h0
        have := pre_len h0
        cases h; simp [nul] at this ⊢; omega
      · split at h
        · simp only [Option.map_eq_some_iff] at h
          obtain ⟨⟨c, s2⟩, h1, h2⟩ := h
          cases h2
          try dsimp only at *
          have := str_lt h1
          omega
        · split at h
          · cases h
          · rename_i h0
            cases h
            have := Tx.num_le false s
            rw [List.length_drop]; omega
theorem rd_lt : ∀ (d : Nat) (l : List UInt8) (v : V) (t : List UInt8), rd d l = some (v, t) → t.length + 1 ≤ l.length
  | 0, l, v, t, h => by
    simp only [rd] at h
    have hb := Tx.bare_le l
    split at h
    · cases h
    · have := leaf_lt h; omega
  | d + 1, l, v, t, h => by
    have ih := rd_lt d
    simp only [rd] at h
    have hb := Tx.bare_le l
    split at h
    · simp only [Option.map_eq_some_iff] at h
      obtain ⟨⟨r, s⟩, h1, h2⟩ := h
      cases h2
      try dsimp only at *
      have := list0_lt (mem_lt ih) h1
      omega
    · split at h
      · simp only [Option.map_eq_some_iff] at h
        obtain ⟨⟨r, s⟩, h1, h2⟩ := h
        cases h2
        try dsimp only at *
        have := list0_lt (mem_lt ih) h1
        omega
      · have := leaf_lt h; omega
theorem rd_bare (d : Nat) (l : List UInt8) : rd d (Tx.bare l) = rd d l := by cases d <;> simp only [rd, list0, Tx.bare_bare]
theorem items_lt {α : Type} {e : UInt8} {f : List UInt8 → Bool → Res α} {Q : α → Prop} (hf : ∀ l o a t o', f l o = some (a, t, o') → t.length + 1 ≤ l.length ∧ (l.length ≤ 6000 → Q a)) :
    ∀ (k : Nat) (l : List UInt8) (o : Bool) (r : List α) (t : List UInt8) (o' : Bool), items e f k l o = some (r, t, o') → t.length + 1 + r.length ≤ l.length ∧ (l.length ≤ 6000 → ∀ a ∈ r, Q a)
  | 0, l, o, r, t, o', h => by cases h
  | k + 1, l, o, r, t, o', h => by
    simp only [items, Option.bind_eq_some_iff] at h
    obtain ⟨⟨a, s, o1⟩, h1, h⟩ := h
    have h2 := hf _ _ _ _ _ h1
    have hb := Tx.bare_le s
    simp only at h
    split at h
    · rename_i hc
      simp only [Option.map_eq_some_iff] at h
      obtain ⟨⟨r2, t2, o2⟩, h3, h4⟩ := h
      cases h4
      try dsimp only at *
      have h5 := items_lt hf k _ _ _ _ _ h3
      have h6 := Wt.aft_len hc
      refine ⟨by simp; omega, fun hl b hb' => ?_⟩
      rcases List.mem_cons.1 hb' with rfl | hb'
      · exact h2.2 hl
      · exact h5.2 (by omega) b hb'
    · split at h
      · rename_i hc
        cases h
        have h6 := Wt.aft_len hc
        refine ⟨by simp; omega, fun hl b hb' => ?_⟩
        simp at hb'
        rw [hb']
        exact h2.2 hl
      · cases h
theorem list_lt {α : Type} {b e : UInt8} {f : List UInt8 → Bool → Res α} {Q : α → Prop} (hf : ∀ l o a t o', f l o = some (a, t, o') → t.length + 1 ≤ l.length ∧ (l.length ≤ 6000 → Q a)) {l t : List UInt8} {o o' : Bool} {r : List α} (h : list b e f l o = some (r, t, o')) : t.length + 1 ≤ l.length ∧ (l.length ≤ 6000 → r.length ≤ 6000 ∧ ∀ a ∈ r, Q a) := by
  unfold list at h
  have hb := Tx.bare_le l
  split at h
  · rename_i hc
    have h1 := Wt.aft_len hc
    have h2 := Tx.bare_le (Tx.aft [b] (Tx.bare l))
    split at h
    · rename_i he
      cases h
      have h3 := Wt.aft_len he
      exact ⟨by omega, fun _ => ⟨by simp, by simp⟩⟩
    · have := items_lt hf _ _ _ _ _ _ h
      exact ⟨by omega, fun hl => ⟨by omega, this.2 (by omega)⟩⟩
  · cases h
theorem coord_cv {p : Bool} {l t : List UInt8} {o o' : Bool} {x : Int} (h : Wt.coord p l o = some (x, t, o')) : -32768 ≤ x ∧ x ≤ 32768 := by
  unfold Wt.coord at h
  split at h
  · cases h
  · have := Option.some.inj h; simp only [Prod.mk.injEq] at this; rw [← this.1]; exact Wt.cv_le _
theorem pt_lt {l t : List UInt8} {o o' : Bool} {a : Pnt} (h : pt l o = some (a, t, o')) : t.length + 1 ≤ l.length ∧ (l.length ≤ 6000 → (-32768 ≤ a.1 ∧ a.1 ≤ 32768) ∧ -32768 ≤ a.2 ∧ a.2 ≤ 32768) := by
  unfold pt at h
  have hb := Tx.bare_le l
  split at h
  · rename_i hc
    have h1 := Wt.aft_len hc
    simp only [Option.bind_eq_some_iff] at h
    obtain ⟨⟨x, l1, o1⟩, hx, h⟩ := h
    have h2 := Wt.coord_lt hx
    have hb1 := Tx.bare_le l1
    simp only at h
    split at h
    · rename_i hc2
      have h3 := Wt.aft_len hc2
      simp only [Option.bind_eq_some_iff] at h
      obtain ⟨⟨y, l2, o2⟩, hy, h⟩ := h
      have h4 := Wt.coord_lt hy
      have hb2 := Tx.bare_le l2
      simp only at h
      split at h
      · rename_i hc3
        have h5 := Wt.aft_len hc3
        cases h
        exact ⟨by omega, fun _ => ⟨coord_cv hx, coord_cv hy⟩⟩
      · cases h
    · cases h
  · cases h
theorem ring_lt {l t : List UInt8} {o o' : Bool} {r : Ring} (h : ring l o = some (r, t, o')) : t.length + 1 ≤ l.length ∧ (l.length ≤ 6000 → Bn.okR r) := list_lt (fun _ _ _ _ _ h => pt_lt h) h
theorem poly_lt {l t : List UInt8} {o o' : Bool} {r : Poly} (h : poly l o = some (r, t, o')) : t.length + 1 ≤ l.length ∧ (l.length ≤ 6000 → Bn.okL r) := list_lt (fun _ _ _ _ _ h => ring_lt h) h
theorem polys_lt {l t : List UInt8} {o o' : Bool} {r : Mult} (h : polys l o = some (r, t, o')) : t.length + 1 ≤ l.length ∧ (l.length ≤ 6000 → Bn.okM r) := list_lt (fun _ _ _ _ _ h => poly_lt h) h
def okE : M → Prop
  | .coords m => Bn.okM m
  | _ => True
theorem memV_lt {n : List Int} {l t : List UInt8} {o o' : Bool} {a : M} (h : memV n l o = some (a, t, o')) : t.length + 1 ≤ l.length ∧ (l.length ≤ 6000 → okE a) := by
  unfold memV at h
  have hb := Tx.bare_le l
  split at h
  · simp only [Option.bind_eq_some_iff] at h
    obtain ⟨⟨c, s⟩, h1, h⟩ := h
    have := str_lt h1
    simp only at h
    split at h
    · cases h; exact ⟨by omega, fun _ => trivial⟩
    · cases h
  · split at h
    · simp only [Option.map_eq_some_iff] at h
      obtain ⟨⟨m, s, o2⟩, h1, h2⟩ := h
      cases h2
      try dsimp only at *
      exact polys_lt h1
    · simp only [Option.map_eq_some_iff] at h
      obtain ⟨⟨m, s⟩, h1, h2⟩ := h
      cases h2
      try dsimp only at *
      exact ⟨rd_lt _ _ _ _ h1, fun _ => trivial⟩
theorem memS_lt (l : List UInt8) (o : Bool) (a : M) (t : List UInt8) (o' : Bool) (h : memS l o = some (a, t, o')) : t.length + 1 ≤ l.length ∧ (l.length ≤ 6000 → okE a) := by
  unfold memS at h
  have hb := Tx.bare_le l
  simp only [Option.bind_eq_some_iff] at h
  obtain ⟨⟨c, s⟩, h1, h⟩ := h
  have h2 := str_lt h1
  have h3 := Tx.bare_le s
  simp only at h
  split at h
  · rename_i hc
    have h5 := Wt.aft_len hc
    have := memV_lt h
    exact ⟨by omega, fun hl => this.2 (by omega)⟩
  · cases h
theorem last_ok {r : List M} (h : ∀ a ∈ r, okE a) : Bn.okM (last r) := by
  unfold last
  cases hp : (places r).getLast? with
  | none => exact ⟨by simp, by simp⟩
  | some m =>
    have := List.mem_of_getLast? hp
    unfold places at this
    rw [List.mem_filterMap] at this
    obtain ⟨a, ha, hm⟩ := this
    have h2 := h a ha
    cases a with
    | coords m' => cases hm; exact h2
    | type => cases hm
    | other => cases hm
theorem got_ok {l : List UInt8} (hl : l.length ≤ 6000) : Bn.okM (got l) := by
  unfold got
  cases h : set l with
  | none => exact ⟨by simp, by simp⟩
  | some x =>
    unfold set at h
    simp only [Option.bind_eq_some_iff] at h
    obtain ⟨⟨r, t, o⟩, h1, h2⟩ := h
    simp only at h2
    split at h2
    · cases h2
      exact last_ok ((list_lt memS_lt h1).2 hl).2
    · cases h2
theorem err_of {l t : List UInt8} {m : Mult} {bad o : Bool} (h : set l = if bad = true then none else some (m, t, o)) : err l = Tx.fin (Tx.bare t) bad o := by
  unfold err
  rw [h]
  cases bad
  · rfl
  · simp [Tx.fin]
theorem got_of {l t : List UInt8} {m : Mult} {bad o : Bool} (h : set l = if bad = true then none else some (m, t, o)) (hb : bad = false) : got l = m := by
  unfold got
  rw [h, hb]
  rfl
end Js
end Go.Proofs.Ytcclepohmhdpbaa

/- THE PROGRAM's READER OF TEXTS: coordinates. -/
namespace Go.Proofs.Ytcclepohmhdpbaa
set_option linter.all false
open Go.RowKit Go.Deep

set_option maxHeartbeats 4000000 in
theorem split_nil (w : World) :
    Calls Try.prog 69 #[.string (bs [])] w fun e w' => e = .returned (.agg #[.bool false, .string (bs []), .int .i64 0]) ∧ Up w w' := by
  obtain ⟨e0, e1, e2, e3, e4, e5⟩ := bs_tells []
  clear e1 e4 e5
  go_enter Try.func69, Try.ntmps69
  go_wp2_with (first
    | (go_at_call 59; refine (signLength_any [] _ (by simp)).mono ?_; rintro e w' ⟨j, rfl, rfl, hj, hle⟩; obtain rfl : j = 0 := hj.out.trans rfl; clear hj hle)
    | (go_at_call 60; refine (digitsLength_let [] _ (by simp)).mono ?_; rintro e w' ⟨j, rfl, rfl, hj, hle⟩; obtain rfl : j = 0 := hj.out.trans rfl; clear hj hle))
  refine ret_split rfl rfl (vrow_new1 _ _ _ _ _ _) ⟨rfl, ((Up.refl _).alloc _).alloc _⟩

theorem unitsNil (w : World) :
    Calls Try.prog 68 #[.string (bs [])] w fun e w' => e = .returned (.tuple #[.int .i64 0, .bool true]) ∧ Up w w' :=
  Units_any [] [] false 0 w (fun w => split_nil w) (fun c hc => by cases hc) (by simp) (by omega) (by omega)

def PCooPost (l : List UInt8) (bad off : Bool) (rb : Nat) (w : World) (e : Ending) (w' : World) : Prop :=
  ∃ (x : Int) (l' : List UInt8) (bad' off' : Bool), e = .returned (.int .i64 x) ∧ RT w' rb l' bad' off' ∧ Fr (· = rb) w w' ∧ (if bad = true then none else Wt.coord true l off) = (if bad' = true then none else some (x, l', off')) ∧ l'.length ≤ l.length

set_option maxRecDepth 100000 in
set_option maxHeartbeats 2000000 in
theorem pnumber_any (l : List UInt8) (hb : Tx.bare l = l) (bad off : Bool) (rb : Nat) (w : World) (hr : RT w rb l bad off) (hl : l.length ≤ 6000) :
    Calls Try.prog 65 #[.pointer (some ⟨rb, 0, none⟩)] w (PCooPost l bad off rb w) := by
  obtain ⟨n, hn⟩ : ∃ n, n = Tx.num true l := ⟨_, rfl⟩
  have hnl : n ≤ l.length := by rw [hn]; exact Tx.num_le true l
  have HN := hide hn
  have HBB := hide hb
  have c0 := hr.c0
  have HR := hide hr
  clear hn hr hb
  have hcoo : ∀ (w : World), RT w rb l bad off → Calls Try.prog 67 #[.pointer (some ⟨rb, 0, none⟩), .int .i64 n] w (PCooPost l bad off rb w) := by
    intro w hr
    have HR := hide hr
    clear hr
    by_cases h0 : n = 0
    · subst h0
      have HE := hide (Wt.coord_none (p := true) (l := l) (o := off) (by rw [HBB.out, ← HN.out]))
      go_enter Try.func67, Try.ntmps67
      go_wp2_with fail
      refine (number_bad l bad off rb _ HR.out).mono ?_
      rintro e w1 ⟨rfl, h1, u1⟩
      replace h1 := hide h1
      replace u1 := hide u1
      go_wp2_with fail
      refine (unitsNil _).mono ?_
      rintro e w2 ⟨rfl, u2⟩
      replace u2 := hide u2
      go_wp2
      go_ret
      exact ⟨0, l, true, off, rfl, VRow.of_block h1.out (u2.out.block _ (VRow.lt h1.out)), u1.out.trans (Fr.of_up u2.out), by cases bad <;> simp [HE.out], Nat.le_refl _⟩
    · have HE := hide (Wt.coord_some (p := true) (l := l) (o := off) (by rw [HBB.out, ← HN.out]; exact h0))
      rw [HBB.out, ← HN.out] at HE
      have HSh : Hid (Du.Shape (l.take n)) := by
        rw [HN.out]
        exact Du.num_shape (by rw [← HN.out]; omega)
      have hsl : (l.take n).length ≤ 6000 := by rw [List.length_take]; omega
      have HUV := hide (Wt.unitsV_eq (l.take n))
      obtain ⟨x, hx⟩ : ∃ x, x = Wt.cv (l.take n) := ⟨_, rfl⟩
      obtain ⟨ok, hok⟩ : ∃ ok, ok = (Du.units (l.take n)).isNone := ⟨_, rfl⟩
      rw [← hx, ← hok] at HUV HE
      have hpos : 0 < n := by omega
      clear hx hok h0
      cases ok
      · go_enter Try.func67, Try.ntmps67
        go_wp2_with fail
        refine (number_ok l n bad off rb _ HR.out hl hpos hnl).mono ?_
        rintro e w1 ⟨rfl, h1, u1⟩
        replace h1 := hide h1
        replace u1 := hide u1
        go_wp2_with fail
        refine (pUnits_any _ HSh.out hsl _).mono ?_
        rintro e w2 ⟨rfl, u2⟩
        rw [HUV.out]
        replace u2 := hide u2
        go_wp2
        go_ret
        exact ⟨x, l.drop n, bad, off, rfl, VRow.of_block h1.out (u2.out.block _ (VRow.lt h1.out)), u1.out.trans (Fr.of_up u2.out), by cases bad <;> simp [HE.out], by simp⟩
      · go_enter Try.func67, Try.ntmps67
        go_wp2_with fail
        refine (number_ok l n bad off rb _ HR.out hl hpos hnl).mono ?_
        rintro e w1 ⟨rfl, h1, u1⟩
        replace h1 := hide h1
        replace u1 := hide u1
        go_wp2_with fail
        refine (pUnits_any _ HSh.out hsl _).mono ?_
        rintro e w2 ⟨rfl, u2⟩
        rw [HUV.out]
        have h2 : RT w2 rb (l.drop n) bad off := VRow.of_block h1.out (u2.block _ (VRow.lt h1.out))
        obtain ⟨-, -, d2, -, -, g2⟩ := h2.facts
        replace h2 := hide h2
        replace u2 := hide u2
        go_wp2
        go_ret
        exact ⟨x, l.drop n, bad, true, rfl, h2.out.off true, (u1.out.trans (Fr.of_up u2.out)).setCell (p := ⟨rb, 2, none⟩) rfl _, by cases bad <;> simp [HE.out], by simp⟩
  have HCoo := hide hcoo
  clear hcoo
  go_enter Try.func65, Try.ntmps65
  go_wp2_with fail
  refine (Length_any l _ (by omega)).mono ?_
  rintro e w1 ⟨rfl, hw⟩
  replace hw := hw.symm
  subst hw
  rw [← HN.out]
  go_wp2_with fail
  refine (HCoo.out _ HR.out).mono ?_
  rintro e w2 ⟨x, l', b', o', rfl, h⟩
  replace h := hide h
  go_wp2
  go_ret
  exact ⟨x, l', b', o', rfl, h.out⟩
end Go.Proofs.Ytcclepohmhdpbaa

/- THE PROGRAM's JSON: bytes, numbers. -/
namespace Go.Proofs.Ytcclepohmhdpbaa
set_option linter.all false
open Go.RowKit Go.Deep

namespace Js
/-- The first byte; nought, if there is none. -/
def fst (l : List UInt8) : Int := match l with
  | [] => 0
  | c :: _ => c.toNat
theorem fst_at (l : List UInt8) : fst l = Tx.at_ l 0 ∨ (fst l = 0 ∧ l = [] ∧ Tx.at_ l 0 = -1) := by
  cases l with
  | nil => exact .inr ⟨rfl, rfl, rfl⟩
  | cons c t => exact .inl rfl
theorem fst_nn (l : List UInt8) : 0 ≤ fst l ∧ fst l ≤ 255 := by
  cases l with
  | nil => simp [fst]
  | cons c t => have := c.toNat_lt; simp only [fst]; omega
theorem fst_eq {l : List UInt8} {x : Int} (hx : x ≠ 0) (hx1 : x ≠ -1) : fst l = x ↔ Tx.at_ l 0 = x := by
  rcases fst_at l with h | ⟨h, -, h2⟩
  · rw [h]
  · rw [h, h2]
    constructor
    · intro e; exact absurd e.symm hx
    · intro e; exact absurd e.symm hx1
theorem hexd_fst (l : List UInt8) : hexd (fst l) = hexd (Tx.at_ l 0) := by
  rcases fst_at l with h | ⟨h, -, h2⟩
  · rw [h]
  · rw [h, h2]; rfl
theorem mean_fst (l : List UInt8) : mean (fst l) = mean (Tx.at_ l 0) := by
  rcases fst_at l with h | ⟨h, -, h2⟩
  · rw [h]
  · rw [h, h2]; rfl
theorem hexd_le {x v : Int} (h : hexd x = some v) : 0 ≤ v ∧ v ≤ 15 := by
  unfold hexd at h
  split at h
  · have := Option.some.inj h; omega
  · split at h
    · have := Option.some.inj h; omega
    · split at h
      · have := Option.some.inj h; omega
      · cases h
theorem mean_le {x v : Int} (h : mean x = some v) : 0 ≤ v ∧ v ≤ 92 ∧ (x ≠ -1) := by
  unfold mean at h
  split at h
  · have := Option.some.inj h; omega
  · split at h
    · have := Option.some.inj h; omega
    · split at h
      · have := Option.some.inj h; omega
      · split at h
        · have := Option.some.inj h; omega
        · split at h
          · have := Option.some.inj h; omega
          · split at h
            · have := Option.some.inj h; omega
            · cases h
/-- The program's number: as in WKT, but for a plus and noughts ahead. -/
theorem num_false (l : List UInt8) : Tx.num false l = if Tx.at_ l 0 = 43 then 0 else if Tx.at_ l (Tx.sgn false l 0) = 48 ∧ Tx.digit (Tx.at_ l (Tx.sgn false l 0 + 1)) = true then 0 else Tx.num true l := by
  have hsg : Tx.at_ l 0 ≠ 43 → Tx.sgn true l 0 = Tx.sgn false l 0 := by intro h; simp [Tx.sgn, h]
  by_cases h1 : Tx.at_ l 0 = 43
  · rw [if_pos h1]
    by_cases h0 : Tx.num false l = 0
    · exact h0
    · have := num_first h0; omega
  · rw [if_neg h1]
    unfold Tx.num
    rw [hsg h1]
    generalize Tx.sgn false l 0 = n
    unfold Tx.num1
    by_cases h2 : Tx.at_ l n = 48 ∧ Tx.digit (Tx.at_ l (n + 1)) = true
    · rw [if_pos h2]
      obtain ⟨ha, hb⟩ := h2
      have hn : n < l.length := Tx.lt_of_at (by omega)
      have hn1 : n + 1 < l.length := Tx.lt_of_at (by intro e; rw [e] at hb; simp [Tx.digit] at hb)
      have hd0 : Tx.digit (l[n].toNat : Int) = true := by rw [← Tx.at_lt hn, ha]; rfl
      have hd1 : Tx.digit (l[n + 1].toNat : Int) = true := by rw [← Tx.at_lt hn1]; exact hb
      have : 1 < Tx.lead (l.drop n) := by
        rw [Tx.drop_cons hn, Tx.lead_cons, if_pos hd0, Tx.drop_cons hn1, Tx.lead_cons, if_pos hd1]
        omega
      rw [if_neg (by omega), if_pos ⟨rfl, this, ha⟩]
    · rw [if_neg h2]
      have : ¬ (1 < Tx.lead (l.drop n) ∧ Tx.at_ l n = 48) := by
        rintro ⟨h3, h4⟩
        refine h2 ⟨h4, ?_⟩
        have hn : n < l.length := Tx.lt_of_at (by omega)
        rw [Tx.drop_cons hn, Tx.lead_cons] at h3
        split at h3
        · cases hr : l.drop (n + 1) with
          | nil => rw [hr] at h3; simp [Tx.lead] at h3
          | cons c t =>
            have hc : Tx.at_ l (n + 1) = c.toNat := by
              have := Tx.at_drop l (n + 1) 0
              rw [hr] at this
              simpa [Tx.at_zero] using this.symm
            rw [hr, Tx.lead_cons] at h3
            rw [hc]
            cases hd : Tx.digit (c.toNat : Int)
            · rw [hd] at h3; simp at h3
            · rfl
        · omega
      by_cases h5 : Tx.lead (l.drop n) = 0
      · rw [if_pos h5, if_pos h5]
      · rw [if_neg h5, if_neg h5, if_neg (fun h => this h.2), if_neg (by simp)]
theorem lead_of {l : List UInt8} {n : Nat} (ha : Tx.at_ l n = 48) (hb : Tx.digit (Tx.at_ l (n + 1)) = true) : 1 < Tx.lead (l.drop n) := by
  have hn : n < l.length := Tx.lt_of_at (by omega)
  have hn1 : n + 1 < l.length := Tx.lt_of_at (by intro e; rw [e] at hb; simp [Tx.digit] at hb)
  have hd0 : Tx.digit (l[n].toNat : Int) = true := by rw [← Tx.at_lt hn, ha]; rfl
  have hd1 : Tx.digit (l[n + 1].toNat : Int) = true := by rw [← Tx.at_lt hn1]; exact hb
  rw [Tx.drop_cons hn, Tx.lead_cons, if_pos hd0, Tx.drop_cons hn1, Tx.lead_cons, if_pos hd1]
  omega
theorem num3_ge (l : List UInt8) (n : Nat) : Tx.num3 l n = 0 ∨ n ≤ Tx.num3 l n := by
  unfold Tx.num3
  split
  · split
    · exact .inl rfl
    · exact .inr (by omega)
  · exact .inr (Nat.le_refl _)
theorem num2_ge (l : List UInt8) (n : Nat) : Tx.num2 l n = 0 ∨ n ≤ Tx.num2 l n := by
  unfold Tx.num2
  split
  · split
    · exact .inl rfl
    · rcases num3_ge l (n + 1 + Tx.lead (l.drop (n + 1))) with h | h
      · exact .inl h
      · exact .inr (by omega)
  · exact num3_ge l n
theorem num_ge {p : Bool} {l : List UInt8} (h : Tx.num p l ≠ 0) : Tx.sgn p l 0 + Tx.lead (l.drop (Tx.sgn p l 0)) ≤ Tx.num p l ∧ 1 ≤ Tx.lead (l.drop (Tx.sgn p l 0)) := by
  unfold Tx.num at h ⊢
  generalize Tx.sgn p l 0 = n at h ⊢
  unfold Tx.num1 at h ⊢
  split
  · rename_i h1; rw [if_pos h1] at h; simp at h
  · rename_i h1
    rw [if_neg h1] at h
    split
    · rename_i h2; rw [if_pos h2] at h; simp at h
    · rename_i h2
      rw [if_neg h2] at h
      rcases num2_ge l (n + Tx.lead (l.drop n)) with h3 | h3
      · exact absurd h3 h
      · exact ⟨h3, by omega⟩
end Js

set_option maxHeartbeats 1000000 in
theorem first_any (l : List UInt8) (w : World) (hl : l.length ≤ 6000) :
    Calls Try.prog 44 #[.string (bs l)] w fun e w' => e = .returned (.int .u8 (Js.fst l)) ∧ w' = w := by
  obtain ⟨e0, e1, e2, e3, e4, e5⟩ := bs_tells l
  clear e2 e3 e4 e5
  cases l with
  | nil =>
    go_enter Try.func44, Try.ntmps44
    go_wp2
    go_ret
    exact ⟨rfl, rfl⟩
  | cons c t =>
    have e6 := Tx.at_zero c t
    have e7 : ¬ ((c :: t).length : Int) = 0 := by simp only [List.length_cons]; omega
    have e8 : 0 < (c :: t).length := by simp
    go_enter Try.func44, Try.ntmps44
    go_wp2
    go_ret
    exact ⟨by simp [Js.fst, e6], rfl⟩

set_option maxHeartbeats 1000000 in
theorem digitOf_any (x : Int) (h0 : 0 ≤ x) (h1 : x ≤ 255) (w : World) :
    Calls Try.prog 66 #[.int .u8 x] w fun e w' => e = .returned (.int .i64 ((Js.hexd x).getD (-1))) ∧ w' = w := by
  unfold Js.hexd
  by_cases a1 : 48 ≤ x ∧ x ≤ 57
  · rw [if_pos a1]
    obtain ⟨b1, b2⟩ := a1
    go_enter Try.func66, Try.ntmps66
    go_wp2
    go_ret
    exact ⟨by go_num, rfl⟩
  · rw [if_neg a1]
    by_cases a2 : 97 ≤ x ∧ x ≤ 102
    · rw [if_pos a2]
      obtain ⟨b1, b2⟩ := a2
      have b3 : ¬ x ≤ 57 := by omega
      go_enter Try.func66, Try.ntmps66
      go_wp2
      all_goals
        go_ret
        exact ⟨by go_num, rfl⟩
    · rw [if_neg a2]
      by_cases a3 : 65 ≤ x ∧ x ≤ 70
      · rw [if_pos a3]
        obtain ⟨b1, b2⟩ := a3
        have b3 : ¬ x ≤ 57 := by omega
        have b4 : ¬ 97 ≤ x := by omega
        go_enter Try.func66, Try.ntmps66
        go_wp2
        all_goals
          go_ret
          exact ⟨by go_num, rfl⟩
      · rw [if_neg a3]
        go_enter Try.func66, Try.ntmps66
        go_wp2
        all_goals first
          | (exfalso; omega)
          | (go_ret; exact ⟨rfl, rfl⟩)

set_option maxHeartbeats 2000000 in
theorem meaning_any (x : Int) (w : World) :
    Calls Try.prog 63 #[.int .u8 x] w fun e w' => e = .returned (.int .i64 ((Js.mean x).getD (-1))) ∧ w' = w := by
  unfold Js.mean
  by_cases a1 : x = 34
  · subst a1
    go_enter Try.func63, Try.ntmps63
    go_wp2
    go_ret
    exact ⟨rfl, rfl⟩
  by_cases a2 : x = 92
  · subst a2
    go_enter Try.func63, Try.ntmps63
    go_wp2
    go_ret
    exact ⟨rfl, rfl⟩
  by_cases a3 : x = 47
  · subst a3
    go_enter Try.func63, Try.ntmps63
    go_wp2
    go_ret
    exact ⟨rfl, rfl⟩
  rw [if_neg (by omega)]
  by_cases a4 : x = 98
  · subst a4
    go_enter Try.func63, Try.ntmps63
    go_wp2
    go_ret
    exact ⟨rfl, rfl⟩
  by_cases a5 : x = 102
  · subst a5
    go_enter Try.func63, Try.ntmps63
    go_wp2
    go_ret
    exact ⟨rfl, rfl⟩
  by_cases a6 : x = 110
  · subst a6
    go_enter Try.func63, Try.ntmps63
    go_wp2
    go_ret
    exact ⟨rfl, rfl⟩
  by_cases a7 : x = 114
  · subst a7
    go_enter Try.func63, Try.ntmps63
    go_wp2
    go_ret
    exact ⟨rfl, rfl⟩
  by_cases a8 : x = 116
  · subst a8
    go_enter Try.func63, Try.ntmps63
    go_wp2
    go_ret
    exact ⟨rfl, rfl⟩
  rw [if_neg a4, if_neg a5, if_neg a6, if_neg a7, if_neg a8]
  have c1 := beq_eq_false_iff_ne.2 a1
  have c2 := beq_eq_false_iff_ne.2 a2
  have c3 := beq_eq_false_iff_ne.2 a3
  have c4 := beq_eq_false_iff_ne.2 a4
  have c5 := beq_eq_false_iff_ne.2 a5
  have c6 := beq_eq_false_iff_ne.2 a6
  have c7 := beq_eq_false_iff_ne.2 a7
  have c8 := beq_eq_false_iff_ne.2 a8
  go_enter Try.func63, Try.ntmps63
  go_wp2
  go_ret
  exact ⟨rfl, rfl⟩

set_option maxRecDepth 100000 in
set_option maxHeartbeats 4000000 in
theorem numberLength_any (l : List UInt8) (w : World) (hl : l.length ≤ 6000) :
    Calls Try.prog 47 #[.string (bs l)] w fun e w' => e = .returned (.int .i64 (Tx.num false l : Nat)) ∧ w' = w := by
  obtain ⟨n, hn⟩ : ∃ n, n = Tx.num true l := ⟨_, rfl⟩
  have hnl : n ≤ l.length := by rw [hn]; exact Tx.num_le true l
  have HN := hide hn
  have HNF := hide (Js.num_false l)
  obtain ⟨q, hq⟩ : ∃ q, q = l.take n := ⟨_, rfl⟩
  have hql : q.length = n := by rw [hq, List.length_take]; omega
  have hqa : ∀ i, i < n → Tx.at_ q i = Tx.at_ l i := by
    intro i hi
    rw [hq]
    simp [Tx.at_, List.getElem?_take, hi]
  have e3 : ∀ b : Nat, b = n → (bs l).extract 0 b = bs q := fun b hb => by rw [hb, hq]; exact bs_take l n
  have HFQ := hide (fun w => first_any q w (by omega))
  clear hn
  obtain ⟨m, hm⟩ : ∃ m, m = Tx.sgn false l 0 := ⟨_, rfl⟩
  obtain ⟨u, hu⟩ : ∃ u, u = q.drop m := ⟨_, rfl⟩
  have hul : u.length = n - m := by rw [hu, List.length_drop, hql]
  have hua : ∀ i, m + i < n → Tx.at_ u i = Tx.at_ l (m + i) := by
    intro i hi
    rw [hu, Tx.at_drop, hqa _ hi]
  have HR : Hid (Tx.num false l = if 1 < u.length ∧ Tx.at_ u 0 = 48 ∧ 48 ≤ Tx.at_ u 1 ∧ Tx.at_ u 1 ≤ 57 ∧ Tx.at_ l 0 ≠ 43 then 0 else if Tx.at_ l 0 = 43 then 0 else n) := by
    have h := HNF.out
    rw [← hm, ← HN.out] at h
    show _ = _
    rw [h]
    by_cases h1 : Tx.at_ l 0 = 43
    · simp [h1]
    · rw [if_neg h1, if_neg h1]
      by_cases h2 : Tx.at_ l m = 48 ∧ Tx.digit (Tx.at_ l (m + 1)) = true
      · rw [if_pos h2]
        split
        · rfl
        · rename_i h3
          by_cases hn0 : n = 0
          · rw [hn0]
          · exfalso
            have hs : Tx.sgn true l 0 = m := by rw [hm]; simp [Tx.sgn, h1]
            have h4 := Js.num_ge (p := true) (l := l) (by rw [← HN.out]; exact hn0)
            rw [hs, ← HN.out] at h4
            have h5 := Js.lead_of h2.1 h2.2
            have a0 := hua 0 (by omega)
            have a1 := hua 1 (by omega)
            have h6 : 48 ≤ Tx.at_ l (m + 1) ∧ Tx.at_ l (m + 1) ≤ 57 := by simpa [Tx.digit] using h2.2
            rw [Nat.add_zero] at a0
            exact h3 ⟨by omega, by rw [a0]; exact h2.1, by rw [a1]; exact h6.1, by rw [a1]; exact h6.2, h1⟩
      · rw [if_neg h2]
        split
        · rename_i h3
          exfalso
          obtain ⟨b1, b2, b3, b4, -⟩ := h3
          have a0 := hua 0 (by omega)
          have a1 := hua 1 (by omega)
          rw [Nat.add_zero] at a0
          rw [a0] at b2
          rw [a1] at b3 b4
          exact h2 ⟨b2, by simp [Tx.digit, b3, b4]⟩
        · rfl
  obtain ⟨R, hR⟩ : ∃ R, R = Tx.num false l := ⟨_, rfl⟩
  rw [← hR] at HR ⊢
  have HL := hide (Length_any l w (by omega))
  rw [← HN.out] at HL
  have hsz0 := bs_size l
  have hsq := bs_size q
  obtain ⟨f, hf⟩ : ∃ f, f = Js.fst q := ⟨_, rfl⟩
  rw [← hf] at HFQ
  have hfq : n ≠ 0 → f = Tx.at_ l 0 := by
    intro h
    rw [hf]
    rcases Js.fst_at q with h1 | ⟨-, h1, -⟩
    · rw [h1, hqa 0 (by omega)]
    · rw [h1] at hql; simp at hql; omega
  have hf0 : n = 0 → f = 0 := by
    intro h
    have : q = [] := List.length_eq_zero_iff.1 (by omega)
    rw [hf, this]; rfl
  have hx := e3 n rfl
  obtain ⟨u0, u1, -, -, -, -⟩ := bs_tells u
  have q2 : (bs q).extract 1 n = bs (q.drop 1) := by rw [← hql]; exact (bs_tells q).drop 1
  clear hqa e3 HNF hR hua
  by_cases c43 : f = 43
  · subst c43
    have hn0 : n ≠ 0 := fun h => by have := hf0 h; omega
    have ha := hfq hn0
    obtain rfl : R = 0 := by rw [HR.out]; simp [← ha]
    clear hfq hf0 HR u0 u1 q2 hm hu hul hq
    go_enter Try.func47, Try.ntmps47
    go_wp2_with fail
    refine HL.out.mono ?_
    rintro e w1 ⟨rfl, hw⟩
    replace hw := hw.symm
    subst hw
    go_wp2_with fail
    refine (HFQ.out _).mono ?_
    rintro e w1 ⟨rfl, hw⟩
    replace hw := hw.symm
    subst hw
    go_wp2
    go_ret
    exact ⟨rfl, rfl⟩
  have hcs : (¬ 1 < u.length ∧ R = n) ∨ (1 < u.length ∧ Tx.at_ u 0 ≠ 48 ∧ R = n) ∨ (1 < u.length ∧ Tx.at_ u 0 = 48 ∧ ¬ 48 ≤ Tx.at_ u 1 ∧ R = n) ∨ (1 < u.length ∧ Tx.at_ u 0 = 48 ∧ 48 ≤ Tx.at_ u 1 ∧ ¬ Tx.at_ u 1 ≤ 57 ∧ R = n) ∨ (1 < u.length ∧ Tx.at_ u 0 = 48 ∧ 48 ≤ Tx.at_ u 1 ∧ Tx.at_ u 1 ≤ 57 ∧ R = 0) := by
    have h := HR.out
    by_cases hn0 : n = 0
    · refine .inl ⟨by omega, ?_⟩
      rw [h, hn0]
      split
      · rfl
      · split <;> rfl
    have ha43 : Tx.at_ l 0 ≠ 43 := fun e => c43 ((hfq hn0).trans e)
    by_cases h1 : 1 < u.length
    · by_cases h2 : Tx.at_ u 0 = 48
      · by_cases h3 : 48 ≤ Tx.at_ u 1
        · by_cases h4 : Tx.at_ u 1 ≤ 57
          · rw [if_pos ⟨h1, h2, h3, h4, ha43⟩] at h
            exact .inr (.inr (.inr (.inr ⟨h1, h2, h3, h4, h⟩)))
          · rw [if_neg (fun e => h4 e.2.2.2.1), if_neg ha43] at h
            exact .inr (.inr (.inr (.inl ⟨h1, h2, h3, h4, h⟩)))
        · rw [if_neg (fun e => h3 e.2.2.1), if_neg ha43] at h
          exact .inr (.inr (.inl ⟨h1, h2, h3, h⟩))
      · rw [if_neg (fun e => h2 e.2.1), if_neg ha43] at h
        exact .inr (.inl ⟨h1, h2, h⟩)
    · rw [if_neg (fun e => h1 e.1), if_neg ha43] at h
      exact .inl ⟨h1, h⟩
  have b43 := beq_eq_false_iff_ne.2 c43
  by_cases c45 : f = 45
  · have hn0 : n ≠ 0 := fun h => by have := hf0 h; omega
    have ha := hfq hn0
    obtain rfl : m = 1 := by rw [hm]; simp [Tx.sgn, ← ha, c45]
    rw [← hu] at q2
    have hn1 : (1 : Int) ≤ (n : Int) := by omega
    clear hfq hf0 HR hm hu ha hq
    subst c45
    have hn2 : 1 ≤ n := by omega
    rcases hcs with ⟨h1, rfl⟩ | ⟨h1, h2, rfl⟩ | ⟨h1, h2, h3, rfl⟩ | ⟨h1, h2, h3, h4, rfl⟩ | ⟨h1, h2, h3, h4, rfl⟩
    · have g1 : ¬ (1 : Int) < (u.length : Int) := by omega
      go_enter Try.func47, Try.ntmps47
      go_wp2_with fail
      refine HL.out.mono ?_
      rintro e w1 ⟨rfl, hw⟩
      replace hw := hw.symm
      subst hw
      go_wp2_with fail
      refine (HFQ.out _).mono ?_
      rintro e w1 ⟨rfl, hw⟩
      replace hw := hw.symm
      subst hw
      go_wp2_with fail
      refine (HFQ.out _).mono ?_
      rintro e w1 ⟨rfl, hw⟩
      replace hw := hw.symm
      subst hw
      go_wp2
      go_ret
      exact ⟨rfl, rfl⟩
    · have g1 : (1 : Int) < (u.length : Int) := by omega
      have g0 : 0 < u.length := by omega
      have g2 := beq_eq_false_iff_ne.2 h2
      go_enter Try.func47, Try.ntmps47
      go_wp2_with fail
      refine HL.out.mono ?_
      rintro e w1 ⟨rfl, hw⟩
      replace hw := hw.symm
      subst hw
      go_wp2_with fail
      refine (HFQ.out _).mono ?_
      rintro e w1 ⟨rfl, hw⟩
      replace hw := hw.symm
      subst hw
      go_wp2_with fail
      refine (HFQ.out _).mono ?_
      rintro e w1 ⟨rfl, hw⟩
      replace hw := hw.symm
      subst hw
      go_wp2
      go_ret
      exact ⟨rfl, rfl⟩
    · have g1 : (1 : Int) < (u.length : Int) := by omega
      have g0 : 0 < u.length := by omega
      go_enter Try.func47, Try.ntmps47
      go_wp2_with fail
      refine HL.out.mono ?_
      rintro e w1 ⟨rfl, hw⟩
      replace hw := hw.symm
      subst hw
      go_wp2_with fail
      refine (HFQ.out _).mono ?_
      rintro e w1 ⟨rfl, hw⟩
      replace hw := hw.symm
      subst hw
      go_wp2_with fail
      refine (HFQ.out _).mono ?_
      rintro e w1 ⟨rfl, hw⟩
      replace hw := hw.symm
      subst hw
      go_wp2
      go_ret
      exact ⟨rfl, rfl⟩
    · have g1 : (1 : Int) < (u.length : Int) := by omega
      have g0 : 0 < u.length := by omega
      go_enter Try.func47, Try.ntmps47
      go_wp2_with fail
      refine HL.out.mono ?_
      rintro e w1 ⟨rfl, hw⟩
      replace hw := hw.symm
      subst hw
      go_wp2_with fail
      refine (HFQ.out _).mono ?_
      rintro e w1 ⟨rfl, hw⟩
      replace hw := hw.symm
      subst hw
      go_wp2_with fail
      refine (HFQ.out _).mono ?_
      rintro e w1 ⟨rfl, hw⟩
      replace hw := hw.symm
      subst hw
      go_wp2
      go_ret
      exact ⟨rfl, rfl⟩
    · have g1 : (1 : Int) < (u.length : Int) := by omega
      have g0 : 0 < u.length := by omega
      go_enter Try.func47, Try.ntmps47
      go_wp2_with fail
      refine HL.out.mono ?_
      rintro e w1 ⟨rfl, hw⟩
      replace hw := hw.symm
      subst hw
      go_wp2_with fail
      refine (HFQ.out _).mono ?_
      rintro e w1 ⟨rfl, hw⟩
      replace hw := hw.symm
      subst hw
      go_wp2_with fail
      refine (HFQ.out _).mono ?_
      rintro e w1 ⟨rfl, hw⟩
      replace hw := hw.symm
      subst hw
      go_wp2
      go_ret
      exact ⟨rfl, rfl⟩
  · have b45 := beq_eq_false_iff_ne.2 c45
    obtain rfl : u = q := by
      by_cases hn0 : n = 0
      · have : q = [] := List.length_eq_zero_iff.1 (by omega)
        rw [hu, this]; simp
      · have ha := hfq hn0
        have : m = 0 := by rw [hm]; simp [Tx.sgn, ← ha, c45]
        rw [hu, this]; rfl
    clear hfq hf0 HR hm hu q2 hsq hq
    rcases hcs with ⟨h1, rfl⟩ | ⟨h1, h2, rfl⟩ | ⟨h1, h2, h3, rfl⟩ | ⟨h1, h2, h3, h4, rfl⟩ | ⟨h1, h2, h3, h4, rfl⟩
    · have g1 : ¬ (1 : Int) < (u.length : Int) := by omega
      go_enter Try.func47, Try.ntmps47
      go_wp2_with fail
      refine HL.out.mono ?_
      rintro e w1 ⟨rfl, hw⟩
      replace hw := hw.symm
      subst hw
      go_wp2_with fail
      refine (HFQ.out _).mono ?_
      rintro e w1 ⟨rfl, hw⟩
      replace hw := hw.symm
      subst hw
      go_wp2_with fail
      refine (HFQ.out _).mono ?_
      rintro e w1 ⟨rfl, hw⟩
      replace hw := hw.symm
      subst hw
      go_wp2
      go_ret
      exact ⟨rfl, rfl⟩
    · have g1 : (1 : Int) < (u.length : Int) := by omega
      have g0 : 0 < u.length := by omega
      have g2 := beq_eq_false_iff_ne.2 h2
      go_enter Try.func47, Try.ntmps47
      go_wp2_with fail
      refine HL.out.mono ?_
      rintro e w1 ⟨rfl, hw⟩
      replace hw := hw.symm
      subst hw
      go_wp2_with fail
      refine (HFQ.out _).mono ?_
      rintro e w1 ⟨rfl, hw⟩
      replace hw := hw.symm
      subst hw
      go_wp2_with fail
      refine (HFQ.out _).mono ?_
      rintro e w1 ⟨rfl, hw⟩
      replace hw := hw.symm
      subst hw
      go_wp2
      go_ret
      exact ⟨rfl, rfl⟩
    · have g1 : (1 : Int) < (u.length : Int) := by omega
      have g0 : 0 < u.length := by omega
      go_enter Try.func47, Try.ntmps47
      go_wp2_with fail
      refine HL.out.mono ?_
      rintro e w1 ⟨rfl, hw⟩
      replace hw := hw.symm
      subst hw
      go_wp2_with fail
      refine (HFQ.out _).mono ?_
      rintro e w1 ⟨rfl, hw⟩
      replace hw := hw.symm
      subst hw
      go_wp2_with fail
      refine (HFQ.out _).mono ?_
      rintro e w1 ⟨rfl, hw⟩
      replace hw := hw.symm
      subst hw
      go_wp2
      go_ret
      exact ⟨rfl, rfl⟩
    · have g1 : (1 : Int) < (u.length : Int) := by omega
      have g0 : 0 < u.length := by omega
      go_enter Try.func47, Try.ntmps47
      go_wp2_with fail
      refine HL.out.mono ?_
      rintro e w1 ⟨rfl, hw⟩
      replace hw := hw.symm
      subst hw
      go_wp2_with fail
      refine (HFQ.out _).mono ?_
      rintro e w1 ⟨rfl, hw⟩
      replace hw := hw.symm
      subst hw
      go_wp2_with fail
      refine (HFQ.out _).mono ?_
      rintro e w1 ⟨rfl, hw⟩
      replace hw := hw.symm
      subst hw
      go_wp2
      go_ret
      exact ⟨rfl, rfl⟩
    · have g1 : (1 : Int) < (u.length : Int) := by omega
      have g0 : 0 < u.length := by omega
      go_enter Try.func47, Try.ntmps47
      go_wp2_with fail
      refine HL.out.mono ?_
      rintro e w1 ⟨rfl, hw⟩
      replace hw := hw.symm
      subst hw
      go_wp2_with fail
      refine (HFQ.out _).mono ?_
      rintro e w1 ⟨rfl, hw⟩
      replace hw := hw.symm
      subst hw
      go_wp2_with fail
      refine (HFQ.out _).mono ?_
      rintro e w1 ⟨rfl, hw⟩
      replace hw := hw.symm
      subst hw
      go_wp2
      go_ret
      exact ⟨rfl, rfl⟩
end Go.Proofs.Ytcclepohmhdpbaa
