import Derived.WalkKit
namespace Go.Proofs.YtcclepohmhdpbabGreatDoor
set_option linter.all false
abbrev Pnt := Int × Int
abbrev Ring := List Pnt
abbrev Poly := List Ring
abbrev Mult := List Poly
namespace Pl
def farC (x : Int) : Bool := decide (32768 < x) || decide (x < -32768)
def wideP (p : Pnt) : Bool := farC p.1 || farC p.2
def wideR (r : Ring) : Bool := r.any wideP
def wideL (l : Poly) : Bool := l.any wideR
def badR (r : Ring) : Bool := decide (r.length < 4) || !(decide (r.head? = r.getLast?))
def badRs (l : Poly) : Bool := l.any badR
def badL (l : Poly) : Bool := l.isEmpty || badRs l
def nR (m : Mult) : Nat := (m.map List.length).sum
def nPl (l : Poly) : Nat := (l.map List.length).sum
def nP (m : Mult) : Nat := (m.map nPl).sum
def many (m : Mult) : Bool := decide (8 < m.length) || decide (12 < nR m) || decide (100 < nP m)
def wrong (m : Mult) : Int := if many m = true then 6 else if m.any badL = true then 5 else if m.any wideL = true then 4 else 0
structure Bd (m : Mult) : Prop where
 len : m.length ≤ 1048576
 poly : ∀ l ∈ m, l.length ≤ 1048576
 ring : ∀ l ∈ m, ∀ r ∈ l, r.length ≤ 1048576
theorem take_one {α : Type} {l : List α} {k : Nat} {x : α} (h : l[k]? = some x) : l.take (k + 1) = l.take k ++ [x] := by
 rw [List.take_succ, h]; rfl
theorem lt_of_some {α : Type} {l : List α} {k : Nat} {x : α} (h : l[k]? = some x) : k < l.length := by
 rcases Nat.lt_or_ge k l.length with g | g
 ·exact g
 ·rw [List.getElem?_eq_none g] at h; cases h
theorem mem_of_some {α : Type} {l : List α} {k : Nat} {x : α} (h : l[k]? = some x) : x ∈ l := List.mem_of_getElem? h
theorem some_of_lt {α : Type} {l : List α} {k : Nat} (h : k < l.length) : ∃ x, l[k]? = some x := ⟨l[k], List.getElem?_eq_getElem h⟩
theorem any_take_succ {α : Type} {l : List α} {k : Nat} {x : α} (p : α → Bool) (h : l[k]? = some x) : (l.take (k + 1)).any p = ((l.take k).any p || p x) := by
 rw [take_one h]; simp
theorem any_true_of {α : Type} {l : List α} {k : Nat} {x : α} (p : α → Bool) (h : l[k]? = some x) (hp : p x = true) : l.any p = true :=
 List.any_eq_true.2 ⟨x, mem_of_some h, hp⟩
theorem sum_take_le (l : List Nat) (k : Nat) : (l.take k).sum ≤ l.sum := by
 conv => rhs; rw [← List.take_append_drop k l, List.sum_append]
 omega
theorem nR_take {m : Mult} {k : Nat} {l : Poly} (h : m[k]? = some l) : nR (m.take (k + 1)) = nR (m.take k) + l.length := by
 unfold nR; rw [take_one h]; simp
theorem nP_take {m : Mult} {k : Nat} {l : Poly} (h : m[k]? = some l) : nP (m.take (k + 1)) = nP (m.take k) + nPl l := by
 unfold nP; rw [take_one h]; simp
theorem nPl_take {l : Poly} {k : Nat} {r : Ring} (h : l[k]? = some r) : nPl (l.take (k + 1)) = nPl (l.take k) + r.length := by
 unfold nPl; rw [take_one h]; simp
theorem nR_le (m : Mult) (k : Nat) : nR (m.take k) ≤ nR m := by
 unfold nR; rw [List.map_take]; exact sum_take_le _ _
theorem nP_le (m : Mult) (k : Nat) : nP (m.take k) ≤ nP m := by
 unfold nP; rw [List.map_take]; exact sum_take_le _ _
theorem nPl_le (l : Poly) (k : Nat) : nPl (l.take k) ≤ nPl l := by
 unfold nPl; rw [List.map_take]; exact sum_take_le _ _
theorem badR_long {r : Ring} {p q : Pnt} (h4 : ¬ r.length < 4) (h0 : r[0]? = some p) (h1 : r[r.length - 1]? = some q) : badR r = !(decide (p = q)) := by
 unfold badR
 rw [List.head?_eq_getElem?, List.getLast?_eq_getElem?, h0, h1]
 simp [h4]
end Pl
namespace Bn
def bigA (a : Nat) : List UInt8 → Nat
 | [] => a
 | c :: t => bigA (a * 256 + c.toNat) t
def big (l : List UInt8) : Nat := bigA 0 l
def ord (lit : Bool) (l : List UInt8) : List UInt8 := if lit = true then l.reverse else l
def num (lit : Bool) (l : List UInt8) : Nat := big (ord lit l)
theorem bigA_append (a : Nat) (x y : List UInt8) : bigA a (x ++ y) = bigA (bigA a x) y := by
 induction x generalizing a with
 | nil => rfl
 | cons c t ih => simp only [List.cons_append, bigA]; exact ih _
theorem bigA_eq (a : Nat) (l : List UInt8) : bigA a l = a * 256 ^ l.length + big l := by
  induction l generalizing a with
  | nil => simp [bigA, big]
  | cons c t ih =>
    have h1 : big (c :: t) = bigA (0 * 256 + c.toNat) t := rfl
    rw [h1, bigA, ih, ih (0 * 256 + c.toNat), List.length_cons, Nat.pow_succ]
    simp only [Nat.zero_mul, Nat.zero_add, Nat.add_mul]
    rw [Nat.mul_comm (256 ^ t.length) 256, ← Nat.mul_assoc, Nat.add_assoc]
theorem big_append (x y : List UInt8) : big (x ++ y) = big x * 256 ^ y.length + big y := by
 unfold big
 rw [bigA_append, bigA_eq]; rfl
theorem big_one (c : UInt8) : big [c] = c.toNat := by simp [big, bigA]
theorem big_snoc (x : List UInt8) (c : UInt8) : big (x ++ [c]) = big x * 256 + c.toNat := by
 rw [big_append, big_one]; rfl
theorem big_lt (l : List UInt8) : big l < 256 ^ l.length := by
  induction l with
  | nil => simp [big, bigA]
  | cons c t ih =>
    have h : big (c :: t) = big ([c] ++ t) := rfl
    rw [h, big_append, big_one, List.length_cons, Nat.pow_succ]
    have h1 := c.toNat_lt
    have h2 : c.toNat * 256 ^ t.length ≤ 255 * 256 ^ t.length := Nat.mul_le_mul_right _ (by omega)
    omega
theorem ord_length (lit : Bool) (l : List UInt8) : (ord lit l).length = l.length := by unfold ord; split <;> simp
theorem num_lt (lit : Bool) (l : List UInt8) : num lit l < 256 ^ l.length := by
 have := big_lt (ord lit l)
 rwa [ord_length] at this
theorem num_lt4 {lit : Bool} {l : List UInt8} (h : l.length = 4) : num lit l < 4294967296 := by
 have := num_lt lit l
 rw [h] at this
 exact this
theorem num_lt8 {lit : Bool} {l : List UInt8} (h : l.length = 8) : num lit l < 18446744073709551616 := by
 have := num_lt lit l
 rw [h] at this
 exact this
def cut (n : Nat) (lit : Bool) (l : List UInt8) : Option (Nat × List UInt8) := if l.length < n then none else some (num lit (l.take n), l.drop n)
theorem cut_none {n : Nat} {lit : Bool} {l : List UInt8} (h : l.length < n) : cut n lit l = none := by unfold cut; rw [if_pos h]
theorem cut_some {n : Nat} {lit : Bool} {l : List UInt8} (h : ¬ l.length < n) : cut n lit l = some (num lit (l.take n), l.drop n) := by unfold cut; rw [if_neg h]
def units (bits : Nat) : Option Int :=
 if bits = 0 then some 0
 else if bits / 4503599627370496 % 2048 < 1019 ∨ 1071 < bits / 4503599627370496 % 2048 then none
 else if (bits % 4503599627370496 + 4503599627370496) % 2 ^ (1071 - bits / 4503599627370496 % 2048) ≠ 0 ∨ 32768 < (bits % 4503599627370496 + 4503599627370496) / 2 ^ (1071 - bits / 4503599627370496 % 2048) then none
 else some (if 9223372036854775808 ≤ bits then -((bits % 4503599627370496 + 4503599627370496) / 2 ^ (1071 - bits / 4503599627370496 % 2048) : Nat) else ((bits % 4503599627370496 + 4503599627370496) / 2 ^ (1071 - bits / 4503599627370496 % 2048) : Nat))
def coord (bits : Nat) : Int := (units bits).getD 0
theorem units_le {bits : Nat} {k : Int} (h : units bits = some k) : -32768 ≤ k ∧ k ≤ 32768 := by
 unfold units at h
 split at h
 ·simp at h; omega
 ·split at h
  ·simp at h
  ·split at h
   ·simp at h
   ·rename_i h3
    generalize (bits % 4503599627370496 + 4503599627370496) / 2 ^ (1071 - bits / 4503599627370496 % 2048) = q at *
    have h4 : ¬ 32768 < q := fun e => h3 (.inr e)
    have := Option.some.inj h
    split at this <;> omega
theorem coord_le (bits : Nat) : -32768 ≤ coord bits ∧ coord bits ≤ 32768 := by
 unfold coord
 cases h : units bits with
 | none => simp
 | some k => exact units_le h
abbrev Res (α : Type) := Option (α × List UInt8 × Bool)
def point (lit : Bool) (l : List UInt8) (o : Bool) : Res Pnt :=
 if l.length < 16 then none else some ((coord (num lit (l.take 8)), coord (num lit ((l.drop 8).take 8))), l.drop 16, o || (units (num lit (l.take 8))).isNone || (units (num lit ((l.drop 8).take 8))).isNone)
def many {α : Type} (f : List UInt8 → Bool → Res α) : Nat → List UInt8 → Bool → Res (List α)
 | 0, l, o => some ([], l, o)
 | n + 1, l, o => (f l o).bind fun x => (many f n x.2.1 x.2.2).map fun y => (x.1 :: y.1, y.2)
def pre {α : Type} (acc : List α) (x : Res (List α)) : Res (List α) := x.map fun y => (acc ++ y.1, y.2)
theorem pre_nil {α : Type} (x : Res (List α)) : pre [] x = x := by cases x <;> simp [pre]
theorem many_none {α : Type} {f : List UInt8 → Bool → Res α} {n : Nat} {l : List UInt8} {o : Bool} (acc : List α) (h : f l o = none) : pre acc (many f (n + 1) l o) = none := by simp [many, h, pre]
theorem many_some {α : Type} {f : List UInt8 → Bool → Res α} {n : Nat} {l t : List UInt8} {o o' : Bool} {a : α} (acc : List α) (h : f l o = some (a, t, o')) : pre acc (many f (n + 1) l o) = pre (acc ++ [a]) (many f n t o') := by
 simp only [many, h, pre, Option.bind_some, Option.map_map]
 congr 1
 funext y
 simp
theorem many_zero {α : Type} {f : List UInt8 → Bool → Res α} (acc : List α) (l : List UInt8) (o : Bool) : pre acc (many f 0 l o) = some (acc, l, o) := by simp [many, pre]
def ring (lit : Bool) (l : List UInt8) (o : Bool) : Res Ring := (cut 4 lit l).bind fun x => many (point lit) x.1 x.2 o
def head (kind : Nat) (l : List UInt8) : Option (Bool × Nat × List UInt8) :=
 (cut 1 false l).bind fun x => if 1 < x.1 then none else (cut 4 (x.1 == 1) x.2).bind fun y => if y.1 ≠ kind then none else (cut 4 (x.1 == 1) y.2).bind fun z => some (x.1 == 1, z.1, z.2)
def poly (l : List UInt8) (o : Bool) : Res Poly := (head 3 l).bind fun x => many (ring x.1) x.2.1 x.2.2 o
def set (l : List UInt8) : Res Mult := (head 6 l).bind fun x => many poly x.2.1 x.2.2 false
def err (l : List UInt8) : Int := match set l with
 | none => 3
 | some x => if x.2.1 ≠ [] then 3 else if x.2.2 = true then 4 else 0
theorem cut_lt {n : Nat} {lit : Bool} {l t : List UInt8} {x : Nat} (h : cut n lit l = some (x, t)) : t.length + n = l.length := by
 unfold cut at h
 split at h
 ·cases h
 ·have := Option.some.inj h
  simp only [Prod.mk.injEq] at this
  rw [← this.2]; simp; omega
theorem point_lt {lit : Bool} {l t : List UInt8} {o o' : Bool} {a : Pnt} (h : point lit l o = some (a, t, o')) : t.length + 1 ≤ l.length := by
 unfold point at h
 split at h
 ·cases h
 ·have := Option.some.inj h
  simp only [Prod.mk.injEq] at this
  rw [← this.2.1]; simp; omega
theorem many_le {α : Type} {f : List UInt8 → Bool → Res α} {Q : α → Prop} (hf : ∀ l o a t o', f l o = some (a, t, o') → t.length + 1 ≤ l.length ∧ (l.length ≤ 6000 → Q a)) :
    ∀ (n : Nat) (l : List UInt8) (o : Bool) (r : List α) (t : List UInt8) (o' : Bool), many f n l o = some (r, t, o') → t.length + r.length ≤ l.length ∧ (l.length ≤ 6000 → ∀ a ∈ r, Q a)
  | 0, l, o, r, t, o', h => by
    simp only [many, Option.some.injEq, Prod.mk.injEq] at h
    obtain ⟨rfl, rfl, rfl⟩ := h
    simp
  | n + 1, l, o, r, t, o', h => by
    simp only [many] at h
    cases hx : f l o with
    | none => rw [hx] at h; simp at h
    | some x =>
      obtain ⟨a, t1, o1⟩ := x
      rw [hx] at h
      simp only [Option.bind_some, Option.map_eq_some_iff] at h
      obtain ⟨⟨r2, t2, o2⟩, h2, h3⟩ := h
      simp only [Prod.mk.injEq] at h3
      obtain ⟨rfl, rfl, rfl⟩ := h3
      have h4 := hf _ _ _ _ _ hx
      have h5 := many_le hf n t1 o1 r2 t2 o2 h2
      refine ⟨by simp; omega, fun hl b hb => ?_⟩
      rcases List.mem_cons.1 hb with rfl | hb
      · exact h4.2 hl
      · exact h5.2 (by omega) b hb
def okR (r : Ring) : Prop := r.length ≤ 6000 ∧ ∀ p ∈ r, (-32768 ≤ p.1 ∧ p.1 ≤ 32768) ∧ -32768 ≤ p.2 ∧ p.2 ≤ 32768
def okL (l : Poly) : Prop := l.length ≤ 6000 ∧ ∀ r ∈ l, okR r
def okM (m : Mult) : Prop := m.length ≤ 6000 ∧ ∀ l ∈ m, okL l
theorem ring_lt {lit : Bool} {l t : List UInt8} {o o' : Bool} {r : Ring} (h : ring lit l o = some (r, t, o')) : t.length + 1 ≤ l.length ∧ (l.length ≤ 6000 → okR r) := by
  unfold ring at h
  cases hx : cut 4 lit l with
  | none => rw [hx] at h; simp at h
  | some x =>
    obtain ⟨n, u⟩ := x
    rw [hx] at h
    simp only [Option.bind_some] at h
    have h1 := cut_lt hx
    have h2 := many_le (Q := fun p : Pnt => (-32768 ≤ p.1 ∧ p.1 ≤ 32768) ∧ -32768 ≤ p.2 ∧ p.2 ≤ 32768) (fun l o a t o' h => ⟨point_lt h, fun _ => by
      unfold point at h
      split at h
      · cases h
      · have := Option.some.inj h
        simp only [Prod.mk.injEq] at this
        rw [← this.1]
        exact ⟨coord_le _, coord_le _⟩⟩) n u o r t o' h
    exact ⟨by omega, fun hl => ⟨by omega, h2.2 (by omega)⟩⟩
theorem head_lt {kind n : Nat} {lit : Bool} {l t : List UInt8} (h : head kind l = some (lit, n, t)) : t.length + 9 = l.length := by
  unfold head at h
  cases hx : cut 1 false l with
  | none => rw [hx] at h; simp at h
  | some x =>
    rw [hx] at h
    simp only [Option.bind_some] at h
    split at h
    · cases h
    · cases hy : cut 4 (x.1 == 1) x.2 with
      | none => rw [hy] at h; simp at h
      | some y =>
        rw [hy] at h
        simp only [Option.bind_some] at h
        split at h
        · cases h
        · cases hz : cut 4 (x.1 == 1) y.2 with
          | none => rw [hz] at h; simp at h
          | some z =>
            rw [hz] at h
            simp only [Option.bind_some, Option.some.injEq, Prod.mk.injEq] at h
            have a1 := cut_lt hx
            have a2 := cut_lt hy
            have a3 := cut_lt hz
            rw [← h.2.2]
            omega
theorem poly_lt {l t : List UInt8} {o o' : Bool} {r : Poly} (h : poly l o = some (r, t, o')) : t.length + 1 ≤ l.length ∧ (l.length ≤ 6000 → okL r) := by
  unfold poly at h
  cases hx : head 3 l with
  | none => rw [hx] at h; simp at h
  | some x =>
    obtain ⟨lit, n, u⟩ := x
    rw [hx] at h
    simp only [Option.bind_some] at h
    have h1 := head_lt hx
    have h2 := many_le (Q := okR) (fun l o a t o' h => ring_lt h) n u o r t o' h
    exact ⟨by omega, fun hl => ⟨by omega, h2.2 (by omega)⟩⟩
theorem set_ok {l t : List UInt8} {o' : Bool} {r : Mult} (h : set l = some (r, t, o')) (hl : l.length ≤ 6000) : okM r := by
  unfold set at h
  cases hx : head 6 l with
  | none => rw [hx] at h; simp at h
  | some x =>
    obtain ⟨lit, n, u⟩ := x
    rw [hx] at h
    simp only [Option.bind_some] at h
    have h1 := head_lt hx
    have h2 := many_le (Q := okL) (fun l o a t o' h => poly_lt h) n u false r t o' h
    exact ⟨by omega, h2.2 (by omega)⟩
theorem okM.bd {m : Mult} (h : okM m) : Pl.Bd m := ⟨by have := h.1; omega, fun l hl => by have := (h.2 l hl).1; omega, fun l hl r hr => by have := ((h.2 l hl).2 r hr).1; omega⟩
def low : Nat → Nat → List UInt8
 | 0, _ => []
 | n + 1, v => UInt8.ofNat (v % 256) :: low n (v / 256)
def sh : Nat → Nat → Nat
 | 0, _ => 0
 | f + 1, k => if k < 4503599627370496 then sh f (2 * k) + 1 else 0
end Bn
namespace Vd
def cr (a b p : Pnt) (w : Int) : Int := (b.1 - a.1) * (p.2 - a.2 * w) - (b.2 - a.2) * (p.1 - a.1 * w)
def dt (a b p : Pnt) (w : Int) : Int := (p.1 - a.1 * w) * (b.1 - a.1) + (p.2 - a.2 * w) * (b.2 - a.2)
def kk (a b : Pnt) : Int := (b.1 - a.1) * (b.1 - a.1) + (b.2 - a.2) * (b.2 - a.2)
def btw (e m o : Int) : Prop := (e ≤ m ∧ m ≤ o) ∨ (o ≤ m ∧ m ≤ e)
def has (a b p : Pnt) (w : Int) : Prop := cr a b p w = 0 ∧ btw (a.1 * w) p.1 (b.1 * w) ∧ btw (a.2 * w) p.2 (b.2 * w)
def on (a b p : Pnt) (w : Int) : Prop := cr a b p w = 0 ∧ 0 ≤ dt a b p w ∧ dt a b p w ≤ kk a b * w
theorem nn {x y : Int} (hx : 0 ≤ x) (hy : 0 ≤ y) : 0 ≤ x * y := Int.mul_nonneg hx hy
theorem sq_nn (x : Int) : 0 ≤ x * x := by
 rcases Int.le_total 0 x with h | h
 ·exact nn h h
 ·have := nn (x := -x) (y := -x) (by omega) (by omega)
  rw [Int.neg_mul_neg] at this; exact this
theorem sq_pos {x : Int} (h : x ≠ 0) : 0 < x * x := by
 have := sq_nn x
 have h2 : x * x ≠ 0 := fun e => h (by simpa using Int.mul_eq_zero.1 e)
 omega
theorem kk_pos {a b : Pnt} (h : a ≠ b) : 0 < kk a b := by
 unfold kk
 by_cases h1 : b.1 - a.1 = 0
 ·have h2 : b.2 - a.2 ≠ 0 := fun e => h (Prod.ext (by omega) (by omega))
  have := sq_pos h2; have := sq_nn (b.1 - a.1); omega
 ·have := sq_pos h1; have := sq_nn (b.2 - a.2); omega
theorem btw_dot {u v w : Int} (hw : 0 < w) (h : btw 0 v (u * w)) : 0 ≤ v * u ∧ v * u ≤ u * u * w := by
 rcases h with ⟨h1, h2⟩ | ⟨h1, h2⟩
 ·have hu : 0 ≤ u := by
   rcases Int.lt_or_le u 0 with g | g
   ·have : u * w < 0 := Int.mul_neg_of_neg_of_pos g hw
    omega
   ·exact g
  refine ⟨nn h1 hu, ?_⟩
  have := Int.mul_le_mul_of_nonneg_right h2 hu
  have e : u * w * u = u * u * w := by grind
  omega
 ·have hu : u ≤ 0 := by
   rcases Int.lt_or_le 0 u with g | g
   ·have : 0 < u * w := Int.mul_pos g hw
    omega
   ·exact g
  refine ⟨by have := nn (x := -v) (y := -u) (by omega) (by omega); rw [Int.neg_mul_neg] at this; exact this, ?_⟩
  have := Int.mul_le_mul_of_nonpos_right h1 hu
  have e : u * w * u = u * u * w := by grind
  omega
theorem dot_btw {u v k d w : Int} (hk : 0 < k) (e : d * u = v * k) (h0 : 0 ≤ d) (h1 : d ≤ k * w) : btw 0 v (u * w) := by
 rcases Int.le_total 0 u with hu | hu
 ·left
  constructor
  ·have := nn h0 hu
   rw [e] at this
   exact Int.nonneg_of_mul_nonneg_left this hk
  ·have := Int.mul_le_mul_of_nonneg_right h1 hu
   rw [e] at this
   have e2 : k * w * u = u * w * k := by grind
   rw [e2] at this
   exact Int.le_of_mul_le_mul_right this hk
 ·right
  constructor
  ·have := Int.mul_le_mul_of_nonpos_right h1 hu
   rw [e] at this
   have e2 : k * w * u = u * w * k := by grind
   rw [e2] at this
   exact Int.le_of_mul_le_mul_right this hk
  ·have := nn (x := d) (y := -u) h0 (by omega)
   have e2 : d * -u = -v * k := by grind
   rw [e2] at this
   have := Int.nonneg_of_mul_nonneg_left this hk
   omega
theorem btw_sub {a p b w : Int} : btw (a * w) p (b * w) ↔ btw 0 (p - a * w) ((b - a) * w) := by
 have e : (b - a) * w = b * w - a * w := by grind
 unfold btw
 rw [e]
 omega
theorem has_on {a b p : Pnt} {w : Int} (h : a ≠ b) (hw : 0 < w) : has a b p w ↔ on a b p w := by
 have hk := kk_pos h
 constructor
 ·rintro ⟨h0, h1, h2⟩
  have g1 := btw_dot hw (btw_sub.1 h1)
  have g2 := btw_dot hw (btw_sub.1 h2)
  refine ⟨h0, ?_, ?_⟩
  ·unfold dt; omega
  ·have e : kk a b * w = (b.1 - a.1) * (b.1 - a.1) * w + (b.2 - a.2) * (b.2 - a.2) * w := by unfold kk; grind
   rw [e]; unfold dt; omega
 ·rintro ⟨h0, h1, h2⟩
  have e1 : dt a b p w * (b.1 - a.1) = (p.1 - a.1 * w) * kk a b := by unfold cr at h0; unfold dt kk; grind
  have e2 : dt a b p w * (b.2 - a.2) = (p.2 - a.2 * w) * kk a b := by unfold cr at h0; unfold dt kk; grind
  exact ⟨h0, btw_sub.2 (dot_btw hk e1 h1 h2), btw_sub.2 (dot_btw hk e2 h1 h2)⟩
def bef (p q : Pnt) : Prop := p.1 < q.1 ∨ (p.1 = q.1 ∧ p.2 < q.2)
instance (p q : Pnt) : Decidable (bef p q) := by unfold bef; infer_instance
def fwd (a b : Pnt) : Pnt × Pnt := if bef b a then (b, a) else (a, b)
def onLine (s t : Pnt × Pnt) : Int :=
 let f := if bef s.1 t.1 then t.1 else s.1
 let l := if bef t.2 s.2 then t.2 else s.2
 if bef f l then 3 else if f = l then 1 else 0
def pos (a b x : Pnt) : Int := dt a b x 1
theorem pos_a (a b : Pnt) : pos a b a = 0 := by unfold pos dt; grind
theorem pos_b (a b : Pnt) : pos a b b = kk a b := by unfold pos dt kk; grind
theorem bef_pos {a b x y : Pnt} (h : a ≠ b) (hx : cr a b x 1 = 0) (hy : cr a b y 1 = 0) :
  (bef a b → (bef x y ↔ pos a b x < pos a b y)) ∧ (bef b a → (bef x y ↔ pos a b y < pos a b x)) := by
 have hk := kk_pos h
 have e1 : (pos a b y - pos a b x) * (b.1 - a.1) = (y.1 - x.1) * kk a b := by unfold cr at hx hy; unfold pos dt kk; grind
 have e2 : (pos a b y - pos a b x) * (b.2 - a.2) = (y.2 - x.2) * kk a b := by unfold cr at hx hy; unfold pos dt kk; grind
 obtain ⟨D, hD⟩ : ∃ D, D = pos a b y - pos a b x := ⟨_, rfl⟩
 obtain ⟨K, hK⟩ : ∃ K, K = kk a b := ⟨_, rfl⟩
 rw [← hD, ← hK] at e1 e2
 rw [← hK] at hk
 have sgn : ∀ {u z : Int}, 0 < u → D * u = z * K → (0 < D ↔ 0 < z) ∧ (D = 0 ↔ z = 0) ∧ (D < 0 ↔ z < 0) := by
  intro u z hu e
  have p1 : 0 < D → 0 < z := fun g => by
   have := Int.mul_pos g hu
   rw [e] at this
   exact Int.pos_of_mul_pos_left this hk |> fun h => h
  have p2 : D = 0 → z = 0 := fun g => by
   rw [g, Int.zero_mul] at e
   rcases Int.mul_eq_zero.1 e.symm with q | q <;> omega
  have p3 : D < 0 → z < 0 := fun g => by
   have := Int.mul_neg_of_neg_of_pos g hu
   rw [e] at this
   rcases Int.lt_or_le z 0 with q | q
   ·exact q
   ·have := nn q (Int.le_of_lt hk); omega
  omega
 have t1 : (bef x y ↔ 0 < y.1 - x.1 ∨ (y.1 - x.1 = 0 ∧ 0 < y.2 - x.2)) := by unfold bef; omega
 have t2 : pos a b x < pos a b y ↔ 0 < D := by omega
 have t3 : pos a b y < pos a b x ↔ D < 0 := by omega
 rw [t1, t2, t3]
 constructor
 ·rintro (g | ⟨g, g'⟩)
  ·have := sgn (u := b.1 - a.1) (by omega) e1
   constructor
   ·rintro (q | ⟨q, q'⟩)
    ·omega
    ·have hz : D = 0 := by omega
     rw [hz, Int.zero_mul] at e2
     rcases Int.mul_eq_zero.1 e2.symm with q | q <;> omega
   ·intro q; left; omega
  ·have := sgn (u := b.2 - a.2) (by omega) e2
   have hz : y.1 - x.1 = 0 := by
    rw [show b.1 - a.1 = 0 by omega, Int.mul_zero] at e1
    rcases Int.mul_eq_zero.1 e1.symm with q | q <;> omega
   omega
 ·rintro (g | ⟨g, g'⟩)
  ·have := sgn (u := a.1 - b.1) (z := -(y.1 - x.1)) (by omega) (by grind)
   constructor
   ·rintro (q | ⟨q, q'⟩)
    ·omega
    ·have hz : D = 0 := by omega
     rw [hz, Int.zero_mul] at e2
     rcases Int.mul_eq_zero.1 e2.symm with q | q <;> omega
   ·intro q; left; omega
  ·have := sgn (u := a.2 - b.2) (z := -(y.2 - x.2)) (by omega) (by grind)
   have hz : y.1 - x.1 = 0 := by
    rw [show b.1 - a.1 = 0 by omega, Int.mul_zero] at e1
    rcases Int.mul_eq_zero.1 e1.symm with q | q <;> omega
   omega
theorem bef_tri (p q : Pnt) : bef p q ∨ p = q ∨ bef q p := by
 unfold bef
 by_cases h1 : p.1 = q.1
 ·by_cases h2 : p.2 = q.2
  ·exact .inr (.inl (Prod.ext h1 h2))
  ·omega
 ·omega
theorem bef_irr {p q : Pnt} (h : bef p q) (k : bef q p) : False := by unfold bef at h k; omega
theorem bef_ne {p q : Pnt} (h : bef p q) : p ≠ q := by rintro rfl; exact bef_irr h h
def count (k p q : Int) : Int := if q < 0 ∨ k < p then 0 else if q = 0 ∨ p = k then 1 else 2
end Vd
end Go.Proofs.YtcclepohmhdpbabGreatDoor
namespace Go.Proofs.YtcclepohmhdpbabGreatDoor
set_option linter.all false
namespace Vd
theorem cr_a (a b : Pnt) : cr a b a 1 = 0 := by unfold cr; grind
theorem cr_b (a b : Pnt) : cr a b b 1 = 0 := by unfold cr; grind
section
variable {f : Pnt → Int} {S : Pnt → Prop} (hf : ∀ x y, S x → S y → (bef x y ↔ f x < f y))
include hf
theorem eq_f {x y : Pnt} (hx : S x) (hy : S y) : x = y ↔ f x = f y := by
 constructor
 ·rintro rfl; rfl
 ·intro e
  rcases bef_tri x y with h | h | h
  ·have := (hf x y hx hy).1 h; omega
  ·exact h
  ·have := (hf y x hy hx).1 h; omega
theorem fwd_f {a b : Pnt} (ha : S a) (hb : S b) : S (fwd a b).1 ∧ S (fwd a b).2 ∧ f (fwd a b).1 = min (f a) (f b) ∧ f (fwd a b).2 = max (f a) (f b) := by
 unfold fwd
 have := hf b a hb ha
 by_cases h : bef b a
 ·have h' := this.1 h
  rw [if_pos h]; exact ⟨hb, ha, by simp only; omega, by simp only; omega⟩
 ·have h' : ¬ f b < f a := fun q => h (this.2 q)
  rw [if_neg h]; exact ⟨ha, hb, by simp only; omega, by simp only; omega⟩
theorem onLine_f {s t : Pnt × Pnt} (h1 : S s.1) (h2 : S s.2) (h3 : S t.1) (h4 : S t.2) :
  onLine s t = if max (f s.1) (f t.1) < min (f s.2) (f t.2) then 3 else if max (f s.1) (f t.1) = min (f s.2) (f t.2) then 1 else 0 := by
 have e1 : S (if bef s.1 t.1 then t.1 else s.1) ∧ f (if bef s.1 t.1 then t.1 else s.1) = max (f s.1) (f t.1) := by
  have := hf _ _ h1 h3
  by_cases h : bef s.1 t.1
  ·have h' := this.1 h
   rw [if_pos h]; exact ⟨h3, by omega⟩
  ·have h' := mt this.2 h
   rw [if_neg h]; exact ⟨h1, by omega⟩
 have e2 : S (if bef t.2 s.2 then t.2 else s.2) ∧ f (if bef t.2 s.2 then t.2 else s.2) = min (f s.2) (f t.2) := by
  have := hf _ _ h4 h2
  by_cases h : bef t.2 s.2
  ·have h' := this.1 h
   rw [if_pos h]; exact ⟨h4, by omega⟩
  ·have h' := mt this.2 h
   rw [if_neg h]; exact ⟨h2, by omega⟩
 unfold onLine
 simp only [hf _ _ e1.1 e2.1, eq_f hf e1.1 e2.1, e1.2, e2.2]
end
theorem onLine_count {a b c d : Pnt} (hab : a ≠ b) (hcd : c ≠ d) (hc : cr a b c 1 = 0) (hd : cr a b d 1 = 0) :
  onLine (fwd a b) (fwd c d) = if count (kk a b) (min (pos a b c) (pos a b d)) (max (pos a b c) (pos a b d)) = 2 then 3 else count (kk a b) (min (pos a b c) (pos a b d)) (max (pos a b c) (pos a b d)) := by
 have hk := kk_pos hab
 have pa := pos_a a b
 have pb := pos_b a b
 have ha := cr_a a b
 have hb := cr_b a b
 rcases bef_tri a b with h | h | h
 ·have hf : ∀ x y, cr a b x 1 = 0 → cr a b y 1 = 0 → (bef x y ↔ pos a b x < pos a b y) := fun x y hx hy => (bef_pos hab hx hy).1 h
  obtain ⟨s1, s2, s3, s4⟩ := fwd_f (S := fun x => cr a b x 1 = 0) hf ha hb
  obtain ⟨t1, t2, t3, t4⟩ := fwd_f (S := fun x => cr a b x 1 = 0) hf hc hd
  have hne : pos a b c ≠ pos a b d := fun e => hcd ((eq_f (S := fun x => cr a b x 1 = 0) hf hc hd).2 e)
  rw [onLine_f (S := fun x => cr a b x 1 = 0) hf s1 s2 t1 t2, s3, s4, t3, t4, pa, pb]
  unfold count
  repeat' split
  all_goals omega
 ·exact absurd h hab
 ·have hf : ∀ x y, cr a b x 1 = 0 → cr a b y 1 = 0 → (bef x y ↔ - pos a b x < - pos a b y) := fun x y hx hy => by
   rw [(bef_pos hab hx hy).2 h]; omega
  obtain ⟨s1, s2, s3, s4⟩ := fwd_f (f := fun x => - pos a b x) (S := fun x => cr a b x 1 = 0) hf ha hb
  obtain ⟨t1, t2, t3, t4⟩ := fwd_f (f := fun x => - pos a b x) (S := fun x => cr a b x 1 = 0) hf hc hd
  have hne : pos a b c ≠ pos a b d := fun e => hcd ((eq_f (f := fun x => - pos a b x) (S := fun x => cr a b x 1 = 0) hf hc hd).2 (by omega))
  rw [onLine_f (f := fun x => - pos a b x) (S := fun x => cr a b x 1 = 0) hf s1 s2 t1 t2]
  rw [s3, s4, t3, t4, pa, pb]
  unfold count
  repeat' split
  all_goals omega
def sg (n : Int) : Int := if n > 0 then 1 else if n < 0 then -1 else 0
def meet (a b c d : Pnt) : Int :=
 let sA := sg (cr a b c 1)
 let sB := sg (cr a b d 1)
 let oA := sg (cr c d a 1)
 let oB := sg (cr c d b 1)
 if sA = 0 ∧ sB = 0 ∧ oA = 0 ∧ oB = 0 then onLine (fwd a b) (fwd c d)
 else if sA * sB > 0 ∨ oA * oB > 0 then 0
 else if sA * sB * oA * oB = 0 then 1 else 2
def nn3 (a b c d : Pnt) : Int := (b.1 - a.1) * (d.2 - c.2) - (b.2 - a.2) * (d.1 - c.1)
def common (a b c d : Pnt) : Int × Bool :=
 let n := nn3 a b c d
 let s := (c.1 - a.1) * (d.2 - c.2) - (c.2 - a.2) * (d.1 - c.1)
 let t := (c.1 - a.1) * (b.2 - a.2) - (c.2 - a.2) * (b.1 - a.1)
 if n = 0 then
  if t ≠ 0 then (0, false) else (count (kk a b) (min (pos a b c) (pos a b d)) (max (pos a b c) (pos a b d)), false)
 else
  let n' := if n < 0 then -n else n
  let s' := if n < 0 then -s else s
  let t' := if n < 0 then -t else t
  if s' < 0 ∨ n' < s' ∨ t' < 0 ∨ n' < t' then (0, false) else (1, decide (0 < s' ∧ s' < n' ∧ 0 < t' ∧ t' < n'))
end Vd
end Go.Proofs.YtcclepohmhdpbabGreatDoor
namespace Go.Proofs.YtcclepohmhdpbabGreatDoor
set_option linter.all false
namespace Vd
def how (x : Int × Bool) : Int := if x.1 = 2 then 3 else if x.2 then 2 else x.1
theorem sg_cases (n : Int) : (0 < n ∧ sg n = 1) ∨ (n = 0 ∧ sg n = 0) ∨ (n < 0 ∧ sg n = -1) := by
 unfold sg
 rcases Int.lt_trichotomy n 0 with h | h | h
 ·right; right; exact ⟨h, by rw [if_neg (by omega), if_pos h]⟩
 ·right; left; exact ⟨h, by rw [if_neg (by omega), if_neg (by omega)]⟩
 ·left; exact ⟨h, by rw [if_pos h]⟩
theorem cr_swap (a b p : Pnt) (w : Int) : cr b a p w = - cr a b p w := by unfold cr; grind
def ray (a b p : Pnt) (w : Int) : Bool :=
 if decide (a.2 * w > p.2) = decide (b.2 * w > p.2) then false
 else if b.2 * w > p.2 then decide (sg (cr a b p w) > 0) else decide (sg (cr a b p w) < 0)
def rayD (a b p : Pnt) (w : Int) : Bool :=
 let lo := if a.2 > b.2 then b else a
 let hi := if a.2 > b.2 then a else b
 decide (lo.2 * w ≤ p.2 ∧ p.2 < hi.2 * w) && decide (cr lo hi p w > 0)
theorem sg_pos (n : Int) : sg n > 0 ↔ n > 0 := by rcases sg_cases n with ⟨h, e⟩ | ⟨h, e⟩ | ⟨h, e⟩ <;> rw [e] <;> omega
theorem sg_neg (n : Int) : sg n < 0 ↔ n < 0 := by rcases sg_cases n with ⟨h, e⟩ | ⟨h, e⟩ | ⟨h, e⟩ <;> rw [e] <;> omega
theorem sg_zero (n : Int) : sg n = 0 ↔ n = 0 := by rcases sg_cases n with ⟨h, e⟩ | ⟨h, e⟩ | ⟨h, e⟩ <;> rw [e] <;> omega
abbrev Seg := Pnt × Pnt
abbrev Spot := Pnt × Int
instance (a b c : Int) : Decidable (btw a b c) := by unfold btw; infer_instance
instance (a b p : Pnt) (w : Int) : Decidable (has a b p w) := by unfold has; infer_instance
def hasB (s : Seg) (p : Spot) : Bool := decide (has s.1 s.2 p.1 p.2)
def side (s : Seg) (p : Spot) : Int := sg (cr s.1 s.2 p.1 p.2)
def at1 (p : Pnt) : Spot := (p, 1)
def midOf (p q : Pnt) : Spot := ((p.1 + q.1, p.2 + q.2), 2)
def meetS (s t : Seg) : Int := meet s.1 s.2 t.1 t.2
def segs (r : Ring) : List Seg := r.zip r.tail
def placeL : List Seg → Bool → Spot → Int
 | [], i, _ => if i then 2 else 0
 | s :: t, i, p => if hasB s p then 1 else placeL t (if ray s.1 s.2 p.1 p.2 then !i else i) p
def place (r : Ring) (p : Spot) : Int := placeL (segs r) false p
def cutF (s : Seg) (f : Pnt) (to p : Pnt) : Pnt := if bef f p ∧ bef p to ∧ has s.1 s.2 p 1 then p else to
def nextCut (s : Seg) (f : Pnt) (rings : Poly) : Pnt := rings.flatten.foldl (cutF s f) s.2
def midsF : Nat → Seg → Pnt → Poly → List Spot
 | 0, _, _, _ => []
 | n + 1, s, f, rings => if f = s.2 then [] else midOf f (nextCut s f rings) :: midsF n s (nextCut s f rings) rings
def mids (s : Seg) (rings : Poly) : List Spot := midsF (rings.flatten.length + 1) (fwd s.1 s.2) (fwd s.1 s.2).1 rings
def anyI (n : Nat) (f : Nat → Bool) : Bool := (List.range n).any f
theorem anyI_succ (n : Nat) (f : Nat → Bool) : anyI (n + 1) f = (anyI n f || f n) := by simp [anyI, List.range_succ]
theorem anyI_true {n : Nat} {f : Nat → Bool} {i : Nat} (h : i < n) (hf : f i = true) : anyI n f = true := by
 simp only [anyI, List.any_eq_true, List.mem_range]; exact ⟨i, h, hf⟩
theorem anyI_iff {n : Nat} {f : Nat → Bool} : anyI n f = true ↔ ∃ i, i < n ∧ f i = true := by
 simp only [anyI, List.any_eq_true, List.mem_range]
def twice (r : Ring) : Bool := anyI r.length fun i => decide (1 ≤ i) && anyI r.length fun j => decide (i < j) && decide (r[i]? = r[j]?)
def wantI (n i j : Nat) : Int := if i + 1 = j ∨ (i = 0 ∧ j + 1 = n) then 1 else 0
def sAt (l : List Seg) (i : Nat) : Seg := l.getD i ((0, 0), (0, 0))
def selfR (r : Ring) : Bool := anyI (segs r).length fun j => anyI j fun i => decide (meetS (sAt (segs r) i) (sAt (segs r) j) ≠ wantI (segs r).length i j)
def simple (l : Poly) : Bool := !(l.any fun r => twice r || selfR r)
def crossS (s t : Seg) : Bool := decide (meetS s t = 2) || decide (meetS s t = 3)
def cross (r o : Ring) : Bool := (segs r).any fun s => (segs o).any fun t => crossS s t
def rAt (l : Poly) (i : Nat) : Ring := l.getD i []
def touch (l : Poly) : Bool := !(anyI l.length fun j => anyI j fun i => cross (rAt l i) (rAt l j))
def lies (r o : Ring) (k : Int) : Bool := !((segs r).any fun s => (mids s [o]).any fun m => decide (place o m ≠ k))
def nestW (j : Nat) : Int := if j = 0 then 2 else 0
def nested (l : Poly) : Bool := !(anyI l.length fun i => decide (1 ≤ i) && anyI l.length fun j => decide (i ≠ j) && !(lies (rAt l i) (rAt l j) (nestW j)))
def ringsAt (l : Poly) (p : Pnt) : List Nat := (List.range l.length).filter fun i => decide (place (rAt l i) (at1 p) = 1)
def touchF (l : Poly) (a : List Pnt) (p : Pnt) : List Pnt := if ¬ (p ∈ a) ∧ 1 < (ringsAt l p).length then a ++ [p] else a
def touchPts (l : Poly) : List Pnt := l.flatten.foldl (touchF l) []
def turnG (old first : Nat) (g : Nat) : Nat := if g = old then first else g
def nAt (l : List Nat) (i : Nat) : Nat := l.getD i 0
def joinL : List Nat → Nat → List Nat → Option (List Nat)
 | g, _, [] => some g
 | g, a, j :: t => if nAt g j = nAt g a then none else joinL (g.map (turnG (nAt g j) (nAt g a))) a t
def join (g : List Nat) : List Nat → Option (List Nat)
 | [] => some g
 | a :: t => joinL g a t
def wayL (l : Poly) : List Pnt → List Nat → Bool
  | [], _ => false
  | p :: t, g => match join g (ringsAt l p) with
    | none => true
    | some g' => wayL l t g'
def way (l : Poly) : Bool := wayL l (touchPts l) (List.range l.length)
def holdsC (c : Nat) (l : Poly) : Bool := if c = 1 then simple l else if c = 2 then touch l else if c = 3 then nested l else !(way l)
def boundsX (a b : Poly) : Bool := a.any fun r => b.any fun o => cross r o
def freeL : List Ring → Bool → Bool → Spot → Bool
 | [], _, f, _ => f
 | r :: t, first, f, p => if place r p = 1 then false else freeL t false (f || (first && decide (place r p = 0)) || (!first && decide (place r p = 2))) p
def free (l : Poly) (p : Spot) : Bool := freeL l true false p
def enters (a b : Poly) : Bool := a.any fun r => (segs r).any fun s => (mids s b).any fun m => !(free b m)
def pAt (m : Mult) (i : Nat) : Poly := m.getD i []
def overlap (m : Mult) : Bool := anyI m.length fun j => anyI j fun i => boundsX (pAt m i) (pAt m j) || enters (pAt m i) (pAt m j) || enters (pAt m j) (pAt m i)
def badC (c : Nat) (m : Mult) : Bool := m.any fun l => !(holdsC c l)
def least (m : Mult) : Int := if badC 1 m then 1 else if badC 2 m then 2 else if badC 3 m then 3 else if badC 4 m then 4 else if overlap m then 5 else 0
theorem bef_trans {p q r : Pnt} (h : bef p q) (k : bef q r) : bef p r := by unfold bef at *; omega
theorem fold_cut (s : Seg) (f : Pnt) : ∀ (l : List Pnt) (t : Pnt), l.foldl (cutF s f) t = t ∨ (l.foldl (cutF s f) t ∈ l ∧ bef f (l.foldl (cutF s f) t)) := by
  intro l
  induction l with
  | nil => intro t; exact .inl rfl
  | cons p l ih =>
    intro t
    rw [List.foldl_cons]
    by_cases h : bef f p ∧ bef p t ∧ has s.1 s.2 p 1
    · have e : cutF s f t p = p := if_pos h
      rw [e]
      rcases ih p with k | ⟨k1, k2⟩
      · rw [k]; exact .inr ⟨by simp, h.1⟩
      · exact .inr ⟨by simp [k1], k2⟩
    · have e : cutF s f t p = t := if_neg h
      rw [e]
      rcases ih t with k | ⟨k1, k2⟩
      · exact .inl k
      · exact .inr ⟨by simp [k1], k2⟩
def ahead (s : Seg) (f : Pnt) (rings : Poly) : Nat := if f = s.2 then 0 else 1 + rings.flatten.countP fun p => decide (bef f p)
theorem ahead_le (s : Seg) (f : Pnt) (rings : Poly) : ahead s f rings ≤ rings.flatten.length + 1 := by
 unfold ahead
 split
 ·omega
 ·have := List.countP_le_length (p := fun p => decide (bef f p)) (l := rings.flatten); omega
theorem ahead_step {s : Seg} {f : Pnt} {rings : Poly} (h : f ≠ s.2) : ahead s (nextCut s f rings) rings < ahead s f rings := by
 unfold ahead
 rw [if_neg h]
 split
 ·omega
 ·rename_i g
  rcases fold_cut s f rings.flatten s.2 with k | ⟨k1, k2⟩
  ·exact absurd k g
  ·have : rings.flatten.countP (fun p => decide (bef (nextCut s f rings) p)) < rings.flatten.countP (fun p => decide (bef f p)) := by
    obtain ⟨l1, l2, e⟩ := List.append_of_mem k1
    have mono : ∀ l : List Pnt, l.countP (fun p => decide (bef (nextCut s f rings) p)) ≤ l.countP (fun p => decide (bef f p)) := by
     intro l
     apply List.countP_mono_left
     intro x _ hx
     exact decide_eq_true (bef_trans k2 (of_decide_eq_true hx))
    have m1 := mono l1
    have m2 := mono l2
    have e' : rings.flatten = l1 ++ nextCut s f rings :: l2 := e
    generalize hx : nextCut s f rings = x at *
    have k2' : bef f x := by rw [← hx]; exact k2
    rw [e', List.countP_append, List.countP_append, List.countP_cons, List.countP_cons]
    have d1 : decide (bef x x) = false := decide_eq_false fun q => bef_irr q q
    have d2 : decide (bef f x) = true := decide_eq_true k2'
    simp only [d1, d2, if_true]
    simp
    omega
   omega
theorem midsF_end {s : Seg} {f : Pnt} {rings : Poly} (h : f = s.2) (n : Nat) : midsF n s f rings = [] := by
 cases n with
 | zero => rfl
 | succ n => unfold midsF; rw [if_pos h]
theorem midsF_len : ∀ (n : Nat) (s : Seg) (f : Pnt) (rings : Poly), (midsF n s f rings).length ≤ n := by
  intro n
  induction n with
  | zero => intro s f rings; exact Nat.le_refl _
  | succ n ih =>
    intro s f rings
    unfold midsF
    split
    · simp
    · have := ih s (nextCut s f rings) rings
      simp; omega
theorem mids_len (s : Seg) (rings : Poly) : (mids s rings).length ≤ rings.flatten.length + 1 := midsF_len _ _ _ _
theorem segs_len (r : Ring) : (segs r).length = r.length - 1 := by simp [segs]
theorem segs_at {r : Ring} {i : Nat} {p q : Pnt} (hp : r[i]? = some p) (hq : r[i + 1]? = some q) : (segs r)[i]? = some (p, q) := by
 have hq' : r.tail[i]? = some q := by simpa using hq
 simp [segs, List.getElem?_zip_eq_some, hp, hq']
theorem segs_mem {r : Ring} {s : Seg} (h : s ∈ segs r) : s.1 ∈ r ∧ s.2 ∈ r := by
 have := List.of_mem_zip (a := s.1) (b := s.2) (show (s.1, s.2) ∈ r.zip r.tail from h)
 exact ⟨this.1, List.mem_of_mem_tail this.2⟩
theorem nextCut_mem (s : Seg) (f : Pnt) (rings : Poly) : nextCut s f rings = s.2 ∨ nextCut s f rings ∈ rings.flatten := by
 rcases fold_cut s f rings.flatten s.2 with k | ⟨k1, _⟩
 ·exact .inl k
 ·exact .inr k1
def Cd (p : Pnt) : Prop := -32768 ≤ p.1 ∧ p.1 ≤ 32768 ∧ -32768 ≤ p.2 ∧ p.2 ≤ 32768
def CdS (s : Seg) : Prop := Cd s.1 ∧ Cd s.2
def CdR (r : Ring) : Prop := ∀ p ∈ r, Cd p
def CdL (l : Poly) : Prop := ∀ r ∈ l, CdR r
def Sp (p : Spot) : Prop := -1048576 ≤ p.1.1 ∧ p.1.1 ≤ 1048576 ∧ -1048576 ≤ p.1.2 ∧ p.1.2 ≤ 1048576 ∧ 1 ≤ p.2 ∧ p.2 ≤ 1048576
theorem at1_sp {p : Pnt} (h : Cd p) : Sp (at1 p) := by unfold Cd at h; unfold Sp at1; simp only; omega
theorem mid_sp {p q : Pnt} (h : Cd p) (k : Cd q) : Sp (midOf p q) := by unfold Cd at h k; unfold Sp midOf; simp only; omega
theorem segs_cd {r : Ring} (h : CdR r) {s : Seg} (hs : s ∈ segs r) : CdS s := ⟨h _ (segs_mem hs).1, h _ (segs_mem hs).2⟩
theorem fwd_cd {s : Seg} (h : CdS s) : CdS (fwd s.1 s.2) := by
 unfold fwd; split
 ·exact ⟨h.2, h.1⟩
 ·exact h
theorem nextCut_cd {s : Seg} {f : Pnt} {rings : Poly} (hs : CdS s) (hr : CdL rings) : Cd (nextCut s f rings) := by
 rcases nextCut_mem s f rings with k | k
 ·rw [k]; exact hs.2
 ·obtain ⟨r, h1, h2⟩ := List.mem_flatten.1 k
  exact hr r h1 _ h2
theorem midsF_sp {s : Seg} {rings : Poly} (hs : CdS s) (hr : CdL rings) : ∀ (n : Nat) (f : Pnt), Cd f → ∀ m ∈ midsF n s f rings, Sp m := by
  intro n
  induction n with
  | zero => intro f _ m hm; cases hm
  | succ n ih =>
    intro f hf m hm
    unfold midsF at hm
    split at hm
    · cases hm
    · rcases List.mem_cons.1 hm with rfl | hm
      · exact mid_sp hf (nextCut_cd hs hr)
      · exact ih _ (nextCut_cd hs hr) m hm
theorem mids_sp {s : Seg} {rings : Poly} (hs : CdS s) (hr : CdL rings) : ∀ m ∈ mids s rings, Sp m := midsF_sp (fwd_cd hs) hr _ _ (fwd_cd hs).1
theorem cd_of {m : Mult} (h : Pl.wrong m = 0) : ∀ l ∈ m, CdL l := by
  have h4 : m.any Pl.wideL = false := by
    unfold Pl.wrong at h
    split at h
    · omega
    · split at h
      · omega
      · split at h
        · omega
        · rename_i k; simpa using k
  intro l hl r hr p hp
  have h1 : Pl.wideP p = false := by
    cases hw : Pl.wideP p with
    | false => rfl
    | true =>
      have : m.any Pl.wideL = true := List.any_eq_true.2 ⟨l, hl, List.any_eq_true.2 ⟨r, hr, List.any_eq_true.2 ⟨p, hp, hw⟩⟩⟩
      rw [h4] at this; cases this
  unfold Pl.wideP Pl.farC at h1
  simp at h1
  unfold Cd; omega
def ptAt (r : Ring) (i : Nat) : Pnt := r.getD i (0, 0)
def nextI (r : Ring) (i : Nat) : Pnt := if i + 1 < r.length then ptAt r (i + 1) else ptAt r 1
def turns (r : Ring) (i : Nat) : Bool := decide (1 ≤ i) && decide (side (ptAt r (i - 1), ptAt r i) (at1 (nextI r i)) ≠ 0)
def cornersI (r : Ring) (n : Nat) : Ring := ((List.range n).filter (turns r)).map (ptAt r)
def corners (r : Ring) : Ring := cornersI r r.length
def leastS (v : Ring) (f i : Nat) : Nat := if bef (ptAt v i) (ptAt v f) then i else f
def leastN (v : Ring) (n : Nat) : Nat := (List.range n).foldl (leastS v) 0
def leastI (v : Ring) : Nat := leastN v v.length
def lefts (v : Ring) (k : Nat) : Bool := decide (0 < side (ptAt v ((k + v.length - 1) % v.length), ptAt v k) (at1 (ptAt v ((k + 1) % v.length))))
def stepI (v : Ring) (l : Bool) : Nat := if lefts v (leastI v) = l then 1 else v.length - 1
def ringForm (r : Ring) (l : Bool) : Ring :=
 if (corners r).length = 0 then [] else (List.range ((corners r).length + 1)).map fun i => ptAt (corners r) ((leastI (corners r) + i * stepI (corners r) l) % (corners r).length)
def cmpR : Ring → Ring → Int
 | [], [] => 0
 | [], _ :: _ => -1
 | _ :: _, [] => 1
 | p :: t, q :: u => if bef q p then 1 else if bef p q then -1 else cmpR t u
def cmpP : Poly → Poly → Int
 | [], [] => 0
 | [], _ :: _ => -1
 | _ :: _, [] => 1
 | p :: t, q :: u => if cmpR p q ≠ 0 then cmpR p q else cmpP t u
def isA (m : Mult) (a i : Nat) : Bool := decide (cmpP (pAt m i) (pAt m a) < 0) || (decide (cmpP (pAt m i) (pAt m a) = 0) && decide (i < a))
def cntA (m : Mult) (a n : Nat) : Nat := (List.range n).countP (isA m a)
def orderS (m : Mult) (o : Mult) (i : Nat) : Mult := o.set (cntA m i m.length) (pAt m i)
def orderN (m : Mult) (n : Nat) : Mult := (List.range n).foldl (orderS m) (List.replicate m.length [])
def inOrder (m : Mult) : Mult := orderN m m.length
def holesF (l : Poly) : Mult := l.map fun r => [ringForm r false]
def polyForm : Poly → Poly
 | [] => []
 | r :: l => ringForm r true :: (inOrder (holesF l)).flatten
def form (m : Mult) : Mult := inOrder (m.map polyForm)
def inPolyL : List Ring → Bool → Spot → Bool
 | [], _, _ => true
 | r :: t, first, p => if (first && decide (place r p = 0)) || (!first && decide (place r p = 2)) then false else inPolyL t false p
def inPoly (l : Poly) (p : Spot) : Bool := inPolyL l true p && decide (0 < l.length)
def inSet (m : Mult) (p : Spot) : Bool := m.any fun l => inPoly l p
def along (s : Seg) : Pnt := (s.2.1 - s.1.1, s.2.2 - s.1.2)
def turnW (w o : Pnt) : Int := w.1 * o.2 - w.2 * o.1
def amt (n : Int) : Int := if n < 0 then -n else n
def gapW (p : Spot) (s : Seg) : Pnt := (s.1.1 * p.2 - p.1.1, s.1.2 * p.2 - p.1.2)
def partsTo (p : Spot) (w : Pnt) (s : Seg) : Int :=
 if amt (turnW (gapW p s) (along s)) = 0 then 1 else (amt (p.2 * turnW w (along s))).tdiv (amt (turnW (gapW p s) (along s))) + 1
def partF (p : Spot) (w : Pnt) (n : Int) (s : Seg) : Int := if n < partsTo p w s then partsTo p w s else n
def nearS (p : Spot) (w : Pnt) (n : Int) : Spot := ((p.1.1 * n + p.2 * w.1, p.1.2 * n + p.2 * w.2), p.2 * n)
def near (both : List Seg) (p : Spot) (w : Pnt) : Spot := nearS p w (both.foldl (partF p w) 1)
def atBoth (both : List Seg) (s t : Seg) (m : Spot) : Option Spot :=
 if turnW (along s) (along t) < 0 then some (near both m (along t))
 else if 0 < turnW (along s) (along t) then some (near both m (-(along t).1, -(along t).2)) else none
def lookL (other : Mult) (both : List Seg) (s : Seg) (m : Spot) : List Seg → Option Spot
 | [] => if inSet other m then some (near both m ((along s).2, -(along s).1)) else some m
 | t :: l => if hasB t m then atBoth both s t m else lookL other both s m l
def edges (l : Poly) : List Seg := l.flatMap segs
def atBounds (a b : Mult) : Option Spot :=
 (edges a.flatten).findSome? fun s => (mids s (a.flatten ++ b.flatten)).findSome? fun m => lookL b (edges (a.flatten ++ b.flatten)) s m (edges b.flatten)
def spot (a b : Mult) : Option Spot := match atBounds a b with
 | some p => some p
 | none => atBounds b a
end Vd
def Bdd (A : Int) (u : Pnt) : Prop := (-A ≤ u.1 ∧ u.1 ≤ A) ∧ -A ≤ u.2 ∧ u.2 ≤ A
namespace Vd
theorem nAt_map {g : List Nat} {f : Nat → Nat} {i : Nat} (h : i < g.length) : nAt (g.map f) i = f (nAt g i) := by
 unfold nAt; simp [List.getD_eq_getElem?_getD, List.getElem?_eq_getElem h]
theorem turn_eq {o f x y : Nat} (h : turnG o f x = turnG o f y) : x = y ∨ ((x = o ∨ x = f) ∧ (y = o ∨ y = f)) := by
 unfold turnG at h; split at h <;> split at h <;> omega
theorem joinL_ok : ∀ (js : List Nat) (g : List Nat) (a : Nat) (g' : List Nat), a < g.length → (∀ j ∈ js, j < g.length) → joinL g a js = some g' →
    g'.length = g.length ∧ (∀ x y, x < g.length → y < g.length → nAt g x = nAt g y → nAt g' x = nAt g' y) ∧ (∀ j ∈ js, nAt g' j = nAt g' a) ∧ (∀ j ∈ js, nAt g j ≠ nAt g a) ∧ js.Pairwise (fun i j => nAt g i ≠ nAt g j) := by
  intro js
  induction js with
  | nil =>
    intro g a g' _ _ h
    simp only [joinL, Option.some.injEq] at h
    subst h
    exact ⟨rfl, fun _ _ _ _ e => e, by simp, by simp, List.Pairwise.nil⟩
  | cons j t ih =>
    intro g a g' ha hj h
    unfold joinL at h
    split at h
    · cases h
    · rename_i hne
      have hjl := hj j (by simp)
      have key := ih _ a g' (by simpa using ha) (by intro x hx; simpa using hj x (by simp [hx])) h
      obtain ⟨k1, k2, k3, k4, k5⟩ := key
      simp only [List.length_map] at k1 k2
      have m : ∀ x, x < g.length → nAt (g.map (turnG (nAt g j) (nAt g a))) x = turnG (nAt g j) (nAt g a) (nAt g x) := fun x hx => nAt_map hx
      have ma : turnG (nAt g j) (nAt g a) (nAt g a) = nAt g a := by unfold turnG; rw [if_neg (Ne.symm hne)]
      have mj : turnG (nAt g j) (nAt g a) (nAt g j) = nAt g a := by unfold turnG; rw [if_pos rfl]
      have kt : ∀ i ∈ t, nAt g i ≠ nAt g a ∧ nAt g i ≠ nAt g j := by
        intro i hi
        have hil := hj i (by simp [hi])
        have := k4 i hi
        rw [m i hil, m a ha, ma] at this
        constructor
        · intro e; rw [e, ma] at this; exact this rfl
        · intro e; rw [e, mj] at this; exact this rfl
      refine ⟨k1, ?_, ?_, ?_, ?_⟩
      · intro x y hx hy e
        refine k2 x y hx hy ?_
        rw [m x hx, m y hy, e]
      · intro i hi
        rcases List.mem_cons.1 hi with rfl | hi
        · refine k2 _ _ hjl ha ?_
          rw [m _ hjl, m a ha, mj, ma]
        · exact k3 i hi
      · intro i hi
        rcases List.mem_cons.1 hi with rfl | hi
        · exact hne
        · exact (kt i hi).1
      · refine List.Pairwise.cons (fun i hi => Ne.symm (kt i hi).2) ?_
        refine List.Pairwise.imp_of_mem ?_ k5
        intro x y hx hy e e2
        rw [m x (hj x (by simp [hx])), m y (hj y (by simp [hy])), e2] at e
        exact e rfl
theorem joinL_back : ∀ (js : List Nat) (g : List Nat) (a : Nat) (g' : List Nat), a < g.length → (∀ j ∈ js, j < g.length) → joinL g a js = some g' →
    ∀ x y, x < g.length → y < g.length → nAt g' x = nAt g' y → nAt g x = nAt g y ∨ ∃ u ∈ a :: js, ∃ v ∈ a :: js, nAt g u = nAt g x ∧ nAt g v = nAt g y := by
  intro js
  induction js with
  | nil =>
    intro g a g' _ _ h x y _ _ e
    simp only [joinL, Option.some.injEq] at h
    subst h
    exact .inl e
  | cons j t ih =>
    intro g a g' ha hj h x y hx hy e
    unfold joinL at h
    split at h
    · cases h
    · rename_i hne
      have hjl := hj j (by simp)
      have m : ∀ x, x < g.length → nAt (g.map (turnG (nAt g j) (nAt g a))) x = turnG (nAt g j) (nAt g a) (nAt g x) := fun x hx => nAt_map hx
      have key := ih _ a g' (by simpa using ha) (by intro x hx; simpa using hj x (by simp [hx])) h x y (by simpa using hx) (by simpa using hy) e
      have up : ∀ u ∈ a :: t, ∀ z, z < g.length → nAt (g.map (turnG (nAt g j) (nAt g a))) u = nAt (g.map (turnG (nAt g j) (nAt g a))) z → ∃ u' ∈ a :: j :: t, nAt g u' = nAt g z := by
        intro u hu z hz e
        have hul : u < g.length := by
          rcases List.mem_cons.1 hu with rfl | hu
          · exact ha
          · exact hj u (by simp [hu])
        rw [m u hul, m z hz] at e
        rcases turn_eq e with e | ⟨_, e | e⟩
        · refine ⟨u, ?_, e⟩
          rcases List.mem_cons.1 hu with rfl | hu
          · simp
          · simp [hu]
        · exact ⟨j, by simp, e.symm⟩
        · exact ⟨a, by simp, e.symm⟩
      rcases key with k | ⟨u, hu, v, hv, k1, k2⟩
      · rw [m x hx, m y hy] at k
        rcases turn_eq k with k | ⟨k1, k2⟩
        · exact .inl k
        · right
          have one : ∀ z, (nAt g z = nAt g j ∨ nAt g z = nAt g a) → ∃ u ∈ a :: j :: t, nAt g u = nAt g z := by
            rintro z (e | e)
            · exact ⟨j, by simp, e.symm⟩
            · exact ⟨a, by simp, e.symm⟩
          obtain ⟨u, hu, e1⟩ := one x k1
          obtain ⟨v, hv, e2⟩ := one y k2
          exact ⟨u, hu, v, hv, e1, e2⟩
      · right
        obtain ⟨u', hu', e1⟩ := up u hu x hx k1
        obtain ⟨v', hv', e2⟩ := up v hv y hy k2
        exact ⟨u', hu', v', hv', e1, e2⟩
theorem joinL_none : ∀ (js : List Nat) (g : List Nat) (a : Nat), a < g.length → (∀ j ∈ js, j < g.length) → (a :: js).Nodup → joinL g a js = none →
    ∃ u ∈ a :: js, ∃ v ∈ a :: js, u ≠ v ∧ nAt g u = nAt g v := by
  intro js
  induction js with
  | nil => intro g a _ _ _ h; cases h
  | cons j t ih =>
    intro g a ha hj hnd h
    have hjl := hj j (by simp)
    have haj : a ≠ j := fun e => (List.nodup_cons.1 hnd).1 (by simp [e])
    have hjt : j ∉ t := (List.nodup_cons.1 (List.nodup_cons.1 hnd).2).1
    unfold joinL at h
    split at h
    · rename_i e
      exact ⟨j, by simp, a, by simp, Ne.symm haj, e⟩
    · rename_i hne
      have m : ∀ x, x < g.length → nAt (g.map (turnG (nAt g j) (nAt g a))) x = turnG (nAt g j) (nAt g a) (nAt g x) := fun x hx => nAt_map hx
      have hnd' : (a :: t).Nodup := by
        rw [List.nodup_cons] at hnd ⊢
        exact ⟨fun e => hnd.1 (by simp [e]), (List.nodup_cons.1 hnd.2).2⟩
      obtain ⟨u, hu, v, hv, huv, e⟩ := ih _ a (by simpa using ha) (by intro x hx; simpa using hj x (by simp [hx])) hnd' h
      have lt : ∀ x ∈ a :: t, x < g.length := by
        intro x hx
        rcases List.mem_cons.1 hx with rfl | hx
        · exact ha
        · exact hj x (by simp [hx])
      have inn : ∀ x ∈ a :: t, x ∈ a :: j :: t := by
        intro x hx
        rcases List.mem_cons.1 hx with rfl | hx
        · simp
        · simp [hx]
      have far : ∀ x ∈ a :: t, nAt g x = nAt g j → ∃ u ∈ a :: j :: t, ∃ v ∈ a :: j :: t, u ≠ v ∧ nAt g u = nAt g v := by
        intro x hx e
        refine ⟨x, inn x hx, j, by simp, ?_, e⟩
        rintro rfl
        rcases List.mem_cons.1 hx with e | e
        · exact haj e.symm
        · exact hjt e
      rw [m u (lt u hu), m v (lt v hv)] at e
      rcases turn_eq e with e | ⟨e1 | e1, e2 | e2⟩
      · exact ⟨u, inn u hu, v, inn v hv, huv, e⟩
      · exact far u hu e1
      · exact far u hu e1
      · exact far v hv e2
      · exact ⟨u, inn u hu, v, inn v hv, huv, by rw [e1, e2]⟩
abbrev Inc := Nat → Pnt → Prop
structure Near (F : Inc) (x y : Nat) : Prop where
 pt : ∀ r p, F r p → ∃ r', r' ≠ r ∧ F r' p
 ring : ∀ r p, F r p → r ≠ x → r ≠ y → ∃ p', p' ≠ p ∧ F r p'
structure Core (F : Inc) : Prop where
 pt : ∀ r p, F r p → ∃ r', r' ≠ r ∧ F r' p
 ring : ∀ r p, F r p → ∃ p', p' ≠ p ∧ F r p'
structure At (n : Nat) (E : Inc) (at_ : Pnt → List Nat) : Prop where
 mem : ∀ r p, r ∈ at_ p ↔ r < n ∧ E r p
 nd : ∀ p, (at_ p).Nodup
theorem pw_all {f : Nat → Nat} {l : List Nat} (h : l.Pairwise (fun i j => f i ≠ f j)) : ∀ x y, x ∈ l → y ∈ l → x ≠ y → f x ≠ f y := by
  induction h with
  | nil => intro x y hx; cases hx
  | cons h1 _ ih =>
    intro x y hx hy hxy
    rcases List.mem_cons.1 hx with e1 | e1 <;> rcases List.mem_cons.1 hy with e2 | e2
    · exact absurd (e1.trans e2.symm) hxy
    · rw [e1]; exact h1 y e2
    · rw [e2]; exact Ne.symm (h1 x e1)
    · exact ih x y e1 e2 hxy
theorem join_cases {n : Nat} {E : Inc} {at_ : Pnt → List Nat} (hA : At n E at_) (p : Pnt) (g : List Nat) (hg : g.length = n) :
    (∀ g', join g (at_ p) = some g' → g'.length = n ∧ (∀ x y, x < n → y < n → nAt g x = nAt g y → nAt g' x = nAt g' y) ∧ (∀ a b, a ∈ at_ p → b ∈ at_ p → nAt g' a = nAt g' b) ∧
      (∀ a b, a ∈ at_ p → b ∈ at_ p → a ≠ b → nAt g a ≠ nAt g b) ∧ (∀ x y, x < n → y < n → nAt g' x = nAt g' y → nAt g x = nAt g y ∨ ∃ u ∈ at_ p, ∃ v ∈ at_ p, nAt g u = nAt g x ∧ nAt g v = nAt g y)) ∧
    (join g (at_ p) = none → ∃ u ∈ at_ p, ∃ v ∈ at_ p, u ≠ v ∧ nAt g u = nAt g v) := by
  have hnd := hA.nd p
  have hlt : ∀ j ∈ at_ p, j < g.length := fun j hj => by rw [hg]; exact ((hA.mem j p).1 hj).1
  cases hp : at_ p with
  | nil =>
    refine ⟨fun g' h => ?_, fun h => by cases h⟩
    simp only [join, Option.some.injEq] at h
    subst h
    exact ⟨hg, fun _ _ _ _ e => e, by simp, by simp, fun _ _ _ _ e => .inl e⟩
  | cons a t =>
    rw [hp] at hnd hlt
    have ha := hlt a (by simp)
    have ht : ∀ j ∈ t, j < g.length := fun j hj => hlt j (by simp [hj])
    refine ⟨fun g' h => ?_, fun h => joinL_none t g a ha ht hnd h⟩
    obtain ⟨k1, k2, k3, k4, k5⟩ := joinL_ok t g a g' ha ht h
    have k6 := joinL_back t g a g' ha ht h
    rw [hg] at k1 k2 k6
    refine ⟨k1, k2, ?_, ?_, k6⟩
    · have one : ∀ x ∈ a :: t, nAt g' x = nAt g' a := by
        intro x hx
        rcases List.mem_cons.1 hx with rfl | hx
        · rfl
        · exact k3 x hx
      intro x y hx hy
      rw [one x hx, one y hy]
    · intro x y hx hy hxy
      rcases List.mem_cons.1 hx with h1 | h1 <;> rcases List.mem_cons.1 hy with h2 | h2
      · exact absurd (h1.trans h2.symm) hxy
      · rw [h1]; exact Ne.symm (k4 y h2)
      · rw [h2]; exact k4 x h1
      · exact pw_all k5 x y h1 h2 hxy
structure Jd (n : Nat) (E : Inc) (Q : Pnt → Prop) (g : List Nat) : Prop where
 len : g.length = n
 one : ∀ p, Q p → ∀ a b, a < n → b < n → E a p → E b p → nAt g a = nAt g b
 no : ∀ F : Inc, (∀ r p, F r p → r < n ∧ E r p ∧ Q p) → ∀ x, Near F x x → ∀ r p, ¬ F r p
 good : ∀ a b, a < n → b < n → a ≠ b → nAt g a = nAt g b → ∃ F : Inc, (∀ r p, F r p → r < n ∧ E r p ∧ Q p) ∧ Near F a b ∧ (∃ p, F a p) ∧ (∃ p, F b p)
theorem Jd.step {n : Nat} {E : Inc} {at_ : Pnt → List Nat} (hA : At n E at_) {Q : Pnt → Prop} {g g' : List Nat} (h : Jd n E Q g) {p : Pnt} (hp : ¬ Q p) (hj : join g (at_ p) = some g') :
  Jd n E (fun q => Q q ∨ q = p) g' := by
 obtain ⟨k1, k2, k3, k4, k5⟩ := (join_cases hA p g h.len).1 g' hj
 refine ⟨k1, ?_, ?_, ?_⟩
 ·rintro q (hq | rfl) a b ha hb ea eb
  ·exact k2 a b ha hb (h.one q hq a b ha hb ea eb)
  ·exact k3 a b ((hA.mem a q).2 ⟨ha, ea⟩) ((hA.mem b q).2 ⟨hb, eb⟩)
 ·intro F hF x hN r0 p0 h0
  by_cases hu : ∃ r, F r p
  ·obtain ⟨a, ha⟩ := hu
   obtain ⟨b, hba, hb⟩ := hN.pt a p ha
   have ea := hF a p ha
   have eb := hF b p hb
   have hne := k4 a b ((hA.mem a p).2 ⟨ea.1, ea.2.1⟩) ((hA.mem b p).2 ⟨eb.1, eb.2.1⟩) (Ne.symm hba)
   have key : ∀ c, F c p → nAt g c ≠ nAt g x → False := by
    intro c hc hcx
    have ec := hF c p hc
    have hcx' : c ≠ x := fun e => hcx (by rw [e])
    obtain ⟨q, hq, hcq⟩ := hN.ring c p hc hcx' hcx'
    refine h.no (fun r q => F r q ∧ q ≠ p ∧ nAt g r = nAt g c) ?_ c ⟨?_, ?_⟩ c q ⟨hcq, hq, rfl⟩
    ·rintro r q ⟨h1, h2, -⟩
     obtain ⟨g1, g2, g3⟩ := hF r q h1
     rcases g3 with g3 | g3
     ·exact ⟨g1, g2, g3⟩
     ·exact absurd g3 h2
    ·rintro r q ⟨h1, h2, h3⟩
     obtain ⟨r', e, h4⟩ := hN.pt r q h1
     have a1 := hF r q h1
     have a2 := hF r' q h4
     have hQ : Q q := by rcases a1.2.2 with t | t; exact t; exact absurd t h2
     exact ⟨r', e, h4, h2, by rw [← h3]; exact h.one q hQ r' r a2.1 a1.1 a2.2.1 a1.2.1⟩
    ·rintro r q ⟨h1, h2, h3⟩ hr _
     have hrx : r ≠ x := fun e => hcx (by rw [← e, h3])
     obtain ⟨q', e, h4⟩ := hN.ring r q h1 hrx hrx
     refine ⟨q', e, h4, ?_, h3⟩
     rintro rfl
     have a1 := hF r q' h4
     exact k4 r c ((hA.mem r q').2 ⟨a1.1, a1.2.1⟩) ((hA.mem c q').2 ⟨ec.1, ec.2.1⟩) hr h3
   by_cases hax : nAt g a = nAt g x
   ·exact key b hb (fun e => hne (by rw [hax, e]))
   ·exact key a ha hax
  ·refine h.no F ?_ x hN r0 p0 h0
   intro r q hq
   obtain ⟨g1, g2, g3⟩ := hF r q hq
   rcases g3 with g3 | rfl
   ·exact ⟨g1, g2, g3⟩
   ·exact absurd ⟨r, hq⟩ hu
 ·intro a b ha hb hab e
  have wide : ∀ F : Inc, (∀ r p, F r p → r < n ∧ E r p ∧ Q p) → ∀ r q, F r q → r < n ∧ E r q ∧ (Q q ∨ q = p) := fun F hF r q hq => ⟨(hF r q hq).1, (hF r q hq).2.1, .inl (hF r q hq).2.2⟩
  by_cases e0 : nAt g a = nAt g b
  ·obtain ⟨F, h1, h2, h3, h4⟩ := h.good a b ha hb hab e0
   exact ⟨F, wide F h1, h2, h3, h4⟩
  ·rcases k5 a b ha hb e with e1 | ⟨u, hu, v, hv, e1, e2⟩
   ·exact absurd e1 e0
   have eu := (hA.mem u p).1 hu
   have ev := (hA.mem v p).1 hv
   have huv : u ≠ v := by rintro rfl; exact e0 (e1.symm.trans e2)
   have arm : ∀ z c, z < n → c < n → nAt g z = nAt g c → ∃ F : Inc, (∀ r q, F r q → r < n ∧ E r q ∧ Q q) ∧ (∀ r q, F r q → ∃ r', r' ≠ r ∧ F r' q) ∧ (∀ r q, F r q → r ≠ z → r ≠ c → ∃ q', q' ≠ q ∧ F r q') ∧ (z ≠ c → (∃ q, F z q) ∧ (∃ q, F c q)) := by
    intro z c hz hc ezc
    by_cases zc : z = c
    ·exact ⟨fun _ _ => False, by simp, by simp, by simp, fun t => absurd zc t⟩
    ·obtain ⟨F, h1, h2, h3, h4⟩ := h.good z c hz hc zc ezc
     exact ⟨F, h1, h2.pt, h2.ring, fun _ => ⟨h3, h4⟩⟩
   obtain ⟨F, f1, f2, f3, f4⟩ := arm u a eu.1 ha e1
   obtain ⟨G, g1, g2, g3, g4⟩ := arm v b ev.1 hb e2
   refine ⟨fun r q => F r q ∨ G r q ∨ (q = p ∧ (r = u ∨ r = v)), ?_, ⟨?_, ?_⟩, ?_, ?_⟩
   ·rintro r q (t | t | ⟨rfl, rfl | rfl⟩)
    ·exact wide F f1 r q t
    ·exact wide G g1 r q t
    ·exact ⟨eu.1, eu.2, .inr rfl⟩
    ·exact ⟨ev.1, ev.2, .inr rfl⟩
   ·rintro r q (t | t | ⟨rfl, rfl | rfl⟩)
    ·obtain ⟨r', e, t'⟩ := f2 r q t; exact ⟨r', e, .inl t'⟩
    ·obtain ⟨r', e, t'⟩ := g2 r q t; exact ⟨r', e, .inr (.inl t')⟩
    ·exact ⟨v, Ne.symm huv, .inr (.inr ⟨rfl, .inr rfl⟩)⟩
    ·exact ⟨u, huv, .inr (.inr ⟨rfl, .inl rfl⟩)⟩
   ·have atU : ∀ q, q ≠ p → ∃ q', q' ≠ q ∧ (F u q' ∨ G u q' ∨ (q' = p ∧ (u = u ∨ u = v))) := fun q hq => ⟨p, Ne.symm hq, .inr (.inr ⟨rfl, .inl rfl⟩)⟩
    have atV : ∀ q, q ≠ p → ∃ q', q' ≠ q ∧ (F v q' ∨ G v q' ∨ (q' = p ∧ (v = u ∨ v = v))) := fun q hq => ⟨p, Ne.symm hq, .inr (.inr ⟨rfl, .inr rfl⟩)⟩
    rintro r q (t | t | ⟨rfl, rfl | rfl⟩) hra hrb
    ·have hq : q ≠ p := fun e => hp (e ▸ (f1 r q t).2.2)
     by_cases ru : r = u
     ·subst ru; exact atU q hq
     ·obtain ⟨q', e, t'⟩ := f3 r q t ru hra; exact ⟨q', e, .inl t'⟩
    ·have hq : q ≠ p := fun e => hp (e ▸ (g1 r q t).2.2)
     by_cases rv : r = v
     ·subst rv; exact atV q hq
     ·obtain ⟨q', e, t'⟩ := g3 r q t rv hrb; exact ⟨q', e, .inr (.inl t')⟩
    ·obtain ⟨q', t'⟩ := (f4 hra).1
     exact ⟨q', fun e => hp (e ▸ (f1 r q' t').2.2), .inl t'⟩
    ·obtain ⟨q', t'⟩ := (g4 hrb).1
     exact ⟨q', fun e => hp (e ▸ (g1 r q' t').2.2), .inr (.inl t')⟩
   ·by_cases ua : u = a
    ·exact ⟨p, .inr (.inr ⟨rfl, .inl ua.symm⟩)⟩
    ·obtain ⟨q, t⟩ := (f4 ua).2; exact ⟨q, .inl t⟩
   ·by_cases vb : v = b
    ·exact ⟨p, .inr (.inr ⟨rfl, .inr vb.symm⟩)⟩
    ·obtain ⟨q, t⟩ := (g4 vb).2; exact ⟨q, .inr (.inl t)⟩
theorem Jd.core {n : Nat} {E : Inc} {at_ : Pnt → List Nat} (hA : At n E at_) {Q : Pnt → Prop} {g : List Nat} (h : Jd n E Q g) {p : Pnt} (hp : ¬ Q p) (hj : join g (at_ p) = none) :
  ∃ F : Inc, (∀ r q, F r q → r < n ∧ E r q ∧ (Q q ∨ q = p)) ∧ Core F ∧ ∃ r q, F r q := by
 obtain ⟨u, hu, v, hv, huv, e⟩ := (join_cases hA p g h.len).2 hj
 have eu := (hA.mem u p).1 hu
 have ev := (hA.mem v p).1 hv
 obtain ⟨F, h1, h2, ⟨qu, h3⟩, ⟨qv, h4⟩⟩ := h.good u v eu.1 ev.1 huv e
 have np : ∀ r q, F r q → q ≠ p := fun r q t e => hp (e ▸ (h1 r q t).2.2)
 refine ⟨fun r q => F r q ∨ (q = p ∧ (r = u ∨ r = v)), ?_, ⟨?_, ?_⟩, u, p, .inr ⟨rfl, .inl rfl⟩⟩
 ·rintro r q (t | ⟨rfl, rfl | rfl⟩)
  ·exact ⟨(h1 r q t).1, (h1 r q t).2.1, .inl (h1 r q t).2.2⟩
  ·exact ⟨eu.1, eu.2, .inr rfl⟩
  ·exact ⟨ev.1, ev.2, .inr rfl⟩
 ·rintro r q (t | ⟨rfl, rfl | rfl⟩)
  ·obtain ⟨r', e, t'⟩ := h2.pt r q t; exact ⟨r', e, .inl t'⟩
  ·exact ⟨v, Ne.symm huv, .inr ⟨rfl, .inr rfl⟩⟩
  ·exact ⟨u, huv, .inr ⟨rfl, .inl rfl⟩⟩
 ·rintro r q (t | ⟨rfl, rfl | rfl⟩)
  ·by_cases ru : r = u
   ·exact ⟨p, Ne.symm (np r q t), .inr ⟨rfl, .inl ru⟩⟩
   ·by_cases rv : r = v
    ·exact ⟨p, Ne.symm (np r q t), .inr ⟨rfl, .inr rv⟩⟩
    ·obtain ⟨q', e, t'⟩ := h2.ring r q t ru rv; exact ⟨q', e, .inl t'⟩
  ·exact ⟨qu, np _ qu h3, .inl h3⟩
  ·exact ⟨qv, np _ qv h4, .inl h4⟩
def incL (l : Poly) : Inc := fun r p => place (rAt l r) (at1 p) = 1
theorem at_ringsAt (l : Poly) : At l.length (incL l) (ringsAt l) where
 mem := by
  intro r p
  unfold ringsAt incL
  simp
 nd := by
  intro p
  unfold ringsAt
  exact List.Pairwise.filter _ (List.nodup_range)
theorem Jd.mono {n : Nat} {E : Inc} {Q Q' : Pnt → Prop} {g : List Nat} (h : Jd n E Q g) (k : ∀ p, Q p ↔ Q' p) : Jd n E Q' g := by
 have e : Q = Q' := funext fun p => propext (k p)
 rw [← e]; exact h
theorem wayL_cases (l : Poly) : ∀ (ps : List Pnt) (Q : Pnt → Prop) (g : List Nat), Jd l.length (incL l) Q g → (∀ p ∈ ps, ¬ Q p) → ps.Nodup →
    (wayL l ps g = true → ∃ F : Inc, (∀ r q, F r q → r < l.length ∧ incL l r q ∧ (Q q ∨ q ∈ ps)) ∧ Core F ∧ ∃ r q, F r q) ∧
    (wayL l ps g = false → ∃ g', Jd l.length (incL l) (fun q => Q q ∨ q ∈ ps) g') := by
  intro ps
  induction ps with
  | nil =>
    intro Q g h _ _
    refine ⟨fun e => ?_, fun _ => ⟨g, h.mono (by simp)⟩⟩
    simp [wayL] at e
  | cons p t ih =>
    intro Q g h hq hnd
    have hp := hq p (by simp)
    rw [List.nodup_cons] at hnd
    cases hj : join g (ringsAt l p) with
    | none =>
      refine ⟨fun _ => ?_, fun e => by simp [wayL, hj] at e⟩
      obtain ⟨F, h1, h2, h3⟩ := h.core (at_ringsAt l) hp hj
      refine ⟨F, fun r q t => ⟨(h1 r q t).1, (h1 r q t).2.1, ?_⟩, h2, h3⟩
      rcases (h1 r q t).2.2 with k | k
      · exact .inl k
      · exact .inr (by simp [k])
    | some g' =>
      have h' := h.step (at_ringsAt l) hp hj
      have := ih _ g' h' (by
        rintro q hq' (k | rfl)
        · exact hq q (by simp [hq']) k
        · exact hnd.1 hq') hnd.2
      have ew : wayL l (p :: t) g = wayL l t g' := by simp [wayL, hj]
      rw [ew]
      refine ⟨fun e => ?_, fun e => ?_⟩
      · obtain ⟨F, h1, h2, h3⟩ := this.1 e
        refine ⟨F, fun r q t => ⟨(h1 r q t).1, (h1 r q t).2.1, ?_⟩, h2, h3⟩
        rcases (h1 r q t).2.2 with (k | k) | k
        · exact .inl k
        · exact .inr (by simp [k])
        · exact .inr (by simp [k])
      · obtain ⟨g'', k⟩ := this.2 e
        exact ⟨g'', k.mono (by intro q; simp [or_assoc])⟩
theorem touch_fold (l : Poly) : ∀ (ps : List Pnt) (a : List Pnt), a.Nodup → (∀ p ∈ a, 1 < (ringsAt l p).length) →
    (ps.foldl (touchF l) a).Nodup ∧ ∀ q, q ∈ ps.foldl (touchF l) a ↔ q ∈ a ∨ (q ∈ ps ∧ 1 < (ringsAt l q).length) := by
  intro ps
  induction ps with
  | nil => intro a h _; exact ⟨h, by simp⟩
  | cons p t ih =>
    intro a h h1
    rw [List.foldl_cons]
    by_cases c : ¬ (p ∈ a) ∧ 1 < (ringsAt l p).length
    · rw [show touchF l a p = a ++ [p] from if_pos c]
      have := ih (a ++ [p]) (by rw [List.nodup_append]; exact ⟨h, by simp, by intro x hx y hy; simp at hy; subst hy; rintro rfl; exact c.1 hx⟩) (by
        intro q hq
        rcases List.mem_append.1 hq with hq | hq
        · exact h1 q hq
        · simp at hq; subst hq; exact c.2)
      refine ⟨this.1, fun q => ?_⟩
      rw [this.2 q]
      simp only [List.mem_append, List.mem_cons, List.mem_singleton, List.not_mem_nil, or_false]
      constructor
      · rintro ((k | rfl) | k)
        · exact .inl k
        · exact .inr ⟨.inl rfl, c.2⟩
        · exact .inr ⟨.inr k.1, k.2⟩
      · rintro (k | ⟨rfl | k, k2⟩)
        · exact .inl (.inl k)
        · exact .inl (.inr rfl)
        · exact .inr ⟨k, k2⟩
    · rw [show touchF l a p = a from if_neg c]
      have := ih a h h1
      refine ⟨this.1, fun q => ?_⟩
      rw [this.2 q]
      simp only [List.mem_cons]
      constructor
      · rintro (k | k)
        · exact .inl k
        · exact .inr ⟨.inr k.1, k.2⟩
      · rintro (k | ⟨rfl | k, k2⟩)
        · exact .inl k
        · by_cases hq : q ∈ a
          · exact .inl hq
          · exact absurd ⟨hq, k2⟩ c
        · exact .inr ⟨k, k2⟩
theorem two_at {n : Nat} {E : Inc} {f : Pnt → List Nat} (hA : At n E f) {p : Pnt} {a b : Nat} (ha : a ∈ f p) (hb : b ∈ f p) (hab : a ≠ b) : 1 < (f p).length := by
 match hf : f p with
 | [] => rw [hf] at ha; cases ha
 | [x] => rw [hf] at ha hb; simp at ha hb; exact absurd (ha.trans hb.symm) hab
 | x :: y :: t => simp
theorem nAt_range {n a : Nat} (h : a < n) : nAt (List.range n) a = a := by
 unfold nAt; simp [List.getD_eq_getElem?_getD, List.getElem?_range h]
theorem way_core (l : Poly) : way l = true ↔ ∃ F : Inc, (∀ r q, F r q → r < l.length ∧ incL l r q ∧ q ∈ l.flatten) ∧ Core F ∧ ∃ r q, F r q := by
  have ht := touch_fold l l.flatten [] List.nodup_nil (by simp)
  have h0 : Jd l.length (incL l) (fun _ => False) (List.range l.length) := by
    refine ⟨by simp, by simp, ?_, ?_⟩
    · intro F hF x _ r p h; exact (hF r p h).2.2
    · intro a b ha hb hab e
      rw [nAt_range ha, nAt_range hb] at e
      exact absurd e hab
  have key := wayL_cases l (touchPts l) _ _ h0 (by simp) ht.1
  constructor
  · intro h
    obtain ⟨F, h1, h2, h3⟩ := key.1 h
    refine ⟨F, fun r q t => ⟨(h1 r q t).1, (h1 r q t).2.1, ?_⟩, h2, h3⟩
    rcases (h1 r q t).2.2 with k | k
    · exact k.elim
    · have := (ht.2 q).1 k
      simp only [List.not_mem_nil, false_or] at this
      exact this.1
  · rintro ⟨F, h1, h2, r, q, h3⟩
    cases hw : way l with
    | true => rfl
    | false =>
      exfalso
      obtain ⟨g, hg⟩ := key.2 hw
      refine hg.no F ?_ 0 ⟨h2.pt, fun r p t _ _ => h2.ring r p t⟩ r q h3
      intro r p t
      obtain ⟨r', e, t'⟩ := h2.pt r p t
      have a1 := h1 r p t
      have a2 := h1 r' p t'
      refine ⟨a1.1, a1.2.1, .inr ?_⟩
      refine (ht.2 p).2 (.inr ⟨a1.2.2, ?_⟩)
      exact two_at (at_ringsAt l) (((at_ringsAt l).mem r p).2 ⟨a1.1, a1.2.1⟩) (((at_ringsAt l).mem r' p).2 ⟨a2.1, a2.2.1⟩) (Ne.symm e)
structure Cmp {α : Type} (c : α → α → Int) : Prop where
 anti : ∀ x y, c x y = -(c y x)
 eq : ∀ x y, c x y = 0 → x = y
 trans : ∀ x y z, c x y < 0 → c y z < 0 → c x z < 0
theorem Cmp.self {α : Type} {c : α → α → Int} (h : Cmp c) (x : α) : c x x = 0 := by have := h.anti x x; omega
def lexC {α : Type} (c : α → α → Int) : List α → List α → Int
 | [], [] => 0
 | [], _ :: _ => -1
 | _ :: _, [] => 1
 | p :: t, q :: u => if c p q ≠ 0 then c p q else lexC c t u
theorem lexC_anti {α : Type} {c : α → α → Int} (h : Cmp c) : ∀ a b, lexC c a b = -(lexC c b a) := by
  intro a
  induction a with
  | nil => intro b; cases b <;> simp [lexC]
  | cons p t ih =>
    intro b
    cases b with
    | nil => simp [lexC]
    | cons q u =>
      simp only [lexC]
      rw [h.anti p q]
      by_cases k : c q p = 0
      · rw [if_neg (by omega), if_neg (by omega)]; exact ih u
      · rw [if_pos (by omega), if_pos k]
theorem lexC_eq {α : Type} {c : α → α → Int} (h : Cmp c) : ∀ a b, lexC c a b = 0 → a = b := by
  intro a
  induction a with
  | nil => intro b; cases b <;> simp [lexC]
  | cons p t ih =>
    intro b
    cases b with
    | nil => simp [lexC]
    | cons q u =>
      simp only [lexC]
      intro e
      by_cases k : c p q = 0
      · rw [if_neg (by omega)] at e; rw [h.eq p q k, ih u e]
      · rw [if_pos k] at e; exact absurd e k
theorem lexC_trans {α : Type} {c : α → α → Int} (h : Cmp c) : ∀ a b d, lexC c a b < 0 → lexC c b d < 0 → lexC c a d < 0 := by
  intro a
  induction a with
  | nil =>
    intro b d h1 h2
    cases b with
    | nil => simp [lexC] at h1
    | cons q u =>
      cases d with
      | nil => simp [lexC] at h2
      | cons r v => simp [lexC]
  | cons p t ih =>
    intro b d h1 h2
    cases b with
    | nil => simp [lexC] at h1
    | cons q u =>
      cases d with
      | nil => simp [lexC] at h2
      | cons r v =>
        simp only [lexC] at *
        by_cases k1 : c p q = 0
        · rw [if_neg (by omega)] at h1
          obtain rfl := h.eq p q k1
          by_cases k2 : c p r = 0
          · rw [if_neg (by omega)] at h2 ⊢; exact ih u v h1 h2
          · rw [if_pos k2] at h2 ⊢; exact h2
        · rw [if_pos k1] at h1
          by_cases k2 : c q r = 0
          · obtain rfl := h.eq q r k2
            rw [if_pos k1]; exact h1
          · rw [if_pos k2] at h2
            have := h.trans p q r h1 h2
            rw [if_pos (by omega)]; exact this
theorem lexC_cmp {α : Type} {c : α → α → Int} (h : Cmp c) : Cmp (lexC c) := ⟨lexC_anti h, lexC_eq h, lexC_trans h⟩
def cP (p q : Pnt) : Int := if bef q p then 1 else if bef p q then -1 else 0
theorem cP_cmp : Cmp cP := by
 refine ⟨fun p q => ?_, fun p q => ?_, fun p q r => ?_⟩
 ·unfold cP bef; repeat' split
  all_goals omega
 ·unfold cP bef
  obtain ⟨a, b⟩ := p; obtain ⟨c, d⟩ := q
  simp only [Prod.mk.injEq]
  repeat' split
  all_goals omega
 ·unfold cP bef; repeat' split
  all_goals omega
theorem cmpR_lex : ∀ a b, cmpR a b = lexC cP a b := by
  intro a
  induction a with
  | nil => intro b; cases b <;> simp [lexC, cmpR]
  | cons p t ih =>
    intro b
    cases b with
    | nil => simp [lexC, cmpR]
    | cons q u =>
      simp only [lexC, cmpR, ih u]
      unfold cP
      by_cases k : bef q p
      · rw [if_pos k, if_pos k, if_pos (by omega)]
      · rw [if_neg k, if_neg k]
        by_cases k2 : bef p q
        · rw [if_pos k2, if_pos k2, if_pos (by omega)]
        · rw [if_neg k2, if_neg k2, if_neg (by omega)]
theorem cmpR_cmp : Cmp cmpR := by
 have := lexC_cmp cP_cmp
 rwa [show lexC cP = cmpR from funext fun a => funext fun b => (cmpR_lex a b).symm] at this
theorem cmpP_lex : ∀ a b, cmpP a b = lexC cmpR a b := by
  intro a
  induction a with
  | nil => intro b; cases b <;> simp [lexC, cmpP]
  | cons p t ih =>
    intro b
    cases b with
    | nil => simp [lexC, cmpP]
    | cons q u => simp only [lexC, cmpP, ih u]
theorem cmpP_cmp : Cmp cmpP := by
 have := lexC_cmp cmpR_cmp
 rwa [show lexC cmpR = cmpP from funext fun a => funext fun b => (cmpP_lex a b).symm] at this
def aheadM (m : Mult) (i k : Nat) : Prop := cmpP (pAt m i) (pAt m k) < 0 ∨ (cmpP (pAt m i) (pAt m k) = 0 ∧ i < k)
theorem isA_iff (m : Mult) (a i : Nat) : isA m a i = true ↔ aheadM m i a := by unfold isA aheadM; simp
theorem aheadM_irr (m : Mult) (i : Nat) : ¬ aheadM m i i := by unfold aheadM; have := cmpP_cmp.self (pAt m i); omega
theorem aheadM_tot (m : Mult) {i k : Nat} (h : i ≠ k) : aheadM m i k ∨ aheadM m k i := by unfold aheadM; have := cmpP_cmp.anti (pAt m i) (pAt m k); omega
theorem aheadM_trans (m : Mult) {i j k : Nat} (h1 : aheadM m i j) (h2 : aheadM m j k) : aheadM m i k := by
 unfold aheadM at *
 rcases h1 with h1 | ⟨h1, l1⟩
 ·rcases h2 with h2 | ⟨h2, l2⟩
  ·exact .inl (cmpP_cmp.trans _ _ _ h1 h2)
  ·rw [← cmpP_cmp.eq _ _ h2]; exact .inl h1
 ·rw [cmpP_cmp.eq _ _ h1]
  rcases h2 with h2 | ⟨h2, l2⟩
  ·exact .inl h2
  ·exact .inr ⟨h2, by omega⟩
theorem countP_lt {α : Type} {p q : α → Bool} : ∀ {l : List α}, (∀ x ∈ l, p x = true → q x = true) → (∃ x ∈ l, q x = true ∧ p x = false) → l.countP p < l.countP q := by
  intro l
  induction l with
  | nil => rintro _ ⟨x, hx, _⟩; simp at hx
  | cons a t ih =>
    rintro h ⟨x, hx, hq, hp⟩
    have mono : ∀ s : List α, (∀ x ∈ s, p x = true → q x = true) → s.countP p ≤ s.countP q := fun s hs => List.countP_mono_left hs
    rw [List.countP_cons, List.countP_cons]
    have hm := mono t fun y hy => h y (List.mem_cons_of_mem _ hy)
    rcases List.mem_cons.1 hx with rfl | hx
    · rw [if_pos hq, if_neg (by rw [hp]; decide)]; omega
    · have := ih (fun y hy => h y (List.mem_cons_of_mem _ hy)) ⟨x, hx, hq, hp⟩
      have h1 : (if p a = true then 1 else 0) ≤ (if q a = true then 1 else 0) := by
        by_cases k : p a = true
        · rw [if_pos k, if_pos (h a (by simp) k)]; exact Nat.le_refl _
        · rw [if_neg k]; exact Nat.zero_le _
      omega
theorem cnt_lt {m : Mult} {n i k : Nat} (hi : i < n) (h : aheadM m i k) : cntA m i n < cntA m k n := by
 unfold cntA
 refine countP_lt (fun x _ hx => ?_) ⟨i, List.mem_range.2 hi, (isA_iff m k i).2 h, ?_⟩
 ·exact (isA_iff m k x).2 (aheadM_trans m ((isA_iff m i x).1 hx) h)
 ·cases e : isA m i i with
  | false => rfl
  | true => exact absurd ((isA_iff m i i).1 e) (aheadM_irr m i)
theorem cnt_inj {m : Mult} {n i k : Nat} (hi : i < n) (hk : k < n) (h : cntA m i n = cntA m k n) : i = k := by
 by_cases e : i = k
 ·exact e
 ·rcases aheadM_tot m e with a | a
  ·have := cnt_lt hi a; omega
  ·have := cnt_lt hk a; omega
theorem cnt_small {m : Mult} {n i : Nat} (hi : i < n) : cntA m i n < n := by
 have : cntA m i n < (List.range n).countP fun _ => true := by
  unfold cntA
  refine countP_lt (fun _ _ _ => rfl) ⟨i, List.mem_range.2 hi, rfl, ?_⟩
  cases e : isA m i i with
  | false => rfl
  | true => exact absurd ((isA_iff m i i).1 e) (aheadM_irr m i)
 simpa using this
theorem len_sub {α : Type} [DecidableEq α] : ∀ (l r : List α), l.Nodup → (∀ x ∈ l, x ∈ r) → l.length ≤ r.length := by
  intro l
  induction l with
  | nil => intro r _ _; exact Nat.zero_le _
  | cons a t ih =>
    intro r hn hs
    have ha := hs a (by simp)
    have hn' := List.nodup_cons.1 hn
    have := ih (r.erase a) hn'.2 fun x hx => by
      have hne : x ≠ a := fun e => hn'.1 (e ▸ hx)
      exact (List.mem_erase_of_ne hne).2 (hs x (List.mem_cons_of_mem _ hx))
    rw [List.length_erase_of_mem ha] at this
    have hp : 0 < r.length := List.length_pos_of_mem ha
    simp only [List.length_cons]; omega
theorem nodup_map {n : Nat} {f : Nat → Nat} (hf : ∀ i k, i < n → k < n → f i = f k → i = k) : ∀ s, s ≤ n → ((List.range s).map f).Nodup := by
  intro s
  induction s with
  | zero => intro _; exact List.nodup_nil
  | succ s ih =>
    intro hs
    rw [List.range_succ, List.map_append, List.nodup_append]
    refine ⟨ih (by omega), by simp, ?_⟩
    intro a ha b hb e
    simp only [List.map_cons, List.map_nil, List.mem_singleton] at hb
    obtain ⟨i, hi, rfl⟩ := List.mem_map.1 ha
    have := List.mem_range.1 hi
    have := hf i s (by omega) (by omega) (by rw [e, hb])
    omega
theorem surj_of {n : Nat} {f : Nat → Nat} (h1 : ∀ i, i < n → f i < n) (hf : ∀ i k, i < n → k < n → f i = f k → i = k) {j : Nat} (hj : j < n) : ∃ i, i < n ∧ f i = j := by
 refine Classical.byContradiction fun hno => ?_
 have hno' : ∀ i, i < n → f i ≠ j := fun i hi e => hno ⟨i, hi, e⟩
 have hnd : (j :: (List.range n).map f).Nodup := by
  refine List.nodup_cons.2 ⟨fun hm => ?_, nodup_map hf n (Nat.le_refl _)⟩
  obtain ⟨i, hi, e⟩ := List.mem_map.1 hm
  exact hno' i (List.mem_range.1 hi) e
 have := len_sub _ (List.range n) hnd fun x hx => by
  rcases List.mem_cons.1 hx with rfl | hx
  ·exact List.mem_range.2 hj
  ·obtain ⟨i, hi, rfl⟩ := List.mem_map.1 hx
   exact List.mem_range.2 (h1 i (List.mem_range.1 hi))
 simp at this
 omega
theorem cnt_surj {m : Mult} {n j : Nat} (hj : j < n) : ∃ i, i < n ∧ cntA m i n = j := surj_of (f := fun i => cntA m i n) (fun i hi => cnt_small hi) (fun i k hi hk => cnt_inj hi hk) hj
def layS {α : Type} (f : Nat → Nat) (g : Nat → α) (o : List α) (i : Nat) : List α := o.set (f i) (g i)
def layN {α : Type} (f : Nat → Nat) (g : Nat → α) (z : List α) (n : Nat) : List α := (List.range n).foldl (layS f g) z
theorem layN_succ {α : Type} (f : Nat → Nat) (g : Nat → α) (z : List α) (n : Nat) : layN f g z (n + 1) = (layN f g z n).set (f n) (g n) := by
 unfold layN; rw [List.range_succ, List.foldl_append]; rfl
theorem layN_len {α : Type} (f : Nat → Nat) (g : Nat → α) (z : List α) : ∀ n, (layN f g z n).length = z.length
 | 0 => rfl
 | n + 1 => by rw [layN_succ, List.length_set]; exact layN_len f g z n
theorem layN_at {α : Type} {f : Nat → Nat} {g : Nat → α} {z : List α} {N : Nat} (h1 : ∀ i, i < N → f i < z.length) (hf : ∀ i k, i < N → k < N → f i = f k → i = k) : ∀ n, n ≤ N → ∀ i, i < n → (layN f g z n)[f i]? = some (g i) := by
  intro n
  induction n with
  | zero => intro _ i hi; omega
  | succ n ih =>
    intro hn i hi
    rw [layN_succ]
    by_cases e : i = n
    · subst e; rw [List.getElem?_set_self (by rw [layN_len]; exact h1 i (by omega))]
    · rw [List.getElem?_set_ne (fun e2 => e (hf i n (by omega) (by omega) e2.symm))]
      exact ih (by omega) i (by omega)
theorem inOrder_lay (m : Mult) : inOrder m = layN (fun i => cntA m i m.length) (pAt m) (List.replicate m.length []) m.length := rfl
theorem inOrder_len (m : Mult) : (inOrder m).length = m.length := by rw [inOrder_lay, layN_len]; simp
theorem inOrder_at (m : Mult) {i : Nat} (hi : i < m.length) : (inOrder m)[cntA m i m.length]? = some (pAt m i) := by
 rw [inOrder_lay]
 exact layN_at (N := m.length) (fun i h => by simpa using cnt_small h) (fun i k h1 h2 => cnt_inj h1 h2) m.length (Nat.le_refl _) i hi
def mv (v p : Pnt) : Pnt := (p.1 + v.1, p.2 + v.2)
def Cut (a b : Pnt) (l : List Pnt) (x : Pnt) : Prop := x = a ∨ x = b ∨ (x ∈ l ∧ has a b x 1)
structure Cons (f : Pnt → Int) (C : Pnt → Prop) (x y : Pnt) : Prop where
 cx : C x
 cy : C y
 lt : f x < f y
 no : ∀ c, C c → ¬ (f x < f c ∧ f c < f y)
def cutG (f : Pnt → Int) (ok : Pnt → Prop) [DecidablePred ok] (from_ to p : Pnt) : Pnt := if ok p ∧ f from_ < f p ∧ f p < f to then p else to
theorem fold_near (f : Pnt → Int) (ok : Pnt → Prop) [DecidablePred ok] (x : Pnt) : ∀ (l : List Pnt) (t : Pnt), f x < f t →
    (l.foldl (cutG f ok x) t = t ∨ (l.foldl (cutG f ok x) t ∈ l ∧ ok (l.foldl (cutG f ok x) t))) ∧ f x < f (l.foldl (cutG f ok x) t) ∧ f (l.foldl (cutG f ok x) t) ≤ f t ∧ ∀ c ∈ l, ok c → ¬ (f x < f c ∧ f c < f (l.foldl (cutG f ok x) t)) := by
  intro l
  induction l with
  | nil => intro t h; exact ⟨.inl rfl, h, Int.le_refl _, by simp⟩
  | cons p l ih =>
    intro t h
    rw [List.foldl_cons]
    by_cases k : ok p ∧ f x < f p ∧ f p < f t
    · rw [show cutG f ok x t p = p from if_pos k]
      obtain ⟨h1, h2, h3, h4⟩ := ih p k.2.1
      refine ⟨?_, h2, by omega, ?_⟩
      · rcases h1 with e | ⟨e1, e2⟩
        · rw [e]; exact .inr ⟨by simp, k.1⟩
        · exact .inr ⟨by simp [e1], e2⟩
      · intro c hc hok
        rcases List.mem_cons.1 hc with rfl | hc
        · omega
        · exact h4 c hc hok
    · rw [show cutG f ok x t p = t from if_neg k]
      obtain ⟨h1, h2, h3, h4⟩ := ih t h
      refine ⟨?_, h2, h3, ?_⟩
      · rcases h1 with e | ⟨e1, e2⟩
        · exact .inl e
        · exact .inr ⟨by simp [e1], e2⟩
      · intro c hc hok
        rcases List.mem_cons.1 hc with rfl | hc
        · intro ⟨q1, q2⟩; exact k ⟨hok, q1, by omega⟩
        · exact h4 c hc hok
def midG (f : Pnt → Int) (ok : Pnt → Prop) [DecidablePred ok] (l : List Pnt) (b : Pnt) : Nat → Pnt → List Spot
 | 0, _ => []
 | n + 1, x => if x = b then [] else midOf x (l.foldl (cutG f ok x) b) :: midG f ok l b n (l.foldl (cutG f ok x) b)
def fuel (f : Pnt → Int) (l : List Pnt) (b x : Pnt) : Nat := if x = b then 0 else 1 + l.countP fun p => decide (f x < f p)
theorem fuel_step {f : Pnt → Int} {ok : Pnt → Prop} [DecidablePred ok] {l : List Pnt} {b x : Pnt} (hx : x ≠ b) (h : f x < f b) : fuel f l b (l.foldl (cutG f ok x) b) < fuel f l b x := by
 obtain ⟨h1, h2, -, -⟩ := fold_near f ok x l b h
 unfold fuel
 rw [if_neg hx]
 split
 ·omega
 ·rename_i g
  rcases h1 with e | ⟨e1, e2⟩
  ·exact absurd e g
  ·generalize l.foldl (cutG f ok x) b = y at *
   obtain ⟨l1, l2, e⟩ := List.append_of_mem e1
   have mono : ∀ l : List Pnt, l.countP (fun p => decide (f y < f p)) ≤ l.countP (fun p => decide (f x < f p)) := by
    intro l
    apply List.countP_mono_left
    intro z _ hz
    have := of_decide_eq_true hz
    exact decide_eq_true (by omega)
   have m1 := mono l1
   have m2 := mono l2
   rw [e, List.countP_append, List.countP_append, List.countP_cons, List.countP_cons]
   simp [h2]
   omega
theorem mem_midG {f : Pnt → Int} {C ok : Pnt → Prop} [DecidablePred ok] {l : List Pnt} {a b : Pnt} (hC : ∀ x, C x ↔ x = a ∨ x = b ∨ (x ∈ l ∧ ok x)) (inj : ∀ x y, C x → C y → f x = f y → x = y) (top : ∀ x, C x → f x ≤ f b) :
    ∀ (n : Nat) (x : Pnt), C x → fuel f l b x ≤ n → f a ≤ f x → ∀ m, m ∈ midG f ok l b n x ↔ ∃ y z, Cons f C y z ∧ f x ≤ f y ∧ m = midOf y z := by
  intro n
  induction n with
  | zero =>
    intro x hx hn ha m
    have : x = b := by unfold fuel at hn; split at hn <;> first | assumption | omega
    subst this
    constructor
    · intro h; cases h
    · rintro ⟨y, z, hc, h1, -⟩
      have := top z hc.cy
      have := hc.lt
      omega
  | succ n ih =>
    intro x hx hn ha m
    unfold midG
    by_cases hb : x = b
    · rw [if_pos hb]
      constructor
      · intro h; cases h
      · rintro ⟨y, z, hc, h1, -⟩
        have := top z hc.cy
        have := hc.lt
        rw [hb] at h1
        omega
    · rw [if_neg hb]
      have hlt : f x < f b := by
        have := top x hx
        rcases Int.lt_or_eq_of_le this with h | h
        · exact h
        · exact absurd (inj x b hx ((hC b).2 (.inr (.inl rfl))) h) hb
      have hf := fuel_step (ok := ok) (l := l) hb hlt
      obtain ⟨h1, h2, h3, h4⟩ := fold_near f ok x l b hlt
      generalize hy : l.foldl (cutG f ok x) b = y at *
      have cy : C y := by
        rw [hC]
        rcases h1 with e | ⟨e1, e2⟩
        · exact .inr (.inl e)
        · exact .inr (.inr ⟨e1, e2⟩)
      have hno : ∀ c, C c → ¬ (f x < f c ∧ f c < f y) := by
        intro c hc
        rcases (hC c).1 hc with rfl | rfl | ⟨e1, e2⟩
        · omega
        · omega
        · exact h4 c e1 e2
      have key := ih y cy (by omega) (by omega) m
      rw [List.mem_cons, key]
      constructor
      · rintro (rfl | ⟨u, v, hc, k1, k2⟩)
        · exact ⟨x, y, ⟨hx, cy, h2, hno⟩, Int.le_refl _, rfl⟩
        · exact ⟨u, v, hc, by omega, k2⟩
      · rintro ⟨u, v, hc, k1, k2⟩
        by_cases hu : f y ≤ f u
        · exact .inr ⟨u, v, hc, hu, k2⟩
        · left
          have e1 : u = x := by
            refine inj u x hc.cx hx ?_
            have := hno u hc.cx
            omega
          subst e1
          have e2 : v = y := by
            refine inj v y hc.cy cy ?_
            have g1 := hno v hc.cy
            have g2 := hc.no y cy
            have g3 := hc.lt
            omega
          rw [k2, e2]
theorem has_a (a b : Pnt) : has a b a 1 := ⟨cr_a a b, by unfold btw; omega, by unfold btw; omega⟩
theorem has_b (a b : Pnt) : has a b b 1 := ⟨cr_b a b, by unfold btw; omega, by unfold btw; omega⟩
theorem cut_has {a b : Pnt} {l : List Pnt} {x : Pnt} (h : Cut a b l x) : has a b x 1 := by
 rcases h with rfl | rfl | h
 ·exact has_a _ _
 ·exact has_b _ _
 ·exact h.2
theorem pos_le {a b x : Pnt} (hab : a ≠ b) (h : has a b x 1) : 0 ≤ pos a b x ∧ pos a b x ≤ kk a b := by
 have := (has_on hab (by omega)).1 h
 exact ⟨this.2.1, by have := this.2.2; unfold pos; omega⟩
theorem pos_inj {a b x y : Pnt} (hab : a ≠ b) (hx : cr a b x 1 = 0) (hy : cr a b y 1 = 0) (e : pos a b x = pos a b y) : x = y := by
 have hk := kk_pos hab
 have e1 : (pos a b y - pos a b x) * (b.1 - a.1) = (y.1 - x.1) * kk a b := by unfold cr at hx hy; unfold pos dt kk; grind
 have e2 : (pos a b y - pos a b x) * (b.2 - a.2) = (y.2 - x.2) * kk a b := by unfold cr at hx hy; unfold pos dt kk; grind
 rw [e, Int.sub_self, Int.zero_mul] at e1 e2
 have z : ∀ t : Int, 0 = t * kk a b → t = 0 := by
  intro t h
  rcases Int.mul_eq_zero.1 h.symm with h | h
  ·exact h
  ·omega
 have := z _ e1
 have := z _ e2
 exact Prod.ext (by omega) (by omega)
theorem midG_pos {a b : Pnt} (hab : a ≠ b) (l : List Pnt) {n : Nat} (hn : l.length + 1 ≤ n) (m : Spot) :
    m ∈ midG (pos a b) (fun x => has a b x 1) l b n a ↔ ∃ y z, Cons (pos a b) (Cut a b l) y z ∧ m = midOf y z := by
  have hk := kk_pos hab
  have := mem_midG (f := pos a b) (C := Cut a b l) (ok := fun x => has a b x 1) (l := l) (a := a) (b := b) (fun x => Iff.rfl)
    (fun x y hx hy e => pos_inj hab (cut_has hx).1 (cut_has hy).1 e) (fun x hx => by rw [pos_b]; exact (pos_le hab (cut_has hx)).2) n a (.inl rfl)
    (by unfold fuel; split
        · omega
        · have := List.countP_le_length (p := fun p => decide (pos a b a < pos a b p)) (l := l); omega) (Int.le_refl _) m
  rw [this]
  constructor
  · rintro ⟨y, z, hc, -, e⟩; exact ⟨y, z, hc, e⟩
  · rintro ⟨y, z, hc, e⟩; exact ⟨y, z, hc, by rw [pos_a]; exact (pos_le hab (cut_has hc.cx)).1, e⟩
end Vd
end Go.Proofs.YtcclepohmhdpbabGreatDoor
