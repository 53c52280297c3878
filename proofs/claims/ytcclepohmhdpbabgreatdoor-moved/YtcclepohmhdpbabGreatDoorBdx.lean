import Derived.Test.YtcclepohmhdpbabGreatDoorGfA
import Derived.Test.YtcclepohmhdpbabGreatDoorCfA
import Derived.Test.YtcclepohmhdpbabGreatDoorVdG
namespace Go.Proofs.YtcclepohmhdpbabGreatDoor
set_option linter.all false
namespace Vd
theorem mv_zero (p : Pnt) : mv (0, 0) p = p := by unfold mv; simp
theorem mvR_zero (r : Ring) : mvR (0, 0) r = r := by unfold mvR; rw [List.map_congr_left fun p _ => mv_zero p]; simp
theorem mvL_zero (l : Poly) : mvL (0, 0) l = l := by unfold mvL; rw [List.map_congr_left fun p _ => mvR_zero p]; simp
theorem mvM_zero (m : Mult) : mvM (0, 0) m = m := by unfold mvM; rw [List.map_congr_left fun p _ => mvL_zero p]; simp
theorem nR_mv (v : Pnt) (m : Mult) : Pl.nR (mvM v m) = Pl.nR m := by
  unfold Pl.nR mvM
  rw [List.map_map]
  congr 1
  apply List.map_congr_left
  intro l _
  show (mvL v l).length = l.length
  exact mvL_len v l
theorem nPl_mv (v : Pnt) (l : Poly) : Pl.nPl (mvL v l) = Pl.nPl l := by
  unfold Pl.nPl mvL
  rw [List.map_map]
  congr 1
  apply List.map_congr_left
  intro r _
  show (mvR v r).length = r.length
  exact mvR_len v r
theorem nP_mv (v : Pnt) (m : Mult) : Pl.nP (mvM v m) = Pl.nP m := by
  unfold Pl.nP mvM
  rw [List.map_map]
  congr 1
  apply List.map_congr_left
  intro l _
  exact nPl_mv v l
theorem many_mv (v : Pnt) (m : Mult) : Pl.many (mvM v m) = Pl.many m := by unfold Pl.many; rw [mvM_len, nR_mv, nP_mv]
theorem bd_mv {m : Mult} (h : Pl.Bd m) (v : Pnt) : Pl.Bd (mvM v m) := by
  refine ⟨by rw [mvM_len]; exact h.len, ?_, ?_⟩
  · intro l hl
    obtain ⟨l0, h0, rfl⟩ := List.mem_map.1 hl
    rw [mvL_len]; exact h.poly l0 h0
  · intro l hl r hr
    obtain ⟨l0, h0, rfl⟩ := List.mem_map.1 hl
    obtain ⟨r0, h1, rfl⟩ := List.mem_map.1 hr
    rw [mvR_len]; exact h.ring l0 h0 r0 h1
theorem badR_mv (v : Pnt) (r : Ring) : Pl.badR (mvR v r) = Pl.badR r := by
  unfold Pl.badR
  rw [mvR_len]
  congr 2
  apply decide_eq_decide.2
  unfold mvR
  rw [List.head?_map, List.getLast?_map]
  constructor
  · intro h
    cases h1 : r.head? with
    | none => rw [h1] at h; cases h2 : r.getLast? with | none => rfl | some y => rw [h2] at h; cases h
    | some x =>
      rw [h1] at h
      cases h2 : r.getLast? with
      | none => rw [h2] at h; cases h
      | some y => rw [h2] at h; simp only [Option.map_some, Option.some.injEq] at h; rw [mv_inj.1 h]
  · intro h; rw [h]
theorem badL_mv (v : Pnt) (l : Poly) : Pl.badL (mvL v l) = Pl.badL l := by
  unfold Pl.badL Pl.badRs mvL
  rw [List.isEmpty_map, any_map']
  congr 2
  funext r
  exact badR_mv v r
theorem anyB_mv (v : Pnt) (m : Mult) : (mvM v m).any Pl.badL = m.any Pl.badL := by
  unfold mvM
  rw [any_map']
  congr 1
  funext l
  exact badL_mv v l
theorem wrong_mv {m : Mult} (h : Pl.wrong m = 0) (v : Pnt) : Pl.wrong (mvM v m) = 0 ∨ Pl.wrong (mvM v m) = 4 := by
  have h1 : Pl.many m = false ∧ m.any Pl.badL = false := by
    unfold Pl.wrong at h
    cases h1 : Pl.many m <;> cases h2 : m.any Pl.badL <;> simp_all
  unfold Pl.wrong
  rw [many_mv, anyB_mv, h1.1, h1.2]
  simp only [Bool.false_eq_true, if_false]
  split
  · exact .inr rfl
  · exact .inl rfl
theorem form_wrong {m : Mult} (h0 : Pl.wrong m = 0) (hl : least m = 0) : Pl.wrong (form m) = 0 := by
  have hv := vr_of (good_of h0) (least0 hl).1
  rw [form_eq hv]
  exact canon_wrong h0 hv
end Vd
end Go.Proofs.YtcclepohmhdpbabGreatDoor

namespace Go.Proofs.YtcclepohmhdpbabGreatDoor
set_option linter.all false
namespace Bn
def bigA (a : Nat) : List UInt8 → Nat
  | [] => a
  | c :: t => bigA (a * 256 + c.toNat) t
def big (l : List UInt8) : Nat := bigA 0 l
def ord (lit : Bool) (l : List UInt8) : List UInt8 := if lit = true then l.reverse else l
def num (lit : Bool) (l : List UInt8) : Nat := big (ord lit l)
theorem bigA_append (a : Nat) (x y : List UInt8) : bigA a (x ++ y) = bigA (bigA a x) y := by
  induction x generalizing a with
  | nil => rfl
  | cons c t ih => simp only [List.cons_append, bigA]; exact ih _
theorem bigA_eq (a : Nat) (l : List UInt8) : bigA a l = a * 256 ^ l.length + big l := by
  induction l generalizing a with
  | nil => simp [bigA, big]
  | cons c t ih =>
    have h1 : big (c :: t) = bigA (0 * 256 + c.toNat) t := rfl
    rw [h1, bigA, ih, ih (0 * 256 + c.toNat), List.length_cons, Nat.pow_succ]
    simp only [Nat.zero_mul, Nat.zero_add, Nat.add_mul]
    rw [Nat.mul_comm (256 ^ t.length) 256, ← Nat.mul_assoc, Nat.add_assoc]
theorem big_append (x y : List UInt8) : big (x ++ y) = big x * 256 ^ y.length + big y := by
  unfold big
  rw [bigA_append, bigA_eq]; rfl
theorem big_one (c : UInt8) : big [c] = c.toNat := by simp [big, bigA]
theorem big_snoc (x : List UInt8) (c : UInt8) : big (x ++ [c]) = big x * 256 + c.toNat := by
  rw [big_append, big_one]; rfl
theorem big_lt (l : List UInt8) : big l < 256 ^ l.length := by
  induction l with
  | nil => simp [big, bigA]
  | cons c t ih =>
    have h : big (c :: t) = big ([c] ++ t) := rfl
    rw [h, big_append, big_one, List.length_cons, Nat.pow_succ]
    have h1 := c.toNat_lt
    have h2 : c.toNat * 256 ^ t.length ≤ 255 * 256 ^ t.length := Nat.mul_le_mul_right _ (by omega)
    omega
theorem ord_length (lit : Bool) (l : List UInt8) : (ord lit l).length = l.length := by unfold ord; split <;> simp
theorem num_lt (lit : Bool) (l : List UInt8) : num lit l < 256 ^ l.length := by
  have := big_lt (ord lit l)
  rwa [ord_length] at this
theorem num_lt4 {lit : Bool} {l : List UInt8} (h : l.length = 4) : num lit l < 4294967296 := by
  have := num_lt lit l
  rw [h] at this
  exact this
theorem num_lt8 {lit : Bool} {l : List UInt8} (h : l.length = 8) : num lit l < 18446744073709551616 := by
  have := num_lt lit l
  rw [h] at this
  exact this
def cut (n : Nat) (lit : Bool) (l : List UInt8) : Option (Nat × List UInt8) := if l.length < n then none else some (num lit (l.take n), l.drop n)
theorem cut_none {n : Nat} {lit : Bool} {l : List UInt8} (h : l.length < n) : cut n lit l = none := by unfold cut; rw [if_pos h]
theorem cut_some {n : Nat} {lit : Bool} {l : List UInt8} (h : ¬ l.length < n) : cut n lit l = some (num lit (l.take n), l.drop n) := by unfold cut; rw [if_neg h]
def units (bits : Nat) : Option Int :=
  if bits = 0 then some 0
  else if bits / 4503599627370496 % 2048 < 1019 ∨ 1071 < bits / 4503599627370496 % 2048 then none
  else if (bits % 4503599627370496 + 4503599627370496) % 2 ^ (1071 - bits / 4503599627370496 % 2048) ≠ 0 ∨ 32768 < (bits % 4503599627370496 + 4503599627370496) / 2 ^ (1071 - bits / 4503599627370496 % 2048) then none
  else some (if 9223372036854775808 ≤ bits then -((bits % 4503599627370496 + 4503599627370496) / 2 ^ (1071 - bits / 4503599627370496 % 2048) : Nat) else ((bits % 4503599627370496 + 4503599627370496) / 2 ^ (1071 - bits / 4503599627370496 % 2048) : Nat))
def coord (bits : Nat) : Int := (units bits).getD 0
theorem units_le {bits : Nat} {k : Int} (h : units bits = some k) : -32768 ≤ k ∧ k ≤ 32768 := by
  unfold units at h
  split at h
  · simp at h; omega
  · split at h
    · simp at h
    · split at h
      · simp at h
      · rename_i h3
        generalize (bits % 4503599627370496 + 4503599627370496) / 2 ^ (1071 - bits / 4503599627370496 % 2048) = q at *
        have h4 : ¬ 32768 < q := fun e => h3 (.inr e)
        have := Option.some.inj h
        split at this <;> omega
theorem coord_le (bits : Nat) : -32768 ≤ coord bits ∧ coord bits ≤ 32768 := by
  unfold coord
  cases h : units bits with
  | none => simp
  | some k => exact units_le h
abbrev Res (α : Type) := Option (α × List UInt8 × Bool)
def point (lit : Bool) (l : List UInt8) (o : Bool) : Res Pnt :=
  if l.length < 16 then none else some ((coord (num lit (l.take 8)), coord (num lit ((l.drop 8).take 8))), l.drop 16, o || (units (num lit (l.take 8))).isNone || (units (num lit ((l.drop 8).take 8))).isNone)
def many {α : Type} (f : List UInt8 → Bool → Res α) : Nat → List UInt8 → Bool → Res (List α)
  | 0, l, o => some ([], l, o)
  | n + 1, l, o => (f l o).bind fun x => (many f n x.2.1 x.2.2).map fun y => (x.1 :: y.1, y.2)
def pre {α : Type} (acc : List α) (x : Res (List α)) : Res (List α) := x.map fun y => (acc ++ y.1, y.2)
theorem pre_nil {α : Type} (x : Res (List α)) : pre [] x = x := by cases x <;> simp [pre]
theorem many_none {α : Type} {f : List UInt8 → Bool → Res α} {n : Nat} {l : List UInt8} {o : Bool} (acc : List α) (h : f l o = none) : pre acc (many f (n + 1) l o) = none := by simp [many, h, pre]
theorem many_some {α : Type} {f : List UInt8 → Bool → Res α} {n : Nat} {l t : List UInt8} {o o' : Bool} {a : α} (acc : List α) (h : f l o = some (a, t, o')) : pre acc (many f (n + 1) l o) = pre (acc ++ [a]) (many f n t o') := by
  simp only [many, h, pre, Option.bind_some, Option.map_map]
  congr 1
  funext y
  simp
theorem many_zero {α : Type} {f : List UInt8 → Bool → Res α} (acc : List α) (l : List UInt8) (o : Bool) : pre acc (many f 0 l o) = some (acc, l, o) := by simp [many, pre]
def ring (lit : Bool) (l : List UInt8) (o : Bool) : Res Ring := (cut 4 lit l).bind fun x => many (point lit) x.1 x.2 o
def head (kind : Nat) (l : List UInt8) : Option (Bool × Nat × List UInt8) :=
  (cut 1 false l).bind fun x => if 1 < x.1 then none else (cut 4 (x.1 == 1) x.2).bind fun y => if y.1 ≠ kind then none else (cut 4 (x.1 == 1) y.2).bind fun z => some (x.1 == 1, z.1, z.2)
def poly (l : List UInt8) (o : Bool) : Res Poly := (head 3 l).bind fun x => many (ring x.1) x.2.1 x.2.2 o
def set (l : List UInt8) : Res Mult := (head 6 l).bind fun x => many poly x.2.1 x.2.2 false
def err (l : List UInt8) : Int := match set l with
  | none => 3
  | some x => if x.2.1 ≠ [] then 3 else if x.2.2 = true then 4 else 0
theorem cut_lt {n : Nat} {lit : Bool} {l t : List UInt8} {x : Nat} (h : cut n lit l = some (x, t)) : t.length + n = l.length := by
  unfold cut at h
  split at h
  · cases h
  · have := Option.some.inj h
    simp only [Prod.mk.injEq] at this
    rw [← this.2]; simp; omega
theorem point_lt {lit : Bool} {l t : List UInt8} {o o' : Bool} {a : Pnt} (h : point lit l o = some (a, t, o')) : t.length + 1 ≤ l.length := by
  unfold point at h
  split at h
  · cases h
  · have := Option.some.inj h
    simp only [Prod.mk.injEq] at this
    rw [← this.2.1]; simp; omega
theorem many_le {α : Type} {f : List UInt8 → Bool → Res α} {Q : α → Prop} (hf : ∀ l o a t o', f l o = some (a, t, o') → t.length + 1 ≤ l.length ∧ (l.length ≤ 6000 → Q a)) :
    ∀ (n : Nat) (l : List UInt8) (o : Bool) (r : List α) (t : List UInt8) (o' : Bool), many f n l o = some (r, t, o') → t.length + r.length ≤ l.length ∧ (l.length ≤ 6000 → ∀ a ∈ r, Q a)
  | 0, l, o, r, t, o', h => by
    simp only [many, Option.some.injEq, Prod.mk.injEq] at h
    obtain ⟨rfl, rfl, rfl⟩ := h
    simp
  | n + 1, l, o, r, t, o', h => by
    simp only [many] at h
    cases hx : f l o with
    | none => rw [hx] at h; simp at h
    | some x =>
      obtain ⟨a, t1, o1⟩ := x
      rw [hx] at h
      simp only [Option.bind_some, Option.map_eq_some_iff] at h
      obtain ⟨⟨r2, t2, o2⟩, h2, h3⟩ := h
      simp only [Prod.mk.injEq] at h3
      obtain ⟨rfl, rfl, rfl⟩ := h3
      have h4 := hf _ _ _ _ _ hx
      have h5 := many_le hf n t1 o1 r2 t2 o2 h2
      refine ⟨by simp; omega, fun hl b hb => ?_⟩
      rcases List.mem_cons.1 hb with rfl | hb
      · exact h4.2 hl
      · exact h5.2 (by omega) b hb
def okR (r : Ring) : Prop := r.length ≤ 6000 ∧ ∀ p ∈ r, (-32768 ≤ p.1 ∧ p.1 ≤ 32768) ∧ -32768 ≤ p.2 ∧ p.2 ≤ 32768
def okL (l : Poly) : Prop := l.length ≤ 6000 ∧ ∀ r ∈ l, okR r
def okM (m : Mult) : Prop := m.length ≤ 6000 ∧ ∀ l ∈ m, okL l
theorem ring_lt {lit : Bool} {l t : List UInt8} {o o' : Bool} {r : Ring} (h : ring lit l o = some (r, t, o')) : t.length + 1 ≤ l.length ∧ (l.length ≤ 6000 → okR r) := by
  unfold ring at h
  cases hx : cut 4 lit l with
  | none => rw [hx] at h; simp at h
  | some x =>
    obtain ⟨n, u⟩ := x
    rw [hx] at h
    simp only [Option.bind_some] at h
    have h1 := cut_lt hx
    have h2 := many_le (Q := fun p : Pnt => (-32768 ≤ p.1 ∧ p.1 ≤ 32768) ∧ -32768 ≤ p.2 ∧ p.2 ≤ 32768) (fun l o a t o' h => ⟨point_lt h, fun _ => by
      unfold point at h
      split at h
      · cases h
      · have := Option.some.inj h
        simp only [Prod.mk.injEq] at this
        rw [← this.1]
        exact ⟨coord_le _, coord_le _⟩⟩) n u o r t o' h
    exact ⟨by omega, fun hl => ⟨by omega, h2.2 (by omega)⟩⟩
theorem head_lt {kind n : Nat} {lit : Bool} {l t : List UInt8} (h : head kind l = some (lit, n, t)) : t.length + 9 = l.length := by
  unfold head at h
  cases hx : cut 1 false l with
  | none => rw [hx] at h; simp at h
  | some x =>
    rw [hx] at h
    simp only [Option.bind_some] at h
    split at h
    · cases h
    · cases hy : cut 4 (x.1 == 1) x.2 with
      | none => rw [hy] at h; simp at h
      | some y =>
        rw [hy] at h
        simp only [Option.bind_some] at h
        split at h
        · cases h
        · cases hz : cut 4 (x.1 == 1) y.2 with
          | none => rw [hz] at h; simp at h
          | some z =>
            rw [hz] at h
            simp only [Option.bind_some, Option.some.injEq, Prod.mk.injEq] at h
            have a1 := cut_lt hx
            have a2 := cut_lt hy
            have a3 := cut_lt hz
            rw [← h.2.2]
            omega
theorem poly_lt {l t : List UInt8} {o o' : Bool} {r : Poly} (h : poly l o = some (r, t, o')) : t.length + 1 ≤ l.length ∧ (l.length ≤ 6000 → okL r) := by
  unfold poly at h
  cases hx : head 3 l with
  | none => rw [hx] at h; simp at h
  | some x =>
    obtain ⟨lit, n, u⟩ := x
    rw [hx] at h
    simp only [Option.bind_some] at h
    have h1 := head_lt hx
    have h2 := many_le (Q := okR) (fun l o a t o' h => ring_lt h) n u o r t o' h
    exact ⟨by omega, fun hl => ⟨by omega, h2.2 (by omega)⟩⟩
theorem set_ok {l t : List UInt8} {o' : Bool} {r : Mult} (h : set l = some (r, t, o')) (hl : l.length ≤ 6000) : okM r := by
  unfold set at h
  cases hx : head 6 l with
  | none => rw [hx] at h; simp at h
  | some x =>
    obtain ⟨lit, n, u⟩ := x
    rw [hx] at h
    simp only [Option.bind_some] at h
    have h1 := head_lt hx
    have h2 := many_le (Q := okL) (fun l o a t o' h => poly_lt h) n u false r t o' h
    exact ⟨by omega, h2.2 (by omega)⟩
theorem okM.bd {m : Mult} (h : okM m) : Pl.Bd m := ⟨by have := h.1; omega, fun l hl => by have := (h.2 l hl).1; omega, fun l hl r hr => by have := ((h.2 l hl).2 r hr).1; omega⟩
end Bn
end Go.Proofs.YtcclepohmhdpbabGreatDoor

namespace Go.Proofs.YtcclepohmhdpbabGreatDoor
set_option linter.all false
namespace Bn
def low : Nat → Nat → List UInt8
  | 0, _ => []
  | n + 1, v => UInt8.ofNat (v % 256) :: low n (v / 256)
def put (lit : Bool) (n v : Nat) : List UInt8 := if lit = true then low n v else (low n v).reverse
def sh : Nat → Nat → Nat
  | 0, _ => 0
  | f + 1, k => if k < 4503599627370496 then sh f (2 * k) + 1 else 0
end Bn
end Go.Proofs.YtcclepohmhdpbabGreatDoor

namespace Go.Proofs.YtcclepohmhdpbabGreatDoor
set_option linter.all false
def Bdd (A : Int) (u : Pnt) : Prop := (-A ≤ u.1 ∧ u.1 ≤ A) ∧ -A ≤ u.2 ∧ u.2 ≤ A
end Go.Proofs.YtcclepohmhdpbabGreatDoor
