import Derived.Test.YtcclepohmhdpbabGreatDoorTuA
import Derived.Test.YtcclepohmhdpbabGreatDoorTxH
import Derived.Test.YtcclepohmhdpbabGreatDoorBdx
import Derived.Test.YtcclepohmhdpbabGreatDoorCnG
/- TEXTS, READ: the plain parser; coordinates on both sides. -/
namespace Go.Proofs.YtcclepohmhdpbabGreatDoor
set_option linter.all false
open Go.RowKit Go.Deep

theorem Tx.num3_le {l : List UInt8} {n : Nat} (hn : n ≤ l.length) : Tx.num3 l n ≤ l.length := by
  unfold Tx.num3
  split
  · rename_i h
    have h1 : n < l.length := Tx.lt_of_at (by omega)
    have h2 := Tx.sgn_le true l (n + 1) (by omega)
    have h3 := Tx.lead_le (l.drop (n + 1 + Tx.sgn true l (n + 1)))
    rw [List.length_drop] at h3
    split <;> omega
  · exact hn
theorem Tx.num_le (p : Bool) (l : List UInt8) : Tx.num p l ≤ l.length := by
  unfold Tx.num Tx.num1
  have h1 := Tx.sgn_le p l 0 (Nat.zero_le _)
  generalize Tx.sgn p l 0 = n at *
  have h2 := Tx.lead_le (l.drop n)
  rw [List.length_drop] at h2
  split
  · omega
  · split
    · omega
    · unfold Tx.num2
      split
      · rename_i h
        have h3 : n + Tx.lead (l.drop n) < l.length := Tx.lt_of_at (by omega)
        have h4 := Tx.lead_le (l.drop (n + Tx.lead (l.drop n) + 1))
        rw [List.length_drop] at h4
        split
        · omega
        · exact Tx.num3_le (by omega)
      · exact Tx.num3_le (by omega)

namespace Wt
open Bn (Res)
/-- The number that a text says, in units; nought, if it may not be. -/
def cv (s : List UInt8) : Int := match Du.units s with
  | some k => if (Tx.at_ s 0 == 45) = true then -(k : Int) else k
  | none => 0
/-- What a number's units are, and whether they may be. -/
theorem unitsV_eq (s : List UInt8) : unitsV (Tx.at_ s 0 == 45) (Du.units s) = .tuple #[.int .i64 (cv s), .bool (!(Du.units s).isNone)] := by
  unfold cv
  cases Du.units s <;> rfl
def coord (p : Bool) (l : List UInt8) (o : Bool) : Res Int :=
  if Tx.num p (Tx.bare l) = 0 then none else some (cv ((Tx.bare l).take (Tx.num p (Tx.bare l))), (Tx.bare l).drop (Tx.num p (Tx.bare l)), o || (Du.units ((Tx.bare l).take (Tx.num p (Tx.bare l)))).isNone)
theorem coord_none {p : Bool} {l : List UInt8} {o : Bool} (h : Tx.num p (Tx.bare l) = 0) : coord p l o = none := by unfold coord; rw [if_pos h]
theorem coord_some {p : Bool} {l : List UInt8} {o : Bool} (h : ¬ Tx.num p (Tx.bare l) = 0) : coord p l o = some (cv ((Tx.bare l).take (Tx.num p (Tx.bare l))), (Tx.bare l).drop (Tx.num p (Tx.bare l)), o || (Du.units ((Tx.bare l).take (Tx.num p (Tx.bare l)))).isNone) := by unfold coord; rw [if_neg h]
/-- A blank stands next. -/
def gap (l : List UInt8) : Bool := Tx.blank (Tx.at_ l 0)
def point (l : List UInt8) (o : Bool) : Res Pnt :=
  (coord true l o).bind fun x => if gap x.2.1 = false then none else (coord true x.2.1 x.2.2).map fun y => ((x.1, y.1), y.2)
/-- One at the least, commas between, up to a bracket. -/
def items {α : Type} (f : List UInt8 → Bool → Res α) : Nat → List UInt8 → Bool → Res (List α)
  | 0, _, _ => none
  | k + 1, l, o => (f l o).bind fun x =>
    if Tx.pre [44] (Tx.bare x.2.1) = true then (items f k (Tx.aft [44] (Tx.bare x.2.1)) x.2.2).map fun y => (x.1 :: y.1, y.2)
    else if Tx.pre [41] (Tx.bare x.2.1) = true then some ([x.1], Tx.aft [41] (Tx.bare x.2.1), x.2.2) else none
def list {α : Type} (f : List UInt8 → Bool → Res α) (l : List UInt8) (o : Bool) : Res (List α) :=
  if Tx.pre [40] (Tx.bare l) = true then items f ((Tx.bare l).length + 1) (Tx.aft [40] (Tx.bare l)) o else none
def ring := list point
def poly := list ring
def polys := list poly
end Wt

end Go.Proofs.YtcclepohmhdpbabGreatDoor

/- TEXTS, READ: steps of the plain parser. -/
namespace Go.Proofs.YtcclepohmhdpbabGreatDoor
set_option linter.all false
open Go.RowKit Go.Deep

def lenS : Value → Nat
  | .slice _ n _ => n
  | _ => 0

namespace Wt
open Bn (Res)
theorem coord_lt {p : Bool} {l t : List UInt8} {o o' : Bool} {x : Int} (h : coord p l o = some (x, t, o')) : t.length + 1 ≤ l.length := by
  unfold coord at h
  split at h
  · cases h
  · rename_i h0
    have := Option.some.inj h
    simp only [Prod.mk.injEq] at this
    have h1 := Tx.num_le p (Tx.bare l)
    have h2 := Tx.bare_le l
    rw [← this.2.1, List.length_drop]
    omega
theorem point_of {l l1 l3 : List UInt8} {o o1 o3 bad b1 b3 : Bool} {x y : Int} (h1 : (if bad = true then none else coord true l o) = (if b1 = true then none else some (x, l1, o1))) (h2 : (if (b1 || !gap l1) = true then none else coord true l1 o1) = (if b3 = true then none else some (y, l3, o3))) :
    (if bad = true then none else point l o) = (if b3 = true then none else some ((x, y), l3, o3)) ∧ (b3 = false → l3.length + 1 ≤ l.length) := by
  cases bad
  · simp only [Bool.false_eq_true, if_false] at h1 ⊢
    unfold point
    rw [h1]
    cases b1
    · simp only [Bool.false_eq_true, if_false, Option.bind_some, Bool.false_or] at h2 ⊢
      have hl1 := coord_lt h1
      cases hg : gap l1
      · rw [hg] at h2
        simp at h2
        cases b3
        · simp at h2
        · simp
      · rw [hg] at h2
        simp at h2
        rw [h2]
        cases b3
        · refine ⟨by simp, fun _ => ?_⟩
          have := coord_lt (h2.trans (by rfl))
          omega
        · simp
    · simp at h2
      cases b3
      · simp at h2
      · simp
  · simp only [if_true] at h1 ⊢
    cases b1
    · simp at h1
    · simp at h2
      cases b3
      · simp at h2
      · simp
/-- One item more. -/
theorem go_on {α : Type} {f : List UInt8 → Bool → Res α} {T : Res (List α)} {acc : List α} {k : Nat} {l t : List UInt8} {o o' bad b : Bool} {a : α} (hT : T = if bad = true then none else Bn.pre acc (items f (k + 1) l o)) (hf : (if bad = true then none else f l o) = if b = true then none else some (a, t, o')) :
    ((!b && Tx.pre [44] (Tx.bare t)) = true → T = Bn.pre (acc ++ [a]) (items f k (Tx.aft [44] (Tx.bare t)) o')) ∧ ((!b && Tx.pre [44] (Tx.bare t)) = false → T = if (b || !Tx.pre [41] (Tx.bare t)) = true then none else some (acc ++ [a], Tx.aft [41] (Tx.bare t), o')) := by
  cases bad
  · simp only [Bool.false_eq_true, if_false] at hT hf
    cases b
    · simp only [Bool.false_eq_true, if_false] at hf
      constructor
      · intro h
        simp at h
        rw [hT]
        simp only [items, hf, Option.bind_some, h, if_true, Bn.pre, Option.map_map]
        congr 1
        funext y
        simp
      · intro h
        simp at h
        rw [hT]
        simp only [items, hf, Option.bind_some, h, Bool.false_eq_true, if_false, Bool.false_or]
        cases h2 : Tx.pre [41] (Tx.bare t)
        · simp [Bn.pre]
        · simp [Bn.pre]
    · simp at hf
      constructor
      · intro h; simp at h
      · intro _
        rw [hT]
        simp [items, hf, Bn.pre]
  · simp only [if_true] at hT hf
    cases b
    · simp at hf
    · constructor
      · intro h; simp at h
      · intro _; rw [hT]; simp
theorem begin_ {α : Type} (f : List UInt8 → Bool → Res α) (l : List UInt8) (o bad : Bool) : (if bad = true then none else list f l o) = if (bad || !Tx.pre [40] (Tx.bare l)) = true then none else Bn.pre [] (items f ((Tx.bare l).length + 1) (Tx.aft [40] (Tx.bare l)) o) := by
  cases bad
  · unfold list
    cases Tx.pre [40] (Tx.bare l)
    · simp
    · simp [Bn.pre_nil]
  · simp
theorem aft_len {c : UInt8} {l : List UInt8} (h : Tx.pre [c] l = true) : (Tx.aft [c] l).length + 1 ≤ l.length := by
  rw [Tx.aft_t h, List.length_drop]
  cases l with
  | nil => simp [Tx.pre] at h
  | cons a t => simp
/-- A list that is read takes some bytes. -/
theorem items_lt {α : Type} {f : List UInt8 → Bool → Res α} {Q : α → Prop} (hf : ∀ l o a t o', f l o = some (a, t, o') → t.length + 1 ≤ l.length ∧ (l.length ≤ 6000 → Q a)) :
    ∀ (k : Nat) (l : List UInt8) (o : Bool) (r : List α) (t : List UInt8) (o' : Bool), items f k l o = some (r, t, o') → t.length + r.length ≤ l.length ∧ (l.length ≤ 6000 → ∀ a ∈ r, Q a) ∧ 0 < r.length
  | 0, l, o, r, t, o', h => by simp [items] at h
  | k + 1, l, o, r, t, o', h => by
    simp only [items] at h
    cases hx : f l o with
    | none => rw [hx] at h; simp at h
    | some x =>
      obtain ⟨a, t1, o1⟩ := x
      have h4 := hf _ _ _ _ _ hx
      have hb := Tx.bare_le t1
      rw [hx] at h
      simp only [Option.bind_some] at h
      split at h
      · rename_i hc
        simp only [Option.map_eq_some_iff] at h
        obtain ⟨⟨r2, t2, o2⟩, h2, h3⟩ := h
        simp only [Prod.mk.injEq] at h3
        obtain ⟨rfl, rfl, rfl⟩ := h3
        have h5 := items_lt hf k _ o1 r2 t2 o2 h2
        have h6 := aft_len hc
        refine ⟨by simp; omega, fun hl b hb' => ?_, by simp⟩
        rcases List.mem_cons.1 hb' with rfl | hb'
        · exact h4.2 hl
        · exact h5.2.1 (by omega) b hb'
      · split at h
        · rename_i hc
          simp only [Option.some.injEq, Prod.mk.injEq] at h
          obtain ⟨rfl, rfl, rfl⟩ := h
          have h6 := aft_len hc
          refine ⟨by simp; omega, fun hl b hb' => ?_, by simp⟩
          simp at hb'
          rw [hb']
          exact h4.2 hl
        · cases h
theorem list_lt {α : Type} {f : List UInt8 → Bool → Res α} {Q : α → Prop} (hf : ∀ l o a t o', f l o = some (a, t, o') → t.length + 1 ≤ l.length ∧ (l.length ≤ 6000 → Q a)) {l t : List UInt8} {o o' : Bool} {r : List α} (h : list f l o = some (r, t, o')) : t.length + 1 ≤ l.length ∧ (l.length ≤ 6000 → r.length ≤ 6000 ∧ ∀ a ∈ r, Q a) := by
  unfold list at h
  split at h
  · rename_i hc
    have h1 := items_lt hf _ _ _ _ _ _ h
    have h2 := Tx.aft_le [40] (Tx.bare l)
    have h3 := Tx.bare_le l
    exact ⟨by omega, fun hl => ⟨by omega, h1.2.1 (by omega)⟩⟩
  · cases h
theorem cv_le (s : List UInt8) : -32768 ≤ cv s ∧ cv s ≤ 32768 := by
  unfold cv
  cases h : Du.units s with
  | none => simp
  | some k =>
    have : k ≤ 32768 := by
      unfold Du.units at h
      cases h2 : Du.sumD (Du.place (Du.scan s [] (-1))) (Du.scan s [] (-1)).1 0 0 with
      | none => rw [h2] at h; simp at h
      | some v =>
        rw [h2] at h
        simp only [Option.bind_some, Du.fin] at h
        split at h
        · cases h
        · have := Option.some.inj h; omega
    simp only
    split <;> omega
theorem point_lt {l t : List UInt8} {o o' : Bool} {a : Pnt} (h : point l o = some (a, t, o')) : t.length + 1 ≤ l.length ∧ (l.length ≤ 6000 → (-32768 ≤ a.1 ∧ a.1 ≤ 32768) ∧ -32768 ≤ a.2 ∧ a.2 ≤ 32768) := by
  unfold point at h
  cases hx : coord true l o with
  | none => rw [hx] at h; simp at h
  | some x =>
    obtain ⟨x1, l1, o1⟩ := x
    rw [hx] at h
    simp only [Option.bind_some] at h
    split at h
    · cases h
    · simp only [Option.map_eq_some_iff] at h
      obtain ⟨⟨y, t2, o2⟩, h2, h3⟩ := h
      simp only [Prod.mk.injEq] at h3
      obtain ⟨rfl, rfl, rfl⟩ := h3
      have a1 := coord_lt hx
      have a2 := coord_lt h2
      have cx : x1 = cv ((Tx.bare l).take (Tx.num true (Tx.bare l))) := by
        unfold coord at hx
        split at hx
        · cases hx
        · have := Option.some.inj hx; simp only [Prod.mk.injEq] at this; exact this.1.symm
      have cy : y = cv ((Tx.bare l1).take (Tx.num true (Tx.bare l1))) := by
        unfold coord at h2
        split at h2
        · cases h2
        · have := Option.some.inj h2; simp only [Prod.mk.injEq] at this; exact this.1.symm
      refine ⟨by omega, fun _ => ⟨?_, ?_⟩⟩
      · rw [cx]; exact cv_le _
      · rw [cy]; exact cv_le _
theorem ring_lt {l t : List UInt8} {o o' : Bool} {r : Ring} (h : ring l o = some (r, t, o')) : t.length + 1 ≤ l.length ∧ (l.length ≤ 6000 → Bn.okR r) := list_lt (fun _ _ _ _ _ h => point_lt h) h
theorem poly_lt {l t : List UInt8} {o o' : Bool} {r : Poly} (h : poly l o = some (r, t, o')) : t.length + 1 ≤ l.length ∧ (l.length ≤ 6000 → Bn.okL r) := list_lt (fun _ _ _ _ _ h => ring_lt h) h
theorem polys_lt {l t : List UInt8} {o o' : Bool} {r : Mult} (h : polys l o = some (r, t, o')) : t.length + 1 ≤ l.length ∧ (l.length ≤ 6000 → Bn.okM r) := list_lt (fun _ _ _ _ _ h => poly_lt h) h
end Wt
end Go.Proofs.YtcclepohmhdpbabGreatDoor

/- THE PROGRAM's READER OF TEXTS: what a list needs, numbers. -/
namespace Go.Proofs.YtcclepohmhdpbabGreatDoor
set_option linter.all false
open Go.RowKit Go.Deep

namespace Tx
theorem bare_bare (l : List UInt8) : bare (bare l) = bare l := by
  induction l with
  | nil => rfl
  | cons c t ih =>
    rw [bare_cons]
    split
    · exact ih
    · rename_i h
      rw [bare_cons, if_neg h]
theorem bare_gap (l : List UInt8) : (l.length - (bare l).length = 0) ↔ Wt.gap l = false := by
  cases l with
  | nil => simp [bare, Wt.gap, at_, blank]
  | cons c t =>
    have e : Wt.gap (c :: t) = blank c.toNat := rfl
    rw [bare_cons, e]
    have := bare_le t
    cases blank c.toNat
    · simp
    · simp
      omega
end Tx

def NeedPost (k l : List UInt8) (bad off : Bool) (rb : Nat) (w : World) (e : Ending) (w' : World) : Prop :=
  e = .returned (.bool (!(bad || !Tx.pre k (Tx.bare l)))) ∧ RT w' rb (Tx.aft k (Tx.bare l)) (bad || !Tx.pre k (Tx.bare l)) off ∧ Fr (· = rb) w w'

set_option maxHeartbeats 1000000 in
theorem need_any (k l : List UInt8) (bad off : Bool) (rb : Nat) (w : World) (hr : RT w rb l bad off) (hl : l.length ≤ 6000) (hk : k.length ≤ 6000) :
    Calls Tryz.prog 85 #[.pointer (some ⟨rb, 0, none⟩), .string (bs k)] w (NeedPost k l bad off rb w) := by
  have HR := hide hr
  clear hr
  go_enter Tryz.func85, Tryz.ntmps85
  go_wp2_with fail
  refine (mark_any k l bad off rb _ HR.out hl hk).mono ?_
  rintro e w1 ⟨rfl, h1, u1⟩
  obtain ⟨P, hP⟩ : ∃ P, P = Tx.pre k (Tx.bare l) := ⟨_, rfl⟩
  have HPP := hide hP
  rw [← hP]
  obtain ⟨c0, c1, c2, f0, f1, f2⟩ := h1.facts
  replace h1 := hide h1
  replace u1 := hide u1
  clear hP c0 c2 f0 f2
  cases P
  · go_wp2
    go_ret
    unfold NeedPost
    rw [← HPP.out]
    refine ⟨by simp, ?_, u1.out.setCell (p := ⟨rb, 1, none⟩) rfl _⟩
    have := h1.out.bad true
    simpa using this
  · go_wp2
    go_ret
    unfold NeedPost
    rw [← HPP.out]
    exact ⟨by simp, by simpa using h1.out, u1.out⟩

def NextPost (l : List UInt8) (bad off : Bool) (rb : Nat) (w : World) (e : Ending) (w' : World) : Prop :=
  ∃ (l' : List UInt8) (bad' : Bool), e = .returned (.bool (!bad && Tx.pre [44] (Tx.bare l))) ∧ RT w' rb l' bad' off ∧ Fr (· = rb) w w' ∧ l'.length ≤ l.length ∧
    ((!bad && Tx.pre [44] (Tx.bare l)) = true → bad' = false ∧ l' = Tx.aft [44] (Tx.bare l)) ∧ ((!bad && Tx.pre [44] (Tx.bare l)) = false → bad' = (bad || !Tx.pre [41] (Tx.bare l)) ∧ (bad' = false → l' = Tx.aft [41] (Tx.bare l)))

set_option maxHeartbeats 1000000 in
theorem next_any (l : List UInt8) (bad off : Bool) (rb : Nat) (w : World) (hr : RT w rb l bad off) (hl : l.length ≤ 6000) :
    Calls Tryz.prog 78 #[.pointer (some ⟨rb, 0, none⟩), .string ⟨#[41]⟩] w (NextPost l bad off rb w) := by
  obtain ⟨c0, c1, c2, f0, f1, f2⟩ := hr.facts
  have HR := hide hr
  clear hr c0 c2 f0 f1 f2
  cases bad
  · have hle := Tx.bare_le l
    obtain ⟨P, hP⟩ : ∃ P, P = Tx.pre [44] (Tx.bare l) := ⟨_, rfl⟩
    have HPP := hide hP
    have HM := hide (mark_any [44] l false off rb w HR.out hl (by simp))
    rw [← hP] at HM
    clear hP
    cases P
    · have hbl : (Tx.bare l).length ≤ 6000 := by omega
      have HA : Hid (Tx.aft [44] (Tx.bare l) = Tx.bare l) := Tx.aft_f HPP.out.symm
      have HB := hide (Tx.bare_bare l)
      go_enter Tryz.func78, Tryz.ntmps78
      go_wp2_with fail
      refine HM.out.mono ?_
      rintro e w1 ⟨rfl, h1, u1⟩
      rw [HA.out] at h1
      replace h1 := hide h1
      replace u1 := hide u1
      go_wp2_with fail
      refine (need_any [41] (Tx.bare l) false off rb _ h1.out hbl (by simp)).mono ?_
      rintro e w2 ⟨rfl, h2, u2⟩
      rw [HB.out] at h2
      replace h2 := hide h2
      replace u2 := hide u2
      go_wp2
      go_ret
      unfold NextPost
      rw [← HPP.out]
      exact ⟨_, _, by simp, h2.out, u1.out.trans u2.out, Nat.le_trans (Tx.aft_le _ _) hle, by simp, fun _ => ⟨rfl, fun _ => rfl⟩⟩
    · go_enter Tryz.func78, Tryz.ntmps78
      go_wp2_with fail
      refine HM.out.mono ?_
      rintro e w1 ⟨rfl, h1, u1⟩
      replace h1 := hide h1
      replace u1 := hide u1
      go_wp2
      go_ret
      unfold NextPost
      rw [← HPP.out]
      exact ⟨_, _, by simp, h1.out, u1.out, Nat.le_trans (Tx.aft_le _ _) hle, fun _ => ⟨rfl, rfl⟩, by simp⟩
  · go_enter Tryz.func78, Tryz.ntmps78
    go_wp2
    go_ret
    unfold NextPost
    exact ⟨l, true, by simp, HR.out, Fr.refl _ _, Nat.le_refl _, by simp, by simp⟩

set_option maxHeartbeats 1000000 in
theorem number_bad (l : List UInt8) (bad off : Bool) (rb : Nat) (w : World) (hr : RT w rb l bad off) :
    Calls Tryz.prog 123 #[.pointer (some ⟨rb, 0, none⟩), .int .i64 0] w fun e w' => e = .returned (.string (bs [])) ∧ RT w' rb l true off ∧ Fr (· = rb) w w' := by
  obtain ⟨c0, c1, c2, f0, f1, f2⟩ := hr.facts
  have HR := hide hr
  clear hr c2 f0 f2
  go_enter Tryz.func123, Tryz.ntmps123
  go_wp2
  go_ret
  exact ⟨rfl, HR.out.bad true, (Fr.refl (· = rb) _).setCell (p := ⟨rb, 1, none⟩) rfl _⟩

set_option maxHeartbeats 1000000 in
theorem number_ok (l : List UInt8) (n : Nat) (bad off : Bool) (rb : Nat) (w : World) (hr : RT w rb l bad off) (hl : l.length ≤ 6000) (hn : 0 < n) (hnl : n ≤ l.length) :
    Calls Tryz.prog 123 #[.pointer (some ⟨rb, 0, none⟩), .int .i64 n] w fun e w' => e = .returned (.string (bs (l.take n))) ∧ RT w' rb (l.drop n) bad off ∧ Fr (· = rb) w w' := by
  obtain ⟨c0, c1, c2, f0, f1, f2⟩ := hr.facts
  obtain ⟨e0, e1, e2, e3, e4, e5⟩ := bs_tells l
  have HR := hide hr
  clear hr c2 f1 f2 e1 e4 e5
  go_enter Tryz.func123, Tryz.ntmps123
  go_wp2
  go_ret
  exact ⟨rfl, HR.out.rest _, (Fr.refl (· = rb) _).setCell (p := ⟨rb, 0, none⟩) rfl _⟩
end Go.Proofs.YtcclepohmhdpbabGreatDoor

/- THE PROGRAM's READER OF TEXTS: coordinates. -/
namespace Go.Proofs.YtcclepohmhdpbabGreatDoor
set_option linter.all false
open Go.RowKit Go.Deep

set_option maxHeartbeats 4000000 in
theorem split_nil (w : World) :
    Calls Tryz.prog 165 #[.string (bs [])] w fun e w' => e = .returned (.agg #[.bool false, .string (bs []), .int .i64 0]) ∧ Up w w' := by
  obtain ⟨e0, e1, e2, e3, e4, e5⟩ := bs_tells []
  clear e1 e4 e5
  go_enter Tryz.func165, Tryz.ntmps165
  go_wp2_with (first
    | (go_at_call 155; refine (signLength_any [] _ (by simp)).mono ?_; rintro e w' ⟨j, rfl, rfl, hj, hle⟩; obtain rfl : j = 0 := hj.out.trans rfl; clear hj hle)
    | (go_at_call 156; refine (digitsLength_let [] _ (by simp)).mono ?_; rintro e w' ⟨j, rfl, rfl, hj, hle⟩; obtain rfl : j = 0 := hj.out.trans rfl; clear hj hle))
  refine ret_split rfl rfl (vrow_new1 _ _ _ _ _ _) ⟨rfl, ((Up.refl _).alloc _).alloc _⟩

theorem unitsNil (w : World) :
    Calls Tryz.prog 164 #[.string (bs [])] w fun e w' => e = .returned (.tuple #[.int .i64 0, .bool true]) ∧ Up w w' :=
  Units_any [] [] false 0 w (fun w => split_nil w) (fun c hc => by cases hc) (by simp) (by omega) (by omega)

def PCooPost (l : List UInt8) (bad off : Bool) (rb : Nat) (w : World) (e : Ending) (w' : World) : Prop :=
  ∃ (x : Int) (l' : List UInt8) (bad' off' : Bool), e = .returned (.int .i64 x) ∧ RT w' rb l' bad' off' ∧ Fr (· = rb) w w' ∧ (if bad = true then none else Wt.coord true l off) = (if bad' = true then none else some (x, l', off')) ∧ l'.length ≤ l.length

set_option maxRecDepth 100000 in
set_option maxHeartbeats 2000000 in
theorem pnumber_any (l : List UInt8) (hb : Tx.bare l = l) (bad off : Bool) (rb : Nat) (w : World) (hr : RT w rb l bad off) (hl : l.length ≤ 6000) :
    Calls Tryz.prog 161 #[.pointer (some ⟨rb, 0, none⟩)] w (PCooPost l bad off rb w) := by
  obtain ⟨n, hn⟩ : ∃ n, n = Tx.num true l := ⟨_, rfl⟩
  have hnl : n ≤ l.length := by rw [hn]; exact Tx.num_le true l
  have HN := hide hn
  have HBB := hide hb
  have c0 := hr.c0
  have HR := hide hr
  clear hn hr hb
  have hcoo : ∀ (w : World), RT w rb l bad off → Calls Tryz.prog 163 #[.pointer (some ⟨rb, 0, none⟩), .int .i64 n] w (PCooPost l bad off rb w) := by
    intro w hr
    have HR := hide hr
    clear hr
    by_cases h0 : n = 0
    · subst h0
      have HE := hide (Wt.coord_none (p := true) (l := l) (o := off) (by rw [HBB.out, ← HN.out]))
      go_enter Tryz.func163, Tryz.ntmps163
      go_wp2_with fail
      refine (number_bad l bad off rb _ HR.out).mono ?_
      rintro e w1 ⟨rfl, h1, u1⟩
      replace h1 := hide h1
      replace u1 := hide u1
      go_wp2_with fail
      refine (unitsNil _).mono ?_
      rintro e w2 ⟨rfl, u2⟩
      replace u2 := hide u2
      go_wp2
      go_ret
      exact ⟨0, l, true, off, rfl, VRow.of_block h1.out (u2.out.block _ (VRow.lt h1.out)), u1.out.trans (Fr.of_up u2.out), by cases bad <;> simp [HE.out], Nat.le_refl _⟩
    · have HE := hide (Wt.coord_some (p := true) (l := l) (o := off) (by rw [HBB.out, ← HN.out]; exact h0))
      rw [HBB.out, ← HN.out] at HE
      have HSh : Hid (Du.Shape (l.take n)) := by
        rw [HN.out]
        exact Du.num_shape (by rw [← HN.out]; omega)
      have hsl : (l.take n).length ≤ 6000 := by rw [List.length_take]; omega
      have HUV := hide (Wt.unitsV_eq (l.take n))
      obtain ⟨x, hx⟩ : ∃ x, x = Wt.cv (l.take n) := ⟨_, rfl⟩
      obtain ⟨ok, hok⟩ : ∃ ok, ok = (Du.units (l.take n)).isNone := ⟨_, rfl⟩
      rw [← hx, ← hok] at HUV HE
      have hpos : 0 < n := by omega
      clear hx hok h0
      cases ok
      · go_enter Tryz.func163, Tryz.ntmps163
        go_wp2_with fail
        refine (number_ok l n bad off rb _ HR.out hl hpos hnl).mono ?_
        rintro e w1 ⟨rfl, h1, u1⟩
        replace h1 := hide h1
        replace u1 := hide u1
        go_wp2_with fail
        refine (pUnits_any _ HSh.out hsl _).mono ?_
        rintro e w2 ⟨rfl, u2⟩
        rw [HUV.out]
        replace u2 := hide u2
        go_wp2
        go_ret
        exact ⟨x, l.drop n, bad, off, rfl, VRow.of_block h1.out (u2.out.block _ (VRow.lt h1.out)), u1.out.trans (Fr.of_up u2.out), by cases bad <;> simp [HE.out], by simp⟩
      · go_enter Tryz.func163, Tryz.ntmps163
        go_wp2_with fail
        refine (number_ok l n bad off rb _ HR.out hl hpos hnl).mono ?_
        rintro e w1 ⟨rfl, h1, u1⟩
        replace h1 := hide h1
        replace u1 := hide u1
        go_wp2_with fail
        refine (pUnits_any _ HSh.out hsl _).mono ?_
        rintro e w2 ⟨rfl, u2⟩
        rw [HUV.out]
        have h2 : RT w2 rb (l.drop n) bad off := VRow.of_block h1.out (u2.block _ (VRow.lt h1.out))
        obtain ⟨-, -, d2, -, -, g2⟩ := h2.facts
        replace h2 := hide h2
        replace u2 := hide u2
        go_wp2
        go_ret
        exact ⟨x, l.drop n, bad, true, rfl, h2.out.off true, (u1.out.trans (Fr.of_up u2.out)).setCell (p := ⟨rb, 2, none⟩) rfl _, by cases bad <;> simp [HE.out], by simp⟩
  have HCoo := hide hcoo
  clear hcoo
  go_enter Tryz.func161, Tryz.ntmps161
  go_wp2_with fail
  refine (Length_any l _ (by omega)).mono ?_
  rintro e w1 ⟨rfl, hw⟩
  replace hw := hw.symm
  subst hw
  rw [← HN.out]
  go_wp2_with fail
  refine (HCoo.out _ HR.out).mono ?_
  rintro e w2 ⟨x, l', b', o', rfl, h⟩
  replace h := hide h
  go_wp2
  go_ret
  exact ⟨x, l', b', o', rfl, h.out⟩
end Go.Proofs.YtcclepohmhdpbabGreatDoor

/- LISTS THAT THE PROGRAM READS, as they grow. -/
namespace Go.Proofs.YtcclepohmhdpbabGreatDoor
set_option linter.all false
open Go.RowKit Go.Deep

theorem RT.keep {w w' : World} {b : Nat} {l : List UInt8} {bad wide : Bool} {base : Nat} {e : TypeId} {size : Nat} {v : Value} {n : Nat} {xs : List Value} (h : RT w b l bad wide) (ho : w.ownsRow base e size v n xs) (he : e ≠ 86) (hg : w.grownBy w' v.ownBlock) : RT w' b l bad wide :=
  VRow.grown h hg (own_row_ne ho h he)
theorem RT.alloc {w : World} {b : Nat} {l : List UInt8} {bad wide : Bool} (h : RT w b l bad wide) (o : Obj) : RT (w.alloc o) b l bad wide := VRow.alloc h o

/-- A list of the document's that is being read: rings. -/
structure P1 (w wr : World) (b : Nat) (v : Value) (r : Ring) (l : List UInt8) (bad wide : Bool) : Prop where
  own : wr.ownsRow w.heap.size 48 2 v r.length (flat r)
  sd : RT wr b l bad wide
  fr : Fr (· = b) w wr
  len : r.length ≤ 6001
  rest : l.length ≤ 6000
  sum : bad = false → r.length + l.length ≤ 6000

theorem P1.step {w wr w4 w5 : World} {b : Nat} {v : Value} {r : Ring} {l l4 : List UInt8} {wide b4 o4 : Bool} {x y : Int} {g cap : Nat} (h : P1 w wr b v r l false wide) (h4 : RT w4 b l4 b4 o4) (u : Fr (· = b) wr w4) (hs : b4 = false → l4.length + 1 ≤ l.length) (hl4 : l4.length ≤ 6000)
    (hown : w5.ownsRow w.heap.size 48 2 (.slice (some ⟨g, 0, none⟩) (r.length + 1) cap) (r.length + 1) (flat r ++ [.int .i64 x, .int .i64 y])) (hg : (w4.alloc (.cells #[.int .i64 x, .int .i64 y] 48)).grownBy w5 v.ownBlock) :
    P1 w w5 b (.slice (some ⟨g, 0, none⟩) (r.length + 1) cap) (r ++ [(x, y)]) l4 b4 o4 := by
  have hb := h.sd
  have o4' : w4.ownsRow w.heap.size 48 2 v r.length (flat r) := own_fr h.own u fun g hg e => own_row_ne h.own hb (by decide) (e ▸ hg)
  have oA := o4'.alloc (.cells #[.int .i64 x, .int .i64 y] 48)
  refine ⟨?_, (h4.alloc _).keep oA (by decide) hg, ((h.fr.trans u).alloc _).grown hg fun k hk => .inr (own_lt h.own hk).1, by simp; have := h.sum rfl; omega, hl4, fun e => ?_⟩
  · rw [flat_append, List.length_append]; exact hown
  · have := hs e
    have := h.sum rfl
    simp; omega

/-- Lists of lists. -/
structure P2 (w wr : World) (b : Nat) (v : Value) (rs : List L1) (l : List UInt8) (bad wide : Bool) : Prop where
  own : wr.ownsRow w.heap.size 46 1 v rs.length (rs.map L1.v)
  sub : ∀ y ∈ rs, y.ok wr
  sd : RT wr b l bad wide
  fr : Fr (· = b) w wr
  len : rs.length ≤ 6001
  rest : l.length ≤ 6000
  sum : bad = false → rs.length + l.length ≤ 6000

theorem P2.step {w wr w4 w5 : World} {b : Nat} {v : Value} {rs : List L1} {l l4 : List UInt8} {wide b4 o4 : Bool} {xa : Option Addr} {xn xc : Nat} {xr : Ring} {g cap : Nat} (h : P2 w wr b v rs l false wide) (h4 : RT w4 b l4 b4 o4) (u : Fr (· = b) wr w4) (hx : L1.ok w4 ⟨.slice xa xn xc, xr⟩) (hs : b4 = false → l4.length + 1 ≤ l.length) (hl4 : l4.length ≤ 6000)
    (hown : w5.ownsRow w.heap.size 46 1 (.slice (some ⟨g, 0, none⟩) (rs.length + 1) cap) (rs.length + 1) (rs.map L1.v ++ [.slice xa xn xc])) (hg : (w4.alloc (.cells #[.slice xa xn xc] 46)).grownBy w5 v.ownBlock) :
    P2 w w5 b (.slice (some ⟨g, 0, none⟩) (rs.length + 1) cap) (rs ++ [⟨.slice xa xn xc, xr⟩]) l4 b4 o4 := by
  have hb := h.sd
  have o4' : w4.ownsRow w.heap.size 46 1 v rs.length (rs.map L1.v) := own_fr h.own u fun g hg e => own_row_ne h.own hb (by decide) (e ▸ hg)
  have oA := o4'.alloc (.cells #[.slice xa xn xc] 46)
  have hA := (Up.refl w4).alloc (.cells #[.slice xa xn xc] 46)
  refine ⟨?_, fun y hy => ?_, (h4.alloc _).keep oA (by decide) hg, ((h.fr.trans u).alloc _).grown hg fun k hk => .inr (own_lt h.own hk).1, by simp; have := h.sum rfl; omega, hl4, fun e => ?_⟩
  · rw [List.map_append, List.length_append]; exact hown
  · rcases List.mem_append.1 hy with hy | hy
    · exact (((h.sub y hy).fr u fun b hb' e => (h.sub y hy).row_ne hb (by decide) (e ▸ hb')).up hA).grown oA (by decide) hg
    · simp at hy; subst hy
      exact (hx.up hA).grown oA (by decide) hg
  · have := hs e
    have := h.sum rfl
    simp; omega

structure P3 (w wr : World) (b : Nat) (v : Value) (ps : List L2) (l : List UInt8) (bad wide : Bool) : Prop where
  own : wr.ownsRow w.heap.size 45 1 v ps.length (ps.map L2.v)
  sub : ∀ y ∈ ps, y.ok wr
  sd : RT wr b l bad wide
  fr : Fr (· = b) w wr
  len : ps.length ≤ 6001
  rest : l.length ≤ 6000
  sum : bad = false → ps.length + l.length ≤ 6000

theorem P3.step {w wr w4 w5 : World} {b : Nat} {v : Value} {ps : List L2} {l l4 : List UInt8} {wide b4 o4 : Bool} {xa : Option Addr} {xn xc : Nat} {xr : List L1} {g cap : Nat} (h : P3 w wr b v ps l false wide) (h4 : RT w4 b l4 b4 o4) (u : Fr (· = b) wr w4) (hx : L2.ok w4 ⟨.slice xa xn xc, xr⟩) (hs : b4 = false → l4.length + 1 ≤ l.length) (hl4 : l4.length ≤ 6000)
    (hown : w5.ownsRow w.heap.size 45 1 (.slice (some ⟨g, 0, none⟩) (ps.length + 1) cap) (ps.length + 1) (ps.map L2.v ++ [.slice xa xn xc])) (hg : (w4.alloc (.cells #[.slice xa xn xc] 45)).grownBy w5 v.ownBlock) :
    P3 w w5 b (.slice (some ⟨g, 0, none⟩) (ps.length + 1) cap) (ps ++ [⟨.slice xa xn xc, xr⟩]) l4 b4 o4 := by
  have hb := h.sd
  have o4' : w4.ownsRow w.heap.size 45 1 v ps.length (ps.map L2.v) := own_fr h.own u fun g hg e => own_row_ne h.own hb (by decide) (e ▸ hg)
  have oA := o4'.alloc (.cells #[.slice xa xn xc] 45)
  have hA := (Up.refl w4).alloc (.cells #[.slice xa xn xc] 45)
  refine ⟨?_, fun y hy => ?_, (h4.alloc _).keep oA (by decide) hg, ((h.fr.trans u).alloc _).grown hg fun k hk => .inr (own_lt h.own hk).1, by simp; have := h.sum rfl; omega, hl4, fun e => ?_⟩
  · rw [List.map_append, List.length_append]; exact hown
  · rcases List.mem_append.1 hy with hy | hy
    · exact (((h.sub y hy).fr u fun b hb' e => (h.sub y hy).row_ne hb (by decide) (by decide) (e ▸ hb')).up hA).grown oA (by decide) (by decide) hg
    · simp at hy; subst hy
      exact (hx.up hA).grown oA (by decide) (by decide) hg
  · have := hs e
    have := h.sum rfl
    simp; omega

theorem P1.start {w : World} {b : Nat} {l : List UInt8} {bad wide : Bool} (h : RT w b l bad wide) (hl : l.length ≤ 6000) : P1 w w b (.slice none 0 0) [] l bad wide := ⟨World.ownsRow_nil _ _ _ _, h, Fr.refl _ _, by simp, hl, fun _ => by simpa using hl⟩
theorem P2.start {w : World} {b : Nat} {l : List UInt8} {bad wide : Bool} (h : RT w b l bad wide) (hl : l.length ≤ 6000) : P2 w w b (.slice none 0 0) [] l bad wide := ⟨World.ownsRow_nil _ _ _ _, by simp, h, Fr.refl _ _, by simp, hl, fun _ => by simpa using hl⟩
theorem P3.start {w : World} {b : Nat} {l : List UInt8} {bad wide : Bool} (h : RT w b l bad wide) (hl : l.length ≤ 6000) : P3 w w b (.slice none 0 0) [] l bad wide := ⟨World.ownsRow_nil _ _ _ _, by simp, h, Fr.refl _ _, by simp, hl, fun _ => by simpa using hl⟩

theorem P1.sd' {w wr w' : World} {b : Nat} {v : Value} {r : Ring} {l l' : List UInt8} {bad wide bad' wide' : Bool} (h : P1 w wr b v r l bad wide) (h4 : RT w' b l' bad' wide') (u : Fr (· = b) wr w') (hl : l'.length ≤ l.length) (hb : bad' = false → bad = false) : P1 w w' b v r l' bad' wide' :=
  ⟨own_fr h.own u fun g hg e => own_row_ne h.own h.sd (by decide) (e ▸ hg), h4, h.fr.trans u, h.len, by have := h.rest; omega, fun e => by have := h.sum (hb e); omega⟩
theorem P2.sd' {w wr w' : World} {b : Nat} {v : Value} {r : List L1} {l l' : List UInt8} {bad wide bad' wide' : Bool} (h : P2 w wr b v r l bad wide) (h4 : RT w' b l' bad' wide') (u : Fr (· = b) wr w') (hl : l'.length ≤ l.length) (hb : bad' = false → bad = false) : P2 w w' b v r l' bad' wide' :=
  ⟨own_fr h.own u fun g hg e => own_row_ne h.own h.sd (by decide) (e ▸ hg), fun y hy => (h.sub y hy).fr u fun b hb' e => (h.sub y hy).row_ne h.sd (by decide) (e ▸ hb'), h4, h.fr.trans u, h.len, by have := h.rest; omega, fun e => by have := h.sum (hb e); omega⟩
theorem P3.sd' {w wr w' : World} {b : Nat} {v : Value} {r : List L2} {l l' : List UInt8} {bad wide bad' wide' : Bool} (h : P3 w wr b v r l bad wide) (h4 : RT w' b l' bad' wide') (u : Fr (· = b) wr w') (hl : l'.length ≤ l.length) (hb : bad' = false → bad = false) : P3 w w' b v r l' bad' wide' :=
  ⟨own_fr h.own u fun g hg e => own_row_ne h.own h.sd (by decide) (e ▸ hg), fun y hy => (h.sub y hy).fr u fun b hb' e => (h.sub y hy).row_ne h.sd (by decide) (by decide) (e ▸ hb'), h4, h.fr.trans u, h.len, by have := h.rest; omega, fun e => by have := h.sum (hb e); omega⟩

theorem P1.step' {w wr w4 w5 : World} {b : Nat} {v : Value} {r : Ring} {l l4 : List UInt8} {bad wide b4 o4 : Bool} {x y : Int} {g cap : Nat} (h : P1 w wr b v r l bad wide) (h6 : r.length ≤ 6000) (h4 : RT w4 b l4 b4 o4) (u : Fr (· = b) wr w4) (hs : b4 = false → r.length + 1 + l4.length ≤ 6000) (hl4 : l4.length ≤ 6000)
    (hown : w5.ownsRow w.heap.size 48 2 (.slice (some ⟨g, 0, none⟩) (r.length + 1) cap) (r.length + 1) (flat r ++ [.int .i64 x, .int .i64 y])) (hg : (w4.alloc (.cells #[.int .i64 x, .int .i64 y] 48)).grownBy w5 v.ownBlock) :
    P1 w w5 b (.slice (some ⟨g, 0, none⟩) (r.length + 1) cap) (r ++ [(x, y)]) l4 b4 o4 := by
  have hb := h.sd
  have o4' : w4.ownsRow w.heap.size 48 2 v r.length (flat r) := own_fr h.own u fun g hg e => own_row_ne h.own hb (by decide) (e ▸ hg)
  have oA := o4'.alloc (.cells #[.int .i64 x, .int .i64 y] 48)
  refine ⟨?_, (h4.alloc _).keep oA (by decide) hg, ((h.fr.trans u).alloc _).grown hg fun k hk => .inr (own_lt h.own hk).1, by simp; omega, hl4, fun e => ?_⟩
  · rw [flat_append, List.length_append]; exact hown
  · have := hs e
    simp; omega

theorem P2.step' {w wr w4 w5 : World} {b : Nat} {v : Value} {rs : List L1} {l l4 : List UInt8} {bad wide b4 o4 : Bool} {xa : Option Addr} {xn xc : Nat} {xr : Ring} {g cap : Nat} (h : P2 w wr b v rs l bad wide) (h6 : rs.length ≤ 6000) (h4 : RT w4 b l4 b4 o4) (u : Fr (· = b) wr w4) (hx : L1.ok w4 ⟨.slice xa xn xc, xr⟩) (hs : b4 = false → rs.length + 1 + l4.length ≤ 6000) (hl4 : l4.length ≤ 6000)
    (hown : w5.ownsRow w.heap.size 46 1 (.slice (some ⟨g, 0, none⟩) (rs.length + 1) cap) (rs.length + 1) (rs.map L1.v ++ [.slice xa xn xc])) (hg : (w4.alloc (.cells #[.slice xa xn xc] 46)).grownBy w5 v.ownBlock) :
    P2 w w5 b (.slice (some ⟨g, 0, none⟩) (rs.length + 1) cap) (rs ++ [⟨.slice xa xn xc, xr⟩]) l4 b4 o4 := by
  have hb := h.sd
  have o4' : w4.ownsRow w.heap.size 46 1 v rs.length (rs.map L1.v) := own_fr h.own u fun g hg e => own_row_ne h.own hb (by decide) (e ▸ hg)
  have oA := o4'.alloc (.cells #[.slice xa xn xc] 46)
  have hA := (Up.refl w4).alloc (.cells #[.slice xa xn xc] 46)
  refine ⟨?_, fun y hy => ?_, (h4.alloc _).keep oA (by decide) hg, ((h.fr.trans u).alloc _).grown hg fun k hk => .inr (own_lt h.own hk).1, by simp; omega, hl4, fun e => ?_⟩
  · rw [List.map_append, List.length_append]; exact hown
  · rcases List.mem_append.1 hy with hy | hy
    · exact (((h.sub y hy).fr u fun b hb' e => (h.sub y hy).row_ne hb (by decide) (e ▸ hb')).up hA).grown oA (by decide) hg
    · simp at hy; subst hy
      exact (hx.up hA).grown oA (by decide) hg
  · have := hs e
    simp; omega

theorem P3.step' {w wr w4 w5 : World} {b : Nat} {v : Value} {ps : List L2} {l l4 : List UInt8} {bad wide b4 o4 : Bool} {xa : Option Addr} {xn xc : Nat} {xr : List L1} {g cap : Nat} (h : P3 w wr b v ps l bad wide) (h6 : ps.length ≤ 6000) (h4 : RT w4 b l4 b4 o4) (u : Fr (· = b) wr w4) (hx : L2.ok w4 ⟨.slice xa xn xc, xr⟩) (hs : b4 = false → ps.length + 1 + l4.length ≤ 6000) (hl4 : l4.length ≤ 6000)
    (hown : w5.ownsRow w.heap.size 45 1 (.slice (some ⟨g, 0, none⟩) (ps.length + 1) cap) (ps.length + 1) (ps.map L2.v ++ [.slice xa xn xc])) (hg : (w4.alloc (.cells #[.slice xa xn xc] 45)).grownBy w5 v.ownBlock) :
    P3 w w5 b (.slice (some ⟨g, 0, none⟩) (ps.length + 1) cap) (ps ++ [⟨.slice xa xn xc, xr⟩]) l4 b4 o4 := by
  have hb := h.sd
  have o4' : w4.ownsRow w.heap.size 45 1 v ps.length (ps.map L2.v) := own_fr h.own u fun g hg e => own_row_ne h.own hb (by decide) (e ▸ hg)
  have oA := o4'.alloc (.cells #[.slice xa xn xc] 45)
  have hA := (Up.refl w4).alloc (.cells #[.slice xa xn xc] 45)
  refine ⟨?_, fun y hy => ?_, (h4.alloc _).keep oA (by decide) hg, ((h.fr.trans u).alloc _).grown hg fun k hk => .inr (own_lt h.own hk).1, by simp; omega, hl4, fun e => ?_⟩
  · rw [List.map_append, List.length_append]; exact hown
  · rcases List.mem_append.1 hy with hy | hy
    · exact (((h.sub y hy).fr u fun b hb' e => (h.sub y hy).row_ne hb (by decide) (by decide) (e ▸ hb')).up hA).grown oA (by decide) (by decide) hg
    · simp at hy; subst hy
      exact (hx.up hA).grown oA (by decide) (by decide) hg
  · have := hs e
    simp; omega
end Go.Proofs.YtcclepohmhdpbabGreatDoor

/- THE PROGRAM's TEXTS, READ: points. -/
namespace Go.Proofs.YtcclepohmhdpbabGreatDoor
set_option linter.all false
open Go.RowKit Go.Deep

theorem load_pt {W : World} {b : Nat} {v0 v1 : Value} (h : VRow W b 48 [v0, v1]) : (loadVar 48 ⟨b, 0, none⟩).run Tryz.prog W = .ok (.agg #[v0, v1]) W := by
  have c0 := h.cell (i := 0) (v := v0) rfl
  have c1 := h.cell (i := 1) (v := v1) rfl
  simp [go_sem, c0, c1]
theorem ret_pt {a : Act} {W : World} {Q : Ending → World → Prop} {b : Nat} {v0 v1 : Value} (h4 : a.tmps.getD 2 undef = .pointer (some ⟨b, 0, none⟩)) (hd : a.defers = []) (hrow : VRow W b 48 [v0, v1])
    (hQ : Q (.returned (.agg #[v0, v1])) W) : bodyPost Tryz.prog Tryz.f157 Q .ret a W := by
  refine bodyPost_ret (v := .agg #[v0, v1]) ?_ hd hQ
  rw [results_cell Tryz.results157, h4]
  simp only [asAddr, Sem.run_pure, Result.andThen_ok]
  exact load_pt hrow

def PPtPost (l : List UInt8) (bad off : Bool) (rb : Nat) (w : World) (e : Ending) (w' : World) : Prop :=
  ∃ (x y : Int) (l' : List UInt8) (bad' off' : Bool), e = .returned (.agg #[.int .i64 x, .int .i64 y]) ∧ RT w' rb l' bad' off' ∧ Fr (· = rb) w w' ∧ ((if bad = true then none else Wt.point l off) = (if bad' = true then none else some ((x, y), l', off')) ∧ (bad' = false → l'.length + 1 ≤ l.length)) ∧ l'.length ≤ 6000

theorem Wt.coord_bare (l : List UInt8) (o : Bool) : Wt.coord true (Tx.bare l) o = Wt.coord true l o := by unfold Wt.coord; rw [Tx.bare_bare]

set_option maxRecDepth 100000 in
set_option maxHeartbeats 4000000 in
theorem ppoint_any (l : List UInt8) (bad off : Bool) (rb : Nat) (w : World) (hr : RT w rb l bad off) (hl : l.length ≤ 6000) :
    Calls Tryz.prog 157 #[.pointer (some ⟨rb, 0, none⟩)] w (PPtPost l bad off rb w) := by
  have hlb := Tx.bare_le l
  have HRA : Hid (RT (w.alloc (.cells #[.int .i64 0, .int .i64 0] 48)) rb l bad off) := VRow.alloc hr _
  have hrl := hide (VRow.lt hr)
  have HV := hide (VRow.new w [.int .i64 0, .int .i64 0] 48)
  clear hr
  go_enter Tryz.func157, Tryz.ntmps157
  go_wp2_with fail
  refine (blanks_any l bad off rb _ HRA.out hl).mono ?_
  rintro e w1 ⟨n1, rfl, -, h1, u1⟩
  replace h1 := hide h1
  replace u1 := hide u1
  go_wp2_with fail
  refine (pnumber_any (Tx.bare l) (Tx.bare_bare l) bad off rb _ h1.out (by omega)).mono ?_
  rintro e w2 ⟨x, l2, b2, o2, rfl, h2, u2, p2, hl2⟩
  rw [Wt.coord_bare] at p2
  replace h2 := hide h2
  replace u2 := hide u2
  replace p2 := hide p2
  have hl2' : l2.length ≤ 6000 := by omega
  have hlb2 := Tx.bare_le l2
  go_wp2_with fail
  refine (blanks_any l2 b2 o2 rb _ h2.out hl2').mono ?_
  rintro e w3 ⟨n3, rfl, hn3, h3, u3⟩
  obtain ⟨gp, hgp⟩ : ∃ gp, gp = Wt.gap l2 := ⟨_, rfl⟩
  have hgap := (Tx.bare_gap l2)
  rw [← hn3, ← hgp] at hgap
  have HGP := hide hgp
  obtain ⟨-, c1, -, -, f1, -⟩ := h3.facts
  replace h3 := hide h3
  replace u3 := hide u3
  clear hgp hn3
  cases gp
  · have hb0 : ((n3 : Int) == 0) = true := beq_iff_eq.2 (by have := hgap.2 rfl; omega)
    clear hgap
    have h3b : Hid (RT (w3.setCell ⟨rb, 1, none⟩ (.bool true)) rb (Tx.bare l2) (b2 || !Wt.gap l2) o2) := by
      rw [← HGP.out]
      have := h3.out.bad true
      simpa [Hid] using this
    go_wp2_with fail
    refine (pnumber_any (Tx.bare l2) (Tx.bare_bare l2) _ o2 rb _ h3b.out (by omega)).mono ?_
    rintro e w4 ⟨y, l4, b4, o4, rfl, h4, u4, p4, hl4⟩
    rw [Wt.coord_bare] at p4
    have HP := hide (Wt.point_of p2.out p4)
    have HF : Hid (Fr (· = rb) (w.alloc (.cells #[.int .i64 0, .int .i64 0] 48)) w4) := (((u1.out.trans u2.out).trans u3.out).setCell (p := ⟨rb, 1, none⟩) rfl _).trans u4
    have hne : w.heap.size ≠ rb := by have := hrl.out; omega
    have hv4 := HF.out.row HV.out hne
    have v0 := hv4.cell (i := 0) rfl
    have v1 := hv4.cell (i := 1) rfl
    have g0 := hv4.frozen 0
    have g1 := hv4.frozen 1
    have HV4 := hide hv4
    replace h4 := hide h4
    clear u4 p4 hv4
    go_wp2
    refine ret_pt rfl rfl ((HV4.out.set 0 _).set 1 _) ⟨x, y, l4, b4, o4, rfl, VRow.setOther (VRow.setOther h4.out (a := ⟨w.heap.size, 0, none⟩) (fun e => hne e.symm) _) (a := ⟨w.heap.size, 1, none⟩) (fun e => hne e.symm) _, (((Fr.of_up ((Up.refl w).alloc _)).trans HF.out).setNew (p := ⟨w.heap.size, 0, none⟩) (Nat.le_refl _) _).setNew (p := ⟨w.heap.size, 1, none⟩) (Nat.le_refl _) _, HP.out, by omega⟩
  · have hb0 : ((n3 : Int) == 0) = false := beq_eq_false_iff_ne.2 (fun e => by have := hgap.1 (by omega); cases this)
    clear hgap
    have h3b : Hid (RT w3 rb (Tx.bare l2) (b2 || !Wt.gap l2) o2) := by
      rw [← HGP.out]
      have := h3.out
      simpa [Hid] using this
    go_wp2_with fail
    refine (pnumber_any (Tx.bare l2) (Tx.bare_bare l2) _ o2 rb _ h3b.out (by omega)).mono ?_
    rintro e w4 ⟨y, l4, b4, o4, rfl, h4, u4, p4, hl4⟩
    rw [Wt.coord_bare] at p4
    have HP := hide (Wt.point_of p2.out p4)
    have HF : Hid (Fr (· = rb) (w.alloc (.cells #[.int .i64 0, .int .i64 0] 48)) w4) := ((u1.out.trans u2.out).trans u3.out).trans u4
    have hne : w.heap.size ≠ rb := by have := hrl.out; omega
    have hv4 := HF.out.row HV.out hne
    have v0 := hv4.cell (i := 0) rfl
    have v1 := hv4.cell (i := 1) rfl
    have g0 := hv4.frozen 0
    have g1 := hv4.frozen 1
    have HV4 := hide hv4
    replace h4 := hide h4
    clear u4 p4 hv4
    go_wp2
    refine ret_pt rfl rfl ((HV4.out.set 0 _).set 1 _) ⟨x, y, l4, b4, o4, rfl, VRow.setOther (VRow.setOther h4.out (a := ⟨w.heap.size, 0, none⟩) (fun e => hne e.symm) _) (a := ⟨w.heap.size, 1, none⟩) (fun e => hne e.symm) _, (((Fr.of_up ((Up.refl w).alloc _)).trans HF.out).setNew (p := ⟨w.heap.size, 0, none⟩) (Nat.le_refl _) _).setNew (p := ⟨w.heap.size, 1, none⟩) (Nat.le_refl _) _, HP.out, by omega⟩
end Go.Proofs.YtcclepohmhdpbabGreatDoor
