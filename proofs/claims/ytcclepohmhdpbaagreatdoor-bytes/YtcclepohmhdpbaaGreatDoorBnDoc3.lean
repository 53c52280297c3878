/- THE DOCUMENT's BYTES, READ: heads, coordinates. -/
import Derived.Test.YtcclepohmhdpbaaGreatDoorBnDoc2
import Derived.Test.YtcclepohmhdpbaaGreatDoorBnRing
namespace Go.Proofs.YtcclepohmhdpbaaGreatDoor
set_option linter.all false
open Go.RowKit Go.Deep

namespace Bn
/-- A geometry's order and kind. -/
def beg (kind : Nat) (l : List UInt8) : Option (Bool × List UInt8) :=
  (cut 1 false l).bind fun x => if 1 < x.1 then none else (cut 4 (x.1 == 1) x.2).bind fun y => if y.1 ≠ kind then none else some (x.1 == 1, y.2)
theorem head_eq (kind : Nat) (l : List UInt8) : head kind l = (beg kind l).bind fun x => (cut 4 x.1 x.2).bind fun z => some (x.1, z.1, z.2) := by
  unfold head beg
  cases cut 1 false l with
  | none => rfl
  | some x =>
    simp only [Option.bind_some]
    split
    · rfl
    · cases cut 4 (x.1 == 1) x.2 with
      | none => rfl
      | some y =>
        simp only [Option.bind_some]
        split
        · rfl
        · rfl
end Bn

theorem CutP.cut {n : Nat} {lit : Bool} {l l' : List UInt8} {v : Nat} {bad' : Bool} (h : CutP n lit l false v l' bad') : Bn.cut n lit l = if bad' = true then none else some (v, l') := by
  rcases h with ⟨rfl, h, -⟩ | ⟨rfl, -, h, rfl, rfl⟩
  · rcases h with h | h
    · cases h
    · rw [Bn.cut_none h]; rfl
  · rw [Bn.cut_some h]; rfl
theorem CutP.bad {n : Nat} {lit : Bool} {l l' : List UInt8} {v : Nat} {bad' : Bool} (h : CutP n lit l true v l' bad') : bad' = true := by
  rcases h with ⟨h, -⟩ | ⟨-, h, -⟩
  · exact h
  · cases h

/-- What begins with two cuts. -/
theorem beg_of {kind : Nat} {l l1 l2 : List UInt8} {f k : Nat} {b1 b2 : Bool} (h : CutP 1 false l false f l1 b1) (h2 : CutP 4 ((f : Int) == 1) l1 b1 k l2 b2) :
    Bn.beg kind l = if (b2 || decide (1 < f) || decide (k ≠ kind)) = true then none else some (((f : Int) == 1), l2) := by
  unfold Bn.beg
  rw [h.cut]
  cases b1
  · have e : (f == 1) = ((f : Int) == 1) := by
      rw [Bool.eq_iff_iff]; simp; omega
    simp only [Bool.false_eq_true, if_false, Option.bind_some]
    by_cases hf : 1 < f
    · rw [if_pos hf]; simp [hf]
    · rw [if_neg hf, e, h2.cut]
      cases b2
      · by_cases hk : k = kind
        · simp [hf, hk]
        · simp [hf, hk]
      · simp
  · have := h2.bad
    subst this
    simp

def BegPost (kind : Nat) (l : List UInt8) (wide : Bool) (b : Nat) (w : World) (e : Ending) (w' : World) : Prop :=
  ∃ (lit : Bool) (l' : List UInt8) (bad' : Bool), e = .returned (.bool lit) ∧ SD w' b l' bad' wide ∧ Fr (· = b) w w' ∧ Bn.beg kind l = (if bad' = true then none else some (lit, l')) ∧ l'.length ≤ 6000

set_option maxHeartbeats 2000000 in
theorem dbegins_any (kind : Nat) (l : List UInt8) (wide : Bool) (b : Nat) (w : World) (hr : SD w b l false wide) (hl : l.length ≤ 6000) :
    Calls Tryz.prog 73 #[.pointer (some ⟨b, 0, none⟩), .int .i64 kind] w (BegPost kind l wide b w) := by
  have HR := hide hr
  clear hr
  go_enter Tryz.func73, Tryz.ntmps73
  go_wp2_with fail
  refine (dcut_any 1 false l false wide b _ HR.out (by omega) hl).mono ?_
  rintro e w1 ⟨f, l1, b1, rfl, h1, u1, p1, hf, hl1⟩
  replace h1 := hide h1
  replace u1 := hide u1
  replace p1 := hide p1
  replace hf := hide hf
  go_wp2_with fail
  refine (dcut_any 4 ((f : Int) == 1) l1 b1 wide b _ h1.out (by omega) hl1).mono ?_
  rintro e w2 ⟨k, l2, b2, rfl, h2, u2, p2, hk, hl2⟩
  obtain ⟨c0, c1, c2, f0, f1, f2⟩ := h2.facts
  have HB := hide (beg_of (kind := kind) p1.out p2)
  replace h2 := hide h2
  replace u2 := hide u2
  clear p2 hk p1 c0 c2 f0 f2
  by_cases h3 : 1 < f
  · have g3 : (1 : Int) < (f : Int) := by omega
    rw [decide_eq_true h3] at HB
    clear h3
    cases b2
    all_goals
      go_wp2
      go_ret
      exact ⟨_, l2, true, rfl, h2.out.bad true, (u1.out.trans u2.out).setCell (p := ⟨b, 1, none⟩) rfl _, by rw [HB.out]; simp, hl2⟩
  · have g3 : ¬ (1 : Int) < (f : Int) := by omega
    rw [decide_eq_false h3] at HB
    clear h3
    by_cases h4 : k = kind
    · have g4 : ((k : Int) != (kind : Int)) = false := bne_eq_false_iff_eq.2 (by omega)
      rw [decide_eq_false (by omega)] at HB
      clear h4
      cases b2
      · go_wp2
        go_ret
        exact ⟨_, l2, false, rfl, (by rw [decide_eq_false (show ¬ (1 : Int) < (f : Int) by omega)]; exact h2.out.bad false), (u1.out.trans u2.out).setCell (p := ⟨b, 1, none⟩) rfl _, by rw [HB.out]; simp, hl2⟩
      · go_wp2
        go_ret
        exact ⟨_, l2, true, rfl, h2.out.bad true, (u1.out.trans u2.out).setCell (p := ⟨b, 1, none⟩) rfl _, by rw [HB.out]; simp, hl2⟩
    · have g4 : ((k : Int) != (kind : Int)) = true := bne_iff_ne.2 (by omega)
      rw [decide_eq_true (by omega)] at HB
      clear h4
      cases b2
      all_goals
        go_wp2
        go_ret
        exact ⟨_, l2, true, rfl, h2.out.bad true, (u1.out.trans u2.out).setCell (p := ⟨b, 1, none⟩) rfl _, by rw [HB.out]; simp, hl2⟩

/-- Two halves are a double. -/
theorem CutP.halves {lit : Bool} {l l1 l2 : List UInt8} {bad b1 b2 wide : Bool} {a c X : Nat} (h : CutP 4 lit l bad a l1 b1) (k : CutP 4 lit l1 b1 c l2 b2) (hX : X = if lit = true then c * 4294967296 + a else a * 4294967296 + c) :
    CoP lit l bad wide (Bn.coord X) l2 b2 (wide || (Bn.units X).isNone) := by
  rcases h with ⟨rfl, h, -⟩ | ⟨rfl, rfl, h, rfl, rfl⟩
  · have := k.bad
    subst this
    refine .inl ⟨rfl, ?_⟩
    rcases h with h | h
    · exact .inl h
    · exact .inr (by omega)
  · rcases k with ⟨rfl, k, -⟩ | ⟨rfl, -, k, rfl, rfl⟩
    · refine .inl ⟨rfl, .inr ?_⟩
      rcases k with k | k
      · cases k
      · rw [List.length_drop] at k; omega
    · rw [List.length_drop] at k
      have e : l.take 8 = l.take 4 ++ (l.drop 4).take 4 := by
        rw [show 8 = 4 + 4 from rfl, List.take_add]
      have e2 : Bn.num lit (l.take 8) = X := by
        rw [e, Bn.num_halves lit (by rw [List.length_take]; omega) (by rw [List.length_take, List.length_drop]; omega), hX]
      refine .inr ⟨rfl, rfl, by omega, by rw [e2], by rw [List.drop_drop], by rw [e2]⟩

def RealPost (lit : Bool) (l : List UInt8) (bad wide : Bool) (b : Nat) (w : World) (e : Ending) (w' : World) : Prop :=
  ∃ (x : Int) (l' : List UInt8) (bad' wide' : Bool), e = .returned (.int .i64 x) ∧ SD w' b l' bad' wide' ∧ Fr (· = b) w w' ∧ CoP lit l bad wide x l' bad' wide' ∧ l'.length ≤ 6000

set_option maxHeartbeats 2000000 in
theorem dreals_any (lit : Bool) (l : List UInt8) (bad wide : Bool) (b : Nat) (w : World) (hr : SD w b l bad wide) (hl : l.length ≤ 6000) :
    Calls Tryz.prog 75 #[.pointer (some ⟨b, 0, none⟩), .bool lit] w (RealPost lit l bad wide b w) := by
  have HR := hide hr
  clear hr
  go_enter Tryz.func75, Tryz.ntmps75
  go_wp2_with fail
  refine (dcut_any 4 lit l bad wide b _ HR.out (by omega) hl).mono ?_
  rintro e w1 ⟨a, l1, b1, rfl, h1, u1, p1, ha, hl1⟩
  replace h1 := hide h1
  replace u1 := hide u1
  replace p1 := hide p1
  go_wp2_with fail
  refine (dcut_any 4 lit l1 b1 wide b _ h1.out (by omega) hl1).mono ?_
  rintro e w2 ⟨c, l2, b2, rfl, h2, u2, p2, hc, hl2⟩
  obtain ⟨c0, c1, c2, f0, f1, f2⟩ := h2.facts
  obtain ⟨X, hX⟩ : ∃ X, X = if lit = true then c * 4294967296 + a else a * 4294967296 + c := ⟨_, rfl⟩
  have HC := hide (p1.out.halves (wide := wide) p2 hX)
  have HX := hide hX
  have HA := hide ha
  have HD := hide hc
  replace h2 := hide h2
  replace u2 := hide u2
  clear p2 p1 c0 c1 f0 f1 hX ha hc
  obtain ⟨U, hU⟩ : ∃ U, U = Bn.units X := ⟨_, rfl⟩
  have HU := hide hU
  clear hU
  cases lit
  · have HZ : Hid (a * 4294967296 + c = X) := HX.out.symm
    clear HX
    go_wp2_with fail
    refine (ddouble_any a c _ HA.out HD.out).mono ?_
    rintro e w3 ⟨rfl, rfl⟩
    rw [HZ.out, ← HU.out]
    cases U with
    | none =>
      rw [optI]
      cases wide
      all_goals
        go_wp2
        go_ret
        refine ⟨_, l2, b2, _, rfl, h2.out.wide true, (u1.out.trans u2.out).setCell (p := ⟨b, 2, none⟩) rfl _, ?_, hl2⟩
        have := HC.out
        unfold Bn.coord at this
        rw [← HU.out] at this
        exact this
    | some k =>
      rw [optI]
      cases wide
      · go_wp2
        go_ret
        refine ⟨_, l2, b2, _, rfl, h2.out.wide false, (u1.out.trans u2.out).setCell (p := ⟨b, 2, none⟩) rfl _, ?_, hl2⟩
        have := HC.out
        unfold Bn.coord at this
        rw [← HU.out] at this
        exact this
      · go_wp2
        go_ret
        refine ⟨_, l2, b2, _, rfl, h2.out.wide true, (u1.out.trans u2.out).setCell (p := ⟨b, 2, none⟩) rfl _, ?_, hl2⟩
        have := HC.out
        unfold Bn.coord at this
        rw [← HU.out] at this
        exact this
  · have HZ : Hid (c * 4294967296 + a = X) := HX.out.symm
    clear HX
    go_wp2_with fail
    refine (ddouble_any c a _ HD.out HA.out).mono ?_
    rintro e w3 ⟨rfl, rfl⟩
    rw [HZ.out, ← HU.out]
    cases U with
    | none =>
      rw [optI]
      cases wide
      all_goals
        go_wp2
        go_ret
        refine ⟨_, l2, b2, _, rfl, h2.out.wide true, (u1.out.trans u2.out).setCell (p := ⟨b, 2, none⟩) rfl _, ?_, hl2⟩
        have := HC.out
        unfold Bn.coord at this
        rw [← HU.out] at this
        exact this
    | some k =>
      rw [optI]
      cases wide
      · go_wp2
        go_ret
        refine ⟨_, l2, b2, _, rfl, h2.out.wide false, (u1.out.trans u2.out).setCell (p := ⟨b, 2, none⟩) rfl _, ?_, hl2⟩
        have := HC.out
        unfold Bn.coord at this
        rw [← HU.out] at this
        exact this
      · go_wp2
        go_ret
        refine ⟨_, l2, b2, _, rfl, h2.out.wide true, (u1.out.trans u2.out).setCell (p := ⟨b, 2, none⟩) rfl _, ?_, hl2⟩
        have := HC.out
        unfold Bn.coord at this
        rw [← HU.out] at this
        exact this
end Go.Proofs.YtcclepohmhdpbaaGreatDoor
