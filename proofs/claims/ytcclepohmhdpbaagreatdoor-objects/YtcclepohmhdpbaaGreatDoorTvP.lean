import Derived.Test.YtcclepohmhdpbaaGreatDoorTuE
import Derived.Test.YtcclepohmhdpbaaGreatDoorTuAB
import Derived.Test.YtcclepohmhdpbaaGreatDoorTuAC
import Derived.Test.YtcclepohmhdpbaaGreatDoorTxH
import Derived.Test.YtcclepohmhdpbaaGreatDoorBnMath
/- TEXTS, READ: the plain parser; coordinates on both sides. -/
namespace Go.Proofs.YtcclepohmhdpbaaGreatDoor
set_option linter.all false
open Go.RowKit Go.Deep

theorem dUnits_shape (s : List UInt8) (hs : Du.Shape s) (hl : s.length ≤ 6000) (w : World) :
    Calls Tryz.prog 153 #[.string (bs s)] w fun e w' => e = .returned (unitsV (Tx.at_ s 0 == 45) (Du.units s)) ∧ Up w w' := by
  obtain ⟨g, A, t, E, rfl, hg, hA0, hA, ht, hE⟩ := hs
  obtain ⟨hsc, -⟩ := Du.units_shape hg hA ht hE
  have h0 : 0 < (g ++ (A ++ (t ++ E))).length := by
    have : 0 < A.length := List.length_pos_iff.2 hA0
    simp; omega
  have hE2 : (Du.scan (g ++ (A ++ (t ++ E))) [] (-1)).2.2 = E := by rw [hsc]
  rcases hE with rfl | ⟨c, g', C, rfl, hc, hg', hC0, hC⟩
  · exact dUnits_A _ w h0 hl hE2
  · obtain ⟨x, u, hx⟩ : ∃ x u, g' ++ C = x :: u := by
      cases h : g' ++ C with
      | nil => simp at h; exact absurd h.2 hC0
      | cons x u => exact ⟨x, u, rfl⟩
    rcases hc with rfl | rfl
    · exact dUnits_B _ w h0 hl x u (hE2.trans (by rw [hx]))
    · exact dUnits_C _ w h0 hl x u (hE2.trans (by rw [hx]))

theorem Tx.num3_le {l : List UInt8} {n : Nat} (hn : n ≤ l.length) : Tx.num3 l n ≤ l.length := by
  unfold Tx.num3
  split
  · rename_i h
    have h1 : n < l.length := Tx.lt_of_at (by omega)
    have h2 := Tx.sgn_le true l (n + 1) (by omega)
    have h3 := Tx.lead_le (l.drop (n + 1 + Tx.sgn true l (n + 1)))
    rw [List.length_drop] at h3
    split <;> omega
  · exact hn
theorem Tx.num_le (p : Bool) (l : List UInt8) : Tx.num p l ≤ l.length := by
  unfold Tx.num Tx.num1
  have h1 := Tx.sgn_le p l 0 (Nat.zero_le _)
  generalize Tx.sgn p l 0 = n at *
  have h2 := Tx.lead_le (l.drop n)
  rw [List.length_drop] at h2
  split
  · omega
  · split
    · omega
    · unfold Tx.num2
      split
      · rename_i h
        have h3 : n + Tx.lead (l.drop n) < l.length := Tx.lt_of_at (by omega)
        have h4 := Tx.lead_le (l.drop (n + Tx.lead (l.drop n) + 1))
        rw [List.length_drop] at h4
        split
        · omega
        · exact Tx.num3_le (by omega)
      · exact Tx.num3_le (by omega)

namespace Wt
open Bn (Res)
/-- The number that a text says, in units; nought, if it may not be. -/
def cv (s : List UInt8) : Int := match Du.units s with
  | some k => if (Tx.at_ s 0 == 45) = true then -(k : Int) else k
  | none => 0
/-- What a number's units are, and whether they may be. -/
theorem unitsV_eq (s : List UInt8) : unitsV (Tx.at_ s 0 == 45) (Du.units s) = .tuple #[.int .i64 (cv s), .bool (!(Du.units s).isNone)] := by
  unfold cv
  cases Du.units s <;> rfl
def coord (p : Bool) (l : List UInt8) (o : Bool) : Res Int :=
  if Tx.num p (Tx.bare l) = 0 then none else some (cv ((Tx.bare l).take (Tx.num p (Tx.bare l))), (Tx.bare l).drop (Tx.num p (Tx.bare l)), o || (Du.units ((Tx.bare l).take (Tx.num p (Tx.bare l)))).isNone)
theorem coord_none {p : Bool} {l : List UInt8} {o : Bool} (h : Tx.num p (Tx.bare l) = 0) : coord p l o = none := by unfold coord; rw [if_pos h]
theorem coord_some {p : Bool} {l : List UInt8} {o : Bool} (h : ¬ Tx.num p (Tx.bare l) = 0) : coord p l o = some (cv ((Tx.bare l).take (Tx.num p (Tx.bare l))), (Tx.bare l).drop (Tx.num p (Tx.bare l)), o || (Du.units ((Tx.bare l).take (Tx.num p (Tx.bare l)))).isNone) := by unfold coord; rw [if_neg h]
/-- A blank stands next. -/
def gap (l : List UInt8) : Bool := Tx.blank (Tx.at_ l 0)
def point (l : List UInt8) (o : Bool) : Res Pnt :=
  (coord true l o).bind fun x => if gap x.2.1 = false then none else (coord true x.2.1 x.2.2).map fun y => ((x.1, y.1), y.2)
/-- One at the least, commas between, up to a bracket. -/
def items {α : Type} (f : List UInt8 → Bool → Res α) : Nat → List UInt8 → Bool → Res (List α)
  | 0, _, _ => none
  | k + 1, l, o => (f l o).bind fun x =>
    if Tx.pre [44] (Tx.bare x.2.1) = true then (items f k (Tx.aft [44] (Tx.bare x.2.1)) x.2.2).map fun y => (x.1 :: y.1, y.2)
    else if Tx.pre [41] (Tx.bare x.2.1) = true then some ([x.1], Tx.aft [41] (Tx.bare x.2.1), x.2.2) else none
def list {α : Type} (f : List UInt8 → Bool → Res α) (l : List UInt8) (o : Bool) : Res (List α) :=
  if Tx.pre [40] (Tx.bare l) = true then items f ((Tx.bare l).length + 1) (Tx.aft [40] (Tx.bare l)) o else none
def ring := list point
def poly := list ring
def polys := list poly
end Wt

def CooPost (p : Bool) (l : List UInt8) (bad wide : Bool) (b : Nat) (w : World) (e : Ending) (w' : World) : Prop :=
  ∃ (x : Int) (l' : List UInt8) (bad' wide' : Bool), e = .returned (.int .i64 x) ∧ SD w' b l' bad' wide' ∧ Fr (· = b) w w' ∧ (if bad = true then none else Wt.coord p l wide) = (if bad' = true then none else some (x, l', wide')) ∧ l'.length ≤ l.length

set_option maxRecDepth 100000 in
set_option maxHeartbeats 4000000 in
theorem dcoord_any (p : Bool) (l : List UInt8) (bad wide : Bool) (b : Nat) (w : World) (hr : SD w b l bad wide) (hl : l.length ≤ 6000) :
    Calls Tryz.prog 194 #[.pointer (some ⟨b, 0, none⟩), .bool p] w (CooPost p l bad wide b w) := by
  obtain ⟨c0, c1, c2, f0, f1, f2⟩ := hr.facts
  have HR := hide hr
  have htl := Tx.bare_le l
  obtain ⟨t, ht⟩ : ∃ t, t = Tx.bare l := ⟨_, rfl⟩
  rw [← ht] at htl
  have HT := hide ht
  have hr1 := hr.rest t
  obtain ⟨d0, d1, d2, g0, g1, g2⟩ := hr1.facts
  have HR1 := hide hr1
  obtain ⟨e0, e1, e2, e3, e4, e5⟩ := bs_tells t
  clear hr ht hr1 e1 e4 e5
  obtain ⟨n, hn⟩ : ∃ n, n = Tx.num p t := ⟨_, rfl⟩
  have HN := hide hn
  clear hn
  by_cases hbad : n = 0 ∨ bad = true
  · have HE : Hid ((if bad = true then none else Wt.coord p l wide) = none) := by
      show _ = _
      rcases hbad with h | h
      · split
        · rfl
        · exact Wt.coord_none (by rw [← HT.out, ← HN.out]; exact h)
      · rw [if_pos h]
    rcases hbad with h | h
    · have hb0 : ((n : Int) == 0) = true := beq_iff_eq.2 (by omega)
      clear h
      go_enter Tryz.func194, Tryz.ntmps194
      go_wp2_with (first
        | (go_at_call 70; refine (bare_any l _).mono ?_; rintro e w1 ⟨rfl, hw⟩; replace hw := hw.symm; subst hw; rw [← HT.out])
        | (go_at_call 118; refine (Number_any t p _ (by omega)).mono ?_; rintro e w1 ⟨rfl, hw⟩; replace hw := hw.symm; subst hw; rw [← HN.out]))
      go_ret
      exact ⟨0, t, true, wide, rfl, HR1.out.bad true, ((Fr.refl (· = b) _).setCell (p := ⟨b, 0, none⟩) rfl _).setCell (p := ⟨b, 1, none⟩) rfl _, by rw [HE.out]; rfl, htl⟩
    · subst h
      by_cases h0 : n = 0
      all_goals
        have hb0 : ((n : Int) == 0) = decide (n = 0) := by
          rw [Bool.eq_iff_iff]; simp
        simp only [h0, decide_true, decide_false] at hb0
        go_enter Tryz.func194, Tryz.ntmps194
        go_wp2_with (first
          | (go_at_call 70; refine (bare_any l _).mono ?_; rintro e w1 ⟨rfl, hw⟩; replace hw := hw.symm; subst hw; rw [← HT.out])
          | (go_at_call 118; refine (Number_any t p _ (by omega)).mono ?_; rintro e w1 ⟨rfl, hw⟩; replace hw := hw.symm; subst hw; rw [← HN.out]))
        go_ret
        exact ⟨0, t, true, wide, rfl, HR1.out.bad true, ((Fr.refl (· = b) _).setCell (p := ⟨b, 0, none⟩) rfl _).setCell (p := ⟨b, 1, none⟩) rfl _, rfl, htl⟩
  · have h0 : ¬ n = 0 := fun e => hbad (.inl e)
    have hbf : bad = false := by cases bad <;> simp_all
    subst hbf
    have hb0 : ((n : Int) == 0) = false := beq_eq_false_iff_ne.2 (by omega)
    have HE := hide (Wt.coord_some (p := p) (l := l) (o := wide) (by rw [← HT.out, ← HN.out]; exact h0))
    rw [← HT.out, ← HN.out] at HE
    have hnl : n ≤ t.length := by
      rw [HN.out]
      exact Tx.num_le p t
    have HSh : Hid (Du.Shape (t.take n)) := by
      rw [HN.out]
      exact Du.num_shape (by rw [← HN.out]; omega)
    have hsl : (t.take n).length ≤ 6000 := by rw [List.length_take]; omega
    have HUV := hide (Wt.unitsV_eq (t.take n))
    obtain ⟨x, hx⟩ : ∃ x, x = Wt.cv (t.take n) := ⟨_, rfl⟩
    obtain ⟨ok, hok⟩ : ∃ ok, ok = (Du.units (t.take n)).isNone := ⟨_, rfl⟩
    rw [← hx, ← hok] at HUV HE
    clear hx hok hbad h0
    cases ok <;> cases wide
    all_goals
      go_enter Tryz.func194, Tryz.ntmps194
      go_wp2_with (first
        | (go_at_call 70; refine (bare_any l _).mono ?_; rintro e w1 ⟨rfl, hw⟩; replace hw := hw.symm; subst hw; rw [← HT.out])
        | (go_at_call 118; refine (Number_any t p _ (by omega)).mono ?_; rintro e w1 ⟨rfl, hw⟩; replace hw := hw.symm; subst hw; rw [← HN.out])
        | (go_at_call 153; refine (dUnits_shape _ HSh.out hsl _).mono ?_; rintro e w2 ⟨rfl, u2⟩; rw [HUV.out]; have hr2 := VRow.of_block HR1.out (u2.block _ (VRow.lt HR1.out)); obtain ⟨k0, k1, k2, m0, m1, m2⟩ := SD.facts hr2; have hr3 := SD.wide hr2; have q0 := fun o => (hr3 o).facts; have HR2 := hide hr2; replace u2 := hide u2; clear hr2 hr3))
      go_ret
      refine ⟨x, t.drop n, false, _, rfl, SD.rest (SD.wide (w := w2) (b := b) (l := t) (bad := false) HR2.out _) _, ((((Fr.refl (· = b) _).setCell (p := ⟨b, 0, none⟩) rfl _).trans (Fr.of_up u2.out)).setCell (p := ⟨b, 2, none⟩) rfl _).setCell (p := ⟨b, 0, none⟩) rfl _, ?_, by simp; omega⟩
      exact HE.out
end Go.Proofs.YtcclepohmhdpbaaGreatDoor

/- TEXTS, READ: steps of the plain parser. -/
namespace Go.Proofs.YtcclepohmhdpbaaGreatDoor
set_option linter.all false
open Go.RowKit Go.Deep

def lenS : Value → Nat
  | .slice _ n _ => n
  | _ => 0

namespace Wt
open Bn (Res)
theorem coord_lt {p : Bool} {l t : List UInt8} {o o' : Bool} {x : Int} (h : coord p l o = some (x, t, o')) : t.length + 1 ≤ l.length := by
  unfold coord at h
  split at h
  · cases h
  · rename_i h0
    have := Option.some.inj h
    simp only [Prod.mk.injEq] at this
    have h1 := Tx.num_le p (Tx.bare l)
    have h2 := Tx.bare_le l
    rw [← this.2.1, List.length_drop]
    omega
theorem point_of {l l1 l3 : List UInt8} {o o1 o3 bad b1 b3 : Bool} {x y : Int} (h1 : (if bad = true then none else coord true l o) = (if b1 = true then none else some (x, l1, o1))) (h2 : (if (b1 || !gap l1) = true then none else coord true l1 o1) = (if b3 = true then none else some (y, l3, o3))) :
    (if bad = true then none else point l o) = (if b3 = true then none else some ((x, y), l3, o3)) ∧ (b3 = false → l3.length + 1 ≤ l.length) := by
  cases bad
  · simp only [Bool.false_eq_true, if_false] at h1 ⊢
    unfold point
    rw [h1]
    cases b1
    · simp only [Bool.false_eq_true, if_false, Option.bind_some, Bool.false_or] at h2 ⊢
      have hl1 := coord_lt h1
      cases hg : gap l1
      · rw [hg] at h2
        simp at h2
        cases b3
        · simp at h2
        · simp
      · rw [hg] at h2
        simp at h2
        rw [h2]
        cases b3
        · refine ⟨by simp, fun _ => ?_⟩
          have := coord_lt (h2.trans (by rfl))
          omega
        · simp
    · simp at h2
      cases b3
      · simp at h2
      · simp
  · simp only [if_true] at h1 ⊢
    cases b1
    · simp at h1
    · simp at h2
      cases b3
      · simp at h2
      · simp
/-- One item more. -/
theorem go_on {α : Type} {f : List UInt8 → Bool → Res α} {T : Res (List α)} {acc : List α} {k : Nat} {l t : List UInt8} {o o' bad b : Bool} {a : α} (hT : T = if bad = true then none else Bn.pre acc (items f (k + 1) l o)) (hf : (if bad = true then none else f l o) = if b = true then none else some (a, t, o')) :
    ((!b && Tx.pre [44] (Tx.bare t)) = true → T = Bn.pre (acc ++ [a]) (items f k (Tx.aft [44] (Tx.bare t)) o')) ∧ ((!b && Tx.pre [44] (Tx.bare t)) = false → T = if (b || !Tx.pre [41] (Tx.bare t)) = true then none else some (acc ++ [a], Tx.aft [41] (Tx.bare t), o')) := by
  cases bad
  · simp only [Bool.false_eq_true, if_false] at hT hf
    cases b
    · simp only [Bool.false_eq_true, if_false] at hf
      constructor
      · intro h
        simp at h
        rw [hT]
        simp only [items, hf, Option.bind_some, h, if_true, Bn.pre, Option.map_map]
        congr 1
        funext y
        simp
      · intro h
        simp at h
        rw [hT]
        simp only [items, hf, Option.bind_some, h, Bool.false_eq_true, if_false, Bool.false_or]
        cases h2 : Tx.pre [41] (Tx.bare t)
        · simp [Bn.pre]
        · simp [Bn.pre]
    · simp at hf
      constructor
      · intro h; simp at h
      · intro _
        rw [hT]
        simp [items, hf, Bn.pre]
  · simp only [if_true] at hT hf
    cases b
    · simp at hf
    · constructor
      · intro h; simp at h
      · intro _; rw [hT]; simp
theorem begin_ {α : Type} (f : List UInt8 → Bool → Res α) (l : List UInt8) (o bad : Bool) : (if bad = true then none else list f l o) = if (bad || !Tx.pre [40] (Tx.bare l)) = true then none else Bn.pre [] (items f ((Tx.bare l).length + 1) (Tx.aft [40] (Tx.bare l)) o) := by
  cases bad
  · unfold list
    cases Tx.pre [40] (Tx.bare l)
    · simp
    · simp [Bn.pre_nil]
  · simp
theorem aft_len {c : UInt8} {l : List UInt8} (h : Tx.pre [c] l = true) : (Tx.aft [c] l).length + 1 ≤ l.length := by
  rw [Tx.aft_t h, List.length_drop]
  cases l with
  | nil => simp [Tx.pre] at h
  | cons a t => simp
/-- A list that is read takes some bytes. -/
theorem items_lt {α : Type} {f : List UInt8 → Bool → Res α} {Q : α → Prop} (hf : ∀ l o a t o', f l o = some (a, t, o') → t.length + 1 ≤ l.length ∧ (l.length ≤ 6000 → Q a)) :
    ∀ (k : Nat) (l : List UInt8) (o : Bool) (r : List α) (t : List UInt8) (o' : Bool), items f k l o = some (r, t, o') → t.length + r.length ≤ l.length ∧ (l.length ≤ 6000 → ∀ a ∈ r, Q a) ∧ 0 < r.length
  | 0, l, o, r, t, o', h => by simp [items] at h
  | k + 1, l, o, r, t, o', h => by
    simp only [items] at h
    cases hx : f l o with
    | none => rw [hx] at h; simp at h
    | some x =>
      obtain ⟨a, t1, o1⟩ := x
      have h4 := hf _ _ _ _ _ hx
      have hb := Tx.bare_le t1
      rw [hx] at h
      simp only [Option.bind_some] at h
      split at h
      · rename_i hc
        simp only [Option.map_eq_some_iff] at h
        obtain ⟨⟨r2, t2, o2⟩, h2, h3⟩ := h
        simp only [Prod.mk.injEq] at h3
        obtain ⟨rfl, rfl, rfl⟩ := h3
        have h5 := items_lt hf k _ o1 r2 t2 o2 h2
        have h6 := aft_len hc
        refine ⟨by simp; omega, fun hl b hb' => ?_, by simp⟩
        rcases List.mem_cons.1 hb' with rfl | hb'
        · exact h4.2 hl
        · exact h5.2.1 (by omega) b hb'
      · split at h
        · rename_i hc
          simp only [Option.some.injEq, Prod.mk.injEq] at h
          obtain ⟨rfl, rfl, rfl⟩ := h
          have h6 := aft_len hc
          refine ⟨by simp; omega, fun hl b hb' => ?_, by simp⟩
          simp at hb'
          rw [hb']
          exact h4.2 hl
        · cases h
theorem list_lt {α : Type} {f : List UInt8 → Bool → Res α} {Q : α → Prop} (hf : ∀ l o a t o', f l o = some (a, t, o') → t.length + 1 ≤ l.length ∧ (l.length ≤ 6000 → Q a)) {l t : List UInt8} {o o' : Bool} {r : List α} (h : list f l o = some (r, t, o')) : t.length + 1 ≤ l.length ∧ (l.length ≤ 6000 → r.length ≤ 6000 ∧ ∀ a ∈ r, Q a) := by
  unfold list at h
  split at h
  · rename_i hc
    have h1 := items_lt hf _ _ _ _ _ _ h
    have h2 := Tx.aft_le [40] (Tx.bare l)
    have h3 := Tx.bare_le l
    exact ⟨by omega, fun hl => ⟨by omega, h1.2.1 (by omega)⟩⟩
  · cases h
theorem cv_le (s : List UInt8) : -32768 ≤ cv s ∧ cv s ≤ 32768 := by
  unfold cv
  cases h : Du.units s with
  | none => simp
  | some k =>
    have : k ≤ 32768 := by
      unfold Du.units at h
      cases h2 : Du.sumD (Du.place (Du.scan s [] (-1))) (Du.scan s [] (-1)).1 0 0 with
      | none => rw [h2] at h; simp at h
      | some v =>
        rw [h2] at h
        simp only [Option.bind_some, Du.fin] at h
        split at h
        · cases h
        · have := Option.some.inj h; omega
    simp only
    split <;> omega
theorem point_lt {l t : List UInt8} {o o' : Bool} {a : Pnt} (h : point l o = some (a, t, o')) : t.length + 1 ≤ l.length ∧ (l.length ≤ 6000 → (-32768 ≤ a.1 ∧ a.1 ≤ 32768) ∧ -32768 ≤ a.2 ∧ a.2 ≤ 32768) := by
  unfold point at h
  cases hx : coord true l o with
  | none => rw [hx] at h; simp at h
  | some x =>
    obtain ⟨x1, l1, o1⟩ := x
    rw [hx] at h
    simp only [Option.bind_some] at h
    split at h
    · cases h
    · simp only [Option.map_eq_some_iff] at h
      obtain ⟨⟨y, t2, o2⟩, h2, h3⟩ := h
      simp only [Prod.mk.injEq] at h3
      obtain ⟨rfl, rfl, rfl⟩ := h3
      have a1 := coord_lt hx
      have a2 := coord_lt h2
      have cx : x1 = cv ((Tx.bare l).take (Tx.num true (Tx.bare l))) := by
        unfold coord at hx
        split at hx
        · cases hx
        · have := Option.some.inj hx; simp only [Prod.mk.injEq] at this; exact this.1.symm
      have cy : y = cv ((Tx.bare l1).take (Tx.num true (Tx.bare l1))) := by
        unfold coord at h2
        split at h2
        · cases h2
        · have := Option.some.inj h2; simp only [Prod.mk.injEq] at this; exact this.1.symm
      refine ⟨by omega, fun _ => ⟨?_, ?_⟩⟩
      · rw [cx]; exact cv_le _
      · rw [cy]; exact cv_le _
theorem ring_lt {l t : List UInt8} {o o' : Bool} {r : Ring} (h : ring l o = some (r, t, o')) : t.length + 1 ≤ l.length ∧ (l.length ≤ 6000 → Bn.okR r) := list_lt (fun _ _ _ _ _ h => point_lt h) h
theorem poly_lt {l t : List UInt8} {o o' : Bool} {r : Poly} (h : poly l o = some (r, t, o')) : t.length + 1 ≤ l.length ∧ (l.length ≤ 6000 → Bn.okL r) := list_lt (fun _ _ _ _ _ h => ring_lt h) h
theorem polys_lt {l t : List UInt8} {o o' : Bool} {r : Mult} (h : polys l o = some (r, t, o')) : t.length + 1 ≤ l.length ∧ (l.length ≤ 6000 → Bn.okM r) := list_lt (fun _ _ _ _ _ h => poly_lt h) h
end Wt
end Go.Proofs.YtcclepohmhdpbaaGreatDoor
