/- THE PROGRAM's JSON: the object, Read. -/
import Derived.Test.YtcclepohmhdpbaaTwF
import Derived.Test.YtcclepohmhdpbaaTwG
namespace Go.Proofs.Ytcclepohmhdpbaa
set_option linter.all false
open Go.RowKit Go.Deep

theorem L3.ok.rt {w w' : World} {x : L3} (h : x.ok w) {rb : Nat} {l : List UInt8} {bad off : Bool} (hr : RT w rb l bad off) (u : Fr (· = rb) w w') : x.ok w' := h.fr u fun b hb e => h.row_ne hr (by decide) (by decide) (by decide) (e ▸ hb)

namespace Js
open Bn (Res)
def typ (l : List UInt8) : Option (List UInt8) := (str (Tx.bare l)).bind fun y => if y.1 = typeT then some y.2 else none
theorem memV_type (l : List UInt8) (o : Bool) : memV typeN l o = (typ l).map fun t => (.type, t, o) := by
  unfold memV typ
  rw [if_pos rfl]
  cases str (Tx.bare l) with
  | none => rfl
  | some y =>
    simp only [Option.bind_some]
    split <;> rfl
theorem memV_list (l : List UInt8) (o : Bool) : memV listN l o = (polys l o).map fun y => (.coords y.1, y.2) := by
  unfold memV
  rw [if_neg listN_ne, if_pos rfl]
theorem memV_other {c : List Int} (h1 : c ≠ typeN) (h2 : c ≠ listN) (l : List UInt8) (o : Bool) : memV c l o = (rd 16 l).map fun y => (.other, y.2, o) := by
  unfold memV
  rw [if_neg h1, if_neg h2]
/-- A member, told by its name and its value. -/
theorem memS_of {l l3 l4 : List UInt8} {o o4 b3 b4 : Bool} {c : List Int} {a : M} (p3 : name l = if b3 = true then none else some (c, l3)) (p4 : (if b3 = true then none else memV c l3 o) = if b4 = true then none else some (a, l4, o4)) : (if false = true then none else memS l o) = if b4 = true then none else some (a, l4, o4) := by
  simp only [Bool.false_eq_true, if_false]
  rw [memS_name, p3]
  cases b3
  · exact p4
  · exact p4
theorem bad_map {α β : Type} {P : Option α} {R : Option β} {f : α → β} {b3 b4 : Bool} {x : α} (h : (if b3 = true then none else P) = if b4 = true then none else some x) : (if b3 = true then none else P.map f) = if b4 = true then none else some (f x) := by
  cases b3
  · simp only [Bool.false_eq_true, if_false] at h ⊢
    rw [h]
    cases b4 <;> rfl
  · simp only [if_true] at h ⊢
    cases b4
    · cases h
    · rfl
theorem types_snoc (r : List M) (a : M) : types (r ++ [a]) = types r + (if a.isT = true then 1 else 0) := by
  unfold types
  rw [List.filter_append, List.length_append]
  cases h : a.isT <;> simp [h]
theorem places_type (r : List M) : places (r ++ [.type]) = places r := by simp [places, M.co]
theorem places_other (r : List M) : places (r ++ [.other]) = places r := by simp [places, M.co]
theorem places_coords (r : List M) (m : Mult) : places (r ++ [.coords m]) = places r ++ [m] := by simp [places, M.co]
theorem last_type (r : List M) : last (r ++ [.type]) = last r := by unfold last; rw [places_type]
theorem last_other (r : List M) : last (r ++ [.other]) = last r := by unfold last; rw [places_other]
theorem last_coords (r : List M) (m : Mult) : last (r ++ [.coords m]) = m := by unfold last; rw [places_coords]; simp
theorem types_le (r : List M) : types r ≤ r.length := List.length_filter_le _ _
theorem places_le (r : List M) : (places r).length ≤ r.length := List.length_filterMap_le _ _
theorem set_of {l l' : List UInt8} {bad off : Bool} {r : List M} (h : list 123 125 memS l false = if bad = true then none else some (r, l', off)) : set l = if (bad || !fit r) = true then none else some (last r, l', off) := by
  unfold set
  rw [h]
  cases bad
  · simp only [Bool.false_eq_true, if_false, Option.bind_some, Bool.false_or]
    cases fit r <;> rfl
  · rfl
end Js

def TvPost (l : List UInt8) (bad off : Bool) (rb : Nat) (w : World) (e : Ending) (w' : World) : Prop :=
  ∃ (l' : List UInt8) (bad' : Bool), e = .returned (.tuple #[]) ∧ RT w' rb l' bad' off ∧ Fr (· = rb) w w' ∧ (if bad = true then none else Js.typ l) = (if bad' = true then none else some l') ∧ l'.length ≤ l.length

theorem Js.typ_of {l l1 : List UInt8} {bad b1 : Bool} {c : List Int} (p1 : (if bad = true then none else Js.str (Tx.bare l)) = if b1 = true then none else some (c, l1)) : (if bad = true then none else Js.typ l) = if (b1 || !decide (c = Js.typeT)) = true then none else some l1 := by
  unfold Js.typ
  cases bad
  · simp only [Bool.false_eq_true, if_false] at p1 ⊢
    rw [p1]
    cases b1
    · by_cases h : c = Js.typeT <;> simp [h]
    · rfl
  · simp only [if_true] at p1 ⊢
    cases b1
    · cases p1
    · rfl

set_option maxRecDepth 100000 in
set_option maxHeartbeats 4000000 in
theorem typeValue_any (l : List UInt8) (bad off : Bool) (rb : Nat) (w : World) (hr : RT w rb l bad off) (hl : l.length ≤ 6000) :
    Calls Try.prog 31 #[.pointer (some ⟨rb, 0, none⟩)] w (TvPost l bad off rb w) := by
  have HR := hide hr
  clear hr
  go_enter Try.func31, Try.ntmps31
  go_wp2_with fail
  refine (characters_any l bad off rb _ HR.out hl).mono ?_
  rintro e w1 ⟨v, c, l1, b1, rfl, ho, h1, u1, p1, hl1, hcl⟩
  have HP := hide (Js.typ_of p1)
  have HS := hide (same_any c [77, 117, 108, 116, 105, 80, 111, 108, 121, 103, 111, 110] _ v w1 ho hcl (by simp))
  replace h1 := hide h1
  replace u1 := hide u1
  clear ho p1
  by_cases hc : c = Js.typeT
  · have HD : Hid (decide (c = Js.up [77, 117, 108, 116, 105, 80, 111, 108, 121, 103, 111, 110]) = true) := by rw [hc]; rfl
    have HPT : Hid ((if bad = true then none else Js.typ l) = if b1 = true then none else some l1) := by
      show _ = _
      rw [HP.out, decide_eq_true hc]
      simp
    rw [HD.out] at HS
    clear hc
    go_wp2_with fail
    refine HS.out.mono ?_
    rintro e w2 ⟨rfl, n, rfl⟩
    go_wp2
    refine bodyPost_ret (v := .tuple #[]) (by simp [results, Try.results31, go_sem]) rfl ?_
    exact ⟨l1, b1, rfl, VRow.drewN h1.out n, u1.out.drewN n, HPT.out, hl1⟩
  · have HD : Hid (decide (c = Js.up [77, 117, 108, 116, 105, 80, 111, 108, 121, 103, 111, 110]) = false) := decide_eq_false hc
    have HPT : Hid ((if bad = true then none else Js.typ l) = none) := by
      show _ = _
      rw [HP.out, decide_eq_false hc]
      simp
    rw [HD.out] at HS
    clear hc
    go_wp2_with fail
    refine HS.out.mono ?_
    rintro e w2 ⟨rfl, n, rfl⟩
    have h2 : RT (w1.drewN n) rb l1 b1 off := VRow.drewN h1.out n
    have c1 := h2.c1
    have f1 := h2.f 1
    replace h2 := hide h2
    go_wp2
    refine bodyPost_ret (v := .tuple #[]) (by simp [results, Try.results31, go_sem]) rfl ?_
    exact ⟨l1, true, rfl, h2.out.bad true, (u1.out.drewN n).setCell (p := ⟨rb, 1, none⟩) rfl _, HPT.out, hl1⟩
end Go.Proofs.Ytcclepohmhdpbaa
