/- HOW LONG A NUMBER IS: the program's Length, the document's Number. -/
import Derived.Test.YtcclepohmhdpbabGreatDoorTuD
import Derived.Deep.DeepCutAuto
namespace Go.Proofs.YtcclepohmhdpbabGreatDoor
set_option linter.all false
open Go.RowKit Go.Deep

namespace Tx
def sgn (p : Bool) (l : List UInt8) (n : Nat) : Nat := if at_ l n = 45 ∨ (p = true ∧ at_ l n = 43) then 1 else 0
def num3 (l : List UInt8) (n : Nat) : Nat :=
  if at_ l n = 101 ∨ at_ l n = 69 then
    if lead (l.drop (n + 1 + sgn true l (n + 1))) = 0 then 0 else n + 1 + sgn true l (n + 1) + lead (l.drop (n + 1 + sgn true l (n + 1)))
  else n
def num2 (l : List UInt8) (n : Nat) : Nat :=
  if at_ l n = 46 then if lead (l.drop (n + 1)) = 0 then 0 else num3 l (n + 1 + lead (l.drop (n + 1)))
  else num3 l n
def num1 (p : Bool) (l : List UInt8) (n : Nat) : Nat :=
  if lead (l.drop n) = 0 then 0
  else if p = false ∧ 1 < lead (l.drop n) ∧ at_ l n = 48 then 0
  else num2 l (n + lead (l.drop n))
/-- How many bytes of l are a number. -/
def num (p : Bool) (l : List UInt8) : Nat := num1 p l (sgn p l 0)
theorem sgn_01 (p : Bool) (l : List UInt8) (n : Nat) : sgn p l n = 1 ∨ sgn p l n = 0 := by
  unfold sgn; split <;> simp
theorem sgn_drop (p : Bool) (l : List UInt8) (k n : Nat) : sgn p (l.drop k) n = sgn p l (k + n) := by simp [sgn, at_drop]
theorem sgn_le (p : Bool) (l : List UInt8) (n : Nat) (hn : n ≤ l.length) : sgn p l n + n ≤ l.length := by
  unfold sgn
  split
  · rename_i h
    have : n < l.length := lt_of_at (by rcases h with h | ⟨_, h⟩ <;> omega)
    omega
  · omega
end Tx

set_option maxHeartbeats 400000 in
theorem signLength_any (l : List UInt8) (w : World) (hl : l.length ≤ 9223372036854775807) :
    Calls Tryz.prog 155 #[.string (bs l)] w fun e w' => ∃ k : Nat, e = .returned (.int .i64 k) ∧ w' = w ∧ Hid (k = Tx.sgn true l 0) ∧ k ≤ l.length := by
  obtain ⟨S, hS, e0, e1, e2, e3, e4, e5⟩ := tells l
  rw [hS]
  clear e2 e3 e4 e5 hS
  by_cases h0 : 0 < l.length
  · go_enter Tryz.func155, Tryz.ntmps155
    go_wp2
    all_goals
      go_ret
    · exact ⟨1, rfl, rfl, by simp [Hid, Tx.sgn, *], h0⟩
    · exact ⟨1, rfl, rfl, by simp_all [Hid, Tx.sgn], h0⟩
    · exact ⟨0, rfl, rfl, by simp_all [Hid, Tx.sgn], by omega⟩
  · have : Tx.at_ l 0 = -1 := Tx.at_ge h0
    go_enter Tryz.func155, Tryz.ntmps155
    go_wp2
    go_ret
    exact ⟨0, rfl, rfl, by simp [Hid, Tx.sgn, *], by omega⟩

theorem digitsLength_let (l : List UInt8) (w : World) (hl : l.length ≤ 9223372036854775807) :
    Calls Tryz.prog 156 #[.string (bs l)] w fun e w' => ∃ k : Nat, e = .returned (.int .i64 k) ∧ w' = w ∧ Hid (k = Tx.lead l) ∧ k ≤ l.length :=
  (digitsLength_any l w hl).mono fun e w' ⟨h1, h2⟩ => ⟨_, h1, h2, rfl, Tx.lead_le l⟩
theorem Tx.at_ge' {l : List UInt8} {i : Nat} (h : l.length ≤ i) : Tx.at_ l i = -1 := Tx.at_ge (by omega)

set_option maxHeartbeats 4000000 in
theorem Length_any (l : List UInt8) (w : World) (hl : l.length ≤ 9223372036854775807) :
    Calls Tryz.prog 145 #[.string (bs l)] w fun e w' => e = .returned (.int .i64 (Tx.num true l : Nat)) ∧ w' = w := by
  obtain ⟨e0, e1, e2, e3, e4, e5⟩ := bs_tells l
  clear e3 e4 e5
  go_enter Tryz.func145, Tryz.ntmps145
  go_wp2_with (first
    | (go_at_call 156; refine (digitsLength_let _ _ (by simp only [List.length_drop]; omega)).mono ?_; rintro e w' ⟨k, rfl, rfl, hk, hle⟩; rw [List.length_drop] at hle)
    | (go_at_call 155; refine (signLength_any _ _ (by first | exact hl | (simp only [List.length_drop]; omega))).mono ?_; rintro e w' ⟨k, rfl, rfl, hk, hle⟩; try rw [List.length_drop] at hle))
  all_goals
    go_ret
    refine ⟨?_, rfl⟩
    clear e0 e1 e2
    simp only [Hid, Tx.sgn_drop, Nat.add_zero, ← Nat.add_assoc, ← Int.add_assoc, Int.not_lt, ← Int.natCast_add, Int.ofNat_le, Int.ofNat_lt] at *
    subst_vars
    try norm_cast at *
    try simp only [← Nat.add_assoc] at *
    show Ending.returned (.int .i64 _) = _
    refine congrArg (fun k : Nat => Ending.returned (.int .i64 (k : Int))) ?_
    simp_all [Tx.num, Tx.num1, Tx.num2, Tx.num3, Tx.at_ge']
end Go.Proofs.YtcclepohmhdpbabGreatDoor
