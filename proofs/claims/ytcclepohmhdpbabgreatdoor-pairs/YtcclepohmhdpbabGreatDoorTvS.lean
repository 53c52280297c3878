/- TEXTS, READ: sets, plainly. -/
import Derived.Test.YtcclepohmhdpbabGreatDoorTwC
namespace Go.Proofs.YtcclepohmhdpbabGreatDoor
set_option linter.all false
open Go.RowKit Go.Deep

namespace Wt
open Bn (Res)
def name : List UInt8 := [77, 85, 76, 84, 73, 80, 79, 76, 89, 71, 79, 78]
def empty : List UInt8 := [69, 77, 80, 84, 89]
theorem polys_bare (l : List UInt8) (o : Bool) : polys (Tx.bare l) o = polys l o := by unfold polys list; rw [Tx.bare_bare]
def rest (r : List UInt8) : Res Mult := if (Tx.pre empty (Tx.bare r) && gap r) = true then some ([], Tx.aft empty (Tx.bare r), false) else polys r false
def set (l : List UInt8) : Res Mult := if Tx.pre name (Tx.bare l) = true then rest (Tx.aft name (Tx.bare l)) else none
def err (l : List UInt8) : Int := match set l with
  | none => 3
  | some x => Tx.fin (Tx.bare x.2.1) false x.2.2
def got (l : List UInt8) : Mult := match set l with
  | none => []
  | some x => x.1
theorem err_of {l t : List UInt8} {m : Mult} {bad o : Bool} (h : set l = if bad = true then none else some (m, t, o)) : err l = Tx.fin (Tx.bare t) bad o := by
  unfold err
  rw [h]
  cases bad
  · rfl
  · simp [Tx.fin]
theorem got_of {l t : List UInt8} {m : Mult} {bad o : Bool} (h : set l = if bad = true then none else some (m, t, o)) (hb : bad = false) : got l = m := by
  unfold got
  rw [h, hb]
  rfl
theorem fin_bad {t : List UInt8} {bad o : Bool} (h : Tx.fin t bad o = 0) : bad = false := by
  cases bad
  · rfl
  · simp [Tx.fin] at h
theorem got_ok {l : List UInt8} (hl : l.length ≤ 6000) : Bn.okM (got l) := by
  unfold got
  cases h : set l with
  | none => exact ⟨by simp, by simp⟩
  | some x =>
    unfold set at h
    split at h
    · unfold rest at h
      have hle : (Tx.aft name (Tx.bare l)).length ≤ 6000 := Nat.le_trans (Nat.le_trans (Tx.aft_le _ _) (Tx.bare_le l)) hl
      split at h
      · have := Option.some.inj h
        rw [← this]
        exact ⟨by simp, by simp⟩
      · exact (polys_lt h).2 hle
    · cases h
end Wt
end Go.Proofs.YtcclepohmhdpbabGreatDoor
