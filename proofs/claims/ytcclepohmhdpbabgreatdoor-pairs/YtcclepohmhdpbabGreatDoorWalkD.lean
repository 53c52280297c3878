/- THE WALKS: the document's side: far, Wrong, far, Wrong. -/
import Derived.Test.YtcclepohmhdpbabGreatDoorNoted
import Derived.Deep.DeepCutAuto
namespace Go.Proofs.YtcclepohmhdpbabGreatDoor
set_option linter.all false
open Go.RowKit Go.Deep

theorem wrong_of (m : Mult) : Pl.wrong m = if Pl.many m = true then 6 else if m.any Pl.badL = true then 5 else if m.any Pl.wideL = true then 4 else 0 := rfl

theorem or_step {B X Y Z Z' c : Bool} (h : B = (X || Y || Z)) (e : Z' = (Z || c)) : ∀ t : Bool, t = (B || c) → t = (X || Y || Z') := by
  intro t ht; rw [ht, h, e]; simp only [Bool.or_assoc]
theorem or_step1 {B X Z Z' c : Bool} (h : B = (X || Z)) (e : Z' = (Z || c)) : ∀ t : Bool, t = (B || c) → t = (X || Z') := by
  intro t ht; rw [ht, h, e]; simp only [Bool.or_assoc]

end Go.Proofs.YtcclepohmhdpbabGreatDoor
