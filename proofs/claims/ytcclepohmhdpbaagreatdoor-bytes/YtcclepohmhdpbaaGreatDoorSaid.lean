/- WHAT THE DOCUMENT's READER HOLDS. -/
import Derived.Test.YtcclepohmhdpbaaGreatDoorStr
import Derived.Test.YtcclepohmhdpbaaGreatDoorFrame
namespace Go.Proofs.YtcclepohmhdpbaaGreatDoor
set_option linter.all false
open Go.RowKit Go.Deep

/-- What was said, in memory. -/
def SD (w : World) (b : Nat) (l : List UInt8) (bad wide : Bool) : Prop := VRow w b 102 [.string (bs l), .bool bad, .bool wide]
theorem SD.c0 {w : World} {b : Nat} {l : List UInt8} {bad wide : Bool} (h : SD w b l bad wide) : w.cell? ⟨b, 0, none⟩ = some (.string (bs l)) := VRow.cell h rfl
theorem SD.c1 {w : World} {b : Nat} {l : List UInt8} {bad wide : Bool} (h : SD w b l bad wide) : w.cell? ⟨b, 1, none⟩ = some (.bool bad) := VRow.cell h rfl
theorem SD.c2 {w : World} {b : Nat} {l : List UInt8} {bad wide : Bool} (h : SD w b l bad wide) : w.cell? ⟨b, 2, none⟩ = some (.bool wide) := VRow.cell h rfl
theorem SD.f {w : World} {b : Nat} {l : List UInt8} {bad wide : Bool} (h : SD w b l bad wide) (i : Nat) : w.frozen? ⟨b, i, none⟩ = false := VRow.frozen h i
theorem SD.rest {w : World} {b : Nat} {l : List UInt8} {bad wide : Bool} (h : SD w b l bad wide) (t : List UInt8) : SD (w.setCell ⟨b, 0, none⟩ (.string (bs t))) b t bad wide := VRow.set h 0 _
theorem SD.bad {w : World} {b : Nat} {l : List UInt8} {bad wide : Bool} (h : SD w b l bad wide) (o : Bool) : SD (w.setCell ⟨b, 1, none⟩ (.bool o)) b l o wide := VRow.set h 1 _
theorem SD.wide {w : World} {b : Nat} {l : List UInt8} {bad wide : Bool} (h : SD w b l bad wide) (o : Bool) : SD (w.setCell ⟨b, 2, none⟩ (.bool o)) b l bad o := VRow.set h 2 _
theorem SD.facts {w : World} {b : Nat} {l : List UInt8} {bad wide : Bool} (h : SD w b l bad wide) :
    w.cell? ⟨b, 0, none⟩ = some (.string (bs l)) ∧ w.cell? ⟨b, 1, none⟩ = some (.bool bad) ∧ w.cell? ⟨b, 2, none⟩ = some (.bool wide) ∧ w.frozen? ⟨b, 0, none⟩ = false ∧ w.frozen? ⟨b, 1, none⟩ = false ∧ w.frozen? ⟨b, 2, none⟩ = false :=
  ⟨h.c0, h.c1, h.c2, h.f 0, h.f 1, h.f 2⟩
end Go.Proofs.YtcclepohmhdpbaaGreatDoor
