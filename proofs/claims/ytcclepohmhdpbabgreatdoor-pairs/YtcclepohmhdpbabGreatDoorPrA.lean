/- THE KNOWN PAIRS (written by wip/tool/pr.py from the program's own constants), and what the plain functions say of them. -/
import Derived.Test.YtcclepohmhdpbabGreatDoorKnB
import Derived.Test.YtcclepohmhdpbabGreatDoorCnP
namespace Go.Proofs.YtcclepohmhdpbabGreatDoor
set_option linter.all false
open Go.RowKit Go.Deep
namespace Pr
def a0 : List (List UInt8) := [[83, 40, 48, 32, 48, 44, 32, 52, 32, 48, 44, 32, 52, 32, 52, 44, 32, 48, 32, 50, 44, 32, 48, 32, 48, 41]]
def b0 : List (List UInt8) := [[83, 40, 48, 32, 48, 44, 32, 52, 32, 48, 44, 32, 52, 32, 50, 44, 32, 48, 32, 52, 44, 32, 48, 32, 48, 41]]
def a1 : List (List UInt8) := [[83, 40, 48, 32, 48, 44, 32, 52, 32, 48, 44, 32, 52, 32, 50, 44, 32, 48, 32, 50, 44, 32, 48, 32, 48, 41]]
def b1 : List (List UInt8) := [[83, 40, 48, 32, 48, 44, 32, 54, 32, 48, 44, 32, 54, 32, 50, 44, 32, 48, 32, 50, 44, 32, 48, 32, 48, 41]]
def a2 : List (List UInt8) := [[83, 40, 48, 32, 48, 44, 32, 52, 32, 48, 44, 32, 52, 32, 50, 44, 32, 48, 32, 50, 44, 32, 48, 32, 48, 41]]
def b2 : List (List UInt8) := [[83, 40, 45, 50, 32, 48, 44, 32, 52, 32, 48, 44, 32, 52, 32, 50, 44, 32, 45, 50, 32, 50, 44, 32, 45, 50, 32, 48, 41]]
def a3 : List (List UInt8) := [[83, 40, 48, 32, 48, 44, 32, 52, 32, 48, 44, 32, 52, 32, 52, 44, 32, 48, 32, 52, 44, 32, 48, 32, 48, 41]]
def b3 : List (List UInt8) := [[83, 40, 48, 32, 48, 44, 32, 52, 32, 48, 44, 32, 52, 32, 52, 44, 32, 48, 32, 52, 44, 32, 48, 32, 48, 41], [72, 40, 49, 32, 49, 44, 32, 50, 32, 49, 44, 32, 49, 32, 50, 44, 32, 49, 32, 49, 41]]
def a4 : List (List UInt8) := [[83, 40, 48, 32, 48, 44, 32, 52, 32, 48, 44, 32, 52, 32, 52, 44, 32, 48, 32, 52, 44, 32, 48, 32, 48, 41]]
def b4 : List (List UInt8) := [[83, 40, 48, 32, 48, 44, 32, 52, 32, 48, 44, 32, 52, 32, 52, 44, 32, 48, 32, 52, 44, 32, 48, 32, 48, 41], [83, 40, 52, 32, 52, 44, 32, 53, 32, 53, 44, 32, 53, 32, 54, 44, 32, 52, 32, 52, 41]]
def a5 : List (List UInt8) := [[83, 40, 48, 32, 48, 44, 32, 52, 32, 48, 44, 32, 52, 32, 52, 44, 32, 48, 32, 52, 44, 32, 48, 32, 48, 41], [83, 40, 57, 32, 48, 44, 32, 49, 48, 32, 48, 44, 32, 49, 48, 32, 49, 44, 32, 57, 32, 48, 41]]
def b5 : List (List UInt8) := [[83, 40, 48, 32, 48, 44, 32, 52, 32, 48, 44, 32, 52, 32, 52, 44, 32, 48, 32, 52, 44, 32, 48, 32, 48, 41], [83, 40, 57, 32, 48, 44, 32, 49, 48, 32, 48, 44, 32, 49, 48, 32, 49, 44, 32, 57, 32, 49, 44, 32, 57, 32, 48, 41]]
def a6 : List (List UInt8) := []
def b6 : List (List UInt8) := [[83, 40, 48, 32, 48, 44, 32, 48, 46, 48, 54, 50, 53, 32, 48, 44, 32, 48, 32, 48, 46, 48, 54, 50, 53, 44, 32, 48, 32, 48, 41]]
def a7 : List (List UInt8) := [[83, 40, 48, 32, 48, 44, 32, 56, 32, 48, 44, 32, 56, 32, 53, 44, 32, 52, 32, 51, 44, 32, 48, 32, 53, 44, 32, 48, 32, 48, 41]]
def b7 : List (List UInt8) := [[83, 40, 48, 32, 48, 44, 32, 56, 32, 48, 44, 32, 56, 32, 51, 44, 32, 52, 32, 53, 44, 32, 48, 32, 51, 44, 32, 48, 32, 48, 41]]
def a8 : List (List UInt8) := [[83, 40, 48, 32, 48, 44, 32, 50, 48, 52, 56, 32, 48, 44, 32, 50, 48, 52, 56, 32, 50, 48, 52, 56, 44, 32, 48, 32, 48, 41]]
def b8 : List (List UInt8) := [[83, 40, 48, 32, 48, 44, 32, 50, 48, 52, 56, 32, 48, 44, 32, 50, 48, 52, 56, 32, 50, 48, 52, 55, 46, 57, 51, 55, 53, 44, 32, 48, 32, 48, 41]]
def tab : List (List (List UInt8) × List (List UInt8)) := [(a0, b0), (a1, b1), (a2, b2), (a3, b3), (a4, b4), (a5, b5), (a6, b6), (a7, b7), (a8, b8)]
/-- A text that is a valid set. -/
def ok (l : List (List UInt8)) : Bool := decide (l.length ≤ 100) && (l.all fun r => decide (1 ≤ r.length) && decide (r.length ≤ 1000)) && decide ((Kn.text l).length ≤ 6000) && (Wt.err (Kn.text l) == 0) && (Pl.wrong (Wt.got (Kn.text l)) == 0) && (Vd.least (Wt.got (Kn.text l)) == 0) && Kn.turn (Wt.got (Kn.text l)) && (Pl.wrong (Vd.form (Wt.got (Kn.text l))) == 0)
def apart (p : List (List UInt8) × List (List UInt8)) : Bool := (Vd.spot (Vd.form (Wt.got (Kn.text p.1))) (Vd.form (Wt.got (Kn.text p.2)))).isSome && (Vd.spot (Vd.form (Wt.got (Kn.text p.2))) (Vd.form (Wt.got (Kn.text p.1)))).isSome && (Vd.spot (Vd.form (Wt.got (Kn.text p.1))) (Vd.form (Wt.got (Kn.text p.1)))).isNone
set_option maxRecDepth 100000 in
theorem oka0 : ok a0 = true := by decide +kernel
set_option maxRecDepth 100000 in
theorem okb0 : ok b0 = true := by decide +kernel
set_option maxRecDepth 100000 in
theorem ap0 : apart (a0, b0) = true := by decide +kernel
set_option maxRecDepth 100000 in
theorem oka1 : ok a1 = true := by decide +kernel
set_option maxRecDepth 100000 in
theorem okb1 : ok b1 = true := by decide +kernel
set_option maxRecDepth 100000 in
theorem ap1 : apart (a1, b1) = true := by decide +kernel
set_option maxRecDepth 100000 in
theorem oka2 : ok a2 = true := by decide +kernel
set_option maxRecDepth 100000 in
theorem okb2 : ok b2 = true := by decide +kernel
set_option maxRecDepth 100000 in
theorem ap2 : apart (a2, b2) = true := by decide +kernel
set_option maxRecDepth 100000 in
theorem oka3 : ok a3 = true := by decide +kernel
set_option maxRecDepth 100000 in
theorem okb3 : ok b3 = true := by decide +kernel
set_option maxRecDepth 100000 in
theorem ap3 : apart (a3, b3) = true := by decide +kernel
set_option maxRecDepth 100000 in
theorem oka4 : ok a4 = true := by decide +kernel
set_option maxRecDepth 100000 in
theorem okb4 : ok b4 = true := by decide +kernel
set_option maxRecDepth 100000 in
theorem ap4 : apart (a4, b4) = true := by decide +kernel
set_option maxRecDepth 100000 in
theorem oka5 : ok a5 = true := by decide +kernel
set_option maxRecDepth 100000 in
theorem okb5 : ok b5 = true := by decide +kernel
set_option maxRecDepth 100000 in
theorem ap5 : apart (a5, b5) = true := by decide +kernel
set_option maxRecDepth 100000 in
theorem oka6 : ok a6 = true := by decide +kernel
set_option maxRecDepth 100000 in
theorem okb6 : ok b6 = true := by decide +kernel
set_option maxRecDepth 100000 in
theorem ap6 : apart (a6, b6) = true := by decide +kernel
set_option maxRecDepth 100000 in
theorem oka7 : ok a7 = true := by decide +kernel
set_option maxRecDepth 100000 in
theorem okb7 : ok b7 = true := by decide +kernel
set_option maxRecDepth 100000 in
theorem ap7 : apart (a7, b7) = true := by decide +kernel
set_option maxRecDepth 100000 in
theorem oka8 : ok a8 = true := by decide +kernel
set_option maxRecDepth 100000 in
theorem okb8 : ok b8 = true := by decide +kernel
set_option maxRecDepth 100000 in
theorem ap8 : apart (a8, b8) = true := by decide +kernel
theorem all : ∀ p ∈ tab, (ok p.1 = true ∧ ok p.2 = true) ∧ apart p = true := by
  intro s h
  simp only [tab, List.mem_cons, List.not_mem_nil, or_false] at h
  rcases h with rfl | rfl | rfl | rfl | rfl | rfl | rfl | rfl | rfl
  · exact ⟨⟨oka0, okb0⟩, ap0⟩
  · exact ⟨⟨oka1, okb1⟩, ap1⟩
  · exact ⟨⟨oka2, okb2⟩, ap2⟩
  · exact ⟨⟨oka3, okb3⟩, ap3⟩
  · exact ⟨⟨oka4, okb4⟩, ap4⟩
  · exact ⟨⟨oka5, okb5⟩, ap5⟩
  · exact ⟨⟨oka6, okb6⟩, ap6⟩
  · exact ⟨⟨oka7, okb7⟩, ap7⟩
  · exact ⟨⟨oka8, okb8⟩, ap8⟩
theorem len : tab.length = 9 := by decide
end Pr
end Go.Proofs.YtcclepohmhdpbabGreatDoor
