/- THE KNOWN SETS (written by wip/tool/kn.py from the program's own constants), and what the plain functions say of them. -/
import Derived.Test.YtcclepohmhdpbabGreatDoorTuD
import Derived.Test.YtcclepohmhdpbabGreatDoorTwG
import Derived.Test.YtcclepohmhdpbabGreatDoorDec
namespace Go.Proofs.YtcclepohmhdpbabGreatDoor
set_option linter.all false
open Go.RowKit Go.Deep
namespace Kn
structure S where
  rs : List (List UInt8)
  c : Int
def s0 : S := ⟨[], 0⟩
def s1 : S := ⟨[[83, 40, 48, 32, 48, 44, 32, 52, 32, 48, 44, 32, 52, 32, 52, 44, 32, 48, 32, 52, 44, 32, 48, 32, 48, 41]], 0⟩
def s2 : S := ⟨[[83, 40, 48, 32, 48, 44, 32, 50, 32, 50, 44, 32, 50, 32, 48, 44, 32, 48, 32, 50, 44, 32, 48, 32, 48, 41]], 1⟩
def s3 : S := ⟨[[83, 40, 48, 32, 48, 44, 32, 52, 32, 48, 44, 32, 50, 32, 48, 44, 32, 50, 32, 50, 44, 32, 48, 32, 48, 41]], 1⟩
def s4 : S := ⟨[[83, 40, 48, 32, 48, 44, 32, 52, 32, 48, 44, 32, 52, 32, 48, 44, 32, 52, 32, 52, 44, 32, 48, 32, 48, 41]], 1⟩
def s5 : S := ⟨[[83, 40, 48, 32, 48, 44, 32, 52, 32, 48, 44, 32, 52, 32, 52, 44, 32, 50, 32, 48, 44, 32, 48, 32, 52, 44, 32, 48, 32, 48, 41]], 1⟩
def s6 : S := ⟨[[83, 40, 48, 32, 48, 44, 32, 50, 32, 48, 44, 32, 52, 32, 48, 44, 32, 52, 32, 52, 44, 32, 50, 32, 50, 44, 32, 48, 32, 48, 41]], 0⟩
def s7 : S := ⟨[[83, 40, 48, 32, 48, 44, 32, 49, 32, 48, 44, 32, 48, 32, 48, 44, 32, 49, 32, 48, 44, 32, 48, 32, 48, 41]], 1⟩
def s8 : S := ⟨[[83, 40, 48, 32, 48, 44, 32, 52, 32, 48, 44, 32, 52, 32, 52, 44, 32, 48, 32, 52, 44, 32, 48, 32, 48, 41], [72, 40, 49, 32, 49, 44, 32, 50, 32, 49, 44, 32, 50, 32, 50, 44, 32, 49, 32, 49, 41]], 0⟩
def s9 : S := ⟨[[83, 40, 48, 32, 48, 44, 32, 52, 32, 48, 44, 32, 52, 32, 52, 44, 32, 48, 32, 52, 44, 32, 48, 32, 48, 41], [72, 40, 48, 32, 50, 44, 32, 49, 32, 49, 44, 32, 49, 32, 51, 44, 32, 48, 32, 50, 41]], 0⟩
def s10 : S := ⟨[[83, 40, 48, 32, 48, 44, 32, 52, 32, 48, 44, 32, 52, 32, 52, 44, 32, 48, 32, 52, 44, 32, 48, 32, 48, 41], [72, 40, 48, 32, 48, 44, 32, 50, 32, 49, 44, 32, 49, 32, 50, 44, 32, 48, 32, 48, 41]], 0⟩
def s11 : S := ⟨[[83, 40, 48, 32, 48, 44, 32, 52, 32, 48, 44, 32, 52, 32, 52, 44, 32, 48, 32, 52, 44, 32, 48, 32, 48, 41], [72, 40, 48, 32, 50, 44, 32, 50, 32, 49, 44, 32, 52, 32, 50, 44, 32, 50, 32, 51, 44, 32, 48, 32, 50, 41]], 4⟩
def s12 : S := ⟨[[83, 40, 48, 32, 48, 44, 32, 52, 32, 48, 44, 32, 52, 32, 52, 44, 32, 48, 32, 52, 44, 32, 48, 32, 48, 41], [72, 40, 48, 32, 49, 44, 32, 49, 32, 49, 44, 32, 49, 32, 50, 44, 32, 48, 32, 50, 44, 32, 48, 32, 49, 41]], 2⟩
def s13 : S := ⟨[[83, 40, 48, 32, 48, 44, 32, 52, 32, 48, 44, 32, 52, 32, 52, 44, 32, 48, 32, 52, 44, 32, 48, 32, 48, 41], [72, 40, 51, 32, 49, 44, 32, 53, 32, 49, 44, 32, 53, 32, 51, 44, 32, 51, 32, 51, 44, 32, 51, 32, 49, 41]], 2⟩
def s14 : S := ⟨[[83, 40, 48, 32, 48, 44, 32, 52, 32, 48, 44, 32, 52, 32, 52, 44, 32, 48, 32, 52, 44, 32, 48, 32, 48, 41], [72, 40, 53, 32, 53, 44, 32, 54, 32, 53, 44, 32, 54, 32, 54, 44, 32, 53, 32, 53, 41]], 3⟩
def s15 : S := ⟨[[83, 40, 48, 32, 48, 44, 32, 52, 32, 48, 44, 32, 52, 32, 52, 44, 32, 48, 32, 52, 44, 32, 48, 32, 48, 41], [72, 40, 50, 32, 50, 44, 32, 52, 32, 49, 44, 32, 53, 32, 50, 44, 32, 52, 32, 51, 44, 32, 50, 32, 50, 41]], 3⟩
def s16 : S := ⟨[[83, 40, 48, 32, 48, 44, 32, 52, 32, 48, 44, 32, 52, 32, 52, 44, 32, 48, 32, 52, 44, 32, 48, 32, 48, 41], [72, 40, 45, 49, 32, 45, 49, 44, 32, 53, 32, 45, 49, 44, 32, 53, 32, 53, 44, 32, 45, 49, 32, 53, 44, 32, 45, 49, 32, 45, 49, 41]], 3⟩
def s17 : S := ⟨[[83, 40, 48, 32, 48, 44, 32, 52, 32, 48, 44, 32, 52, 32, 52, 44, 32, 48, 32, 52, 44, 32, 48, 32, 48, 41], [72, 40, 49, 32, 49, 44, 32, 51, 32, 49, 44, 32, 51, 32, 51, 44, 32, 49, 32, 51, 44, 32, 49, 32, 49, 41], [72, 40, 49, 46, 53, 32, 49, 46, 53, 44, 32, 50, 32, 49, 46, 53, 44, 32, 50, 32, 50, 44, 32, 49, 46, 53, 32, 49, 46, 53, 41]], 3⟩
def s18 : S := ⟨[[83, 40, 48, 32, 48, 44, 32, 52, 32, 48, 44, 32, 52, 32, 52, 44, 32, 48, 32, 52, 44, 32, 48, 32, 48, 41], [72, 40, 49, 46, 53, 32, 49, 46, 53, 44, 32, 50, 32, 49, 46, 53, 44, 32, 50, 32, 50, 44, 32, 49, 46, 53, 32, 49, 46, 53, 41], [72, 40, 49, 32, 49, 44, 32, 51, 32, 49, 44, 32, 51, 32, 51, 44, 32, 49, 32, 51, 44, 32, 49, 32, 49, 41]], 3⟩
def s19 : S := ⟨[[83, 40, 48, 32, 48, 44, 32, 52, 32, 48, 44, 32, 52, 32, 52, 44, 32, 48, 32, 52, 44, 32, 48, 32, 48, 41], [72, 40, 52, 32, 49, 44, 32, 51, 32, 48, 46, 53, 44, 32, 51, 32, 49, 46, 50, 53, 44, 32, 52, 32, 49, 41], [72, 40, 52, 32, 51, 44, 32, 51, 32, 50, 46, 55, 53, 44, 32, 51, 32, 51, 46, 53, 44, 32, 52, 32, 51, 41], [83, 40, 52, 32, 49, 44, 32, 56, 32, 48, 44, 32, 56, 32, 52, 44, 32, 52, 32, 51, 44, 32, 54, 32, 50, 44, 32, 52, 32, 49, 41], [72, 40, 52, 32, 49, 44, 32, 54, 32, 49, 44, 32, 54, 32, 49, 46, 53, 44, 32, 52, 32, 49, 41], [72, 40, 52, 32, 51, 44, 32, 54, 32, 51, 44, 32, 54, 32, 50, 46, 53, 44, 32, 52, 32, 51, 41]], 0⟩
def s20 : S := ⟨[[83, 40, 48, 32, 48, 44, 32, 52, 32, 48, 44, 32, 52, 32, 52, 44, 32, 48, 32, 52, 44, 32, 48, 32, 48, 41], [72, 40, 49, 32, 49, 44, 32, 50, 32, 49, 44, 32, 50, 32, 50, 44, 32, 49, 32, 49, 41], [72, 40, 50, 32, 50, 44, 32, 51, 32, 50, 44, 32, 51, 32, 51, 44, 32, 50, 32, 50, 41]], 0⟩
def s21 : S := ⟨[[83, 40, 48, 32, 48, 44, 32, 52, 32, 48, 44, 32, 52, 32, 52, 44, 32, 48, 32, 52, 44, 32, 48, 32, 48, 41], [72, 40, 49, 32, 49, 44, 32, 51, 32, 49, 44, 32, 50, 32, 50, 44, 32, 49, 32, 49, 41], [72, 40, 49, 32, 49, 44, 32, 50, 32, 51, 44, 32, 51, 32, 49, 44, 32, 50, 32, 50, 46, 53, 44, 32, 49, 32, 49, 41]], 4⟩
def s22 : S := ⟨[[83, 40, 48, 32, 48, 44, 32, 52, 32, 48, 44, 32, 52, 32, 52, 44, 32, 48, 32, 52, 44, 32, 48, 32, 48, 41], [72, 40, 49, 32, 49, 44, 32, 50, 32, 49, 44, 32, 49, 46, 53, 32, 50, 44, 32, 49, 32, 49, 41], [72, 40, 50, 32, 49, 44, 32, 51, 32, 49, 44, 32, 50, 46, 53, 32, 50, 44, 32, 50, 32, 49, 41], [72, 40, 49, 46, 53, 32, 50, 44, 32, 50, 46, 53, 32, 50, 44, 32, 50, 32, 51, 44, 32, 49, 46, 53, 32, 50, 41]], 4⟩
def s23 : S := ⟨[[83, 40, 48, 32, 48, 44, 32, 52, 32, 48, 44, 32, 52, 32, 52, 44, 32, 48, 32, 52, 44, 32, 48, 32, 48, 41], [72, 40, 49, 32, 49, 44, 32, 50, 32, 49, 44, 32, 50, 32, 50, 44, 32, 49, 32, 49, 41], [72, 40, 49, 32, 49, 44, 32, 49, 32, 50, 44, 32, 50, 32, 50, 44, 32, 49, 32, 49, 41]], 2⟩
def s24 : S := ⟨[[83, 40, 48, 32, 48, 44, 32, 52, 32, 48, 44, 32, 52, 32, 52, 44, 32, 48, 32, 52, 44, 32, 48, 32, 48, 41], [83, 40, 53, 32, 48, 44, 32, 54, 32, 48, 44, 32, 54, 32, 49, 44, 32, 53, 32, 48, 41]], 0⟩
def s25 : S := ⟨[[83, 40, 48, 32, 48, 44, 32, 52, 32, 48, 44, 32, 52, 32, 52, 44, 32, 48, 32, 52, 44, 32, 48, 32, 48, 41], [83, 40, 52, 32, 50, 44, 32, 54, 32, 49, 44, 32, 54, 32, 51, 44, 32, 52, 32, 50, 41]], 0⟩
def s26 : S := ⟨[[83, 40, 48, 32, 48, 44, 32, 52, 32, 48, 44, 32, 52, 32, 52, 44, 32, 48, 32, 52, 44, 32, 48, 32, 48, 41], [83, 40, 52, 32, 52, 44, 32, 54, 32, 52, 44, 32, 54, 32, 54, 44, 32, 52, 32, 52, 41], [83, 40, 48, 32, 48, 44, 32, 45, 49, 32, 48, 44, 32, 48, 32, 45, 49, 44, 32, 48, 32, 48, 41]], 0⟩
def s27 : S := ⟨[[83, 40, 48, 32, 48, 44, 32, 52, 32, 48, 44, 32, 52, 32, 52, 44, 32, 48, 32, 52, 44, 32, 48, 32, 48, 41], [83, 40, 52, 32, 49, 44, 32, 54, 32, 49, 44, 32, 54, 32, 51, 44, 32, 52, 32, 51, 44, 32, 52, 32, 49, 41]], 5⟩
def s28 : S := ⟨[[83, 40, 48, 32, 48, 44, 32, 52, 32, 48, 44, 32, 52, 32, 52, 44, 32, 48, 32, 52, 44, 32, 48, 32, 48, 41], [83, 40, 51, 32, 49, 44, 32, 53, 32, 49, 44, 32, 53, 32, 51, 44, 32, 51, 32, 51, 44, 32, 51, 32, 49, 41]], 5⟩
def s29 : S := ⟨[[83, 40, 48, 32, 48, 44, 32, 52, 32, 48, 44, 32, 52, 32, 52, 44, 32, 48, 32, 52, 44, 32, 48, 32, 48, 41], [83, 40, 49, 32, 49, 44, 32, 50, 32, 49, 44, 32, 50, 32, 50, 44, 32, 49, 32, 49, 41]], 5⟩
def s30 : S := ⟨[[83, 40, 48, 32, 48, 44, 32, 52, 32, 48, 44, 32, 52, 32, 52, 44, 32, 48, 32, 52, 44, 32, 48, 32, 48, 41], [83, 40, 48, 32, 48, 44, 32, 52, 32, 48, 44, 32, 52, 32, 52, 44, 32, 48, 32, 52, 44, 32, 48, 32, 48, 41]], 5⟩
def s31 : S := ⟨[[83, 40, 48, 32, 48, 44, 32, 52, 32, 48, 44, 32, 52, 32, 52, 44, 32, 48, 32, 52, 44, 32, 48, 32, 48, 41], [83, 40, 48, 32, 50, 44, 32, 50, 32, 48, 44, 32, 52, 32, 50, 44, 32, 50, 32, 52, 44, 32, 48, 32, 50, 41]], 5⟩
def s32 : S := ⟨[[83, 40, 48, 32, 48, 44, 32, 52, 32, 48, 44, 32, 52, 32, 52, 44, 32, 48, 32, 52, 44, 32, 48, 32, 48, 41], [72, 40, 49, 32, 49, 44, 32, 51, 32, 49, 44, 32, 51, 32, 51, 44, 32, 49, 32, 51, 44, 32, 49, 32, 49, 41], [83, 40, 49, 46, 53, 32, 49, 46, 53, 44, 32, 50, 46, 53, 32, 49, 46, 53, 44, 32, 50, 32, 50, 46, 53, 44, 32, 49, 46, 53, 32, 49, 46, 53, 41]], 0⟩
def s33 : S := ⟨[[83, 40, 48, 32, 48, 44, 32, 52, 32, 48, 44, 32, 52, 32, 52, 44, 32, 48, 32, 52, 44, 32, 48, 32, 48, 41], [72, 40, 49, 32, 49, 44, 32, 51, 32, 49, 44, 32, 51, 32, 51, 44, 32, 49, 32, 51, 44, 32, 49, 32, 49, 41], [83, 40, 49, 32, 50, 44, 32, 50, 32, 49, 44, 32, 51, 32, 50, 44, 32, 50, 32, 51, 44, 32, 49, 32, 50, 41]], 0⟩
def s34 : S := ⟨[[83, 40, 48, 32, 48, 44, 32, 52, 32, 48, 44, 32, 52, 32, 52, 44, 32, 48, 32, 52, 44, 32, 48, 32, 48, 41], [72, 40, 49, 32, 49, 44, 32, 51, 32, 49, 44, 32, 51, 32, 51, 44, 32, 49, 32, 51, 44, 32, 49, 32, 49, 41], [83, 40, 49, 32, 49, 44, 32, 51, 32, 49, 44, 32, 51, 32, 51, 44, 32, 49, 32, 51, 44, 32, 49, 32, 49, 41]], 5⟩
def s35 : S := ⟨[[83, 40, 48, 32, 48, 44, 32, 52, 32, 48, 44, 32, 52, 32, 52, 44, 32, 48, 32, 52, 44, 32, 48, 32, 48, 41], [72, 40, 49, 32, 49, 44, 32, 51, 32, 49, 44, 32, 51, 32, 51, 44, 32, 49, 32, 51, 44, 32, 49, 32, 49, 41], [83, 40, 48, 46, 53, 32, 50, 44, 32, 50, 32, 49, 44, 32, 51, 32, 50, 44, 32, 50, 32, 51, 44, 32, 48, 46, 53, 32, 50, 41]], 5⟩
def tab : List S := [s0, s1, s2, s3, s4, s5, s6, s7, s8, s9, s10, s11, s12, s13, s14, s15, s16, s17, s18, s19, s20, s21, s22, s23, s24, s25, s26, s27, s28, s29, s30, s31, s32, s33, s34, s35]
/-- what stands ahead of a ring. -/
def gap (i : Nat) (r : List UInt8) : List UInt8 := if r.head? = some 83 then (if 0 < i then [41, 44, 32] else []) ++ [40] else [44, 32]
def body (l : List (List UInt8)) (n : Nat) : List UInt8 := (List.range n).flatMap fun i => gap i (l.getD i []) ++ (l.getD i []).drop 1
def word : List UInt8 := [77, 85, 76, 84, 73, 80, 79, 76, 89, 71, 79, 78, 32, 40]
def none : List UInt8 := [77, 85, 76, 84, 73, 80, 79, 76, 89, 71, 79, 78, 32, 69, 77, 80, 84, 89]
def text (l : List (List UInt8)) : List UInt8 := if l.length = 0 then none else word ++ body l l.length ++ [41, 41]
def turn (m : Mult) : Bool := m.all fun l => l.all fun r => !((Vd.corners r).length == 0)
def good (s : S) : Bool := decide (s.rs.length ≤ 100) && (s.rs.all fun r => decide (1 ≤ r.length) && decide (r.length ≤ 1000)) && decide ((text s.rs).length ≤ 6000) && (Wt.err (text s.rs) == 0) && (Pl.wrong (Wt.got (text s.rs)) == 0) && (Vd.least (Wt.got (text s.rs)) == s.c) && (!(s.c == 0) || turn (Wt.got (text s.rs)))
set_option maxRecDepth 100000 in
theorem g0 : good s0 = true := by decide +kernel
set_option maxRecDepth 100000 in
theorem g1 : good s1 = true := by decide +kernel
set_option maxRecDepth 100000 in
theorem g2 : good s2 = true := by decide +kernel
set_option maxRecDepth 100000 in
theorem g3 : good s3 = true := by decide +kernel
set_option maxRecDepth 100000 in
theorem g4 : good s4 = true := by decide +kernel
set_option maxRecDepth 100000 in
theorem g5 : good s5 = true := by decide +kernel
set_option maxRecDepth 100000 in
theorem g6 : good s6 = true := by decide +kernel
set_option maxRecDepth 100000 in
theorem g7 : good s7 = true := by decide +kernel
set_option maxRecDepth 100000 in
theorem g8 : good s8 = true := by decide +kernel
set_option maxRecDepth 100000 in
theorem g9 : good s9 = true := by decide +kernel
set_option maxRecDepth 100000 in
theorem g10 : good s10 = true := by decide +kernel
set_option maxRecDepth 100000 in
theorem g11 : good s11 = true := by decide +kernel
set_option maxRecDepth 100000 in
theorem g12 : good s12 = true := by decide +kernel
set_option maxRecDepth 100000 in
theorem g13 : good s13 = true := by decide +kernel
set_option maxRecDepth 100000 in
theorem g14 : good s14 = true := by decide +kernel
set_option maxRecDepth 100000 in
theorem g15 : good s15 = true := by decide +kernel
set_option maxRecDepth 100000 in
theorem g16 : good s16 = true := by decide +kernel
set_option maxRecDepth 100000 in
theorem g17 : good s17 = true := by decide +kernel
set_option maxRecDepth 100000 in
theorem g18 : good s18 = true := by decide +kernel
set_option maxRecDepth 100000 in
theorem g19 : good s19 = true := by decide +kernel
set_option maxRecDepth 100000 in
theorem g20 : good s20 = true := by decide +kernel
set_option maxRecDepth 100000 in
theorem g21 : good s21 = true := by decide +kernel
set_option maxRecDepth 100000 in
theorem g22 : good s22 = true := by decide +kernel
set_option maxRecDepth 100000 in
theorem g23 : good s23 = true := by decide +kernel
set_option maxRecDepth 100000 in
theorem g24 : good s24 = true := by decide +kernel
set_option maxRecDepth 100000 in
theorem g25 : good s25 = true := by decide +kernel
set_option maxRecDepth 100000 in
theorem g26 : good s26 = true := by decide +kernel
set_option maxRecDepth 100000 in
theorem g27 : good s27 = true := by decide +kernel
set_option maxRecDepth 100000 in
theorem g28 : good s28 = true := by decide +kernel
set_option maxRecDepth 100000 in
theorem g29 : good s29 = true := by decide +kernel
set_option maxRecDepth 100000 in
theorem g30 : good s30 = true := by decide +kernel
set_option maxRecDepth 100000 in
theorem g31 : good s31 = true := by decide +kernel
set_option maxRecDepth 100000 in
theorem g32 : good s32 = true := by decide +kernel
set_option maxRecDepth 100000 in
theorem g33 : good s33 = true := by decide +kernel
set_option maxRecDepth 100000 in
theorem g34 : good s34 = true := by decide +kernel
set_option maxRecDepth 100000 in
theorem g35 : good s35 = true := by decide +kernel
theorem all : ∀ s ∈ tab, good s = true := by
  intro s h
  simp only [tab, List.mem_cons, List.not_mem_nil, or_false] at h
  rcases h with rfl | rfl | rfl | rfl | rfl | rfl | rfl | rfl | rfl | rfl | rfl | rfl | rfl | rfl | rfl | rfl | rfl | rfl | rfl | rfl | rfl | rfl | rfl | rfl | rfl | rfl | rfl | rfl | rfl | rfl | rfl | rfl | rfl | rfl | rfl | rfl
  · exact g0
  · exact g1
  · exact g2
  · exact g3
  · exact g4
  · exact g5
  · exact g6
  · exact g7
  · exact g8
  · exact g9
  · exact g10
  · exact g11
  · exact g12
  · exact g13
  · exact g14
  · exact g15
  · exact g16
  · exact g17
  · exact g18
  · exact g19
  · exact g20
  · exact g21
  · exact g22
  · exact g23
  · exact g24
  · exact g25
  · exact g26
  · exact g27
  · exact g28
  · exact g29
  · exact g30
  · exact g31
  · exact g32
  · exact g33
  · exact g34
  · exact g35
theorem len : tab.length = 36 := by decide
end Kn
end Go.Proofs.YtcclepohmhdpbabGreatDoor
