/- THE KNOWN TEXTS OF Told (written by wip/tool/told.py from the program's own constants), and what the plain parsers say of them. -/
import Derived.Test.YtcclepohmhdpbaaJpL
import Derived.Test.YtcclepohmhdpbaaBnDec
import Derived.Test.YtcclepohmhdpbaaTwG
import Derived.Test.YtcclepohmhdpbaaDec
namespace Go.Proofs.Ytcclepohmhdpbaa
set_option linter.all false
open Go.RowKit Go.Deep
namespace Tl
structure W where
  s : List UInt8
  f : Int
  e : Int
  x : Int
def w0 : W := ⟨[77, 85, 76, 84, 73, 80, 79, 76, 89, 71, 79, 78, 32, 40, 40, 40, 48, 32, 48, 44, 32, 49, 32, 48, 44, 32, 49, 32, 49, 44, 32, 48, 32, 48, 41, 41, 41], 0, 0, 16⟩
def w1 : W := ⟨[77, 85, 76, 84, 73, 80, 79, 76, 89, 71, 79, 78, 40, 40, 40, 48, 32, 48, 44, 49, 32, 48, 44, 32, 49, 32, 49, 44, 32, 48, 32, 48, 41, 41, 41], 0, 0, 16⟩
def w2 : W := ⟨[77, 85, 76, 84, 73, 80, 79, 76, 89, 71, 79, 78, 32, 40, 40, 40, 48, 32, 48, 44, 32, 43, 49, 46, 48, 54, 50, 53, 32, 45, 48, 44, 32, 49, 32, 49, 44, 32, 48, 32, 48, 41, 41, 41], 0, 0, 17⟩
def w3 : W := ⟨[77, 85, 76, 84, 73, 80, 79, 76, 89, 71, 79, 78, 32, 40, 40, 40, 48, 32, 48, 44, 32, 48, 48, 54, 50, 53, 101, 45, 52, 32, 48, 44, 32, 49, 32, 49, 44, 32, 48, 32, 48, 41, 41, 41], 0, 0, 1⟩
def w4 : W := ⟨[77, 85, 76, 84, 73, 80, 79, 76, 89, 71, 79, 78, 32, 40, 40, 40, 48, 32, 48, 44, 32, 48, 46, 48, 48, 48, 48, 50, 69, 43, 53, 32, 48, 44, 32, 49, 32, 49, 44, 32, 48, 32, 48, 41, 41, 41], 0, 0, 32⟩
def w5 : W := ⟨[77, 85, 76, 84, 73, 80, 79, 76, 89, 71, 79, 78, 32, 40, 40, 40, 48, 32, 48, 44, 32, 50, 48, 52, 56, 32, 48, 44, 32, 49, 32, 49, 44, 32, 48, 32, 48, 41, 41, 41], 0, 0, 32768⟩
def w6 : W := ⟨[77, 85, 76, 84, 73, 80, 79, 76, 89, 71, 79, 78, 32, 40, 40, 40, 48, 32, 48, 44, 32, 45, 50, 48, 52, 56, 46, 48, 32, 48, 44, 32, 49, 32, 49, 44, 32, 48, 32, 48, 41, 41, 41], 0, 0, -32768⟩
def w7 : W := ⟨[77, 85, 76, 84, 73, 80, 79, 76, 89, 71, 79, 78, 32, 40, 40, 40, 48, 32, 48, 44, 32, 50, 48, 52, 56, 46, 48, 54, 50, 53, 32, 48, 44, 32, 49, 32, 49, 44, 32, 48, 32, 48, 41, 41, 41], 0, 4, 0⟩
def w8 : W := ⟨[77, 85, 76, 84, 73, 80, 79, 76, 89, 71, 79, 78, 32, 40, 40, 40, 48, 32, 48, 44, 32, 48, 46, 48, 51, 49, 50, 53, 32, 48, 44, 32, 49, 32, 49, 44, 32, 48, 32, 48, 41, 41, 41], 0, 4, 0⟩
def w9 : W := ⟨[77, 85, 76, 84, 73, 80, 79, 76, 89, 71, 79, 78, 32, 40, 40, 40, 48, 32, 48, 44, 32, 49, 101, 52, 48, 48, 32, 48, 44, 32, 49, 32, 49, 44, 32, 48, 32, 48, 41, 41, 41], 0, 4, 0⟩
def w10 : W := ⟨[77, 85, 76, 84, 73, 80, 79, 76, 89, 71, 79, 78, 32, 40, 40, 40, 48, 32, 48, 44, 32, 48, 101, 52, 48, 48, 32, 48, 44, 32, 49, 32, 49, 44, 32, 48, 32, 48, 41, 41, 41], 0, 0, 0⟩
def w11 : W := ⟨[77, 85, 76, 84, 73, 80, 79, 76, 89, 71, 79, 78, 32, 40, 40, 40, 48, 32, 48, 44, 32, 48, 46, 49, 32, 48, 44, 32, 49, 32, 49, 44, 32, 48, 32, 48, 41, 41, 41], 0, 4, 0⟩
def w12 : W := ⟨[77, 85, 76, 84, 73, 80, 79, 76, 89, 71, 79, 78, 32, 40, 40, 40, 48, 32, 48, 44, 32, 46, 53, 32, 48, 44, 32, 49, 32, 49, 44, 32, 48, 32, 48, 41, 41, 41], 0, 3, 0⟩
def w13 : W := ⟨[77, 85, 76, 84, 73, 80, 79, 76, 89, 71, 79, 78, 32, 40, 40, 40, 48, 32, 48, 44, 32, 53, 46, 32, 48, 44, 32, 49, 32, 49, 44, 32, 48, 32, 48, 41, 41, 41], 0, 3, 0⟩
def w14 : W := ⟨[77, 85, 76, 84, 73, 80, 79, 76, 89, 71, 79, 78, 32, 40, 40, 40, 48, 32, 48, 44, 32, 49, 45, 49, 44, 32, 49, 32, 49, 44, 32, 48, 32, 48, 41, 41, 41], 0, 3, 0⟩
def w15 : W := ⟨[109, 117, 108, 116, 105, 112, 111, 108, 121, 103, 111, 110, 32, 40, 40, 40, 48, 32, 48, 44, 32, 49, 32, 48, 44, 32, 49, 32, 49, 44, 32, 48, 32, 48, 41, 41, 41], 0, 3, 0⟩
def w16 : W := ⟨[77, 85, 76, 84, 73, 80, 79, 76, 89, 71, 79, 78, 32, 90, 32, 40, 40, 40, 48, 32, 48, 44, 32, 49, 32, 48, 44, 32, 49, 32, 49, 44, 32, 48, 32, 48, 41, 41, 41], 0, 3, 0⟩
def w17 : W := ⟨[77, 85, 76, 84, 73, 80, 79, 76, 89, 71, 79, 78, 32, 40, 41], 0, 3, 0⟩
def w18 : W := ⟨[77, 85, 76, 84, 73, 80, 79, 76, 89, 71, 79, 78, 32, 40, 40, 40, 48, 32, 48, 44, 32, 49, 32, 48, 44, 32, 48, 32, 48, 41, 41, 41], 0, 5, 0⟩
def w19 : W := ⟨[77, 85, 76, 84, 73, 80, 79, 76, 89, 71, 79, 78, 32, 40, 40, 40, 48, 32, 48, 44, 32, 49, 32, 48, 44, 32, 49, 32, 49, 44, 32, 48, 32, 49, 41, 41, 41], 0, 5, 0⟩
def w20 : W := ⟨[77, 85, 76, 84, 73, 80, 79, 76, 89, 71, 79, 78, 32, 69, 77, 80, 84, 89, 32], 0, 0, -99⟩
def w21 : W := ⟨[77, 85, 76, 84, 73, 80, 79, 76, 89, 71, 79, 78, 69, 77, 80, 84, 89], 0, 3, 0⟩
def w22 : W := ⟨[77, 85, 76, 84, 73, 80, 79, 76, 89, 71, 79, 78, 32, 69, 77, 80, 84, 89, 32, 40, 41], 0, 3, 0⟩
def w23 : W := ⟨[123, 34, 116, 121, 112, 101, 34, 58, 34, 77, 117, 108, 116, 105, 80, 111, 108, 121, 103, 111, 110, 34, 44, 34, 99, 111, 111, 114, 100, 105, 110, 97, 116, 101, 115, 34, 58, 91, 91, 91, 91, 48, 44, 48, 93, 44, 91, 49, 44, 48, 93, 44, 91, 49, 44, 49, 93, 44, 91, 48, 44, 48, 93, 93, 93, 93, 125], 2, 0, 16⟩
def w24 : W := ⟨[123, 34, 116, 121, 112, 101, 34, 58, 34, 77, 117, 108, 116, 105, 80, 111, 108, 121, 103, 111, 110, 34, 44, 34, 99, 111, 111, 114, 100, 105, 110, 97, 116, 101, 115, 34, 58, 91, 91, 91, 91, 48, 44, 48, 93, 44, 91, 49, 46, 48, 54, 50, 53, 101, 48, 44, 45, 48, 93, 44, 91, 49, 44, 49, 93, 44, 91, 48, 44, 48, 93, 93, 93, 93, 125], 2, 0, 17⟩
def w25 : W := ⟨[123, 34, 116, 121, 112, 101, 34, 58, 34, 77, 117, 108, 116, 105, 80, 111, 108, 121, 103, 111, 110, 34, 44, 34, 99, 111, 111, 114, 100, 105, 110, 97, 116, 101, 115, 34, 58, 91, 91, 91, 91, 48, 44, 48, 93, 44, 91, 48, 49, 44, 48, 93, 44, 91, 49, 44, 49, 93, 44, 91, 48, 44, 48, 93, 93, 93, 93, 125], 2, 3, 0⟩
def w26 : W := ⟨[123, 34, 116, 121, 112, 101, 34, 58, 34, 77, 117, 108, 116, 105, 80, 111, 108, 121, 103, 111, 110, 34, 44, 34, 99, 111, 111, 114, 100, 105, 110, 97, 116, 101, 115, 34, 58, 91, 91, 91, 91, 48, 44, 48, 93, 44, 91, 43, 49, 44, 48, 93, 44, 91, 49, 44, 49, 93, 44, 91, 48, 44, 48, 93, 93, 93, 93, 125], 2, 3, 0⟩
def w27 : W := ⟨[123, 34, 116, 121, 112, 101, 34, 58, 34, 77, 117, 108, 116, 105, 80, 111, 108, 121, 103, 111, 110, 34, 44, 34, 99, 111, 111, 114, 100, 105, 110, 97, 116, 101, 115, 34, 58, 91, 91, 91, 91, 48, 44, 48, 93, 44, 91, 49, 44, 48, 44, 53, 93, 44, 91, 49, 44, 49, 93, 44, 91, 48, 44, 48, 93, 93, 93, 93, 125], 2, 3, 0⟩
def w28 : W := ⟨[123, 34, 116, 121, 112, 101, 34, 58, 34, 77, 117, 108, 116, 105, 80, 111, 108, 121, 103, 111, 110, 34, 44, 34, 99, 111, 111, 114, 100, 105, 110, 97, 116, 101, 115, 34, 58, 91, 91, 91, 91, 48, 44, 48, 93, 44, 91, 48, 46, 49, 44, 48, 93, 44, 91, 49, 44, 49, 93, 44, 91, 48, 44, 48, 93, 93, 93, 93, 125], 2, 4, 0⟩
def w29 : W := ⟨[123, 34, 116, 121, 112, 101, 34, 58, 34, 77, 117, 108, 116, 105, 80, 111, 108, 121, 103, 111, 110, 34, 44, 34, 99, 111, 111, 114, 100, 105, 110, 97, 116, 101, 115, 34, 58, 91, 93, 125], 2, 0, -99⟩
def w30 : W := ⟨[123, 34, 116, 121, 112, 101, 34, 58, 34, 77, 117, 108, 116, 105, 80, 111, 108, 121, 103, 111, 110, 34, 44, 34, 99, 111, 111, 114, 100, 105, 110, 97, 116, 101, 115, 34, 58, 91, 91, 93, 93, 125], 2, 5, 0⟩
def w31 : W := ⟨[123, 34, 116, 121, 112, 101, 34, 58, 34, 77, 117, 108, 116, 105, 80, 111, 108, 121, 103, 111, 110, 34, 44, 34, 99, 111, 111, 114, 100, 105, 110, 97, 116, 101, 115, 34, 58, 91, 93, 44, 34, 116, 121, 112, 101, 34, 58, 34, 77, 117, 108, 116, 105, 80, 111, 108, 121, 103, 111, 110, 34, 125], 2, 3, 0⟩
def w32 : W := ⟨[123, 34, 99, 111, 111, 114, 100, 105, 110, 97, 116, 101, 115, 34, 58, 91, 93, 44, 34, 99, 111, 111, 114, 100, 105, 110, 97, 116, 101, 115, 34, 58, 91, 93, 44, 34, 116, 121, 112, 101, 34, 58, 34, 77, 117, 108, 116, 105, 80, 111, 108, 121, 103, 111, 110, 34, 125], 2, 3, 0⟩
def w33 : W := ⟨[123, 34, 116, 121, 112, 101, 34, 58, 34, 77, 117, 108, 116, 105, 80, 111, 108, 121, 103, 111, 110, 34, 44, 34, 99, 111, 111, 114, 100, 105, 110, 97, 116, 101, 115, 34, 58, 91, 93, 44, 34, 99, 111, 111, 114, 100, 105, 110, 97, 116, 101, 115, 34, 58, 91, 93, 125], 2, 3, 0⟩
def w34 : W := ⟨[123, 34, 97, 34, 58, 91, 123, 34, 98, 34, 58, 49, 93, 93, 44, 34, 116, 121, 112, 101, 34, 58, 34, 77, 117, 108, 116, 105, 80, 111, 108, 121, 103, 111, 110, 34, 44, 34, 99, 111, 111, 114, 100, 105, 110, 97, 116, 101, 115, 34, 58, 91, 93, 125], 2, 3, 0⟩
def w35 : W := ⟨[123, 34, 97, 34, 58, 123, 34, 98, 34, 58, 91, 49, 125, 125, 44, 34, 116, 121, 112, 101, 34, 58, 34, 77, 117, 108, 116, 105, 80, 111, 108, 121, 103, 111, 110, 34, 44, 34, 99, 111, 111, 114, 100, 105, 110, 97, 116, 101, 115, 34, 58, 91, 93, 125], 2, 3, 0⟩
def w36 : W := ⟨[123, 34, 116, 121, 112, 101, 34, 58, 34, 77, 117, 108, 116, 105, 80, 111, 108, 121, 103, 111, 110, 34, 44, 34, 99, 111, 111, 114, 100, 105, 110, 97, 116, 101, 115, 34, 58, 91, 93, 44, 125], 2, 3, 0⟩
def w37 : W := ⟨[123, 34, 116, 121, 112, 101, 34, 58, 34, 80, 111, 108, 121, 103, 111, 110, 34, 44, 34, 99, 111, 111, 114, 100, 105, 110, 97, 116, 101, 115, 34, 58, 91, 93, 125], 2, 3, 0⟩
def w38 : W := ⟨[123, 34, 99, 111, 111, 114, 100, 105, 110, 97, 116, 101, 115, 34, 58, 91, 93, 125], 2, 3, 0⟩
def w39 : W := ⟨[123, 34, 97, 34, 58, 91, 91, 91, 91, 91, 91, 91, 91, 91, 91, 91, 91, 91, 91, 91, 91, 93, 93, 93, 93, 93, 93, 93, 93, 93, 93, 93, 93, 93, 93, 93, 93, 44, 34, 116, 121, 112, 101, 34, 58, 34, 77, 117, 108, 116, 105, 80, 111, 108, 121, 103, 111, 110, 34, 44, 34, 99, 111, 111, 114, 100, 105, 110, 97, 116, 101, 115, 34, 58, 91, 93, 125], 2, 0, -99⟩
def w40 : W := ⟨[123, 34, 97, 34, 58, 91, 91, 91, 91, 91, 91, 91, 91, 91, 91, 91, 91, 91, 91, 91, 91, 91, 93, 93, 93, 93, 93, 93, 93, 93, 93, 93, 93, 93, 93, 93, 93, 93, 93, 44, 34, 116, 121, 112, 101, 34, 58, 34, 77, 117, 108, 116, 105, 80, 111, 108, 121, 103, 111, 110, 34, 44, 34, 99, 111, 111, 114, 100, 105, 110, 97, 116, 101, 115, 34, 58, 91, 93, 125], 2, 3, 0⟩
def w41 : W := ⟨[0, 0, 0, 0, 6, 0, 0, 0, 0], 1, 0, -99⟩
def w42 : W := ⟨[1, 6, 0, 0, 0, 0, 0, 0, 0], 1, 0, -99⟩
def w43 : W := ⟨[2, 6, 0, 0, 0, 0, 0, 0, 0], 1, 3, 0⟩
def w44 : W := ⟨[1, 6, 0, 0, 0, 1, 0, 0, 0, 0, 0, 0, 0, 3, 0, 0, 0, 0], 1, 5, 0⟩
def w45 : W := ⟨[1, 6, 0, 0, 128, 0, 0, 0, 0], 1, 3, 0⟩
def w46 : W := ⟨[1, 6, 0, 0, 0, 255, 255, 255, 255], 1, 3, 0⟩
def tab : List W := [w0, w1, w2, w3, w4, w5, w6, w7, w8, w9, w10, w11, w12, w13, w14, w15, w16, w17, w18, w19, w20, w21, w22, w23, w24, w25, w26, w27, w28, w29, w30, w31, w32, w33, w34, w35, w36, w37, w38, w39, w40, w41, w42, w43, w44, w45, w46]
def err (w : W) : Int := if w.f = 0 then Wt.err w.s else if w.f = 1 then Bn.err w.s else Js.err w.s
def got (w : W) : Mult := if w.f = 0 then Wt.got w.s else if w.f = 1 then Bn.got w.s else Js.got w.s
def one (m : Mult) (x : Int) : Bool := match m with
  | [[[_, p, _, _]]] => p.1 == x
  | _ => false
def good (w : W) : Bool := (w.f == 0 || w.f == 1 || w.f == 2) && decide (w.s.length ≤ 6000) &&
  (if err w != 0 then err w == w.e else if Pl.wrong (got w) != 0 then Pl.wrong (got w) == w.e else w.e == 0 && (if w.x == -99 then (got w).isEmpty else one (got w) w.x))
set_option maxRecDepth 100000 in
theorem g0 : good w0 = true := by decide +kernel
set_option maxRecDepth 100000 in
theorem g1 : good w1 = true := by decide +kernel
set_option maxRecDepth 100000 in
theorem g2 : good w2 = true := by decide +kernel
set_option maxRecDepth 100000 in
theorem g3 : good w3 = true := by decide +kernel
set_option maxRecDepth 100000 in
theorem g4 : good w4 = true := by decide +kernel
set_option maxRecDepth 100000 in
theorem g5 : good w5 = true := by decide +kernel
set_option maxRecDepth 100000 in
theorem g6 : good w6 = true := by decide +kernel
set_option maxRecDepth 100000 in
theorem g7 : good w7 = true := by decide +kernel
set_option maxRecDepth 100000 in
theorem g8 : good w8 = true := by decide +kernel
set_option maxRecDepth 100000 in
theorem g9 : good w9 = true := by decide +kernel
set_option maxRecDepth 100000 in
theorem g10 : good w10 = true := by decide +kernel
set_option maxRecDepth 100000 in
theorem g11 : good w11 = true := by decide +kernel
set_option maxRecDepth 100000 in
theorem g12 : good w12 = true := by decide +kernel
set_option maxRecDepth 100000 in
theorem g13 : good w13 = true := by decide +kernel
set_option maxRecDepth 100000 in
theorem g14 : good w14 = true := by decide +kernel
set_option maxRecDepth 100000 in
theorem g15 : good w15 = true := by decide +kernel
set_option maxRecDepth 100000 in
theorem g16 : good w16 = true := by decide +kernel
set_option maxRecDepth 100000 in
theorem g17 : good w17 = true := by decide +kernel
set_option maxRecDepth 100000 in
theorem g18 : good w18 = true := by decide +kernel
set_option maxRecDepth 100000 in
theorem g19 : good w19 = true := by decide +kernel
set_option maxRecDepth 100000 in
theorem g20 : good w20 = true := by decide +kernel
set_option maxRecDepth 100000 in
theorem g21 : good w21 = true := by decide +kernel
set_option maxRecDepth 100000 in
theorem g22 : good w22 = true := by decide +kernel
set_option maxRecDepth 100000 in
theorem g23 : good w23 = true := by decide +kernel
set_option maxRecDepth 100000 in
theorem g24 : good w24 = true := by decide +kernel
set_option maxRecDepth 100000 in
theorem g25 : good w25 = true := by decide +kernel
set_option maxRecDepth 100000 in
theorem g26 : good w26 = true := by decide +kernel
set_option maxRecDepth 100000 in
theorem g27 : good w27 = true := by decide +kernel
set_option maxRecDepth 100000 in
theorem g28 : good w28 = true := by decide +kernel
set_option maxRecDepth 100000 in
theorem g29 : good w29 = true := by decide +kernel
set_option maxRecDepth 100000 in
theorem g30 : good w30 = true := by decide +kernel
set_option maxRecDepth 100000 in
theorem g31 : good w31 = true := by decide +kernel
set_option maxRecDepth 100000 in
theorem g32 : good w32 = true := by decide +kernel
set_option maxRecDepth 100000 in
theorem g33 : good w33 = true := by decide +kernel
set_option maxRecDepth 100000 in
theorem g34 : good w34 = true := by decide +kernel
set_option maxRecDepth 100000 in
theorem g35 : good w35 = true := by decide +kernel
set_option maxRecDepth 100000 in
theorem g36 : good w36 = true := by decide +kernel
set_option maxRecDepth 100000 in
theorem g37 : good w37 = true := by decide +kernel
set_option maxRecDepth 100000 in
theorem g38 : good w38 = true := by decide +kernel
set_option maxRecDepth 100000 in
theorem g39 : good w39 = true := by decide +kernel
set_option maxRecDepth 100000 in
theorem g40 : good w40 = true := by decide +kernel
set_option maxRecDepth 100000 in
theorem g41 : good w41 = true := by decide +kernel
set_option maxRecDepth 100000 in
theorem g42 : good w42 = true := by decide +kernel
set_option maxRecDepth 100000 in
theorem g43 : good w43 = true := by decide +kernel
set_option maxRecDepth 100000 in
theorem g44 : good w44 = true := by decide +kernel
set_option maxRecDepth 100000 in
theorem g45 : good w45 = true := by decide +kernel
set_option maxRecDepth 100000 in
theorem g46 : good w46 = true := by decide +kernel
theorem all : ∀ w ∈ tab, good w = true := by
  intro w h
  simp only [tab, List.mem_cons, List.not_mem_nil, or_false] at h
  rcases h with rfl | rfl | rfl | rfl | rfl | rfl | rfl | rfl | rfl | rfl | rfl | rfl | rfl | rfl | rfl | rfl | rfl | rfl | rfl | rfl | rfl | rfl | rfl | rfl | rfl | rfl | rfl | rfl | rfl | rfl | rfl | rfl | rfl | rfl | rfl | rfl | rfl | rfl | rfl | rfl | rfl | rfl | rfl | rfl | rfl | rfl | rfl
  · exact g0
  · exact g1
  · exact g2
  · exact g3
  · exact g4
  · exact g5
  · exact g6
  · exact g7
  · exact g8
  · exact g9
  · exact g10
  · exact g11
  · exact g12
  · exact g13
  · exact g14
  · exact g15
  · exact g16
  · exact g17
  · exact g18
  · exact g19
  · exact g20
  · exact g21
  · exact g22
  · exact g23
  · exact g24
  · exact g25
  · exact g26
  · exact g27
  · exact g28
  · exact g29
  · exact g30
  · exact g31
  · exact g32
  · exact g33
  · exact g34
  · exact g35
  · exact g36
  · exact g37
  · exact g38
  · exact g39
  · exact g40
  · exact g41
  · exact g42
  · exact g43
  · exact g44
  · exact g45
  · exact g46
end Tl
end Go.Proofs.Ytcclepohmhdpbaa
