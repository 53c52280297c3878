/- GRID, PLAINLY: a box of cells, with a hole of one in the middle of some. -/
import Derived.Test.YtcclepohmhdpbabPlD
import Derived.KernelRfl
namespace Go.Proofs.Ytcclepohmhdpbab
set_option linter.all false
namespace Vd

def gD (w h : Nat) : List (Option Nat) := none :: (List.range (w * h)).map some
def gX (w k : Nat) : Int := 48 * ((k % w : Nat) : Int)
def gY (w k : Nat) : Int := 48 * ((k / w : Nat) : Int)
def gR (w h : Nat) : Option Nat → Ring
  | none => [(0, 0), (48 * (w : Int), 0), (48 * (w : Int), 48 * (h : Int)), (0, 48 * (h : Int)), (0, 0)]
  | some k => [(gX w k + 16, gY w k + 16), (gX w k + 32, gY w k + 16), (gX w k + 32, gY w k + 32), (gX w k + 16, gY w k + 32), (gX w k + 16, gY w k + 16)]
def gC (w k : Nat) : Spot := ((2 * gX w k + 48, 2 * gY w k + 48), 2)
def gE (w k : Nat) : Spot := ((2 * gX w k + 32, 2 * gY w k + 48), 2)
def gN (w k : Nat) : Spot := ((3 * gX w k + 32, 3 * gY w k + 32), 3)
def gB (w : Nat) : Spot := ((48 * (w : Int) * 2 + 1, 5), 2)
def gOne (r : Ring) : Bool := !(twice r || selfR r) && !(Pl.badR r) && !(Pl.wideR r)
def gNest : Option Nat → Int
  | none => 2
  | some _ => 0
def gTwo (w h : Nat) (a b : Option Nat) : Bool := decide (a = b) || (!(cross (gR w h a) (gR w h b)) && ((gR w h a).all fun p => decide (place (gR w h b) (at1 p) ≠ 1)) && (a.isNone || lies (gR w h a) (gR w h b) (gNest b)))
def gPt (w h k : Nat) : Bool := decide (place (gR w h none) (gC w k) = 2) && decide (place (gR w h none) (gE w k) = 2) && decide (place (gR w h none) (gN w k) = 2) &&
  (List.range (w * h)).all fun j => decide (place (gR w h (some j)) (gC w k) = if j = k then 2 else 0) && decide (place (gR w h (some j)) (gE w k) ≠ 2) && decide (place (gR w h (some j)) (gN w k) ≠ 2)
def gOut (w h : Nat) : Bool := decide (place (gR w h none) ((-1, 1), 7) = 0) && decide (place (gR w h none) ((0, 0), 1) ≠ 0) && decide (place (gR w h none) (gB w) = 0) && (List.range (w * h)).all fun j => decide (place (gR w h (some j)) ((0, 0), 1) ≠ 2)
def gAll (w h : Nat) : Bool := ((gD w h).all fun a => gOne (gR w h a)) && ((gD w h).all fun a => (gD w h).all fun b => gTwo w h a b) && ((List.range (w * h)).all fun k => gPt w h k) && gOut w h
theorem g11 : gAll 1 1 = true := by kernel_rfl
theorem g12 : gAll 1 2 = true := by kernel_rfl
theorem g13 : gAll 1 3 = true := by kernel_rfl
theorem g21 : gAll 2 1 = true := by kernel_rfl
theorem g22 : gAll 2 2 = true := by kernel_rfl
theorem g23 : gAll 2 3 = true := by kernel_rfl
theorem g31 : gAll 3 1 = true := by kernel_rfl
theorem g32 : gAll 3 2 = true := by kernel_rfl
theorem g33 : gAll 3 3 = true := by kernel_rfl
theorem g41 : gAll 4 1 = true := by kernel_rfl
theorem g42 : gAll 4 2 = true := by kernel_rfl
theorem g43 : gAll 4 3 = true := by kernel_rfl
theorem gall {w h : Nat} (h1 : 1 ≤ w) (h2 : w ≤ 4) (h3 : 1 ≤ h) (h4 : h ≤ 3) : gAll w h = true := by
  have hw : w = 1 ∨ w = 2 ∨ w = 3 ∨ w = 4 := by omega
  have hh : h = 1 ∨ h = 2 ∨ h = 3 := by omega
  rcases hw with rfl | rfl | rfl | rfl <;> rcases hh with rfl | rfl | rfl
  · exact g11
  · exact g12
  · exact g13
  · exact g21
  · exact g22
  · exact g23
  · exact g31
  · exact g32
  · exact g33
  · exact g41
  · exact g42
  · exact g43
end Vd
end Go.Proofs.Ytcclepohmhdpbab
