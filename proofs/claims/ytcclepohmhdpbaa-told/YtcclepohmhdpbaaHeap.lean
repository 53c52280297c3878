/- LISTS OF POINTS IN MEMORY, READ; what a call that makes memory leaves of the old. -/
import Derived.Test.YtcclepohmhdpbaaMath
import Derived.WalkKit
import Derived.WalkSpells
import Derived.Deep.OwnRows
import Derived.Deep.Draws
import Derived.Deep.QuietTactic
import Derived.BigQuiet
import Derived.Deep.LoopGhost
namespace Go.Proofs.Ytcclepohmhdpbaa
set_option linter.all false
open Go.RowKit

theorem hide {p : Prop} (h : p) : Hid p := h

/-- All that was there is as it was. -/
abbrev Up (w w' : World) : Prop := Below w.heap.size w w'

theorem Up.refl (w : World) : Up w w := Below.refl _ _
theorem Up.trans {a b c : World} (h : Up a b) (k : Up b c) : Up a c := Below.trans h (Below.mono k h.size)
theorem Up.alloc {a w : World} (h : Up a w) (o : Obj) : Up a (w.alloc o) := Below.alloc h h.size o
theorem Up.drew {a w : World} (h : Up a w) : Up a w.drew := Below.drew h
theorem Up.drewN {a w : World} (h : Up a w) (n : Nat) : Up a (w.drewN n) := by
  induction n with
  | zero => exact h
  | succ n ih => exact Below.drew ih
theorem Up.setCell {a w : World} (h : Up a w) {p : Addr} (hp : a.heap.size ≤ p.block) (u : Value) : Up a (w.setCell p u) := Below.setCell h hp u

theorem lt_of_cell {w : World} {a : Addr} {v : Value} (h : w.cell? a = some v) : a.block < w.heap.size := by
  unfold World.cell? at h
  rcases Nat.lt_or_ge a.block w.heap.size with g | g
  · exact g
  · rw [Array.getElem?_eq_none g] at h; simp at h

theorem Up.cell {w w' : World} (h : Up w w') {a : Addr} {v : Value} (hc : w.cell? a = some v) : w'.cell? a = some v := by
  rw [Below.cell h (lt_of_cell hc)]; exact hc

theorem ne_size {w w' : World} (h : Up w w') {a : Addr} {v : Value} (hc : w.cell? a = some v) : a.block ≠ w'.heap.size := by
  have h1 := lt_of_cell hc
  have h2 := h.size
  omega

/-- Draws alone. -/
def Dr (w w' : World) : Prop := ∃ n, w' = w.drewN n
theorem Dr.refl (w : World) : Dr w w := ⟨0, rfl⟩
theorem Dr.trans {a b c : World} (h : Dr a b) (k : Dr b c) : Dr a c := by
  obtain ⟨n, rfl⟩ := h
  obtain ⟨m, rfl⟩ := k
  exact ⟨n + m, World.drewN_drewN _ _ _⟩
theorem Dr.n {a b : World} (h : Dr a b) (n : Nat) : Dr a (b.drewN n) := h.trans ⟨n, rfl⟩
theorem Dr.up {a b : World} (h : Dr a b) : Up a b := by
  obtain ⟨n, rfl⟩ := h
  exact (Up.refl _).drewN n

/-- A ring reads as these points. -/
def Rd1 (w : World) (v : Value) (r : Ring) : Prop :=
  ∃ ao cap, v = .slice ao r.length cap ∧ ∀ i p, r[i]? = some p → ∃ b, ao = some ⟨b, 0, none⟩ ∧ w.cell? ⟨b, i * 2, none⟩ = some (.int .i64 p.1) ∧ w.cell? ⟨b, i * 2 + 1, none⟩ = some (.int .i64 p.2)

def Rd2 (w : World) (v : Value) (l : Poly) : Prop :=
  ∃ ao cap, v = .slice ao l.length cap ∧ ∀ i r, l[i]? = some r → ∃ b u, ao = some ⟨b, 0, none⟩ ∧ w.cell? ⟨b, i, none⟩ = some u ∧ Rd1 w u r

def Rd3 (w : World) (v : Value) (m : Mult) : Prop :=
  ∃ ao cap, v = .slice ao m.length cap ∧ ∀ i l, m[i]? = some l → ∃ b u, ao = some ⟨b, 0, none⟩ ∧ w.cell? ⟨b, i, none⟩ = some u ∧ Rd2 w u l

theorem Rd1.up {w w' : World} {v : Value} {r : Ring} (h : Rd1 w v r) (k : Up w w') : Rd1 w' v r := by
  obtain ⟨ao, cap, e, h⟩ := h
  exact ⟨ao, cap, e, fun i p hp => by obtain ⟨b, e1, e2, e3⟩ := h i p hp; exact ⟨b, e1, k.cell e2, k.cell e3⟩⟩
theorem Rd2.up {w w' : World} {v : Value} {l : Poly} (h : Rd2 w v l) (k : Up w w') : Rd2 w' v l := by
  obtain ⟨ao, cap, e, h⟩ := h
  exact ⟨ao, cap, e, fun i p hp => by obtain ⟨b, u, e1, e2, e3⟩ := h i p hp; exact ⟨b, u, e1, k.cell e2, e3.up k⟩⟩
theorem Rd3.up {w w' : World} {v : Value} {m : Mult} (h : Rd3 w v m) (k : Up w w') : Rd3 w' v m := by
  obtain ⟨ao, cap, e, h⟩ := h
  exact ⟨ao, cap, e, fun i p hp => by obtain ⟨b, u, e1, e2, e3⟩ := h i p hp; exact ⟨b, u, e1, k.cell e2, e3.up k⟩⟩

end Go.Proofs.Ytcclepohmhdpbaa
