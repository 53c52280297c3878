/- THE WALKS: (*World).noted. -/
import Derived.Test.YtcclepohmhdpbaaAppend
import Derived.Test.YtcclepohmhdpbaaSpoil
import Derived.Deep.DrawnRows
namespace Go.Proofs.Ytcclepohmhdpbaa
set_option linter.all false
open Go.RowKit Go.Deep

def rvm : List D1 → Int → List (Value × Int)
  | [], _ => []
  | y :: t, k => (y.v, k) :: rvm t (k + 1)
def ringVM : List D2 → Int → List (Value × Int)
  | [], _ => []
  | x :: t, k => rvm x.rs k ++ ringVM t (k + x.rs.length + 1)
def polyVM : List D2 → Int → List (Value × Int)
  | [], _ => []
  | x :: t, k => (x.v, k + x.rs.length) :: polyVM t (k + x.rs.length + 1)

theorem rvm_snoc (a : List D1) (y : D1) : ∀ k : Int, rvm (a ++ [y]) k = rvm a k ++ [(y.v, k + a.length)] := by
  induction a with
  | nil => intro k; simp [rvm]
  | cons z t ih =>
    intro k
    show (z.v, k) :: rvm (t ++ [y]) (k + 1) = (z.v, k) :: (rvm t (k + 1) ++ _)
    rw [ih, List.length_cons, show k + 1 + (t.length : Int) = k + ((t.length + 1 : Nat) : Int) by omega]
theorem rvm_length (a : List D1) : ∀ k : Int, (rvm a k).length = a.length := by
  induction a with
  | nil => intro k; rfl
  | cons z t ih => intro k; simp [rvm, ih]
theorem rvm_mem (a : List D1) : ∀ (k : Int) (e : Value × Int), e ∈ rvm a k → ∃ (i : Nat) (y : D1), a[i]? = some y ∧ e = (y.v, k + i) := by
  induction a with
  | nil => intro k e h; cases h
  | cons z t ih =>
    intro k e h
    rcases List.mem_cons.1 h with rfl | h
    · exact ⟨0, z, rfl, by simp⟩
    · obtain ⟨i, y, hy, he⟩ := ih (k + 1) e h
      exact ⟨i + 1, y, by simpa using hy, by rw [he]; congr 1; omega⟩
theorem off_cons (x : D2) (t : List D2) : off (x :: t) = x.rs.length + 1 + off t := rfl
theorem ringVM_snoc (a : List D2) (x : D2) : ∀ k : Int, ringVM (a ++ [x]) k = ringVM a k ++ rvm x.rs (k + off a) := by
  induction a with
  | nil => intro k; simp [ringVM, off]
  | cons z t ih =>
    intro k
    show rvm z.rs k ++ ringVM (t ++ [x]) (k + z.rs.length + 1) = (rvm z.rs k ++ ringVM t (k + z.rs.length + 1)) ++ _
    rw [ih, off_cons, List.append_assoc, show k + (z.rs.length : Int) + 1 + (off t : Int) = k + ((z.rs.length + 1 + off t : Nat) : Int) by omega]
theorem polyVM_snoc (a : List D2) (x : D2) : ∀ k : Int, polyVM (a ++ [x]) k = polyVM a k ++ [(x.v, k + off a + x.rs.length)] := by
  induction a with
  | nil => intro k; simp [polyVM, off]
  | cons z t ih =>
    intro k
    show (z.v, k + z.rs.length) :: polyVM (t ++ [x]) (k + z.rs.length + 1) = (z.v, k + z.rs.length) :: (polyVM t (k + z.rs.length + 1) ++ _)
    rw [ih, off_cons, show k + (z.rs.length : Int) + 1 + (off t : Int) + (x.rs.length : Int) = k + ((z.rs.length + 1 + off t : Nat) : Int) + x.rs.length by omega]
theorem ringVM_mem (a : List D2) : ∀ (k : Int) (e : Value × Int), e ∈ ringVM a k → ∃ (j : Nat) (x : D2) (i : Nat) (y : D1), a[j]? = some x ∧ x.rs[i]? = some y ∧ e = (y.v, k + off (a.take j) + i) := by
  induction a with
  | nil => intro k e h; cases h
  | cons z t ih =>
    intro k e h
    rcases List.mem_append.1 h with h | h
    · obtain ⟨i, y, hy, he⟩ := rvm_mem _ _ _ h
      exact ⟨0, z, i, y, rfl, hy, by rw [he]; simp [off]⟩
    · obtain ⟨j, x, i, y, hx, hy, he⟩ := ih _ e h
      exact ⟨j + 1, x, i, y, by simpa using hx, hy, by rw [he, List.take_succ_cons, off_cons]; congr 1; omega⟩
theorem polyVM_mem (a : List D2) : ∀ (k : Int) (e : Value × Int), e ∈ polyVM a k → ∃ (j : Nat) (x : D2), a[j]? = some x ∧ e = (x.v, k + off (a.take j) + x.rs.length) := by
  induction a with
  | nil => intro k e h; cases h
  | cons z t ih =>
    intro k e h
    rcases List.mem_cons.1 h with rfl | h
    · exact ⟨0, z, rfl, by simp [off]⟩
    · obtain ⟨j, x, hx, he⟩ := ih _ e h
      exact ⟨j + 1, x, by simpa using hx, by rw [he, List.take_succ_cons, off_cons]; congr 1; omega⟩
theorem polyVM_length (a : List D2) : ∀ k : Int, (polyVM a k).length = a.length := by
  induction a with
  | nil => intro k; rfl
  | cons z t ih => intro k; simp [polyVM, ih]
theorem ringVM_le {a : List D2} (h : ∀ x ∈ a, x.rs.length ≤ 1048576) (k : Int) : (ringVM a k).length ≤ a.length * 1048576 := by
  induction a generalizing k with
  | nil => simp [ringVM]
  | cons z t ih =>
    have h1 := h z (by simp)
    have h2 := ih (fun x hx => h x (by simp [hx])) (k + z.rs.length + 1)
    simp only [ringVM, List.length_append, rvm_length, List.length_cons]
    omega

theorem el_polys : Elem Try.prog 32 34 (.slice none 0 0) 1 24 := ⟨und_polys, info_rings, rfl, by omega, by omega⟩
theorem el_rings : Elem Try.prog 34 35 (.slice none 0 0) 1 24 := ⟨und_rings, info_pts, rfl, by omega, by omega⟩
theorem el_ints : Elem Try.prog 62 3 (.int .i64 0) 1 8 := ⟨by kernel_rfl, by kernel_rfl, rfl, by omega, by omega⟩

def zhanded : List Value := [.slice none 0 0, .slice none 0 0, .slice none 0 0, .slice none 0 0, .slice none 0 0, .int .i64 0]

theorem up_grown {w a b : World} {row : Option Nat} (h : Up w a) (hg : a.grownBy b row) (hr : ∀ k, row = some k → w.heap.size ≤ k) : Up w b := Below.grown h hg h.size hr

theorem ne_some_of {o : Option Nat} {g : Nat} (h : o = none ∨ o ≠ some g) : o ≠ some g := by
  rcases h with rfl | h
  · exact fun e => by cases e
  · exact h

def intV (l : List (Value × Int)) : List Value := l.map fun e => .int .i64 e.2
def fstV (l : List (Value × Int)) : List Value := l.map fun e => e.1

theorem fstV_snoc (l : List (Value × Int)) (e : Value × Int) : fstV (l ++ [e]) = fstV l ++ [e.1] := by simp [fstV]
theorem intV_snoc (l : List (Value × Int)) (e : Value × Int) : intV (l ++ [e]) = intV l ++ [.int .i64 e.2] := by simp [intV]
theorem fstV_length (l : List (Value × Int)) : (fstV l).length = l.length := by simp [fstV]
theorem intV_length (l : List (Value × Int)) : (intV l).length = l.length := by simp [intV]

theorem ringVM_length (a : List D2) : ∀ k : Int, (ringVM a k).length = (a.map fun x => x.rs.length).sum := by
  induction a with
  | nil => intro k; rfl
  | cons z t ih => intro k; simp [ringVM, rvm_length, ih]
theorem ringVM_nR (d : D3) (p : Nat) (k : Int) : (ringVM (d.ps.take p) k).length ≤ Pl.nR d.m := by
  rw [ringVM_length]
  have e : Pl.nR d.m = (d.ps.map fun x => x.rs.length).sum := by
    unfold Pl.nR D3.m
    rw [List.map_map]
    congr 1
    apply List.map_congr_left
    intro x _
    simp [D2.pts]
  rw [e, List.map_take]
  exact Pl.sum_take_le _ _

theorem own_shape {w : World} {base : Nat} {e : TypeId} {size : Nat} {v : Value} {n : Nat} {xs : List Value} (h : w.ownsRow base e size v n xs) : ∃ a n k, v = .slice a n k := by
  rcases h.2 with ⟨rfl, _⟩ | ⟨g, cap, cur, rfl, _⟩
  · exact ⟨_, _, _, rfl⟩
  · exact ⟨_, _, _, rfl⟩

/-- What noted hands back: lists of its own. -/
structure NPost (w w' : World) (pv rv rmv pmv : Value) (P R : List (Value × Int)) : Prop where
  up : Up w w'
  opv : w'.ownsRow w.heap.size 34 1 pv P.length (fstV P)
  orv : w'.ownsRow w.heap.size 35 1 rv R.length (fstV R)
  orm : w'.ownsRow w.heap.size 3 1 rmv R.length (intV R)
  opm : w'.ownsRow w.heap.size 3 1 pmv P.length (intV P)

end Go.Proofs.Ytcclepohmhdpbaa
