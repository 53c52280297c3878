/- THE WALKS: (*World).noted. -/
import Derived.Test.YtcclepohmhdpbaaGreatDoorOps
import Derived.Test.YtcclepohmhdpbaaGreatDoorSpoil
import Derived.Deep.DrawnRows
namespace Go.Proofs.YtcclepohmhdpbaaGreatDoor
set_option linter.all false
open Go.RowKit Go.Deep

def rvm : List D1 → Int → List (Value × Int)
  | [], _ => []
  | y :: t, k => (y.v, k) :: rvm t (k + 1)
def ringVM : List D2 → Int → List (Value × Int)
  | [], _ => []
  | x :: t, k => rvm x.rs k ++ ringVM t (k + x.rs.length + 1)
def polyVM : List D2 → Int → List (Value × Int)
  | [], _ => []
  | x :: t, k => (x.v, k + x.rs.length) :: polyVM t (k + x.rs.length + 1)

theorem rvm_snoc (a : List D1) (y : D1) : ∀ k : Int, rvm (a ++ [y]) k = rvm a k ++ [(y.v, k + a.length)] := by
  induction a with
  | nil => intro k; simp [rvm]
  | cons z t ih =>
    intro k
    show (z.v, k) :: rvm (t ++ [y]) (k + 1) = (z.v, k) :: (rvm t (k + 1) ++ _)
    rw [ih, List.length_cons, show k + 1 + (t.length : Int) = k + ((t.length + 1 : Nat) : Int) by omega]
theorem rvm_length (a : List D1) : ∀ k : Int, (rvm a k).length = a.length := by
  induction a with
  | nil => intro k; rfl
  | cons z t ih => intro k; simp [rvm, ih]
theorem rvm_mem (a : List D1) : ∀ (k : Int) (e : Value × Int), e ∈ rvm a k → ∃ (i : Nat) (y : D1), a[i]? = some y ∧ e = (y.v, k + i) := by
  induction a with
  | nil => intro k e h; cases h
  | cons z t ih =>
    intro k e h
    rcases List.mem_cons.1 h with rfl | h
    · exact ⟨0, z, rfl, by simp⟩
    · obtain ⟨i, y, hy, he⟩ := ih (k + 1) e h
      exact ⟨i + 1, y, by simpa using hy, by rw [he]; congr 1; omega⟩
theorem off_cons (x : D2) (t : List D2) : off (x :: t) = x.rs.length + 1 + off t := rfl
theorem ringVM_snoc (a : List D2) (x : D2) : ∀ k : Int, ringVM (a ++ [x]) k = ringVM a k ++ rvm x.rs (k + off a) := by
  induction a with
  | nil => intro k; simp [ringVM, off]
  | cons z t ih =>
    intro k
    show rvm z.rs k ++ ringVM (t ++ [x]) (k + z.rs.length + 1) = (rvm z.rs k ++ ringVM t (k + z.rs.length + 1)) ++ _
    rw [ih, off_cons, List.append_assoc, show k + (z.rs.length : Int) + 1 + (off t : Int) = k + ((z.rs.length + 1 + off t : Nat) : Int) by omega]
theorem polyVM_snoc (a : List D2) (x : D2) : ∀ k : Int, polyVM (a ++ [x]) k = polyVM a k ++ [(x.v, k + off a + x.rs.length)] := by
  induction a with
  | nil => intro k; simp [polyVM, off]
  | cons z t ih =>
    intro k
    show (z.v, k + z.rs.length) :: polyVM (t ++ [x]) (k + z.rs.length + 1) = (z.v, k + z.rs.length) :: (polyVM t (k + z.rs.length + 1) ++ _)
    rw [ih, off_cons, show k + (z.rs.length : Int) + 1 + (off t : Int) + (x.rs.length : Int) = k + ((z.rs.length + 1 + off t : Nat) : Int) + x.rs.length by omega]
theorem ringVM_mem (a : List D2) : ∀ (k : Int) (e : Value × Int), e ∈ ringVM a k → ∃ (j : Nat) (x : D2) (i : Nat) (y : D1), a[j]? = some x ∧ x.rs[i]? = some y ∧ e = (y.v, k + off (a.take j) + i) := by
  induction a with
  | nil => intro k e h; cases h
  | cons z t ih =>
    intro k e h
    rcases List.mem_append.1 h with h | h
    · obtain ⟨i, y, hy, he⟩ := rvm_mem _ _ _ h
      exact ⟨0, z, i, y, rfl, hy, by rw [he]; simp [off]⟩
    · obtain ⟨j, x, i, y, hx, hy, he⟩ := ih _ e h
      exact ⟨j + 1, x, i, y, by simpa using hx, hy, by rw [he, List.take_succ_cons, off_cons]; congr 1; omega⟩
theorem polyVM_mem (a : List D2) : ∀ (k : Int) (e : Value × Int), e ∈ polyVM a k → ∃ (j : Nat) (x : D2), a[j]? = some x ∧ e = (x.v, k + off (a.take j) + x.rs.length) := by
  induction a with
  | nil => intro k e h; cases h
  | cons z t ih =>
    intro k e h
    rcases List.mem_cons.1 h with rfl | h
    · exact ⟨0, z, rfl, by simp [off]⟩
    · obtain ⟨j, x, hx, he⟩ := ih _ e h
      exact ⟨j + 1, x, by simpa using hx, by rw [he, List.take_succ_cons, off_cons]; congr 1; omega⟩
theorem polyVM_length (a : List D2) : ∀ k : Int, (polyVM a k).length = a.length := by
  induction a with
  | nil => intro k; rfl
  | cons z t ih => intro k; simp [polyVM, ih]
theorem ringVM_le {a : List D2} (h : ∀ x ∈ a, x.rs.length ≤ 1048576) (k : Int) : (ringVM a k).length ≤ a.length * 1048576 := by
  induction a generalizing k with
  | nil => simp [ringVM]
  | cons z t ih =>
    have h1 := h z (by simp)
    have h2 := ih (fun x hx => h x (by simp [hx])) (k + z.rs.length + 1)
    simp only [ringVM, List.length_append, rvm_length, List.length_cons]
    omega

theorem el_polys : Elem Tryz.prog 28 33 (.slice none 0 0) 1 24 := ⟨und_polys, info_rings, rfl, by omega, by omega⟩
theorem el_rings : Elem Tryz.prog 33 30 (.slice none 0 0) 1 24 := ⟨und_rings, info_pts, rfl, by omega, by omega⟩
theorem el_ints : Elem Tryz.prog 24 3 (.int .i64 0) 1 8 := ⟨by kernel_rfl, by kernel_rfl, rfl, by omega, by omega⟩

def zhanded : List Value := [.slice none 0 0, .slice none 0 0, .slice none 0 0, .slice none 0 0, .slice none 0 0, .int .i64 0]

/-- What noted has gathered. -/
structure NL (w wr : World) (hb : Nat) (dv pv rv rmv pmv : Value) (pc rc rmc pmc : List Value) (sm : Int) : Prop where
  up : Up w wr
  low : w.heap.size ≤ hb
  row : VRow wr hb 98 [dv, pv, rv, rmv, pmv, .int .i64 sm]
  opv : wr.ownsRow w.heap.size 33 1 pv pc.length pc
  orv : wr.ownsRow w.heap.size 30 1 rv rc.length rc
  orm : wr.ownsRow w.heap.size 3 1 rmv rmc.length rmc
  opm : wr.ownsRow w.heap.size 3 1 pmv pmc.length pmc
  apart : rmv.ownBlock = none ∨ rmv.ownBlock ≠ pmv.ownBlock
  apart' : pmv.ownBlock = none ∨ pmv.ownBlock ≠ rmv.ownBlock
  res : VRow wr w.heap.size 98 zhanded
  ne : w.heap.size ≠ hb

theorem NL.alloc {w wr : World} {hb : Nat} {dv pv rv rmv pmv : Value} {pc rc rmc pmc : List Value} {sm : Int} (h : NL w wr hb dv pv rv rmv pmv pc rc rmc pmc sm) (o : Obj) : NL w (wr.alloc o) hb dv pv rv rmv pmv pc rc rmc pmc sm :=
  ⟨h.up.alloc o, h.low, h.row.alloc o, h.opv.alloc o, h.orv.alloc o, h.orm.alloc o, h.opm.alloc o, h.apart, h.apart', h.res.alloc o, h.ne⟩

theorem up_grown {w a b : World} {row : Option Nat} (h : Up w a) (hg : a.grownBy b row) (hr : ∀ k, row = some k → w.heap.size ≤ k) : Up w b := Below.grown h hg h.size hr

theorem ne_some_of {o : Option Nat} {g : Nat} (h : o = none ∨ o ≠ some g) : o ≠ some g := by
  rcases h with rfl | h
  · exact fun e => by cases e
  · exact h

theorem NL.pv {w wr w1 : World} {hb : Nat} {dv pv rv rmv pmv : Value} {pc rc rmc pmc : List Value} {sm : Int} (h : NL w wr hb dv pv rv rmv pmv pc rc rmc pmc sm) {g cap : Nat} {u : Value}
    (hown : w1.ownsRow w.heap.size 33 1 (.slice (some ⟨g, 0, none⟩) (pc.length + 1) cap) (pc.length + 1) (pc ++ [u])) (hg : wr.grownBy w1 pv.ownBlock) :
    NL w (w1.setCell ⟨hb, 1, none⟩ (.slice (some ⟨g, 0, none⟩) (pc.length + 1) cap)) hb dv (.slice (some ⟨g, 0, none⟩) (pc.length + 1) cap) rv rmv pmv (pc ++ [u]) rc rmc pmc sm := by
  have r1 := h.row.grown hg (own_row_ne h.opv h.row (by decide))
  have o2 := h.orv.kept hg (own_apart h.orv h.opv (by decide))
  have o3 := h.orm.kept hg (own_apart h.orm h.opv (by decide))
  have o4 := h.opm.kept hg (own_apart h.opm h.opv (by decide))
  have r2 := h.res.grown hg (own_row_ne h.opv h.res (by decide))
  refine ⟨(up_grown h.up hg (fun k e => (own_lt h.opv e).1)).setCell h.low _, h.low, r1.set 1 _, ?_, ?_, ?_, ?_, h.apart, h.apart', r2.setOther h.ne _, h.ne⟩
  · rw [List.length_append]; exact own_set hown (own_row_ne hown r1 (by decide)) _
  · exact own_set o2 (own_row_ne o2 r1 (by decide)) _
  · exact own_set o3 (own_row_ne o3 r1 (by decide)) _
  · exact own_set o4 (own_row_ne o4 r1 (by decide)) _

theorem NL.rv {w wr w1 : World} {hb : Nat} {dv pv rv rmv pmv : Value} {pc rc rmc pmc : List Value} {sm : Int} (h : NL w wr hb dv pv rv rmv pmv pc rc rmc pmc sm) {g cap : Nat} {u : Value}
    (hown : w1.ownsRow w.heap.size 30 1 (.slice (some ⟨g, 0, none⟩) (rc.length + 1) cap) (rc.length + 1) (rc ++ [u])) (hg : wr.grownBy w1 rv.ownBlock) :
    NL w (w1.setCell ⟨hb, 2, none⟩ (.slice (some ⟨g, 0, none⟩) (rc.length + 1) cap)) hb dv pv (.slice (some ⟨g, 0, none⟩) (rc.length + 1) cap) rmv pmv pc (rc ++ [u]) rmc pmc sm := by
  have r1 := h.row.grown hg (own_row_ne h.orv h.row (by decide))
  have o2 := h.opv.kept hg (own_apart h.opv h.orv (by decide))
  have o3 := h.orm.kept hg (own_apart h.orm h.orv (by decide))
  have o4 := h.opm.kept hg (own_apart h.opm h.orv (by decide))
  have r2 := h.res.grown hg (own_row_ne h.orv h.res (by decide))
  refine ⟨(up_grown h.up hg (fun k e => (own_lt h.orv e).1)).setCell h.low _, h.low, r1.set 2 _, ?_, ?_, ?_, ?_, h.apart, h.apart', r2.setOther h.ne _, h.ne⟩
  · exact own_set o2 (own_row_ne o2 r1 (by decide)) _
  · rw [List.length_append]; exact own_set hown (own_row_ne hown r1 (by decide)) _
  · exact own_set o3 (own_row_ne o3 r1 (by decide)) _
  · exact own_set o4 (own_row_ne o4 r1 (by decide)) _

theorem NL.rm {w wr w1 : World} {hb : Nat} {dv pv rv rmv pmv : Value} {pc rc rmc pmc : List Value} {sm : Int} (h : NL w wr hb dv pv rv rmv pmv pc rc rmc pmc sm) {g cap : Nat} {u : Value}
    (hown : w1.ownsRow w.heap.size 3 1 (.slice (some ⟨g, 0, none⟩) (rmc.length + 1) cap) (rmc.length + 1) (rmc ++ [u])) (hg : wr.grownBy w1 rmv.ownBlock) (hat : rmv.ownBlock = some g ∨ g = wr.heap.size) :
    NL w (w1.setCell ⟨hb, 3, none⟩ (.slice (some ⟨g, 0, none⟩) (rmc.length + 1) cap)) hb dv pv rv (.slice (some ⟨g, 0, none⟩) (rmc.length + 1) cap) pmv pc rc (rmc ++ [u]) pmc sm := by
  have r1 := h.row.grown hg (own_row_ne h.orm h.row (by decide))
  have o2 := h.opv.kept hg (own_apart h.opv h.orm (by decide))
  have o3 := h.orv.kept hg (own_apart h.orv h.orm (by decide))
  have o4 := h.opm.kept hg h.apart'
  have hne : pmv.ownBlock ≠ some g := by
    intro e
    rcases hat with e2 | e2
    · rcases h.apart' with e3 | e3
      · rw [e3] at e; cases e
      · exact e3 (by rw [e, e2])
    · have := (own_lt h.opm e).2; omega
  have r2 := h.res.grown hg (own_row_ne h.orm h.res (by decide))
  refine ⟨(up_grown h.up hg (fun k e => (own_lt h.orm e).1)).setCell h.low _, h.low, r1.set 3 _, ?_, ?_, ?_, ?_, .inr (fun e => hne e.symm), .inr hne, r2.setOther h.ne _, h.ne⟩
  · exact own_set o2 (own_row_ne o2 r1 (by decide)) _
  · exact own_set o3 (own_row_ne o3 r1 (by decide)) _
  · rw [List.length_append]; exact own_set hown (own_row_ne hown r1 (by decide)) _
  · exact own_set o4 (own_row_ne o4 r1 (by decide)) _

theorem NL.pm {w wr w1 : World} {hb : Nat} {dv pv rv rmv pmv : Value} {pc rc rmc pmc : List Value} {sm : Int} (h : NL w wr hb dv pv rv rmv pmv pc rc rmc pmc sm) {g cap : Nat} {u : Value}
    (hown : w1.ownsRow w.heap.size 3 1 (.slice (some ⟨g, 0, none⟩) (pmc.length + 1) cap) (pmc.length + 1) (pmc ++ [u])) (hg : wr.grownBy w1 pmv.ownBlock) (hat : pmv.ownBlock = some g ∨ g = wr.heap.size) :
    NL w (w1.setCell ⟨hb, 4, none⟩ (.slice (some ⟨g, 0, none⟩) (pmc.length + 1) cap)) hb dv pv rv rmv (.slice (some ⟨g, 0, none⟩) (pmc.length + 1) cap) pc rc rmc (pmc ++ [u]) sm := by
  have r1 := h.row.grown hg (own_row_ne h.opm h.row (by decide))
  have o2 := h.opv.kept hg (own_apart h.opv h.opm (by decide))
  have o3 := h.orv.kept hg (own_apart h.orv h.opm (by decide))
  have o4 := h.orm.kept hg h.apart
  have hne : rmv.ownBlock ≠ some g := by
    intro e
    rcases hat with e2 | e2
    · rcases h.apart with e3 | e3
      · rw [e3] at e; cases e
      · exact e3 (by rw [e, e2])
    · have := (own_lt h.orm e).2; omega
  have r2 := h.res.grown hg (own_row_ne h.opm h.res (by decide))
  refine ⟨(up_grown h.up hg (fun k e => (own_lt h.opm e).1)).setCell h.low _, h.low, r1.set 4 _, ?_, ?_, ?_, ?_, .inr hne, .inr (fun e => hne e.symm), r2.setOther h.ne _, h.ne⟩
  · exact own_set o2 (own_row_ne o2 r1 (by decide)) _
  · exact own_set o3 (own_row_ne o3 r1 (by decide)) _
  · exact own_set o4 (own_row_ne o4 r1 (by decide)) _
  · rw [List.length_append]; exact own_set hown (own_row_ne hown r1 (by decide)) _

theorem NL.sm {w wr : World} {hb : Nat} {dv pv rv rmv pmv : Value} {pc rc rmc pmc : List Value} {sm : Int} (h : NL w wr hb dv pv rv rmv pmv pc rc rmc pmc sm) (n : Int) :
    NL w (wr.setCell ⟨hb, 5, none⟩ (.int .i64 n)) hb dv pv rv rmv pmv pc rc rmc pmc n :=
  ⟨h.up.setCell h.low _, h.low, h.row.set 5 _, own_set h.opv (own_row_ne h.opv h.row (by decide)) _, own_set h.orv (own_row_ne h.orv h.row (by decide)) _, own_set h.orm (own_row_ne h.orm h.row (by decide)) _, own_set h.opm (own_row_ne h.opm h.row (by decide)) _, h.apart, h.apart', h.res.setOther h.ne _, h.ne⟩

def intV (l : List (Value × Int)) : List Value := l.map fun e => .int .i64 e.2
def fstV (l : List (Value × Int)) : List Value := l.map fun e => e.1

theorem fstV_snoc (l : List (Value × Int)) (e : Value × Int) : fstV (l ++ [e]) = fstV l ++ [e.1] := by simp [fstV]
theorem intV_snoc (l : List (Value × Int)) (e : Value × Int) : intV (l ++ [e]) = intV l ++ [.int .i64 e.2] := by simp [intV]
theorem fstV_length (l : List (Value × Int)) : (fstV l).length = l.length := by simp [fstV]
theorem intV_length (l : List (Value × Int)) : (intV l).length = l.length := by simp [intV]

/-- Up to p polygons, and of the next up to q rings. -/
structure NQ (w wr : World) (d : D3) (k : Int) (p : Nat) (pv rv rmv pmv : Value) : Prop where
  nl : NL w wr (w.heap.size + 1) d.v pv rv rmv pmv (fstV (polyVM (d.ps.take p) k)) (fstV (ringVM (d.ps.take p) k)) (intV (ringVM (d.ps.take p) k)) (intV (polyVM (d.ps.take p) k)) 0

theorem ringVM_length (a : List D2) : ∀ k : Int, (ringVM a k).length = (a.map fun x => x.rs.length).sum := by
  induction a with
  | nil => intro k; rfl
  | cons z t ih => intro k; simp [ringVM, rvm_length, ih]
theorem ringVM_nR (d : D3) (p : Nat) (k : Int) : (ringVM (d.ps.take p) k).length ≤ Pl.nR d.m := by
  rw [ringVM_length]
  have e : Pl.nR d.m = (d.ps.map fun x => x.rs.length).sum := by
    unfold Pl.nR D3.m
    rw [List.map_map]
    congr 1
    apply List.map_congr_left
    intro x _
    simp [D2.pts]
  rw [e, List.map_take]
  exact Pl.sum_take_le _ _

theorem own_shape {w : World} {base : Nat} {e : TypeId} {size : Nat} {v : Value} {n : Nat} {xs : List Value} (h : w.ownsRow base e size v n xs) : ∃ a n k, v = .slice a n k := by
  rcases h.2 with ⟨rfl, _⟩ | ⟨g, cap, cur, rfl, _⟩
  · exact ⟨_, _, _, rfl⟩
  · exact ⟨_, _, _, rfl⟩

/-- What noted hands back: lists of its own. -/
structure NPost (w w' : World) (pv rv rmv pmv : Value) (P R : List (Value × Int)) : Prop where
  up : Up w w'
  opv : w'.ownsRow w.heap.size 33 1 pv P.length (fstV P)
  orv : w'.ownsRow w.heap.size 30 1 rv R.length (fstV R)
  orm : w'.ownsRow w.heap.size 3 1 rmv R.length (intV R)
  opm : w'.ownsRow w.heap.size 3 1 pmv P.length (intV P)

theorem NL.post {w wr w' : World} {hb : Nat} {dv pv rv rmv pmv : Value} {P R : List (Value × Int)} {sm : Int} (h : NL w wr hb dv pv rv rmv pmv (fstV P) (fstV R) (intV R) (intV P) sm) (k : Fr (fun b => b = w.heap.size) wr w') : NPost w w' pv rv rmv pmv P R := by
  have o1 := own_fr h.opv k (fun g e e2 => own_row_ne h.opv h.res (by decide) (e2 ▸ e))
  have o2 := own_fr h.orv k (fun g e e2 => own_row_ne h.orv h.res (by decide) (e2 ▸ e))
  have o3 := own_fr h.orm k (fun g e e2 => own_row_ne h.orm h.res (by decide) (e2 ▸ e))
  have o4 := own_fr h.opm k (fun g e e2 => own_row_ne h.opm h.res (by decide) (e2 ▸ e))
  rw [fstV_length] at o1 o2
  rw [intV_length] at o3 o4
  refine ⟨⟨k.os.trans h.up.os, k.tape.trans h.up.tape, k.output.trans h.up.output, Nat.le_trans h.up.size k.size, fun b hb2 => ?_⟩, o1, o2, o3, o4⟩
  exact (k.block b (Nat.lt_of_lt_of_le hb2 h.up.size) (by omega)).trans (h.up.block b hb2)

theorem NL.start (w : World) (d : D3) : NL w ((w.alloc (.cells zhanded.toArray 98)).alloc (.cells [d.v, .slice none 0 0, .slice none 0 0, .slice none 0 0, .slice none 0 0, .int .i64 0].toArray 98)) (w.heap.size + 1) d.v (.slice none 0 0) (.slice none 0 0) (.slice none 0 0) (.slice none 0 0) [] [] [] [] 0 := by
  have hs1 : (w.alloc (.cells zhanded.toArray 98)).heap.size = w.heap.size + 1 := by simp
  have h1 := VRow.new (w.alloc (.cells zhanded.toArray 98)) [d.v, .slice none 0 0, .slice none 0 0, .slice none 0 0, .slice none 0 0, .int .i64 0] 98
  rw [hs1] at h1
  exact ⟨((Up.refl _).alloc _).alloc _, by omega, h1, World.ownsRow_nil _ _ _ _, World.ownsRow_nil _ _ _ _, World.ownsRow_nil _ _ _ _, World.ownsRow_nil _ _ _ _, .inl rfl, .inl rfl, (VRow.new w zhanded _).alloc _, by omega⟩

end Go.Proofs.YtcclepohmhdpbaaGreatDoor
