import Derived.Test.YtcclepohmhdpbabGreatDoorVdE
import Derived.WalkKit
import Derived.WalkSpells
import Derived.Deep.OwnRows
import Derived.Deep.Draws
import Derived.Deep.QuietTactic
import Derived.BigQuiet
import Derived.Deep.LoopGhost
import Derived.Laws.CopyOwn
import Derived.Test.YtcclepohmhdpbabGreatDoorProg
import Derived.Test.YtcclepohmhdpbabGreatDoorCnP
import Derived.WalkLawsBesides
/- LISTS OF POINTS IN MEMORY, READ; what a call that makes memory leaves of the old. -/
namespace Go.Proofs.YtcclepohmhdpbabGreatDoor
set_option linter.all false
open Go.RowKit

theorem hide {p : Prop} (h : p) : Hid p := h

/-- All that was there is as it was. -/
abbrev Up (w w' : World) : Prop := Below w.heap.size w w'

theorem Up.refl (w : World) : Up w w := Below.refl _ _
theorem Up.trans {a b c : World} (h : Up a b) (k : Up b c) : Up a c := Below.trans h (Below.mono k h.size)
theorem Up.alloc {a w : World} (h : Up a w) (o : Obj) : Up a (w.alloc o) := Below.alloc h h.size o
theorem Up.drew {a w : World} (h : Up a w) : Up a w.drew := Below.drew h
theorem Up.drewN {a w : World} (h : Up a w) (n : Nat) : Up a (w.drewN n) := by
  induction n with
  | zero => exact h
  | succ n ih => exact Below.drew ih
theorem Up.setCell {a w : World} (h : Up a w) {p : Addr} (hp : a.heap.size ≤ p.block) (u : Value) : Up a (w.setCell p u) := Below.setCell h hp u

theorem lt_of_cell {w : World} {a : Addr} {v : Value} (h : w.cell? a = some v) : a.block < w.heap.size := by
  unfold World.cell? at h
  rcases Nat.lt_or_ge a.block w.heap.size with g | g
  · exact g
  · rw [Array.getElem?_eq_none g] at h; simp at h

theorem Up.cell {w w' : World} (h : Up w w') {a : Addr} {v : Value} (hc : w.cell? a = some v) : w'.cell? a = some v := by
  rw [Below.cell h (lt_of_cell hc)]; exact hc

theorem ne_size {w w' : World} (h : Up w w') {a : Addr} {v : Value} (hc : w.cell? a = some v) : a.block ≠ w'.heap.size := by
  have h1 := lt_of_cell hc
  have h2 := h.size
  omega

/-- Draws alone. -/
def Dr (w w' : World) : Prop := ∃ n, w' = w.drewN n
theorem Dr.refl (w : World) : Dr w w := ⟨0, rfl⟩
theorem Dr.trans {a b c : World} (h : Dr a b) (k : Dr b c) : Dr a c := by
  obtain ⟨n, rfl⟩ := h
  obtain ⟨m, rfl⟩ := k
  exact ⟨n + m, World.drewN_drewN _ _ _⟩
theorem Dr.n {a b : World} (h : Dr a b) (n : Nat) : Dr a (b.drewN n) := h.trans ⟨n, rfl⟩
theorem Dr.up {a b : World} (h : Dr a b) : Up a b := by
  obtain ⟨n, rfl⟩ := h
  exact (Up.refl _).drewN n

/-- A ring reads as these points. -/
def Rd1 (w : World) (v : Value) (r : Ring) : Prop :=
  ∃ ao cap, v = .slice ao r.length cap ∧ ∀ i p, r[i]? = some p → ∃ b, ao = some ⟨b, 0, none⟩ ∧ w.cell? ⟨b, i * 2, none⟩ = some (.int .i64 p.1) ∧ w.cell? ⟨b, i * 2 + 1, none⟩ = some (.int .i64 p.2)

def Rd2 (w : World) (v : Value) (l : Poly) : Prop :=
  ∃ ao cap, v = .slice ao l.length cap ∧ ∀ i r, l[i]? = some r → ∃ b u, ao = some ⟨b, 0, none⟩ ∧ w.cell? ⟨b, i, none⟩ = some u ∧ Rd1 w u r

def Rd3 (w : World) (v : Value) (m : Mult) : Prop :=
  ∃ ao cap, v = .slice ao m.length cap ∧ ∀ i l, m[i]? = some l → ∃ b u, ao = some ⟨b, 0, none⟩ ∧ w.cell? ⟨b, i, none⟩ = some u ∧ Rd2 w u l

theorem Rd1.up {w w' : World} {v : Value} {r : Ring} (h : Rd1 w v r) (k : Up w w') : Rd1 w' v r := by
  obtain ⟨ao, cap, e, h⟩ := h
  exact ⟨ao, cap, e, fun i p hp => by obtain ⟨b, e1, e2, e3⟩ := h i p hp; exact ⟨b, e1, k.cell e2, k.cell e3⟩⟩
theorem Rd2.up {w w' : World} {v : Value} {l : Poly} (h : Rd2 w v l) (k : Up w w') : Rd2 w' v l := by
  obtain ⟨ao, cap, e, h⟩ := h
  exact ⟨ao, cap, e, fun i p hp => by obtain ⟨b, u, e1, e2, e3⟩ := h i p hp; exact ⟨b, u, e1, k.cell e2, e3.up k⟩⟩
theorem Rd3.up {w w' : World} {v : Value} {m : Mult} (h : Rd3 w v m) (k : Up w w') : Rd3 w' v m := by
  obtain ⟨ao, cap, e, h⟩ := h
  exact ⟨ao, cap, e, fun i p hp => by obtain ⟨b, u, e1, e2, e3⟩ := h i p hp; exact ⟨b, u, e1, k.cell e2, e3.up k⟩⟩

end Go.Proofs.YtcclepohmhdpbabGreatDoor

/- LISTS OF POINTS THAT LIE IN BLOCKS OF THEIR OWN: descriptors; what stores and new blocks make of them. -/
namespace Go.Proofs.YtcclepohmhdpbabGreatDoor
set_option linter.all false
open Go.RowKit Go.Deep

def flat (r : Ring) : List Value := r.flatMap fun p => [.int .i64 p.1, .int .i64 p.2]

theorem flat_nil : flat [] = [] := rfl
theorem flat_cons (p : Pnt) (r : Ring) : flat (p :: r) = .int .i64 p.1 :: .int .i64 p.2 :: flat r := rfl
theorem flat_append (a b : Ring) : flat (a ++ b) = flat a ++ flat b := by simp [flat]
theorem flat_length (r : Ring) : (flat r).length = r.length * 2 := by
  induction r with
  | nil => rfl
  | cons p r ih => rw [flat_cons]; simp only [List.length_cons, ih]; omega
theorem flat_one (r : Ring) : ∀ v ∈ flat r, v.oneCell' = true := by
  intro v hv
  obtain ⟨p, _, hp⟩ := List.mem_flatMap.1 hv
  simp at hp
  rcases hp with rfl | rfl <;> rfl
theorem flat_at (r : Ring) : ∀ (i : Nat) (p : Pnt), r[i]? = some p → (flat r)[i * 2]? = some (.int .i64 p.1) ∧ (flat r)[i * 2 + 1]? = some (.int .i64 p.2) := by
  induction r with
  | nil => intro i p h; simp at h
  | cons q r ih =>
    intro i p h
    cases i with
    | zero => simp at h; subst h; exact ⟨rfl, rfl⟩
    | succ i =>
      have := ih i p (by simpa using h)
      rw [flat_cons]
      have e1 : (i + 1) * 2 = i * 2 + 1 + 1 := by omega
      rw [e1]
      exact ⟨by simpa using this.1, by simpa using this.2⟩
theorem flat_set (r : Ring) : ∀ (i : Nat) (p : Pnt), flat (r.set i p) = ((flat r).set (i * 2) (.int .i64 p.1)).set (i * 2 + 1) (.int .i64 p.2) := by
  induction r with
  | nil => intro i p; rfl
  | cons q r ih =>
    intro i p
    cases i with
    | zero => rfl
    | succ i =>
      have e1 : (i + 1) * 2 = i * 2 + 1 + 1 := by omega
      rw [e1, List.set_cons_succ, flat_cons, flat_cons, ih]
      rfl

def VRow (w : World) (b : Nat) (t : TypeId) (vs : List Value) : Prop := w.heap[b]? = some (.cells vs.toArray t (0, 0))
def PRow (w : World) (b : Nat) (r : Ring) : Prop := VRow w b 48 (flat r)

theorem VRow.lt {w : World} {b : Nat} {t : TypeId} {vs : List Value} (h : VRow w b t vs) : b < w.heap.size := (Array.getElem?_eq_some_iff.1 h).1
theorem VRow.cell {w : World} {b : Nat} {t : TypeId} {vs : List Value} (h : VRow w b t vs) {i : Nat} {v : Value} (hi : vs[i]? = some v) : w.cell? ⟨b, i, none⟩ = some v := by
  unfold VRow at h
  simp [World.cell?, h, hi]
theorem VRow.frozen {w : World} {b : Nat} {t : TypeId} {vs : List Value} (h : VRow w b t vs) (i : Nat) : w.frozen? ⟨b, i, none⟩ = false := by
  unfold VRow at h
  simp [World.frozen?, h]
theorem VRow.of_block {w w' : World} {b : Nat} {t : TypeId} {vs : List Value} (h : VRow w b t vs) (e : w'.heap[b]? = w.heap[b]?) : VRow w' b t vs := e.trans h
theorem VRow.alloc {w : World} {b : Nat} {t : TypeId} {vs : List Value} (h : VRow w b t vs) (o : Obj) : VRow (w.alloc o) b t vs := h.of_block (Below.heap_alloc _ _ _ h.lt)
theorem VRow.new (w : World) (vs : List Value) (t : TypeId) : VRow (w.alloc (.cells vs.toArray t)) w.heap.size t vs := heap_alloc_new w _
theorem VRow.set {w : World} {b : Nat} {t : TypeId} {vs : List Value} (h : VRow w b t vs) (i : Nat) (v : Value) : VRow (w.setCell ⟨b, i, none⟩ v) b t (vs.set i v) := by
  unfold VRow at *
  simp [World.setCell, Array.getElem?_modify, h]
theorem VRow.setOther {w : World} {b : Nat} {t : TypeId} {vs : List Value} (h : VRow w b t vs) {a : Addr} (ha : b ≠ a.block) (v : Value) : VRow (w.setCell a v) b t vs := h.of_block (Below.heap_setCell _ _ _ _ ha)
theorem VRow.drewN {w : World} {b : Nat} {t : TypeId} {vs : List Value} (h : VRow w b t vs) (n : Nat) : VRow (w.drewN n) b t vs := h

theorem PRow.cells {w : World} {b : Nat} {r : Ring} (h : PRow w b r) {i : Nat} {p : Pnt} (hi : r[i]? = some p) : w.cell? ⟨b, i * 2, none⟩ = some (.int .i64 p.1) ∧ w.cell? ⟨b, i * 2 + 1, none⟩ = some (.int .i64 p.2) :=
  ⟨VRow.cell h (flat_at r i p hi).1, VRow.cell h (flat_at r i p hi).2⟩
theorem PRow.set {w : World} {b : Nat} {r : Ring} (h : PRow w b r) (i : Nat) (p : Pnt) : PRow ((w.setCell ⟨b, i * 2, none⟩ (.int .i64 p.1)).setCell ⟨b, i * 2 + 1, none⟩ (.int .i64 p.2)) b (r.set i p) := by
  unfold PRow; rw [flat_set]; exact (VRow.set h _ _).set _ _

/-- A ring's list: its block, its points, what stands in its spare room. -/
structure D1 where
  b : Nat
  r : Ring
  s : Ring
structure D2 where
  b : Nat
  rs : List D1
  s : List D1
structure D3 where
  b : Nat
  ps : List D2
  s : List D2

def D1.v (d : D1) : Value := .slice (some ⟨d.b, 0, none⟩) d.r.length (d.r.length + d.s.length)
def D2.v (d : D2) : Value := .slice (some ⟨d.b, 0, none⟩) d.rs.length (d.rs.length + d.s.length)
def D3.v (d : D3) : Value := .slice (some ⟨d.b, 0, none⟩) d.ps.length (d.ps.length + d.s.length)
def D2.pts (d : D2) : Poly := d.rs.map D1.r
def D3.m (d : D3) : Mult := d.ps.map D2.pts
def D2.bl (d : D2) : List Nat := d.b :: (d.rs ++ d.s).map D1.b
def D3.bl (d : D3) : List Nat := d.b :: (d.ps ++ d.s).flatMap D2.bl

def OK1 (w : World) (d : D1) : Prop := PRow w d.b (d.r ++ d.s)
structure OK2 (w : World) (d : D2) : Prop where
  row : VRow w d.b 46 ((d.rs ++ d.s).map D1.v)
  sub : ∀ x ∈ d.rs ++ d.s, OK1 w x
structure OK3 (w : World) (d : D3) : Prop where
  row : VRow w d.b 45 ((d.ps ++ d.s).map D2.v)
  sub : ∀ x ∈ d.ps ++ d.s, OK2 w x

theorem OK1.of {w w' : World} {d : D1} (h : OK1 w d) (e : w'.heap[d.b]? = w.heap[d.b]?) : OK1 w' d := VRow.of_block h e
theorem OK2.of {w w' : World} {d : D2} (h : OK2 w d) (e : ∀ b ∈ d.bl, w'.heap[b]? = w.heap[b]?) : OK2 w' d :=
  ⟨h.row.of_block (e _ (by simp [D2.bl])), fun x hx => (h.sub x hx).of (e _ (by simp only [D2.bl, List.mem_cons]; exact .inr (List.mem_map_of_mem hx)))⟩
theorem OK3.of {w w' : World} {d : D3} (h : OK3 w d) (e : ∀ b ∈ d.bl, w'.heap[b]? = w.heap[b]?) : OK3 w' d :=
  ⟨h.row.of_block (e _ (by simp [D3.bl])), fun x hx => (h.sub x hx).of (fun b hb => e b (by simp only [D3.bl, List.mem_cons, List.mem_flatMap]; exact .inr ⟨x, hx, hb⟩))⟩
theorem OK2.lt {w : World} {d : D2} (h : OK2 w d) : ∀ b ∈ d.bl, b < w.heap.size := by
  intro b hb
  simp only [D2.bl, List.mem_cons, List.mem_map] at hb
  rcases hb with rfl | ⟨x, hx, rfl⟩
  · exact h.row.lt
  · exact VRow.lt (h.sub x hx)
theorem OK3.lt {w : World} {d : D3} (h : OK3 w d) : ∀ b ∈ d.bl, b < w.heap.size := by
  intro b hb
  simp only [D3.bl, List.mem_cons, List.mem_flatMap] at hb
  rcases hb with rfl | ⟨x, hx, hb⟩
  · exact h.row.lt
  · exact (h.sub x hx).lt b hb
theorem OK1.up {w w' : World} {d : D1} (h : OK1 w d) (k : Up w w') : OK1 w' d := h.of (k.block _ (VRow.lt h))
theorem OK2.up {w w' : World} {d : D2} (h : OK2 w d) (k : Up w w') : OK2 w' d := h.of fun b hb => k.block _ (h.lt b hb)
theorem OK3.up {w w' : World} {d : D3} (h : OK3 w d) (k : Up w w') : OK3 w' d := h.of fun b hb => k.block _ (h.lt b hb)

theorem OK1.rd {w : World} {d : D1} (h : OK1 w d) : Rd1 w d.v d.r :=
  ⟨_, _, rfl, fun i p hp => ⟨d.b, rfl, PRow.cells h (by rw [List.getElem?_append_left (Pl.lt_of_some hp)]; exact hp)⟩⟩
theorem OK2.rd {w : World} {d : D2} (h : OK2 w d) : Rd2 w d.v d.pts := by
  refine ⟨_, _, by simp only [D2.v, D2.pts, List.length_map]; rfl, fun i r hr => ?_⟩
  simp only [D2.pts, List.getElem?_map, Option.map_eq_some_iff] at hr
  obtain ⟨x, hx, rfl⟩ := hr
  have hx' : (d.rs ++ d.s)[i]? = some x := by rw [List.getElem?_append_left (Pl.lt_of_some hx)]; exact hx
  exact ⟨d.b, x.v, rfl, h.row.cell (by simp only [List.getElem?_map, hx']; rfl), (h.sub x (Pl.mem_of_some hx')).rd⟩
theorem OK3.rd {w : World} {d : D3} (h : OK3 w d) : Rd3 w d.v d.m := by
  refine ⟨_, _, by simp only [D3.v, D3.m, List.length_map]; rfl, fun i r hr => ?_⟩
  simp only [D3.m, List.getElem?_map, Option.map_eq_some_iff] at hr
  obtain ⟨x, hx, rfl⟩ := hr
  have hx' : (d.ps ++ d.s)[i]? = some x := by rw [List.getElem?_append_left (Pl.lt_of_some hx)]; exact hx
  exact ⟨d.b, x.v, rfl, h.row.cell (by simp only [List.getElem?_map, hx']; rfl), (h.sub x (Pl.mem_of_some hx')).rd⟩

/-! ### copy, of points -/
theorem alloc_setRow (w : World) (c c' : Array Value) (t : TypeId) : (w.alloc (.cells c t)).setRow w.heap.size c' = w.alloc (.cells c' t) := by
  show ({ w with heap := (w.heap.push (.cells c t)).modify w.heap.size _ } : World) = { w with heap := w.heap.push (.cells c' t) }
  congr 1
  apply Array.ext_getElem?
  intro k
  rw [Array.getElem?_modify, Array.getElem?_push, Array.getElem?_push]
  by_cases hk : w.heap.size = k
  · subst hk; simp
  · have hk' : ¬ k = w.heap.size := fun e => hk e.symm
    simp [hk, hk']

theorem run_copy_pts {P : Program} (w : World) (dT sT ty elem : TypeId) (g dLen dCap : Nat) (ao : Option Addr) (sCap : Nat) (t : TypeId) (cur : List Value) (r : Ring)
    (hu : P.underlying dT = some (.slice elem)) (hs : (P.info? elem).map (·.size) = some 2) (hg : w.heap[g]? = some (.cells cur.toArray t (0, 0)))
    (hn : r.length ≤ dLen) (hsrc : ∀ i p, r[i]? = some p → ∃ b, ao = some ⟨b, 0, none⟩ ∧ w.cell? ⟨b, i * 2, none⟩ = some (.int .i64 p.1) ∧ w.cell? ⟨b, i * 2 + 1, none⟩ = some (.int .i64 p.2)) (hfit : r.length * 2 ≤ cur.length) :
    (Builtin.copy_ #[dT, sT] ty #[.slice (some ⟨g, 0, none⟩) dLen dCap, .slice ao r.length sCap]).run P w = .ok (goInt r.length) (w.setRow g (flat r ++ cur.drop (r.length * 2)).toArray) := by
  have hst := run_storeCells_at P g 0 t (flat r) 0 cur.toArray w hg (by simpa [flat_length] using hfit) (flat_one r)
  simp only [Nat.zero_add, List.take_zero, List.nil_append, flat_length] at hst
  have hmin : Nat.min r.length dLen = r.length := Nat.min_eq_left hn
  cases hq : P.info? elem with
  | none => simp [hq] at hs
  | some i =>
    have hi : i.size = 2 := by simpa [hq] using hs
    cases hr : r with
    | nil =>
      subst hr
      simp only [flat_nil, List.nil_append, List.length_nil, Nat.zero_mul, List.drop_zero] at hst ⊢
      cases ao with
      | none => simp [Builtin.copy_, run_underlying hu, Builtin.lenOf, Builtin.firstCells, sizeOf, typeInfo, hq, hi, storeCells, setRow_self w g cur.toArray t (0, 0) hg]
      | some a =>
        have hl := run_loadCells_list (P := P) w a [] (by intro j v h; simp at h)
        simp only [List.length_nil] at hl
        simp [Builtin.copy_, run_underlying hu, Builtin.lenOf, Builtin.firstCells, sizeOf, typeInfo, hq, hi, storeCells, hl, setRow_self w g cur.toArray t (0, 0) hg]
    | cons p0 r0 =>
      obtain ⟨b, rfl, _⟩ := hsrc 0 p0 (by rw [hr]; rfl)
      have hl := run_loadCells_list (P := P) w ⟨b, 0, none⟩ (flat r) (by
        intro j v hj
        have hjl : j < r.length * 2 := by have := Pl.lt_of_some hj; rwa [flat_length] at this
        obtain ⟨p, hp⟩ := Pl.some_of_lt (l := r) (k := j / 2) (by omega)
        obtain ⟨b', hb', e1, e2⟩ := hsrc _ p hp
        cases hb'
        have hf := flat_at r _ p hp
        have hadd : (⟨b, 0, none⟩ : Addr).add j = ⟨b, j, none⟩ := by unfold Addr.add; split <;> simp_all
        rw [hadd]
        rcases Nat.mod_two_eq_zero_or_one j with h2 | h2
        · rw [show j / 2 * 2 = j by omega] at hf e1
          rw [hf.1] at hj; cases hj; exact e1
        · rw [show j / 2 * 2 + 1 = j by omega] at hf e2
          rw [hf.2] at hj; cases hj; exact e2)
      rw [flat_length] at hl
      rw [← hr]
      simp [Builtin.copy_, run_underlying hu, Builtin.lenOf, Builtin.firstCells, sizeOf, typeInfo, hq, hi, hmin, hl, hst, flat_length]

/-- copy(dst, src), dst a list of points of the call's own, from its beginning. -/
theorem wpList_copy_pts {P : Program} {w : World} {ops : Array Oper} {rest : List Oper} {o : Oper} {a : Act} {Q : Exit → Act → World → Prop} (hgd : o.guard = none) (d s : Operand) (dT sT : TypeId)
    (ho : o.op = .call { callee := .builtin .copy, args := #[d, s], argTypes := #[dT, sT] }) (elem : TypeId) (hu : P.underlying dT = some (.slice elem)) (hsz : (P.info? elem).map (·.size) = some 2)
    (g dLen dCap : Nat) (ao : Option Addr) (sCap : Nat) (r : Ring) (hd : a.eval d = .slice (some ⟨g, 0, none⟩) dLen dCap) (hs : a.eval s = .slice ao r.length sCap)
    (cur : List Value) (t : TypeId) (hg : w.heap[g]? = some (.cells cur.toArray t (0, 0))) (hn : r.length ≤ dLen)
    (hsrc : ∀ i p, r[i]? = some p → ∃ b, ao = some ⟨b, 0, none⟩ ∧ w.cell? ⟨b, i * 2, none⟩ = some (.int .i64 p.1) ∧ w.cell? ⟨b, i * 2 + 1, none⟩ = some (.int .i64 p.2)) (hfit : r.length * 2 ≤ cur.length)
    (h : wpList P ops Q rest (a.put o.dst (goInt r.length)) (w.setRow g (flat r ++ cur.drop (r.length * 2)).toArray)) : wpList P ops Q (o :: rest) a w := by
  refine wpList_plain hgd fun K hK => ?_
  have hrun := run_copy_pts (P := P) w dT sT o.type elem g dLen dCap ao sCap t cur r hu hsz hg hn hsrc hfit
  unfold Oper.wp
  simp [execOp, ho, resolve, invoke, builtin, hd, hs, hrun, Result.andThen]
  exact hK _ _ h

end Go.Proofs.YtcclepohmhdpbabGreatDoor

/- THE WALKS: package plane, points and segments. -/
namespace Go.Proofs.YtcclepohmhdpbabGreatDoor
set_option linter.all false
open Go.RowKit Go.Deep

def ptV (p : Pnt) : Value := .agg #[.int .i64 p.1, .int .i64 p.2]
def segV (s : Vd.Seg) : Value := .agg #[.int .i64 s.1.1, .int .i64 s.1.2, .int .i64 s.2.1, .int .i64 s.2.2]
def spotV (p : Vd.Spot) : Value := .agg #[.int .i64 p.1.1, .int .i64 p.1.2, .int .i64 p.2]

theorem w64 {x : Int} (h1 : -9223372036854775808 ≤ x) (h2 : x ≤ 9223372036854775807) : wrap64 x = x := by unfold wrap64; omega
/-- a product of two that are bounded. -/
theorem mul_bd {a b A B : Int} (h1 : -A ≤ a) (h2 : a ≤ A) (h3 : -B ≤ b) (h4 : b ≤ B) : -(A * B) ≤ a * b ∧ a * b ≤ A * B := by
  have hA : 0 ≤ A := by omega
  have hB : 0 ≤ B := by omega
  have k1 : a * b ≤ A * B := by
    rcases Int.le_total 0 b with h | h
    · exact Int.le_trans (Int.mul_le_mul_of_nonneg_right h2 h) (Int.mul_le_mul_of_nonneg_left h4 hA)
    · have e : a * b = (-a) * (-b) := by grind
      rw [e]
      exact Int.le_trans (Int.mul_le_mul_of_nonneg_right (show -a ≤ A by omega) (by omega)) (Int.mul_le_mul_of_nonneg_left (show -b ≤ B by omega) hA)
  have k2 : -(A * B) ≤ a * b := by
    have : (-a) * b ≤ A * B := by
      rcases Int.le_total 0 b with h | h
      · exact Int.le_trans (Int.mul_le_mul_of_nonneg_right (show -a ≤ A by omega) h) (Int.mul_le_mul_of_nonneg_left h4 hA)
      · have e : (-a) * b = a * (-b) := by grind
        rw [e]
        exact Int.le_trans (Int.mul_le_mul_of_nonneg_right h2 (by omega)) (Int.mul_le_mul_of_nonneg_left (show -b ≤ B by omega) hA)
    have e : (-a) * b = -(a * b) := by grind
    omega
  exact ⟨k2, k1⟩

theorem res_cell {fn : Func} {p : Tmp} {ty : TypeId} (h : fn.results = #[.cell p ty]) (tmps : Array Value) (P : Program) (w : World) :
    (results fn tmps).run P w = ((asAddr (tmps.getD p undef)).run P w).andThen fun a w₁ => (loadVar ty a).run P w₁ := by
  simp only [results, h]
  simp [Sem.run_bind, Result.andThen]
theorem load_spot {W : World} {b : Nat} {v0 v1 v2 : Value} (h : VRow W b 65 [v0, v1, v2]) : (loadVar 65 ⟨b, 0, none⟩).run Tryz.prog W = .ok (.agg #[v0, v1, v2]) W := by
  have c0 := h.cell (i := 0) (v := v0) rfl
  have c1 := h.cell (i := 1) (v := v1) rfl
  have c2 := h.cell (i := 2) (v := v2) rfl
  simp [go_sem, c0, c1, c2]
theorem load_seg {W : World} {b : Nat} {v0 v1 v2 v3 : Value} (h : VRow W b 98 [v0, v1, v2, v3]) : (loadVar 98 ⟨b, 0, none⟩).run Tryz.prog W = .ok (.agg #[v0, v1, v2, v3]) W := by
  have c0 := h.cell (i := 0) (v := v0) rfl
  have c1 := h.cell (i := 1) (v := v1) rfl
  have c2 := h.cell (i := 2) (v := v2) rfl
  have c3 := h.cell (i := 3) (v := v3) rfl
  simp [go_sem, c0, c1, c2, c3]
theorem load_pnt {W : World} {b : Nat} {v0 v1 : Value} (h : VRow W b 48 [v0, v1]) : (loadVar 48 ⟨b, 0, none⟩).run Tryz.prog W = .ok (.agg #[v0, v1]) W := by
  have c0 := h.cell (i := 0) (v := v0) rfl
  have c1 := h.cell (i := 1) (v := v1) rfl
  simp [go_sem, c0, c1]
/-- A struct that is given back lies in a cell of the call's own. -/
theorem ret_cell {fn : Func} {p : Tmp} {ty : TypeId} (h : fn.results = #[.cell p ty]) {a : Act} {W : World} {Q : Ending → World → Prop} {b : Nat} {v : Value} (h4 : a.tmps.getD p undef = .pointer (some ⟨b, 0, none⟩)) (hd : a.defers = [])
    (hl : (loadVar ty ⟨b, 0, none⟩).run Tryz.prog W = .ok v W) (hQ : Q (.returned v) W) : bodyPost Tryz.prog fn Q .ret a W := by
  refine bodyPost_ret (v := v) ?_ hd hQ
  rw [res_cell h, h4]
  simp only [asAddr, Sem.run_pure, Result.andThen_ok]
  exact hl
theorem ret_i {a b : Int} (h : a = b) : Ending.returned (.int .i64 a) = .returned (.int .i64 b) := by rw [h]
theorem ret_b {a b : Bool} (h : a = b) : Ending.returned (.bool a) = .returned (.bool b) := by rw [h]

set_option maxHeartbeats 400000 in
theorem sign_any (n : Int) (w : World) : Calls Tryz.prog 147 #[.int .i64 n] w fun e w' => e = .returned (.int .i64 (Vd.sg n)) ∧ w' = w := by
  rcases Vd.sg_cases n with ⟨h, e⟩ | ⟨h, e⟩ | ⟨h, e⟩
  all_goals
    rw [e]
    clear e
    go_enter Tryz.func147, Tryz.ntmps147
    go_wp2
    go_ret
    exact ⟨rfl, rfl⟩

set_option maxHeartbeats 1000000 in
theorem before_any (p q : Pnt) (w : World) : Calls Tryz.prog 128 #[ptV p, ptV q] w fun e w' => e = .returned (.bool (decide (Vd.bef p q))) ∧ Up w w' := by
  obtain ⟨px, py⟩ := p
  obtain ⟨qx, qy⟩ := q
  simp only [ptV, Vd.bef]
  rcases Int.lt_trichotomy px qx with h | h | h
  · go_enter Tryz.func128, Tryz.ntmps128
    go_wp2
    go_ret
    exact ⟨ret_b (by simp [h]), ((Up.refl _).alloc _).alloc _⟩
  · subst h
    by_cases h2 : py < qy
    all_goals
      go_enter Tryz.func128, Tryz.ntmps128
      go_wp2
      go_ret
      exact ⟨ret_b (by simp; omega), ((Up.refl _).alloc _).alloc _⟩
  · have h1 : ¬ px < qx := by omega
    have h2 : (px == qx) = false := beq_eq_false_iff_ne.2 (by omega)
    have h3 : ¬ px = qx := by omega
    go_enter Tryz.func128, Tryz.ntmps128
    go_wp2
    go_ret
    exact ⟨ret_b (by simp; omega), ((Up.refl _).alloc _).alloc _⟩

set_option maxHeartbeats 1000000 in
theorem at_any (p : Pnt) (w : World) : Calls Tryz.prog 127 #[ptV p] w fun e w' => e = .returned (spotV (Vd.at1 p)) ∧ Up w w' := by
  obtain ⟨px, py⟩ := p
  simp only [ptV, spotV, Vd.at1]
  go_enter Tryz.func127, Tryz.ntmps127
  go_wp2
  exact bodyPost_ret (v := .agg #[.int .i64 px, .int .i64 py, .int .i64 1]) (by simp [results, Tryz.results127, go_sem]) rfl ⟨rfl, ((Up.refl _).alloc _).alloc _⟩

set_option maxHeartbeats 1000000 in
theorem middle_any (p q : Pnt) (hp : Vd.Cd p) (hq : Vd.Cd q) (w : World) : Calls Tryz.prog 103 #[ptV p, ptV q] w fun e w' => e = .returned (spotV (Vd.midOf p q)) ∧ Up w w' := by
  obtain ⟨px, py⟩ := p
  obtain ⟨qx, qy⟩ := q
  simp only [Vd.Cd] at hp hq
  simp only [ptV, spotV, Vd.midOf]
  go_enter Tryz.func103, Tryz.ntmps103
  go_wp2
  exact bodyPost_ret (v := .agg #[.int .i64 (px + qx), .int .i64 (py + qy), .int .i64 2]) (by simp [results, Tryz.results103, go_sem]) rfl ⟨rfl, (((Up.refl _).alloc _).alloc _).alloc _⟩

set_option maxHeartbeats 2000000 in
theorem side_any (s : Vd.Seg) (p : Vd.Spot) (hs : Vd.CdS s) (hp : Vd.Sp p) (w : World) : Calls Tryz.prog 126 #[segV s, spotV p] w fun e w' => e = .returned (.int .i64 (Vd.side s p)) ∧ Up w w' := by
  obtain ⟨⟨ax, ay⟩, ⟨bx, bY⟩⟩ := s
  obtain ⟨⟨x, y⟩, t⟩ := p
  simp only [Vd.CdS, Vd.Cd, Vd.Sp] at hs hp
  obtain ⟨⟨a1, a2, a3, a4⟩, b1, b2, b3, b4⟩ := hs
  obtain ⟨p1, p2, p3, p4, p5, p6⟩ := hp
  simp only [segV, spotV, Vd.side, Vd.cr]
  obtain ⟨m1, m2⟩ := mul_bd (a := ax) (b := t) (A := 32768) (B := 1048576) (by omega) a2 (by omega) p6
  obtain ⟨m3, m4⟩ := mul_bd (a := ay) (b := t) (A := 32768) (B := 1048576) (by omega) a4 (by omega) p6
  obtain ⟨n1, n2⟩ := mul_bd (a := bx - ax) (b := y - ay * t) (A := 65536) (B := 68719476736) (by omega) (by omega) (by omega) (by omega)
  obtain ⟨n3, n4⟩ := mul_bd (a := bY - ay) (b := x - ax * t) (A := 65536) (B := 68719476736) (by omega) (by omega) (by omega) (by omega)
  have w1 : wrap64 (ax * t) = ax * t := w64 (by omega) (by omega)
  have w2 : wrap64 (ay * t) = ay * t := w64 (by omega) (by omega)
  have w3 : wrap64 ((bx - ax) * (y - ay * t)) = (bx - ax) * (y - ay * t) := w64 (by omega) (by omega)
  have w4 : wrap64 ((bY - ay) * (x - ax * t)) = (bY - ay) * (x - ax * t) := w64 (by omega) (by omega)
  have w5 : wrap64 (x - ax * t) = x - ax * t := w64 (by omega) (by omega)
  have w6 : wrap64 (y - ay * t) = y - ay * t := w64 (by omega) (by omega)
  have w7 : wrap64 ((bx - ax) * (y - ay * t) - (bY - ay) * (x - ax * t)) = (bx - ax) * (y - ay * t) - (bY - ay) * (x - ax * t) := w64 (by omega) (by omega)
  go_enter Tryz.func126, Tryz.ntmps126
  go_wp2_with (go_at_call 147; refine (sign_any _ _).mono ?_; rintro e w1 ⟨rfl, rfl⟩)
  go_ret
  exact ⟨rfl, ((Up.refl _).alloc _).alloc _⟩
end Go.Proofs.YtcclepohmhdpbabGreatDoor

/- REGIONS THAT DRAW THEIR ORDER, whose operations read and whose callees make memory and leave what was there: one walk serves every order. -/
namespace Go.Proofs.YtcclepohmhdpbabGreatDoor
set_option linter.all false
open Go.RowKit Go.Deep

/-- A world that has grown out of w. -/
structure Gr (w : World) where
  v : World
  up : Up w v
instance (w : World) : Nonempty (Gr w) := ⟨⟨w, Up.refl w⟩⟩
theorem wp_region_up {P : Program} {id : Nat} {Q : Exit → Act → World → Prop} {a : Act} {w : World} {l : List Oper} (hm : P.follows .mixedOrders = true) (hB : Region.lexB .any l.toArray = true)
    (h : wpQuiet P l.toArray (fun w' => ∃ g : Gr w, w' = g.v) (fun a' => ∀ w', (∃ g : Gr w, w' = g.v) → Q .normal a' w') l a) : (Code.region id l.toArray true).wp P Q a w :=
  wp_region_quiet (C := fun w' => ∃ g : Gr w, w' = g.v) hm hB ⟨⟨_, (Up.refl w).drew⟩, rfl⟩ (by simpa using h)
theorem Calls.up_of {P : Program} {f : FuncId} {args : Array Value} {w : World} {g : Gr w} {v : Value}
    (h : Calls P f args g.v fun e w' => e = .returned v ∧ Up g.v w') : Calls P f args g.v fun e w'' => e = .returned v ∧ ∃ m : Gr w, w'' = m.v :=
  h.mono fun _ _ ⟨he, hu⟩ => ⟨he, ⟨_, g.up.trans hu⟩, rfl⟩
theorem VRow.gr {w : World} {b : Nat} {t : TypeId} {vs : List Value} (h : VRow w b t vs) {i : Nat} {v : Value} (hi : vs[i]? = some v) (g : Gr w) : g.v.cell? ⟨b, i, none⟩ = some v := g.up.cell (h.cell hi)
theorem cell_gr {w : World} {p : Addr} {v : Value} (h : w.cell? p = some v) (g : Gr w) : g.v.cell? p = some v := g.up.cell h
/-- all old cells, all old marks read as before. -/
theorem bcell {W w1 : World} (hb : Up W w1) : (∀ b o, b < W.heap.size → w1.cell? ⟨b, o, none⟩ = W.cell? ⟨b, o, none⟩) ∧ (∀ b o, b < W.heap.size → w1.frozen? ⟨b, o, none⟩ = W.frozen? ⟨b, o, none⟩) :=
  ⟨fun b o h => Below.cell hb (p := ⟨b, o, none⟩) h, fun b o h => Below.frozen hb (p := ⟨b, o, none⟩) h⟩
end Go.Proofs.YtcclepohmhdpbabGreatDoor
