import Derived.Test.YtcclepohmhdpbabVdE
import Derived.WalkKit
import Derived.WalkSpells
import Derived.Deep.OwnRows
import Derived.Deep.Draws
import Derived.Deep.QuietTactic
import Derived.BigQuiet
import Derived.Deep.LoopGhost
import Derived.Laws.CopyOwn
import Derived.Test.YtcclepohmhdpbabProg
import Derived.Test.YtcclepohmhdpbabPlD
import Derived.WalkLawsBesides
import Derived.Deep.DeepCutAuto
/- LISTS OF POINTS IN MEMORY, READ; what a call that makes memory leaves of the old. -/
namespace Go.Proofs.Ytcclepohmhdpbab
set_option linter.all false
open Go.RowKit

theorem hide {p : Prop} (h : p) : Hid p := h

/-- All that was there is as it was. -/
abbrev Up (w w' : World) : Prop := Below w.heap.size w w'

theorem Up.refl (w : World) : Up w w := Below.refl _ _
theorem Up.trans {a b c : World} (h : Up a b) (k : Up b c) : Up a c := Below.trans h (Below.mono k h.size)
theorem Up.alloc {a w : World} (h : Up a w) (o : Obj) : Up a (w.alloc o) := Below.alloc h h.size o
theorem Up.drew {a w : World} (h : Up a w) : Up a w.drew := Below.drew h
theorem Up.drewN {a w : World} (h : Up a w) (n : Nat) : Up a (w.drewN n) := by
  induction n with
  | zero => exact h
  | succ n ih => exact Below.drew ih
theorem Up.setCell {a w : World} (h : Up a w) {p : Addr} (hp : a.heap.size ≤ p.block) (u : Value) : Up a (w.setCell p u) := Below.setCell h hp u

theorem lt_of_cell {w : World} {a : Addr} {v : Value} (h : w.cell? a = some v) : a.block < w.heap.size := by
  unfold World.cell? at h
  rcases Nat.lt_or_ge a.block w.heap.size with g | g
  · exact g
  · rw [Array.getElem?_eq_none g] at h; simp at h

theorem Up.cell {w w' : World} (h : Up w w') {a : Addr} {v : Value} (hc : w.cell? a = some v) : w'.cell? a = some v := by
  rw [Below.cell h (lt_of_cell hc)]; exact hc

theorem ne_size {w w' : World} (h : Up w w') {a : Addr} {v : Value} (hc : w.cell? a = some v) : a.block ≠ w'.heap.size := by
  have h1 := lt_of_cell hc
  have h2 := h.size
  omega

/-- Draws alone. -/
def Dr (w w' : World) : Prop := ∃ n, w' = w.drewN n
theorem Dr.refl (w : World) : Dr w w := ⟨0, rfl⟩
theorem Dr.trans {a b c : World} (h : Dr a b) (k : Dr b c) : Dr a c := by
  obtain ⟨n, rfl⟩ := h
  obtain ⟨m, rfl⟩ := k
  exact ⟨n + m, World.drewN_drewN _ _ _⟩
theorem Dr.n {a b : World} (h : Dr a b) (n : Nat) : Dr a (b.drewN n) := h.trans ⟨n, rfl⟩
theorem Dr.up {a b : World} (h : Dr a b) : Up a b := by
  obtain ⟨n, rfl⟩ := h
  exact (Up.refl _).drewN n

/-- A ring reads as these points. -/
def Rd1 (w : World) (v : Value) (r : Ring) : Prop :=
  ∃ ao cap, v = .slice ao r.length cap ∧ ∀ i p, r[i]? = some p → ∃ b, ao = some ⟨b, 0, none⟩ ∧ w.cell? ⟨b, i * 2, none⟩ = some (.int .i64 p.1) ∧ w.cell? ⟨b, i * 2 + 1, none⟩ = some (.int .i64 p.2)

def Rd2 (w : World) (v : Value) (l : Poly) : Prop :=
  ∃ ao cap, v = .slice ao l.length cap ∧ ∀ i r, l[i]? = some r → ∃ b u, ao = some ⟨b, 0, none⟩ ∧ w.cell? ⟨b, i, none⟩ = some u ∧ Rd1 w u r

def Rd3 (w : World) (v : Value) (m : Mult) : Prop :=
  ∃ ao cap, v = .slice ao m.length cap ∧ ∀ i l, m[i]? = some l → ∃ b u, ao = some ⟨b, 0, none⟩ ∧ w.cell? ⟨b, i, none⟩ = some u ∧ Rd2 w u l

theorem Rd1.up {w w' : World} {v : Value} {r : Ring} (h : Rd1 w v r) (k : Up w w') : Rd1 w' v r := by
  obtain ⟨ao, cap, e, h⟩ := h
  exact ⟨ao, cap, e, fun i p hp => by obtain ⟨b, e1, e2, e3⟩ := h i p hp; exact ⟨b, e1, k.cell e2, k.cell e3⟩⟩
theorem Rd2.up {w w' : World} {v : Value} {l : Poly} (h : Rd2 w v l) (k : Up w w') : Rd2 w' v l := by
  obtain ⟨ao, cap, e, h⟩ := h
  exact ⟨ao, cap, e, fun i p hp => by obtain ⟨b, u, e1, e2, e3⟩ := h i p hp; exact ⟨b, u, e1, k.cell e2, e3.up k⟩⟩
theorem Rd3.up {w w' : World} {v : Value} {m : Mult} (h : Rd3 w v m) (k : Up w w') : Rd3 w' v m := by
  obtain ⟨ao, cap, e, h⟩ := h
  exact ⟨ao, cap, e, fun i p hp => by obtain ⟨b, u, e1, e2, e3⟩ := h i p hp; exact ⟨b, u, e1, k.cell e2, e3.up k⟩⟩

end Go.Proofs.Ytcclepohmhdpbab

/- LISTS OF POINTS THAT LIE IN BLOCKS OF THEIR OWN: descriptors; what stores and new blocks make of them. -/
namespace Go.Proofs.Ytcclepohmhdpbab
set_option linter.all false
open Go.RowKit Go.Deep

def flat (r : Ring) : List Value := r.flatMap fun p => [.int .i64 p.1, .int .i64 p.2]

theorem flat_nil : flat [] = [] := rfl
theorem flat_cons (p : Pnt) (r : Ring) : flat (p :: r) = .int .i64 p.1 :: .int .i64 p.2 :: flat r := rfl
theorem flat_append (a b : Ring) : flat (a ++ b) = flat a ++ flat b := by simp [flat]
theorem flat_length (r : Ring) : (flat r).length = r.length * 2 := by
  induction r with
  | nil => rfl
  | cons p r ih => rw [flat_cons]; simp only [List.length_cons, ih]; omega
theorem flat_one (r : Ring) : ∀ v ∈ flat r, v.oneCell' = true := by
  intro v hv
  obtain ⟨p, _, hp⟩ := List.mem_flatMap.1 hv
  simp at hp
  rcases hp with rfl | rfl <;> rfl
theorem flat_at (r : Ring) : ∀ (i : Nat) (p : Pnt), r[i]? = some p → (flat r)[i * 2]? = some (.int .i64 p.1) ∧ (flat r)[i * 2 + 1]? = some (.int .i64 p.2) := by
  induction r with
  | nil => intro i p h; simp at h
  | cons q r ih =>
    intro i p h
    cases i with
    | zero => simp at h; subst h; exact ⟨rfl, rfl⟩
    | succ i =>
      have := ih i p (by simpa using h)
      rw [flat_cons]
      have e1 : (i + 1) * 2 = i * 2 + 1 + 1 := by omega
      rw [e1]
      exact ⟨by simpa using this.1, by simpa using this.2⟩
theorem flat_set (r : Ring) : ∀ (i : Nat) (p : Pnt), flat (r.set i p) = ((flat r).set (i * 2) (.int .i64 p.1)).set (i * 2 + 1) (.int .i64 p.2) := by
  induction r with
  | nil => intro i p; rfl
  | cons q r ih =>
    intro i p
    cases i with
    | zero => rfl
    | succ i =>
      have e1 : (i + 1) * 2 = i * 2 + 1 + 1 := by omega
      rw [e1, List.set_cons_succ, flat_cons, flat_cons, ih]
      rfl

def VRow (w : World) (b : Nat) (t : TypeId) (vs : List Value) : Prop := w.heap[b]? = some (.cells vs.toArray t (0, 0))
def PRow (w : World) (b : Nat) (r : Ring) : Prop := VRow w b 25 (flat r)

theorem VRow.lt {w : World} {b : Nat} {t : TypeId} {vs : List Value} (h : VRow w b t vs) : b < w.heap.size := (Array.getElem?_eq_some_iff.1 h).1
theorem VRow.cell {w : World} {b : Nat} {t : TypeId} {vs : List Value} (h : VRow w b t vs) {i : Nat} {v : Value} (hi : vs[i]? = some v) : w.cell? ⟨b, i, none⟩ = some v := by
  unfold VRow at h
  simp [World.cell?, h, hi]
theorem VRow.frozen {w : World} {b : Nat} {t : TypeId} {vs : List Value} (h : VRow w b t vs) (i : Nat) : w.frozen? ⟨b, i, none⟩ = false := by
  unfold VRow at h
  simp [World.frozen?, h]
theorem VRow.of_block {w w' : World} {b : Nat} {t : TypeId} {vs : List Value} (h : VRow w b t vs) (e : w'.heap[b]? = w.heap[b]?) : VRow w' b t vs := e.trans h
theorem VRow.alloc {w : World} {b : Nat} {t : TypeId} {vs : List Value} (h : VRow w b t vs) (o : Obj) : VRow (w.alloc o) b t vs := h.of_block (Below.heap_alloc _ _ _ h.lt)
theorem VRow.new (w : World) (vs : List Value) (t : TypeId) : VRow (w.alloc (.cells vs.toArray t)) w.heap.size t vs := heap_alloc_new w _
theorem VRow.set {w : World} {b : Nat} {t : TypeId} {vs : List Value} (h : VRow w b t vs) (i : Nat) (v : Value) : VRow (w.setCell ⟨b, i, none⟩ v) b t (vs.set i v) := by
  unfold VRow at *
  simp [World.setCell, Array.getElem?_modify, h]
theorem VRow.setOther {w : World} {b : Nat} {t : TypeId} {vs : List Value} (h : VRow w b t vs) {a : Addr} (ha : b ≠ a.block) (v : Value) : VRow (w.setCell a v) b t vs := h.of_block (Below.heap_setCell _ _ _ _ ha)
theorem VRow.drewN {w : World} {b : Nat} {t : TypeId} {vs : List Value} (h : VRow w b t vs) (n : Nat) : VRow (w.drewN n) b t vs := h

theorem PRow.cells {w : World} {b : Nat} {r : Ring} (h : PRow w b r) {i : Nat} {p : Pnt} (hi : r[i]? = some p) : w.cell? ⟨b, i * 2, none⟩ = some (.int .i64 p.1) ∧ w.cell? ⟨b, i * 2 + 1, none⟩ = some (.int .i64 p.2) :=
  ⟨VRow.cell h (flat_at r i p hi).1, VRow.cell h (flat_at r i p hi).2⟩
theorem PRow.set {w : World} {b : Nat} {r : Ring} (h : PRow w b r) (i : Nat) (p : Pnt) : PRow ((w.setCell ⟨b, i * 2, none⟩ (.int .i64 p.1)).setCell ⟨b, i * 2 + 1, none⟩ (.int .i64 p.2)) b (r.set i p) := by
  unfold PRow; rw [flat_set]; exact (VRow.set h _ _).set _ _

/-- A ring's list: its block, its points, what stands in its spare room. -/
structure D1 where
  b : Nat
  r : Ring
  s : Ring
structure D2 where
  b : Nat
  rs : List D1
  s : List D1
structure D3 where
  b : Nat
  ps : List D2
  s : List D2

def D1.v (d : D1) : Value := .slice (some ⟨d.b, 0, none⟩) d.r.length (d.r.length + d.s.length)
def D2.v (d : D2) : Value := .slice (some ⟨d.b, 0, none⟩) d.rs.length (d.rs.length + d.s.length)
def D3.v (d : D3) : Value := .slice (some ⟨d.b, 0, none⟩) d.ps.length (d.ps.length + d.s.length)
def D2.pts (d : D2) : Poly := d.rs.map D1.r
def D3.m (d : D3) : Mult := d.ps.map D2.pts
def D2.bl (d : D2) : List Nat := d.b :: (d.rs ++ d.s).map D1.b
def D3.bl (d : D3) : List Nat := d.b :: (d.ps ++ d.s).flatMap D2.bl

def OK1 (w : World) (d : D1) : Prop := PRow w d.b (d.r ++ d.s)
structure OK2 (w : World) (d : D2) : Prop where
  row : VRow w d.b 26 ((d.rs ++ d.s).map D1.v)
  sub : ∀ x ∈ d.rs ++ d.s, OK1 w x
structure OK3 (w : World) (d : D3) : Prop where
  row : VRow w d.b 27 ((d.ps ++ d.s).map D2.v)
  sub : ∀ x ∈ d.ps ++ d.s, OK2 w x

theorem OK1.of {w w' : World} {d : D1} (h : OK1 w d) (e : w'.heap[d.b]? = w.heap[d.b]?) : OK1 w' d := VRow.of_block h e
theorem OK2.of {w w' : World} {d : D2} (h : OK2 w d) (e : ∀ b ∈ d.bl, w'.heap[b]? = w.heap[b]?) : OK2 w' d :=
  ⟨h.row.of_block (e _ (by simp [D2.bl])), fun x hx => (h.sub x hx).of (e _ (by simp only [D2.bl, List.mem_cons]; exact .inr (List.mem_map_of_mem hx)))⟩
theorem OK3.of {w w' : World} {d : D3} (h : OK3 w d) (e : ∀ b ∈ d.bl, w'.heap[b]? = w.heap[b]?) : OK3 w' d :=
  ⟨h.row.of_block (e _ (by simp [D3.bl])), fun x hx => (h.sub x hx).of (fun b hb => e b (by simp only [D3.bl, List.mem_cons, List.mem_flatMap]; exact .inr ⟨x, hx, hb⟩))⟩
theorem OK2.lt {w : World} {d : D2} (h : OK2 w d) : ∀ b ∈ d.bl, b < w.heap.size := by
  intro b hb
  simp only [D2.bl, List.mem_cons, List.mem_map] at hb
  rcases hb with rfl | ⟨x, hx, rfl⟩
  · exact h.row.lt
  · exact VRow.lt (h.sub x hx)
theorem OK3.lt {w : World} {d : D3} (h : OK3 w d) : ∀ b ∈ d.bl, b < w.heap.size := by
  intro b hb
  simp only [D3.bl, List.mem_cons, List.mem_flatMap] at hb
  rcases hb with rfl | ⟨x, hx, hb⟩
  · exact h.row.lt
  · exact (h.sub x hx).lt b hb
theorem OK1.up {w w' : World} {d : D1} (h : OK1 w d) (k : Up w w') : OK1 w' d := h.of (k.block _ (VRow.lt h))
theorem OK2.up {w w' : World} {d : D2} (h : OK2 w d) (k : Up w w') : OK2 w' d := h.of fun b hb => k.block _ (h.lt b hb)
theorem OK3.up {w w' : World} {d : D3} (h : OK3 w d) (k : Up w w') : OK3 w' d := h.of fun b hb => k.block _ (h.lt b hb)

theorem OK1.rd {w : World} {d : D1} (h : OK1 w d) : Rd1 w d.v d.r :=
  ⟨_, _, rfl, fun i p hp => ⟨d.b, rfl, PRow.cells h (by rw [List.getElem?_append_left (Pl.lt_of_some hp)]; exact hp)⟩⟩
theorem OK2.rd {w : World} {d : D2} (h : OK2 w d) : Rd2 w d.v d.pts := by
  refine ⟨_, _, by simp only [D2.v, D2.pts, List.length_map]; rfl, fun i r hr => ?_⟩
  simp only [D2.pts, List.getElem?_map, Option.map_eq_some_iff] at hr
  obtain ⟨x, hx, rfl⟩ := hr
  have hx' : (d.rs ++ d.s)[i]? = some x := by rw [List.getElem?_append_left (Pl.lt_of_some hx)]; exact hx
  exact ⟨d.b, x.v, rfl, h.row.cell (by simp only [List.getElem?_map, hx']; rfl), (h.sub x (Pl.mem_of_some hx')).rd⟩
theorem OK3.rd {w : World} {d : D3} (h : OK3 w d) : Rd3 w d.v d.m := by
  refine ⟨_, _, by simp only [D3.v, D3.m, List.length_map]; rfl, fun i r hr => ?_⟩
  simp only [D3.m, List.getElem?_map, Option.map_eq_some_iff] at hr
  obtain ⟨x, hx, rfl⟩ := hr
  have hx' : (d.ps ++ d.s)[i]? = some x := by rw [List.getElem?_append_left (Pl.lt_of_some hx)]; exact hx
  exact ⟨d.b, x.v, rfl, h.row.cell (by simp only [List.getElem?_map, hx']; rfl), (h.sub x (Pl.mem_of_some hx')).rd⟩

/-! ### copy, of points -/
theorem alloc_setRow (w : World) (c c' : Array Value) (t : TypeId) : (w.alloc (.cells c t)).setRow w.heap.size c' = w.alloc (.cells c' t) := by
  show ({ w with heap := (w.heap.push (.cells c t)).modify w.heap.size _ } : World) = { w with heap := w.heap.push (.cells c' t) }
  congr 1
  apply Array.ext_getElem?
  intro k
  rw [Array.getElem?_modify, Array.getElem?_push, Array.getElem?_push]
  by_cases hk : w.heap.size = k
  · subst hk; simp
  · have hk' : ¬ k = w.heap.size := fun e => hk e.symm
    simp [hk, hk']

theorem run_copy_pts {P : Program} (w : World) (dT sT ty elem : TypeId) (g dLen dCap : Nat) (ao : Option Addr) (sCap : Nat) (t : TypeId) (cur : List Value) (r : Ring)
    (hu : P.underlying dT = some (.slice elem)) (hs : (P.info? elem).map (·.size) = some 2) (hg : w.heap[g]? = some (.cells cur.toArray t (0, 0)))
    (hn : r.length ≤ dLen) (hsrc : ∀ i p, r[i]? = some p → ∃ b, ao = some ⟨b, 0, none⟩ ∧ w.cell? ⟨b, i * 2, none⟩ = some (.int .i64 p.1) ∧ w.cell? ⟨b, i * 2 + 1, none⟩ = some (.int .i64 p.2)) (hfit : r.length * 2 ≤ cur.length) :
    (Builtin.copy_ #[dT, sT] ty #[.slice (some ⟨g, 0, none⟩) dLen dCap, .slice ao r.length sCap]).run P w = .ok (goInt r.length) (w.setRow g (flat r ++ cur.drop (r.length * 2)).toArray) := by
  have hst := run_storeCells_at P g 0 t (flat r) 0 cur.toArray w hg (by simpa [flat_length] using hfit) (flat_one r)
  simp only [Nat.zero_add, List.take_zero, List.nil_append, flat_length] at hst
  have hmin : Nat.min r.length dLen = r.length := Nat.min_eq_left hn
  cases hq : P.info? elem with
  | none => simp [hq] at hs
  | some i =>
    have hi : i.size = 2 := by simpa [hq] using hs
    cases hr : r with
    | nil =>
      subst hr
      simp only [flat_nil, List.nil_append, List.length_nil, Nat.zero_mul, List.drop_zero] at hst ⊢
      cases ao with
      | none => simp [Builtin.copy_, run_underlying hu, Builtin.lenOf, Builtin.firstCells, sizeOf, typeInfo, hq, hi, storeCells, setRow_self w g cur.toArray t (0, 0) hg]
      | some a =>
        have hl := run_loadCells_list (P := P) w a [] (by intro j v h; simp at h)
        simp only [List.length_nil] at hl
        simp [Builtin.copy_, run_underlying hu, Builtin.lenOf, Builtin.firstCells, sizeOf, typeInfo, hq, hi, storeCells, hl, setRow_self w g cur.toArray t (0, 0) hg]
    | cons p0 r0 =>
      obtain ⟨b, rfl, _⟩ := hsrc 0 p0 (by rw [hr]; rfl)
      have hl := run_loadCells_list (P := P) w ⟨b, 0, none⟩ (flat r) (by
        intro j v hj
        have hjl : j < r.length * 2 := by have := Pl.lt_of_some hj; rwa [flat_length] at this
        obtain ⟨p, hp⟩ := Pl.some_of_lt (l := r) (k := j / 2) (by omega)
        obtain ⟨b', hb', e1, e2⟩ := hsrc _ p hp
        cases hb'
        have hf := flat_at r _ p hp
        have hadd : (⟨b, 0, none⟩ : Addr).add j = ⟨b, j, none⟩ := by unfold Addr.add; split <;> simp_all
        rw [hadd]
        rcases Nat.mod_two_eq_zero_or_one j with h2 | h2
        · rw [show j / 2 * 2 = j by omega] at hf e1
          rw [hf.1] at hj; cases hj; exact e1
        · rw [show j / 2 * 2 + 1 = j by omega] at hf e2
          rw [hf.2] at hj; cases hj; exact e2)
      rw [flat_length] at hl
      rw [← hr]
      simp [Builtin.copy_, run_underlying hu, Builtin.lenOf, Builtin.firstCells, sizeOf, typeInfo, hq, hi, hmin, hl, hst, flat_length]

/-- copy(dst, src), dst a list of points of the call's own, from its beginning. -/
theorem wpList_copy_pts {P : Program} {w : World} {ops : Array Oper} {rest : List Oper} {o : Oper} {a : Act} {Q : Exit → Act → World → Prop} (hgd : o.guard = none) (d s : Operand) (dT sT : TypeId)
    (ho : o.op = .call { callee := .builtin .copy, args := #[d, s], argTypes := #[dT, sT] }) (elem : TypeId) (hu : P.underlying dT = some (.slice elem)) (hsz : (P.info? elem).map (·.size) = some 2)
    (g dLen dCap : Nat) (ao : Option Addr) (sCap : Nat) (r : Ring) (hd : a.eval d = .slice (some ⟨g, 0, none⟩) dLen dCap) (hs : a.eval s = .slice ao r.length sCap)
    (cur : List Value) (t : TypeId) (hg : w.heap[g]? = some (.cells cur.toArray t (0, 0))) (hn : r.length ≤ dLen)
    (hsrc : ∀ i p, r[i]? = some p → ∃ b, ao = some ⟨b, 0, none⟩ ∧ w.cell? ⟨b, i * 2, none⟩ = some (.int .i64 p.1) ∧ w.cell? ⟨b, i * 2 + 1, none⟩ = some (.int .i64 p.2)) (hfit : r.length * 2 ≤ cur.length)
    (h : wpList P ops Q rest (a.put o.dst (goInt r.length)) (w.setRow g (flat r ++ cur.drop (r.length * 2)).toArray)) : wpList P ops Q (o :: rest) a w := by
  refine wpList_plain hgd fun K hK => ?_
  have hrun := run_copy_pts (P := P) w dT sT o.type elem g dLen dCap ao sCap t cur r hu hsz hg hn hsrc hfit
  unfold Oper.wp
  simp [execOp, ho, resolve, invoke, builtin, hd, hs, hrun, Result.andThen]
  exact hK _ _ h

end Go.Proofs.Ytcclepohmhdpbab

/- THE WALKS: package plane, points and segments. -/
namespace Go.Proofs.Ytcclepohmhdpbab
set_option linter.all false
open Go.RowKit Go.Deep

def ptV (p : Pnt) : Value := .agg #[.int .i64 p.1, .int .i64 p.2]
def segV (s : Vd.Seg) : Value := .agg #[.int .i64 s.1.1, .int .i64 s.1.2, .int .i64 s.2.1, .int .i64 s.2.2]
def spotV (p : Vd.Spot) : Value := .agg #[.int .i64 p.1.1, .int .i64 p.1.2, .int .i64 p.2]

theorem w64 {x : Int} (h1 : -9223372036854775808 ≤ x) (h2 : x ≤ 9223372036854775807) : wrap64 x = x := by unfold wrap64; omega
/-- a product of two that are bounded. -/
theorem mul_bd {a b A B : Int} (h1 : -A ≤ a) (h2 : a ≤ A) (h3 : -B ≤ b) (h4 : b ≤ B) : -(A * B) ≤ a * b ∧ a * b ≤ A * B := by
  have hA : 0 ≤ A := by omega
  have hB : 0 ≤ B := by omega
  have k1 : a * b ≤ A * B := by
    rcases Int.le_total 0 b with h | h
    · exact Int.le_trans (Int.mul_le_mul_of_nonneg_right h2 h) (Int.mul_le_mul_of_nonneg_left h4 hA)
    · have e : a * b = (-a) * (-b) := by grind
      rw [e]
      exact Int.le_trans (Int.mul_le_mul_of_nonneg_right (show -a ≤ A by omega) (by omega)) (Int.mul_le_mul_of_nonneg_left (show -b ≤ B by omega) hA)
  have k2 : -(A * B) ≤ a * b := by
    have : (-a) * b ≤ A * B := by
      rcases Int.le_total 0 b with h | h
      · exact Int.le_trans (Int.mul_le_mul_of_nonneg_right (show -a ≤ A by omega) h) (Int.mul_le_mul_of_nonneg_left h4 hA)
      · have e : (-a) * b = a * (-b) := by grind
        rw [e]
        exact Int.le_trans (Int.mul_le_mul_of_nonneg_right h2 (by omega)) (Int.mul_le_mul_of_nonneg_left (show -b ≤ B by omega) hA)
    have e : (-a) * b = -(a * b) := by grind
    omega
  exact ⟨k2, k1⟩

theorem res_cell {fn : Func} {p : Tmp} {ty : TypeId} (h : fn.results = #[.cell p ty]) (tmps : Array Value) (P : Program) (w : World) :
    (results fn tmps).run P w = ((asAddr (tmps.getD p undef)).run P w).andThen fun a w₁ => (loadVar ty a).run P w₁ := by
  simp only [results, h]
  simp [Sem.run_bind, Result.andThen]
theorem load_spot {W : World} {b : Nat} {v0 v1 v2 : Value} (h : VRow W b 42 [v0, v1, v2]) : (loadVar 42 ⟨b, 0, none⟩).run Try.prog W = .ok (.agg #[v0, v1, v2]) W := by
  have c0 := h.cell (i := 0) (v := v0) rfl
  have c1 := h.cell (i := 1) (v := v1) rfl
  have c2 := h.cell (i := 2) (v := v2) rfl
  simp [go_sem, c0, c1, c2]
theorem load_seg {W : World} {b : Nat} {v0 v1 v2 v3 : Value} (h : VRow W b 55 [v0, v1, v2, v3]) : (loadVar 55 ⟨b, 0, none⟩).run Try.prog W = .ok (.agg #[v0, v1, v2, v3]) W := by
  have c0 := h.cell (i := 0) (v := v0) rfl
  have c1 := h.cell (i := 1) (v := v1) rfl
  have c2 := h.cell (i := 2) (v := v2) rfl
  have c3 := h.cell (i := 3) (v := v3) rfl
  simp [go_sem, c0, c1, c2, c3]
theorem load_pnt {W : World} {b : Nat} {v0 v1 : Value} (h : VRow W b 25 [v0, v1]) : (loadVar 25 ⟨b, 0, none⟩).run Try.prog W = .ok (.agg #[v0, v1]) W := by
  have c0 := h.cell (i := 0) (v := v0) rfl
  have c1 := h.cell (i := 1) (v := v1) rfl
  simp [go_sem, c0, c1]
/-- A struct that is given back lies in a cell of the call's own. -/
theorem ret_cell {fn : Func} {p : Tmp} {ty : TypeId} (h : fn.results = #[.cell p ty]) {a : Act} {W : World} {Q : Ending → World → Prop} {b : Nat} {v : Value} (h4 : a.tmps.getD p undef = .pointer (some ⟨b, 0, none⟩)) (hd : a.defers = [])
    (hl : (loadVar ty ⟨b, 0, none⟩).run Try.prog W = .ok v W) (hQ : Q (.returned v) W) : bodyPost Try.prog fn Q .ret a W := by
  refine bodyPost_ret (v := v) ?_ hd hQ
  rw [res_cell h, h4]
  simp only [asAddr, Sem.run_pure, Result.andThen_ok]
  exact hl
theorem ret_i {a b : Int} (h : a = b) : Ending.returned (.int .i64 a) = .returned (.int .i64 b) := by rw [h]
theorem ret_b {a b : Bool} (h : a = b) : Ending.returned (.bool a) = .returned (.bool b) := by rw [h]

set_option maxHeartbeats 400000 in
theorem sign_any (n : Int) (w : World) : Calls Try.prog 49 #[.int .i64 n] w fun e w' => e = .returned (.int .i64 (Vd.sg n)) ∧ w' = w := by
  rcases Vd.sg_cases n with ⟨h, e⟩ | ⟨h, e⟩ | ⟨h, e⟩
  all_goals
    rw [e]
    clear e
    go_enter Try.func49, Try.ntmps49
    go_wp2
    go_ret
    exact ⟨rfl, rfl⟩

set_option maxHeartbeats 1000000 in
theorem before_any (p q : Pnt) (w : World) : Calls Try.prog 51 #[ptV p, ptV q] w fun e w' => e = .returned (.bool (decide (Vd.bef p q))) ∧ Up w w' := by
  obtain ⟨px, py⟩ := p
  obtain ⟨qx, qy⟩ := q
  simp only [ptV, Vd.bef]
  rcases Int.lt_trichotomy px qx with h | h | h
  · go_enter Try.func51, Try.ntmps51
    go_wp2
    go_ret
    exact ⟨ret_b (by simp [h]), ((Up.refl _).alloc _).alloc _⟩
  · subst h
    by_cases h2 : py < qy
    all_goals
      go_enter Try.func51, Try.ntmps51
      go_wp2
      go_ret
      exact ⟨ret_b (by simp; omega), ((Up.refl _).alloc _).alloc _⟩
  · have h1 : ¬ px < qx := by omega
    have h2 : (px == qx) = false := beq_eq_false_iff_ne.2 (by omega)
    have h3 : ¬ px = qx := by omega
    go_enter Try.func51, Try.ntmps51
    go_wp2
    go_ret
    exact ⟨ret_b (by simp; omega), ((Up.refl _).alloc _).alloc _⟩

set_option maxHeartbeats 1000000 in
theorem at_any (p : Pnt) (w : World) : Calls Try.prog 45 #[ptV p] w fun e w' => e = .returned (spotV (Vd.at1 p)) ∧ Up w w' := by
  obtain ⟨px, py⟩ := p
  simp only [ptV, spotV, Vd.at1]
  go_enter Try.func45, Try.ntmps45
  go_wp2
  exact bodyPost_ret (v := .agg #[.int .i64 px, .int .i64 py, .int .i64 1]) (by simp [results, Try.results45, go_sem]) rfl ⟨rfl, ((Up.refl _).alloc _).alloc _⟩

set_option maxHeartbeats 1000000 in
theorem middle_any (p q : Pnt) (hp : Vd.Cd p) (hq : Vd.Cd q) (w : World) : Calls Try.prog 48 #[ptV p, ptV q] w fun e w' => e = .returned (spotV (Vd.midOf p q)) ∧ Up w w' := by
  obtain ⟨px, py⟩ := p
  obtain ⟨qx, qy⟩ := q
  simp only [Vd.Cd] at hp hq
  simp only [ptV, spotV, Vd.midOf]
  go_enter Try.func48, Try.ntmps48
  go_wp2
  exact bodyPost_ret (v := .agg #[.int .i64 (px + qx), .int .i64 (py + qy), .int .i64 2]) (by simp [results, Try.results48, go_sem]) rfl ⟨rfl, (((Up.refl _).alloc _).alloc _).alloc _⟩

set_option maxHeartbeats 2000000 in
theorem side_any (s : Vd.Seg) (p : Vd.Spot) (hs : Vd.CdS s) (hp : Vd.Sp p) (w : World) : Calls Try.prog 41 #[segV s, spotV p] w fun e w' => e = .returned (.int .i64 (Vd.side s p)) ∧ Up w w' := by
  obtain ⟨⟨ax, ay⟩, ⟨bx, bY⟩⟩ := s
  obtain ⟨⟨x, y⟩, t⟩ := p
  simp only [Vd.CdS, Vd.Cd, Vd.Sp] at hs hp
  obtain ⟨⟨a1, a2, a3, a4⟩, b1, b2, b3, b4⟩ := hs
  obtain ⟨p1, p2, p3, p4, p5, p6⟩ := hp
  simp only [segV, spotV, Vd.side, Vd.cr]
  obtain ⟨m1, m2⟩ := mul_bd (a := ax) (b := t) (A := 32768) (B := 1048576) (by omega) a2 (by omega) p6
  obtain ⟨m3, m4⟩ := mul_bd (a := ay) (b := t) (A := 32768) (B := 1048576) (by omega) a4 (by omega) p6
  obtain ⟨n1, n2⟩ := mul_bd (a := bx - ax) (b := y - ay * t) (A := 65536) (B := 68719476736) (by omega) (by omega) (by omega) (by omega)
  obtain ⟨n3, n4⟩ := mul_bd (a := bY - ay) (b := x - ax * t) (A := 65536) (B := 68719476736) (by omega) (by omega) (by omega) (by omega)
  have w1 : wrap64 (ax * t) = ax * t := w64 (by omega) (by omega)
  have w2 : wrap64 (ay * t) = ay * t := w64 (by omega) (by omega)
  have w3 : wrap64 ((bx - ax) * (y - ay * t)) = (bx - ax) * (y - ay * t) := w64 (by omega) (by omega)
  have w4 : wrap64 ((bY - ay) * (x - ax * t)) = (bY - ay) * (x - ax * t) := w64 (by omega) (by omega)
  have w5 : wrap64 (x - ax * t) = x - ax * t := w64 (by omega) (by omega)
  have w6 : wrap64 (y - ay * t) = y - ay * t := w64 (by omega) (by omega)
  have w7 : wrap64 ((bx - ax) * (y - ay * t) - (bY - ay) * (x - ax * t)) = (bx - ax) * (y - ay * t) - (bY - ay) * (x - ax * t) := w64 (by omega) (by omega)
  go_enter Try.func41, Try.ntmps41
  go_wp2_with (go_at_call 49; refine (sign_any _ _).mono ?_; rintro e w1 ⟨rfl, rfl⟩)
  go_ret
  exact ⟨rfl, ((Up.refl _).alloc _).alloc _⟩
end Go.Proofs.Ytcclepohmhdpbab

/- REGIONS THAT DRAW THEIR ORDER, whose operations read and whose callees make memory and leave what was there: one walk serves every order. -/
namespace Go.Proofs.Ytcclepohmhdpbab
set_option linter.all false
open Go.RowKit Go.Deep

/-- A world that has grown out of w. -/
structure Gr (w : World) where
  v : World
  up : Up w v
instance (w : World) : Nonempty (Gr w) := ⟨⟨w, Up.refl w⟩⟩
theorem wp_region_up {P : Program} {id : Nat} {Q : Exit → Act → World → Prop} {a : Act} {w : World} {l : List Oper} (hm : P.follows .mixedOrders = true) (hB : Region.lexB .any l.toArray = true)
    (h : wpQuiet P l.toArray (fun w' => ∃ g : Gr w, w' = g.v) (fun a' => ∀ w', (∃ g : Gr w, w' = g.v) → Q .normal a' w') l a) : (Code.region id l.toArray true).wp P Q a w :=
  wp_region_quiet (C := fun w' => ∃ g : Gr w, w' = g.v) hm hB ⟨⟨_, (Up.refl w).drew⟩, rfl⟩ (by simpa using h)
theorem Calls.up_of {P : Program} {f : FuncId} {args : Array Value} {w : World} {g : Gr w} {v : Value}
    (h : Calls P f args g.v fun e w' => e = .returned v ∧ Up g.v w') : Calls P f args g.v fun e w'' => e = .returned v ∧ ∃ m : Gr w, w'' = m.v :=
  h.mono fun _ _ ⟨he, hu⟩ => ⟨he, ⟨_, g.up.trans hu⟩, rfl⟩
theorem VRow.gr {w : World} {b : Nat} {t : TypeId} {vs : List Value} (h : VRow w b t vs) {i : Nat} {v : Value} (hi : vs[i]? = some v) (g : Gr w) : g.v.cell? ⟨b, i, none⟩ = some v := g.up.cell (h.cell hi)
theorem cell_gr {w : World} {p : Addr} {v : Value} (h : w.cell? p = some v) (g : Gr w) : g.v.cell? p = some v := g.up.cell h
/-- all old cells, all old marks read as before. -/
theorem bcell {W w1 : World} (hb : Up W w1) : (∀ b o, b < W.heap.size → w1.cell? ⟨b, o, none⟩ = W.cell? ⟨b, o, none⟩) ∧ (∀ b o, b < W.heap.size → w1.frozen? ⟨b, o, none⟩ = W.frozen? ⟨b, o, none⟩) :=
  ⟨fun b o h => Below.cell hb (p := ⟨b, o, none⟩) h, fun b o h => Below.frozen hb (p := ⟨b, o, none⟩) h⟩
end Go.Proofs.Ytcclepohmhdpbab

/- THE WALKS: package plane: has, forward, meet. -/
namespace Go.Proofs.Ytcclepohmhdpbab
set_option linter.all false
open Go.RowKit Go.Deep

set_option maxHeartbeats 1000000 in
theorem between_any (e m o : Int) (w : World) : Calls Try.prog 42 #[.int .i64 e, .int .i64 m, .int .i64 o] w fun x w' => x = .returned (.bool (decide (Vd.btw e m o))) ∧ w' = w := by
  unfold Vd.btw
  by_cases h1 : e ≤ m <;> by_cases h2 : m ≤ o <;> by_cases h3 : o ≤ m <;> by_cases h4 : m ≤ e
  all_goals
    go_enter Try.func42, Try.ntmps42
    go_wp2
    go_ret
    exact ⟨ret_b (by first | exact (decide_eq_true (by omega)).symm | exact (decide_eq_false (by omega)).symm | (simp <;> omega)), rfl⟩

theorem hasB_of (s : Vd.Seg) (p : Vd.Spot) : Vd.hasB s p = (decide (Vd.side s p = 0) && (decide (Vd.btw (s.1.1 * p.2) p.1.1 (s.2.1 * p.2)) && decide (Vd.btw (s.1.2 * p.2) p.1.2 (s.2.2 * p.2)))) := by
  unfold Vd.hasB Vd.has Vd.side
  by_cases h : Vd.cr s.1 s.2 p.1 p.2 = 0
  · have : Vd.sg (Vd.cr s.1 s.2 p.1 p.2) = 0 := (Vd.sg_zero _).2 h
    simp [h, this]
    exact fun _ _ => rfl
  · have : ¬ Vd.sg (Vd.cr s.1 s.2 p.1 p.2) = 0 := fun e => h ((Vd.sg_zero _).1 e)
    simp [h, this]

set_option maxHeartbeats 2000000 in
theorem has_any (s : Vd.Seg) (p : Vd.Spot) (hs : Vd.CdS s) (hp : Vd.Sp p) (w : World) : Calls Try.prog 30 #[segV s, spotV p] w fun e w' => e = .returned (.bool (Vd.hasB s p)) ∧ Up w w' := by
  have HB := hide (hasB_of s p)
  have HS := hide hs
  have HP := hide hp
  obtain ⟨⟨ax, ay⟩, ⟨bx, bY⟩⟩ := s
  obtain ⟨⟨x, y⟩, t⟩ := p
  simp only [Vd.CdS, Vd.Cd, Vd.Sp] at hs hp
  obtain ⟨⟨a1, a2, a3, a4⟩, b1, b2, b3, b4⟩ := hs
  obtain ⟨x1, x2, y1, y2, t1, t2⟩ := hp
  have m1 := mul_bd (a := ax) (b := t) (A := 32768) (B := 1048576) (by omega) (by omega) (by omega) (by omega)
  have m2 := mul_bd (a := ay) (b := t) (A := 32768) (B := 1048576) (by omega) (by omega) (by omega) (by omega)
  have m3 := mul_bd (a := bx) (b := t) (A := 32768) (B := 1048576) (by omega) (by omega) (by omega) (by omega)
  have m4 := mul_bd (a := bY) (b := t) (A := 32768) (B := 1048576) (by omega) (by omega) (by omega) (by omega)
  simp only [segV, spotV]
  have wtac : True := trivial
  by_cases h0 : Vd.side ((ax, ay), (bx, bY)) ((x, y), t) = 0
  · cases H1 : decide (Vd.btw (ax * t) x (bx * t))
    all_goals
      have H2 := hide H1
      go_enter Try.func30, Try.ntmps30
      go_wp2_with (first | (go_at_call 41; refine (side_any ((ax, ay), (bx, bY)) ((x, y), t) HS.out HP.out _).mono ?_; rintro e w1 ⟨rfl, u1⟩; obtain ⟨hc, hf⟩ := bcell u1; replace u1 := hide u1) | (go_at_call 42; refine (between_any _ _ _ _).mono ?_; rintro e w2 ⟨rfl, rfl⟩))
      go_ret
      exact ⟨ret_b (by rw [HB.out]; simp only [H2.out, h0]; simp), (((Up.refl _).alloc _).alloc _).trans u1.out⟩
  · have h0' : (Vd.side ((ax, ay), (bx, bY)) ((x, y), t) == 0) = false := beq_eq_false_iff_ne.2 h0
    go_enter Try.func30, Try.ntmps30
    go_wp2_with (first | (go_at_call 41; refine (side_any ((ax, ay), (bx, bY)) ((x, y), t) HS.out HP.out _).mono ?_; rintro e w1 ⟨rfl, u1⟩; obtain ⟨hc, hf⟩ := bcell u1; replace u1 := hide u1))
    go_ret
    exact ⟨ret_b (by rw [HB.out]; simp [h0]), (((Up.refl _).alloc _).alloc _).trans u1.out⟩

theorem seg_eta (s : Vd.Seg) : segV s = .agg #[.int .i64 s.1.1, .int .i64 s.1.2, .int .i64 s.2.1, .int .i64 s.2.2] := rfl
set_option maxHeartbeats 2000000 in
theorem forward_any (s : Vd.Seg) (w : World) : Calls Try.prog 46 #[segV s] w fun e w' => e = .returned (segV (Vd.fwd s.1 s.2)) ∧ Up w w' := by
  obtain ⟨⟨ax, ay⟩, ⟨bx, bY⟩⟩ := s
  simp only [Vd.fwd]
  by_cases h : Vd.bef (bx, bY) (ax, ay)
  · rw [if_pos h]
    have H := hide (decide_eq_true h)
    simp only [segV]
    go_enter Try.func46, Try.ntmps46
    go_wp2_with (go_at_call 51; refine (before_any (bx, bY) (ax, ay) _).mono ?_; rintro e w1 ⟨rfl, u1⟩; rw [H.out]; obtain ⟨hc, hf⟩ := bcell u1; have hz := u1.size; simp at hz; replace u1 := hide u1)
    refine bodyPost_ret (v := .agg #[.int .i64 bx, .int .i64 bY, .int .i64 ax, .int .i64 ay]) (by simp [results, Try.results46, go_sem, hc, hf, hz]) rfl ⟨rfl, ?_⟩
    repeat (refine Up.setCell ?_ (by simp) _)
    exact (((Up.refl _).alloc _).alloc _).trans u1.out
  · rw [if_neg h]
    have H := hide (decide_eq_false h)
    simp only [segV]
    go_enter Try.func46, Try.ntmps46
    go_wp2_with (go_at_call 51; refine (before_any (bx, bY) (ax, ay) _).mono ?_; rintro e w1 ⟨rfl, u1⟩; rw [H.out]; obtain ⟨hc, hf⟩ := bcell u1; have hz := u1.size; simp at hz; replace u1 := hide u1)
    refine bodyPost_ret (v := .agg #[.int .i64 ax, .int .i64 ay, .int .i64 bx, .int .i64 bY]) (by simp [results, Try.results46, go_sem, hc, hf, hz]) rfl ⟨rfl, ?_⟩
    repeat (refine Up.setCell ?_ (by simp) _)
    exact (((Up.refl _).alloc _).alloc _).trans u1.out

end Go.Proofs.Ytcclepohmhdpbab

/- THE WALKS: package plane: meetOnLine. -/
namespace Go.Proofs.Ytcclepohmhdpbab
set_option linter.all false
open Go.RowKit Go.Deep

/-- meetOnLine, by what it keeps. -/
def onF (f l : Pnt) : Int := if Vd.bef f l then 3 else if f = l then 1 else 0
theorem onLine_F (s t : Vd.Seg) : Vd.onLine s t = onF (if Vd.bef s.1 t.1 then t.1 else s.1) (if Vd.bef t.2 s.2 then t.2 else s.2) := rfl
theorem new_row {w : World} {o : Obj} {vs : List Value} {t : TypeId} (h : o = .cells vs.toArray t (0, 0)) : VRow (w.alloc o) w.heap.size t vs := by subst h; exact VRow.new w vs t
theorem row_set2 {w : World} {b : Nat} {t : TypeId} {x y : Value} (h : VRow w b t [x, y]) (u v : Value) : VRow ((w.setCell ⟨b, 0, none⟩ u).setCell ⟨b, 1, none⟩ v) b t [u, v] := (h.set 0 u).set 1 v
set_option maxHeartbeats 4000000 in
theorem online_any (s t : Vd.Seg) (w : World) : Calls Try.prog 50 #[segV s, segV t] w fun e w' => e = .returned (.int .i64 (Vd.onLine s t)) ∧ Up w w' := by
  have HE := hide (onLine_F s t)
  obtain ⟨⟨ax, ay⟩, ⟨bx, bY⟩⟩ := s
  obtain ⟨⟨cx, cy⟩, ⟨dx, dy⟩⟩ := t
  simp only [segV]
  go_enter Try.func50, Try.ntmps50
  have R0 := hide (((new_row (w := w) (o := .cells #[.int .i64 ax, .int .i64 ay, .int .i64 bx, .int .i64 bY] 55) (vs := [.int .i64 ax, .int .i64 ay, .int .i64 bx, .int .i64 bY]) rfl).alloc (.cells #[.int .i64 cx, .int .i64 cy, .int .i64 dx, .int .i64 dy] 55)).alloc (.cells #[.int .i64 ax, .int .i64 ay] 25))
  have R1 := hide ((new_row (w := w.alloc (.cells #[.int .i64 ax, .int .i64 ay, .int .i64 bx, .int .i64 bY] 55)) (o := .cells #[.int .i64 cx, .int .i64 cy, .int .i64 dx, .int .i64 dy] 55) (vs := [.int .i64 cx, .int .i64 cy, .int .i64 dx, .int .i64 dy]) rfl).alloc (.cells #[.int .i64 ax, .int .i64 ay] 25))
  have R2 := hide (new_row (w := (w.alloc (.cells #[.int .i64 ax, .int .i64 ay, .int .i64 bx, .int .i64 bY] 55)).alloc (.cells #[.int .i64 cx, .int .i64 cy, .int .i64 dx, .int .i64 dy] 55)) (o := .cells #[.int .i64 ax, .int .i64 ay] 25) (vs := [.int .i64 ax, .int .i64 ay]) rfl)
  rw [show (w.alloc (.cells #[.int .i64 ax, .int .i64 ay, .int .i64 bx, .int .i64 bY] 55)).heap.size = w.heap.size + 1 by simp] at R1
  rw [show ((w.alloc (.cells #[.int .i64 ax, .int .i64 ay, .int .i64 bx, .int .i64 bY] 55)).alloc (.cells #[.int .i64 cx, .int .i64 cy, .int .i64 dx, .int .i64 dy] 55)).heap.size = w.heap.size + 2 by simp] at R2
  go_upto_if 12 with (go_at_call 51; refine (before_any (ax, ay) (cx, cy) _).mono ?_; rintro e w1 ⟨rfl, u1⟩; replace u1 := hide u1)
  have S0 := hide (R0.out.of_block (u1.out.block _ R0.out.lt))
  have S1 := hide (R1.out.of_block (u1.out.block _ R1.out.lt))
  have S2 := hide (R2.out.of_block (u1.out.block _ R2.out.lt))
  have HU1 : Hid (Up w w1) := (((((Up.refl _).alloc _).alloc _).alloc _).trans u1.out)
  clear R0 R1 R2 u1
  have a0 := S1.out.cell (i := 0) rfl
  have a1 := S1.out.cell (i := 1) rfl
  have b0 := S2.out.cell (i := 0) rfl
  have b1 := S2.out.cell (i := 1) rfl
  have bf := fun i => S2.out.frozen i
  go_cut [] (fun wc => ∃ fx fy : Int, Hid ((fx, fy) = if Vd.bef (ax, ay) (cx, cy) then (cx, cy) else (ax, ay)) ∧ Hid (Up w wc) ∧ Hid (VRow wc w.heap.size 55 [.int .i64 ax, .int .i64 ay, .int .i64 bx, .int .i64 bY]) ∧ Hid (VRow wc (w.heap.size + 1) 55 [.int .i64 cx, .int .i64 cy, .int .i64 dx, .int .i64 dy]) ∧ Hid (VRow wc (w.heap.size + 2) 25 [.int .i64 fx, .int .i64 fy]))
  case first =>
    by_cases h : Vd.bef (ax, ay) (cx, cy)
    · have D := hide h
      have d : decide (Vd.bef (ax, ay) (cx, cy)) = true := decide_eq_true h
      clear h
      go_wp2
      go_meet
      case rel => exact ⟨cx, cy, (if_pos D.out).symm, Up.setCell (Up.setCell HU1.out (by show w.heap.size ≤ w.heap.size + 2; omega) _) (by show w.heap.size ≤ w.heap.size + 2; omega) _, (S0.out.setOther (by show w.heap.size ≠ w.heap.size + 2; omega) _).setOther (by show w.heap.size ≠ w.heap.size + 2; omega) _, (S1.out.setOther (by show w.heap.size + 1 ≠ w.heap.size + 2; omega) _).setOther (by show w.heap.size + 1 ≠ w.heap.size + 2; omega) _, row_set2 S2.out _ _⟩
    · have D := hide h
      have d : decide (Vd.bef (ax, ay) (cx, cy)) = false := decide_eq_false h
      clear h
      go_wp2
      go_meet
      case rel => exact ⟨ax, ay, (if_neg D.out).symm, HU1.out, S0.out, S1.out, S2.out⟩
  case rest =>
    clear a0 a1 b0 b1 bf S0 S1 S2 HU1
    obtain ⟨fx, fy, HF, HU, S0, S1, S2⟩ := hcut
    have c2 := S0.out.cell (i := 2) rfl
    have c3 := S0.out.cell (i := 3) rfl
    have e2a := fun o => (S1.out.alloc o).cell (i := 2) rfl
    have e3a := fun o => (S1.out.alloc o).cell (i := 3) rfl
    have T1 := hide (S1.out.alloc (.cells #[.int .i64 bx, .int .i64 bY] 25))
    have T2 := hide (S2.out.alloc (.cells #[.int .i64 bx, .int .i64 bY] 25))
    have T3 := hide (new_row (w := wc) (o := .cells #[.int .i64 bx, .int .i64 bY] 25) (vs := [.int .i64 bx, .int .i64 bY]) rfl)
    have hne : w.heap.size + 2 ≠ wc.heap.size := by have := S2.out.lt; omega
    have HNE := hide hne
    clear hne
    go_upto_if 20 with (go_at_call 51; refine (before_any (dx, dy) (bx, bY) _).mono ?_; rintro e w1 ⟨rfl, u1⟩; replace u1 := hide u1)
    have g2 := (T1.out.of_block (u1.out.block _ T1.out.lt)).cell (i := 2) rfl
    have g3 := (T1.out.of_block (u1.out.block _ T1.out.lt)).cell (i := 3) rfl
    have V1 := hide (T2.out.of_block (u1.out.block _ T2.out.lt))
    have V2 := hide (T3.out.of_block (u1.out.block _ T3.out.lt))
    have k0 := V2.out.cell (i := 0) rfl
    have k1 := V2.out.cell (i := 1) rfl
    have kf := fun i => V2.out.frozen i
    have HU1 : Hid (Up w w1) := (HU.out.alloc _).trans u1.out
    have HS := hide HU.out.size
    clear T1 T2 T3 u1 e2a e3a c2 c3
    go_cut [] (fun wd => ∃ lx ly : Int, Hid ((lx, ly) = if Vd.bef (dx, dy) (bx, bY) then (dx, dy) else (bx, bY)) ∧ Hid (Up w wd) ∧ Hid (VRow wd (w.heap.size + 2) 25 [.int .i64 fx, .int .i64 fy]) ∧ Hid (VRow wd wc.heap.size 25 [.int .i64 lx, .int .i64 ly]))
    case first =>
      by_cases h : Vd.bef (dx, dy) (bx, bY)
      · have D := hide h
        have d : decide (Vd.bef (dx, dy) (bx, bY)) = true := decide_eq_true h
        clear h
        go_wp2
        go_meet
        case rel => exact ⟨dx, dy, (if_pos D.out).symm, Up.setCell (Up.setCell HU1.out HS.out _) HS.out _, (V1.out.setOther HNE.out _).setOther HNE.out _, row_set2 V2.out _ _⟩
      · have D := hide h
        have d : decide (Vd.bef (dx, dy) (bx, bY)) = false := decide_eq_false h
        clear h
        go_wp2
        go_meet
        case rel => exact ⟨bx, bY, (if_neg D.out).symm, HU1.out, V1.out, V2.out⟩
    case rest =>
      clear g2 g3 V1 V2 k0 k1 kf HU1
      obtain ⟨lx, ly, HL, HU2, V1, V2⟩ := hcut
      have p0 := V1.out.cell (i := 0) rfl
      have p1 := V1.out.cell (i := 1) rfl
      have q0 := V2.out.cell (i := 0) rfl
      have q1 := V2.out.cell (i := 1) rfl
      have HR : Hid (Vd.onLine ((ax, ay), bx, bY) ((cx, cy), dx, dy) = onF (fx, fy) (lx, ly)) := by
        rw [HE.out, HF.out, HL.out]; exact rfl
      by_cases h : Vd.bef (fx, fy) (lx, ly)
      · have D := hide h
        clear h
        go_wp2_with (go_at_call 51; refine (before_any (fx, fy) (lx, ly) _).mono ?_; rintro e w1 ⟨rfl, u1⟩; replace u1 := hide u1; rw [decide_eq_true D.out])
        go_ret
        exact ⟨ret_i (by rw [HR.out]; unfold onF; rw [if_pos D.out]), HU2.out.trans u1.out⟩
      · have D := hide h
        clear h
        by_cases h : (fx, fy) = (lx, ly)
        · cases h
          go_wp2_with (go_at_call 51; refine (before_any (fx, fy) (fx, fy) _).mono ?_; rintro e w1 ⟨rfl, u1⟩; replace u1 := hide u1; have r0 := u1.out.cell p0; have r1 := u1.out.cell p1; have r2 := u1.out.cell q0; have r3 := u1.out.cell q1; rw [decide_eq_false D.out])
          go_ret
          exact ⟨ret_i (by rw [HR.out]; unfold onF; rw [if_neg D.out, if_pos rfl]), HU2.out.trans u1.out⟩
        · have D2 := hide h
          rcases (show fx ≠ lx ∨ (fx = lx ∧ fy ≠ ly) from by by_cases c : fx = lx; exact .inr ⟨c, fun e => h (by rw [c, e])⟩; exact .inl c) with hd | ⟨rfl, hd⟩
          all_goals
            have hd' := beq_eq_false_iff_ne.2 hd
            clear h
            go_wp2_with (go_at_call 51; refine (before_any (fx, fy) (_, ly) _).mono ?_; rintro e w1 ⟨rfl, u1⟩; replace u1 := hide u1; have r0 := u1.out.cell p0; have r1 := u1.out.cell p1; have r2 := u1.out.cell q0; have r3 := u1.out.cell q1; rw [decide_eq_false D.out])
            go_ret
            exact ⟨ret_i (by rw [HR.out]; unfold onF; rw [if_neg D.out, if_neg D2.out]), HU2.out.trans u1.out⟩
end Go.Proofs.Ytcclepohmhdpbab
