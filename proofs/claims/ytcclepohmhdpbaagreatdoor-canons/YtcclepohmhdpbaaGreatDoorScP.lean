/- THE ROWS OF THE SCRIPTS: what all of them share. -/
import Derived.Test.YtcclepohmhdpbaaGreatDoorWalkU
import Derived.Test.YtcclepohmhdpbaaGreatDoorWalkC
import Derived.Test.YtcclepohmhdpbaaGreatDoorCards
import Derived.Test.YtcclepohmhdpbaaGreatDoorTie
import Derived.WalkKit
import Derived.ProofKit
import Derived.OpenShut
import Derived.Deep.Slices
import Derived.Deep.DeepHandedRow
import Derived.Lib.LaidTab
namespace Go.Proofs.YtcclepohmhdpbaaGreatDoor
set_option linter.all false
open Go.ChangeShapes Go.WideShapes Go.ChangeAt Go.RowKit Go.Deep

theorem own : ownKnob Tryz.prog.godebug = none := by kernel_rfl
theorem laidOut : laidOutB Tryz.prog = true := by kernel_rfl
theorem und_ops : Tryz.prog.underlying 22 = some (.slice 46) := by kernel_rfl
theorem und_int : Tryz.prog.underlying 3 = some (.int .i64) := by kernel_rfl
theorem und_string : Tryz.prog.underlying 9 = some .string := by kernel_rfl
theorem und_bool : Tryz.prog.underlying 4 = some .bool := by kernel_rfl
theorem cells_op : Tryz.prog.cellsOf 46 = 5 := by kernel_rfl
theorem cells_int : Tryz.prog.cellsOf 3 = 1 := by kernel_rfl
theorem cells_string : Tryz.prog.cellsOf 9 = 1 := by kernel_rfl

/-- The fields of a step, as the program has them. -/
theorem op_desc : (match Tryz.prog.underlying 46 with
  | some (.struct fs) => some (fs.map fun f => (f.type, f.offset))
  | _ => none) = some #[(3, 0), (3, 1), (3, 2), (3, 3), (9, 4)] := by kernel_rfl
theorem und_op : ∃ fs : Array Field, Tryz.prog.underlying 46 = some (.struct fs) ∧ (fs.map fun f => (f.type, f.offset)) = #[(3, 0), (3, 1), (3, 2), (3, 3), (9, 4)] := by
  have h := op_desc
  split at h
  · rename_i fs e
    exact ⟨fs, e, Option.some.inj h⟩
  · cases h

theorem op_field {fs : Array Field} (e : (fs.map fun f => (f.type, f.offset)) = #[(3, 0), (3, 1), (3, 2), (3, 3), (9, 4)]) (i t o : Nat) (h : (#[(3, 0), (3, 1), (3, 2), (3, 3), (9, 4)] : Array (Nat × Nat))[i]? = some (t, o)) : ∃ f, fs[i]? = some f ∧ f.type = t ∧ f.offset = o := by
  have h2 : (fs.map fun f => (f.type, f.offset))[i]? = some (t, o) := by rw [e]; exact h
  rw [Array.getElem?_map] at h2
  obtain ⟨f, hf, he⟩ := Option.map_eq_some_iff.1 h2
  simp only [Prod.mk.injEq] at he
  exact ⟨f, hf, he.1, he.2⟩

theorem list_of {α : Type} {p : Nat → α → Prop} : ∀ n : Nat, (∀ i, i < n → ∃ x, p i x) → ∃ l : List α, l.length = n ∧ ∀ i x, l[i]? = some x → p i x
  | 0, _ => ⟨[], rfl, fun i x h => by simp at h⟩
  | n + 1, h => by
    obtain ⟨l, hl, hp⟩ := list_of n (fun i hi => h i (by omega))
    obtain ⟨x, hx⟩ := h n (by omega)
    refine ⟨l ++ [x], by simp [hl], fun i y hy => ?_⟩
    rcases Nat.lt_or_ge i l.length with hi | hi
    · rw [List.getElem?_append_left hi] at hy; exact hp i y hy
    · have hin : i = n := by have := Pl.lt_of_some hy; simp at this; omega
      subst hin
      rw [List.getElem?_append_right hi, show i - l.length = 0 by omega] at hy
      cases hy
      exact hx

set_option maxRecDepth 100000 in
/-- A step's five cells. -/
theorem open_op {H : Type} {enc : TypeId × Value → H} {w : World} {base : Nat} {spare : Nat → Bool} {held : Bool} {fuel : Nat} {cs : List Value} {x : DataW H × List MemPlace} (h : DataW.trod enc Tryz.prog w base spare held fuel 46 cs = some x) :
    ∃ o : OpD, cs = o.cells ∧ OpOK o := by
  obtain ⟨fs, hund, hdesc⟩ := und_op
  obtain ⟨xs, n, _, _, hlen, hxs, hf⟩ := DataW.trod_struct hund h
  rw [cells_op] at hlen
  have hsz : fs.size = 5 := by
    have := congrArg Array.size hdesc
    simpa using this
  match cs, hlen with
  | [c0, c1, c2, c3, c4], _ =>
    have fld : ∀ (i t o : Nat), (#[(3, 0), (3, 1), (3, 2), (3, 3), (9, 4)] : Array (Nat × Nat))[i]? = some (t, o) → i < 5 → ∃ y, DataW.trod enc Tryz.prog w base spare held n t (([c0, c1, c2, c3, c4].drop o).take (Tryz.prog.cellsOf t)) = some y := by
      intro i t o hi hi5
      obtain ⟨f, h1, h2, h3⟩ := op_field hdesc i t o hi
      have := hf i f h1
      rw [h2, h3] at this
      exact ⟨xs[i]'(by omega), by rw [this, List.getElem?_eq_getElem]⟩
    obtain ⟨y0, q0⟩ := fld 0 _ _ rfl (by omega)
    obtain ⟨y1, q1⟩ := fld 1 _ _ rfl (by omega)
    obtain ⟨y2, q2⟩ := fld 2 _ _ rfl (by omega)
    obtain ⟨y3, q3⟩ := fld 3 _ _ rfl (by omega)
    obtain ⟨y4, q4⟩ := fld 4 _ _ rfl (by omega)
    rw [cells_int] at q0 q1 q2 q3
    rw [cells_string] at q4
    obtain ⟨kd, e0, _, _⟩ := DataW.trod_int und_int q0
    obtain ⟨a, e1, _, w1⟩ := DataW.trod_int und_int q1
    obtain ⟨b, e2, _, w2⟩ := DataW.trod_int und_int q2
    obtain ⟨c, e3, _, w3⟩ := DataW.trod_int und_int q3
    obtain ⟨s, e4, _, _⟩ := DataW.trod_string und_string q4
    simp at e0 e1 e2 e3 e4
    subst e0 e1 e2 e3 e4
    have hb := bounds_i64 w1
    have hb2 := bounds_i64 w2
    have hb3 := bounds_i64 w3
    exact ⟨⟨kd, a, b, c, s⟩, rfl, ⟨by simp only; omega, by simp only; omega, by simp only; omega, by simp only; omega, by simp only; omega, by simp only; omega⟩⟩

theorem addr_add (b off k : Nat) : (⟨b, off, none⟩ : Addr).add k = ⟨b, off + k, none⟩ := by unfold Addr.add; split <;> simp_all

/-- The script that came in. -/
theorem open_script {H : Type} {enc : TypeId × Value → H} {w : World} {fuel : Nat} {v : Value} {x : DataW H × List MemPlace} (h : DataW.trod enc Tryz.prog w 0 (fun _ => true) true fuel 22 [v] = some x) :
    ∃ P : List OpD, RdP w v P ∧ (∀ o ∈ P, OpOK o) ∧ (P.length : Int) ≤ 9223372036854775807 := by
  rcases open_slice und_ops h with ⟨hcs, _⟩ | ⟨a, len, cap, m, n, D, Plc, hcs, _, hl, hm, hmm, _, hx⟩
  · simp at hcs
    subst hcs
    exact ⟨[], ⟨none, 0, rfl, fun i o ho => by simp at ho⟩, by simp, by simp⟩
  · simp at hcs
    subst hcs
    have hml : len ≤ m := by rw [hmm]; simp; exact hl
    rw [cells_op] at hx
    obtain ⟨P, hP, hf⟩ := list_of (p := fun i (o : OpD) => w.cells? 0 (a.add (i * 5)) 5 = some o.cells ∧ OpOK o) len (fun i hi => by
      obtain ⟨cs', h1, h2⟩ := hx i (by omega)
      obtain ⟨o, ho, hok⟩ := open_op h2
      exact ⟨o, ho ▸ h1, hok⟩)
    refine ⟨P, ⟨some a, cap, by rw [hP], fun i o ho => ?_⟩, ?_, ?_⟩
    · obtain ⟨h1, _⟩ := hf i o ho
      obtain ⟨_, _, hc⟩ := World.cells?_some h1
      have k0 := hc 0 (by omega)
      have k1 := hc 1 (by omega)
      have k2 := hc 2 (by omega)
      have k3 := hc 3 (by omega)
      have k4 := hc 4 (by omega)
      obtain ⟨b, off, spot⟩ := a
      have hspot : spot = none := by
        obtain ⟨o0, ho0⟩ := Pl.some_of_lt (l := P) (k := 0) (by have := Pl.lt_of_some ho; omega)
        obtain ⟨_, _, hc0⟩ := World.cells?_some (hf 0 o0 ho0).1
        have z0 : w.cell? (((⟨b, off, spot⟩ : Addr).add (0 * 5)).add 0) = some (.int .i64 o0.kd) := hc0 0 (by omega)
        simpa [Addr.add] using World.cell?_spot z0
      subst hspot
      rw [addr_add, addr_add] at k0 k1 k2 k3 k4
      exact ⟨b, off, rfl, k0, k1, k2, k3, k4⟩
    · intro o ho
      obtain ⟨i, hi, he⟩ := List.getElem_of_mem ho
      exact (hf i o (by rw [List.getElem?_eq_getElem hi, he])).2
    · unfold maxLen at hm
      rw [hP]
      omega

/-- The cells that a listed table holds. -/
def tabCells (d : DataW Unit) : Array Value := match d with
  | .agg ps => (ps.map fun x => match x with
    | .lit (.int k n) => Value.int k n
    | _ => undef).toArray
  | _ => #[]
def putTab (w : World) (g : Nat) (d : DataW Unit) : World := { w with heap := w.heap.modify g fun
  | .cells _ t frozen => .cells (tabCells d) t frozen
  | o => o }
def laidOver (w : World) : World := putTab (putTab (putTab w 0 Rows.laid_internal_strconv_uint64pow10) 1 Rows.laid_math_bits_deBruijn32tab) 2 Rows.laid_math_bits_deBruijn64tab
theorem laid_met (os : Os) : laidMet Tryz.prog Rows.makesRow.laid ((laidOver (World.holding Tryz.prog os ⟨#[], #[], []⟩)).forCall (fun _ _ => 0) ⟨#[], #[.slice none 0 0], []⟩).memory :=
  laidMet_of_run' 8 (by kernel_rfl) (by kernel_rfl)
theorem mk_maps : mapsRowed Tryz.prog = true := by kernel_rfl
end Go.Proofs.YtcclepohmhdpbaaGreatDoor
