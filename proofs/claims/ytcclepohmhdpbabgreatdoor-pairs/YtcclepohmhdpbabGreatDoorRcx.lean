import Derived.Test.YtcclepohmhdpbabGreatDoorNoted
import Derived.Deep.DeepCutAuto
import Derived.Test.YtcclepohmhdpbabGreatDoorWalkI
import Derived.Test.YtcclepohmhdpbabGreatDoorWalkH
import Derived.Test.YtcclepohmhdpbabGreatDoorPnG
/- A HANDED-OUT LIST THAT STANDS: what is known of it in memory. -/
namespace Go.Proofs.YtcclepohmhdpbabGreatDoor
set_option linter.all false
open Go.RowKit Go.Deep

/-- A list of values, read. -/
def RV (F : Nat → Prop) (w : World) (v : Value) (vs : List Value) : Prop :=
  ∃ ao cap, v = .slice ao vs.length cap ∧ ∀ i u, vs[i]? = some u → ∃ b, F b ∧ ao = some ⟨b, 0, none⟩ ∧ w.cell? ⟨b, i, none⟩ = some u

theorem RV.keep {F F' : Nat → Prop} {S : Nat → Prop} {w w' : World} {v : Value} {vs : List Value} (h : RV F w v vs) (k : Fr S w w') (hF : ∀ b, b < w.heap.size → F b → F' b ∧ ¬ S b) : RV F' w' v vs := by
  obtain ⟨ao, cap, e, h⟩ := h
  refine ⟨ao, cap, e, fun i p hp => ?_⟩
  obtain ⟨b, f, e1, e2⟩ := h i p hp
  obtain ⟨g1, g2⟩ := hF b (lt_of_cell e2) f
  exact ⟨b, g1, e1, k.cell e2 g2⟩

theorem own_RV {w : World} {base : Nat} {e : TypeId} {v : Value} {n : Nat} {xs : List Value} (h : w.ownsRow base e 1 v n xs) : RV (fun b => base ≤ b ∧ b < w.heap.size) w v xs := by
  have hl := h.1
  rcases h.2 with ⟨rfl, rfl⟩ | ⟨g, cap, cur, rfl, hb, hh, _⟩
  · have : xs = [] := List.eq_nil_of_length_eq_zero (by omega)
    subst this
    exact ⟨none, 0, rfl, fun i u hu => by simp at hu⟩
  · refine ⟨some ⟨g, 0, none⟩, cap, by rw [show xs.length = n by omega], fun i u hu => ⟨g, ⟨hb, (own_lt h rfl).2⟩, rfl, ?_⟩⟩
    have := h.cells (g := g) rfl i u hu
    have hadd : (⟨g, 0, none⟩ : Addr).add i = ⟨g, i, none⟩ := by unfold Addr.add; split <;> simp_all
    rwa [hadd] at this

structure HS (F : Nat → Prop) (w : World) (sv pv rv rmv pmv : Value) (sm : Int) (R P : List (Value × Int)) (n : Nat) : Prop where
  rings : RV F w rv (fstV R)
  rm : RV F w rmv (intV R)
  rr : ∀ e ∈ R, ∃ n, n ≤ 1048576 ∧ RF1 F w e.1 (List.replicate n (-77, e.2))
  polys : RV F w pv (fstV P)
  pm : RV F w pmv (intV P)
  pp : ∀ e ∈ P, ∃ n, n ≤ 1048576 ∧ RF2 F w e.1 (List.replicate n [(77, e.2)])
  set : RF3 F w sv (List.replicate n [[(777, sm)]])
  bn : n ≤ 1048576
  bR : R.length ≤ 1073741824
  bP : P.length ≤ 1073741824

theorem HS.keep {F F' : Nat → Prop} {S : Nat → Prop} {w w' : World} {sv pv rv rmv pmv : Value} {sm : Int} {R P : List (Value × Int)} {n : Nat} (h : HS F w sv pv rv rmv pmv sm R P n) (k : Fr S w w') (hF : ∀ b, b < w.heap.size → F b → F' b ∧ ¬ S b) : HS F' w' sv pv rv rmv pmv sm R P n :=
  ⟨h.rings.keep k hF, h.rm.keep k hF, fun e he => by obtain ⟨n, b, r⟩ := h.rr e he; exact ⟨n, b, r.keep k hF⟩, h.polys.keep k hF, h.pm.keep k hF, fun e he => by obtain ⟨n, b, r⟩ := h.pp e he; exact ⟨n, b, r.keep k hF⟩, h.set.keep k hF, h.bn, h.bR, h.bP⟩

theorem off_eq (d : D3) : off d.ps = Pl.nR d.m + d.ps.length := by
  have e : ∀ l : List D2, off l = ((l.map D2.pts).map List.length).sum + l.length := by
    intro l
    induction l with
    | nil => rfl
    | cons x t ih =>
      rw [off_cons, ih]
      simp [D2.pts]
      omega
  exact e d.ps

/-- A list that was handed out: the six cells of its record. -/
structure OG where
  sv : Value
  pv : Value
  rv : Value
  rmv : Value
  pmv : Value
  sm : Int
def OG.cells (o : OG) : List Value := [o.sv, o.pv, o.rv, o.rmv, o.pmv, .int .i64 o.sm]
def HSo (F : Nat → Prop) (w : World) (o : OG) : Prop := ∃ R P n, HS F w o.sv o.pv o.rv o.rmv o.pmv o.sm R P n
theorem HSo.keep {F F' : Nat → Prop} {S : Nat → Prop} {w w' : World} {o : OG} (h : HSo F w o) (k : Fr S w w') (hF : ∀ b, b < w.heap.size → F b → F' b ∧ ¬ S b) : HSo F' w' o := by
  obtain ⟨R, P, n, h⟩ := h
  exact ⟨R, P, n, h.keep k hF⟩
def cellsO (O : List OG) : List Value := O.flatMap OG.cells
theorem cellsO_length (O : List OG) : (cellsO O).length = O.length * 6 := by
  induction O with
  | nil => rfl
  | cons o t ih => show (o.cells ++ cellsO t).length = _; rw [List.length_append, ih]; simp [OG.cells]; omega
theorem cellsO_snoc (O : List OG) (o : OG) : cellsO (O ++ [o]) = cellsO O ++ o.cells := by simp [cellsO]
theorem cellsO_at (O : List OG) : ∀ (i : Nat) (o : OG) (c : Nat) (v : Value), O[i]? = some o → o.cells[c]? = some v → (cellsO O)[i * 6 + c]? = some v := by
  induction O with
  | nil => intro i o c v h; simp at h
  | cons a t ih =>
    intro i o c v h hc
    have hc6 : c < 6 := by have := Pl.lt_of_some hc; simpa [OG.cells] using this
    show (a.cells ++ cellsO t)[i * 6 + c]? = some v
    cases i with
    | zero => simp at h; subst h; rw [List.getElem?_append_left (by simp [OG.cells]; omega)]; simpa using hc
    | succ i =>
      have := ih i o c v (by simpa using h) hc
      rw [List.getElem?_append_right (by simp [OG.cells]; omega)]
      rw [show (i + 1) * 6 + c - a.cells.length = i * 6 + c by simp [OG.cells]; omega]
      exact this

theorem own_cell {w : World} {base : Nat} {e : TypeId} {size : Nat} {v : Value} {n : Nat} {xs : List Value} (h : w.ownsRow base e size v n xs) (hn : 0 < n) : ∃ g cap, v = .slice (some ⟨g, 0, none⟩) n cap ∧ ∀ (j : Nat) u, xs[j]? = some u → w.cell? ⟨g, j, none⟩ = some u := by
  rcases h.2 with ⟨_, h0⟩ | ⟨g, cap, cur, rfl, hb, hh, _⟩
  · omega
  · refine ⟨g, cap, rfl, fun j u hu => ?_⟩
    have := h.cells (g := g) rfl j u hu
    have hadd : (⟨g, 0, none⟩ : Addr).add j = ⟨g, j, none⟩ := by unfold Addr.add; split <;> simp_all
    rwa [hadd] at this

theorem own_len {w : World} {base : Nat} {e : TypeId} {size : Nat} {v : Value} {n : Nat} {xs : List Value} (h : w.ownsRow base e size v n xs) : ∃ ao cap, v = .slice ao n cap := by
  rcases h.2 with ⟨rfl, rfl⟩ | ⟨g, cap, cur, rfl, _⟩
  · exact ⟨_, _, rfl⟩
  · exact ⟨_, _, rfl⟩

end Go.Proofs.YtcclepohmhdpbabGreatDoor

/- THE WALKS: (*handed).stands. -/
namespace Go.Proofs.YtcclepohmhdpbabGreatDoor
set_option linter.all false
open Go.RowKit Go.Deep

end Go.Proofs.YtcclepohmhdpbabGreatDoor

/- THE WALKS: (*World).stands. -/
namespace Go.Proofs.YtcclepohmhdpbabGreatDoor
set_option linter.all false
open Go.RowKit Go.Deep

end Go.Proofs.YtcclepohmhdpbabGreatDoor

/- THE WALKS: the document's side: less of the same. -/
namespace Go.Proofs.YtcclepohmhdpbabGreatDoor
set_option linter.all false
open Go.RowKit Go.Deep

/-- The points are a set's, without spare room. -/
theorem OK2.header {w : World} {d : D2} (h : OK2 w d) (hb : d.bare) {i : Nat} {x : D1} (hx : d.rs[i]? = some x) : w.cell? ⟨d.b, i, none⟩ = some (.slice (some ⟨x.b, 0, none⟩) x.r.length x.r.length) := by
  have hx' : (d.rs ++ d.s)[i]? = some x := by rw [List.getElem?_append_left (Pl.lt_of_some hx)]; exact hx
  have := h.row.cell (i := i) (v := x.v) (by simp only [List.getElem?_map, hx']; rfl)
  rw [this, D1.v, hb.2 x (Pl.mem_of_some hx)]; rfl
theorem OK3.header {w : World} {d : D3} (h : OK3 w d) (hb : d.bare) {i : Nat} {x : D2} (hx : d.ps[i]? = some x) : w.cell? ⟨d.b, i, none⟩ = some (.slice (some ⟨x.b, 0, none⟩) x.rs.length x.rs.length) := by
  have hx' : (d.ps ++ d.s)[i]? = some x := by rw [List.getElem?_append_left (Pl.lt_of_some hx)]; exact hx
  have := h.row.cell (i := i) (v := x.v) (by simp only [List.getElem?_map, hx']; rfl)
  rw [this, D2.v, (hb.2 x (Pl.mem_of_some hx)).1]; rfl
theorem OK3.subp {w : World} {d : D3} (h : OK3 w d) {i : Nat} {x : D2} (hx : d.ps[i]? = some x) : OK2 w x := h.sub x (List.mem_append_left _ (Pl.mem_of_some hx))
theorem OK2.subr {w : World} {d : D2} (h : OK2 w d) {i : Nat} {x : D1} (hx : d.rs[i]? = some x) : OK1 w x := h.sub x (List.mem_append_left _ (Pl.mem_of_some hx))

end Go.Proofs.YtcclepohmhdpbabGreatDoor

/- WHAT (*World).told DOES, a round: no walk. -/
namespace Go.Proofs.YtcclepohmhdpbabGreatDoor
set_option linter.all false
open Go.RowKit Go.Deep

theorem Fr.then {S T : Nat → Prop} {a b c : World} (h : Fr S a b) (k : Fr T b c) (hT : ∀ x, x < a.heap.size → T x → S x) : Fr S a c :=
  ⟨k.os.trans h.os, k.tape.trans h.tape, k.output.trans h.output, Nat.le_trans h.size k.size, fun i hi hs => (k.block i (Nat.lt_of_lt_of_le hi h.size) (fun e => hs (hT i hi e))).trans (h.block i hi hs)⟩
theorem Fr.of_grown {w w' : World} {row : Option Nat} (h : w.grownBy w' row) : Fr (fun b => row = some b) w w' := ⟨h.os, h.tape, h.output, h.size, fun b hb hs => h.block b hb (fun e => hs e.symm)⟩
theorem Fr.of_set (w : World) (a : Addr) (v : Value) : Fr (fun b => b = a.block) w (w.setCell a v) := Fr.setCell (S := fun b => b = a.block) (Fr.refl _ w) rfl v

end Go.Proofs.YtcclepohmhdpbabGreatDoor

/- A SET AS IT IS READ, with the room of its lists. -/
namespace Go.Proofs.YtcclepohmhdpbabGreatDoor
set_option linter.all false
open Go.RowKit Go.Deep

/-- A document's set, as it is read, with the room of its lists. -/
def Rc2 (w : World) (v : Value) (l : Poly) : Prop :=
  ∃ ao cap, v = .slice ao l.length cap ∧ l.length ≤ cap ∧ ∀ i r, l[i]? = some r → ∃ b u, ao = some ⟨b, 0, none⟩ ∧ w.cell? ⟨b, i, none⟩ = some u ∧ Rd1 w u r
def Rc3 (w : World) (v : Value) (m : Mult) : Prop :=
  ∃ ao cap, v = .slice ao m.length cap ∧ ∀ i l, m[i]? = some l → ∃ b u, ao = some ⟨b, 0, none⟩ ∧ w.cell? ⟨b, i, none⟩ = some u ∧ Rc2 w u l
theorem Rc2.up {w w' : World} {v : Value} {l : Poly} (h : Rc2 w v l) (k : Up w w') : Rc2 w' v l := by
  obtain ⟨ao, cap, e, hc, h⟩ := h
  exact ⟨ao, cap, e, hc, fun i r hr => by obtain ⟨b, u, eb, c, q⟩ := h i r hr; exact ⟨b, u, eb, k.cell c, q.up k⟩⟩
theorem Rc3.up {w w' : World} {v : Value} {m : Mult} (h : Rc3 w v m) (k : Up w w') : Rc3 w' v m := by
  obtain ⟨ao, cap, e, h⟩ := h
  exact ⟨ao, cap, e, fun i r hr => by obtain ⟨b, u, eb, c, q⟩ := h i r hr; exact ⟨b, u, eb, k.cell c, q.up k⟩⟩
theorem Rc2.rd {w : World} {v : Value} {l : Poly} (h : Rc2 w v l) : Rd2 w v l := by
  obtain ⟨ao, cap, e, -, h⟩ := h
  exact ⟨ao, cap, e, h⟩
theorem Rc3.rd {w : World} {v : Value} {m : Mult} (h : Rc3 w v m) : Rd3 w v m := by
  obtain ⟨ao, cap, e, h⟩ := h
  exact ⟨ao, cap, e, fun i r hr => by obtain ⟨b, u, eb, c, q⟩ := h i r hr; exact ⟨b, u, eb, c, q.rd⟩⟩
theorem OK2.rc {w : World} {d : D2} (h : OK2 w d) : Rc2 w d.v d.pts := by
  refine ⟨some ⟨d.b, 0, none⟩, _, by unfold D2.v D2.pts; rw [List.length_map], by unfold D2.pts; rw [List.length_map]; exact Nat.le_add_right _ _, fun i r hr => ?_⟩
  unfold D2.pts at hr
  rw [List.getElem?_map, Option.map_eq_some_iff] at hr
  obtain ⟨y, hy, rfl⟩ := hr
  have hy2 : (d.rs ++ d.s)[i]? = some y := by rw [List.getElem?_append_left (Pl.lt_of_some hy)]; exact hy
  exact ⟨d.b, y.v, rfl, h.row.cell (by rw [List.getElem?_map, hy2]; rfl), (h.sub y (Pl.mem_of_some hy2)).rd⟩
theorem OK3.rc {w : World} {d : D3} (h : OK3 w d) : Rc3 w d.v d.m := by
  refine ⟨some ⟨d.b, 0, none⟩, _, by unfold D3.v D3.m; rw [List.length_map], fun i r hr => ?_⟩
  unfold D3.m at hr
  rw [List.getElem?_map, Option.map_eq_some_iff] at hr
  obtain ⟨y, hy, rfl⟩ := hr
  have hy2 : (d.ps ++ d.s)[i]? = some y := by rw [List.getElem?_append_left (Pl.lt_of_some hy)]; exact hy
  exact ⟨d.b, y.v, rfl, h.row.cell (by rw [List.getElem?_map, hy2]; rfl), (h.sub y (Pl.mem_of_some hy2)).rc⟩

end Go.Proofs.YtcclepohmhdpbabGreatDoor
