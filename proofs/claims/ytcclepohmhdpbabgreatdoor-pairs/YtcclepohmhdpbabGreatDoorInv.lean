/- THE SCRIPT's STATE IN MEMORY: the sets, the lists that were handed out, the caller's lists. -/
import Derived.Test.YtcclepohmhdpbabGreatDoorRcx
namespace Go.Proofs.YtcclepohmhdpbabGreatDoor
set_option linter.all false
open Go.RowKit Go.Deep

/-- What hangs on some blocks alone, all of them in F. -/
def Kept (F : Nat → Prop) (w : World) (R : World → Prop) : Prop := ∃ l : List Nat, (∀ b ∈ l, b < w.heap.size ∧ F b) ∧ ∀ w' : World, (∀ b ∈ l, w'.heap[b]? = w.heap[b]?) → R w'
theorem Kept.now {F : Nat → Prop} {w : World} {R : World → Prop} (h : Kept F w R) : R w := by
  obtain ⟨l, _, h⟩ := h
  exact h w fun _ _ => rfl
theorem Kept.keep {F F' S : Nat → Prop} {w w' : World} {R : World → Prop} (h : Kept F w R) (k : Fr S w w') (hF : ∀ b, b < w.heap.size → F b → F' b ∧ ¬ S b) : Kept F' w' R := by
  obtain ⟨l, h1, h2⟩ := h
  refine ⟨l, fun b hb => ⟨Nat.lt_of_lt_of_le (h1 b hb).1 k.size, (hF b (h1 b hb).1 (h1 b hb).2).1⟩, fun w2 e => h2 w2 fun b hb => (e b hb).trans ?_⟩
  exact k.block b (h1 b hb).1 (hF b (h1 b hb).1 (h1 b hb).2).2
theorem Kept.mono {F : Nat → Prop} {w : World} {R R' : World → Prop} (h : Kept F w R) (k : ∀ w, R w → R' w) : Kept F w R' := by
  obtain ⟨l, h1, h2⟩ := h
  exact ⟨l, h1, fun w' e => k w' (h2 w' e)⟩

/-- A list's value. -/
structure SV where
  a : Option Addr
  n : Nat
  c : Nat
def SV.v (d : SV) : Value := .slice d.a d.n d.c
/-- A set on both sides. -/
structure SG where
  x : Value
  m : Mult
  bx : Nat
  dx : SV
  dm : SV
def SG.cells (s : SG) : List Value := [s.x, s.dm.v]
def cellsS (S : List SG) : List Value := S.flatMap SG.cells
structure SetOK (F : Nat → Prop) (w : World) (s : SG) : Prop where
  ptr : s.x = .pointer (some ⟨s.bx, 0, none⟩)
  kx : Kept F w fun w => VRow w s.bx 62 [s.dx.v] ∧ Rc3 w s.dx.v s.m
  km : Kept F w fun w => Rc3 w s.dm.v s.m
  bd : Pl.Bd s.m
  ok0 : Pl.wrong s.m = 0

theorem Set3.lt {w : World} {v : Value} {m : Mult} {b : Nat} {d : D3} (h : Set3 w v m b d) : ∀ x ∈ b :: d.bl, x < w.heap.size := by
  intro x hx
  rcases List.mem_cons.1 hx with rfl | hx
  · exact h.cell.lt
  · exact h.ok.lt x hx
theorem Set3.frr {S : Nat → Prop} {w w' : World} {v : Value} {m : Mult} {b : Nat} {d : D3} (h : Set3 w v m b d) (k : Fr S w w') (hs : ∀ x ∈ b :: d.bl, ¬ S x) : Set3 w' v m b d :=
  ⟨h.ptr, k.row h.cell (hs b (by simp)), k.ok3 h.ok (fun x hx => hs x (by simp [hx])), h.pts⟩
theorem SetOK.keep {F F' : Nat → Prop} {S : Nat → Prop} {w w' : World} {s : SG} (h : SetOK F w s) (k : Fr S w w') (hF : ∀ b, b < w.heap.size → F b → F' b ∧ ¬ S b) : SetOK F' w' s :=
  ⟨h.ptr, h.kx.keep k hF, h.km.keep k hF, h.bd, h.ok0⟩
def D3.sv (d : D3) : SV := ⟨some ⟨d.b, 0, none⟩, d.ps.length, d.ps.length + d.s.length⟩
theorem OK3.kept {F : Nat → Prop} {w : World} {d : D3} (h : OK3 w d) (hf : ∀ b ∈ d.bl, F b) : Kept F w fun w => Rc3 w d.sv.v d.m :=
  ⟨d.bl, fun b hb => ⟨h.lt b hb, hf b hb⟩, fun w' e => (h.of e).rc⟩
theorem Set3.kept {F : Nat → Prop} {w : World} {v : Value} {m : Mult} {b : Nat} {d : D3} (h : Set3 w v m b d) (hf : ∀ x ∈ b :: d.bl, F x) : Kept F w fun w => VRow w b 62 [d.sv.v] ∧ Rc3 w d.sv.v m :=
  ⟨b :: d.bl, fun x hx => ⟨h.lt x hx, hf x hx⟩, fun w' e => ⟨h.cell.of_block (e b (by simp)), by
    have := (h.ok.of fun x hx => e x (by simp [hx])).rc
    rw [h.pts] at this; exact this⟩⟩
/-- A set as it comes out of Make or Decode. -/
theorem SetOK.of3 {F : Nat → Prop} {w : World} {v : Value} {m : Mult} {b : Nat} {d d2 : D3} (h : Set3 w v m b d) (h2 : OK3 w d2) (e : d2.m = m) (hf : ∀ x ∈ b :: d.bl, F x) (hf2 : ∀ x ∈ d2.bl, F x) (hb : Pl.Bd m) (h0 : Pl.wrong m = 0) : SetOK F w ⟨v, m, b, d.sv, d2.sv⟩ :=
  ⟨h.ptr, h.kept hf, e ▸ h2.kept hf2, hb, h0⟩
theorem cellsS_length (S : List SG) : (cellsS S).length = S.length * 2 := by
  induction S with
  | nil => rfl
  | cons o t ih => show (o.cells ++ cellsS t).length = _; rw [List.length_append, ih]; simp [SG.cells]; omega
theorem cellsS_snoc (S : List SG) (s : SG) : cellsS (S ++ [s]) = cellsS S ++ s.cells := by simp [cellsS]
theorem cellsS_at (S : List SG) : ∀ (i : Nat) (s : SG), S[i]? = some s → (cellsS S)[i * 2]? = some s.x ∧ (cellsS S)[i * 2 + 1]? = some s.dm.v := by
  induction S with
  | nil => intro i s h; simp at h
  | cons a t ih =>
    intro i s h
    cases i with
    | zero => simp at h; subst h; exact ⟨rfl, rfl⟩
    | succ i =>
      have := ih i s (by simpa using h)
      have e1 : (i + 1) * 2 = i * 2 + 1 + 1 := by omega
      rw [e1]
      show (a.x :: a.dm.v :: cellsS t)[i * 2 + 1 + 1]? = _ ∧ (a.x :: a.dm.v :: cellsS t)[i * 2 + 1 + 1 + 1]? = _
      exact ⟨by simpa using this.1, by simpa using this.2⟩

/-! ### The caller's lists -/
structure L1 where
  v : Value
  r : Ring
structure L2 where
  v : Value
  rs : List L1
structure L3 where
  v : Value
  ps : List L2
def L1.bl (x : L1) : List Nat := x.v.ownBlock.toList
def L2.bl (x : L2) : List Nat := x.v.ownBlock.toList ++ x.rs.flatMap L1.bl
def L3.bl (x : L3) : List Nat := x.v.ownBlock.toList ++ x.ps.flatMap L2.bl
def L2.pts (x : L2) : Poly := x.rs.map L1.r
def L3.m (x : L3) : Mult := x.ps.map L2.pts
def L1.ok (w : World) (x : L1) : Prop := w.ownsRow 0 48 2 x.v x.r.length (flat x.r)
structure L2.ok (w : World) (x : L2) : Prop where
  row : w.ownsRow 0 46 1 x.v x.rs.length (x.rs.map L1.v)
  sub : ∀ y ∈ x.rs, y.ok w
structure L3.ok (w : World) (x : L3) : Prop where
  row : w.ownsRow 0 45 1 x.v x.ps.length (x.ps.map L2.v)
  sub : ∀ y ∈ x.ps, y.ok w

theorem L1.ok.of {w w' : World} {x : L1} (h : x.ok w) (k : ∀ b ∈ x.bl, w'.heap[b]? = w.heap[b]?) : x.ok w' := own_of_block h fun g hg => k g (by simp [L1.bl, hg])
theorem L2.ok.of {w w' : World} {x : L2} (h : x.ok w) (k : ∀ b ∈ x.bl, w'.heap[b]? = w.heap[b]?) : x.ok w' :=
  ⟨own_of_block h.row fun g hg => k g (by simp [L2.bl, hg]), fun y hy => (h.sub y hy).of fun b hb => k b (by simp only [L2.bl, List.mem_append, List.mem_flatMap]; exact .inr ⟨y, hy, hb⟩)⟩
theorem L3.ok.of {w w' : World} {x : L3} (h : x.ok w) (k : ∀ b ∈ x.bl, w'.heap[b]? = w.heap[b]?) : x.ok w' :=
  ⟨own_of_block h.row fun g hg => k g (by simp [L3.bl, hg]), fun y hy => (h.sub y hy).of fun b hb => k b (by simp only [L3.bl, List.mem_append, List.mem_flatMap]; exact .inr ⟨y, hy, hb⟩)⟩
theorem L1.ok.lt {w : World} {x : L1} (h : x.ok w) : ∀ b ∈ x.bl, b < w.heap.size := fun b hb => (own_lt h (by simpa [L1.bl] using hb)).2
theorem L2.ok.lt {w : World} {x : L2} (h : x.ok w) : ∀ b ∈ x.bl, b < w.heap.size := fun b hb => by
  simp only [L2.bl, List.mem_append, List.mem_flatMap] at hb
  rcases hb with hb | ⟨y, hy, hb⟩
  · exact (own_lt h.row (by simpa using hb)).2
  · exact (h.sub y hy).lt b hb
theorem L3.ok.lt {w : World} {x : L3} (h : x.ok w) : ∀ b ∈ x.bl, b < w.heap.size := fun b hb => by
  simp only [L3.bl, List.mem_append, List.mem_flatMap] at hb
  rcases hb with hb | ⟨y, hy, hb⟩
  · exact (own_lt h.row (by simpa using hb)).2
  · exact (h.sub y hy).lt b hb

theorem L1.ok.rd {w : World} {x : L1} (h : x.ok w) : Rd1 w x.v x.r := by
  obtain ⟨ao, cap, e⟩ := own_len h
  refine ⟨ao, cap, e, fun i p hp => ?_⟩
  obtain ⟨g, cap', e', hc⟩ := own_cell h (by have := Pl.lt_of_some hp; omega)
  rw [e] at e'
  cases e'
  have := flat_at _ _ _ hp
  exact ⟨g, rfl, hc _ _ this.1, hc _ _ this.2⟩
theorem L2.ok.rd {w : World} {x : L2} (h : x.ok w) : Rd2 w x.v x.pts := by
  obtain ⟨ao, cap, e⟩ := own_len h.row
  refine ⟨ao, cap, by rw [e]; simp [L2.pts], fun i p hp => ?_⟩
  simp only [L2.pts, List.getElem?_map, Option.map_eq_some_iff] at hp
  obtain ⟨y, hy, rfl⟩ := hp
  obtain ⟨g, cap', e', hc⟩ := own_cell h.row (by have := Pl.lt_of_some hy; omega)
  rw [e] at e'
  cases e'
  exact ⟨g, y.v, rfl, hc _ _ (by rw [List.getElem?_map, hy]; rfl), (h.sub y (Pl.mem_of_some hy)).rd⟩
theorem L3.ok.rd {w : World} {x : L3} (h : x.ok w) : Rd3 w x.v x.m := by
  obtain ⟨ao, cap, e⟩ := own_len h.row
  refine ⟨ao, cap, by rw [e]; simp [L3.m], fun i p hp => ?_⟩
  simp only [L3.m, List.getElem?_map, Option.map_eq_some_iff] at hp
  obtain ⟨y, hy, rfl⟩ := hp
  obtain ⟨g, cap', e', hc⟩ := own_cell h.row (by have := Pl.lt_of_some hy; omega)
  rw [e] at e'
  cases e'
  exact ⟨g, y.v, rfl, hc _ _ (by rw [List.getElem?_map, hy]; rfl), (h.sub y (Pl.mem_of_some hy)).rd⟩

/-- What the script may write into later. -/
def Mut (Wb : Nat) (psv outv : Value) (L : L3) (b : Nat) : Prop := b = Wb ∨ psv.ownBlock = some b ∨ outv.ownBlock = some b ∨ b ∈ L.bl

/-- How much the caller's lists hold. -/
def tot (m : Mult) : Nat := m.length + Pl.nR m + Pl.nP m

theorem le_sum_of {l : List Nat} {x : Nat} (h : x ∈ l) : x ≤ l.sum := by
  induction l with
  | nil => cases h
  | cons a t ih =>
    rw [List.sum_cons]
    rcases List.mem_cons.1 h with rfl | h
    · omega
    · have := ih h; omega

theorem tot_bd {m : Mult} {n : Nat} (h : tot m ≤ n) (hn : n ≤ 1048576) : Pl.Bd m := by
  unfold tot at h
  have h1 : ∀ l ∈ m, l.length ≤ Pl.nR m := fun l hl => by
    unfold Pl.nR
    exact le_sum_of (List.mem_map_of_mem hl)
  have h2 : ∀ l ∈ m, ∀ r ∈ l, r.length ≤ Pl.nP m := fun l hl r hr => by
    have a : r.length ≤ Pl.nPl l := by unfold Pl.nPl; exact le_sum_of (List.mem_map_of_mem hr)
    have b : Pl.nPl l ≤ Pl.nP m := by unfold Pl.nP; exact le_sum_of (List.mem_map_of_mem hl)
    omega
  exact ⟨by omega, fun l hl => by have := h1 l hl; omega, fun l hl r hr => by have := h2 l hl r hr; omega⟩

end Go.Proofs.YtcclepohmhdpbabGreatDoor
