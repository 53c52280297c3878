import Derived.Test.YtcclepohmhdpbaaGreatDoorWalkI
import Derived.Test.YtcclepohmhdpbaaGreatDoorWalkH
import Derived.Test.YtcclepohmhdpbaaGreatDoorWalkK
import Derived.Test.YtcclepohmhdpbaaGreatDoorWalkE
import Derived.Test.YtcclepohmhdpbaaGreatDoorWalkC
/- WHAT (*World).told DOES, a round: no walk. -/
namespace Go.Proofs.YtcclepohmhdpbaaGreatDoor
set_option linter.all false
open Go.RowKit Go.Deep

theorem Fr.then {S T : Nat → Prop} {a b c : World} (h : Fr S a b) (k : Fr T b c) (hT : ∀ x, x < a.heap.size → T x → S x) : Fr S a c :=
  ⟨k.os.trans h.os, k.tape.trans h.tape, k.output.trans h.output, Nat.le_trans h.size k.size, fun i hi hs => (k.block i (Nat.lt_of_lt_of_le hi h.size) (fun e => hs (hT i hi e))).trans (h.block i hi hs)⟩
theorem Fr.of_grown {w w' : World} {row : Option Nat} (h : w.grownBy w' row) : Fr (fun b => row = some b) w w' := ⟨h.os, h.tape, h.output, h.size, fun b hb hs => h.block b hb (fun e => hs e.symm)⟩
theorem Fr.of_set (w : World) (a : Addr) (v : Value) : Fr (fun b => b = a.block) w (w.setCell a v) := Fr.setCell (S := fun b => b = a.block) (Fr.refl _ w) rfl v

theorem el_handed : Elem Tryz.prog 36 98 (.agg zhanded.toArray) 6 128 := ⟨by kernel_rfl, by kernel_rfl, rfl, by omega, by omega⟩

/-- Where told stands after i rounds. -/
structure TS (w wr : World) (Wb : Nat) (psv lv outv0 : Value) (mk0 : Int) (F : Nat → Prop) (n0 i : Nat) (outv : Value) (O : List OG) (mk : Int) : Prop where
  fr : Fr (fun b => b = Wb ∨ outv0.ownBlock = some b) w wr
  wrow : WR wr Wb psv lv outv mk
  own : wr.ownsRow 0 98 6 outv O.length (cellsO O)
  at_ : outv.ownBlock = outv0.ownBlock ∨ ∃ g, outv.ownBlock = some g ∧ w.heap.size ≤ g
  hs : ∀ o ∈ O, HSo (fun b => (F b ∨ w.heap.size ≤ b) ∧ b ≠ Wb ∧ outv.ownBlock ≠ some b) wr o
  len : O.length = n0 + i
  mk1 : mk0 ≤ mk
  mk2 : mk ≤ mk0 + i * 32

theorem TS.step {w wr w1 w3 w4 w5 w6 w8 : World} {Wb : Nat} {psv lv outv0 outv : Value} {mk0 mk : Int} {F : Nat → Prop} {n0 i : Nat} {O : List OG} (h : TS w wr Wb psv lv outv0 mk0 F n0 i outv O mk) (hWw : Wb < w.heap.size)
    {d : D3} (hdl : ∀ b ∈ d.bl, wr.heap.size ≤ b) (hdo : OK3 w1 d) (u1 : Up wr w1) (u3 : Up w1 w3) {pv rv rmv pmv : Value} (hn : NPost w3 w4 pv rv rmv pmv (polyVM d.ps mk) (ringVM d.ps mk)) (u5 : Up w4 w5)
    {g cap : Nat} (hg : w5.grownBy w6 outv.ownBlock) (hown : w6.ownsRow 0 98 6 (.slice (some ⟨g, 0, none⟩) (O.length + 1) cap) (O.length + 1) (cellsO O ++ (OG.mk d.v pv rv rmv pmv (mk + off d.ps)).cells)) (hat : outv.ownBlock = some g ∨ g = w5.heap.size) (hlt : g < w6.heap.size)
    (hs : SpoilPost (w6.setCell ⟨Wb, 2, none⟩ (.slice (some ⟨g, 0, none⟩) (O.length + 1) cap)) w8 d Wb psv lv (.slice (some ⟨g, 0, none⟩) (O.length + 1) cap) mk) (hb : Pl.Bd d.m) (hnr : Pl.nR d.m ≤ 12) (hnp : d.m.length ≤ 8) :
    TS w w8 Wb psv lv outv0 mk0 F n0 (i + 1) (.slice (some ⟨g, 0, none⟩) (O.length + 1) cap) (O ++ [OG.mk d.v pv rv rmv pmv (mk + off d.ps)]) (mk + off d.ps + 1) := by
  have s0 := h.fr.size
  have s1 := u1.size
  have s3 := u3.size
  have s4 := hn.up.size
  have s5 := u5.size
  have s6 := hg.size
  have s7 : (w6.setCell ⟨Wb, 2, none⟩ (.slice (some ⟨g, 0, none⟩) (O.length + 1) cap)).heap.size = w6.heap.size := by simp [World.setCell]
  have hdlt : ∀ b ∈ d.bl, b < w1.heap.size := hdo.lt
  have hold : ∀ b, outv.ownBlock = some b → b < wr.heap.size := fun b e => (own_lt h.own e).2
  have hgo : g < wr.heap.size ∧ outv.ownBlock = some g ∨ g = w5.heap.size := by
    rcases hat with e | e
    · exact .inl ⟨hold g e, e⟩
    · exact .inr e
  have f47 : Fr (fun b => b = Wb ∨ outv.ownBlock = some b) w4 (w6.setCell ⟨Wb, 2, none⟩ (.slice (some ⟨g, 0, none⟩) (O.length + 1) cap)) :=
    (((Fr.of_up u5).then (Fr.of_grown hg) fun x _ e => .inr e)).setCell (.inl rfl) _
  have frt : Fr (fun b => b = Wb ∨ outv.ownBlock = some b ∨ b ∈ d.bl) wr w8 :=
    ((((Fr.of_up (((u1.trans u3).trans hn.up))).then f47 fun x _ e => by
        rcases e with e | e
        · exact .inl e
        · exact .inr (.inl e))).then hs.fr fun x _ e => by
          rcases e with e | e
          · exact .inr (.inr e)
          · exact .inl e)
  have hoff := off_eq d
  have hpl : d.m.length = d.ps.length := by simp [D3.m]
  refine ⟨?_, hs.wrow, ?_, ?_, ?_, ?_, ?_, ?_⟩
  · refine h.fr.then frt fun x hx e => ?_
    rcases e with e | e | e
    · exact .inl e
    · rcases h.at_ with e2 | ⟨g2, e2, e3⟩
      · exact .inr (by rw [← e2]; exact e)
      · rw [e2] at e; cases e; omega
    · have := hdl x e; omega
  · rw [cellsO_snoc, List.length_append]
    have o7 := own_set hown (a := ⟨Wb, 2, none⟩) (show some g ≠ some Wb by
      intro e
      have e := Option.some.inj e
      rcases hgo with e2 | e2
      · have hr := h.wrow
        exact own_row_ne h.own hr (by decide) (by rw [e2.2, e])
      · omega) (.slice (some ⟨g, 0, none⟩) (O.length + 1) cap)
    refine own_fr o7 hs.fr ?_
    intro b eb
    have eb : g = b := Option.some.inj eb
    subst eb
    rintro (e | e)
    · rcases hgo with e2 | e2
      · have := hdl g e; omega
      · have := hdlt g e; omega
    · rcases hgo with e2 | e2
      · exact own_row_ne h.own h.wrow (by decide) (by rw [e2.2, e])
      · omega
  · rcases hgo with e2 | e2
    · rcases h.at_ with e3 | ⟨g2, e3, e4⟩
      · exact .inl (by rw [← e3, e2.2]; rfl)
      · rw [e2.2] at e3; cases e3
        exact .inr ⟨g, rfl, e4⟩
    · exact .inr ⟨g, rfl, by omega⟩
  · intro o ho
    rcases List.mem_append.1 ho with ho | ho
    · refine (h.hs o ho).keep frt fun b hb hF => ⟨⟨hF.1, hF.2.1, ?_⟩, ?_⟩
      · show some g ≠ some b
        intro e
        have e := Option.some.inj e
        rcases hgo with e2 | e2
        · exact hF.2.2 (by rw [e2.2, e])
        · omega
      · rintro (e | e | e)
        · exact hF.2.1 e
        · exact hF.2.2 e
        · have := hdl b e; omega
    · simp at ho; subst ho
      have hm := HS.made hn f47 hs (fun b hb => by have := hdlt b hb; omega) (by omega) (fun b h1 h2 e => by
        rcases e with e | e
        · omega
        · have := hold b e; omega) hb (by omega)
      refine ⟨_, _, _, hm.keep (Fr.refl (fun _ => False) _) fun b _ hF => ⟨?_, fun h => h⟩⟩
      rw [s7] at hF
      rcases hF with hF | ⟨hF1, hF2⟩ | hF
      · have h1 := hdl b hF
        have h2 := hdlt b hF
        exact ⟨.inr (by omega), by omega, fun e => by have e : g = b := Option.some.inj e; rcases hgo with e2 | e2 <;> omega⟩
      · exact ⟨.inr (by omega), by omega, fun e => by have e : g = b := Option.some.inj e; rcases hgo with e2 | e2 <;> omega⟩
      · exact ⟨.inr (by omega), by omega, fun e => by have e : g = b := Option.some.inj e; omega⟩
  · rw [List.length_append, h.len]; rfl
  · have := h.mk1; omega
  · have := h.mk2
    have h1 : off d.ps ≤ 20 := by omega
    omega

end Go.Proofs.YtcclepohmhdpbaaGreatDoor

/- A SET AS IT IS READ, with the room of its lists. -/
namespace Go.Proofs.YtcclepohmhdpbaaGreatDoor
set_option linter.all false
open Go.RowKit Go.Deep

/-- A document's set, as it is read, with the room of its lists. -/
def Rc2 (w : World) (v : Value) (l : Poly) : Prop :=
  ∃ ao cap, v = .slice ao l.length cap ∧ l.length ≤ cap ∧ ∀ i r, l[i]? = some r → ∃ b u, ao = some ⟨b, 0, none⟩ ∧ w.cell? ⟨b, i, none⟩ = some u ∧ Rd1 w u r
def Rc3 (w : World) (v : Value) (m : Mult) : Prop :=
  ∃ ao cap, v = .slice ao m.length cap ∧ ∀ i l, m[i]? = some l → ∃ b u, ao = some ⟨b, 0, none⟩ ∧ w.cell? ⟨b, i, none⟩ = some u ∧ Rc2 w u l
theorem Rc2.up {w w' : World} {v : Value} {l : Poly} (h : Rc2 w v l) (k : Up w w') : Rc2 w' v l := by
  obtain ⟨ao, cap, e, hc, h⟩ := h
  exact ⟨ao, cap, e, hc, fun i r hr => by obtain ⟨b, u, eb, c, q⟩ := h i r hr; exact ⟨b, u, eb, k.cell c, q.up k⟩⟩
theorem Rc3.up {w w' : World} {v : Value} {m : Mult} (h : Rc3 w v m) (k : Up w w') : Rc3 w' v m := by
  obtain ⟨ao, cap, e, h⟩ := h
  exact ⟨ao, cap, e, fun i r hr => by obtain ⟨b, u, eb, c, q⟩ := h i r hr; exact ⟨b, u, eb, k.cell c, q.up k⟩⟩
theorem Rc2.rd {w : World} {v : Value} {l : Poly} (h : Rc2 w v l) : Rd2 w v l := by
  obtain ⟨ao, cap, e, -, h⟩ := h
  exact ⟨ao, cap, e, h⟩
theorem Rc3.rd {w : World} {v : Value} {m : Mult} (h : Rc3 w v m) : Rd3 w v m := by
  obtain ⟨ao, cap, e, h⟩ := h
  exact ⟨ao, cap, e, fun i r hr => by obtain ⟨b, u, eb, c, q⟩ := h i r hr; exact ⟨b, u, eb, c, q.rd⟩⟩
theorem OK2.rc {w : World} {d : D2} (h : OK2 w d) : Rc2 w d.v d.pts := by
  refine ⟨some ⟨d.b, 0, none⟩, _, by unfold D2.v D2.pts; rw [List.length_map], by unfold D2.pts; rw [List.length_map]; exact Nat.le_add_right _ _, fun i r hr => ?_⟩
  unfold D2.pts at hr
  rw [List.getElem?_map, Option.map_eq_some_iff] at hr
  obtain ⟨y, hy, rfl⟩ := hr
  have hy2 : (d.rs ++ d.s)[i]? = some y := by rw [List.getElem?_append_left (Pl.lt_of_some hy)]; exact hy
  exact ⟨d.b, y.v, rfl, h.row.cell (by rw [List.getElem?_map, hy2]; rfl), (h.sub y (Pl.mem_of_some hy2)).rd⟩
theorem OK3.rc {w : World} {d : D3} (h : OK3 w d) : Rc3 w d.v d.m := by
  refine ⟨some ⟨d.b, 0, none⟩, _, by unfold D3.v D3.m; rw [List.length_map], fun i r hr => ?_⟩
  unfold D3.m at hr
  rw [List.getElem?_map, Option.map_eq_some_iff] at hr
  obtain ⟨y, hy, rfl⟩ := hr
  have hy2 : (d.ps ++ d.s)[i]? = some y := by rw [List.getElem?_append_left (Pl.lt_of_some hy)]; exact hy
  exact ⟨d.b, y.v, rfl, h.row.cell (by rw [List.getElem?_map, hy2]; rfl), (h.sub y (Pl.mem_of_some hy2)).rc⟩

end Go.Proofs.YtcclepohmhdpbaaGreatDoor

/- THE SCRIPT's STATE IN MEMORY: the sets, the lists that were handed out, the caller's lists. -/
namespace Go.Proofs.YtcclepohmhdpbaaGreatDoor
set_option linter.all false
open Go.RowKit Go.Deep

/-- What hangs on some blocks alone, all of them in F. -/
def Kept (F : Nat → Prop) (w : World) (R : World → Prop) : Prop := ∃ l : List Nat, (∀ b ∈ l, b < w.heap.size ∧ F b) ∧ ∀ w' : World, (∀ b ∈ l, w'.heap[b]? = w.heap[b]?) → R w'
theorem Kept.now {F : Nat → Prop} {w : World} {R : World → Prop} (h : Kept F w R) : R w := by
  obtain ⟨l, _, h⟩ := h
  exact h w fun _ _ => rfl
theorem Kept.keep {F F' S : Nat → Prop} {w w' : World} {R : World → Prop} (h : Kept F w R) (k : Fr S w w') (hF : ∀ b, b < w.heap.size → F b → F' b ∧ ¬ S b) : Kept F' w' R := by
  obtain ⟨l, h1, h2⟩ := h
  refine ⟨l, fun b hb => ⟨Nat.lt_of_lt_of_le (h1 b hb).1 k.size, (hF b (h1 b hb).1 (h1 b hb).2).1⟩, fun w2 e => h2 w2 fun b hb => (e b hb).trans ?_⟩
  exact k.block b (h1 b hb).1 (hF b (h1 b hb).1 (h1 b hb).2).2
theorem Kept.mono {F : Nat → Prop} {w : World} {R R' : World → Prop} (h : Kept F w R) (k : ∀ w, R w → R' w) : Kept F w R' := by
  obtain ⟨l, h1, h2⟩ := h
  exact ⟨l, h1, fun w' e => k w' (h2 w' e)⟩

/-- A list's value. -/
structure SV where
  a : Option Addr
  n : Nat
  c : Nat
def SV.v (d : SV) : Value := .slice d.a d.n d.c
/-- A set on both sides. -/
structure SG where
  x : Value
  m : Mult
  bx : Nat
  dx : SV
  dm : SV
def SG.cells (s : SG) : List Value := [s.x, s.dm.v]
def cellsS (S : List SG) : List Value := S.flatMap SG.cells
structure SetOK (F : Nat → Prop) (w : World) (s : SG) : Prop where
  ptr : s.x = .pointer (some ⟨s.bx, 0, none⟩)
  kx : Kept F w fun w => VRow w s.bx 78 [s.dx.v] ∧ Rc3 w s.dx.v s.m
  km : Kept F w fun w => Rc3 w s.dm.v s.m
  bd : Pl.Bd s.m
  ok0 : Pl.wrong s.m = 0

theorem Set3.lt {w : World} {v : Value} {m : Mult} {b : Nat} {d : D3} (h : Set3 w v m b d) : ∀ x ∈ b :: d.bl, x < w.heap.size := by
  intro x hx
  rcases List.mem_cons.1 hx with rfl | hx
  · exact h.cell.lt
  · exact h.ok.lt x hx
theorem Set3.frr {S : Nat → Prop} {w w' : World} {v : Value} {m : Mult} {b : Nat} {d : D3} (h : Set3 w v m b d) (k : Fr S w w') (hs : ∀ x ∈ b :: d.bl, ¬ S x) : Set3 w' v m b d :=
  ⟨h.ptr, k.row h.cell (hs b (by simp)), k.ok3 h.ok (fun x hx => hs x (by simp [hx])), h.pts⟩
theorem SetOK.keep {F F' : Nat → Prop} {S : Nat → Prop} {w w' : World} {s : SG} (h : SetOK F w s) (k : Fr S w w') (hF : ∀ b, b < w.heap.size → F b → F' b ∧ ¬ S b) : SetOK F' w' s :=
  ⟨h.ptr, h.kx.keep k hF, h.km.keep k hF, h.bd, h.ok0⟩
def D3.sv (d : D3) : SV := ⟨some ⟨d.b, 0, none⟩, d.ps.length, d.ps.length + d.s.length⟩
theorem OK3.kept {F : Nat → Prop} {w : World} {d : D3} (h : OK3 w d) (hf : ∀ b ∈ d.bl, F b) : Kept F w fun w => Rc3 w d.sv.v d.m :=
  ⟨d.bl, fun b hb => ⟨h.lt b hb, hf b hb⟩, fun w' e => (h.of e).rc⟩
theorem Set3.kept {F : Nat → Prop} {w : World} {v : Value} {m : Mult} {b : Nat} {d : D3} (h : Set3 w v m b d) (hf : ∀ x ∈ b :: d.bl, F x) : Kept F w fun w => VRow w b 78 [d.sv.v] ∧ Rc3 w d.sv.v m :=
  ⟨b :: d.bl, fun x hx => ⟨h.lt x hx, hf x hx⟩, fun w' e => ⟨h.cell.of_block (e b (by simp)), by
    have := (h.ok.of fun x hx => e x (by simp [hx])).rc
    rw [h.pts] at this; exact this⟩⟩
/-- A set as it comes out of Make or Decode. -/
theorem SetOK.of3 {F : Nat → Prop} {w : World} {v : Value} {m : Mult} {b : Nat} {d d2 : D3} (h : Set3 w v m b d) (h2 : OK3 w d2) (e : d2.m = m) (hf : ∀ x ∈ b :: d.bl, F x) (hf2 : ∀ x ∈ d2.bl, F x) (hb : Pl.Bd m) (h0 : Pl.wrong m = 0) : SetOK F w ⟨v, m, b, d.sv, d2.sv⟩ :=
  ⟨h.ptr, h.kept hf, e ▸ h2.kept hf2, hb, h0⟩
theorem cellsS_length (S : List SG) : (cellsS S).length = S.length * 2 := by
  induction S with
  | nil => rfl
  | cons o t ih => show (o.cells ++ cellsS t).length = _; rw [List.length_append, ih]; simp [SG.cells]; omega
theorem cellsS_snoc (S : List SG) (s : SG) : cellsS (S ++ [s]) = cellsS S ++ s.cells := by simp [cellsS]
theorem cellsS_at (S : List SG) : ∀ (i : Nat) (s : SG), S[i]? = some s → (cellsS S)[i * 2]? = some s.x ∧ (cellsS S)[i * 2 + 1]? = some s.dm.v := by
  induction S with
  | nil => intro i s h; simp at h
  | cons a t ih =>
    intro i s h
    cases i with
    | zero => simp at h; subst h; exact ⟨rfl, rfl⟩
    | succ i =>
      have := ih i s (by simpa using h)
      have e1 : (i + 1) * 2 = i * 2 + 1 + 1 := by omega
      rw [e1]
      show (a.x :: a.dm.v :: cellsS t)[i * 2 + 1 + 1]? = _ ∧ (a.x :: a.dm.v :: cellsS t)[i * 2 + 1 + 1 + 1]? = _
      exact ⟨by simpa using this.1, by simpa using this.2⟩

/-! ### The caller's lists -/
structure L1 where
  v : Value
  r : Ring
structure L2 where
  v : Value
  rs : List L1
structure L3 where
  v : Value
  ps : List L2
def L1.bl (x : L1) : List Nat := x.v.ownBlock.toList
def L2.bl (x : L2) : List Nat := x.v.ownBlock.toList ++ x.rs.flatMap L1.bl
def L3.bl (x : L3) : List Nat := x.v.ownBlock.toList ++ x.ps.flatMap L2.bl
def L2.pts (x : L2) : Poly := x.rs.map L1.r
def L3.m (x : L3) : Mult := x.ps.map L2.pts
def L1.ok (w : World) (x : L1) : Prop := w.ownsRow 0 32 2 x.v x.r.length (flat x.r)
structure L2.ok (w : World) (x : L2) : Prop where
  row : w.ownsRow 0 30 1 x.v x.rs.length (x.rs.map L1.v)
  sub : ∀ y ∈ x.rs, y.ok w
structure L3.ok (w : World) (x : L3) : Prop where
  row : w.ownsRow 0 33 1 x.v x.ps.length (x.ps.map L2.v)
  sub : ∀ y ∈ x.ps, y.ok w

theorem L1.ok.of {w w' : World} {x : L1} (h : x.ok w) (k : ∀ b ∈ x.bl, w'.heap[b]? = w.heap[b]?) : x.ok w' := own_of_block h fun g hg => k g (by simp [L1.bl, hg])
theorem L2.ok.of {w w' : World} {x : L2} (h : x.ok w) (k : ∀ b ∈ x.bl, w'.heap[b]? = w.heap[b]?) : x.ok w' :=
  ⟨own_of_block h.row fun g hg => k g (by simp [L2.bl, hg]), fun y hy => (h.sub y hy).of fun b hb => k b (by simp only [L2.bl, List.mem_append, List.mem_flatMap]; exact .inr ⟨y, hy, hb⟩)⟩
theorem L3.ok.of {w w' : World} {x : L3} (h : x.ok w) (k : ∀ b ∈ x.bl, w'.heap[b]? = w.heap[b]?) : x.ok w' :=
  ⟨own_of_block h.row fun g hg => k g (by simp [L3.bl, hg]), fun y hy => (h.sub y hy).of fun b hb => k b (by simp only [L3.bl, List.mem_append, List.mem_flatMap]; exact .inr ⟨y, hy, hb⟩)⟩
theorem L1.ok.lt {w : World} {x : L1} (h : x.ok w) : ∀ b ∈ x.bl, b < w.heap.size := fun b hb => (own_lt h (by simpa [L1.bl] using hb)).2
theorem L2.ok.lt {w : World} {x : L2} (h : x.ok w) : ∀ b ∈ x.bl, b < w.heap.size := fun b hb => by
  simp only [L2.bl, List.mem_append, List.mem_flatMap] at hb
  rcases hb with hb | ⟨y, hy, hb⟩
  · exact (own_lt h.row (by simpa using hb)).2
  · exact (h.sub y hy).lt b hb
theorem L3.ok.lt {w : World} {x : L3} (h : x.ok w) : ∀ b ∈ x.bl, b < w.heap.size := fun b hb => by
  simp only [L3.bl, List.mem_append, List.mem_flatMap] at hb
  rcases hb with hb | ⟨y, hy, hb⟩
  · exact (own_lt h.row (by simpa using hb)).2
  · exact (h.sub y hy).lt b hb

theorem L1.ok.rd {w : World} {x : L1} (h : x.ok w) : Rd1 w x.v x.r := by
  obtain ⟨ao, cap, e⟩ := own_len h
  refine ⟨ao, cap, e, fun i p hp => ?_⟩
  obtain ⟨g, cap', e', hc⟩ := own_cell h (by have := Pl.lt_of_some hp; omega)
  rw [e] at e'
  cases e'
  have := flat_at _ _ _ hp
  exact ⟨g, rfl, hc _ _ this.1, hc _ _ this.2⟩
theorem L2.ok.rd {w : World} {x : L2} (h : x.ok w) : Rd2 w x.v x.pts := by
  obtain ⟨ao, cap, e⟩ := own_len h.row
  refine ⟨ao, cap, by rw [e]; simp [L2.pts], fun i p hp => ?_⟩
  simp only [L2.pts, List.getElem?_map, Option.map_eq_some_iff] at hp
  obtain ⟨y, hy, rfl⟩ := hp
  obtain ⟨g, cap', e', hc⟩ := own_cell h.row (by have := Pl.lt_of_some hy; omega)
  rw [e] at e'
  cases e'
  exact ⟨g, y.v, rfl, hc _ _ (by rw [List.getElem?_map, hy]; rfl), (h.sub y (Pl.mem_of_some hy)).rd⟩
theorem L3.ok.rd {w : World} {x : L3} (h : x.ok w) : Rd3 w x.v x.m := by
  obtain ⟨ao, cap, e⟩ := own_len h.row
  refine ⟨ao, cap, by rw [e]; simp [L3.m], fun i p hp => ?_⟩
  simp only [L3.m, List.getElem?_map, Option.map_eq_some_iff] at hp
  obtain ⟨y, hy, rfl⟩ := hp
  obtain ⟨g, cap', e', hc⟩ := own_cell h.row (by have := Pl.lt_of_some hy; omega)
  rw [e] at e'
  cases e'
  exact ⟨g, y.v, rfl, hc _ _ (by rw [List.getElem?_map, hy]; rfl), (h.sub y (Pl.mem_of_some hy)).rd⟩

/-- What the script may write into later. -/
def Mut (Wb : Nat) (psv outv : Value) (L : L3) (b : Nat) : Prop := b = Wb ∨ psv.ownBlock = some b ∨ outv.ownBlock = some b ∨ b ∈ L.bl

/-- How much the caller's lists hold. -/
def tot (m : Mult) : Nat := m.length + Pl.nR m + Pl.nP m

structure Inv (w0 w : World) (Wb : Nat) (psv outv : Value) (mk : Int) (S : List SG) (O : List OG) (L : L3) (n : Nat) : Prop where
  wrow : WR w Wb psv L.v outv mk
  ops : w.ownsRow 0 52 2 psv S.length (cellsS S)
  oout : w.ownsRow 0 98 6 outv O.length (cellsO O)
  lok : L.ok w
  nodup : L.bl.Nodup
  sets : ∀ s ∈ S, SetOK (fun b => ¬ Mut Wb psv outv L b) w s
  outs : ∀ o ∈ O, HSo (fun b => ¬ Mut Wb psv outv L b) w o
  bS : S.length ≤ n
  bO : O.length ≤ n * 3
  mk0 : 0 ≤ mk
  mk1 : mk ≤ n * 2097152
  tot_ : tot L.m ≤ n
  base : Up w0 w
  low : ∀ b, Mut Wb psv outv L b → w0.heap.size ≤ b

theorem le_sum_of {l : List Nat} {x : Nat} (h : x ∈ l) : x ≤ l.sum := by
  induction l with
  | nil => cases h
  | cons a t ih =>
    rw [List.sum_cons]
    rcases List.mem_cons.1 h with rfl | h
    · omega
    · have := ih h; omega

theorem tot_bd {m : Mult} {n : Nat} (h : tot m ≤ n) (hn : n ≤ 1048576) : Pl.Bd m := by
  unfold tot at h
  have h1 : ∀ l ∈ m, l.length ≤ Pl.nR m := fun l hl => by
    unfold Pl.nR
    exact le_sum_of (List.mem_map_of_mem hl)
  have h2 : ∀ l ∈ m, ∀ r ∈ l, r.length ≤ Pl.nP m := fun l hl r hr => by
    have a : r.length ≤ Pl.nPl l := by unfold Pl.nPl; exact le_sum_of (List.mem_map_of_mem hr)
    have b : Pl.nPl l ≤ Pl.nP m := by unfold Pl.nP; exact le_sum_of (List.mem_map_of_mem hl)
    omega
  exact ⟨by omega, fun l hl => by have := h1 l hl; omega, fun l hl r hr => by have := h2 l hl r hr; omega⟩

end Go.Proofs.YtcclepohmhdpbaaGreatDoor
