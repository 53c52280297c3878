/- WHAT (*World).spoil DOES TO MEMORY, step by step: no walk. -/
import Derived.Test.YtcclepohmhdpbaaWalkG
import Derived.Test.YtcclepohmhdpbaaFrame
namespace Go.Proofs.Ytcclepohmhdpbaa
set_option linter.all false
open Go.RowKit Go.Deep

def hd1 (c : Nat) : Value := .slice (some ⟨c, 0, none⟩) 1 1
/-- So many marks the polygons take. -/
def off (ps : List D2) : Nat := (ps.map fun x => x.rs.length + 1).sum
/-- A ring of which i points are spoilt. -/
def spt (r s : Ring) (i : Nat) (mk : Int) : Ring := List.replicate i (-77, mk) ++ (r.drop i ++ s)

theorem spt_zero (r s : Ring) (mk : Int) : spt r s 0 mk = r ++ s := rfl
theorem spt_full (r s : Ring) (mk : Int) : spt r s r.length mk = List.replicate r.length (-77, mk) ++ s := by simp [spt]
theorem spt_step (r s : Ring) (i : Nat) (mk : Int) (h : i < r.length) : (spt r s i mk).set i (-77, mk) = spt r s (i + 1) mk := by
  unfold spt
  rw [List.set_append_right _ _ (by simp), List.length_replicate, Nat.sub_self, List.drop_eq_getElem_cons h, List.cons_append, List.set_cons_zero, List.replicate_succ', List.append_assoc]
  rfl
theorem spt_some (r s : Ring) (i : Nat) (mk : Int) (h : i < r.length) : ∃ p, (spt r s i mk)[i]? = some p := by
  unfold spt
  rw [List.getElem?_append_right (by simp), List.length_replicate, Nat.sub_self, List.drop_eq_getElem_cons h]
  exact ⟨_, rfl⟩

/-- Its places are being written: i are. -/
structure HL (w wq : World) (x : D2) (mk : Int) (i : Nat) (cs : List Nat) : Prop where
  fr : Fr (fun b => b = x.b) w wq
  row : VRow wq x.b 35 (cs.map hd1 ++ (x.rs.drop i ++ x.s).map D1.v)
  len : cs.length = i
  new : ∀ c ∈ cs, w.heap.size ≤ c ∧ PRow wq c [(77, mk)]

/-- A polygon that is spoilt. -/
def PD (w wq : World) (x : D2) (kk : Int) : Prop :=
  (∀ (i : Nat) y, x.rs[i]? = some y → RF1 (fun b => b ∈ x.bl ∨ w.heap.size ≤ b) wq y.v (List.replicate y.r.length (-77, kk + i))) ∧
  RF2 (fun b => b ∈ x.bl ∨ w.heap.size ≤ b) wq x.v (List.replicate x.rs.length [(77, kk + x.rs.length)])

/-- The set's places are being written. -/
structure FL (w wq : World) (d : D3) (mk : Int) (i : Nat) (es : List (Nat × Nat)) : Prop where
  fr : Fr (fun b => b = d.b) w wq
  row : VRow wq d.b 34 ((es.map fun e => hd1 e.1) ++ (d.ps.drop i ++ d.s).map D2.v)
  len : es.length = i
  new : ∀ e ∈ es, w.heap.size ≤ e.1 ∧ w.heap.size ≤ e.2 ∧ VRow wq e.1 35 [hd1 e.2] ∧ PRow wq e.2 [(777, mk)]

/-! ### Blocks that differ -/
theorem D3.ne_sub {d : D3} (h : d.bl.Nodup) {x : D2} (hx : x ∈ d.ps) : d.b ∉ x.bl := fun hb =>
  (List.nodup_cons.1 h).1 (List.mem_flatMap.2 ⟨x, List.mem_append_left _ hx, hb⟩)
theorem D3.mem_sub {d : D3} {x : D2} (hx : x ∈ d.ps) {b : Nat} (hb : b ∈ x.bl) : b ∈ d.bl :=
  List.mem_cons_of_mem _ (List.mem_flatMap.2 ⟨x, List.mem_append_left _ hx, hb⟩)
theorem D3.sub_nodup {d : D3} (h : d.bl.Nodup) {x : D2} (hx : x ∈ d.ps) : x.bl.Nodup :=
  (List.pairwise_flatMap.1 (List.nodup_cons.1 h).2).1 x (List.mem_append_left _ hx)
theorem D3.apart {d : D3} (h : d.bl.Nodup) {i j : Nat} {x y : D2} (hx : d.ps[i]? = some x) (hy : d.ps[j]? = some y) (hij : i ≠ j) {b : Nat} (hb : b ∈ x.bl) : b ∉ y.bl := by
  have hp := (List.pairwise_flatMap.1 (List.nodup_cons.1 h).2).2
  rw [List.pairwise_iff_getElem] at hp
  have hi := Pl.lt_of_some hx
  have hj := Pl.lt_of_some hy
  have hil : i < (d.ps ++ d.s).length := by rw [List.length_append]; omega
  have hjl : j < (d.ps ++ d.s).length := by rw [List.length_append]; omega
  have ex : (d.ps ++ d.s)[i] = x := by
    have : (d.ps ++ d.s)[i]? = some x := by rw [List.getElem?_append_left hi]; exact hx
    rw [List.getElem?_eq_getElem hil] at this; exact Option.some.inj this
  have ey : (d.ps ++ d.s)[j] = y := by
    have : (d.ps ++ d.s)[j]? = some y := by rw [List.getElem?_append_left hj]; exact hy
    rw [List.getElem?_eq_getElem hjl] at this; exact Option.some.inj this
  intro hb2
  rcases Nat.lt_or_gt_of_ne hij with hl | hl
  · have := hp i j hil hjl hl b (by rw [ex]; exact hb) b (by rw [ey]; exact hb2)
    exact this rfl
  · have := hp j i hjl hil hl b (by rw [ey]; exact hb2) b (by rw [ex]; exact hb)
    exact this rfl
theorem D2.ne_sub {x : D2} (h : x.bl.Nodup) {y : D1} (hy : y ∈ x.rs) : x.b ≠ y.b := fun e =>
  (List.nodup_cons.1 h).1 (by rw [e]; exact List.mem_map_of_mem (List.mem_append_left _ hy))
theorem D2.mem_sub {x : D2} {y : D1} (hy : y ∈ x.rs) : y.b ∈ x.bl := List.mem_cons_of_mem _ (List.mem_map_of_mem (List.mem_append_left _ hy))
theorem D2.rs_bl {x : D2} {b : Nat} (h : b ∈ x.rs.map D1.b) : b ∈ x.bl := by
  obtain ⟨y, hy, rfl⟩ := List.mem_map.1 h
  exact D2.mem_sub hy
theorem D2.apart {x : D2} (h : x.bl.Nodup) {i j : Nat} {y z : D1} (hy : x.rs[i]? = some y) (hz : x.rs[j]? = some z) (hij : i ≠ j) : y.b ≠ z.b := by
  have hp : List.Pairwise (· ≠ ·) ((x.rs ++ x.s).map D1.b) := (List.nodup_cons.1 h).2
  rw [List.pairwise_iff_getElem] at hp
  have hi := Pl.lt_of_some hy
  have hj := Pl.lt_of_some hz
  have hil : i < ((x.rs ++ x.s).map D1.b).length := by rw [List.length_map, List.length_append]; omega
  have hjl : j < ((x.rs ++ x.s).map D1.b).length := by rw [List.length_map, List.length_append]; omega
  have ey : ((x.rs ++ x.s).map D1.b)[i] = y.b := by
    have : ((x.rs ++ x.s).map D1.b)[i]? = some y.b := by rw [List.getElem?_map, List.getElem?_append_left hi, hy]; rfl
    rw [List.getElem?_eq_getElem hil] at this; exact Option.some.inj this
  have ez : ((x.rs ++ x.s).map D1.b)[j] = z.b := by
    have : ((x.rs ++ x.s).map D1.b)[j]? = some z.b := by rw [List.getElem?_map, List.getElem?_append_left hj, hz]; rfl
    rw [List.getElem?_eq_getElem hjl] at this; exact Option.some.inj this
  rcases Nat.lt_or_gt_of_ne hij with hl | hl
  · have := hp i j hil hjl hl; rw [ey, ez] at this; exact this
  · have := hp j i hjl hil hl; rw [ey, ez] at this; exact fun e => this e.symm

theorem off_le {ps : List D2} (h : ∀ x ∈ ps, x.rs.length ≤ 1048576) (p : Nat) : off (ps.take p) ≤ p * 1048577 := by
  unfold off
  refine Nat.le_trans (Pl.sum_le_mul (b := 1048577) ?_) ?_
  · intro n hn
    obtain ⟨x, hx, rfl⟩ := List.mem_map.1 hn
    have := h x (List.mem_of_mem_take hx)
    omega
  · rw [List.length_map, List.length_take]; exact Nat.mul_le_mul_right _ (Nat.min_le_left _ _)
theorem off_succ {ps : List D2} {p : Nat} {x : D2} (h : ps[p]? = some x) : off (ps.take (p + 1)) = off (ps.take p) + (x.rs.length + 1) := by
  unfold off; rw [Pl.take_one h]; simp

/-! ### The steps -/
theorem HL.step {w wq : World} {x : D2} {mk : Int} {i : Nat} {cs : List Nat} (h : HL w wq x mk i cs) (hi : i < x.rs.length) :
    HL w ((wq.alloc (.cells #[.int .i64 77, .int .i64 mk] 37)).setCell ⟨x.b, i, none⟩ (.slice (some ⟨wq.heap.size, 0, none⟩) 1 1)) x mk (i + 1) (cs ++ [wq.heap.size]) := by
  have hlt := h.row.lt
  refine ⟨(h.fr.alloc _).setCell rfl _, ?_, by simp [h.len], ?_⟩
  · have := (h.row.alloc (.cells #[.int .i64 77, .int .i64 mk] 37)).set i (hd1 wq.heap.size)
    rw [List.set_append_right _ _ (by simp [h.len]), List.length_map, h.len, Nat.sub_self, List.drop_eq_getElem_cons hi, List.cons_append, List.map_cons, List.set_cons_zero] at this
    rw [List.map_append, List.append_assoc]
    exact this
  · intro c hc
    rcases List.mem_append.1 hc with hc | hc
    · obtain ⟨h1, h2⟩ := h.new c hc
      exact ⟨h1, VRow.setOther (VRow.alloc h2 _) (by
        show c ≠ x.b
        intro e
        have e1 : VRow wq x.b 37 (flat [(77, mk)]) := e ▸ h2
        have e2 := h.row
        unfold VRow at e1 e2
        rw [e1] at e2
        simp at e2) _⟩
    · simp at hc; subst hc
      have := h.fr.size
      exact ⟨by omega, VRow.setOther (b := wq.heap.size) (VRow.new wq (flat [(77, mk)]) _) (by show wq.heap.size ≠ x.b; omega) _⟩

theorem FL.step {w wq : World} {d : D3} {mk : Int} {i : Nat} {es : List (Nat × Nat)} (h : FL w wq d mk i es) (hi : i < d.ps.length) (hdw : d.b < w.heap.size) :
    FL w (((wq.alloc (.cells #[.int .i64 777, .int .i64 mk] 37)).alloc (.cells #[.slice (some ⟨wq.heap.size, 0, none⟩) 1 1] 35)).setCell ⟨d.b, i, none⟩ (.slice (some ⟨wq.heap.size + 1, 0, none⟩) 1 1)) d mk (i + 1) (es ++ [(wq.heap.size + 1, wq.heap.size)]) := by
  have hlt := h.row.lt
  have hs1 : (wq.alloc (.cells #[.int .i64 777, .int .i64 mk] 37)).heap.size = wq.heap.size + 1 := by simp
  refine ⟨((h.fr.alloc _).alloc _).setCell rfl _, ?_, by simp [h.len], ?_⟩
  · have := ((h.row.alloc (.cells #[.int .i64 777, .int .i64 mk] 37)).alloc (.cells #[.slice (some ⟨wq.heap.size, 0, none⟩) 1 1] 35)).set i (hd1 (wq.heap.size + 1))
    rw [List.set_append_right _ _ (by simp [h.len]), List.length_map, h.len, Nat.sub_self, List.drop_eq_getElem_cons hi, List.cons_append, List.map_cons, List.set_cons_zero] at this
    rw [List.map_append, List.append_assoc]
    exact this
  · intro e he
    rcases List.mem_append.1 he with he | he
    · obtain ⟨h1, h2, h3, h4⟩ := h.new e he
      exact ⟨h1, h2, VRow.setOther ((VRow.alloc h3 _).alloc _) (by show e.1 ≠ d.b; omega) _, VRow.setOther (VRow.alloc (VRow.alloc h4 _) _) (by show e.2 ≠ d.b; omega) _⟩
    · simp at he; subst he
      have := h.fr.size
      refine ⟨by simp only; omega, by simp only; omega, ?_, ?_⟩
      · refine VRow.setOther (b := wq.heap.size + 1) ?_ (by show wq.heap.size + 1 ≠ d.b; omega) _
        have := VRow.new (wq.alloc (.cells #[.int .i64 777, .int .i64 mk] 37)) [hd1 wq.heap.size] 35
        rw [hs1] at this
        exact this
      · exact VRow.setOther (b := wq.heap.size) (VRow.alloc (VRow.new wq (flat [(777, mk)]) 37) _) (by show wq.heap.size ≠ d.b; omega) _

theorem PD.keep {w wr wz : World} {x : D2} {kk : Int} {S : Nat → Prop} (h : PD w wr x kk) (k : Fr S wr wz) (hF : ∀ b, b ∈ x.bl ∨ w.heap.size ≤ b → ¬ S b) : PD w wz x kk :=
  ⟨fun i y hy => (h.1 i y hy).keep k fun b _ hb => ⟨hb, hF b hb⟩, h.2.keep k fun b _ hb => ⟨hb, hF b hb⟩⟩

end Go.Proofs.Ytcclepohmhdpbaa
