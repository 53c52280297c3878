import Derived.Test.YtcclepohmhdpbaaGreatDoorWalkG
import Derived.Test.YtcclepohmhdpbaaGreatDoorWalkC
import Derived.Deep.DrawnRows
/- WHAT (*World).spoil DOES TO MEMORY, step by step: no walk. -/
namespace Go.Proofs.YtcclepohmhdpbaaGreatDoor
set_option linter.all false
open Go.RowKit Go.Deep

def hd1 (c : Nat) : Value := .slice (some ⟨c, 0, none⟩) 1 1
/-- So many marks the polygons take. -/
def off (ps : List D2) : Nat := (ps.map fun x => x.rs.length + 1).sum
/-- A ring of which i points are spoilt. -/
def spt (r s : Ring) (i : Nat) (mk : Int) : Ring := List.replicate i (-77, mk) ++ (r.drop i ++ s)

theorem spt_zero (r s : Ring) (mk : Int) : spt r s 0 mk = r ++ s := rfl
theorem spt_full (r s : Ring) (mk : Int) : spt r s r.length mk = List.replicate r.length (-77, mk) ++ s := by simp [spt]
theorem spt_step (r s : Ring) (i : Nat) (mk : Int) (h : i < r.length) : (spt r s i mk).set i (-77, mk) = spt r s (i + 1) mk := by
  unfold spt
  rw [List.set_append_right _ _ (by simp), List.length_replicate, Nat.sub_self, List.drop_eq_getElem_cons h, List.cons_append, List.set_cons_zero, List.replicate_succ', List.append_assoc]
  rfl
theorem spt_some (r s : Ring) (i : Nat) (mk : Int) (h : i < r.length) : ∃ p, (spt r s i mk)[i]? = some p := by
  unfold spt
  rw [List.getElem?_append_right (by simp), List.length_replicate, Nat.sub_self, List.drop_eq_getElem_cons h]
  exact ⟨_, rfl⟩

/-- The rings of a polygon are being spoilt: q are. -/
structure RL (w wq : World) (x : D2) (Wb : Nat) (ps l out : Value) (kk : Int) (q : Nat) : Prop where
  fr : Fr (fun b => b ∈ x.rs.map D1.b ∨ b = Wb) w wq
  wrow : WR wq Wb ps l out (kk + q)
  done : ∀ i y, i < q → x.rs[i]? = some y → PRow wq y.b (List.replicate y.r.length (-77, kk + i) ++ y.s)
  todo : ∀ i y, q ≤ i → x.rs[i]? = some y → OK1 wq y

/-- Its places are being written: i are. -/
structure HL (w wq : World) (x : D2) (mk : Int) (i : Nat) (cs : List Nat) : Prop where
  fr : Fr (fun b => b = x.b) w wq
  row : VRow wq x.b 30 (cs.map hd1 ++ (x.rs.drop i ++ x.s).map D1.v)
  len : cs.length = i
  new : ∀ c ∈ cs, w.heap.size ≤ c ∧ PRow wq c [(77, mk)]

/-- A polygon that is spoilt. -/
def PD (w wq : World) (x : D2) (kk : Int) : Prop :=
  (∀ (i : Nat) y, x.rs[i]? = some y → RF1 (fun b => b ∈ x.bl ∨ w.heap.size ≤ b) wq y.v (List.replicate y.r.length (-77, kk + i))) ∧
  RF2 (fun b => b ∈ x.bl ∨ w.heap.size ≤ b) wq x.v (List.replicate x.rs.length [(77, kk + x.rs.length)])

/-- The polygons are being spoilt: p are. -/
structure SP (w wq : World) (d : D3) (Wb : Nat) (ps l out : Value) (k : Int) (p : Nat) : Prop where
  fr : Fr (fun b => b ∈ d.bl ∨ b = Wb) w wq
  wrow : WR wq Wb ps l out (k + off (d.ps.take p))
  row : VRow wq d.b 33 ((d.ps ++ d.s).map D2.v)
  todo : ∀ j x, p ≤ j → d.ps[j]? = some x → OK2 wq x
  done : ∀ j x, j < p → d.ps[j]? = some x → PD w wq x (k + off (d.ps.take j))

/-- The set's places are being written. -/
structure FL (w wq : World) (d : D3) (mk : Int) (i : Nat) (es : List (Nat × Nat)) : Prop where
  fr : Fr (fun b => b = d.b) w wq
  row : VRow wq d.b 33 ((es.map fun e => hd1 e.1) ++ (d.ps.drop i ++ d.s).map D2.v)
  len : es.length = i
  new : ∀ e ∈ es, w.heap.size ≤ e.1 ∧ w.heap.size ≤ e.2 ∧ VRow wq e.1 30 [hd1 e.2] ∧ PRow wq e.2 [(777, mk)]

/-! ### Blocks that differ -/
theorem D3.ne_sub {d : D3} (h : d.bl.Nodup) {x : D2} (hx : x ∈ d.ps) : d.b ∉ x.bl := fun hb =>
  (List.nodup_cons.1 h).1 (List.mem_flatMap.2 ⟨x, List.mem_append_left _ hx, hb⟩)
theorem D3.mem_sub {d : D3} {x : D2} (hx : x ∈ d.ps) {b : Nat} (hb : b ∈ x.bl) : b ∈ d.bl :=
  List.mem_cons_of_mem _ (List.mem_flatMap.2 ⟨x, List.mem_append_left _ hx, hb⟩)
theorem D3.sub_nodup {d : D3} (h : d.bl.Nodup) {x : D2} (hx : x ∈ d.ps) : x.bl.Nodup :=
  (List.pairwise_flatMap.1 (List.nodup_cons.1 h).2).1 x (List.mem_append_left _ hx)
theorem D3.apart {d : D3} (h : d.bl.Nodup) {i j : Nat} {x y : D2} (hx : d.ps[i]? = some x) (hy : d.ps[j]? = some y) (hij : i ≠ j) {b : Nat} (hb : b ∈ x.bl) : b ∉ y.bl := by
  have hp := (List.pairwise_flatMap.1 (List.nodup_cons.1 h).2).2
  rw [List.pairwise_iff_getElem] at hp
  have hi := Pl.lt_of_some hx
  have hj := Pl.lt_of_some hy
  have hil : i < (d.ps ++ d.s).length := by rw [List.length_append]; omega
  have hjl : j < (d.ps ++ d.s).length := by rw [List.length_append]; omega
  have ex : (d.ps ++ d.s)[i] = x := by
    have : (d.ps ++ d.s)[i]? = some x := by rw [List.getElem?_append_left hi]; exact hx
    rw [List.getElem?_eq_getElem hil] at this; exact Option.some.inj this
  have ey : (d.ps ++ d.s)[j] = y := by
    have : (d.ps ++ d.s)[j]? = some y := by rw [List.getElem?_append_left hj]; exact hy
    rw [List.getElem?_eq_getElem hjl] at this; exact Option.some.inj this
  intro hb2
  rcases Nat.lt_or_gt_of_ne hij with hl | hl
  · have := hp i j hil hjl hl b (by rw [ex]; exact hb) b (by rw [ey]; exact hb2)
    exact this rfl
  · have := hp j i hjl hil hl b (by rw [ey]; exact hb2) b (by rw [ex]; exact hb)
    exact this rfl
theorem D2.ne_sub {x : D2} (h : x.bl.Nodup) {y : D1} (hy : y ∈ x.rs) : x.b ≠ y.b := fun e =>
  (List.nodup_cons.1 h).1 (by rw [e]; exact List.mem_map_of_mem (List.mem_append_left _ hy))
theorem D2.mem_sub {x : D2} {y : D1} (hy : y ∈ x.rs) : y.b ∈ x.bl := List.mem_cons_of_mem _ (List.mem_map_of_mem (List.mem_append_left _ hy))
theorem D2.rs_bl {x : D2} {b : Nat} (h : b ∈ x.rs.map D1.b) : b ∈ x.bl := by
  obtain ⟨y, hy, rfl⟩ := List.mem_map.1 h
  exact D2.mem_sub hy
theorem D2.apart {x : D2} (h : x.bl.Nodup) {i j : Nat} {y z : D1} (hy : x.rs[i]? = some y) (hz : x.rs[j]? = some z) (hij : i ≠ j) : y.b ≠ z.b := by
  have hp : List.Pairwise (· ≠ ·) ((x.rs ++ x.s).map D1.b) := (List.nodup_cons.1 h).2
  rw [List.pairwise_iff_getElem] at hp
  have hi := Pl.lt_of_some hy
  have hj := Pl.lt_of_some hz
  have hil : i < ((x.rs ++ x.s).map D1.b).length := by rw [List.length_map, List.length_append]; omega
  have hjl : j < ((x.rs ++ x.s).map D1.b).length := by rw [List.length_map, List.length_append]; omega
  have ey : ((x.rs ++ x.s).map D1.b)[i] = y.b := by
    have : ((x.rs ++ x.s).map D1.b)[i]? = some y.b := by rw [List.getElem?_map, List.getElem?_append_left hi, hy]; rfl
    rw [List.getElem?_eq_getElem hil] at this; exact Option.some.inj this
  have ez : ((x.rs ++ x.s).map D1.b)[j] = z.b := by
    have : ((x.rs ++ x.s).map D1.b)[j]? = some z.b := by rw [List.getElem?_map, List.getElem?_append_left hj, hz]; rfl
    rw [List.getElem?_eq_getElem hjl] at this; exact Option.some.inj this
  rcases Nat.lt_or_gt_of_ne hij with hl | hl
  · have := hp i j hil hjl hl; rw [ey, ez] at this; exact this
  · have := hp j i hjl hil hl; rw [ey, ez] at this; exact fun e => this e.symm

theorem off_le {ps : List D2} (h : ∀ x ∈ ps, x.rs.length ≤ 1048576) (p : Nat) : off (ps.take p) ≤ p * 1048577 := by
  unfold off
  refine Nat.le_trans (Pl.sum_le_mul (b := 1048577) ?_) ?_
  · intro n hn
    obtain ⟨x, hx, rfl⟩ := List.mem_map.1 hn
    have := h x (List.mem_of_mem_take hx)
    omega
  · rw [List.length_map, List.length_take]; exact Nat.mul_le_mul_right _ (Nat.min_le_left _ _)
theorem off_succ {ps : List D2} {p : Nat} {x : D2} (h : ps[p]? = some x) : off (ps.take (p + 1)) = off (ps.take p) + (x.rs.length + 1) := by
  unfold off; rw [Pl.take_one h]; simp

/-! ### The steps -/
theorem RL.step {w wq wz : World} {x : D2} {Wb : Nat} {ps l out : Value} {kk : Int} {q : Nat} (h : RL w wq x Wb ps l out kk q) (hnd : x.bl.Nodup) (hWx : Wb ∉ x.bl) {y : D1} (hy : x.rs[q]? = some y)
    (hfr : Fr (fun b => b = y.b) wq wz) (hrow : PRow wz y.b (spt y.r y.s y.r.length (kk + q))) : RL w (wz.setCell ⟨Wb, 3, none⟩ (.int .i64 (kk + q + 1))) x Wb ps l out kk (q + 1) := by
  have hym : y ∈ x.rs := Pl.mem_of_some hy
  have hyW : Wb ≠ y.b := fun e => hWx (e ▸ D2.mem_sub hym)
  refine ⟨?_, ?_, ?_, ?_⟩
  · refine (h.fr.trans (hfr.mono ?_)).setCell (.inr rfl) _
    rintro b _ rfl
    exact .inl (List.mem_map_of_mem hym)
  · have := WR.mark (VRow.of_block h.wrow (hfr.block Wb (VRow.lt h.wrow) hyW)) (kk + q + 1)
    rw [show kk + ((q + 1 : Nat) : Int) = kk + q + 1 by omega]
    exact this
  · intro i z hi hz
    have hzW : z.b ≠ Wb := fun e => hWx (e ▸ D2.mem_sub (Pl.mem_of_some hz))
    refine VRow.setOther ?_ hzW _
    rcases Nat.lt_or_ge i q with hlt | hge
    · exact hfr.row (h.done i z hlt hz) (D2.apart hnd hz hy (by omega))
    · obtain rfl : i = q := by omega
      rw [hy] at hz; cases hz
      rw [spt_full] at hrow
      exact hrow
  · intro i z hi hz
    have hzW : z.b ≠ Wb := fun e => hWx (e ▸ D2.mem_sub (Pl.mem_of_some hz))
    exact VRow.setOther (hfr.ok1 (h.todo i z (by omega) hz) (D2.apart hnd hz hy (by omega))) hzW _

theorem HL.step {w wq : World} {x : D2} {mk : Int} {i : Nat} {cs : List Nat} (h : HL w wq x mk i cs) (hi : i < x.rs.length) :
    HL w ((wq.alloc (.cells #[.int .i64 77, .int .i64 mk] 32)).setCell ⟨x.b, i, none⟩ (.slice (some ⟨wq.heap.size, 0, none⟩) 1 1)) x mk (i + 1) (cs ++ [wq.heap.size]) := by
  have hlt := h.row.lt
  refine ⟨(h.fr.alloc _).setCell rfl _, ?_, by simp [h.len], ?_⟩
  · have := (h.row.alloc (.cells #[.int .i64 77, .int .i64 mk] 32)).set i (hd1 wq.heap.size)
    rw [List.set_append_right _ _ (by simp [h.len]), List.length_map, h.len, Nat.sub_self, List.drop_eq_getElem_cons hi, List.cons_append, List.map_cons, List.set_cons_zero] at this
    rw [List.map_append, List.append_assoc]
    exact this
  · intro c hc
    rcases List.mem_append.1 hc with hc | hc
    · obtain ⟨h1, h2⟩ := h.new c hc
      exact ⟨h1, VRow.setOther (VRow.alloc h2 _) (by
        show c ≠ x.b
        intro e
        have e1 : VRow wq x.b 32 (flat [(77, mk)]) := e ▸ h2
        have e2 := h.row
        unfold VRow at e1 e2
        rw [e1] at e2
        simp at e2) _⟩
    · simp at hc; subst hc
      have := h.fr.size
      exact ⟨by omega, VRow.setOther (b := wq.heap.size) (VRow.new wq (flat [(77, mk)]) _) (by show wq.heap.size ≠ x.b; omega) _⟩

theorem FL.step {w wq : World} {d : D3} {mk : Int} {i : Nat} {es : List (Nat × Nat)} (h : FL w wq d mk i es) (hi : i < d.ps.length) (hdw : d.b < w.heap.size) :
    FL w (((wq.alloc (.cells #[.int .i64 777, .int .i64 mk] 32)).alloc (.cells #[.slice (some ⟨wq.heap.size, 0, none⟩) 1 1] 30)).setCell ⟨d.b, i, none⟩ (.slice (some ⟨wq.heap.size + 1, 0, none⟩) 1 1)) d mk (i + 1) (es ++ [(wq.heap.size + 1, wq.heap.size)]) := by
  have hlt := h.row.lt
  have hs1 : (wq.alloc (.cells #[.int .i64 777, .int .i64 mk] 32)).heap.size = wq.heap.size + 1 := by simp
  refine ⟨((h.fr.alloc _).alloc _).setCell rfl _, ?_, by simp [h.len], ?_⟩
  · have := ((h.row.alloc (.cells #[.int .i64 777, .int .i64 mk] 32)).alloc (.cells #[.slice (some ⟨wq.heap.size, 0, none⟩) 1 1] 30)).set i (hd1 (wq.heap.size + 1))
    rw [List.set_append_right _ _ (by simp [h.len]), List.length_map, h.len, Nat.sub_self, List.drop_eq_getElem_cons hi, List.cons_append, List.map_cons, List.set_cons_zero] at this
    rw [List.map_append, List.append_assoc]
    exact this
  · intro e he
    rcases List.mem_append.1 he with he | he
    · obtain ⟨h1, h2, h3, h4⟩ := h.new e he
      exact ⟨h1, h2, VRow.setOther ((VRow.alloc h3 _).alloc _) (by show e.1 ≠ d.b; omega) _, VRow.setOther (VRow.alloc (VRow.alloc h4 _) _) (by show e.2 ≠ d.b; omega) _⟩
    · simp at he; subst he
      have := h.fr.size
      refine ⟨by simp only; omega, by simp only; omega, ?_, ?_⟩
      · refine VRow.setOther (b := wq.heap.size + 1) ?_ (by show wq.heap.size + 1 ≠ d.b; omega) _
        have := VRow.new (wq.alloc (.cells #[.int .i64 777, .int .i64 mk] 32)) [hd1 wq.heap.size] 30
        rw [hs1] at this
        exact this
      · exact VRow.setOther (b := wq.heap.size) (VRow.alloc (VRow.new wq (flat [(777, mk)]) 32) _) (by show wq.heap.size ≠ d.b; omega) _

theorem PD.keep {w wr wz : World} {x : D2} {kk : Int} {S : Nat → Prop} (h : PD w wr x kk) (k : Fr S wr wz) (hF : ∀ b, b ∈ x.bl ∨ w.heap.size ≤ b → ¬ S b) : PD w wz x kk :=
  ⟨fun i y hy => (h.1 i y hy).keep k fun b _ hb => ⟨hb, hF b hb⟩, h.2.keep k fun b _ hb => ⟨hb, hF b hb⟩⟩

theorem SP.step {w wr w1 w2 : World} {d : D3} {Wb : Nat} {ps l out : Value} {k : Int} {p : Nat} (h : SP w wr d Wb ps l out k p) (hnd : d.bl.Nodup) (hWd : Wb ∉ d.bl) (hdw : ∀ b ∈ d.bl, b < w.heap.size) (hWw : Wb < w.heap.size) {x : D2} (hx : d.ps[p]? = some x)
    {cs : List Nat} (h1 : RL wr w1 x Wb ps l out (k + off (d.ps.take p)) x.rs.length) (h2 : HL w1 w2 x (k + off (d.ps.take p) + x.rs.length) x.rs.length cs) :
    SP w (w2.setCell ⟨Wb, 3, none⟩ (.int .i64 (k + off (d.ps.take p) + x.rs.length + 1))) d Wb ps l out k (p + 1) := by
  have hxm : x ∈ d.ps := Pl.mem_of_some hx
  have hxn := D3.sub_nodup hnd hxm
  have hxb : x.b ∈ x.bl := by simp [D2.bl]
  have hWx : Wb ∉ x.bl := fun e => hWd (D3.mem_sub hxm e)
  have hnx : ∀ b, b ∉ x.bl → b ≠ Wb → ¬ (b ∈ x.rs.map D1.b ∨ b = Wb) := fun b e1 e2 e3 => by
    rcases e3 with e3 | e3
    · exact e1 (D2.rs_bl e3)
    · exact e2 e3
  have hnx2 : ∀ b, b ∉ x.bl → ¬ (b = x.b) := fun b e1 e2 => e1 (e2 ▸ hxb)
  have f12 : Fr (fun b => b ∈ x.bl ∨ b = Wb) wr (w2.setCell ⟨Wb, 3, none⟩ (.int .i64 (k + off (d.ps.take p) + x.rs.length + 1))) := by
    refine ((h1.fr.mono ?_).trans (h2.fr.mono ?_)).setCell (.inr rfl) _
    · rintro b _ (e | e)
      · exact .inl (D2.rs_bl e)
      · exact .inr e
    · rintro b _ e
      exact .inl (by rw [e]; exact hxb)
  refine ⟨?_, ?_, ?_, ?_, ?_⟩
  · refine h.fr.trans (f12.mono ?_)
    rintro b _ (e | e)
    · exact .inl (D3.mem_sub hxm e)
    · exact .inr e
  · have := WR.mark (h2.fr.row h1.wrow (fun e => hWx (e ▸ hxb))) (k + off (d.ps.take p) + x.rs.length + 1)
    rw [off_succ hx, show k + ((off (d.ps.take p) + (x.rs.length + 1) : Nat) : Int) = k + off (d.ps.take p) + x.rs.length + 1 by omega]
    exact this
  · refine f12.row h.row ?_
    rintro (e | e)
    · exact D3.ne_sub hnd hxm e
    · exact hWd (by rw [← e]; simp [D3.bl])
  · intro j z hj hz
    refine f12.ok2 (h.todo j z (by omega) hz) ?_
    rintro b hb (e | e)
    · exact D3.apart hnd hz hx (by omega) hb e
    · exact hWd (e ▸ D3.mem_sub (Pl.mem_of_some hz) hb)
  · intro j z hj hz
    rcases Nat.lt_or_ge j p with hlt | hge
    · refine (h.done j z hlt hz).keep f12 ?_
      rintro b (hb | hb) (e | e)
      · exact D3.apart hnd hz hx (by omega) hb e
      · exact hWd (e ▸ D3.mem_sub (Pl.mem_of_some hz) hb)
      · have := hdw b (D3.mem_sub hxm e); omega
      · omega
    · obtain rfl : j = p := by omega
      rw [hx] at hz; cases hz
      have hsz : w.heap.size ≤ w1.heap.size := Nat.le_trans h.fr.size h1.fr.size
      refine ⟨fun i y hy => ?_, ?_⟩
      · have hym := Pl.mem_of_some hy
        have hyr : PRow (w2.setCell ⟨Wb, 3, none⟩ (.int .i64 (k + off (d.ps.take j) + x.rs.length + 1))) y.b (List.replicate y.r.length (-77, k + off (d.ps.take j) + i) ++ y.s) :=
          VRow.setOther (h2.fr.row (h1.done i y (Pl.lt_of_some hy) hy) (Ne.symm (D2.ne_sub hxn hym))) (show y.b ≠ Wb from fun e => hWx (e ▸ D2.mem_sub hym)) _
        refine ⟨_, _, by rw [List.length_replicate]; rfl, fun a pt hpt => ⟨y.b, .inl (D2.mem_sub hym), rfl, ?_⟩⟩
        exact hyr.cells (by rw [List.getElem?_append_left (Pl.lt_of_some hpt)]; exact hpt)
      · refine ⟨_, _, by rw [List.length_replicate]; rfl, fun a r hr => ?_⟩
        have ha : a < x.rs.length := by have := Pl.lt_of_some hr; rwa [List.length_replicate] at this
        have hr' : r = [(77, k + off (d.ps.take j) + x.rs.length)] := by rw [rep_at ha] at hr; exact (Option.some.inj hr).symm
        subst hr'
        obtain ⟨c, hc⟩ := Pl.some_of_lt (l := cs) (k := a) (by rw [h2.len]; exact ha)
        obtain ⟨g1, g2⟩ := h2.new c (Pl.mem_of_some hc)
        have hxr := VRow.setOther h2.row (a := ⟨Wb, 3, none⟩) (show x.b ≠ Wb from fun e => hWx (e ▸ hxb)) (.int .i64 (k + off (d.ps.take j) + x.rs.length + 1))
        have hcr : PRow (w2.setCell ⟨Wb, 3, none⟩ (.int .i64 (k + off (d.ps.take j) + x.rs.length + 1))) c [(77, k + off (d.ps.take j) + x.rs.length)] := VRow.setOther g2 (by show c ≠ Wb; omega) _
        refine ⟨x.b, hd1 c, .inl hxb, rfl, hxr.cell (by rw [List.getElem?_append_left (by rw [List.length_map]; exact Pl.lt_of_some hc), List.getElem?_map, hc]; rfl), _, _, rfl, fun b pt hpt => ⟨c, .inr (by omega), rfl, ?_⟩⟩
        exact hcr.cells hpt

/-- What spoil leaves. -/
structure SpoilPost (w w' : World) (d : D3) (Wb : Nat) (ps l out : Value) (k : Int) : Prop where
  fr : Fr (fun b => b ∈ d.bl ∨ b = Wb) w w'
  wrow : WR w' Wb ps l out (k + off d.ps + 1)
  polys : ∀ j x, d.ps[j]? = some x → PD w w' x (k + off (d.ps.take j))
  set : RF3 (fun b => b ∈ d.bl ∨ w.heap.size ≤ b) w' d.v (List.replicate d.ps.length [[(777, k + off d.ps)]])

theorem SP.last {w wr w1 : World} {d : D3} {Wb : Nat} {ps l out : Value} {k : Int} (h : SP w wr d Wb ps l out k d.ps.length) (hnd : d.bl.Nodup) (hWd : Wb ∉ d.bl) (hdw : ∀ b ∈ d.bl, b < w.heap.size) (hWw : Wb < w.heap.size)
    {es : List (Nat × Nat)} (h2 : FL wr w1 d (k + off d.ps) d.ps.length es) : SpoilPost w (w1.setCell ⟨Wb, 3, none⟩ (.int .i64 (k + off d.ps + 1))) d Wb ps l out k := by
  have hdb : d.b ∈ d.bl := by simp [D3.bl]
  have hdW : d.b ≠ Wb := fun e => hWd (e ▸ hdb)
  have f : Fr (fun b => b = d.b ∨ b = Wb) wr (w1.setCell ⟨Wb, 3, none⟩ (.int .i64 (k + off d.ps + 1))) := (h2.fr.mono fun b _ e => .inl e).setCell (.inr rfl) _
  have hsz := h.fr.size
  refine ⟨h.fr.trans (f.mono ?_), ?_, ?_, ?_⟩
  · rintro b _ (e | e)
    · exact .inl (e ▸ hdb)
    · exact .inr e
  · have hw := h.wrow
    rw [List.take_length] at hw
    exact WR.mark (h2.fr.row hw (Ne.symm hdW)) (k + off d.ps + 1)
  · intro j x hx
    refine (h.done j x (Pl.lt_of_some hx) hx).keep f ?_
    rintro b (hb | hb) (e | e)
    · exact D3.ne_sub hnd (Pl.mem_of_some hx) (e ▸ hb)
    · exact hWd (e ▸ D3.mem_sub (Pl.mem_of_some hx) hb)
    · have := hdw b (e ▸ hdb); omega
    · omega
  · refine ⟨_, _, by rw [List.length_replicate]; rfl, fun a l2 hl2 => ?_⟩
    have ha : a < d.ps.length := by have := Pl.lt_of_some hl2; rwa [List.length_replicate] at this
    have hl2' : l2 = [[(777, k + off d.ps)]] := by rw [rep_at ha] at hl2; exact (Option.some.inj hl2).symm
    subst hl2'
    obtain ⟨⟨c, e⟩, hc⟩ := Pl.some_of_lt (l := es) (k := a) (by rw [h2.len]; exact ha)
    obtain ⟨g1, g2, g3, g4⟩ := h2.new (c, e) (Pl.mem_of_some hc)
    dsimp only at g1 g2 g3 g4
    have hdr := VRow.setOther h2.row (a := ⟨Wb, 3, none⟩) hdW (.int .i64 (k + off d.ps + 1))
    have hcr := VRow.setOther g3 (a := ⟨Wb, 3, none⟩) (show c ≠ Wb by omega) (.int .i64 (k + off d.ps + 1))
    have her : PRow (w1.setCell ⟨Wb, 3, none⟩ (.int .i64 (k + off d.ps + 1))) e [(777, k + off d.ps)] := VRow.setOther g4 (show e ≠ Wb by omega) _
    refine ⟨d.b, hd1 c, .inl hdb, rfl, hdr.cell (by rw [List.getElem?_append_left (by rw [List.length_map]; exact Pl.lt_of_some hc), List.getElem?_map, hc]; rfl), _, _, rfl, fun b r hr => ?_⟩
    have hb0 : b = 0 := by have := Pl.lt_of_some hr; simp at this; exact this
    subst hb0
    cases hr
    exact ⟨c, hd1 e, .inr (by omega), rfl, hcr.cell rfl, _, _, rfl, fun b2 pt hpt => ⟨e, .inr (by omega), rfl, her.cells hpt⟩⟩

end Go.Proofs.YtcclepohmhdpbaaGreatDoor

/- THE WALKS: (*World).noted. -/
namespace Go.Proofs.YtcclepohmhdpbaaGreatDoor
set_option linter.all false
open Go.RowKit Go.Deep

def rvm : List D1 → Int → List (Value × Int)
  | [], _ => []
  | y :: t, k => (y.v, k) :: rvm t (k + 1)
def ringVM : List D2 → Int → List (Value × Int)
  | [], _ => []
  | x :: t, k => rvm x.rs k ++ ringVM t (k + x.rs.length + 1)
def polyVM : List D2 → Int → List (Value × Int)
  | [], _ => []
  | x :: t, k => (x.v, k + x.rs.length) :: polyVM t (k + x.rs.length + 1)

theorem rvm_snoc (a : List D1) (y : D1) : ∀ k : Int, rvm (a ++ [y]) k = rvm a k ++ [(y.v, k + a.length)] := by
  induction a with
  | nil => intro k; simp [rvm]
  | cons z t ih =>
    intro k
    show (z.v, k) :: rvm (t ++ [y]) (k + 1) = (z.v, k) :: (rvm t (k + 1) ++ _)
    rw [ih, List.length_cons, show k + 1 + (t.length : Int) = k + ((t.length + 1 : Nat) : Int) by omega]
theorem rvm_length (a : List D1) : ∀ k : Int, (rvm a k).length = a.length := by
  induction a with
  | nil => intro k; rfl
  | cons z t ih => intro k; simp [rvm, ih]
theorem rvm_mem (a : List D1) : ∀ (k : Int) (e : Value × Int), e ∈ rvm a k → ∃ (i : Nat) (y : D1), a[i]? = some y ∧ e = (y.v, k + i) := by
  induction a with
  | nil => intro k e h; cases h
  | cons z t ih =>
    intro k e h
    rcases List.mem_cons.1 h with rfl | h
    · exact ⟨0, z, rfl, by simp⟩
    · obtain ⟨i, y, hy, he⟩ := ih (k + 1) e h
      exact ⟨i + 1, y, by simpa using hy, by rw [he]; congr 1; omega⟩
theorem off_cons (x : D2) (t : List D2) : off (x :: t) = x.rs.length + 1 + off t := rfl
theorem ringVM_snoc (a : List D2) (x : D2) : ∀ k : Int, ringVM (a ++ [x]) k = ringVM a k ++ rvm x.rs (k + off a) := by
  induction a with
  | nil => intro k; simp [ringVM, off]
  | cons z t ih =>
    intro k
    show rvm z.rs k ++ ringVM (t ++ [x]) (k + z.rs.length + 1) = (rvm z.rs k ++ ringVM t (k + z.rs.length + 1)) ++ _
    rw [ih, off_cons, List.append_assoc, show k + (z.rs.length : Int) + 1 + (off t : Int) = k + ((z.rs.length + 1 + off t : Nat) : Int) by omega]
theorem polyVM_snoc (a : List D2) (x : D2) : ∀ k : Int, polyVM (a ++ [x]) k = polyVM a k ++ [(x.v, k + off a + x.rs.length)] := by
  induction a with
  | nil => intro k; simp [polyVM, off]
  | cons z t ih =>
    intro k
    show (z.v, k + z.rs.length) :: polyVM (t ++ [x]) (k + z.rs.length + 1) = (z.v, k + z.rs.length) :: (polyVM t (k + z.rs.length + 1) ++ _)
    rw [ih, off_cons, show k + (z.rs.length : Int) + 1 + (off t : Int) + (x.rs.length : Int) = k + ((z.rs.length + 1 + off t : Nat) : Int) + x.rs.length by omega]
theorem ringVM_mem (a : List D2) : ∀ (k : Int) (e : Value × Int), e ∈ ringVM a k → ∃ (j : Nat) (x : D2) (i : Nat) (y : D1), a[j]? = some x ∧ x.rs[i]? = some y ∧ e = (y.v, k + off (a.take j) + i) := by
  induction a with
  | nil => intro k e h; cases h
  | cons z t ih =>
    intro k e h
    rcases List.mem_append.1 h with h | h
    · obtain ⟨i, y, hy, he⟩ := rvm_mem _ _ _ h
      exact ⟨0, z, i, y, rfl, hy, by rw [he]; simp [off]⟩
    · obtain ⟨j, x, i, y, hx, hy, he⟩ := ih _ e h
      exact ⟨j + 1, x, i, y, by simpa using hx, hy, by rw [he, List.take_succ_cons, off_cons]; congr 1; omega⟩
theorem polyVM_mem (a : List D2) : ∀ (k : Int) (e : Value × Int), e ∈ polyVM a k → ∃ (j : Nat) (x : D2), a[j]? = some x ∧ e = (x.v, k + off (a.take j) + x.rs.length) := by
  induction a with
  | nil => intro k e h; cases h
  | cons z t ih =>
    intro k e h
    rcases List.mem_cons.1 h with rfl | h
    · exact ⟨0, z, rfl, by simp [off]⟩
    · obtain ⟨j, x, hx, he⟩ := ih _ e h
      exact ⟨j + 1, x, by simpa using hx, by rw [he, List.take_succ_cons, off_cons]; congr 1; omega⟩
theorem polyVM_length (a : List D2) : ∀ k : Int, (polyVM a k).length = a.length := by
  induction a with
  | nil => intro k; rfl
  | cons z t ih => intro k; simp [polyVM, ih]
theorem ringVM_le {a : List D2} (h : ∀ x ∈ a, x.rs.length ≤ 1048576) (k : Int) : (ringVM a k).length ≤ a.length * 1048576 := by
  induction a generalizing k with
  | nil => simp [ringVM]
  | cons z t ih =>
    have h1 := h z (by simp)
    have h2 := ih (fun x hx => h x (by simp [hx])) (k + z.rs.length + 1)
    simp only [ringVM, List.length_append, rvm_length, List.length_cons]
    omega

theorem el_polys : Elem Tryz.prog 28 33 (.slice none 0 0) 1 24 := ⟨und_polys, info_rings, rfl, by omega, by omega⟩
theorem el_rings : Elem Tryz.prog 33 30 (.slice none 0 0) 1 24 := ⟨und_rings, info_pts, rfl, by omega, by omega⟩
theorem el_ints : Elem Tryz.prog 24 3 (.int .i64 0) 1 8 := ⟨by kernel_rfl, by kernel_rfl, rfl, by omega, by omega⟩

def zhanded : List Value := [.slice none 0 0, .slice none 0 0, .slice none 0 0, .slice none 0 0, .slice none 0 0, .int .i64 0]

/-- What noted has gathered. -/
structure NL (w wr : World) (hb : Nat) (dv pv rv rmv pmv : Value) (pc rc rmc pmc : List Value) (sm : Int) : Prop where
  up : Up w wr
  low : w.heap.size ≤ hb
  row : VRow wr hb 98 [dv, pv, rv, rmv, pmv, .int .i64 sm]
  opv : wr.ownsRow w.heap.size 33 1 pv pc.length pc
  orv : wr.ownsRow w.heap.size 30 1 rv rc.length rc
  orm : wr.ownsRow w.heap.size 3 1 rmv rmc.length rmc
  opm : wr.ownsRow w.heap.size 3 1 pmv pmc.length pmc
  apart : rmv.ownBlock = none ∨ rmv.ownBlock ≠ pmv.ownBlock
  apart' : pmv.ownBlock = none ∨ pmv.ownBlock ≠ rmv.ownBlock
  res : VRow wr w.heap.size 98 zhanded
  ne : w.heap.size ≠ hb

theorem NL.alloc {w wr : World} {hb : Nat} {dv pv rv rmv pmv : Value} {pc rc rmc pmc : List Value} {sm : Int} (h : NL w wr hb dv pv rv rmv pmv pc rc rmc pmc sm) (o : Obj) : NL w (wr.alloc o) hb dv pv rv rmv pmv pc rc rmc pmc sm :=
  ⟨h.up.alloc o, h.low, h.row.alloc o, h.opv.alloc o, h.orv.alloc o, h.orm.alloc o, h.opm.alloc o, h.apart, h.apart', h.res.alloc o, h.ne⟩

theorem up_grown {w a b : World} {row : Option Nat} (h : Up w a) (hg : a.grownBy b row) (hr : ∀ k, row = some k → w.heap.size ≤ k) : Up w b := Below.grown h hg h.size hr

theorem ne_some_of {o : Option Nat} {g : Nat} (h : o = none ∨ o ≠ some g) : o ≠ some g := by
  rcases h with rfl | h
  · exact fun e => by cases e
  · exact h

theorem NL.pv {w wr w1 : World} {hb : Nat} {dv pv rv rmv pmv : Value} {pc rc rmc pmc : List Value} {sm : Int} (h : NL w wr hb dv pv rv rmv pmv pc rc rmc pmc sm) {g cap : Nat} {u : Value}
    (hown : w1.ownsRow w.heap.size 33 1 (.slice (some ⟨g, 0, none⟩) (pc.length + 1) cap) (pc.length + 1) (pc ++ [u])) (hg : wr.grownBy w1 pv.ownBlock) :
    NL w (w1.setCell ⟨hb, 1, none⟩ (.slice (some ⟨g, 0, none⟩) (pc.length + 1) cap)) hb dv (.slice (some ⟨g, 0, none⟩) (pc.length + 1) cap) rv rmv pmv (pc ++ [u]) rc rmc pmc sm := by
  have r1 := h.row.grown hg (own_row_ne h.opv h.row (by decide))
  have o2 := h.orv.kept hg (own_apart h.orv h.opv (by decide))
  have o3 := h.orm.kept hg (own_apart h.orm h.opv (by decide))
  have o4 := h.opm.kept hg (own_apart h.opm h.opv (by decide))
  have r2 := h.res.grown hg (own_row_ne h.opv h.res (by decide))
  refine ⟨(up_grown h.up hg (fun k e => (own_lt h.opv e).1)).setCell h.low _, h.low, r1.set 1 _, ?_, ?_, ?_, ?_, h.apart, h.apart', r2.setOther h.ne _, h.ne⟩
  · rw [List.length_append]; exact own_set hown (own_row_ne hown r1 (by decide)) _
  · exact own_set o2 (own_row_ne o2 r1 (by decide)) _
  · exact own_set o3 (own_row_ne o3 r1 (by decide)) _
  · exact own_set o4 (own_row_ne o4 r1 (by decide)) _

theorem NL.rv {w wr w1 : World} {hb : Nat} {dv pv rv rmv pmv : Value} {pc rc rmc pmc : List Value} {sm : Int} (h : NL w wr hb dv pv rv rmv pmv pc rc rmc pmc sm) {g cap : Nat} {u : Value}
    (hown : w1.ownsRow w.heap.size 30 1 (.slice (some ⟨g, 0, none⟩) (rc.length + 1) cap) (rc.length + 1) (rc ++ [u])) (hg : wr.grownBy w1 rv.ownBlock) :
    NL w (w1.setCell ⟨hb, 2, none⟩ (.slice (some ⟨g, 0, none⟩) (rc.length + 1) cap)) hb dv pv (.slice (some ⟨g, 0, none⟩) (rc.length + 1) cap) rmv pmv pc (rc ++ [u]) rmc pmc sm := by
  have r1 := h.row.grown hg (own_row_ne h.orv h.row (by decide))
  have o2 := h.opv.kept hg (own_apart h.opv h.orv (by decide))
  have o3 := h.orm.kept hg (own_apart h.orm h.orv (by decide))
  have o4 := h.opm.kept hg (own_apart h.opm h.orv (by decide))
  have r2 := h.res.grown hg (own_row_ne h.orv h.res (by decide))
  refine ⟨(up_grown h.up hg (fun k e => (own_lt h.orv e).1)).setCell h.low _, h.low, r1.set 2 _, ?_, ?_, ?_, ?_, h.apart, h.apart', r2.setOther h.ne _, h.ne⟩
  · exact own_set o2 (own_row_ne o2 r1 (by decide)) _
  · rw [List.length_append]; exact own_set hown (own_row_ne hown r1 (by decide)) _
  · exact own_set o3 (own_row_ne o3 r1 (by decide)) _
  · exact own_set o4 (own_row_ne o4 r1 (by decide)) _

theorem NL.rm {w wr w1 : World} {hb : Nat} {dv pv rv rmv pmv : Value} {pc rc rmc pmc : List Value} {sm : Int} (h : NL w wr hb dv pv rv rmv pmv pc rc rmc pmc sm) {g cap : Nat} {u : Value}
    (hown : w1.ownsRow w.heap.size 3 1 (.slice (some ⟨g, 0, none⟩) (rmc.length + 1) cap) (rmc.length + 1) (rmc ++ [u])) (hg : wr.grownBy w1 rmv.ownBlock) (hat : rmv.ownBlock = some g ∨ g = wr.heap.size) :
    NL w (w1.setCell ⟨hb, 3, none⟩ (.slice (some ⟨g, 0, none⟩) (rmc.length + 1) cap)) hb dv pv rv (.slice (some ⟨g, 0, none⟩) (rmc.length + 1) cap) pmv pc rc (rmc ++ [u]) pmc sm := by
  have r1 := h.row.grown hg (own_row_ne h.orm h.row (by decide))
  have o2 := h.opv.kept hg (own_apart h.opv h.orm (by decide))
  have o3 := h.orv.kept hg (own_apart h.orv h.orm (by decide))
  have o4 := h.opm.kept hg h.apart'
  have hne : pmv.ownBlock ≠ some g := by
    intro e
    rcases hat with e2 | e2
    · rcases h.apart' with e3 | e3
      · rw [e3] at e; cases e
      · exact e3 (by rw [e, e2])
    · have := (own_lt h.opm e).2; omega
  have r2 := h.res.grown hg (own_row_ne h.orm h.res (by decide))
  refine ⟨(up_grown h.up hg (fun k e => (own_lt h.orm e).1)).setCell h.low _, h.low, r1.set 3 _, ?_, ?_, ?_, ?_, .inr (fun e => hne e.symm), .inr hne, r2.setOther h.ne _, h.ne⟩
  · exact own_set o2 (own_row_ne o2 r1 (by decide)) _
  · exact own_set o3 (own_row_ne o3 r1 (by decide)) _
  · rw [List.length_append]; exact own_set hown (own_row_ne hown r1 (by decide)) _
  · exact own_set o4 (own_row_ne o4 r1 (by decide)) _

theorem NL.pm {w wr w1 : World} {hb : Nat} {dv pv rv rmv pmv : Value} {pc rc rmc pmc : List Value} {sm : Int} (h : NL w wr hb dv pv rv rmv pmv pc rc rmc pmc sm) {g cap : Nat} {u : Value}
    (hown : w1.ownsRow w.heap.size 3 1 (.slice (some ⟨g, 0, none⟩) (pmc.length + 1) cap) (pmc.length + 1) (pmc ++ [u])) (hg : wr.grownBy w1 pmv.ownBlock) (hat : pmv.ownBlock = some g ∨ g = wr.heap.size) :
    NL w (w1.setCell ⟨hb, 4, none⟩ (.slice (some ⟨g, 0, none⟩) (pmc.length + 1) cap)) hb dv pv rv rmv (.slice (some ⟨g, 0, none⟩) (pmc.length + 1) cap) pc rc rmc (pmc ++ [u]) sm := by
  have r1 := h.row.grown hg (own_row_ne h.opm h.row (by decide))
  have o2 := h.opv.kept hg (own_apart h.opv h.opm (by decide))
  have o3 := h.orv.kept hg (own_apart h.orv h.opm (by decide))
  have o4 := h.orm.kept hg h.apart
  have hne : rmv.ownBlock ≠ some g := by
    intro e
    rcases hat with e2 | e2
    · rcases h.apart with e3 | e3
      · rw [e3] at e; cases e
      · exact e3 (by rw [e, e2])
    · have := (own_lt h.orm e).2; omega
  have r2 := h.res.grown hg (own_row_ne h.opm h.res (by decide))
  refine ⟨(up_grown h.up hg (fun k e => (own_lt h.opm e).1)).setCell h.low _, h.low, r1.set 4 _, ?_, ?_, ?_, ?_, .inr hne, .inr (fun e => hne e.symm), r2.setOther h.ne _, h.ne⟩
  · exact own_set o2 (own_row_ne o2 r1 (by decide)) _
  · exact own_set o3 (own_row_ne o3 r1 (by decide)) _
  · exact own_set o4 (own_row_ne o4 r1 (by decide)) _
  · rw [List.length_append]; exact own_set hown (own_row_ne hown r1 (by decide)) _

theorem NL.sm {w wr : World} {hb : Nat} {dv pv rv rmv pmv : Value} {pc rc rmc pmc : List Value} {sm : Int} (h : NL w wr hb dv pv rv rmv pmv pc rc rmc pmc sm) (n : Int) :
    NL w (wr.setCell ⟨hb, 5, none⟩ (.int .i64 n)) hb dv pv rv rmv pmv pc rc rmc pmc n :=
  ⟨h.up.setCell h.low _, h.low, h.row.set 5 _, own_set h.opv (own_row_ne h.opv h.row (by decide)) _, own_set h.orv (own_row_ne h.orv h.row (by decide)) _, own_set h.orm (own_row_ne h.orm h.row (by decide)) _, own_set h.opm (own_row_ne h.opm h.row (by decide)) _, h.apart, h.apart', h.res.setOther h.ne _, h.ne⟩

def intV (l : List (Value × Int)) : List Value := l.map fun e => .int .i64 e.2
def fstV (l : List (Value × Int)) : List Value := l.map fun e => e.1

theorem fstV_snoc (l : List (Value × Int)) (e : Value × Int) : fstV (l ++ [e]) = fstV l ++ [e.1] := by simp [fstV]
theorem intV_snoc (l : List (Value × Int)) (e : Value × Int) : intV (l ++ [e]) = intV l ++ [.int .i64 e.2] := by simp [intV]
theorem fstV_length (l : List (Value × Int)) : (fstV l).length = l.length := by simp [fstV]
theorem intV_length (l : List (Value × Int)) : (intV l).length = l.length := by simp [intV]

/-- Up to p polygons, and of the next up to q rings. -/
structure NQ (w wr : World) (d : D3) (k : Int) (p : Nat) (pv rv rmv pmv : Value) : Prop where
  nl : NL w wr (w.heap.size + 1) d.v pv rv rmv pmv (fstV (polyVM (d.ps.take p) k)) (fstV (ringVM (d.ps.take p) k)) (intV (ringVM (d.ps.take p) k)) (intV (polyVM (d.ps.take p) k)) 0

theorem ringVM_length (a : List D2) : ∀ k : Int, (ringVM a k).length = (a.map fun x => x.rs.length).sum := by
  induction a with
  | nil => intro k; rfl
  | cons z t ih => intro k; simp [ringVM, rvm_length, ih]
theorem ringVM_nR (d : D3) (p : Nat) (k : Int) : (ringVM (d.ps.take p) k).length ≤ Pl.nR d.m := by
  rw [ringVM_length]
  have e : Pl.nR d.m = (d.ps.map fun x => x.rs.length).sum := by
    unfold Pl.nR D3.m
    rw [List.map_map]
    congr 1
    apply List.map_congr_left
    intro x _
    simp [D2.pts]
  rw [e, List.map_take]
  exact Pl.sum_take_le _ _

theorem own_shape {w : World} {base : Nat} {e : TypeId} {size : Nat} {v : Value} {n : Nat} {xs : List Value} (h : w.ownsRow base e size v n xs) : ∃ a n k, v = .slice a n k := by
  rcases h.2 with ⟨rfl, _⟩ | ⟨g, cap, cur, rfl, _⟩
  · exact ⟨_, _, _, rfl⟩
  · exact ⟨_, _, _, rfl⟩

/-- What noted hands back: lists of its own. -/
structure NPost (w w' : World) (pv rv rmv pmv : Value) (P R : List (Value × Int)) : Prop where
  up : Up w w'
  opv : w'.ownsRow w.heap.size 33 1 pv P.length (fstV P)
  orv : w'.ownsRow w.heap.size 30 1 rv R.length (fstV R)
  orm : w'.ownsRow w.heap.size 3 1 rmv R.length (intV R)
  opm : w'.ownsRow w.heap.size 3 1 pmv P.length (intV P)

theorem NL.post {w wr w' : World} {hb : Nat} {dv pv rv rmv pmv : Value} {P R : List (Value × Int)} {sm : Int} (h : NL w wr hb dv pv rv rmv pmv (fstV P) (fstV R) (intV R) (intV P) sm) (k : Fr (fun b => b = w.heap.size) wr w') : NPost w w' pv rv rmv pmv P R := by
  have o1 := own_fr h.opv k (fun g e e2 => own_row_ne h.opv h.res (by decide) (e2 ▸ e))
  have o2 := own_fr h.orv k (fun g e e2 => own_row_ne h.orv h.res (by decide) (e2 ▸ e))
  have o3 := own_fr h.orm k (fun g e e2 => own_row_ne h.orm h.res (by decide) (e2 ▸ e))
  have o4 := own_fr h.opm k (fun g e e2 => own_row_ne h.opm h.res (by decide) (e2 ▸ e))
  rw [fstV_length] at o1 o2
  rw [intV_length] at o3 o4
  refine ⟨⟨k.os.trans h.up.os, k.tape.trans h.up.tape, k.output.trans h.up.output, Nat.le_trans h.up.size k.size, fun b hb2 => ?_⟩, o1, o2, o3, o4⟩
  exact (k.block b (Nat.lt_of_lt_of_le hb2 h.up.size) (by omega)).trans (h.up.block b hb2)

theorem NL.start (w : World) (d : D3) : NL w ((w.alloc (.cells zhanded.toArray 98)).alloc (.cells [d.v, .slice none 0 0, .slice none 0 0, .slice none 0 0, .slice none 0 0, .int .i64 0].toArray 98)) (w.heap.size + 1) d.v (.slice none 0 0) (.slice none 0 0) (.slice none 0 0) (.slice none 0 0) [] [] [] [] 0 := by
  have hs1 : (w.alloc (.cells zhanded.toArray 98)).heap.size = w.heap.size + 1 := by simp
  have h1 := VRow.new (w.alloc (.cells zhanded.toArray 98)) [d.v, .slice none 0 0, .slice none 0 0, .slice none 0 0, .slice none 0 0, .int .i64 0] 98
  rw [hs1] at h1
  exact ⟨((Up.refl _).alloc _).alloc _, by omega, h1, World.ownsRow_nil _ _ _ _, World.ownsRow_nil _ _ _ _, World.ownsRow_nil _ _ _ _, World.ownsRow_nil _ _ _ _, .inl rfl, .inl rfl, (VRow.new w zhanded _).alloc _, by omega⟩

end Go.Proofs.YtcclepohmhdpbaaGreatDoor
