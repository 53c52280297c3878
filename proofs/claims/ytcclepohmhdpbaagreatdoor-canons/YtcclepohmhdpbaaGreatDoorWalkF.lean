/- THE WALKS: polygonslaw.copied. -/
import Derived.Test.YtcclepohmhdpbaaGreatDoorWalkC
namespace Go.Proofs.YtcclepohmhdpbaaGreatDoor
set_option linter.all false
open Go.RowKit Go.Deep

theorem make_pts2 (n : Nat) (hn : n ≤ 1048576) (w : World) :
    (Instr.makeSlice 30 (.int .i64 ((n : Int) + 2)) (.int .i64 ((n : Int) + 2))).run Tryz.prog w = .ok (.slice (some ⟨w.heap.size, 0, none⟩) (n + 2) (n + 2)) (w.alloc (.cells (flat (zpts (n + 2))).toArray 32)) := by
  have h := make_pts (n + 2) (by omega) w
  rw [show ((n + 2 : Nat) : Int) = (n : Int) + 2 from by omega] at h
  exact h

def mk1 : Ring := [(91, -91), (92, -92)]

/-- Where a list of rings that is being filled stands after k of them: each with marks behind it; x places more. -/
structure CI (w wr : World) (B : Nat) (l : Poly) (k : Nat) (ds : List D1) : Prop where
  row : VRow wr B 30 (ds.map D1.v ++ znil (l.length + 1 - k))
  rs : ds.map D1.r = l.take k
  len : ds.length = k
  marks : ∀ d ∈ ds, d.s = mk1
  ok : ∀ d ∈ ds, OK1 wr d
  nodup : (B :: ds.map D1.b).Nodup
  low : ∀ b ∈ B :: ds.map D1.b, w.heap.size ≤ b
  up : Up w wr

theorem CI.start (w : World) (l : Poly) : CI w (w.alloc (.cells (znil (l.length + 1)).toArray 30)) w.heap.size l 0 [] :=
  ⟨by simpa using VRow.new w (znil (l.length + 1)) _, rfl, rfl, by simp, by simp, by simp, by simp, (Up.refl _).alloc _⟩

theorem CI.lt {w wr : World} {B : Nat} {l : Poly} {k : Nat} {ds : List D1} (h : CI w wr B l k ds) : ∀ x ∈ B :: ds.map D1.b, x < wr.heap.size := by
  intro x hx
  rcases List.mem_cons.1 hx with rfl | hx
  · exact h.row.lt
  · obtain ⟨d, hd, rfl⟩ := List.mem_map.1 hx
    exact VRow.lt (h.ok d hd)

theorem CI.step {w wr wn : World} {B : Nat} {l : Poly} {k : Nat} {ds : List D1} (h : CI w wr B l k ds) {r : Ring} (hr : l[k]? = some r) (hup : Up wr wn) (hrow : PRow wn wr.heap.size (r ++ mk1)) :
    CI w (wn.setCell ⟨B, k, none⟩ (.slice (some ⟨wr.heap.size, 0, none⟩) r.length (r.length + 2))) B l (k + 1) (ds ++ [⟨wr.heap.size, r, mk1⟩]) := by
  have hk := Pl.lt_of_some hr
  have hB : B < wr.heap.size := h.row.lt
  have hW : w.heap.size ≤ wr.heap.size := h.up.size
  have hBl := h.low B (by simp)
  refine ⟨?_, ?_, ?_, ?_, ?_, ?_, ?_, ?_⟩
  · have := (h.row.of_block (hup.block B hB)).set k (.slice (some ⟨wr.heap.size, 0, none⟩) r.length (r.length + 2))
    have e : l.length + 1 - k = (l.length + 1 - (k + 1)) + 1 := by omega
    rw [e] at this
    have e2 := set_at (ds.map D1.v) (.slice none 0 0) (.slice (some ⟨wr.heap.size, 0, none⟩) r.length (r.length + 2)) (l.length + 1 - (k + 1))
    rw [List.length_map, h.len] at e2
    rw [znil, e2] at this
    rw [List.map_append]
    exact this
  · rw [Pl.take_one hr, List.map_append, h.rs]; rfl
  · simp [h.len]
  · intro d hd
    rcases List.mem_append.1 hd with hd | hd
    · exact h.marks d hd
    · simp at hd; subst hd; rfl
  · intro d hd
    rcases List.mem_append.1 hd with hd | hd
    · have hne : d.b ≠ B := fun e => (List.nodup_cons.1 h.nodup).1 (by rw [← e]; exact List.mem_map_of_mem hd)
      exact VRow.setOther ((h.ok d hd).up hup) hne _
    · simp at hd; subst hd
      exact VRow.setOther (b := wr.heap.size) hrow (by show wr.heap.size ≠ B; omega) _
  · rw [List.map_append, ← List.cons_append, List.nodup_append]
    refine ⟨h.nodup, by simp, ?_⟩
    intro a ha b hb
    simp at hb; subst hb
    have := h.lt a ha; omega
  · intro b hb
    rw [List.map_append, ← List.cons_append] at hb
    rcases List.mem_append.1 hb with hb | hb
    · exact h.low b hb
    · simp at hb; omega
  · exact (h.up.trans hup).setCell hBl _

theorem marks_row {W : World} {g : Nat} {r : Ring} (h : PRow W g (r ++ [(0, 0), (0, 0)])) :
    PRow ((((W.setCell ⟨g, r.length * 2, none⟩ (.int .i64 91)).setCell ⟨g, r.length * 2 + 1, none⟩ (.int .i64 (-91))).setCell ⟨g, (r.length + 1) * 2, none⟩ (.int .i64 92)).setCell ⟨g, (r.length + 1) * 2 + 1, none⟩ (.int .i64 (-92))) g (r ++ mk1) := by
  have := (PRow.set h r.length (91, -91)).set (r.length + 1) (92, -92)
  rw [List.set_append_right _ _ (Nat.le_refl _), List.set_append_right _ _ (by omega)] at this
  rw [Nat.sub_self, show r.length + 1 - r.length = 1 by omega] at this
  exact this

/-- The mark of a polygon's spare room. -/
def D2.marked (d : D2) : Prop := (∃ b, d.s = [⟨b, [(93, -93)], []⟩]) ∧ ∀ x ∈ d.rs, x.s = mk1
def D3.marked (d : D3) : Prop := (∃ b c, d.s = [⟨b, [⟨c, [(94, -94)], []⟩], []⟩]) ∧ ∀ x ∈ d.ps, x.marked

theorem CI.last {w wr : World} {B : Nat} {l : Poly} {ds : List D1} (h : CI w wr B l l.length ds) :
    ∃ d : D2, d.v = .slice (some ⟨B, 0, none⟩) l.length (l.length + 1) ∧ d.marked ∧ d.pts = l ∧ OK2 ((wr.alloc (.cells (flat [(93, -93)]).toArray 32)).setCell ⟨B, l.length, none⟩ (.slice (some ⟨wr.heap.size, 0, none⟩) 1 1)) d ∧ d.bl.Nodup ∧ (∀ b ∈ d.bl, w.heap.size ≤ b)
      ∧ Up w ((wr.alloc (.cells (flat [(93, -93)]).toArray 32)).setCell ⟨B, l.length, none⟩ (.slice (some ⟨wr.heap.size, 0, none⟩) 1 1)) := by
  have hB : B < wr.heap.size := h.row.lt
  have hW : w.heap.size ≤ wr.heap.size := h.up.size
  have hBl := h.low B (by simp)
  refine ⟨⟨B, ds, [⟨wr.heap.size, [(93, -93)], []⟩]⟩, by simp [D2.v, h.len], ⟨⟨_, rfl⟩, h.marks⟩, by have := h.rs; rwa [List.take_length] at this, ⟨?_, ?_⟩, ?_, ?_, (h.up.alloc _).setCell hBl _⟩
  · have := (h.row.alloc (.cells (flat [(93, -93)]).toArray 32)).set l.length (.slice (some ⟨wr.heap.size, 0, none⟩) 1 1)
    have e : l.length + 1 - l.length = 0 + 1 := by omega
    rw [e] at this
    have e2 := set_at (ds.map D1.v) (.slice none 0 0) (.slice (some ⟨wr.heap.size, 0, none⟩) 1 1) 0
    rw [List.length_map, h.len] at e2
    rw [znil, e2, List.replicate_zero, List.append_nil] at this
    rw [List.map_append]
    exact this
  · intro d hd
    rcases List.mem_append.1 hd with hd | hd
    · have hne : d.b ≠ B := fun e => (List.nodup_cons.1 h.nodup).1 (by rw [← e]; exact List.mem_map_of_mem hd)
      exact VRow.setOther (VRow.alloc (h.ok d hd) _) hne _
    · simp at hd; subst hd
      refine VRow.setOther (b := wr.heap.size) ?_ (by show wr.heap.size ≠ B; omega) _
      exact VRow.new wr (flat [(93, -93)]) _
  · simp only [D2.bl]
    rw [List.map_append, ← List.cons_append, List.nodup_append]
    refine ⟨h.nodup, by simp, ?_⟩
    intro a ha b hb
    simp at hb; subst hb
    have := h.lt a ha; omega
  · intro b hb
    simp only [D2.bl] at hb
    rw [List.map_append, ← List.cons_append] at hb
    rcases List.mem_append.1 hb with hb | hb
    · exact h.low b hb
    · simp at hb; omega

/-- Where copied stands after k polygons. -/
structure CO (w wr : World) (B : Nat) (m : Mult) (k : Nat) (ds : List D2) : Prop where
  row : VRow wr B 33 (ds.map D2.v ++ znil (m.length + 1 - k))
  rs : ds.map D2.pts = m.take k
  len : ds.length = k
  marks : ∀ d ∈ ds, d.marked
  ok : ∀ d ∈ ds, OK2 wr d
  nodup : (B :: ds.flatMap D2.bl).Nodup
  low : ∀ b ∈ B :: ds.flatMap D2.bl, w.heap.size ≤ b
  up : Up w wr

theorem CO.start (w : World) (m : Mult) : CO w (w.alloc (.cells (znil (m.length + 1)).toArray 33)) w.heap.size m 0 [] :=
  ⟨by simpa using VRow.new w (znil (m.length + 1)) _, rfl, rfl, by simp, by simp, by simp, by simp, (Up.refl _).alloc _⟩

theorem CO.lt {w wr : World} {B : Nat} {m : Mult} {k : Nat} {ds : List D2} (h : CO w wr B m k ds) : ∀ x ∈ B :: ds.flatMap D2.bl, x < wr.heap.size := by
  intro x hx
  rcases List.mem_cons.1 hx with rfl | hx
  · exact h.row.lt
  · obtain ⟨d, hd, hx⟩ := List.mem_flatMap.1 hx
    exact (h.ok d hd).lt x hx

theorem CO.step {w wr wn : World} {B : Nat} {m : Mult} {k : Nat} {ds : List D2} (h : CO w wr B m k ds) {l : Poly} (hl : m[k]? = some l) {d : D2} (hup : Up wr wn) (hd : OK2 wn d) (hpts : d.pts = l) (hmk : d.marked)
    (hnd : d.bl.Nodup) (hlow : ∀ b ∈ d.bl, wr.heap.size ≤ b) : CO w (wn.setCell ⟨B, k, none⟩ d.v) B m (k + 1) (ds ++ [d]) := by
  have hk := Pl.lt_of_some hl
  have hB : B < wr.heap.size := h.row.lt
  have hW : w.heap.size ≤ wr.heap.size := h.up.size
  have hBl := h.low B (by simp)
  have hlt := h.lt
  refine ⟨?_, ?_, ?_, ?_, ?_, ?_, ?_, ?_⟩
  · have := (h.row.of_block (hup.block B hB)).set k d.v
    have e : m.length + 1 - k = (m.length + 1 - (k + 1)) + 1 := by omega
    rw [e] at this
    have e2 := set_at (ds.map D2.v) (.slice none 0 0) d.v (m.length + 1 - (k + 1))
    rw [List.length_map, h.len] at e2
    rw [znil, e2] at this
    rw [List.map_append]
    exact this
  · rw [Pl.take_one hl, List.map_append, h.rs]; simp [hpts]
  · simp [h.len]
  · intro x hx
    rcases List.mem_append.1 hx with hx | hx
    · exact h.marks x hx
    · simp at hx; subst hx; exact hmk
  · intro x hx
    rcases List.mem_append.1 hx with hx | hx
    · refine ((h.ok x hx).up hup).of fun b hb => Below.heap_setCell _ _ _ _ ?_
      intro e
      subst e
      exact (List.nodup_cons.1 h.nodup).1 (List.mem_flatMap.2 ⟨x, hx, hb⟩)
    · simp at hx; subst hx
      refine hd.of fun b hb => Below.heap_setCell _ _ _ _ ?_
      have := hlow b hb
      show b ≠ B
      omega
  · rw [List.flatMap_append, ← List.cons_append, List.nodup_append]
    refine ⟨h.nodup, by simpa using hnd, ?_⟩
    intro a ha b hb
    have h1 := hlt a ha
    have h2 := hlow b (by simpa using hb)
    omega
  · intro b hb
    rw [List.flatMap_append, ← List.cons_append] at hb
    rcases List.mem_append.1 hb with hb | hb
    · exact h.low b hb
    · have := hlow b (by simpa using hb); omega
  · exact (h.up.trans hup).setCell hBl _

theorem CO.last {w wr : World} {B : Nat} {m : Mult} {ds : List D2} (h : CO w wr B m m.length ds) :
    ∃ d : D3, Ending.returned (.slice (some ⟨B, 0, none⟩) m.length (m.length + 1)) = .returned d.v ∧ OK3 (((wr.alloc (.cells #[.int .i64 94, .int .i64 (-94)] 32)).alloc (.cells #[.slice (some ⟨wr.heap.size, 0, none⟩) 1 1] 30)).setCell ⟨B, m.length, none⟩ (.slice (some ⟨wr.heap.size + 1, 0, none⟩) 1 1)) d
      ∧ d.m = m ∧ d.marked ∧ d.bl.Nodup ∧ (∀ b ∈ d.bl, w.heap.size ≤ b) ∧ Up w (((wr.alloc (.cells #[.int .i64 94, .int .i64 (-94)] 32)).alloc (.cells #[.slice (some ⟨wr.heap.size, 0, none⟩) 1 1] 30)).setCell ⟨B, m.length, none⟩ (.slice (some ⟨wr.heap.size + 1, 0, none⟩) 1 1)) := by
  have hB : B < wr.heap.size := h.row.lt
  have hW : w.heap.size ≤ wr.heap.size := h.up.size
  have hBl := h.low B (by simp)
  have hs1 : (wr.alloc (.cells #[.int .i64 94, .int .i64 (-94)] 32)).heap.size = wr.heap.size + 1 := by simp
  refine ⟨⟨B, ds, [⟨wr.heap.size + 1, [⟨wr.heap.size, [(94, -94)], []⟩], []⟩]⟩, by simp [D3.v, h.len], ⟨?_, ?_⟩, by have := h.rs; rwa [List.take_length] at this, ⟨⟨_, _, rfl⟩, h.marks⟩, ?_, ?_, ((h.up.alloc _).alloc _).setCell hBl _⟩
  · have := ((h.row.alloc (.cells #[.int .i64 94, .int .i64 (-94)] 32)).alloc (.cells #[.slice (some ⟨wr.heap.size, 0, none⟩) 1 1] 30)).set m.length (.slice (some ⟨wr.heap.size + 1, 0, none⟩) 1 1)
    have e : m.length + 1 - m.length = 0 + 1 := by omega
    rw [e] at this
    have e2 := set_at (ds.map D2.v) (.slice none 0 0) (.slice (some ⟨wr.heap.size + 1, 0, none⟩) 1 1) 0
    rw [List.length_map, h.len] at e2
    rw [znil, e2, List.replicate_zero, List.append_nil] at this
    rw [List.map_append]
    exact this
  · intro d hd
    rcases List.mem_append.1 hd with hd | hd
    · refine (((h.ok d hd).up ((Up.refl _).alloc _)).up ((Up.refl _).alloc _)).of fun b hb => Below.heap_setCell _ _ _ _ ?_
      intro e
      subst e
      exact (List.nodup_cons.1 h.nodup).1 (List.mem_flatMap.2 ⟨d, hd, hb⟩)
    · simp at hd; subst hd
      refine ⟨?_, ?_⟩
      · refine VRow.setOther (b := wr.heap.size + 1) ?_ (by show wr.heap.size + 1 ≠ B; omega) _
        have := VRow.new (wr.alloc (.cells #[.int .i64 94, .int .i64 (-94)] 32)) [.slice (some ⟨wr.heap.size, 0, none⟩) 1 1] 30
        rw [hs1] at this
        exact this
      · intro x hx
        simp at hx; subst hx
        refine VRow.setOther (b := wr.heap.size) (VRow.alloc (VRow.new wr (flat [(94, -94)]) 32) _) (by show wr.heap.size ≠ B; omega) _
  · simp only [D3.bl]
    rw [List.flatMap_append, ← List.cons_append, List.nodup_append]
    refine ⟨h.nodup, by simp [D2.bl], ?_⟩
    intro a ha b hb
    have := h.lt a ha
    simp [D2.bl] at hb
    omega
  · intro b hb
    simp only [D3.bl] at hb
    rw [List.flatMap_append, ← List.cons_append] at hb
    rcases List.mem_append.1 hb with hb | hb
    · exact h.low b hb
    · simp [D2.bl] at hb; omega

set_option maxRecDepth 100000 in
set_option maxHeartbeats 2000000 in
theorem copied_any (v : Value) (m : Mult) (w : World) (hv : Rd3 w v m) (hb : Pl.Bd m) :
    Calls Tryz.prog 26 #[v] w fun e w' => ∃ d : D3, e = .returned d.v ∧ OK3 w' d ∧ d.m = m ∧ d.marked ∧ d.bl.Nodup ∧ (∀ b ∈ d.bl, w.heap.size ≤ b) ∧ Up w w' := by
  obtain ⟨ao, cap, rfl, hm⟩ := hv
  have hlen := hb.len
  have hb' := hide hb
  have hmk := make_polys (m.length + 1) (by omega)
  simp only [Int.natCast_add, Int.natCast_one] at hmk
  have hst := hide (CO.start w m)
  clear hb
  go_enter Tryz.func26, Tryz.ntmps26
  go_wp2
  clear hmk
  go_loopw [4] (fun i wr => ∃ (k : Nat) (ds : List D2), k ≤ m.length ∧ i = .int .i64 k ∧ CO w wr w.heap.size m k ds) (fun i _ => m.length - (intOf i).toNat)
  case atStart => exact ⟨0, [], Nat.zero_le _, rfl, hst.out⟩
  case round =>
    obtain ⟨k, ds, hk, rfl, hco⟩ := hrel
    have hco' := hide hco
    by_cases hlt : k < m.length
    · obtain ⟨l, hl⟩ := Pl.some_of_lt hlt
      obtain ⟨b, u, rfl, hc, ao2, cap2, rfl, hr⟩ := hm k l hl
      have hc' := hco.up.cell hc
      have hcH := hide hc
      have hl' := hide hl
      have hm' := hide hm
      have hll := hb'.out.poly l (Pl.mem_of_some hl)
      have B2 := hide (hb'.out.ring l (Pl.mem_of_some hl))
      have hr' := hide hr
      have hmk := make_rings (l.length + 1) (by omega)
      simp only [Int.natCast_add, Int.natCast_one] at hmk
      have hst2 := hide (CI.start wr l)
      clear hl hm hc hco hr
      go_wp2
      clear hmk
      go_loopw [6] (fun j wq => ∃ (q : Nat) (es : List D1), q ≤ l.length ∧ j = .int .i64 q ∧ CI wr wq wr.heap.size l q es) (fun j _ => l.length - (intOf j).toNat)
      case atStart => exact ⟨0, [], Nat.zero_le _, rfl, hst2.out⟩
      case round =>
        obtain ⟨q, es, hq, rfl, hci⟩ := hrel
        have hci' := hide hci
        have ec := hci.up.cell hc'
        by_cases hlq : q < l.length
        · obtain ⟨r, hr1⟩ := Pl.some_of_lt hlq
          obtain ⟨b2, u2, rfl, hc2, ao3, cap3, rfl, hp⟩ := hr'.out q r hr1
          have hrl := B2.out r (Pl.mem_of_some hr1)
          have ec2 := (hco'.out.up.trans hci.up).cell hc2
          have hsrc : Hid (∀ o, ∀ i p, r[i]? = some p → ∃ b, ao3 = some ⟨b, 0, none⟩ ∧ (wr.alloc o).cell? ⟨b, i * 2, none⟩ = some (.int .i64 p.1) ∧ (wr.alloc o).cell? ⟨b, i * 2 + 1, none⟩ = some (.int .i64 p.2)) := by
            intro o i p hip
            obtain ⟨b, e, c1, c2⟩ := hp i p hip
            exact ⟨b, e, ((hco'.out.up.trans hci.up).alloc o).cell c1, ((hco'.out.up.trans hci.up).alloc o).cell c2⟩
          have hfit : Hid (r.length * 2 ≤ (flat (zpts (r.length + 2))).length) := by simp only [Hid, flat_length, zpts, List.length_replicate]; omega
          have hdrop : flat r ++ (flat (zpts (r.length + 2))).drop (r.length * 2) = flat (r ++ [(0, 0), (0, 0)]) := by
            rw [flat_append]
            congr 1
            rw [show zpts (r.length + 2) = zpts r.length ++ zpts 2 from List.replicate_append_replicate.symm, flat_append]
            rw [List.drop_append_of_le_length (by simp [flat_length, zpts]), List.drop_of_length_le (by simp [flat_length, zpts])]; rfl
          have hcopy := run_copy_pts (P := Tryz.prog) (wr.alloc (.cells (flat (zpts (r.length + 2))).toArray 32)) 30 30 3 32 wr.heap.size (r.length + 2) (r.length + 2) ao3 cap3 32 (flat (zpts (r.length + 2))) r und_pts size_pt (heap_alloc_new wr _) (by omega) (hsrc.out _) hfit.out
          rw [alloc_setRow, hdrop] at hcopy
          obtain ⟨W1, hW1⟩ : ∃ W1, W1 = wr.alloc (.cells (flat (r ++ [(0, 0), (0, 0)])).toArray 32) := ⟨_, rfl⟩
          rw [← hW1] at hcopy
          have hup1 : Up wr W1 := by rw [hW1]; exact (Up.refl _).alloc _
          have hrow1 : PRow W1 wr.heap.size (r ++ [(0, 0), (0, 0)]) := by rw [hW1]; exact VRow.new wr _ _
          have k1 := hrow1.cells (i := r.length) (p := (0, 0)) (by simp)
          have k2 := hrow1.cells (i := r.length + 1) (p := (0, 0)) (by simp)
          obtain ⟨k1, k1'⟩ := k1
          obtain ⟨k2, k2'⟩ := k2
          have kf := fun i => VRow.frozen hrow1 i
          have hbq : Hid (∀ x, x < wr.heap.size → x ≠ wr.heap.size) := fun x h => by omega
          have hfzB := (hci.row.of_block (hup1.block _ hci.row.lt)).frozen q
          have hceB := (hci.row.of_block (hup1.block _ hci.row.lt)).cell (i := q) (v := .slice none 0 0) (by
            rw [List.getElem?_append_right (by rw [List.length_map, hci.len]; omega), List.length_map, hci.len, Nat.sub_self]; exact rep_at (by omega))
          have hneB := Nat.ne_of_lt hci.row.lt
          have hup1' := hide hup1
          have hrow1' := hide hrow1
          clear hW1 hup1 hrow1
          have hr1' := hide hr1
          clear hdrop hr1 hp hc2 hci
          have hmk := make_pts2 r.length hrl
          have ea := fun o => ((Up.refl wr).alloc o).cell ec
          have ea2 := fun o => ((Up.refl wr).alloc o).cell ec2
          go_wp2
          go_roundw
          case rel =>
            have hs := marks_row hrow1'.out
            have hu4 : Up wr ((((W1.setCell ⟨wr.heap.size, r.length * 2, none⟩ (.int .i64 91)).setCell ⟨wr.heap.size, r.length * 2 + 1, none⟩ (.int .i64 (-91))).setCell ⟨wr.heap.size, (r.length + 1) * 2, none⟩ (.int .i64 92)).setCell ⟨wr.heap.size, (r.length + 1) * 2 + 1, none⟩ (.int .i64 (-92))) :=
              (((hup1'.out.setCell (Nat.le_refl _) _).setCell (Nat.le_refl _) _).setCell (Nat.le_refl _) _).setCell (Nat.le_refl _) _
            exact ⟨q + 1, _, by omega, by go_num, hci'.out.step hr1'.out hu4 hs⟩
          case measure => simp [intOf]; omega
        · have : q = l.length := by omega
          subst this
          obtain ⟨d, hdv, hdm, hdp, hdo, hdn, hdl, hdu⟩ := hci.last
          have hfzB := fun o => (hci.row.alloc o).frozen l.length
          have hceB := fun o => (hci.row.alloc o).cell (i := l.length) (v := .slice none 0 0) (by
            rw [List.getElem?_append_right (by rw [List.length_map, hci.len]; omega), List.length_map, hci.len, Nat.sub_self]; exact rep_at (by omega))
          have ea := fun o => ((Up.refl wr).alloc o).cell ec
          have hneb := ne_size hco'.out.up hcH.out
          dsimp only at hneb
          have hneB := Nat.ne_of_lt hco'.out.row.lt
          have hrowB := hco'.out.row.of_block (hci.up.block _ hco'.out.row.lt)
          have hfzC := fun o => (hrowB.alloc o).frozen k
          have hceC := fun o => (hrowB.alloc o).cell (i := k) (v := .slice none 0 0) (by
            rw [List.getElem?_append_right (by rw [List.length_map, hco'.out.len]; omega), List.length_map, hco'.out.len, Nat.sub_self]; exact rep_at (by omega))
          have hdv' := hide hdv
          have hdm' := hide hdm
          have hdp' := hide hdp
          have hdo' := hide hdo
          have hdn' := hide hdn
          have hdl' := hide hdl
          have hdu' := hide hdu
          clear hci hrowB hdv hdm hdp hdo hdn hdl hdu
          go_wp2
          go_roundw
          case rel =>
            have := hco'.out.step hl'.out hdu'.out hdo'.out hdp'.out hdm'.out hdn'.out hdl'.out
            rw [hdv'.out] at this
            exact ⟨k + 1, _, by omega, by go_num, this⟩
          case measure => simp [intOf]; omega
    · have : k = m.length := by omega
      subst this
      have hfzB := fun o => (hco.row.alloc o).frozen m.length
      have hceB := fun o => (hco.row.alloc o).cell (i := m.length) (v := .slice none 0 0) (by
        rw [List.getElem?_append_right (by rw [List.length_map, hco.len]; omega), List.length_map, hco.len, Nat.sub_self]; exact rep_at (by omega))
      have hfzC := fun o o' => ((hco.row.alloc o).alloc o').frozen m.length
      have hceC := fun o o' => ((hco.row.alloc o).alloc o').cell (i := m.length) (v := .slice none 0 0) (by
        rw [List.getElem?_append_right (by rw [List.length_map, hco.len]; omega), List.length_map, hco.len, Nat.sub_self]; exact rep_at (by omega))
      clear hco
      go_wp2
      go_ret
      exact hco'.out.last

end Go.Proofs.YtcclepohmhdpbaaGreatDoor
