import Derived.Test.YtcclepohmhdpbabGreatDoorWalkB
import Derived.Test.YtcclepohmhdpbabGreatDoorPnG
import Derived.Deep.DrawnRows
/- THE WALKS: lists.copyRings, Copy; polygons.Make, Points. -/
namespace Go.Proofs.YtcclepohmhdpbabGreatDoor
set_option linter.all false
open Go.RowKit Go.Deep

theorem und_pts : Tryz.prog.underlying 46 = some (.slice 48) := by kernel_rfl
theorem und_rings : Tryz.prog.underlying 45 = some (.slice 46) := by kernel_rfl
theorem und_polys : Tryz.prog.underlying 42 = some (.slice 45) := by kernel_rfl
theorem info_pt : (Tryz.prog.info? 48).map (fun i => (i.zero, i.size, i.bytes)) = some (some (.agg #[.int .i64 0, .int .i64 0]), 2, 16) := by kernel_rfl
theorem info_pts : (Tryz.prog.info? 46).map (fun i => (i.zero, i.size, i.bytes)) = some (some (.slice none 0 0), 1, 24) := by kernel_rfl
theorem info_rings : (Tryz.prog.info? 45).map (fun i => (i.zero, i.size, i.bytes)) = some (some (.slice none 0 0), 1, 24) := by kernel_rfl
theorem size_pt : (Tryz.prog.info? 48).map (·.size) = some 2 := by kernel_rfl

def zpts (n : Nat) : Ring := List.replicate n (0, 0)
def znil (n : Nat) : List Value := List.replicate n (.slice none 0 0)

theorem rep_at {α : Type} {n k : Nat} {x : α} (h : k < n) : (List.replicate n x)[k]? = some x := by rw [List.getElem?_replicate, if_pos h]

theorem flat_zpts (n : Nat) : madeCells #[.int .i64 0, .int .i64 0] (n * 2) = (flat (zpts n)).toArray := by
  apply Array.ext
  · rw [size_madeCells]; simp [flat_length, zpts]
  · intro i h1 h2
    have hi : i < n * 2 := by rwa [size_madeCells] at h1
    have hp : (zpts n)[i / 2]? = some (0, 0) := rep_at (by omega)
    have hf := flat_at _ _ _ hp
    have e : (flat (zpts n))[i]? = some (.int .i64 0) := by
      rcases Nat.mod_two_eq_zero_or_one i with h | h
      · rw [show i / 2 * 2 = i by omega] at hf; exact hf.1
      · rw [show i / 2 * 2 + 1 = i by omega] at hf; exact hf.2
    have e2 : (flat (zpts n)).toArray[i] = .int .i64 0 := by
      have := List.getElem?_eq_some_iff.1 e
      obtain ⟨_, q⟩ := this
      simpa using q
    rw [e2]
    simp only [madeCells, Array.getElem_map, Array.getElem_range]
    rcases Nat.mod_two_eq_zero_or_one i with h | h <;> simp [h]

theorem make_pts (n : Nat) (hn : n ≤ 2097152) (w : World) :
    (Instr.makeSlice 46 (.int .i64 (n : Int)) (.int .i64 (n : Int))).run Tryz.prog w = .ok (.slice (some ⟨w.heap.size, 0, none⟩) n n) (w.alloc (.cells (flat (zpts n)).toArray 48)) := by
  obtain ⟨i, hi, hzz⟩ := Option.map_eq_some_iff.1 info_pt
  simp only [Prod.mk.injEq] at hzz
  obtain ⟨z1, z2, z3⟩ := hzz
  have hr := run_make (P := Tryz.prog) w 46 48 i _ und_pts hi z1 .i64 .i64 n n (by omega) (Int.le_refl _) (by rw [z3]; omega) (by omega)
  rw [hr, z2]
  simp only [Int.toNat_natCast, Value.cells, flat_zpts]

theorem make_rings (n : Nat) (hn : n ≤ 2097152) (w : World) :
    (Instr.makeSlice 45 (.int .i64 (n : Int)) (.int .i64 (n : Int))).run Tryz.prog w = .ok (.slice (some ⟨w.heap.size, 0, none⟩) n n) (w.alloc (.cells (znil n).toArray 46)) := by
  rw [run_make_row' 45 46 _ 24 und_rings info_pts rfl .i64 .i64 n (by omega) (by omega) w]
  congr 3
  rw [← Array.toArray_toList (xs := madeCells _ _), toList_madeCells_one]; rfl

theorem make_polys (n : Nat) (hn : n ≤ 2097152) (w : World) :
    (Instr.makeSlice 42 (.int .i64 (n : Int)) (.int .i64 (n : Int))).run Tryz.prog w = .ok (.slice (some ⟨w.heap.size, 0, none⟩) n n) (w.alloc (.cells (znil n).toArray 45)) := by
  rw [run_make_row' 42 45 _ 24 und_polys info_rings rfl .i64 .i64 n (by omega) (by omega) w]
  congr 3
  rw [← Array.toArray_toList (xs := madeCells _ _), toList_madeCells_one]; rfl

/-- Where copyRings stands after k rounds. -/
structure CR (w wr : World) (B : Nat) (l : Poly) (k : Nat) (ds : List D1) : Prop where
  row : VRow wr B 46 (ds.map D1.v ++ znil (l.length - k))
  rs : ds.map D1.r = l.take k
  len : ds.length = k
  bare : ∀ d ∈ ds, d.s = []
  ok : ∀ d ∈ ds, OK1 wr d
  nodup : (B :: ds.map D1.b).Nodup
  low : ∀ b ∈ B :: ds.map D1.b, w.heap.size ≤ b
  up : Up w wr

theorem set_at {α : Type} (a : List α) (x y : α) (n : Nat) : (a ++ List.replicate (n + 1) x).set a.length y = a ++ [y] ++ List.replicate n x := by
  rw [List.set_append_right _ _ (Nat.le_refl _), Nat.sub_self, List.replicate_succ, List.set_cons_zero]; simp

theorem CR.step {w wr : World} {B : Nat} {l : Poly} {k : Nat} {ds : List D1} (h : CR w wr B l k ds) {r : Ring} (hr : l[k]? = some r) :
    CR w ((wr.alloc (.cells (flat r).toArray 48)).setCell ⟨B, k, none⟩ (.slice (some ⟨wr.heap.size, 0, none⟩) r.length r.length)) B l (k + 1) (ds ++ [⟨wr.heap.size, r, []⟩]) := by
  have hk := Pl.lt_of_some hr
  have hB : B < wr.heap.size := h.row.lt
  have hW : w.heap.size ≤ wr.heap.size := h.up.size
  have hBl := h.low B (by simp)
  refine ⟨?_, ?_, ?_, ?_, ?_, ?_, ?_, ?_⟩
  · have := (h.row.alloc (.cells (flat r).toArray 48)).set k (.slice (some ⟨wr.heap.size, 0, none⟩) r.length r.length)
    have e : l.length - k = (l.length - (k + 1)) + 1 := by omega
    rw [e] at this
    have e2 := set_at (ds.map D1.v) (.slice none 0 0) (.slice (some ⟨wr.heap.size, 0, none⟩) r.length r.length) (l.length - (k + 1))
    rw [List.length_map, h.len] at e2
    rw [znil, e2] at this
    simpa [D1.v, znil] using this
  · rw [Pl.take_one hr, List.map_append, h.rs]; rfl
  · simp [h.len]
  · intro d hd
    rcases List.mem_append.1 hd with hd | hd
    · exact h.bare d hd
    · simp at hd; subst hd; rfl
  · intro d hd
    rcases List.mem_append.1 hd with hd | hd
    · have hne : d.b ≠ B := fun e => (List.nodup_cons.1 h.nodup).1 (by rw [← e]; exact List.mem_map_of_mem hd)
      exact VRow.setOther (VRow.alloc (h.ok d hd) _) hne _
    · simp at hd; subst hd
      refine VRow.setOther (b := wr.heap.size) ?_ (by show wr.heap.size ≠ B; omega) _
      simpa using VRow.new wr (flat r) _
  · have h1 : ∀ x ∈ B :: ds.map D1.b, x < wr.heap.size := by
      intro x hx
      rcases List.mem_cons.1 hx with rfl | hx
      · exact hB
      · obtain ⟨d, hd, rfl⟩ := List.mem_map.1 hx
        exact VRow.lt (h.ok d hd)
    rw [List.map_append, ← List.cons_append, List.nodup_append]
    refine ⟨h.nodup, by simp, ?_⟩
    intro a ha b hb
    simp at hb; subst hb
    have := h1 a ha; omega
  · intro b hb
    rw [List.map_append, ← List.cons_append] at hb
    rcases List.mem_append.1 hb with hb | hb
    · exact h.low b hb
    · simp at hb; omega
  · exact (h.up.alloc _).setCell hBl _

theorem CR.start (w : World) (l : Poly) : CR w (w.alloc (.cells (znil l.length).toArray 46)) w.heap.size l 0 [] :=
  ⟨by simpa using VRow.new w (znil l.length) _, rfl, rfl, by simp, by simp, by simp, by simp, (Up.refl _).alloc _⟩

/-- The lists have no spare room. -/
def D2.bare (d : D2) : Prop := d.s = [] ∧ ∀ x ∈ d.rs, x.s = []
def D3.bare (d : D3) : Prop := d.s = [] ∧ ∀ x ∈ d.ps, x.bare

set_option maxRecDepth 100000 in
set_option maxHeartbeats 1000000 in
theorem copyRings_any (v : Value) (l : Poly) (w : World) (hv : Rd2 w v l) (hb : l.length ≤ 1048576) (hb2 : ∀ r ∈ l, r.length ≤ 1048576) :
    Calls Tryz.prog 50 #[v] w fun e w' => ∃ d : D2, e = .returned d.v ∧ OK2 w' d ∧ d.pts = l ∧ d.bare ∧ d.bl.Nodup ∧ (∀ b ∈ d.bl, w.heap.size ≤ b) ∧ Up w w' := by
  obtain ⟨ao, cap, rfl, hm⟩ := hv
  have hmk := make_rings l.length (by omega)
  have hst := CR.start w l
  go_enter Tryz.func50, Tryz.ntmps50
  go_wp2
  clear hmk
  have hst' := hide hst
  clear hst
  go_loopw [12] (fun i wr => ∃ (k : Nat) (ds : List D1), k ≤ l.length ∧ i = .int .i64 k ∧ CR w wr w.heap.size l k ds) (fun i _ => l.length - (intOf i).toNat)
  case atStart => exact ⟨0, [], Nat.zero_le _, rfl, hst'.out⟩
  case round =>
    obtain ⟨k, ds, hk, rfl, hcr⟩ := hrel
    by_cases hlt : k < l.length
    · obtain ⟨r, hr⟩ := Pl.some_of_lt hlt
      obtain ⟨b, u, rfl, hc, ao2, cap2, rfl, hp⟩ := hm k r hr
      have hrl := hb2 r (Pl.mem_of_some hr)
      have hc' := hcr.up.cell hc
      have hmk := make_pts r.length (by omega)
      have hfz : ∀ o, (wr.alloc o).frozen? ⟨w.heap.size, k, none⟩ = false := fun o => (hcr.row.alloc o).frozen k
      have hce : ∀ o, (wr.alloc o).cell? ⟨w.heap.size, k, none⟩ = some (.slice none 0 0) := fun o => (hcr.row.alloc o).cell (by
        rw [List.getElem?_append_right (by rw [List.length_map, hcr.len]; omega), List.length_map, hcr.len, Nat.sub_self]; exact rep_at (by omega))
      have hsrc : Hid (∀ o, ∀ i p, r[i]? = some p → ∃ b, ao2 = some ⟨b, 0, none⟩ ∧ (wr.alloc o).cell? ⟨b, i * 2, none⟩ = some (.int .i64 p.1) ∧ (wr.alloc o).cell? ⟨b, i * 2 + 1, none⟩ = some (.int .i64 p.2)) := by
        intro o i p hip
        obtain ⟨b, e, c1, c2⟩ := hp i p hip
        exact ⟨b, e, (hcr.up.alloc o).cell c1, (hcr.up.alloc o).cell c2⟩
      have hfit : Hid (r.length * 2 ≤ (flat (zpts r.length)).length) := by simp [Hid, flat_length, zpts]
      have hdrop : (flat (zpts r.length)).drop (r.length * 2) = [] := List.drop_of_length_le (by simp [flat_length, zpts])
      have hcopy := run_copy_pts (P := Tryz.prog) (wr.alloc (.cells (flat (zpts r.length)).toArray 48)) 46 46 3 48 wr.heap.size r.length r.length ao2 cap2 48 (flat (zpts r.length)) r und_pts size_pt (heap_alloc_new wr _) (Nat.le_refl _) (hsrc.out _) hfit.out
      rw [alloc_setRow, hdrop, List.append_nil] at hcopy
      clear hdrop
      have hcr' := hide hcr
      have hr' := hide hr
      have hp' := hide hp
      have hm' := hide hm
      have hb2' := hide hb2
      clear hcr hr hp hm hb2 hc
      go_wp2
      go_roundw
      case rel => exact ⟨k + 1, _, by omega, by go_num, hcr'.out.step hr'.out⟩
      case measure => simp [intOf]; omega
    · have : k = l.length := by omega
      subst this
      have hcr' := hide hcr
      clear hcr
      go_wp2
      go_ret
      have h := hcr'.out
      have hrs := h.rs
      rw [List.take_length] at hrs
      refine ⟨⟨w.heap.size, ds, []⟩, ?_, ⟨?_, ?_⟩, hrs, ⟨rfl, h.bare⟩, ?_, ?_, h.up⟩
      · simp [D2.v, h.len]
      · have := h.row
        simpa [znil] using this
      · intro x hx
        exact h.ok x (by simpa using hx)
      · simpa [D2.bl] using h.nodup
      · intro b hb
        exact h.low b (by simpa [D2.bl] using hb)

/-- Where Copy stands after k rounds. -/
structure CP (w wr : World) (B : Nat) (m : Mult) (k : Nat) (ds : List D2) : Prop where
  row : VRow wr B 45 (ds.map D2.v ++ znil (m.length - k))
  rs : ds.map D2.pts = m.take k
  len : ds.length = k
  bare : ∀ d ∈ ds, d.bare
  ok : ∀ d ∈ ds, OK2 wr d
  nodup : (B :: ds.flatMap D2.bl).Nodup
  low : ∀ b ∈ B :: ds.flatMap D2.bl, w.heap.size ≤ b
  up : Up w wr

theorem CP.start (w : World) (m : Mult) : CP w (w.alloc (.cells (znil m.length).toArray 45)) w.heap.size m 0 [] :=
  ⟨by simpa using VRow.new w (znil m.length) _, rfl, rfl, by simp, by simp, by simp, by simp, (Up.refl _).alloc _⟩

theorem CP.lt {w wr : World} {B : Nat} {m : Mult} {k : Nat} {ds : List D2} (h : CP w wr B m k ds) : ∀ x ∈ B :: ds.flatMap D2.bl, x < wr.heap.size := by
  intro x hx
  rcases List.mem_cons.1 hx with rfl | hx
  · exact h.row.lt
  · obtain ⟨d, hd, hx⟩ := List.mem_flatMap.1 hx
    exact (h.ok d hd).lt x hx

theorem CP.step {w wr wn : World} {B : Nat} {m : Mult} {k : Nat} {ds : List D2} (h : CP w wr B m k ds) {l : Poly} (hl : m[k]? = some l) {d : D2} (hup : Up wr wn) (hd : OK2 wn d) (hpts : d.pts = l) (hbare : d.bare)
    (hnd : d.bl.Nodup) (hlow : ∀ b ∈ d.bl, wr.heap.size ≤ b) : CP w (wn.setCell ⟨B, k, none⟩ d.v) B m (k + 1) (ds ++ [d]) := by
  have hk := Pl.lt_of_some hl
  have hB : B < wr.heap.size := h.row.lt
  have hW : w.heap.size ≤ wr.heap.size := h.up.size
  have hBl := h.low B (by simp)
  have hlt := h.lt
  refine ⟨?_, ?_, ?_, ?_, ?_, ?_, ?_, ?_⟩
  · have := (h.row.of_block (hup.block B hB)).set k d.v
    have e : m.length - k = (m.length - (k + 1)) + 1 := by omega
    rw [e] at this
    have e2 := set_at (ds.map D2.v) (.slice none 0 0) d.v (m.length - (k + 1))
    rw [List.length_map, h.len] at e2
    rw [znil, e2] at this
    simpa [znil] using this
  · rw [Pl.take_one hl, List.map_append, h.rs]; simp [hpts]
  · simp [h.len]
  · intro x hx
    rcases List.mem_append.1 hx with hx | hx
    · exact h.bare x hx
    · simp at hx; subst hx; exact hbare
  · intro x hx
    rcases List.mem_append.1 hx with hx | hx
    · refine ((h.ok x hx).up hup).of fun b hb => Below.heap_setCell _ _ _ _ ?_
      intro e
      subst e
      exact (List.nodup_cons.1 h.nodup).1 (List.mem_flatMap.2 ⟨x, hx, hb⟩)
    · simp at hx; subst hx
      refine hd.of fun b hb => Below.heap_setCell _ _ _ _ ?_
      have := hlow b hb
      show b ≠ B
      omega
  · rw [List.flatMap_append, ← List.cons_append, List.nodup_append]
    refine ⟨h.nodup, by simpa using hnd, ?_⟩
    intro a ha b hb
    have h1 := hlt a ha
    have h2 := hlow b (by simpa using hb)
    omega
  · intro b hb
    rw [List.flatMap_append, ← List.cons_append] at hb
    rcases List.mem_append.1 hb with hb | hb
    · exact h.low b hb
    · have := hlow b (by simpa using hb); omega
  · exact (h.up.trans hup).setCell hBl _

set_option maxRecDepth 100000 in
set_option maxHeartbeats 1000000 in
theorem copy_any (v : Value) (m : Mult) (w : World) (hv : Rd3 w v m) (hb : Pl.Bd m) :
    Calls Tryz.prog 36 #[v] w fun e w' => ∃ d : D3, e = .returned d.v ∧ OK3 w' d ∧ d.m = m ∧ d.bare ∧ d.bl.Nodup ∧ (∀ b ∈ d.bl, w.heap.size ≤ b) ∧ Up w w' := by
  obtain ⟨ao, cap, rfl, hm⟩ := hv
  have hlen := hb.len
  have hb' := hide hb
  have hmk := make_polys m.length (by omega)
  have hst := hide (CP.start w m)
  clear hb
  go_enter Tryz.func36, Tryz.ntmps36
  go_wp2
  clear hmk
  go_loopw [11] (fun i wr => ∃ (k : Nat) (ds : List D2), k ≤ m.length ∧ i = .int .i64 k ∧ CP w wr w.heap.size m k ds) (fun i _ => m.length - (intOf i).toNat)
  case atStart => exact ⟨0, [], Nat.zero_le _, rfl, hst.out⟩
  case round =>
    obtain ⟨k, ds, hk, rfl, hcr⟩ := hrel
    by_cases hlt : k < m.length
    · obtain ⟨l, hl⟩ := Pl.some_of_lt hlt
      obtain ⟨b, u, rfl, hc, hu⟩ := hm k l hl
      have hc' := hcr.up.cell hc
      have hu' := hide (hu.up hcr.up)
      have hl' := hide hl
      have hm' := hide hm
      have hold : Hid (wr.cell? ⟨w.heap.size, k, none⟩ = some (.slice none 0 0)) := hcr.row.cell (by
        rw [List.getElem?_append_right (by rw [List.length_map, hcr.len]; omega), List.length_map, hcr.len, Nat.sub_self]; exact rep_at (by omega))
      have hfz : Hid (wr.frozen? ⟨w.heap.size, k, none⟩ = false) := hcr.row.frozen k
      have hcr' := hide hcr
      have hBl : Hid (w.heap.size < wr.heap.size) := hcr.row.lt
      clear hl hm hc hu hcr
      have B1 := hide (hb'.out.poly l (Pl.mem_of_some hl'.out))
      have B2 := hide (hb'.out.ring l (Pl.mem_of_some hl'.out))
      go_wp2_with (go_at_call 50; refine (copyRings_any _ l _ ?_ ?_ ?_).mono ?_; exact hu'.out; exact B1.out; exact B2.out; rintro e wn ⟨d, rfl, hd, hpts, hbare, hnd, hlow, hup⟩; simp only [D2.v]; replace hd := hide hd; replace hpts := hide hpts; replace hbare := hide hbare; replace hnd := hide hnd; replace hlow := hide hlow; have hold2 := hup.cell hold.out; have hfz2 : wn.frozen? ⟨w.heap.size, k, none⟩ = false := (Below.frozen hup (p := ⟨w.heap.size, k, none⟩) hBl.out).trans hfz.out; replace hup := hide hup)
      go_roundw
      case rel => exact ⟨k + 1, _, by omega, by go_num, hcr'.out.step hl'.out hup.out hd.out hpts.out hbare.out hnd.out hlow.out⟩
      case measure => simp [intOf]; omega
    · have : k = m.length := by omega
      subst this
      have hcr' := hide hcr
      clear hcr
      go_wp2
      go_ret
      have h := hcr'.out
      have hrs := h.rs
      rw [List.take_length] at hrs
      refine ⟨⟨w.heap.size, ds, []⟩, ?_, ⟨?_, ?_⟩, hrs, ⟨rfl, h.bare⟩, ?_, ?_, h.up⟩
      · simp [D3.v, h.len]
      · have := h.row
        simpa [znil] using this
      · intro x hx
        exact h.ok x (by simpa using hx)
      · simpa [D3.bl] using h.nodup
      · intro b hb
        exact h.low b (by simpa [D3.bl] using hb)

/-- A set in memory: its pointer, where it lies, its lists. -/
structure Set3 (w : World) (v : Value) (m : Mult) (b : Nat) (d : D3) : Prop where
  ptr : v = .pointer (some ⟨b, 0, none⟩)
  cell : VRow w b 62 [d.v]
  ok : OK3 w d
  pts : d.m = m

set_option maxRecDepth 100000 in
set_option maxHeartbeats 1000000 in
theorem make_ok (v : Value) (m : Mult) (w : World) (hv : Rd3 w v m) (hb : Pl.Bd m) (h0 : Pl.wrong m = 0) :
    Calls Tryz.prog 25 #[v] w fun e w' => ∃ p b d, e = .returned (.tuple #[p, .int .i64 0]) ∧ Set3 w' p m b d ∧ (∀ x ∈ b :: d.bl, w.heap.size ≤ x) ∧ Up w w' := by
  have hv' := hide hv
  have hb' := hide hb
  have h0' := hide h0
  clear hv hb h0
  go_enter Tryz.func25, Tryz.ntmps25
  go_wp2_with (first
    | (go_at_call 40; refine (fault_any _ m _ ?_ ?_).mono ?_; exact hv'.out; exact hb'.out; rintro e w1 ⟨rfl, hup1⟩; replace hup1 := hide hup1; rw [h0'.out])
    | (go_at_call 36; refine (copy_any _ m _ ?_ ?_).mono ?_; exact hv'.out.up hup1.out; exact hb'.out; rintro e w2 ⟨d, rfl, hd, hm, hbare, hnd, hlow, hup2⟩; simp only [D3.v]; replace hd := hide hd; replace hm := hide hm; replace hup2 := hide hup2; replace hlow := hide hlow; clear hbare hnd))
  go_ret2
  refine ⟨_, _, d, rfl, ⟨rfl, VRow.new w2 [d.v] _, hd.out.up ((Up.refl _).alloc _), hm.out⟩, ?_, (hup1.out.trans hup2.out).alloc _⟩
  intro x hx
  have s1 := hup1.out.size
  have s2 := hup2.out.size
  rcases List.mem_cons.1 hx with rfl | hx
  · omega
  · have := hlow.out x hx; omega

set_option maxHeartbeats 1000000 in
theorem make_bad (v : Value) (m : Mult) (w : World) (hv : Rd3 w v m) (hb : Pl.Bd m) (h0 : Pl.wrong m ≠ 0) :
    Calls Tryz.prog 25 #[v] w fun e w' => e = .returned (.tuple #[.pointer none, .int .i64 (Pl.wrong m)]) ∧ Up w w' := by
  have hv' := hide hv
  have hb' := hide hb
  have h0' : (Pl.wrong m == 0) = false := beq_eq_false_iff_ne.2 h0
  clear hv hb h0
  generalize hx : Pl.wrong m = x at *
  have hx' := hide hx
  clear hx
  go_enter Tryz.func25, Tryz.ntmps25
  go_wp2_with (go_at_call 40; refine (fault_any _ m _ ?_ ?_).mono ?_; exact hv'.out; exact hb'.out; rintro e w1 ⟨rfl, hup1⟩; replace hup1 := hide hup1; rw [hx'.out])
  go_ret2
  exact ⟨rfl, hup1.out⟩

set_option maxHeartbeats 1000000 in
theorem points_any (v : Value) (m : Mult) (w : World) (b : Nat) (d : D3) (hs : Set3 w v m b d) (hb : Pl.Bd m) :
    Calls Tryz.prog 20 #[v] w fun e w' => ∃ d' : D3, e = .returned d'.v ∧ OK3 w' d' ∧ d'.m = m ∧ d'.bare ∧ d'.bl.Nodup ∧ (∀ b ∈ d'.bl, w.heap.size ≤ b) ∧ Up w w' := by
  obtain ⟨rfl, hc, hok, hm⟩ := hs
  have hr := hide hok.rd
  rw [hm] at hr
  have hb' := hide hb
  have hc' := VRow.cell hc (i := 0) (v := d.v) rfl
  rw [D3.v] at hc'
  clear hc hok hm hb
  go_enter Tryz.func20, Tryz.ntmps20
  go_wp2_with (go_at_call 36; refine (copy_any _ m _ ?_ ?_).mono ?_; exact hr.out; exact hb'.out; rintro e w2 ⟨d', rfl, h⟩; replace h := hide h)
  go_ret
  exact ⟨d', rfl, h.out⟩

end Go.Proofs.YtcclepohmhdpbabGreatDoor

/- THE WALKS: polygonslaw.copied. -/
namespace Go.Proofs.YtcclepohmhdpbabGreatDoor
set_option linter.all false
open Go.RowKit Go.Deep

theorem make_pts2 (n : Nat) (hn : n ≤ 1048576) (w : World) :
    (Instr.makeSlice 46 (.int .i64 ((n : Int) + 2)) (.int .i64 ((n : Int) + 2))).run Tryz.prog w = .ok (.slice (some ⟨w.heap.size, 0, none⟩) (n + 2) (n + 2)) (w.alloc (.cells (flat (zpts (n + 2))).toArray 48)) := by
  have h := make_pts (n + 2) (by omega) w
  rw [show ((n + 2 : Nat) : Int) = (n : Int) + 2 from by omega] at h
  exact h

def mk1 : Ring := [(91, -91), (92, -92)]

/-- Where a list of rings that is being filled stands after k of them: each with marks behind it; x places more. -/
structure CI (w wr : World) (B : Nat) (l : Poly) (k : Nat) (ds : List D1) : Prop where
  row : VRow wr B 46 (ds.map D1.v ++ znil (l.length + 1 - k))
  rs : ds.map D1.r = l.take k
  len : ds.length = k
  marks : ∀ d ∈ ds, d.s = mk1
  ok : ∀ d ∈ ds, OK1 wr d
  nodup : (B :: ds.map D1.b).Nodup
  low : ∀ b ∈ B :: ds.map D1.b, w.heap.size ≤ b
  up : Up w wr

theorem CI.start (w : World) (l : Poly) : CI w (w.alloc (.cells (znil (l.length + 1)).toArray 46)) w.heap.size l 0 [] :=
  ⟨by simpa using VRow.new w (znil (l.length + 1)) _, rfl, rfl, by simp, by simp, by simp, by simp, (Up.refl _).alloc _⟩

theorem CI.lt {w wr : World} {B : Nat} {l : Poly} {k : Nat} {ds : List D1} (h : CI w wr B l k ds) : ∀ x ∈ B :: ds.map D1.b, x < wr.heap.size := by
  intro x hx
  rcases List.mem_cons.1 hx with rfl | hx
  · exact h.row.lt
  · obtain ⟨d, hd, rfl⟩ := List.mem_map.1 hx
    exact VRow.lt (h.ok d hd)

theorem CI.step {w wr wn : World} {B : Nat} {l : Poly} {k : Nat} {ds : List D1} (h : CI w wr B l k ds) {r : Ring} (hr : l[k]? = some r) (hup : Up wr wn) (hrow : PRow wn wr.heap.size (r ++ mk1)) :
    CI w (wn.setCell ⟨B, k, none⟩ (.slice (some ⟨wr.heap.size, 0, none⟩) r.length (r.length + 2))) B l (k + 1) (ds ++ [⟨wr.heap.size, r, mk1⟩]) := by
  have hk := Pl.lt_of_some hr
  have hB : B < wr.heap.size := h.row.lt
  have hW : w.heap.size ≤ wr.heap.size := h.up.size
  have hBl := h.low B (by simp)
  refine ⟨?_, ?_, ?_, ?_, ?_, ?_, ?_, ?_⟩
  · have := (h.row.of_block (hup.block B hB)).set k (.slice (some ⟨wr.heap.size, 0, none⟩) r.length (r.length + 2))
    have e : l.length + 1 - k = (l.length + 1 - (k + 1)) + 1 := by omega
    rw [e] at this
    have e2 := set_at (ds.map D1.v) (.slice none 0 0) (.slice (some ⟨wr.heap.size, 0, none⟩) r.length (r.length + 2)) (l.length + 1 - (k + 1))
    rw [List.length_map, h.len] at e2
    rw [znil, e2] at this
    rw [List.map_append]
    exact this
  · rw [Pl.take_one hr, List.map_append, h.rs]; rfl
  · simp [h.len]
  · intro d hd
    rcases List.mem_append.1 hd with hd | hd
    · exact h.marks d hd
    · simp at hd; subst hd; rfl
  · intro d hd
    rcases List.mem_append.1 hd with hd | hd
    · have hne : d.b ≠ B := fun e => (List.nodup_cons.1 h.nodup).1 (by rw [← e]; exact List.mem_map_of_mem hd)
      exact VRow.setOther ((h.ok d hd).up hup) hne _
    · simp at hd; subst hd
      exact VRow.setOther (b := wr.heap.size) hrow (by show wr.heap.size ≠ B; omega) _
  · rw [List.map_append, ← List.cons_append, List.nodup_append]
    refine ⟨h.nodup, by simp, ?_⟩
    intro a ha b hb
    simp at hb; subst hb
    have := h.lt a ha; omega
  · intro b hb
    rw [List.map_append, ← List.cons_append] at hb
    rcases List.mem_append.1 hb with hb | hb
    · exact h.low b hb
    · simp at hb; omega
  · exact (h.up.trans hup).setCell hBl _

theorem marks_row {W : World} {g : Nat} {r : Ring} (h : PRow W g (r ++ [(0, 0), (0, 0)])) :
    PRow ((((W.setCell ⟨g, r.length * 2, none⟩ (.int .i64 91)).setCell ⟨g, r.length * 2 + 1, none⟩ (.int .i64 (-91))).setCell ⟨g, (r.length + 1) * 2, none⟩ (.int .i64 92)).setCell ⟨g, (r.length + 1) * 2 + 1, none⟩ (.int .i64 (-92))) g (r ++ mk1) := by
  have := (PRow.set h r.length (91, -91)).set (r.length + 1) (92, -92)
  rw [List.set_append_right _ _ (Nat.le_refl _), List.set_append_right _ _ (by omega)] at this
  rw [Nat.sub_self, show r.length + 1 - r.length = 1 by omega] at this
  exact this

/-- The mark of a polygon's spare room. -/
def D2.marked (d : D2) : Prop := (∃ b, d.s = [⟨b, [(93, -93)], []⟩]) ∧ ∀ x ∈ d.rs, x.s = mk1
def D3.marked (d : D3) : Prop := (∃ b c, d.s = [⟨b, [⟨c, [(94, -94)], []⟩], []⟩]) ∧ ∀ x ∈ d.ps, x.marked

theorem CI.last {w wr : World} {B : Nat} {l : Poly} {ds : List D1} (h : CI w wr B l l.length ds) :
    ∃ d : D2, d.v = .slice (some ⟨B, 0, none⟩) l.length (l.length + 1) ∧ d.marked ∧ d.pts = l ∧ OK2 ((wr.alloc (.cells (flat [(93, -93)]).toArray 48)).setCell ⟨B, l.length, none⟩ (.slice (some ⟨wr.heap.size, 0, none⟩) 1 1)) d ∧ d.bl.Nodup ∧ (∀ b ∈ d.bl, w.heap.size ≤ b)
      ∧ Up w ((wr.alloc (.cells (flat [(93, -93)]).toArray 48)).setCell ⟨B, l.length, none⟩ (.slice (some ⟨wr.heap.size, 0, none⟩) 1 1)) := by
  have hB : B < wr.heap.size := h.row.lt
  have hW : w.heap.size ≤ wr.heap.size := h.up.size
  have hBl := h.low B (by simp)
  refine ⟨⟨B, ds, [⟨wr.heap.size, [(93, -93)], []⟩]⟩, by simp [D2.v, h.len], ⟨⟨_, rfl⟩, h.marks⟩, by have := h.rs; rwa [List.take_length] at this, ⟨?_, ?_⟩, ?_, ?_, (h.up.alloc _).setCell hBl _⟩
  · have := (h.row.alloc (.cells (flat [(93, -93)]).toArray 48)).set l.length (.slice (some ⟨wr.heap.size, 0, none⟩) 1 1)
    have e : l.length + 1 - l.length = 0 + 1 := by omega
    rw [e] at this
    have e2 := set_at (ds.map D1.v) (.slice none 0 0) (.slice (some ⟨wr.heap.size, 0, none⟩) 1 1) 0
    rw [List.length_map, h.len] at e2
    rw [znil, e2, List.replicate_zero, List.append_nil] at this
    rw [List.map_append]
    exact this
  · intro d hd
    rcases List.mem_append.1 hd with hd | hd
    · have hne : d.b ≠ B := fun e => (List.nodup_cons.1 h.nodup).1 (by rw [← e]; exact List.mem_map_of_mem hd)
      exact VRow.setOther (VRow.alloc (h.ok d hd) _) hne _
    · simp at hd; subst hd
      refine VRow.setOther (b := wr.heap.size) ?_ (by show wr.heap.size ≠ B; omega) _
      exact VRow.new wr (flat [(93, -93)]) _
  · simp only [D2.bl]
    rw [List.map_append, ← List.cons_append, List.nodup_append]
    refine ⟨h.nodup, by simp, ?_⟩
    intro a ha b hb
    simp at hb; subst hb
    have := h.lt a ha; omega
  · intro b hb
    simp only [D2.bl] at hb
    rw [List.map_append, ← List.cons_append] at hb
    rcases List.mem_append.1 hb with hb | hb
    · exact h.low b hb
    · simp at hb; omega

/-- Where copied stands after k polygons. -/
structure CO (w wr : World) (B : Nat) (m : Mult) (k : Nat) (ds : List D2) : Prop where
  row : VRow wr B 45 (ds.map D2.v ++ znil (m.length + 1 - k))
  rs : ds.map D2.pts = m.take k
  len : ds.length = k
  marks : ∀ d ∈ ds, d.marked
  ok : ∀ d ∈ ds, OK2 wr d
  nodup : (B :: ds.flatMap D2.bl).Nodup
  low : ∀ b ∈ B :: ds.flatMap D2.bl, w.heap.size ≤ b
  up : Up w wr

theorem CO.start (w : World) (m : Mult) : CO w (w.alloc (.cells (znil (m.length + 1)).toArray 45)) w.heap.size m 0 [] :=
  ⟨by simpa using VRow.new w (znil (m.length + 1)) _, rfl, rfl, by simp, by simp, by simp, by simp, (Up.refl _).alloc _⟩

theorem CO.lt {w wr : World} {B : Nat} {m : Mult} {k : Nat} {ds : List D2} (h : CO w wr B m k ds) : ∀ x ∈ B :: ds.flatMap D2.bl, x < wr.heap.size := by
  intro x hx
  rcases List.mem_cons.1 hx with rfl | hx
  · exact h.row.lt
  · obtain ⟨d, hd, hx⟩ := List.mem_flatMap.1 hx
    exact (h.ok d hd).lt x hx

theorem CO.step {w wr wn : World} {B : Nat} {m : Mult} {k : Nat} {ds : List D2} (h : CO w wr B m k ds) {l : Poly} (hl : m[k]? = some l) {d : D2} (hup : Up wr wn) (hd : OK2 wn d) (hpts : d.pts = l) (hmk : d.marked)
    (hnd : d.bl.Nodup) (hlow : ∀ b ∈ d.bl, wr.heap.size ≤ b) : CO w (wn.setCell ⟨B, k, none⟩ d.v) B m (k + 1) (ds ++ [d]) := by
  have hk := Pl.lt_of_some hl
  have hB : B < wr.heap.size := h.row.lt
  have hW : w.heap.size ≤ wr.heap.size := h.up.size
  have hBl := h.low B (by simp)
  have hlt := h.lt
  refine ⟨?_, ?_, ?_, ?_, ?_, ?_, ?_, ?_⟩
  · have := (h.row.of_block (hup.block B hB)).set k d.v
    have e : m.length + 1 - k = (m.length + 1 - (k + 1)) + 1 := by omega
    rw [e] at this
    have e2 := set_at (ds.map D2.v) (.slice none 0 0) d.v (m.length + 1 - (k + 1))
    rw [List.length_map, h.len] at e2
    rw [znil, e2] at this
    rw [List.map_append]
    exact this
  · rw [Pl.take_one hl, List.map_append, h.rs]; simp [hpts]
  · simp [h.len]
  · intro x hx
    rcases List.mem_append.1 hx with hx | hx
    · exact h.marks x hx
    · simp at hx; subst hx; exact hmk
  · intro x hx
    rcases List.mem_append.1 hx with hx | hx
    · refine ((h.ok x hx).up hup).of fun b hb => Below.heap_setCell _ _ _ _ ?_
      intro e
      subst e
      exact (List.nodup_cons.1 h.nodup).1 (List.mem_flatMap.2 ⟨x, hx, hb⟩)
    · simp at hx; subst hx
      refine hd.of fun b hb => Below.heap_setCell _ _ _ _ ?_
      have := hlow b hb
      show b ≠ B
      omega
  · rw [List.flatMap_append, ← List.cons_append, List.nodup_append]
    refine ⟨h.nodup, by simpa using hnd, ?_⟩
    intro a ha b hb
    have h1 := hlt a ha
    have h2 := hlow b (by simpa using hb)
    omega
  · intro b hb
    rw [List.flatMap_append, ← List.cons_append] at hb
    rcases List.mem_append.1 hb with hb | hb
    · exact h.low b hb
    · have := hlow b (by simpa using hb); omega
  · exact (h.up.trans hup).setCell hBl _

theorem CO.last {w wr : World} {B : Nat} {m : Mult} {ds : List D2} (h : CO w wr B m m.length ds) :
    ∃ d : D3, Ending.returned (.slice (some ⟨B, 0, none⟩) m.length (m.length + 1)) = .returned d.v ∧ OK3 (((wr.alloc (.cells #[.int .i64 94, .int .i64 (-94)] 48)).alloc (.cells #[.slice (some ⟨wr.heap.size, 0, none⟩) 1 1] 46)).setCell ⟨B, m.length, none⟩ (.slice (some ⟨wr.heap.size + 1, 0, none⟩) 1 1)) d
      ∧ d.m = m ∧ d.marked ∧ d.bl.Nodup ∧ (∀ b ∈ d.bl, w.heap.size ≤ b) ∧ Up w (((wr.alloc (.cells #[.int .i64 94, .int .i64 (-94)] 48)).alloc (.cells #[.slice (some ⟨wr.heap.size, 0, none⟩) 1 1] 46)).setCell ⟨B, m.length, none⟩ (.slice (some ⟨wr.heap.size + 1, 0, none⟩) 1 1)) := by
  have hB : B < wr.heap.size := h.row.lt
  have hW : w.heap.size ≤ wr.heap.size := h.up.size
  have hBl := h.low B (by simp)
  have hs1 : (wr.alloc (.cells #[.int .i64 94, .int .i64 (-94)] 48)).heap.size = wr.heap.size + 1 := by simp
  refine ⟨⟨B, ds, [⟨wr.heap.size + 1, [⟨wr.heap.size, [(94, -94)], []⟩], []⟩]⟩, by simp [D3.v, h.len], ⟨?_, ?_⟩, by have := h.rs; rwa [List.take_length] at this, ⟨⟨_, _, rfl⟩, h.marks⟩, ?_, ?_, ((h.up.alloc _).alloc _).setCell hBl _⟩
  · have := ((h.row.alloc (.cells #[.int .i64 94, .int .i64 (-94)] 48)).alloc (.cells #[.slice (some ⟨wr.heap.size, 0, none⟩) 1 1] 46)).set m.length (.slice (some ⟨wr.heap.size + 1, 0, none⟩) 1 1)
    have e : m.length + 1 - m.length = 0 + 1 := by omega
    rw [e] at this
    have e2 := set_at (ds.map D2.v) (.slice none 0 0) (.slice (some ⟨wr.heap.size + 1, 0, none⟩) 1 1) 0
    rw [List.length_map, h.len] at e2
    rw [znil, e2, List.replicate_zero, List.append_nil] at this
    rw [List.map_append]
    exact this
  · intro d hd
    rcases List.mem_append.1 hd with hd | hd
    · refine (((h.ok d hd).up ((Up.refl _).alloc _)).up ((Up.refl _).alloc _)).of fun b hb => Below.heap_setCell _ _ _ _ ?_
      intro e
      subst e
      exact (List.nodup_cons.1 h.nodup).1 (List.mem_flatMap.2 ⟨d, hd, hb⟩)
    · simp at hd; subst hd
      refine ⟨?_, ?_⟩
      · refine VRow.setOther (b := wr.heap.size + 1) ?_ (by show wr.heap.size + 1 ≠ B; omega) _
        have := VRow.new (wr.alloc (.cells #[.int .i64 94, .int .i64 (-94)] 48)) [.slice (some ⟨wr.heap.size, 0, none⟩) 1 1] 46
        rw [hs1] at this
        exact this
      · intro x hx
        simp at hx; subst hx
        refine VRow.setOther (b := wr.heap.size) (VRow.alloc (VRow.new wr (flat [(94, -94)]) 48) _) (by show wr.heap.size ≠ B; omega) _
  · simp only [D3.bl]
    rw [List.flatMap_append, ← List.cons_append, List.nodup_append]
    refine ⟨h.nodup, by simp [D2.bl], ?_⟩
    intro a ha b hb
    have := h.lt a ha
    simp [D2.bl] at hb
    omega
  · intro b hb
    simp only [D3.bl] at hb
    rw [List.flatMap_append, ← List.cons_append] at hb
    rcases List.mem_append.1 hb with hb | hb
    · exact h.low b hb
    · simp [D2.bl] at hb; omega

end Go.Proofs.YtcclepohmhdpbabGreatDoor

/- THE WALKS: polygonslaw.marked. -/
namespace Go.Proofs.YtcclepohmhdpbabGreatDoor
set_option linter.all false
open Go.RowKit Go.Deep

theorem OK2.hdr {w : World} {d : D2} (h : OK2 w d) {i : Nat} {x : D1} (hx : d.rs[i]? = some x) : w.cell? ⟨d.b, i, none⟩ = some (.slice (some ⟨x.b, 0, none⟩) x.r.length (x.r.length + x.s.length)) := by
  have hx' : (d.rs ++ d.s)[i]? = some x := by rw [List.getElem?_append_left (Pl.lt_of_some hx)]; exact hx
  exact h.row.cell (i := i) (v := x.v) (by simp only [List.getElem?_map, hx']; rfl)
theorem OK3.hdr {w : World} {d : D3} (h : OK3 w d) {i : Nat} {x : D2} (hx : d.ps[i]? = some x) : w.cell? ⟨d.b, i, none⟩ = some (.slice (some ⟨x.b, 0, none⟩) x.rs.length (x.rs.length + x.s.length)) := by
  have hx' : (d.ps ++ d.s)[i]? = some x := by rw [List.getElem?_append_left (Pl.lt_of_some hx)]; exact hx
  exact h.row.cell (i := i) (v := x.v) (by simp only [List.getElem?_map, hx']; rfl)

/-- What marked reads of a ring. -/
theorem ring_marks {w : World} {x : D1} (h : OK1 w x) (hs : x.s = mk1) :
    w.cell? ⟨x.b, x.r.length * 2, none⟩ = some (.int .i64 91) ∧ w.cell? ⟨x.b, x.r.length * 2 + 1, none⟩ = some (.int .i64 (-91)) ∧ w.cell? ⟨x.b, (x.r.length + 1) * 2, none⟩ = some (.int .i64 92) ∧ w.cell? ⟨x.b, (x.r.length + 1) * 2 + 1, none⟩ = some (.int .i64 (-92)) := by
  have h' : PRow w x.b (x.r ++ mk1) := by rw [← hs]; exact h
  have h1 := h'.cells (i := x.r.length) (p := (91, -91)) (by rw [List.getElem?_append_right (Nat.le_refl _), Nat.sub_self]; rfl)
  have h2 := h'.cells (i := x.r.length + 1) (p := (92, -92)) (by rw [List.getElem?_append_right (by omega), show x.r.length + 1 - x.r.length = 1 by omega]; rfl)
  exact ⟨h1.1, h1.2, h2.1, h2.2⟩

theorem poly_marks {w : World} {x : D2} (h : OK2 w x) (hs : x.marked) :
    ∃ c, w.cell? ⟨x.b, x.rs.length, none⟩ = some (.slice (some ⟨c, 0, none⟩) 1 1) ∧ w.cell? ⟨c, 0, none⟩ = some (.int .i64 93) ∧ w.cell? ⟨c, 1, none⟩ = some (.int .i64 (-93)) := by
  obtain ⟨⟨c, e⟩, _⟩ := hs
  have h1 := h.row.cell (i := x.rs.length) (v := .slice (some ⟨c, 0, none⟩) 1 1) (by rw [e, List.map_append, List.getElem?_append_right (by simp), List.length_map, Nat.sub_self]; rfl)
  have h2 := h.sub ⟨c, [(93, -93)], []⟩ (by rw [e]; simp)
  have h3 := PRow.cells h2 (i := 0) (p := (93, -93)) rfl
  exact ⟨c, h1, h3.1, h3.2⟩

theorem set_marks {w : World} {x : D3} (h : OK3 w x) (hs : x.marked) :
    ∃ b c, w.cell? ⟨x.b, x.ps.length, none⟩ = some (.slice (some ⟨b, 0, none⟩) 1 1) ∧ w.cell? ⟨b, 0, none⟩ = some (.slice (some ⟨c, 0, none⟩) 1 1) ∧ w.cell? ⟨c, 0, none⟩ = some (.int .i64 94) ∧ w.cell? ⟨c, 1, none⟩ = some (.int .i64 (-94)) := by
  obtain ⟨⟨b, c, e⟩, _⟩ := hs
  have h1 := h.row.cell (i := x.ps.length) (v := .slice (some ⟨b, 0, none⟩) 1 1) (by rw [e, List.map_append, List.getElem?_append_right (by simp), List.length_map, Nat.sub_self]; rfl)
  have h2 := h.sub ⟨b, [⟨c, [(94, -94)], []⟩], []⟩ (by rw [e]; simp)
  have h2' := h2.row.cell (i := 0) (v := .slice (some ⟨c, 0, none⟩) 1 1) rfl
  have h3 := PRow.cells (h2.sub ⟨c, [(94, -94)], []⟩ (by simp)) (i := 0) (p := (94, -94)) rfl
  exact ⟨b, c, h1, h2', h3.1, h3.2⟩

end Go.Proofs.YtcclepohmhdpbabGreatDoor

/- WHAT (*World).spoil DOES TO MEMORY, step by step: no walk. -/
namespace Go.Proofs.YtcclepohmhdpbabGreatDoor
set_option linter.all false
open Go.RowKit Go.Deep

def hd1 (c : Nat) : Value := .slice (some ⟨c, 0, none⟩) 1 1
/-- So many marks the polygons take. -/
def off (ps : List D2) : Nat := (ps.map fun x => x.rs.length + 1).sum
/-- A ring of which i points are spoilt. -/
def spt (r s : Ring) (i : Nat) (mk : Int) : Ring := List.replicate i (-77, mk) ++ (r.drop i ++ s)

theorem spt_zero (r s : Ring) (mk : Int) : spt r s 0 mk = r ++ s := rfl
theorem spt_full (r s : Ring) (mk : Int) : spt r s r.length mk = List.replicate r.length (-77, mk) ++ s := by simp [spt]
theorem spt_step (r s : Ring) (i : Nat) (mk : Int) (h : i < r.length) : (spt r s i mk).set i (-77, mk) = spt r s (i + 1) mk := by
  unfold spt
  rw [List.set_append_right _ _ (by simp), List.length_replicate, Nat.sub_self, List.drop_eq_getElem_cons h, List.cons_append, List.set_cons_zero, List.replicate_succ', List.append_assoc]
  rfl
theorem spt_some (r s : Ring) (i : Nat) (mk : Int) (h : i < r.length) : ∃ p, (spt r s i mk)[i]? = some p := by
  unfold spt
  rw [List.getElem?_append_right (by simp), List.length_replicate, Nat.sub_self, List.drop_eq_getElem_cons h]
  exact ⟨_, rfl⟩

/-- Its places are being written: i are. -/
structure HL (w wq : World) (x : D2) (mk : Int) (i : Nat) (cs : List Nat) : Prop where
  fr : Fr (fun b => b = x.b) w wq
  row : VRow wq x.b 46 (cs.map hd1 ++ (x.rs.drop i ++ x.s).map D1.v)
  len : cs.length = i
  new : ∀ c ∈ cs, w.heap.size ≤ c ∧ PRow wq c [(77, mk)]

/-- A polygon that is spoilt. -/
def PD (w wq : World) (x : D2) (kk : Int) : Prop :=
  (∀ (i : Nat) y, x.rs[i]? = some y → RF1 (fun b => b ∈ x.bl ∨ w.heap.size ≤ b) wq y.v (List.replicate y.r.length (-77, kk + i))) ∧
  RF2 (fun b => b ∈ x.bl ∨ w.heap.size ≤ b) wq x.v (List.replicate x.rs.length [(77, kk + x.rs.length)])

/-- The set's places are being written. -/
structure FL (w wq : World) (d : D3) (mk : Int) (i : Nat) (es : List (Nat × Nat)) : Prop where
  fr : Fr (fun b => b = d.b) w wq
  row : VRow wq d.b 45 ((es.map fun e => hd1 e.1) ++ (d.ps.drop i ++ d.s).map D2.v)
  len : es.length = i
  new : ∀ e ∈ es, w.heap.size ≤ e.1 ∧ w.heap.size ≤ e.2 ∧ VRow wq e.1 46 [hd1 e.2] ∧ PRow wq e.2 [(777, mk)]

/-! ### Blocks that differ -/
theorem D3.ne_sub {d : D3} (h : d.bl.Nodup) {x : D2} (hx : x ∈ d.ps) : d.b ∉ x.bl := fun hb =>
  (List.nodup_cons.1 h).1 (List.mem_flatMap.2 ⟨x, List.mem_append_left _ hx, hb⟩)
theorem D3.mem_sub {d : D3} {x : D2} (hx : x ∈ d.ps) {b : Nat} (hb : b ∈ x.bl) : b ∈ d.bl :=
  List.mem_cons_of_mem _ (List.mem_flatMap.2 ⟨x, List.mem_append_left _ hx, hb⟩)
theorem D3.sub_nodup {d : D3} (h : d.bl.Nodup) {x : D2} (hx : x ∈ d.ps) : x.bl.Nodup :=
  (List.pairwise_flatMap.1 (List.nodup_cons.1 h).2).1 x (List.mem_append_left _ hx)
theorem D3.apart {d : D3} (h : d.bl.Nodup) {i j : Nat} {x y : D2} (hx : d.ps[i]? = some x) (hy : d.ps[j]? = some y) (hij : i ≠ j) {b : Nat} (hb : b ∈ x.bl) : b ∉ y.bl := by
  have hp := (List.pairwise_flatMap.1 (List.nodup_cons.1 h).2).2
  rw [List.pairwise_iff_getElem] at hp
  have hi := Pl.lt_of_some hx
  have hj := Pl.lt_of_some hy
  have hil : i < (d.ps ++ d.s).length := by rw [List.length_append]; omega
  have hjl : j < (d.ps ++ d.s).length := by rw [List.length_append]; omega
  have ex : (d.ps ++ d.s)[i] = x := by
    have : (d.ps ++ d.s)[i]? = some x := by rw [List.getElem?_append_left hi]; exact hx
    rw [List.getElem?_eq_getElem hil] at this; exact Option.some.inj this
  have ey : (d.ps ++ d.s)[j] = y := by
    have : (d.ps ++ d.s)[j]? = some y := by rw [List.getElem?_append_left hj]; exact hy
    rw [List.getElem?_eq_getElem hjl] at this; exact Option.some.inj this
  intro hb2
  rcases Nat.lt_or_gt_of_ne hij with hl | hl
  · have := hp i j hil hjl hl b (by rw [ex]; exact hb) b (by rw [ey]; exact hb2)
    exact this rfl
  · have := hp j i hjl hil hl b (by rw [ey]; exact hb2) b (by rw [ex]; exact hb)
    exact this rfl
theorem D2.ne_sub {x : D2} (h : x.bl.Nodup) {y : D1} (hy : y ∈ x.rs) : x.b ≠ y.b := fun e =>
  (List.nodup_cons.1 h).1 (by rw [e]; exact List.mem_map_of_mem (List.mem_append_left _ hy))
theorem D2.mem_sub {x : D2} {y : D1} (hy : y ∈ x.rs) : y.b ∈ x.bl := List.mem_cons_of_mem _ (List.mem_map_of_mem (List.mem_append_left _ hy))
theorem D2.rs_bl {x : D2} {b : Nat} (h : b ∈ x.rs.map D1.b) : b ∈ x.bl := by
  obtain ⟨y, hy, rfl⟩ := List.mem_map.1 h
  exact D2.mem_sub hy
theorem D2.apart {x : D2} (h : x.bl.Nodup) {i j : Nat} {y z : D1} (hy : x.rs[i]? = some y) (hz : x.rs[j]? = some z) (hij : i ≠ j) : y.b ≠ z.b := by
  have hp : List.Pairwise (· ≠ ·) ((x.rs ++ x.s).map D1.b) := (List.nodup_cons.1 h).2
  rw [List.pairwise_iff_getElem] at hp
  have hi := Pl.lt_of_some hy
  have hj := Pl.lt_of_some hz
  have hil : i < ((x.rs ++ x.s).map D1.b).length := by rw [List.length_map, List.length_append]; omega
  have hjl : j < ((x.rs ++ x.s).map D1.b).length := by rw [List.length_map, List.length_append]; omega
  have ey : ((x.rs ++ x.s).map D1.b)[i] = y.b := by
    have : ((x.rs ++ x.s).map D1.b)[i]? = some y.b := by rw [List.getElem?_map, List.getElem?_append_left hi, hy]; rfl
    rw [List.getElem?_eq_getElem hil] at this; exact Option.some.inj this
  have ez : ((x.rs ++ x.s).map D1.b)[j] = z.b := by
    have : ((x.rs ++ x.s).map D1.b)[j]? = some z.b := by rw [List.getElem?_map, List.getElem?_append_left hj, hz]; rfl
    rw [List.getElem?_eq_getElem hjl] at this; exact Option.some.inj this
  rcases Nat.lt_or_gt_of_ne hij with hl | hl
  · have := hp i j hil hjl hl; rw [ey, ez] at this; exact this
  · have := hp j i hjl hil hl; rw [ey, ez] at this; exact fun e => this e.symm

theorem off_le {ps : List D2} (h : ∀ x ∈ ps, x.rs.length ≤ 1048576) (p : Nat) : off (ps.take p) ≤ p * 1048577 := by
  unfold off
  refine Nat.le_trans (Pl.sum_le_mul (b := 1048577) ?_) ?_
  · intro n hn
    obtain ⟨x, hx, rfl⟩ := List.mem_map.1 hn
    have := h x (List.mem_of_mem_take hx)
    omega
  · rw [List.length_map, List.length_take]; exact Nat.mul_le_mul_right _ (Nat.min_le_left _ _)
theorem off_succ {ps : List D2} {p : Nat} {x : D2} (h : ps[p]? = some x) : off (ps.take (p + 1)) = off (ps.take p) + (x.rs.length + 1) := by
  unfold off; rw [Pl.take_one h]; simp

/-! ### The steps -/
theorem HL.step {w wq : World} {x : D2} {mk : Int} {i : Nat} {cs : List Nat} (h : HL w wq x mk i cs) (hi : i < x.rs.length) :
    HL w ((wq.alloc (.cells #[.int .i64 77, .int .i64 mk] 48)).setCell ⟨x.b, i, none⟩ (.slice (some ⟨wq.heap.size, 0, none⟩) 1 1)) x mk (i + 1) (cs ++ [wq.heap.size]) := by
  have hlt := h.row.lt
  refine ⟨(h.fr.alloc _).setCell rfl _, ?_, by simp [h.len], ?_⟩
  · have := (h.row.alloc (.cells #[.int .i64 77, .int .i64 mk] 48)).set i (hd1 wq.heap.size)
    rw [List.set_append_right _ _ (by simp [h.len]), List.length_map, h.len, Nat.sub_self, List.drop_eq_getElem_cons hi, List.cons_append, List.map_cons, List.set_cons_zero] at this
    rw [List.map_append, List.append_assoc]
    exact this
  · intro c hc
    rcases List.mem_append.1 hc with hc | hc
    · obtain ⟨h1, h2⟩ := h.new c hc
      exact ⟨h1, VRow.setOther (VRow.alloc h2 _) (by
        show c ≠ x.b
        intro e
        have e1 : VRow wq x.b 48 (flat [(77, mk)]) := e ▸ h2
        have e2 := h.row
        unfold VRow at e1 e2
        rw [e1] at e2
        simp at e2) _⟩
    · simp at hc; subst hc
      have := h.fr.size
      exact ⟨by omega, VRow.setOther (b := wq.heap.size) (VRow.new wq (flat [(77, mk)]) _) (by show wq.heap.size ≠ x.b; omega) _⟩

theorem FL.step {w wq : World} {d : D3} {mk : Int} {i : Nat} {es : List (Nat × Nat)} (h : FL w wq d mk i es) (hi : i < d.ps.length) (hdw : d.b < w.heap.size) :
    FL w (((wq.alloc (.cells #[.int .i64 777, .int .i64 mk] 48)).alloc (.cells #[.slice (some ⟨wq.heap.size, 0, none⟩) 1 1] 46)).setCell ⟨d.b, i, none⟩ (.slice (some ⟨wq.heap.size + 1, 0, none⟩) 1 1)) d mk (i + 1) (es ++ [(wq.heap.size + 1, wq.heap.size)]) := by
  have hlt := h.row.lt
  have hs1 : (wq.alloc (.cells #[.int .i64 777, .int .i64 mk] 48)).heap.size = wq.heap.size + 1 := by simp
  refine ⟨((h.fr.alloc _).alloc _).setCell rfl _, ?_, by simp [h.len], ?_⟩
  · have := ((h.row.alloc (.cells #[.int .i64 777, .int .i64 mk] 48)).alloc (.cells #[.slice (some ⟨wq.heap.size, 0, none⟩) 1 1] 46)).set i (hd1 (wq.heap.size + 1))
    rw [List.set_append_right _ _ (by simp [h.len]), List.length_map, h.len, Nat.sub_self, List.drop_eq_getElem_cons hi, List.cons_append, List.map_cons, List.set_cons_zero] at this
    rw [List.map_append, List.append_assoc]
    exact this
  · intro e he
    rcases List.mem_append.1 he with he | he
    · obtain ⟨h1, h2, h3, h4⟩ := h.new e he
      exact ⟨h1, h2, VRow.setOther ((VRow.alloc h3 _).alloc _) (by show e.1 ≠ d.b; omega) _, VRow.setOther (VRow.alloc (VRow.alloc h4 _) _) (by show e.2 ≠ d.b; omega) _⟩
    · simp at he; subst he
      have := h.fr.size
      refine ⟨by simp only; omega, by simp only; omega, ?_, ?_⟩
      · refine VRow.setOther (b := wq.heap.size + 1) ?_ (by show wq.heap.size + 1 ≠ d.b; omega) _
        have := VRow.new (wq.alloc (.cells #[.int .i64 777, .int .i64 mk] 48)) [hd1 wq.heap.size] 46
        rw [hs1] at this
        exact this
      · exact VRow.setOther (b := wq.heap.size) (VRow.alloc (VRow.new wq (flat [(777, mk)]) 48) _) (by show wq.heap.size ≠ d.b; omega) _

theorem PD.keep {w wr wz : World} {x : D2} {kk : Int} {S : Nat → Prop} (h : PD w wr x kk) (k : Fr S wr wz) (hF : ∀ b, b ∈ x.bl ∨ w.heap.size ≤ b → ¬ S b) : PD w wz x kk :=
  ⟨fun i y hy => (h.1 i y hy).keep k fun b _ hb => ⟨hb, hF b hb⟩, h.2.keep k fun b _ hb => ⟨hb, hF b hb⟩⟩

end Go.Proofs.YtcclepohmhdpbabGreatDoor

/- THE WALKS: (*World).noted. -/
namespace Go.Proofs.YtcclepohmhdpbabGreatDoor
set_option linter.all false
open Go.RowKit Go.Deep

def rvm : List D1 → Int → List (Value × Int)
  | [], _ => []
  | y :: t, k => (y.v, k) :: rvm t (k + 1)
def ringVM : List D2 → Int → List (Value × Int)
  | [], _ => []
  | x :: t, k => rvm x.rs k ++ ringVM t (k + x.rs.length + 1)
def polyVM : List D2 → Int → List (Value × Int)
  | [], _ => []
  | x :: t, k => (x.v, k + x.rs.length) :: polyVM t (k + x.rs.length + 1)

theorem rvm_snoc (a : List D1) (y : D1) : ∀ k : Int, rvm (a ++ [y]) k = rvm a k ++ [(y.v, k + a.length)] := by
  induction a with
  | nil => intro k; simp [rvm]
  | cons z t ih =>
    intro k
    show (z.v, k) :: rvm (t ++ [y]) (k + 1) = (z.v, k) :: (rvm t (k + 1) ++ _)
    rw [ih, List.length_cons, show k + 1 + (t.length : Int) = k + ((t.length + 1 : Nat) : Int) by omega]
theorem rvm_length (a : List D1) : ∀ k : Int, (rvm a k).length = a.length := by
  induction a with
  | nil => intro k; rfl
  | cons z t ih => intro k; simp [rvm, ih]
theorem rvm_mem (a : List D1) : ∀ (k : Int) (e : Value × Int), e ∈ rvm a k → ∃ (i : Nat) (y : D1), a[i]? = some y ∧ e = (y.v, k + i) := by
  induction a with
  | nil => intro k e h; cases h
  | cons z t ih =>
    intro k e h
    rcases List.mem_cons.1 h with rfl | h
    · exact ⟨0, z, rfl, by simp⟩
    · obtain ⟨i, y, hy, he⟩ := ih (k + 1) e h
      exact ⟨i + 1, y, by simpa using hy, by rw [he]; congr 1; omega⟩
theorem off_cons (x : D2) (t : List D2) : off (x :: t) = x.rs.length + 1 + off t := rfl
theorem ringVM_snoc (a : List D2) (x : D2) : ∀ k : Int, ringVM (a ++ [x]) k = ringVM a k ++ rvm x.rs (k + off a) := by
  induction a with
  | nil => intro k; simp [ringVM, off]
  | cons z t ih =>
    intro k
    show rvm z.rs k ++ ringVM (t ++ [x]) (k + z.rs.length + 1) = (rvm z.rs k ++ ringVM t (k + z.rs.length + 1)) ++ _
    rw [ih, off_cons, List.append_assoc, show k + (z.rs.length : Int) + 1 + (off t : Int) = k + ((z.rs.length + 1 + off t : Nat) : Int) by omega]
theorem polyVM_snoc (a : List D2) (x : D2) : ∀ k : Int, polyVM (a ++ [x]) k = polyVM a k ++ [(x.v, k + off a + x.rs.length)] := by
  induction a with
  | nil => intro k; simp [polyVM, off]
  | cons z t ih =>
    intro k
    show (z.v, k + z.rs.length) :: polyVM (t ++ [x]) (k + z.rs.length + 1) = (z.v, k + z.rs.length) :: (polyVM t (k + z.rs.length + 1) ++ _)
    rw [ih, off_cons, show k + (z.rs.length : Int) + 1 + (off t : Int) + (x.rs.length : Int) = k + ((z.rs.length + 1 + off t : Nat) : Int) + x.rs.length by omega]
theorem ringVM_mem (a : List D2) : ∀ (k : Int) (e : Value × Int), e ∈ ringVM a k → ∃ (j : Nat) (x : D2) (i : Nat) (y : D1), a[j]? = some x ∧ x.rs[i]? = some y ∧ e = (y.v, k + off (a.take j) + i) := by
  induction a with
  | nil => intro k e h; cases h
  | cons z t ih =>
    intro k e h
    rcases List.mem_append.1 h with h | h
    · obtain ⟨i, y, hy, he⟩ := rvm_mem _ _ _ h
      exact ⟨0, z, i, y, rfl, hy, by rw [he]; simp [off]⟩
    · obtain ⟨j, x, i, y, hx, hy, he⟩ := ih _ e h
      exact ⟨j + 1, x, i, y, by simpa using hx, hy, by rw [he, List.take_succ_cons, off_cons]; congr 1; omega⟩
theorem polyVM_mem (a : List D2) : ∀ (k : Int) (e : Value × Int), e ∈ polyVM a k → ∃ (j : Nat) (x : D2), a[j]? = some x ∧ e = (x.v, k + off (a.take j) + x.rs.length) := by
  induction a with
  | nil => intro k e h; cases h
  | cons z t ih =>
    intro k e h
    rcases List.mem_cons.1 h with rfl | h
    · exact ⟨0, z, rfl, by simp [off]⟩
    · obtain ⟨j, x, hx, he⟩ := ih _ e h
      exact ⟨j + 1, x, by simpa using hx, by rw [he, List.take_succ_cons, off_cons]; congr 1; omega⟩
theorem polyVM_length (a : List D2) : ∀ k : Int, (polyVM a k).length = a.length := by
  induction a with
  | nil => intro k; rfl
  | cons z t ih => intro k; simp [polyVM, ih]
theorem ringVM_le {a : List D2} (h : ∀ x ∈ a, x.rs.length ≤ 1048576) (k : Int) : (ringVM a k).length ≤ a.length * 1048576 := by
  induction a generalizing k with
  | nil => simp [ringVM]
  | cons z t ih =>
    have h1 := h z (by simp)
    have h2 := ih (fun x hx => h x (by simp [hx])) (k + z.rs.length + 1)
    simp only [ringVM, List.length_append, rvm_length, List.length_cons]
    omega

theorem el_polys : Elem Tryz.prog 42 45 (.slice none 0 0) 1 24 := ⟨und_polys, info_rings, rfl, by omega, by omega⟩
theorem el_rings : Elem Tryz.prog 45 46 (.slice none 0 0) 1 24 := ⟨und_rings, info_pts, rfl, by omega, by omega⟩
theorem el_ints : Elem Tryz.prog 107 3 (.int .i64 0) 1 8 := ⟨by kernel_rfl, by kernel_rfl, rfl, by omega, by omega⟩

def zhanded : List Value := [.slice none 0 0, .slice none 0 0, .slice none 0 0, .slice none 0 0, .slice none 0 0, .int .i64 0]

theorem up_grown {w a b : World} {row : Option Nat} (h : Up w a) (hg : a.grownBy b row) (hr : ∀ k, row = some k → w.heap.size ≤ k) : Up w b := Below.grown h hg h.size hr

theorem ne_some_of {o : Option Nat} {g : Nat} (h : o = none ∨ o ≠ some g) : o ≠ some g := by
  rcases h with rfl | h
  · exact fun e => by cases e
  · exact h

def intV (l : List (Value × Int)) : List Value := l.map fun e => .int .i64 e.2
def fstV (l : List (Value × Int)) : List Value := l.map fun e => e.1

theorem fstV_snoc (l : List (Value × Int)) (e : Value × Int) : fstV (l ++ [e]) = fstV l ++ [e.1] := by simp [fstV]
theorem intV_snoc (l : List (Value × Int)) (e : Value × Int) : intV (l ++ [e]) = intV l ++ [.int .i64 e.2] := by simp [intV]
theorem fstV_length (l : List (Value × Int)) : (fstV l).length = l.length := by simp [fstV]
theorem intV_length (l : List (Value × Int)) : (intV l).length = l.length := by simp [intV]

theorem ringVM_length (a : List D2) : ∀ k : Int, (ringVM a k).length = (a.map fun x => x.rs.length).sum := by
  induction a with
  | nil => intro k; rfl
  | cons z t ih => intro k; simp [ringVM, rvm_length, ih]
theorem ringVM_nR (d : D3) (p : Nat) (k : Int) : (ringVM (d.ps.take p) k).length ≤ Pl.nR d.m := by
  rw [ringVM_length]
  have e : Pl.nR d.m = (d.ps.map fun x => x.rs.length).sum := by
    unfold Pl.nR D3.m
    rw [List.map_map]
    congr 1
    apply List.map_congr_left
    intro x _
    simp [D2.pts]
  rw [e, List.map_take]
  exact Pl.sum_take_le _ _

theorem own_shape {w : World} {base : Nat} {e : TypeId} {size : Nat} {v : Value} {n : Nat} {xs : List Value} (h : w.ownsRow base e size v n xs) : ∃ a n k, v = .slice a n k := by
  rcases h.2 with ⟨rfl, _⟩ | ⟨g, cap, cur, rfl, _⟩
  · exact ⟨_, _, _, rfl⟩
  · exact ⟨_, _, _, rfl⟩

/-- What noted hands back: lists of its own. -/
structure NPost (w w' : World) (pv rv rmv pmv : Value) (P R : List (Value × Int)) : Prop where
  up : Up w w'
  opv : w'.ownsRow w.heap.size 45 1 pv P.length (fstV P)
  orv : w'.ownsRow w.heap.size 46 1 rv R.length (fstV R)
  orm : w'.ownsRow w.heap.size 3 1 rmv R.length (intV R)
  opm : w'.ownsRow w.heap.size 3 1 pmv P.length (intV P)

end Go.Proofs.YtcclepohmhdpbabGreatDoor
