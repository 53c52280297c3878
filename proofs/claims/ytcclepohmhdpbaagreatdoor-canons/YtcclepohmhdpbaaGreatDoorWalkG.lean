/- THE WALKS: polygonslaw.marked. -/
import Derived.Test.YtcclepohmhdpbaaGreatDoorWalkF
namespace Go.Proofs.YtcclepohmhdpbaaGreatDoor
set_option linter.all false
open Go.RowKit Go.Deep

theorem OK2.hdr {w : World} {d : D2} (h : OK2 w d) {i : Nat} {x : D1} (hx : d.rs[i]? = some x) : w.cell? ⟨d.b, i, none⟩ = some (.slice (some ⟨x.b, 0, none⟩) x.r.length (x.r.length + x.s.length)) := by
  have hx' : (d.rs ++ d.s)[i]? = some x := by rw [List.getElem?_append_left (Pl.lt_of_some hx)]; exact hx
  exact h.row.cell (i := i) (v := x.v) (by simp only [List.getElem?_map, hx']; rfl)
theorem OK3.hdr {w : World} {d : D3} (h : OK3 w d) {i : Nat} {x : D2} (hx : d.ps[i]? = some x) : w.cell? ⟨d.b, i, none⟩ = some (.slice (some ⟨x.b, 0, none⟩) x.rs.length (x.rs.length + x.s.length)) := by
  have hx' : (d.ps ++ d.s)[i]? = some x := by rw [List.getElem?_append_left (Pl.lt_of_some hx)]; exact hx
  exact h.row.cell (i := i) (v := x.v) (by simp only [List.getElem?_map, hx']; rfl)

/-- What marked reads of a ring. -/
theorem ring_marks {w : World} {x : D1} (h : OK1 w x) (hs : x.s = mk1) :
    w.cell? ⟨x.b, x.r.length * 2, none⟩ = some (.int .i64 91) ∧ w.cell? ⟨x.b, x.r.length * 2 + 1, none⟩ = some (.int .i64 (-91)) ∧ w.cell? ⟨x.b, (x.r.length + 1) * 2, none⟩ = some (.int .i64 92) ∧ w.cell? ⟨x.b, (x.r.length + 1) * 2 + 1, none⟩ = some (.int .i64 (-92)) := by
  have h' : PRow w x.b (x.r ++ mk1) := by rw [← hs]; exact h
  have h1 := h'.cells (i := x.r.length) (p := (91, -91)) (by rw [List.getElem?_append_right (Nat.le_refl _), Nat.sub_self]; rfl)
  have h2 := h'.cells (i := x.r.length + 1) (p := (92, -92)) (by rw [List.getElem?_append_right (by omega), show x.r.length + 1 - x.r.length = 1 by omega]; rfl)
  exact ⟨h1.1, h1.2, h2.1, h2.2⟩

theorem poly_marks {w : World} {x : D2} (h : OK2 w x) (hs : x.marked) :
    ∃ c, w.cell? ⟨x.b, x.rs.length, none⟩ = some (.slice (some ⟨c, 0, none⟩) 1 1) ∧ w.cell? ⟨c, 0, none⟩ = some (.int .i64 93) ∧ w.cell? ⟨c, 1, none⟩ = some (.int .i64 (-93)) := by
  obtain ⟨⟨c, e⟩, _⟩ := hs
  have h1 := h.row.cell (i := x.rs.length) (v := .slice (some ⟨c, 0, none⟩) 1 1) (by rw [e, List.map_append, List.getElem?_append_right (by simp), List.length_map, Nat.sub_self]; rfl)
  have h2 := h.sub ⟨c, [(93, -93)], []⟩ (by rw [e]; simp)
  have h3 := PRow.cells h2 (i := 0) (p := (93, -93)) rfl
  exact ⟨c, h1, h3.1, h3.2⟩

theorem set_marks {w : World} {x : D3} (h : OK3 w x) (hs : x.marked) :
    ∃ b c, w.cell? ⟨x.b, x.ps.length, none⟩ = some (.slice (some ⟨b, 0, none⟩) 1 1) ∧ w.cell? ⟨b, 0, none⟩ = some (.slice (some ⟨c, 0, none⟩) 1 1) ∧ w.cell? ⟨c, 0, none⟩ = some (.int .i64 94) ∧ w.cell? ⟨c, 1, none⟩ = some (.int .i64 (-94)) := by
  obtain ⟨⟨b, c, e⟩, _⟩ := hs
  have h1 := h.row.cell (i := x.ps.length) (v := .slice (some ⟨b, 0, none⟩) 1 1) (by rw [e, List.map_append, List.getElem?_append_right (by simp), List.length_map, Nat.sub_self]; rfl)
  have h2 := h.sub ⟨b, [⟨c, [(94, -94)], []⟩], []⟩ (by rw [e]; simp)
  have h2' := h2.row.cell (i := 0) (v := .slice (some ⟨c, 0, none⟩) 1 1) rfl
  have h3 := PRow.cells (h2.sub ⟨c, [(94, -94)], []⟩ (by simp)) (i := 0) (p := (94, -94)) rfl
  exact ⟨b, c, h1, h2', h3.1, h3.2⟩

set_option maxRecDepth 100000 in
set_option maxHeartbeats 4000000 in
theorem marked_any (d : D3) (m : Mult) (w : World) (hd : OK3 w d) (hmk : d.marked) (hm : d.m = m) (hb : Pl.Bd m) :
    Calls Tryz.prog 30 #[d.v] w fun e w' => e = .returned (.bool true) ∧ w' = w := by
  have hl1 : d.ps.length = m.length := by rw [← hm]; simp [D3.m]
  have hl2 : Hid (∀ x ∈ d.ps, x.rs.length ≤ 1048576) := by
    intro x hx
    have := hb.poly x.pts (by rw [← hm]; exact List.mem_map_of_mem hx)
    simpa [D2.pts] using this
  have hl4 : Hid (∀ x ∈ d.ps, ∀ y ∈ x.rs, y.r.length ≤ 1048576) := by
    intro x hx y hy
    exact hb.ring x.pts (by rw [← hm]; exact List.mem_map_of_mem hx) y.r (List.mem_map_of_mem hy)
  have hl3 : d.ps.length ≤ 1048576 := by have := hb.len; omega
  have hv : d.v = .slice (some ⟨d.b, 0, none⟩) d.ps.length (d.ps.length + 1) := by
    obtain ⟨⟨b, c, e⟩, _⟩ := hmk
    rw [D3.v, e]; rfl
  rw [hv]
  obtain ⟨b0, c0, m1, m2, m3, m4⟩ := set_marks hd hmk
  have hd' := hide hd
  have hmk' := hide hmk
  clear hd hmk hm hb hv hl1
  go_enter Tryz.func30, Tryz.ntmps30
  go_wp2
  clear m1 m2 m3 m4
  go_loop [5] (fun i => ∃ k : Nat, k ≤ d.ps.length ∧ i = .int .i64 k) (fun i => d.ps.length - (intOf i).toNat)
  case atStart => exact ⟨0, Nat.zero_le _, rfl⟩
  case round =>
    obtain ⟨k, hk, rfl⟩ := hrel
    by_cases hlt : k < d.ps.length
    · obtain ⟨x, hx⟩ := Pl.some_of_lt hlt
      have hxl := hl2.out x (Pl.mem_of_some hx)
      have hc := hd'.out.hdr hx
      have hox := hide (hd'.out.sub x (List.mem_append_left _ (Pl.mem_of_some hx)))
      have hmx := hide (hmk'.out.2 x (Pl.mem_of_some hx))
      have hxs : x.s.length = 1 := by obtain ⟨c, e⟩ := hmx.out.1; rw [e]; rfl
      rw [hxs] at hc
      obtain ⟨c, n1, n2, n3⟩ := poly_marks hox.out hmx.out
      have hl5 := hide (hl4.out x (Pl.mem_of_some hx))
      clear hx hxs
      go_wp2
      clear n1 n2 n3
      go_loop [8] (fun j => ∃ q : Nat, q ≤ x.rs.length ∧ j = .int .i64 q) (fun j => x.rs.length - (intOf j).toNat)
      case atStart => exact ⟨0, Nat.zero_le _, rfl⟩
      case round =>
        obtain ⟨q, hq, rfl⟩ := hrel
        by_cases hlq : q < x.rs.length
        · obtain ⟨y, hy⟩ := Pl.some_of_lt hlq
          have hyl := hl5.out y (Pl.mem_of_some hy)
          have hcy := hox.out.hdr hy
          have hys := hmx.out.2 y (Pl.mem_of_some hy)
          obtain ⟨r1, r2, r3, r4⟩ := ring_marks (hox.out.sub y (List.mem_append_left _ (Pl.mem_of_some hy))) hys
          rw [hys, show mk1.length = 2 from rfl] at hcy
          clear hy hys
          go_wp2
          go_round
          case rel => exact ⟨q + 1, by omega, by go_num⟩
          case measure => simp [intOf]; omega
        · have : q = x.rs.length := by omega
          subst this
          go_wp2
          go_round
          case rel => exact ⟨k + 1, by omega, by go_num⟩
          case measure => simp [intOf]; omega
    · have : k = d.ps.length := by omega
      subst this
      go_wp2
      go_ret
      exact ⟨rfl, rfl⟩

end Go.Proofs.YtcclepohmhdpbaaGreatDoor
