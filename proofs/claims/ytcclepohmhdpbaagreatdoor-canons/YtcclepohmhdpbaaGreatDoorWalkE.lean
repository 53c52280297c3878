/- THE WALKS: the document's side: less of the same. -/
import Derived.Test.YtcclepohmhdpbaaGreatDoorWalkC
import Derived.Deep.DeepCutAuto
namespace Go.Proofs.YtcclepohmhdpbaaGreatDoor
set_option linter.all false
open Go.RowKit Go.Deep

set_option maxHeartbeats 1000000 in
theorem less_same (v u : Value) (r : Ring) (w : World) (hv : Rd1 w v r) (hu : Rd1 w u r) (hb : r.length ≤ 1048576) :
    Calls Tryz.prog 54 #[v, u] w fun e w' => e = .returned (.bool false) ∧ ∃ n, w' = w.drewN n := by
  obtain ⟨ao, cap, rfl, hm⟩ := hv
  obtain ⟨ao2, cap2, rfl, hm2⟩ := hu
  go_enter Tryz.func54, Tryz.ntmps54
  go_wp2
  go_loopw [5] (fun i wr => ∃ k : Nat, k ≤ r.length ∧ i = .int .i64 k ∧ ∃ n, wr = w.drewN n) (fun i _ => r.length - (intOf i).toNat)
  case atStart => exact ⟨0, Nat.zero_le _, rfl, 0, rfl⟩
  case round =>
    obtain ⟨k, hk, rfl, n, rfl⟩ := hrel
    by_cases hlt : k < r.length
    · obtain ⟨⟨x, y⟩, hp⟩ := Pl.some_of_lt hlt
      obtain ⟨b, rfl, c1, c2⟩ := hm k _ hp
      obtain ⟨b2, rfl, c3, c4⟩ := hm2 k _ hp
      dsimp only at c1 c2 c3 c4
      have hm' := hide hm
      have hm2' := hide hm2
      clear hm hm2 hp
      go_wp2
      go_quiet (fail)
      go_wp2
      go_quiet (fail)
      go_wp2
      go_roundw
      case rel => exact ⟨k + 1, by omega, by go_num, _, rfl⟩
      case measure => simp [intOf]; omega
    · have : k = r.length := by omega
      subst this
      go_wp2
      go_ret
      exact ⟨rfl, _, rfl⟩

set_option maxRecDepth 100000 in
set_option maxHeartbeats 2000000 in
theorem alike_same (v u : Value) (m : Mult) (w : World) (hv : Rd3 w v m) (hu : Rd3 w u m) (hb : Pl.Bd m) :
    Calls Tryz.prog 29 #[v, u] w fun e w' => e = .returned (.bool true) ∧ ∃ n, w' = w.drewN n := by
  obtain ⟨ao, cap, rfl, hm⟩ := hv
  obtain ⟨ao2, cap2, rfl, hm2⟩ := hu
  have hlen := hb.len
  have hb' := hide hb
  clear hb
  go_enter Tryz.func29, Tryz.ntmps29
  go_wp2
  go_loopw [5] (fun i wr => ∃ k : Nat, k ≤ m.length ∧ i = .int .i64 k ∧ Dr w wr) (fun i _ => m.length - (intOf i).toNat)
  case atStart => exact ⟨0, Nat.zero_le _, rfl, Dr.refl _⟩
  case round =>
    obtain ⟨k, hk, rfl, hdr⟩ := hrel
    have hdr' := hide hdr
    clear hdr
    by_cases hlt : k < m.length
    · obtain ⟨l, hl⟩ := Pl.some_of_lt hlt
      obtain ⟨b, x, rfl, hc, ao3, cap3, rfl, hr⟩ := hm k l hl
      obtain ⟨b2, y, rfl, hc2, ao4, cap4, rfl, hr2⟩ := hm2 k l hl
      have hll := hb'.out.poly l (Pl.mem_of_some hl)
      have hrr := hide (hb'.out.ring l (Pl.mem_of_some hl))
      have hm' := hide hm
      have hm2' := hide hm2
      have hr' := hide hr
      have hr2' := hide hr2
      have gc := hdr'.out.up.cell hc
      have gc2 := hdr'.out.up.cell hc2
      have hcH := hide hc
      have hcH2 := hide hc2
      clear hm hm2 hl hr hr2 hc hc2
      go_wp2
      go_quiet (fail)
      go_wp2
      go_loopw [6] (fun j wr => ∃ q : Nat, q ≤ l.length ∧ j = .int .i64 q ∧ Dr w wr) (fun j _ => l.length - (intOf j).toNat)
      case atStart => exact ⟨0, Nat.zero_le _, rfl, hdr'.out.n _⟩
      case round =>
        obtain ⟨q, hq, rfl, hdq⟩ := hrel
        have hdq' := hide hdq
        have ec := hdq.up.cell hcH.out
        have ec2 := hdq.up.cell hcH2.out
        clear hdq gc gc2
        by_cases hlq : q < l.length
        · obtain ⟨r, hr1⟩ := Pl.some_of_lt hlq
          obtain ⟨b3, x3, rfl, hc3, hd3⟩ := hr'.out q r hr1
          obtain ⟨b4, x4, rfl, hc4, hd4⟩ := hr2'.out q r hr1
          have hrl := hide (hrr.out r (Pl.mem_of_some hr1))
          have hd3' := hide (hd3.up hdq'.out.up)
          have hd4' := hide (hd4.up hdq'.out.up)
          have gc3 := hdq'.out.up.cell hc3
          have gc4 := hdq'.out.up.cell hc4
          clear hr1 hd3 hd4 hc3 hc4
          go_wp2
          go_quiet ((go_at_call 54; refine Calls.quiet_of (less_same _ _ r _ ?_ ?_ ?_); exact hd3'.out.up ((Up.refl _).drewN _); exact hd4'.out.up ((Up.refl _).drewN _); exact hrl.out))
          have hdx : Dr wr (wr.drewN nq) := ⟨nq, rfl⟩
          generalize wr.drewN nq = wx at hdx ⊢
          have hdx' := hide hdx
          have xc := hdx.up.cell ec
          have xc2 := hdx.up.cell ec2
          have xc3 := hdx.up.cell gc3
          have xc4 := hdx.up.cell gc4
          clear hdx ec ec2 gc3 gc4
          go_wp2
          go_quiet ((go_at_call 54; refine Calls.quiet_of (less_same _ _ r _ ?_ ?_ ?_); exact (hd4'.out.up hdx'.out.up).up ((Up.refl _).drewN _); exact (hd3'.out.up hdx'.out.up).up ((Up.refl _).drewN _); exact hrl.out))
          go_wp2
          go_roundw
          case rel => exact ⟨q + 1, by omega, by go_num, (hdq'.out.trans hdx'.out).n _⟩
          case measure => simp [intOf]; omega
        · have : q = l.length := by omega
          subst this
          go_wp2
          go_roundw
          case rel => exact ⟨k + 1, by omega, by go_num, hdq'.out⟩
          case measure => simp [intOf]; omega
    · have : k = m.length := by omega
      subst this
      go_wp2
      go_ret
      exact ⟨rfl, hdr'.out⟩

/-- The points are a set's, without spare room. -/
theorem OK2.header {w : World} {d : D2} (h : OK2 w d) (hb : d.bare) {i : Nat} {x : D1} (hx : d.rs[i]? = some x) : w.cell? ⟨d.b, i, none⟩ = some (.slice (some ⟨x.b, 0, none⟩) x.r.length x.r.length) := by
  have hx' : (d.rs ++ d.s)[i]? = some x := by rw [List.getElem?_append_left (Pl.lt_of_some hx)]; exact hx
  have := h.row.cell (i := i) (v := x.v) (by simp only [List.getElem?_map, hx']; rfl)
  rw [this, D1.v, hb.2 x (Pl.mem_of_some hx)]; rfl
theorem OK3.header {w : World} {d : D3} (h : OK3 w d) (hb : d.bare) {i : Nat} {x : D2} (hx : d.ps[i]? = some x) : w.cell? ⟨d.b, i, none⟩ = some (.slice (some ⟨x.b, 0, none⟩) x.rs.length x.rs.length) := by
  have hx' : (d.ps ++ d.s)[i]? = some x := by rw [List.getElem?_append_left (Pl.lt_of_some hx)]; exact hx
  have := h.row.cell (i := i) (v := x.v) (by simp only [List.getElem?_map, hx']; rfl)
  rw [this, D2.v, (hb.2 x (Pl.mem_of_some hx)).1]; rfl
theorem OK3.subp {w : World} {d : D3} (h : OK3 w d) {i : Nat} {x : D2} (hx : d.ps[i]? = some x) : OK2 w x := h.sub x (List.mem_append_left _ (Pl.mem_of_some hx))
theorem OK2.subr {w : World} {d : D2} (h : OK2 w d) {i : Nat} {x : D1} (hx : d.rs[i]? = some x) : OK1 w x := h.sub x (List.mem_append_left _ (Pl.mem_of_some hx))

set_option maxRecDepth 100000 in
set_option maxHeartbeats 2000000 in
theorem like_any (d : D3) (u : Value) (m : Mult) (w : World) (hd : OK3 w d) (hdb : d.bare) (hm : d.m = m) (hu : Rd3 w u m) (hb : Pl.Bd m) :
    Calls Tryz.prog 83 #[d.v, u] w fun e w' => e = .returned (.bool true) ∧ Dr w w' := by
  have hr := hide hd.rd
  rw [hm] at hr
  have hu' := hide hu
  have hb' := hide hb
  have hlen := hb.len
  have hl1 : d.ps.length = m.length := by rw [← hm]; simp [D3.m]
  have hl2 : Hid (∀ x ∈ d.ps, x.rs.length ≤ 1048576) := by
    intro x hx
    have := hb.poly x.pts (by rw [← hm]; exact List.mem_map_of_mem hx)
    simpa [D2.pts] using this
  have hd' := hide hd
  have hdb' := hide hdb
  have hv : d.v = .slice (some ⟨d.b, 0, none⟩) d.ps.length d.ps.length := by rw [D3.v, hdb.1]; rfl
  rw [hv] at hr ⊢
  have hl3 : d.ps.length ≤ 1048576 := by omega
  clear hv hu hb hm hd hdb hl1 hlen
  go_enter Tryz.func83, Tryz.ntmps83
  go_wp2_with (go_at_call 29; refine (alike_same _ _ m _ ?_ ?_ ?_).mono ?_; exact hr.out; exact hu'.out; exact hb'.out; rintro e w1 ⟨rfl, hdr⟩; replace hdr := hide (show Dr w w1 from hdr))
  go_loopw [6] (fun i wr => ∃ k : Nat, k ≤ d.ps.length ∧ i = .int .i64 k ∧ Dr w wr) (fun i _ => d.ps.length - (intOf i).toNat)
  case atStart => exact ⟨0, Nat.zero_le _, rfl, hdr.out⟩
  case round =>
    obtain ⟨k, hk, rfl, hdk⟩ := hrel
    have hdk' := hide hdk
    clear hdk
    by_cases hlt : k < d.ps.length
    · obtain ⟨x, hx⟩ := Pl.some_of_lt hlt
      have hxl := hl2.out x (Pl.mem_of_some hx)
      have hc := hide (hd'.out.header hdb'.out hx)
      have gc := hdk'.out.up.cell hc.out
      have hox := hide (hd'.out.subp hx)
      have hobx := hide (hdb'.out.2 x (Pl.mem_of_some hx))
      clear hx
      go_wp2
      go_quiet (fail)
      go_wp2
      clear gc
      go_loopw [7] (fun j wr => ∃ q : Nat, q ≤ x.rs.length ∧ j = .int .i64 q ∧ Dr w wr) (fun j _ => x.rs.length - (intOf j).toNat)
      case atStart => exact ⟨0, Nat.zero_le _, rfl, hdk'.out.n _⟩
      case round =>
        obtain ⟨q, hq, rfl, hdq⟩ := hrel
        have hdq' := hide hdq
        clear hdq
        have ec := hdq'.out.up.cell hc.out
        by_cases hlq : q < x.rs.length
        · obtain ⟨y, hy⟩ := Pl.some_of_lt hlq
          have ec2 := hdq'.out.up.cell (hox.out.header hobx.out hy)
          clear hy
          go_wp2
          go_quiet (fail)
          go_wp2
          go_roundw
          case rel => exact ⟨q + 1, by omega, by go_num, hdq'.out.n _⟩
          case measure => simp [intOf]; omega
        · have : q = x.rs.length := by omega
          subst this
          go_wp2
          go_roundw
          case rel => exact ⟨k + 1, by omega, by go_num, hdq'.out⟩
          case measure => simp [intOf]; omega
    · have : k = d.ps.length := by omega
      subst this
      go_wp2
      go_ret
      exact ⟨rfl, hdk'.out⟩

end Go.Proofs.YtcclepohmhdpbaaGreatDoor
