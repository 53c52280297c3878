import Derived.Test.YtcclepohmhdpbabGreatDoorPnA
import Derived.Test.YtcclepohmhdpbabGreatDoorVdG
import Derived.Deep.DeepCutAuto
namespace Go.Proofs.YtcclepohmhdpbabGreatDoor
set_option linter.all false
open Go.RowKit Go.Deep
def smv (v : Pnt) (r s : Ring) (i : Nat) : Ring := (r.take i).map (Vd.mv v) ++ (r.drop i ++ s)
theorem smv_zero (v : Pnt) (r s : Ring) : smv v r s 0 = r ++ s := by simp [smv]
theorem smv_full (v : Pnt) (r s : Ring) : smv v r s r.length = Vd.mvR v r ++ s := by simp [smv, Vd.mvR]
theorem smv_at (v : Pnt) {r : Ring} (s : Ring) {i : Nat} {p : Pnt} (h : r[i]? = some p) : (smv v r s i)[i]? = some p := by
  have hi := Pl.lt_of_some h
  unfold smv
  rw [List.getElem?_append_right (by simp; omega), List.length_map, List.length_take, Nat.min_eq_left (by omega), Nat.sub_self, List.getElem?_append_left (by simp; omega), List.getElem?_drop]
  simpa using h
theorem smv_step (v : Pnt) {r : Ring} (s : Ring) {i : Nat} {p : Pnt} (h : r[i]? = some p) : (smv v r s i).set i (Vd.mv v p) = smv v r s (i + 1) := by
  have hi := Pl.lt_of_some h
  have hd : r.drop i = p :: r.drop (i + 1) := by
    rw [List.drop_eq_getElem_cons hi]
    rw [List.getElem?_eq_getElem hi] at h
    rw [Option.some.inj h]
  unfold smv
  rw [List.set_append_right _ _ (by simp; omega), List.length_map, List.length_take, Nat.min_eq_left (by omega), Nat.sub_self, hd, List.cons_append, List.set_cons_zero, Pl.take_one h, List.map_append, List.append_assoc]
  rfl
structure RM (v : Pnt) (w wq : World) (x : D2) (q : Nat) : Prop where
  fr : Fr (fun b => b ∈ x.rs.map D1.b) w wq
  done : ∀ i y, i < q → x.rs[i]? = some y → PRow wq y.b (Vd.mvR v y.r ++ y.s)
  todo : ∀ i y, q ≤ i → x.rs[i]? = some y → OK1 wq y
structure PM2 (v : Pnt) (w : World) (x : D2) : Prop where
  row : VRow w x.b 46 ((x.rs ++ x.s).map D1.v)
  sub : ∀ y ∈ x.rs, PRow w y.b (Vd.mvR v y.r ++ y.s)
structure PM (v : Pnt) (w wq : World) (d : D3) (p : Nat) : Prop where
  fr : Fr (fun b => b ∈ d.bl) w wq
  row : VRow wq d.b 45 ((d.ps ++ d.s).map D2.v)
  done : ∀ j x, j < p → d.ps[j]? = some x → PM2 v wq x
  todo : ∀ j x, p ≤ j → d.ps[j]? = some x → OK2 wq x
theorem RM.step {v : Pnt} {w wq wz : World} {x : D2} {q : Nat} (h : RM v w wq x q) (hnd : x.bl.Nodup) {y : D1} (hy : x.rs[q]? = some y) (hfr : Fr (fun b => b = y.b) wq wz) (hrow : PRow wz y.b (smv v y.r y.s y.r.length)) : RM v w wz x (q + 1) := by
  have hym : y ∈ x.rs := Pl.mem_of_some hy
  refine ⟨h.fr.trans (hfr.mono ?_), ?_, ?_⟩
  · rintro b _ rfl
    exact List.mem_map_of_mem hym
  · intro i z hi hz
    rcases Nat.lt_or_ge i q with hlt | hge
    · exact hfr.row (h.done i z hlt hz) (D2.apart hnd hz hy (by omega))
    · obtain rfl : i = q := by omega
      rw [hy] at hz; cases hz
      rw [smv_full] at hrow
      exact hrow
  · intro i z hi hz
    exact hfr.ok1 (h.todo i z (by omega) hz) (D2.apart hnd hz hy (by omega))
theorem PM2.keep {v : Pnt} {w w' : World} {x : D2} {S : Nat → Prop} (h : PM2 v w x) (k : Fr S w w') (hs : ∀ b ∈ x.bl, ¬ S b) : PM2 v w' x :=
  ⟨k.row h.row (hs _ (by simp [D2.bl])), fun y hy => k.row (h.sub y hy) (hs _ (D2.mem_sub hy))⟩
theorem PM.step {v : Pnt} {w wr w1 : World} {d : D3} {p : Nat} (h : PM v w wr d p) (hnd : d.bl.Nodup) {x : D2} (hx : d.ps[p]? = some x) (hxo : OK2 wr x) (h1 : RM v wr w1 x x.rs.length) : PM v w w1 d (p + 1) := by
  have hxm : x ∈ d.ps := Pl.mem_of_some hx
  have hxn := D3.sub_nodup hnd hxm
  refine ⟨h.fr.trans (h1.fr.mono ?_), ?_, ?_, ?_⟩
  · intro b _ hb
    exact D3.mem_sub hxm (D2.rs_bl hb)
  · exact h1.fr.row h.row fun e => D3.ne_sub hnd hxm (D2.rs_bl e)
  · intro j z hj hz
    rcases Nat.lt_or_ge j p with hlt | hge
    · exact (h.done j z hlt hz).keep h1.fr fun b hb e => D3.apart hnd hz hx (by omega) hb (D2.rs_bl e)
    · obtain rfl : j = p := by omega
      rw [hx] at hz; cases hz
      refine ⟨h1.fr.row hxo.row ?_, fun y hy => ?_⟩
      · intro e
        obtain ⟨y, hy, e⟩ := List.mem_map.1 e
        exact D2.ne_sub hxn hy e.symm
      · obtain ⟨i, hi⟩ := List.mem_iff_getElem?.1 hy
        exact h1.done i y (Pl.lt_of_some hi) hi
  · intro j z hj hz
    exact h1.fr.ok2 (h.todo j z (by omega) hz) fun b hb e => D3.apart hnd hz hx (by omega) hb (D2.rs_bl e)
theorem PM.rd {v : Pnt} {w wq : World} {d : D3} (h : PM v w wq d d.ps.length) : Rd3 wq d.v (Vd.mvM v d.m) := by
  refine ⟨some ⟨d.b, 0, none⟩, d.ps.length + d.s.length, by unfold D3.v; rw [Vd.mvM_len]; simp [D3.m], fun i l hl => ?_⟩
  unfold Vd.mvM D3.m at hl
  rw [List.getElem?_map, List.getElem?_map] at hl
  obtain ⟨l0, h0, rfl⟩ := Option.map_eq_some_iff.1 hl
  obtain ⟨x, hx, rfl⟩ := Option.map_eq_some_iff.1 h0
  have hi := Pl.lt_of_some hx
  have hp := h.done i x hi hx
  refine ⟨d.b, x.v, rfl, h.row.cell (by rw [List.map_append, List.getElem?_append_left (by simpa using hi), List.getElem?_map, hx]; rfl), some ⟨x.b, 0, none⟩, x.rs.length + x.s.length, by unfold D2.v; rw [Vd.mvL_len]; simp [D2.pts], fun j r hr => ?_⟩
  unfold Vd.mvL D2.pts at hr
  rw [List.getElem?_map, List.getElem?_map] at hr
  obtain ⟨r0, h0, rfl⟩ := Option.map_eq_some_iff.1 hr
  obtain ⟨y, hy, rfl⟩ := Option.map_eq_some_iff.1 h0
  have hj := Pl.lt_of_some hy
  have hq := hp.sub y (Pl.mem_of_some hy)
  refine ⟨x.b, y.v, rfl, hp.row.cell (by rw [List.map_append, List.getElem?_append_left (by simpa using hj), List.getElem?_map, hy]; rfl), some ⟨y.b, 0, none⟩, y.r.length + y.s.length, by unfold D1.v; rw [Vd.mvR_len], fun k pt hk => ⟨y.b, rfl, ?_⟩⟩
  exact hq.cells (by rw [List.getElem?_append_left (Pl.lt_of_some hk)]; exact hk)
set_option maxRecDepth 100000 in
set_option maxHeartbeats 8000000 in
theorem shifted_any (d : D3) (a b : Int) (w : World) (hd : OK3 w d) (hnd : d.bl.Nodup) (hb : Pl.Bd d.m) (ha1 : -1048576 ≤ a) (ha2 : a ≤ 1048576) (hb1 : -1048576 ≤ b) (hb2 : b ≤ 1048576) (hc : ∀ l ∈ d.m, ∀ r ∈ l, ∀ p ∈ r, (-1048576 ≤ p.1 ∧ p.1 ≤ 1048576) ∧ -1048576 ≤ p.2 ∧ p.2 ≤ 1048576) :
    Calls Tryz.prog 24 #[d.v, .int .i64 a, .int .i64 b] w fun e w' => e = .returned d.v ∧ Fr (fun x => x ∈ d.bl) w w' ∧ Rd3 w' d.v (Vd.mvM (a, b) d.m) := by
  have hl2 : Hid (∀ x ∈ d.ps, x.rs.length ≤ 1048576) := by
    intro x hx
    have := hb.poly x.pts (List.mem_map_of_mem hx)
    simpa [D2.pts] using this
  have hl4 : Hid (∀ x ∈ d.ps, ∀ y ∈ x.rs, y.r.length ≤ 1048576) := by
    intro x hx y hy
    exact hb.ring x.pts (List.mem_map_of_mem hx) y.r (List.mem_map_of_mem hy)
  have hc4 : Hid (∀ x ∈ d.ps, ∀ y ∈ x.rs, ∀ p ∈ y.r, (-1048576 ≤ p.1 ∧ p.1 ≤ 1048576) ∧ -1048576 ≤ p.2 ∧ p.2 ≤ 1048576) := by
    intro x hx y hy p hp
    exact hc x.pts (List.mem_map_of_mem hx) y.r (List.mem_map_of_mem hy) p hp
  have hl3 : d.ps.length ≤ 1048576 := by have := hb.len; simpa [D3.m] using this
  have hst : Hid (PM (a, b) w w d 0) := ⟨Fr.refl _ _, hd.row, fun j x hj => by omega, fun j x _ hx => hd.sub x (List.mem_append_left _ (Pl.mem_of_some hx))⟩
  rw [D3.v]
  have hnd' := hide hnd
  clear hd hnd hb hc
  go_enter Tryz.func24, Tryz.ntmps24
  go_wp2
  go_loopw [7] (fun i wq => ∃ p : Nat, p ≤ d.ps.length ∧ i = .int .i64 p ∧ PM (a, b) w wq d p) (fun i _ => d.ps.length - (intOf i).toNat)
  case atStart => exact ⟨0, Nat.zero_le _, rfl, hst.out⟩
  case round =>
    obtain ⟨p, hp, rfl, hsp⟩ := hrel
    have hsp' := hide hsp
    by_cases hlt : p < d.ps.length
    · obtain ⟨x, hx⟩ := Pl.some_of_lt hlt
      have hx' := hide hx
      have hxl := hl2.out x (Pl.mem_of_some hx)
      have hyl := hide (hl4.out x (Pl.mem_of_some hx))
      have hcl := hide (hc4.out x (Pl.mem_of_some hx))
      have hxc := hsp.row.cell (i := p) (v := .slice (some ⟨x.b, 0, none⟩) x.rs.length (x.rs.length + x.s.length)) (by simp only [List.getElem?_map, List.getElem?_append_left hlt, hx]; rfl)
      have hxc' := hide hxc
      have hxo := hide (hsp.todo p x (Nat.le_refl _) hx)
      have hdb : Hid (d.b ∉ x.rs.map D1.b ∧ x.b ∉ x.rs.map D1.b) := by
        have hxm := Pl.mem_of_some hx
        have hxn := D3.sub_nodup hnd'.out hxm
        have h1 := D3.ne_sub hnd'.out hxm
        refine ⟨fun e => h1 (D2.rs_bl e), fun e => ?_⟩
        obtain ⟨y, hy, e⟩ := List.mem_map.1 e
        exact D2.ne_sub hxn hy e.symm
      have hrl0 : Hid (RM (a, b) wr wr x 0) := ⟨Fr.refl _ _, fun i y hi => by omega, fun i y _ hy => hxo.out.sub y (List.mem_append_left _ (Pl.mem_of_some hy))⟩
      have hxn := hide (D3.sub_nodup hnd'.out (Pl.mem_of_some hx))
      clear hsp hx
      go_wp2
      clear hxc
      go_loopw [8] (fun j wq => ∃ q : Nat, q ≤ x.rs.length ∧ j = .int .i64 q ∧ RM (a, b) wr wq x q) (fun j _ => x.rs.length - (intOf j).toNat)
      case atStart => exact ⟨0, Nat.zero_le _, rfl, hrl0.out⟩
      case round =>
        obtain ⟨q, hq, rfl, hrl⟩ := hrel
        have hrl' := hide hrl
        have ec := hrl.fr.cell hxc'.out (fun h => hdb.out.1 h)
        by_cases hlq : q < x.rs.length
        · obtain ⟨y, hy⟩ := Pl.some_of_lt hlq
          have hy' := hide hy
          have hyb := hyl.out y (Pl.mem_of_some hy)
          have hyc := hide (hcl.out y (Pl.mem_of_some hy))
          have hxrow := hrl.fr.row hxo.out.row (fun h => hdb.out.2 h)
          have ec2 := hxrow.cell (i := q) (v := .slice (some ⟨y.b, 0, none⟩) y.r.length (y.r.length + y.s.length)) (by simp only [List.getElem?_map, List.getElem?_append_left hlq, hy]; rfl)
          have ecH := hide ec
          have ec2H := hide ec2
          have hyo := hide (hrl.todo q y (Nat.le_refl _) hy)
          have hym := hide (List.mem_map_of_mem (f := D1.b) (Pl.mem_of_some hy))
          have hne1 : Hid (d.b ≠ y.b ∧ x.b ≠ y.b) := ⟨fun e => hdb.out.1 (e ▸ hym.out), fun e => hdb.out.2 (e ▸ hym.out)⟩
          clear hrl hy hxrow
          go_wp2
          clear ec ec2
          go_loopw [9] (fun j wz => ∃ i : Nat, i ≤ y.r.length ∧ j = .int .i64 i ∧ Fr (fun b => b = y.b) wr wz ∧ PRow wz y.b (smv (a, b) y.r y.s i)) (fun j _ => y.r.length - (intOf j).toNat)
          case atStart => exact ⟨0, Nat.zero_le _, rfl, Fr.refl _ _, by rw [smv_zero]; exact hyo.out⟩
          case round =>
            obtain ⟨i, hi, rfl, hfz, hpz⟩ := hrel
            have hfz' := hide hfz
            have hpz' := hide hpz
            have fc := hfz.cell ecH.out hne1.out.1
            have fc2 := hfz.cell ec2H.out hne1.out.2
            by_cases hli : i < y.r.length
            · obtain ⟨⟨px, py⟩, hpt⟩ := Pl.some_of_lt hli
              have hpt' := hide hpt
              obtain ⟨⟨b1, b2⟩, b3, b4⟩ := hyc.out _ (Pl.mem_of_some hpt)
              obtain ⟨k1, k2⟩ := hpz.cells (smv_at (a, b) y.s hpt)
              have f1 := VRow.frozen hpz (i * 2)
              have f2 := VRow.frozen hpz (i * 2 + 1)
              have g1 := fun u => (hfz.setCell (p := ⟨y.b, i * 2, none⟩) rfl u).cell ecH.out hne1.out.1
              have g2 := fun u => (hfz.setCell (p := ⟨y.b, i * 2, none⟩) rfl u).cell ec2H.out hne1.out.2
              have g3 := fun u => (VRow.set hpz (i * 2) u).frozen (i * 2 + 1)
              have g4 : ∀ u, (wr.setCell ⟨y.b, i * 2, none⟩ u).cell? ⟨y.b, i * 2 + 1, none⟩ = some (.int .i64 py) := fun u => by
                rw [World.cell?_setCell_other _ _ _ _ (by simp)]; exact k2
              simp only at k1 k2 b1 b2 b3 b4
              have w1 : wrap64 (px + a) = px + a := w64 (by omega) (by omega)
              have w2 : wrap64 (py + b) = py + b := w64 (by omega) (by omega)
              have i1 : (0 : Int) ≤ (i : Int) := by omega
              have i2 : (i : Int) < (y.r.length : Int) := by omega
              have i3 : (0 : Int) ≤ (q : Int) := by omega
              have i4 : (q : Int) < (x.rs.length : Int) := by omega
              have i5 : (0 : Int) ≤ (p : Int) := by omega
              have i6 : (p : Int) < (d.ps.length : Int) := by omega
              clear hfz hpz hpt
              go_wp2
              go_region
              go_wp2
              go_region
              go_wp2
              go_roundw
              case rel =>
                have hs := PRow.set hpz'.out i (px + a, py + b)
                have e0 := smv_step (a, b) y.s hpt'.out
                rw [show Vd.mv (a, b) (px, py) = (px + a, py + b) from rfl] at e0
                rw [e0] at hs
                exact ⟨i + 1, by omega, by go_num, ((hfz'.out.setCell rfl _).drew.setCell rfl _).drew, hs⟩
              case measure => simp [intOf]; omega
            · have : i = y.r.length := by omega
              subst this
              clear hfz hpz
              go_wp2
              go_roundw
              case rel => exact ⟨q + 1, by omega, by go_num, hrl'.out.step hxn.out hy'.out hfz'.out hpz'.out⟩
              case measure => simp [intOf]; omega
        · have : q = x.rs.length := by omega
          subst this
          clear hrl
          go_wp2
          go_roundw
          case rel => exact ⟨p + 1, by omega, by go_num, hsp'.out.step hnd'.out hx'.out hxo.out hrl'.out⟩
          case measure => simp [intOf]; omega
    · have : p = d.ps.length := by omega
      subst this
      clear hsp
      go_wp2
      go_ret
      exact ⟨rfl, hsp'.out.fr, hsp'.out.rd⟩
end Go.Proofs.YtcclepohmhdpbabGreatDoor
