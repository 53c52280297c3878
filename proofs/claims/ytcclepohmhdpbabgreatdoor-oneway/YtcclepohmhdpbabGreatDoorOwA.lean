import Derived.Test.YtcclepohmhdpbabGreatDoorHsB
import Derived.Test.YtcclepohmhdpbabGreatDoorGlN
import Derived.Deep.DeepCutAuto
import Derived.BigQuiet
namespace Go.Proofs.YtcclepohmhdpbabGreatDoor
set_option linter.all false
open Go.RowKit Go.Deep
theorem ovint_succ (q : Nat) : Value.int .i64 ((q : Int) + 1) = Value.int .i64 ((q + 1 : Nat) : Int) := by rw [Int.natCast_add]; rfl
theorem omeas_succ {L q : Nat} (h : q < L) : L - (intOf (Value.int .i64 ((q : Int) + 1))).toNat < L - (intOf (Value.int .i64 (q : Int))).toNat := by
 show L - ((q : Int) + 1).toNat < L - ((q : Int)).toNat
 omega
theorem good_cd {px py : Int} (h : Vd.Cd (px, py)) : goodH px py 1 := by
 unfold Vd.Cd at h
 simp only at h
 unfold goodH partB
 refine ⟨?_, ?_, ?_, by omega⟩ <;> simp <;> omega
set_option maxRecDepth 100000 in
set_option maxHeartbeats 8000000 in
theorem kcorn_any (x y : Value) (m1 m2 : Mult) (w : World) (g1 g2 : Nat) (u1 u2 : Value) (hs1 : SetR w x m1 g1 u1) (hs2 : SetR w y m2 g2 u2) (hz : Sz m1) (hl : Vd.least m1 = 0) (hz2 : Sz m2) (hin : ∀ l ∈ m2, ∀ r ∈ l, ∀ c ∈ r, Vd.inSet m1 (c, 1) = true) :
  Calls Tryz.prog 22 #[x, y] w fun e w' => e = .returned (.bool true) ∧ Up w w' := by
 have HS1 := hide hs1
 have HS2 := hide hs2
 have HZ := hide hz
 have HZ2 := hide hz2
 have HL := hide hl
 have HIn := hide hin
 obtain ⟨rfl, -⟩ := hs1
 obtain ⟨rfl, -⟩ := hs2
 clear hz hl hz2 hin
 have HBd := hide (bd_sz HZ2.out)
 have KP := hide (points_c _ m2 w g2 u2 HS2.out HBd.out)
 go_enter Tryz.func22, Tryz.ntmps22
 go_wp2_with fail
 refine KP.out.mono ?_
 rintro e w1 ⟨d, rfl, hok, hm', -, -, -, hu⟩
 have HOk := hide hok
 have HU1 := hide hu
 have HM := hide hm'
 have HL3 : Hid (d.ps.length ≤ 1048576 ∧ ∀ x ∈ d.ps, x.rs.length ≤ 1048576 ∧ ∀ y ∈ x.rs, y.r.length ≤ 1048576 ∧ ∀ p ∈ y.r, Vd.Cd p ∧ Vd.inSet m1 (p, 1) = true) := by
  have hb := HBd.out
  rw [← hm'] at hb
  have hcd := HZ2.out.cd
  rw [← hm'] at hcd
  have hi := HIn.out
  rw [← hm'] at hi
  refine ⟨by have := hb.len; simpa [D3.m] using this, fun x hx => ⟨?_, fun y hy => ⟨hb.ring x.pts (List.mem_map_of_mem hx) y.r (List.mem_map_of_mem hy), fun p hp => ⟨hcd x.pts (List.mem_map_of_mem hx) y.r (List.mem_map_of_mem hy) p hp, hi x.pts (List.mem_map_of_mem hx) y.r (List.mem_map_of_mem hy) p hp⟩⟩⟩⟩
  have := hb.poly x.pts (List.mem_map_of_mem hx); simpa [D2.pts] using this
 clear hok hm' hu KP
 rw [D3.v]
 have hl3 := HL3.out.1
 go_wp2_with fail
 go_loopw [6] (fun i wq => ∃ p : Nat, p ≤ d.ps.length ∧ i = .int .i64 p ∧ Hid (Up w1 wq)) (fun i _ => d.ps.length - (intOf i).toNat)
 case atStart => exact ⟨0, Nat.zero_le _, rfl, Up.refl _⟩
 case round =>
  obtain ⟨p, hp, rfl, HUp⟩ := hrel
  by_cases hlt : p < d.ps.length
  ·obtain ⟨x, hx⟩ := Pl.some_of_lt hlt
   obtain ⟨hxl, hyl0⟩ := HL3.out.2 x (Pl.mem_of_some hx)
   have hyl := hide hyl0
   have hxc : w1.cell? ⟨d.b, p, none⟩ = some (.slice (some ⟨x.b, 0, none⟩) x.rs.length (x.rs.length + x.s.length)) := HOk.out.row.cell (by rw [List.map_append, List.getElem?_append_left (by simpa using hlt), List.getElem?_map, hx]; rfl)
   have hxo := hide (HOk.out.sub x (List.mem_append_left _ (Pl.mem_of_some hx)))
   have HXc := hide hxc
   have Hlt := hide hlt
   have hpL : wrap64 ((p : Int) + 1) = (p : Int) + 1 := w64 (by omega) (by omega)
   have HpL := hide hpL
   clear hx hyl0 hxc hpL
   go_wp2
   go_loopw [7] (fun j wq => ∃ q : Nat, q ≤ x.rs.length ∧ j = .int .i64 q ∧ Hid (Up w1 wq)) (fun j _ => x.rs.length - (intOf j).toNat)
   case atStart => exact ⟨0, Nat.zero_le _, rfl, HUp⟩
   case round =>
    obtain ⟨q, hq, rfl, HUq⟩ := hrel
    have ec := HUq.out.cell HXc.out
    by_cases hlq : q < x.rs.length
    ·obtain ⟨y, hy⟩ := Pl.some_of_lt hlq
     obtain ⟨hyb, hcd⟩ := hyl.out y (Pl.mem_of_some hy)
     have Hcd := hide hcd
     have hyc : w1.cell? ⟨x.b, q, none⟩ = some (.slice (some ⟨y.b, 0, none⟩) y.r.length (y.r.length + y.s.length)) := hxo.out.row.cell (by rw [List.map_append, List.getElem?_append_left (by simpa using hlq), List.getElem?_map, hy]; rfl)
     have hyo := hide (hxo.out.sub y (List.mem_append_left _ (Pl.mem_of_some hy)))
     have HYc := hide hyc
     have Hlq := hide hlq
     have HqL : Hid (wrap64 ((q : Int) + 1) = (q : Int) + 1) := w64 (by omega) (by omega)
     clear hy hcd hyc
     go_wp2
     clear ec
     go_loopw [8] (fun j wq => ∃ i : Nat, i ≤ y.r.length ∧ j = .int .i64 i ∧ Hid (Up w1 wq)) (fun j _ => y.r.length - (intOf j).toNat)
     case atStart => exact ⟨0, Nat.zero_le _, rfl, HUq⟩
     case round =>
      obtain ⟨i, hi, rfl, HUi⟩ := hrel
      have e1 := HUi.out.cell HXc.out
      have e2 := HUi.out.cell HYc.out
      by_cases hli : i < y.r.length
      ·have hpg := Vd.ptAt_get hli
       obtain ⟨hcp, hip⟩ := Hcd.out _ (List.mem_of_getElem? hpg)
       have HCp := hide hcp
       have HIp := hide hip
       have hR : Hid ((y.r ++ y.s)[i]? = some (Vd.ptAt y.r i)) := by
        show _ = _
        rw [List.getElem?_append_left hli]; exact hpg
       clear hpg hcp hip
       generalize Vd.ptAt y.r i = P at *
       obtain ⟨px, py⟩ := P
       have c1 := fun g : Gr wr => g.up.cell (HUi.out.cell HXc.out)
       have c2 := fun g : Gr wr => g.up.cell (HUi.out.cell HYc.out)
       have c3 : ∀ g : Gr wr, g.v.cell? ⟨y.b, i * 2, none⟩ = some (.int .i64 px) := fun g => (PRow.cells (VRow.up hyo.out (HUi.out.trans g.up)) hR.out).1
       have c4 : ∀ g : Gr wr, g.v.cell? ⟨y.b, i * 2 + 1, none⟩ = some (.int .i64 py) := fun g => (PRow.cells (VRow.up hyo.out (HUi.out.trans g.up)) hR.out).2
       have HHas : Hid (∀ g : Gr wr, Calls Tryz.prog 39 #[.pointer (some ⟨g1, 0, none⟩), .int .i64 px, .int .i64 py, .int .i64 1] g.v fun e w' => e = .returned (.tuple #[.bool true, .int .i64 0]) ∧ Up g.v w') := fun g => by
        have := has_ok (.pointer (some ⟨g1, 0, none⟩)) m1 px py 1 g.v g1 u1 (HS1.out.up (HU1.out.trans (HUi.out.trans g.up))) HZ.out (good_cd HCp.out) HL.out
        rw [HIp.out] at this
        exact this
       have i0 : (0 : Int) ≤ (p : Int) := Int.natCast_nonneg _
       have i1 : (p : Int) < (d.ps.length : Int) := by omega
       have i2 : (0 : Int) ≤ (q : Int) := Int.natCast_nonneg _
       have i3 : (q : Int) < (x.rs.length : Int) := by omega
       have i4 : (0 : Int) ≤ (i : Int) := Int.natCast_nonneg _
       have i5 : (i : Int) < (y.r.length : Int) := by omega
       have HiL : Hid (wrap64 ((i : Int) + 1) = (i : Int) + 1) := w64 (by omega) (by omega)
       go_upto_region 11 with fail
       refine wp_region_up (by kernel_rfl) (by kernel_rfl) ?_
       repeat (first | go_big_quiet_step (first | (go_at_call 39; exact Calls.up_of (HHas.out _))))
       refine wpQuiet_nil ?_
       rintro w3 ⟨⟨_, u3⟩, rfl⟩
       have HU3 := hide (HUi.out.trans u3)
       clear u3 c1 c2 c3 c4 HHas e1 e2
       go_wp2
       exact ⟨⟨i + 1, hli, ovint_succ _, HU3.out⟩, omeas_succ hli⟩
      ·go_wp2
       exact ⟨⟨q + 1, Hlq.out, ovint_succ _, HUi⟩, omeas_succ Hlq.out⟩
    ·go_wp2
     exact ⟨⟨p + 1, Hlt.out, ovint_succ _, HUq⟩, omeas_succ Hlt.out⟩
  ·have HU := hide (HU1.out.trans HUp.out)
   go_wp2
   go_ret
   exact ⟨rfl, HU.out⟩
end Go.Proofs.YtcclepohmhdpbabGreatDoor
