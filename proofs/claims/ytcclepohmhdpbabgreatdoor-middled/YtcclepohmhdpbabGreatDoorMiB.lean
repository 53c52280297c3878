import Derived.Test.YtcclepohmhdpbabGreatDoorMiA
import Derived.Deep.RegionLaw
import Derived.BigQuiet
import Derived.BigRegion
namespace Go.Proofs.YtcclepohmhdpbabGreatDoor
set_option linter.all false
open Go.RowKit Go.Deep
theorem mvint_succ (q : Nat) : Value.int .i64 ((q : Int) + 1) = Value.int .i64 ((q + 1 : Nat) : Int) := by rw [Int.natCast_add]; rfl
theorem mmeas_succ {L q : Nat} (h : q < L) : L - (intOf (Value.int .i64 ((q : Int) + 1))).toNat < L - (intOf (Value.int .i64 (q : Int))).toNat := by
 show L - ((q : Int) + 1).toNat < L - ((q : Int)).toNat
 omega
theorem mid_nums {px py qx qy : Int} (hp : Vd.Cd (px, py)) (hq : Vd.Cd (qx, qy)) : wrap64 (px + qx) = px + qx ∧ wrap64 (py + qy) = py + qy ∧ wrap64 ((px + qx) / 2) = (px + qx) / 2 ∧ wrap64 ((py + qy) / 2) = (py + qy) / 2 := by
 unfold Vd.Cd at hp hq
 simp only at hp hq
 exact ⟨w64 (by omega) (by omega), w64 (by omega) (by omega), w64 (by omega) (by omega), w64 (by omega) (by omega)⟩
theorem mid_wraps {px py qx qy : Int} (hp : Vd.Cd (px, py)) (hq : Vd.Cd (qx, qy)) : IntKind.i64.wrap (px + qx) = px + qx ∧ IntKind.i64.wrap (py + qy) = py + qy ∧ IntKind.i64.wrap ((px + qx) / 2) = (px + qx) / 2 ∧ IntKind.i64.wrap ((py + qy) / 2) = (py + qy) / 2 := by
 unfold Vd.Cd at hp hq
 simp only at hp hq
 exact ⟨wrap_id (by omega) (by omega), wrap_id (by omega) (by omega), wrap_id (by omega) (by omega), wrap_id (by omega) (by omega)⟩
theorem mem_sum {α : Type} (f : α → Nat) : ∀ (l : List α) {x : α}, x ∈ l → f x ≤ (l.map f).sum := by
  intro l
  induction l with
  | nil => intro x h; cases h
  | cons y l ih =>
    intro x h
    rw [List.map_cons, List.sum_cons]
    rcases List.mem_cons.1 h with rfl | h
    · omega
    · have := ih h; omega
theorem midR_len (r : Ring) : (Vd.midR r).length ≤ 2 * r.length := by rw [← Vd.midI_all]; exact Vd.midI_len r r.length
theorem midM_bd {m : Mult} (h : Pl.wrong m = 0) : Pl.Bd (Vd.midM m) := by
 have hb := bd_sz (sz_of h)
 have hm := (Vd.wrong0 h).1
 have hp : Pl.nP m ≤ 100 := by
  unfold Pl.many at hm
  simp only [Bool.or_eq_false_iff, decide_eq_false_iff_not] at hm
  omega
 refine ⟨by rw [Vd.midM_len]; exact hb.len, fun l hl => ?_, fun l hl r hr => ?_⟩
 ·obtain ⟨l0, h0, rfl⟩ := List.mem_map.1 hl
  rw [List.length_map]; exact hb.poly l0 h0
 ·obtain ⟨l0, h0, rfl⟩ := List.mem_map.1 hl
  obtain ⟨r0, h1, rfl⟩ := List.mem_map.1 hr
  have a := mem_sum List.length l0 h1
  have b := mem_sum Pl.nPl m h0
  unfold Pl.nP at hp
  have c := midR_len r0
  unfold Pl.nPl at *
  omega
theorem even_tmod {z : Int} : z.tmod 2 = 0 ↔ z % 2 = 0 := by
 rw [← Int.dvd_iff_tmod_eq_zero, Int.dvd_iff_emod_eq_zero]
theorem even_tdiv {z : Int} (h : z % 2 = 0) : z.tdiv 2 = z / 2 := Int.tdiv_eq_ediv_of_dvd (Int.dvd_of_emod_eq_zero h)
set_option maxRecDepth 100000 in
set_option maxHeartbeats 8000000 in
theorem middled_any (bd b : Nat) (m : Mult) (d0 : D3) (w : World) (hrow : VRow w bd 36 [.pointer (some ⟨b, 0, none⟩)]) (hs : Set3 w (.pointer (some ⟨b, 0, none⟩)) m b d0) (hw : Pl.wrong m = 0) (ht : TabD w) :
  Calls Tryz.prog 11 #[.pointer (some ⟨bd, 0, none⟩)] w fun e w' => e = .returned (.bool true) ∧ Up w w' := by
 have HTb := hide ht
 have HR := hide hrow
 have HS := hide hs.r
 have HW := hide hw
 have hz := sz_of hw
 have HZ := hide hz
 have HBd := hide (bd_sz hz)
 have HG := hide (Vd.good_of hw)
 clear ht hs hw hz
 have r0 := hrow.cell (i := 0) rfl
 have KP := hide (points_c _ m w b d0.v HS.out HBd.out)
 go_enter Tryz.func11, Tryz.ntmps11
 go_wp2_with fail
 refine KP.out.mono ?_
 rintro e w1 ⟨d, rfl, hok, hm', hbare, hnd, hbl, hu⟩
 have HND := hide hnd
 have HBL := hide hbl
 have HM := hide hm'
 have HBR := hide hbare
 have HN : Hid (∀ b ∈ d.bl, b < w1.heap.size) := hok.lt
 have hst : Hid (MQP w1.heap.size (List.map Vd.midR) w w1 d 0) := by
  refine ⟨hu, Nat.le_refl _, ?_, fun j x hj => by omega, fun j x _ hx => hok.sub x (List.mem_append_left _ (Pl.mem_of_some hx))⟩
  have := hok.row
  rw [hbare.1, List.append_nil] at this
  exact this
 have HL3 : Hid (d.ps.length ≤ 1048576 ∧ ∀ x ∈ d.ps, x.rs.length ≤ 1048576 ∧ ∀ y ∈ x.rs, y.r.length ≤ 1048576 ∧ ∀ p ∈ y.r, Vd.Cd p) := by
  have hb := HBd.out
  rw [← hm'] at hb
  have hcd := HZ.out.cd
  rw [← hm'] at hcd
  refine ⟨by have := hb.len; simpa [D3.m] using this, fun x hx => ⟨?_, fun y hy => ⟨hb.ring x.pts (List.mem_map_of_mem hx) y.r (List.mem_map_of_mem hy), fun p hp => hcd x.pts (List.mem_map_of_mem hx) y.r (List.mem_map_of_mem hy) p hp⟩⟩⟩
  have := hb.poly x.pts (List.mem_map_of_mem hx); simpa [D2.pts] using this
 clear hok hm' hbare hnd hbl hu KP r0 hrow
 rw [D3.v]
 have hl3 := HL3.out.1
 generalize hN1 : w1.heap.size = N at *
 go_wp2_with fail
 go_loopw [4] (fun i wq => ∃ p : Nat, p ≤ d.ps.length ∧ i = .int .i64 p ∧ MQP N (List.map Vd.midR) w wq d p) (fun i _ => d.ps.length - (intOf i).toNat)
 case atStart => exact ⟨0, Nat.zero_le _, rfl, hst.out⟩
 case round =>
  obtain ⟨p, hp, rfl, hsp⟩ := hrel
  have hsp' := hide hsp
  by_cases hlt : p < d.ps.length
  ·obtain ⟨x, hx⟩ := Pl.some_of_lt hlt
   have hx' := hide hx
   obtain ⟨hxl, hyl0⟩ := HL3.out.2 x (Pl.mem_of_some hx)
   have hyl := hide hyl0
   have hxc := hsp.row.cell (i := p) (v := .slice (some ⟨x.b, 0, none⟩) x.rs.length (x.rs.length + x.s.length)) (by simp only [List.getElem?_map, hx]; rfl)
   have hxc' := hide hxc
   have hxo := hide (hsp.todo p x (Nat.le_refl _) hx)
   have hxs : Hid (x.s = []) := (HBR.out.2 x (Pl.mem_of_some hx)).1
   have hNw : Hid (N ≤ wr.heap.size) := hsp.sz
   have hxb : Hid (x.b < N) := HN.out _ (D3.mem_sub (Pl.mem_of_some hx) (by simp [D2.bl]))
   clear hsp hx hyl0
   go_wp2
   clear hxc
   obtain ⟨w8, hw8⟩ : ∃ z, z = wr := ⟨_, rfl⟩
   subst hw8
   have htr : Hid (MQR N (x.pts.map Vd.midR) w8 w8 x 0 []) := by
    refine ⟨Fr.refl _ _, rfl, ?_, fun j v r hj => by simp at hj⟩
    have := hxo.out.row
    rw [hxs.out, List.append_nil] at this
    exact this
   go_loopw [5] (fun j wq => ∃ (q : Nat) (vs : List Value), q ≤ x.rs.length ∧ j = .int .i64 q ∧ MQR N (x.pts.map Vd.midR) w8 wq x q vs) (fun j _ => x.rs.length - (intOf j).toNat)
   case atStart => exact ⟨0, [], Nat.zero_le _, rfl, htr.out⟩
   case round =>
    obtain ⟨q, vs, hq, rfl, hrl⟩ := hrel
    have hrl' := hide hrl
    have hdx : Hid (d.b ≠ x.b) := fun e => D3.ne_sub HND.out (Pl.mem_of_some hx'.out) (by rw [e]; simp [D2.bl])
    have ec := hrl.fr.cell hxc'.out (fun h => hdx.out h)
    by_cases hlq : q < x.rs.length
    ·obtain ⟨y, hy⟩ := Pl.some_of_lt hlq
     have hy' := hide hy
     obtain ⟨hyb, hcd⟩ := hyl.out y (Pl.mem_of_some hy)
     have Hcd := hide hcd
     have ec2 := hrl.row.cell (i := q) (v := .slice (some ⟨y.b, 0, none⟩) y.r.length (y.r.length + y.s.length)) (by
      rw [List.getElem?_append_right (by rw [hrl.len]; omega), hrl.len, Nat.sub_self, List.getElem?_map, List.getElem?_drop, Nat.add_zero, hy]; rfl)
     have ecH := hide ec
     have ec2H := hide ec2
     have hyo : Hid (OK1 wr y) := hrl.fr.ok1 (hxo.out.sub y (List.mem_append_left _ (Pl.mem_of_some hy))) (fun e => by
      have hxn := D3.sub_nodup HND.out (Pl.mem_of_some hx'.out)
      exact D2.ne_sub hxn (Pl.mem_of_some hy) e.symm)
     have hXq : Hid ((x.pts.map Vd.midR)[q]? = some (Vd.midR y.r)) := by
      show _ = _
      rw [List.getElem?_map, D2.pts, List.getElem?_map, hy'.out]; rfl
     obtain ⟨n, hn⟩ : ∃ n : Nat, y.r.length = n := ⟨_, rfl⟩
     have Hn := hide hn
     rw [hn] at ec2 hyb
     have Hyb := hide hyb
     have Hlq := hide hlq
     have Hlt := hide hlt
     clear hrl hy hcd hn hyb
     go_wp2
     clear ec ec2
     obtain ⟨w9, hw9⟩ : ∃ z, z = wr := ⟨_, rfl⟩
     subst hw9
     clear hlq hlt hl3 hxl hq hp
     go_loopw [7, 8] (fun cv j wz => ∃ (i : Nat) (u : Value), i ≤ n ∧ j = .int .i64 i ∧ u = cv ∧ Hid (Up w9 wz) ∧ Hid (OwN wz w9.heap.size u (Vd.midI y.r i))) (fun _ j _ => n - (intOf j).toNat)
     case atStart => exact ⟨0, _, Nat.zero_le _, rfl, rfl, Up.refl _, World.ownsRow_nil _ _ _ _⟩
     case round =>
      obtain ⟨i, u, hi, rfl, rfl, HU, HO⟩ := hrel
      have hi' := hide hi
      by_cases hli : i < n
      ·have hpg : Hid ((y.r ++ y.s)[i]? = some (Vd.ptAt y.r i)) := by
        show _ = _
        rw [List.getElem?_append_left (by rw [Hn.out]; exact hli)]
        exact Vd.ptAt_get (by rw [Hn.out]; exact hli)
       have HCp : Hid (Vd.Cd (Vd.ptAt y.r i)) := Hcd.out _ (List.mem_of_getElem? (Vd.ptAt_get (by rw [Hn.out]; exact hli)))
       have HSt := hide (Vd.midI_succ y.r i)
       unfold Vd.midS at HSt
       rw [Hn.out] at HSt
       have HCq : Hid (i + 1 < n → Vd.Cd (Vd.ptAt y.r (i + 1)) ∧ (y.r ++ y.s)[i + 1]? = some (Vd.ptAt y.r (i + 1))) := fun h => ⟨Hcd.out _ (List.mem_of_getElem? (Vd.ptAt_get (by rw [Hn.out]; exact h))), by
        rw [List.getElem?_append_left (by rw [Hn.out]; exact h)]
        exact Vd.ptAt_get (by rw [Hn.out]; exact h)⟩
       generalize Vd.ptAt y.r i = P at *
       generalize Vd.ptAt y.r (i + 1) = Q at *
       obtain ⟨px, py⟩ := P
       obtain ⟨qx, qy⟩ := Q
       obtain ⟨k1, k2⟩ := PRow.cells (VRow.up hyo.out HU.out) hpg.out
       simp only at k1 k2
       have HOA : Hid (∀ o, (wr.alloc o).ownsRow w9.heap.size 48 2 u (Vd.midI y.r i).length (flat (Vd.midI y.r i))) := fun o => World.ownsRow.alloc HO.out o
       have hL1 : Hid ((Vd.midI y.r i).length ≤ 1073741824) := by have := Vd.midI_len y.r i; have := Hyb.out; show _ ≤ _; omega
       have hsz : Hid (w9.heap.size ≤ wr.heap.size) := HU.out.size
       go_upto_region 14 with (at_builtin; refine wpList_app el_pts rfl (.tmp 42) (.tmp 47) rfl w9.heap.size _ _ _ (by rfl) (HOA.out _) wr.heap.size [.int .i64 px, .int .i64 py] (by rfl) rfl (heap_alloc_new wr _) (by intro x hx; simp at hx; rcases hx with rfl | rfl <;> rfl) hL1.out (by simp; have := hsz.out; omega) ?_; intro g cap w5 hown5 hg5 hat5 hlt5; have HO5 := hide hown5; have HU5 : Hid (Up w9 w5) := Fr.up (S := fun _ => False) (((Fr.of_up HU.out).alloc _).grown hg5 fun x hx => .inr (own_lt HO.out hx).1) (fun _ _ h => h); clear hown5 hg5 hat5 hlt5 k1 k2)
       have kA := hide (PRow.cells (VRow.up hyo.out HU5.out) hpg.out)
       have kB : Hid (i + 1 < n → w5.cell? ⟨y.b, (i + 1) * 2, none⟩ = some (.int .i64 qx) ∧ w5.cell? ⟨y.b, (i + 1) * 2 + 1, none⟩ = some (.int .i64 qy)) := fun h => PRow.cells (VRow.up hyo.out HU5.out) (HCq.out h).2
       have kN : Hid (i + 1 < n → wrap64 (px + qx) = px + qx ∧ wrap64 (py + qy) = py + qy ∧ wrap64 ((px + qx) / 2) = (px + qx) / 2 ∧ wrap64 ((py + qy) / 2) = (py + qy) / 2) := fun h => mid_nums HCp.out (HCq.out h).1
       have u1 : wrap64 ((i : Int) + 1) = (i : Int) + 1 := w64 (by omega) (by have := Hyb.out; omega)
       have i0 : (0 : Int) ≤ (i : Int) := Int.natCast_nonneg _
       have i1 : (0 : Int) ≤ (i : Int) + 1 := by omega
       have i2 : (i : Int) < (n : Int) := by omega
       go_cut [97] from 36 to 127 (fun gv wc => gv = .bool (decide (i + 1 < n ∧ Vd.hasM (px, py) (qx, qy))) ∧ Hid (Up w5 wc))
       case first =>
        by_cases c1 : i + 1 < n
        ·have i3 : (i : Int) + 1 < (n : Int) := by omega
         obtain ⟨k1, k2⟩ := kA.out
         obtain ⟨k3, k4⟩ := kB.out c1
         obtain ⟨n1, n2, -, -⟩ := kN.out c1
         simp only at k1 k2
         by_cases h1 : px = qx ∧ py = qy
         ·obtain ⟨rfl, rfl⟩ := h1
          have hC : Hid (decide (i + 1 < n ∧ Vd.hasM (px, py) (px, py)) = false) := decide_eq_false fun h => h.2.1 rfl
          go_quiet (fail)
          go_wp2
          go_meet
          case rel => exact ⟨by rw [hC.out], (Up.refl _).drewN _⟩
         ·by_cases hx1 : px = qx
          ·have hy1 : (py == qy) = false := beq_eq_false_iff_ne.2 fun e => h1 ⟨hx1, e⟩
           have hx2 : (px == qx) = true := beq_iff_eq.2 hx1
           have Hx1 := hide hx1
           clear hx1
           by_cases e1 : (px + qx) % 2 = 0
           ·have t1 : (px + qx).tmod 2 = 0 := even_tmod.2 e1
            by_cases e2 : (py + qy) % 2 = 0
            ·have t2 : (py + qy).tmod 2 = 0 := even_tmod.2 e2
             have hC : Hid (decide (i + 1 < n ∧ Vd.hasM (px, py) (qx, qy)) = true) := decide_eq_true ⟨c1, fun e => h1 ⟨congrArg Prod.fst e, congrArg Prod.snd e⟩, e1, e2⟩
             clear e1 e2 h1
             go_quiet (fail)
             go_wp2
             go_meet
             case rel => exact ⟨by rw [hC.out], (Up.refl _).drewN _⟩
            ·have t2 : ((py + qy).tmod 2 == 0) = false := beq_eq_false_iff_ne.2 fun q => e2 (even_tmod.1 q)
             have hC : Hid (decide (i + 1 < n ∧ Vd.hasM (px, py) (qx, qy)) = false) := decide_eq_false fun h => e2 h.2.2.2
             clear e1 e2 h1
             go_quiet (fail)
             go_wp2
             go_meet
             case rel => exact ⟨by rw [hC.out], (Up.refl _).drewN _⟩
           ·have t1 : ((px + qx).tmod 2 == 0) = false := beq_eq_false_iff_ne.2 fun q => e1 (even_tmod.1 q)
            have hC : Hid (decide (i + 1 < n ∧ Vd.hasM (px, py) (qx, qy)) = false) := decide_eq_false fun h => e1 h.2.2.1
            clear e1 h1
            go_quiet (fail)
            go_wp2
            go_meet
            case rel => exact ⟨by rw [hC.out], (Up.refl _).drewN _⟩
          ·have hx2 : (px == qx) = false := beq_eq_false_iff_ne.2 hx1
           clear hx1
           by_cases e1 : (px + qx) % 2 = 0
           ·have t1 : (px + qx).tmod 2 = 0 := even_tmod.2 e1
            by_cases e2 : (py + qy) % 2 = 0
            ·have t2 : (py + qy).tmod 2 = 0 := even_tmod.2 e2
             have hC : Hid (decide (i + 1 < n ∧ Vd.hasM (px, py) (qx, qy)) = true) := decide_eq_true ⟨c1, fun e => h1 ⟨congrArg Prod.fst e, congrArg Prod.snd e⟩, e1, e2⟩
             clear e1 e2 h1
             go_quiet (fail)
             go_wp2
             go_meet
             case rel => exact ⟨by rw [hC.out], (Up.refl _).drewN _⟩
            ·have t2 : ((py + qy).tmod 2 == 0) = false := beq_eq_false_iff_ne.2 fun q => e2 (even_tmod.1 q)
             have hC : Hid (decide (i + 1 < n ∧ Vd.hasM (px, py) (qx, qy)) = false) := decide_eq_false fun h => e2 h.2.2.2
             clear e1 e2 h1
             go_quiet (fail)
             go_wp2
             go_meet
             case rel => exact ⟨by rw [hC.out], (Up.refl _).drewN _⟩
           ·have t1 : ((px + qx).tmod 2 == 0) = false := beq_eq_false_iff_ne.2 fun q => e1 (even_tmod.1 q)
            have hC : Hid (decide (i + 1 < n ∧ Vd.hasM (px, py) (qx, qy)) = false) := decide_eq_false fun h => e1 h.2.2.1
            clear e1 h1
            go_quiet (fail)
            go_wp2
            go_meet
            case rel => exact ⟨by rw [hC.out], (Up.refl _).drewN _⟩
        ·have i3 : ¬ ((i : Int) + 1 < (n : Int)) := by omega
         have i4 : decide ((i : Int) + 1 < (n : Int)) = false := decide_eq_false i3
         have hC : Hid (decide (i + 1 < n ∧ Vd.hasM (px, py) (qx, qy)) = false) := decide_eq_false fun h => c1 h.1
         go_quiet (fail)
         go_wp2
         go_meet
         case rel => exact ⟨by rw [hC.out], (Up.refl _).drewN _⟩
       case rest =>
        obtain ⟨rfl, HUc⟩ := hcut
        have HU6 := hide (HU5.out.trans HUc.out)
        have HO6 := hide (own_up HO5.out HUc.out)
        by_cases hC : i + 1 < n ∧ Vd.hasM (px, py) (qx, qy)
        ·have hC' := hC
         obtain ⟨c1, hM⟩ := hC
         obtain ⟨-, e1, e2⟩ := hM
         rw [if_pos hC'] at HSt
         rw [decide_eq_true hC']
         obtain ⟨k1, k2⟩ := PRow.cells (VRow.up hyo.out HU6.out) hpg.out
         obtain ⟨k3, k4⟩ := PRow.cells (VRow.up hyo.out HU6.out) (HCq.out c1).2
         simp only at k1 k2 k3 k4 e1 e2
         obtain ⟨n1, n2, n3, n4⟩ := kN.out c1
         obtain ⟨m1, m2, m3, m4⟩ := mid_wraps HCp.out (HCq.out c1).1
         have m5 : IntKind.i64.wrap ((i : Int) + 1) = (i : Int) + 1 := wrap_id (by omega) (by have := Hyb.out; omega)
         have q1 : (px + qx).tdiv 2 = (px + qx) / 2 := even_tdiv e1
         have q2 : (py + qy).tdiv 2 = (py + qy) / 2 := even_tdiv e2
         have HMd : Hid (Vd.mid2 (px, py) (qx, qy) = ((px + qx) / 2, (py + qy) / 2)) := rfl
         rw [HMd.out] at HSt
         have i3 : (i : Int) + 1 < (n : Int) := by omega
         clear hC' e1 e2 HMd kN
         generalize (px + qx) / 2 = mx at *
         generalize (py + qy) / 2 = my at *
         have k1a := fun o => ((Up.refl wc).alloc o).cell k1
         have k2a := fun o => ((Up.refl wc).alloc o).cell k2
         have k3a := fun o => ((Up.refl wc).alloc o).cell k3
         have k4a := fun o => ((Up.refl wc).alloc o).cell k4
         have HOA6 := hide (fun o => World.ownsRow.alloc HO6.out o)
         have hL2 : Hid ((Vd.midI y.r i).length + 1 ≤ 1073741824) := by have := Vd.midI_len y.r i; have := Hyb.out; show _ ≤ _; omega
         have hsz6 : Hid (w9.heap.size ≤ wc.heap.size) := HU6.out.size
         go_upto_region 15 with fail
         go_region_held3 (fun w' => w'.cell? ⟨y.b, i * 2, none⟩ = some (.int .i64 px) ∧ w'.cell? ⟨y.b, i * 2 + 1, none⟩ = some (.int .i64 py) ∧ w'.cell? ⟨y.b, (i + 1) * 2, none⟩ = some (.int .i64 qx) ∧ w'.cell? ⟨y.b, (i + 1) * 2 + 1, none⟩ = some (.int .i64 qy)) (go_keep)
          (first | (refine step_app el_pts rfl (.tmp 98) (.tmp 126) rfl w9.heap.size _ _ _ (by rfl) (HOA6.out _) wc.heap.size [.int .i64 mx, .int .i64 my] (by rfl) rfl (heap_alloc_new wc _) (by intro x hx; simp at hx; rcases hx with rfl | rfl <;> rfl) hL2.out (by simp; have := hsz6.out; omega) ?_; intro g2 cap2 w7 hown7 hg7 hat7 hlt7; have HO7 := hide hown7; have HU7 : Hid (Up w9 w7) := Fr.up (S := fun _ => False) ((((Fr.of_up HU6.out).drew).alloc _).grown hg7 fun x hx => .inr (own_lt HO6.out hx).1) (fun _ _ h => h); have z1 : w7.cell? ⟨y.b, i * 2, none⟩ = some (.int .i64 px) := (PRow.cells (VRow.up hyo.out HU7.out) hpg.out).1; have z2 : w7.cell? ⟨y.b, i * 2 + 1, none⟩ = some (.int .i64 py) := (PRow.cells (VRow.up hyo.out HU7.out) hpg.out).2; have z3 : w7.cell? ⟨y.b, (i + 1) * 2, none⟩ = some (.int .i64 qx) := (PRow.cells (VRow.up hyo.out HU7.out) (HCq.out c1).2).1; have z4 : w7.cell? ⟨y.b, (i + 1) * 2 + 1, none⟩ = some (.int .i64 qy) := (PRow.cells (VRow.up hyo.out HU7.out) (HCq.out c1).2).2; clear hown7 hg7 hat7 hlt7))
         have HF : Hid (OwN w7 w9.heap.size (.slice (some ⟨g2, 0, none⟩) ((Vd.midI y.r i).length + 1 + 1) cap2) (Vd.midI y.r (i + 1))) := by
          show World.ownsRow _ _ _ _ _ _ _
          have := HO7.out
          rw [List.append_assoc] at this
          rw [HSt.out, List.length_append, flat_append]
          exact this
         clear z1 z2 z3 z4 k1 k2 k3 k4 k1a k2a k3a k4a HSt n1 n2 n3 n4 m1 m2 m3 m4 m5 q1 q2
         go_wp2
         rw [u1]
         exact ⟨⟨i + 1, _, hli, mvint_succ _, rfl, HU7.out, HF.out⟩, mmeas_succ hli⟩
        ·rw [if_neg hC] at HSt
         rw [decide_eq_false hC]
         have HF : Hid (OwN wc w9.heap.size (.slice (some ⟨g, 0, none⟩) ((Vd.midI y.r i).length + 1) cap) (Vd.midI y.r (i + 1))) := by
          show World.ownsRow _ _ _ _ _ _ _
          rw [HSt.out, List.length_append, flat_append]
          exact HO6.out
         clear hC HSt
         go_wp2
         rw [u1]
         exact ⟨⟨i + 1, _, hli, mvint_succ _, rfl, HU6.out, HF.out⟩, mmeas_succ hli⟩
      ·obtain rfl : i = n := Nat.le_antisymm hi (Nat.not_lt.1 hli)
       have hnn : Hid (N ≤ w9.heap.size) := Nat.le_trans hNw.out hrl'.out.fr.size
       have HF : Hid (OwN wr N u (Vd.midR y.r)) := by
        have := own_base HO.out hnn.out
        rw [← Hn.out, Vd.midI_all] at this
        exact this
       have ecz := HU.out.cell ecH.out
       have ec2z := HU.out.cell ec2H.out
       have fzx := VRow.frozen (hrl'.out.row.up HU.out) q
       obtain ⟨ao, ucap, hue⟩ := own_len HF.out
       subst hue
       generalize (Vd.midR y.r).length = nl at *
       clear HO hi hi'
       go_wp2
       have hqL : wrap64 ((q : Int) + 1) = (q : Int) + 1 := w64 (by omega) (by have := Hlq.out; have := (HL3.out.2 x (Pl.mem_of_some hx'.out)).1; omega)
       have := hrl'.out.step hxb.out Hlq.out hXq.out HU.out HF.out
       rw [hqL]
       exact ⟨⟨q + 1, _, Hlq.out, mvint_succ _, this⟩, mmeas_succ Hlq.out⟩
    ·obtain rfl : q = x.rs.length := Nat.le_antisymm hq (Nat.not_lt.1 hlq)
     have hQ : Hid (MQP N (List.map Vd.midR) w wr d (p + 1)) := by
      refine hsp'.out.step HND.out HBL.out HN.out hx'.out hrl.fr ⟨vs, ?_, ?_, hrl.own⟩
      ·rw [hrl.len, List.length_map, D2.pts, List.length_map]
      ·have := hrl.row
       rw [List.drop_length, List.map_nil, List.append_nil] at this
       exact this
     have Hlt := hide hlt
     have hpL : wrap64 ((p : Int) + 1) = (p : Int) + 1 := w64 (by omega) (by omega)
     clear hrl hrl' hq hlq
     go_wp2
     exact ⟨⟨p + 1, Hlt.out, mvint_succ _, hQ.out⟩, mmeas_succ Hlt.out⟩
  ·obtain rfl : p = d.ps.length := Nat.le_antisymm hp (Nat.not_lt.1 hlt)
   have hrd := hsp.rd (fun l => by simp)
   rw [HM.out] at hrd
   have hu := hsp.up
   have ho : (Pl.wrong (Vd.midM m) = 4 ∨ Pl.wrong (Vd.midM m) = 6) ∨ Oth false m (Vd.midM m) := by
    rcases Vd.midM_wrong HW.out with h0 | h6
    ·exact .inr ⟨h0, (fun h => by cases h), Vd.midM_least HW.out h0, fun _ => Vd.midM_form HG.out⟩
    ·exact .inl (.inr h6)
   have hbd : Pl.Bd (Vd.midM m) := midM_bd HW.out
   have KO := hide (other_any bd b m (Vd.midM m) d0 d.v false wr (HR.out.up hu) (HS.out.up hu) HW.out (HTb.out.up hu) hrd hbd ho)
   rw [D3.v] at KO
   have HU := hide hu
   clear hu hrd hsp hsp' ho hbd hp hlt
   go_wp2_with fail
   refine KO.out.mono ?_
   rintro e w2 ⟨rfl, hu⟩
   replace HU := hide (HU.out.trans hu)
   clear hu KO
   go_wp2
   go_ret
   exact ⟨rfl, HU.out⟩
end Go.Proofs.YtcclepohmhdpbabGreatDoor
