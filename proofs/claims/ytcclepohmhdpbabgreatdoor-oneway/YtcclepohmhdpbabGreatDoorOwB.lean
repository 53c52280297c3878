import Derived.Test.YtcclepohmhdpbabGreatDoorOwA
namespace Go.Proofs.YtcclepohmhdpbabGreatDoor
set_option linter.all false
open Go.RowKit Go.Deep
theorem turn_nums {ax ay bx bY cx cy : Int} (ha : Vd.Cd (ax, ay)) (hb : Vd.Cd (bx, bY)) (hc : Vd.Cd (cx, cy)) :
  wrap64 (bx - ax) = bx - ax ∧ wrap64 (cy - ay) = cy - ay ∧ wrap64 ((bx - ax) * (cy - ay)) = (bx - ax) * (cy - ay) ∧ wrap64 (bY - ay) = bY - ay ∧ wrap64 (cx - ax) = cx - ax ∧ wrap64 ((bY - ay) * (cx - ax)) = (bY - ay) * (cx - ax) ∧ wrap64 ((bx - ax) * (cy - ay) - (bY - ay) * (cx - ax)) = (bx - ax) * (cy - ay) - (bY - ay) * (cx - ax) := by
 unfold Vd.Cd at ha hb hc
 simp only at ha hb hc
 have m1 := mul_bd (a := bx - ax) (b := cy - ay) (A := 65536) (B := 65536) (by omega) (by omega) (by omega) (by omega)
 have m2 := mul_bd (a := bY - ay) (b := cx - ax) (A := 65536) (B := 65536) (by omega) (by omega) (by omega) (by omega)
 generalize (bx - ax) * (cy - ay) = u at *
 generalize (bY - ay) * (cx - ax) = v at *
 exact ⟨w64 (by omega) (by omega), w64 (by omega) (by omega), w64 (by omega) (by omega), w64 (by omega) (by omega), w64 (by omega) (by omega), w64 (by omega) (by omega), w64 (by omega) (by omega)⟩
theorem orn_nums {i n : Nat} (hi : i < n) (hn : n ≤ 1048576) (h1 : 1 ≤ n) : wrap64 ((i : Int) + (n : Int)) = (i : Int) + (n : Int) ∧ wrap64 ((i : Int) + (n : Int) - 1) = ((i + n - 1 : Nat) : Int) ∧ (((i + n - 1 : Nat) : Int)).tmod (n : Int) = (((i + n - 1) % n : Nat) : Int) ∧ wrap64 ((i : Int) + 1) = (i : Int) + 1 ∧ (i + n - 1) % n < n := by
 refine ⟨w64 (by omega) (by omega), ?_, ?_, w64 (by omega) (by omega), Nat.mod_lt _ (by omega)⟩
 ·rw [w64 (by omega) (by omega)]; omega
 ·rw [Int.tmod_eq_emod_of_nonneg (by omega), Int.natCast_emod]
theorem nz1 {n : Nat} (h : 3 ≤ n) : ((n : Int) == 0) = false := beq_eq_false_iff_ne.2 (by omega)
theorem nz2 {n : Nat} (h : 3 ≤ n) : ((n : Int) = 0) = False := eq_false (by omega)
theorem orn_idx {i n z : Nat} (hi : i < n) (hz : z < n) : (0 : Int) ≤ (z : Int) ∧ (z : Int) < (n : Int) + 1 ∧ (0 : Int) ≤ (i : Int) ∧ (i : Int) < (n : Int) + 1 ∧ (0 : Int) ≤ (i : Int) + 1 ∧ (i : Int) + 1 < (n : Int) + 1 ∧ (0 : Int) < (n : Int) + 1 ∧ (i : Int) < (n : Int) := ⟨by omega, by omega, by omega, by omega, by omega, by omega, by omega, by omega⟩
set_option maxHeartbeats 2000000 in
theorem kturn_any (ax ay bx bY cx cy : Int) (ha : Vd.Cd (ax, ay)) (hb : Vd.Cd (bx, bY)) (hc : Vd.Cd (cx, cy)) (w : World) :
  Calls Tryz.prog 37 #[.agg #[.int .i64 ax, .int .i64 ay], .agg #[.int .i64 bx, .int .i64 bY], .agg #[.int .i64 cx, .int .i64 cy]] w fun e w' => e = .returned (.int .i64 (Vd.cr (ax, ay) (bx, bY) (cx, cy) 1)) ∧ Up w w' := by
 obtain ⟨t1, t2, t3, t4, t5, t6, t7⟩ := turn_nums ha hb hc
 have e : Vd.cr (ax, ay) (bx, bY) (cx, cy) 1 = (bx - ax) * (cy - ay) - (bY - ay) * (cx - ax) := by unfold Vd.cr; simp only [Int.mul_one]
 rw [e]
 clear e ha hb hc
 go_enter Tryz.func37, Tryz.ntmps37
 go_wp2
 go_ret
 exact ⟨ret_i t7, (((Up.refl _).alloc _).alloc _).alloc _⟩
set_option maxHeartbeats 2000000 in
theorem ahead_any (ax ay bx bY : Int) (h : ¬ Vd.bef (ax, ay) (bx, bY)) (w : World) :
  Calls Tryz.prog 38 #[.agg #[.int .i64 ax, .int .i64 ay], .agg #[.int .i64 bx, .int .i64 bY]] w fun e w' => e = .returned (.bool false) ∧ Up w w' := by
 unfold Vd.bef at h
 simp only at h
 have h1 : ¬ ax < bx := fun q => h (.inl q)
 have h1' : decide (ax < bx) = false := decide_eq_false h1
 by_cases h2 : ax = bx
 ·have h3 : ¬ ay < bY := fun q => h (.inr ⟨h2, q⟩)
  have h3' : decide (ay < bY) = false := decide_eq_false h3
  subst h2
  clear h
  go_enter Tryz.func38, Tryz.ntmps38
  go_wp2
  go_ret
  exact ⟨rfl, ((Up.refl _).alloc _).alloc _⟩
 ·have h2' : (ax == bx) = false := beq_eq_false_iff_ne.2 h2
  clear h
  go_enter Tryz.func38, Tryz.ntmps38
  go_wp2
  go_ret
  exact ⟨rfl, ((Up.refl _).alloc _).alloc _⟩
set_option maxRecDepth 100000 in
set_option maxHeartbeats 8000000 in
theorem oriented_any (d : D3) (w1 : World) (hok : OK3 w1 d) (hbd : Pl.Bd d.m) (hcd : ∀ l ∈ d.m, Vd.CdL l) (ho : ∀ (i : Nat) l, d.m[i]? = some l → ∀ (j : Nat) r, l[j]? = some r → Vd.Orn r (decide (j = 0))) :
  Calls Tryz.prog 21 #[d.v] w1 fun e w' => e = .returned (.bool true) ∧ Up w1 w' := by
 have HOk := hide hok
 have HL3 : Hid (d.ps.length ≤ 1048576 ∧ ∀ (i : Nat) x, d.ps[i]? = some x → x.rs.length ≤ 1048576 ∧ ∀ (j : Nat) y, x.rs[j]? = some y → y.r.length ≤ 1048576 ∧ (∀ p ∈ y.r, Vd.Cd p) ∧ Vd.Orn y.r (decide (j = 0))) := by
  refine ⟨by have := hbd.len; simpa [D3.m] using this, fun i x hx => ⟨?_, fun j y hy => ⟨hbd.ring x.pts (List.mem_map_of_mem (Pl.mem_of_some hx)) y.r (List.mem_map_of_mem (Pl.mem_of_some hy)), fun p hp => hcd x.pts (List.mem_map_of_mem (Pl.mem_of_some hx)) y.r (List.mem_map_of_mem (Pl.mem_of_some hy)) p hp, ho i x.pts (by rw [D3.m, List.getElem?_map, hx]; rfl) j y.r (by rw [D2.pts, List.getElem?_map, hy]; rfl)⟩⟩⟩
  have := hbd.poly x.pts (List.mem_map_of_mem (Pl.mem_of_some hx)); simpa [D2.pts] using this
 clear hok hbd hcd ho
 rw [D3.v]
 have hl3 := HL3.out.1
 go_enter Tryz.func21, Tryz.ntmps21
 go_wp2_with fail
 go_loopw [3] (fun i wq => ∃ p : Nat, p ≤ d.ps.length ∧ i = .int .i64 p ∧ Hid (Up w1 wq)) (fun i _ => d.ps.length - (intOf i).toNat)
 case atStart => exact ⟨0, Nat.zero_le _, rfl, Up.refl _⟩
 case round =>
  obtain ⟨p, hp, rfl, HUp⟩ := hrel
  by_cases hlt : p < d.ps.length
  ·obtain ⟨x, hx⟩ := Pl.some_of_lt hlt
   obtain ⟨hxl, hyl0⟩ := HL3.out.2 p x hx
   have hyl := hide hyl0
   have hxc : w1.cell? ⟨d.b, p, none⟩ = some (.slice (some ⟨x.b, 0, none⟩) x.rs.length (x.rs.length + x.s.length)) := HOk.out.row.cell (by rw [List.map_append, List.getElem?_append_left (by simpa using hlt), List.getElem?_map, hx]; rfl)
   have hxo := hide (HOk.out.sub x (List.mem_append_left _ (Pl.mem_of_some hx)))
   have HXc := hide hxc
   have Hlt := hide hlt
   clear hx hyl0 hxc
   go_wp2
   go_loopw [4] (fun j wq => ∃ q : Nat, q ≤ x.rs.length ∧ j = .int .i64 q ∧ Hid (Up w1 wq)) (fun j _ => x.rs.length - (intOf j).toNat)
   case atStart => exact ⟨0, Nat.zero_le _, rfl, HUp⟩
   case round =>
    obtain ⟨q, hq, rfl, HUq⟩ := hrel
    have ec := HUq.out.cell HXc.out
    by_cases hlq : q < x.rs.length
    ·obtain ⟨y, hy⟩ := Pl.some_of_lt hlq
     obtain ⟨hyb, hcd, horn⟩ := hyl.out q y hy
     have Hcd := hide hcd
     have HOr := hide horn
     have hyc : w1.cell? ⟨x.b, q, none⟩ = some (.slice (some ⟨y.b, 0, none⟩) y.r.length (y.r.length + y.s.length)) := hxo.out.row.cell (by rw [List.map_append, List.getElem?_append_left (by simpa using hlq), List.getElem?_map, hy]; rfl)
     have hyo := hide (hxo.out.sub y (List.mem_append_left _ (Pl.mem_of_some hy)))
     have HYc := hide hyc
     have Hlq := hide hlq
     have h4 := horn.len
     obtain ⟨n, hn⟩ : ∃ n, y.r.length = n + 1 := ⟨y.r.length - 1, by omega⟩
     have hpr : Hid (Vd.per y.r = n) := by show y.r.length - 1 = n; omega
     have hRd : Hid (∀ i, i < n + 1 → (y.r ++ y.s)[i]? = some (Vd.ptAt y.r i) ∧ Vd.Cd (Vd.ptAt y.r i)) := fun i hi => by
      have := Vd.ptAt_get (r := y.r) (i := i) (by omega)
      exact ⟨by rw [List.getElem?_append_left (by omega)]; exact this, Hcd.out _ (List.mem_of_getElem? this)⟩
     have c2 := HUq.out.cell HYc.out
     rw [hn] at hyb c2
     have t1 : wrap64 (n : Int) = (n : Int) := w64 (by omega) (by omega)
     have t2 : wrap64 ((n : Int) - 1) = ((n - 1 : Nat) : Int) := by rw [w64 (by omega) (by omega)]; omega
     have hn3 : 3 ≤ n := by omega
     clear hy hcd hyc horn h4 hn
     have K1 := hide (hRd.out (n - 1) (by omega))
     have K2 := hide (hRd.out 0 (by omega))
     have K3 := hide (hRd.out 1 (by omega))
     have HF := hide HOr.out.first
     rw [hpr.out] at HF
     have n1 : n - 1 < n + 1 := by omega
     generalize hz : n - 1 = z at *
     generalize Vd.ptAt y.r z = P1 at *
     generalize Vd.ptAt y.r 0 = P2 at *
     generalize Vd.ptAt y.r 1 = P3 at *
     obtain ⟨ax, ay⟩ := P1
     obtain ⟨bx, bY⟩ := P2
     obtain ⟨cx, cy⟩ := P3
     have HT : Hid (∀ g : Gr wr, Calls Tryz.prog 37 #[.agg #[.int .i64 ax, .int .i64 ay], .agg #[.int .i64 bx, .int .i64 bY], .agg #[.int .i64 cx, .int .i64 cy]] g.v fun e w' => e = .returned (.int .i64 (Vd.cr (ax, ay) (bx, bY) (cx, cy) 1)) ∧ Up g.v w') := fun g => kturn_any ax ay bx bY cx cy K1.out.2 K2.out.2 K3.out.2 g.v
     have g1 : ∀ g : Gr wr, g.v.cell? ⟨y.b, z * 2, none⟩ = some (.int .i64 ax) := fun g => (PRow.cells (VRow.up hyo.out (HUq.out.trans g.up)) K1.out.1).1
     have g2 : ∀ g : Gr wr, g.v.cell? ⟨y.b, z * 2 + 1, none⟩ = some (.int .i64 ay) := fun g => (PRow.cells (VRow.up hyo.out (HUq.out.trans g.up)) K1.out.1).2
     have g3 : ∀ g : Gr wr, g.v.cell? ⟨y.b, 0, none⟩ = some (.int .i64 bx) := fun g => (PRow.cells (VRow.up hyo.out (HUq.out.trans g.up)) K2.out.1).1
     have g4 : ∀ g : Gr wr, g.v.cell? ⟨y.b, 1, none⟩ = some (.int .i64 bY) := fun g => (PRow.cells (VRow.up hyo.out (HUq.out.trans g.up)) K2.out.1).2
     have g5 : ∀ g : Gr wr, g.v.cell? ⟨y.b, 2, none⟩ = some (.int .i64 cx) := fun g => (PRow.cells (VRow.up hyo.out (HUq.out.trans g.up)) K3.out.1).1
     have g6 : ∀ g : Gr wr, g.v.cell? ⟨y.b, 3, none⟩ = some (.int .i64 cy) := fun g => (PRow.cells (VRow.up hyo.out (HUq.out.trans g.up)) K3.out.1).2
     have HB : Hid (decide (0 < Vd.cr (ax, ay) (bx, bY) (cx, cy) 1) = decide (q = 0)) := by
      show _ = _
      rw [Bool.eq_iff_iff, decide_eq_true_eq]
      exact HF.out
     have HQ0 : Hid (((q : Int) == 0) = decide (q = 0)) := by
      show _ = _
      rw [Bool.eq_iff_iff, decide_eq_true_eq, beq_iff_eq]; omega
     generalize Vd.cr (ax, ay) (bx, bY) (cx, cy) 1 = T at *
     have t3 : IntKind.i64.wrap ((n : Int) - 1) = (z : Int) := by rw [wrap_id (by omega) (by omega)]; omega
     have i0 : (0 : Int) ≤ (z : Int) := Int.natCast_nonneg _
     have i1 : (z : Int) < (n : Int) + 1 := by omega
     have i2 : (0 : Int) < (n : Int) + 1 := by omega
     have i3 : (1 : Int) < (n : Int) + 1 := by omega
     have i4 : (z : Int) < ((n + 1 : Nat) : Int) := by omega
     have i5 : (0 : Int) < ((n + 1 : Nat) : Int) := by omega
     have i6 : (1 : Int) < ((n + 1 : Nat) : Int) := by omega
     have Hhn := hide hn3
     have Hhyb := hide hyb
     clear hz hn3 hyb K1 K2 K3 HF
     go_upto_region 9 with fail
     clear ec c2
     refine wp_region_up (by kernel_rfl) (by kernel_rfl) ?_
     repeat (first | go_big_quiet_step (first | (go_at_call 37; exact Calls.up_of (HT.out _))))
     refine wpQuiet_nil ?_
     rintro w3 ⟨⟨_, u3⟩, rfl⟩
     have HU3 := hide (HUq.out.trans u3)
     clear u3 g1 g2 g3 g4 g5 g6 HT i0 i1 i2 i3 i4 i5 i6 t2 t3 n1
     obtain ⟨bq, hbq⟩ : ∃ bq, decide (q = 0) = bq := ⟨_, rfl⟩
     have e1 := HB.out
     have e2 := HQ0.out
     rw [hbq] at e1 e2
     clear hbq HB HQ0
     go_wp2
     try rw [t1]
     go_loopw [8] (fun j wq => ∃ i : Nat, i ≤ n ∧ j = .int .i64 i ∧ Hid (Up w1 wq)) (fun j _ => n - (intOf j).toNat)
     case atStart => exact ⟨0, Nat.zero_le _, rfl, HU3⟩
     case round =>
      obtain ⟨i, hi, rfl, HUi⟩ := hrel
      by_cases hli : i < n
      ·obtain ⟨on1, on2, on3, on4, on5⟩ := orn_nums hli (Nat.le_of_succ_le Hhyb.out) (Nat.le_trans (by decide) Hhn.out)
       have hT := HOr.out.turn i (by rw [hpr.out]; exact hli)
       have hA := HOr.out.least i (by rw [hpr.out]; exact hli)
       rw [hpr.out] at hT
       have K1 := hide (hRd.out ((i + n - 1) % n) (Nat.lt_succ_of_lt on5))
       have K2 := hide (hRd.out i (Nat.lt_succ_of_lt hli))
       have K3 := hide (hRd.out (i + 1) (Nat.succ_lt_succ hli))
       have K4 := hide (hRd.out 0 (Nat.zero_lt_succ _))
       generalize hkk : i + n - 1 = kk at *
       clear hkk
       generalize kk % n = z2 at *
       generalize Vd.ptAt y.r z2 = P1 at *
       generalize Vd.ptAt y.r i = P2 at *
       generalize Vd.ptAt y.r (i + 1) = P3 at *
       generalize Vd.ptAt y.r 0 = P4 at *
       obtain ⟨ax, ay⟩ := P1
       obtain ⟨bx, bY⟩ := P2
       obtain ⟨cx, cy⟩ := P3
       obtain ⟨fx, fy⟩ := P4
       have HT : Hid (∀ g : Gr wr, Calls Tryz.prog 37 #[.agg #[.int .i64 ax, .int .i64 ay], .agg #[.int .i64 bx, .int .i64 bY], .agg #[.int .i64 cx, .int .i64 cy]] g.v fun e w' => e = .returned (.int .i64 (Vd.cr (ax, ay) (bx, bY) (cx, cy) 1)) ∧ Up g.v w') := fun g => kturn_any ax ay bx bY cx cy K1.out.2 K2.out.2 K3.out.2 g.v
       have g1 : ∀ g : Gr wr, g.v.cell? ⟨y.b, z2 * 2, none⟩ = some (.int .i64 ax) := fun g => (PRow.cells (VRow.up hyo.out (HUi.out.trans g.up)) K1.out.1).1
       have g2 : ∀ g : Gr wr, g.v.cell? ⟨y.b, z2 * 2 + 1, none⟩ = some (.int .i64 ay) := fun g => (PRow.cells (VRow.up hyo.out (HUi.out.trans g.up)) K1.out.1).2
       have g3 : ∀ g : Gr wr, g.v.cell? ⟨y.b, i * 2, none⟩ = some (.int .i64 bx) := fun g => (PRow.cells (VRow.up hyo.out (HUi.out.trans g.up)) K2.out.1).1
       have g4 : ∀ g : Gr wr, g.v.cell? ⟨y.b, i * 2 + 1, none⟩ = some (.int .i64 bY) := fun g => (PRow.cells (VRow.up hyo.out (HUi.out.trans g.up)) K2.out.1).2
       have g5 : ∀ g : Gr wr, g.v.cell? ⟨y.b, (i + 1) * 2, none⟩ = some (.int .i64 cx) := fun g => (PRow.cells (VRow.up hyo.out (HUi.out.trans g.up)) K3.out.1).1
       have g6 : ∀ g : Gr wr, g.v.cell? ⟨y.b, (i + 1) * 2 + 1, none⟩ = some (.int .i64 cy) := fun g => (PRow.cells (VRow.up hyo.out (HUi.out.trans g.up)) K3.out.1).2
       generalize Vd.cr (ax, ay) (bx, bY) (cx, cy) 1 = T2 at *
       have hT2 : (T2 == 0) = false := beq_eq_false_iff_ne.2 hT
       have HA := hide hA
       have Hli := hide hli
       obtain ⟨j1, j2, j3, j4, j5, j6, j7, j8⟩ := orn_idx hli on5
       have u1 : wrap64 ((i : Int) + 1) = (i : Int) + 1 := on4
       have hn0 : ((n : Int) == 0) = false := nz1 Hhn.out
       have hn1 : ((n : Int) = 0) = False := nz2 Hhn.out
       clear hT hA
       go_upto_region 16 with fail
       try rw [on2]
       try rw [t1]
       refine wp_region_up (by kernel_rfl) (by kernel_rfl) ?_
       repeat (first | go_big_quiet_step (first | (go_at_call 37; exact Calls.up_of (HT.out _))))
       refine wpQuiet_nil ?_
       rintro w4 ⟨⟨_, u4⟩, rfl⟩
       have HU4 := hide (HUi.out.trans u4)
       clear u4 g1 g2 g3 g4 g5 g6 HT
       have HA2 : Hid (∀ g : Gr w4, Calls Tryz.prog 38 #[.agg #[.int .i64 bx, .int .i64 bY], .agg #[.int .i64 fx, .int .i64 fy]] g.v fun e w' => e = .returned (.bool false) ∧ Up g.v w') := fun g => ahead_any bx bY fx fy HA.out g.v
       have g3 : ∀ g : Gr w4, g.v.cell? ⟨y.b, i * 2, none⟩ = some (.int .i64 bx) := fun g => (PRow.cells (VRow.up hyo.out (HU4.out.trans g.up)) K2.out.1).1
       have g4 : ∀ g : Gr w4, g.v.cell? ⟨y.b, i * 2 + 1, none⟩ = some (.int .i64 bY) := fun g => (PRow.cells (VRow.up hyo.out (HU4.out.trans g.up)) K2.out.1).2
       have g5 : ∀ g : Gr w4, g.v.cell? ⟨y.b, 0, none⟩ = some (.int .i64 fx) := fun g => (PRow.cells (VRow.up hyo.out (HU4.out.trans g.up)) K4.out.1).1
       have g6 : ∀ g : Gr w4, g.v.cell? ⟨y.b, 1, none⟩ = some (.int .i64 fy) := fun g => (PRow.cells (VRow.up hyo.out (HU4.out.trans g.up)) K4.out.1).2
       go_upto_region 17 with fail
       refine wp_region_up (by kernel_rfl) (by kernel_rfl) ?_
       repeat (first | go_big_quiet_step (first | (go_at_call 38; exact Calls.up_of (HA2.out _))))
       refine wpQuiet_nil ?_
       rintro w5 ⟨⟨_, u5⟩, rfl⟩
       have HU5 := hide (HU4.out.trans u5)
       clear u5 g3 g4 g5 g6 HA2 on1 on2 on3 on4 on5 j1 j2 j3 j4 j5 j6 j7 j8
       go_wp2
       rw [u1]
       exact ⟨⟨i + 1, Hli.out, ovint_succ _, HU5⟩, omeas_succ Hli.out⟩
      ·go_wp2
       exact ⟨⟨q + 1, Hlq.out, ovint_succ _, HUi⟩, omeas_succ Hlq.out⟩
    ·go_wp2
     exact ⟨⟨p + 1, Hlt.out, ovint_succ _, HUq⟩, omeas_succ Hlt.out⟩
  ·have HU := hide HUp.out
   go_wp2
   go_ret
   exact ⟨rfl, HU.out⟩
end Go.Proofs.YtcclepohmhdpbabGreatDoor
