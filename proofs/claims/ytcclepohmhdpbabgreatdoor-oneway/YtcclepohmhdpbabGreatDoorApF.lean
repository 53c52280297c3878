import Derived.Test.YtcclepohmhdpbabGreatDoorApD
import Derived.Test.YtcclepohmhdpbabGreatDoorHsI
namespace Go.Proofs.YtcclepohmhdpbabGreatDoor
set_option linter.all false
open Go.RowKit Go.Deep
structure AT (w wr : World) (s : Vd.Seg) (m : Vd.Spot) : Prop where
 up : Up w wr
 s0 : VRow wr w.heap.size 98 [.int .i64 s.1.1, .int .i64 s.1.2, .int .i64 s.2.1, .int .i64 s.2.2]
 m0 : VRow wr (w.heap.size + 1) 65 [.int .i64 m.1.1, .int .i64 m.1.2, .int .i64 m.2]
 r0 : VRow wr (w.heap.size + 1 + 1) 65 [.int .i64 0, .int .i64 0, .int .i64 0]
theorem AT.keep {w wr w2 : World} {s : Vd.Seg} {m : Vd.Spot} (h : AT w wr s m) (k : Up wr w2) : AT w w2 s m := ⟨h.up.trans k, h.s0.up k, h.m0.up k, h.r0.up k⟩
theorem lookL_cons (o : Mult) (both : List Vd.Seg) (s : Vd.Seg) (m : Vd.Spot) (t : Vd.Seg) (l : List Vd.Seg) : Vd.lookL o both s m (t :: l) = if Vd.hasB t m then Vd.atBoth both s t m else Vd.lookL o both s m l := by rw [Vd.lookL]
theorem lookL_nil (o : Mult) (both : List Vd.Seg) (s : Vd.Seg) (m : Vd.Spot) : Vd.lookL o both s m [] = if Vd.inSet o m then some (Vd.near both m ((Vd.along s).2, -(Vd.along s).1)) else some m := by rw [Vd.lookL]
set_option maxRecDepth 8000 in
set_option maxHeartbeats 8000000 in
theorem lookAt_any (b : Nat) (ov ev bv : Value) (other : Mult) (oe both : List Vd.Seg) (s : Vd.Seg) (m : Vd.Spot) (w : World) (hb : VRow w b 96 [ov, ev, bv]) (ho : Rd3 w ov other) (hz : Sz other) (he : RdSeg w ev oe) (hoe : ∀ t ∈ oe, Vd.CdS t) (hl : oe.length ≤ 1073741824) (hn : NearC w b both m) (hs : Vd.CdS s) (hm : Vd.Sp m) :
  Calls Tryz.prog 71 #[.pointer (some ⟨b, 0, none⟩), segV s, spotV m] w fun e w' => e = .returned (spoV (Vd.lookL other both s m oe)) ∧ Up w w' := by
 have HA : Hid (∀ w, Calls Tryz.prog 107 #[segV s] w fun e w' => e = .returned (ptV (Vd.along s)) ∧ Up w w') := fun w => along_any s hs w
 have HRt : Hid (∀ w, Calls Tryz.prog 108 #[ptV (Vd.along s)] w fun e w' => e = .returned (ptV ((Vd.along s).2, -(Vd.along s).1)) ∧ Up w w') := fun w => right_any _ (along_bdd hs) w
 have HN := hide (fun w' => hn _ w' (right_bdd (along_bdd hs)))
 have HAB : Hid (∀ t ∈ oe, ∀ w', Up w w' → Calls Tryz.prog 105 #[.pointer (some ⟨b, 0, none⟩), segV s, segV t, spotV m] w' fun e w'' => e = .returned (spoV (Vd.atBoth both s t m)) ∧ Up w' w'') := fun t ht w' k => atBoth_any b both s t m w' (fun u w'' hu k2 => hn u w'' hu (k.trans k2)) hs (hoe t ht)
 have HHas : Hid (∀ t ∈ oe, ∀ w', Calls Tryz.prog 104 #[segV t, spotV m] w' fun e w'' => e = .returned (.bool (Vd.hasB t m)) ∧ Up w' w'') := fun t ht w' => has_any t m (hoe t ht) hm w'
 have HIn : Hid (∀ g : Gr w, ∀ w', Up w w' → Calls Tryz.prog 52 #[ov, spotV m] w' fun e w'' => e = .returned (.bool (Vd.inSet other m)) ∧ Up w' w'') := fun _ w' k => inSet_any ov other m w' (ho.up k) hz hm
 have HX : Hid (∀ t l, Vd.lookL other both s m (t :: l) = if Vd.hasB t m then Vd.atBoth both s t m else Vd.lookL other both s m l) := fun t l => lookL_cons other both s m t l
 have HX0 : Hid (Vd.lookL other both s m [] = if Vd.inSet other m then some (Vd.near both m ((Vd.along s).2, -(Vd.along s).1)) else some m) := lookL_nil other both s m
 generalize hF : (fun l => Vd.lookL other both s m l) = F at *
 have HFk : Hid (∀ l, Vd.lookL other both s m l = F l) := fun l => by rw [← hF]
 simp only [HFk.out] at HX HX0 ⊢
 generalize Vd.along s = L at *
 obtain ⟨lx, ly⟩ := L
 simp only at HRt HX0 HN
 generalize Vd.near both m (ly, -lx) = N at *
 obtain ⟨⟨n1, n2⟩, n3⟩ := N
 generalize Vd.inSet other m = B at *
 have HE := hide he
 obtain ⟨ao, cap, rfl, -⟩ := HE.out
 have HOv := hide ho
 obtain ⟨oao, ocap, rfl, -⟩ := HOv.out
 clear hF HFk he ho hz hn hs hm hoe
 obtain ⟨⟨ax, ay⟩, ⟨bx, bY⟩⟩ := s
 obtain ⟨⟨x, y⟩, d⟩ := m
 simp only [segV, spotV, ptV] at *
 have HW : Hid (AT w (((w.alloc (.cells #[.int .i64 ax, .int .i64 ay, .int .i64 bx, .int .i64 bY] 98)).alloc (.cells #[.int .i64 x, .int .i64 y, .int .i64 d] 65)).alloc (.cells #[.int .i64 0, .int .i64 0, .int .i64 0] 65)) ((ax, ay), (bx, bY)) ((x, y), d)) := by
  refine ⟨(((Up.refl _).alloc _).alloc _ |>.alloc _), ?_, ?_, ?_⟩
  ·exact ((new_row (vs := [_, _, _, _]) rfl).alloc _).alloc _
  ·have := (new_row (w := w.alloc (.cells #[.int .i64 ax, .int .i64 ay, .int .i64 bx, .int .i64 bY] 98)) (o := .cells #[.int .i64 x, .int .i64 y, .int .i64 d] 65) (vs := [_, _, _]) rfl).alloc (.cells #[.int .i64 0, .int .i64 0, .int .i64 0] 65)
   simpa only [hsz_alloc] using this
  ·have := new_row (w := (w.alloc (.cells #[.int .i64 ax, .int .i64 ay, .int .i64 bx, .int .i64 bY] 98)).alloc (.cells #[.int .i64 x, .int .i64 y, .int .i64 d] 65)) (o := .cells #[.int .i64 0, .int .i64 0, .int .i64 0] 65) (vs := [_, _, _]) rfl
   simpa only [hsz_alloc] using this
 have b1 := HW.out.up.cell (hb.cell (i := 1) rfl)
 go_enter Tryz.func71, Tryz.ntmps71
 go_wp2
 go_loopw [15] (fun i wr => ∃ (k : Nat), i = .int .i64 k ∧ k ≤ oe.length ∧ Hid (AT w wr ((ax, ay), (bx, bY)) ((x, y), d)) ∧ Hid (F oe = F (oe.drop k))) (fun i _ => oe.length - (intOf i).toNat)
 case atStart => exact ⟨0, rfl, Nat.zero_le _, HW, by show F oe = F (oe.drop 0); simp⟩
 case round =>
  clear b1 HW
  obtain ⟨k, rfl, hk, HW, HF⟩ := hrel
  by_cases hlt : k < oe.length
  ·obtain ⟨t, ht⟩ := Pl.some_of_lt hlt
   obtain ⟨b', cap', e', c0, c1, c2, c3⟩ := HE.out.seg ht
   cases e'
   have HXk := hide (HX.out t (oe.drop (k + 1)))
   rw [drop_at' ht] at HF
   have HKa := hide (HAB.out t (Pl.mem_of_some ht))
   have HKh := hide (HHas.out t (Pl.mem_of_some ht))
   have d0 := HW.out.up.cell c0
   have d1 := HW.out.up.cell c1
   have d2 := HW.out.up.cell c2
   have d3 := HW.out.up.cell c3
   generalize Vd.atBoth both ((ax, ay), bx, bY) t ((x, y), d) = R at *
   generalize Vd.hasB t ((x, y), d) = G at *
   obtain ⟨⟨tx, ty⟩, ⟨vx, vy⟩⟩ := t
   simp only at d0 d1 d2 d3 HKa HKh
   have i3 : (0 : Int) ≤ (k : Int) := by omega
   have i4 : (k : Int) < (oe.length : Int) := by omega
   have HWa := hide (HW.out.keep ((Up.refl wr).alloc (.cells #[.int .i64 tx, .int .i64 ty, .int .i64 vx, .int .i64 vy] 98)))
   have RT := hide (new_row (w := wr) (o := .cells #[.int .i64 tx, .int .i64 ty, .int .i64 vx, .int .i64 vy] 98) (vs := [_, _, _, _]) rfl)
   have m0 := HWa.out.m0.cell (i := 0) rfl
   have m1 := HWa.out.m0.cell (i := 1) rfl
   have m2 := HWa.out.m0.cell (i := 2) rfl
   simp only at m0 m1 m2
   clear c0 c1 c2 c3 ht
   go_wp2_with fail
   refine (HKh.out _).mono ?_
   rintro e w2 ⟨rfl, hz⟩
   have HW2 := hide (HWa.out.keep hz)
   replace RT := hide (RT.out.up hz)
   clear hz d0 d1 d2 d3 m0 m1 m2 HKh HWa
   cases G
   ·have HF2 : Hid (F oe = F (oe.drop (k + 1))) := by rw [HF.out, HXk.out]; exact rfl
    go_wp2
    go_roundw
    case rel => exact ⟨k + 1, by go_num, by omega, HW2, HF2⟩
    case measure => simp [intOf]; omega
   ·have HR : Hid (F oe = R) := by rw [HF.out, HXk.out]; exact rfl
    have s0 := HW2.out.s0.cell (i := 0) rfl
    have s1 := HW2.out.s0.cell (i := 1) rfl
    have s2 := HW2.out.s0.cell (i := 2) rfl
    have s3 := HW2.out.s0.cell (i := 3) rfl
    have m0 := HW2.out.m0.cell (i := 0) rfl
    have m1 := HW2.out.m0.cell (i := 1) rfl
    have m2 := HW2.out.m0.cell (i := 2) rfl
    have t0 := RT.out.cell (i := 0) rfl
    have t1 := RT.out.cell (i := 1) rfl
    have t2 := RT.out.cell (i := 2) rfl
    have t3 := RT.out.cell (i := 3) rfl
    simp only at s0 s1 s2 s3 m0 m1 m2 t0 t1 t2 t3
    go_wp2_with fail
    refine (HKa.out _ HW2.out.up).mono ?_
    rintro e w4 ⟨rfl, hz⟩
    have HW4 := hide (HW2.out.keep hz)
    clear hz s0 s1 s2 s3 m0 m1 m2 t0 t1 t2 t3 HKa
    have r0 := HW4.out.r0.cell (i := 0) rfl
    have r1 := HW4.out.r0.cell (i := 1) rfl
    have r2 := HW4.out.r0.cell (i := 2) rfl
    have rz := fun i => HW4.out.r0.frozen i
    obtain ⟨f0, f1, f2⟩ := back3 HW4.out.r0
    have HV : Hid (spoV (F oe) = .tuple #[.agg #[.int .i64 (R.getD ((0, 0), 0)).1.1, .int .i64 (R.getD ((0, 0), 0)).1.2, .int .i64 (R.getD ((0, 0), 0)).2], .bool R.isSome]) := by rw [HR.out]; exact rfl
    simp only [spoV, spotV]
    generalize R.isSome = G at *
    generalize R.getD ((0, 0), 0) = Y at *
    obtain ⟨⟨y1, y2⟩, y3⟩ := Y
    simp only
    go_wp2
    refine bodyPost_ret (v := .tuple #[.agg #[.int .i64 y1, .int .i64 y2, .int .i64 y3], .bool G]) (by simp [results, Tryz.results71, go_sem, f0, f1, f2]) rfl ⟨by rw [HV.out], ?_⟩
    repeat (refine Up.setCell ?_ (by simp <;> omega) _)
    exact HW4.out.up
  ·have HF0 : Hid (F oe = if B then some ((n1, n2), n3) else some ((x, y), d)) := by
    have hk2 : k = oe.length := by omega
    rw [HF.out, hk2, List.drop_length, HX0.out]; exact rfl
   have b0 := cell_gr (HW.out.up.cell (hb.cell (i := 0) rfl))
   have m0 := HW.out.m0.gr (i := 0) rfl
   have m1 := HW.out.m0.gr (i := 1) rfl
   have m2 := HW.out.m0.gr (i := 2) rfl
   have HI : Hid (∀ g : Gr wr, Calls Tryz.prog 52 #[.slice oao other.length ocap, .agg #[.int .i64 x, .int .i64 y, .int .i64 d]] g.v fun e w'' => e = .returned (.bool B) ∧ Up g.v w'') := fun g => HIn.out ⟨w, Up.refl w⟩ g.v (HW.out.up.trans g.up)
   simp only at b0 m0 m1 m2
   go_wp2_with fail
   refine wp_region_up (by kernel_rfl) (by kernel_rfl) ?_
   repeat (first | go_big_quiet_step ((go_at_call 52; exact Calls.up_of (HI.out _))))
   refine wpQuiet_nil ?_
   rintro w3 ⟨⟨_, u3⟩, rfl⟩
   have HW3 := hide (HW.out.keep u3)
   clear u3 b0 m0 m1 m2 HI HIn
   have s0 := HW3.out.s0.cell (i := 0) rfl
   have s1 := HW3.out.s0.cell (i := 1) rfl
   have s2 := HW3.out.s0.cell (i := 2) rfl
   have s3 := HW3.out.s0.cell (i := 3) rfl
   have m0 := HW3.out.m0.cell (i := 0) rfl
   have m1 := HW3.out.m0.cell (i := 1) rfl
   have m2 := HW3.out.m0.cell (i := 2) rfl
   have r0 := HW3.out.r0.cell (i := 0) rfl
   have r1 := HW3.out.r0.cell (i := 1) rfl
   have r2 := HW3.out.r0.cell (i := 2) rfl
   have rz := fun i => HW3.out.r0.frozen i
   simp only at s0 s1 s2 s3 m0 m1 m2 r0 r1 r2
   cases B
   ·obtain ⟨f0, f1, f2⟩ := back3 HW3.out.r0
    have HV : Hid (F oe = some ((x, y), d)) := by rw [HF0.out]; exact rfl
    go_wp2
    refine bodyPost_ret (v := .tuple #[.agg #[.int .i64 x, .int .i64 y, .int .i64 d], .bool true]) (by simp [results, Tryz.results71, go_sem, f0, f1, f2]) rfl ⟨by rw [HV.out]; rfl, ?_⟩
    repeat (refine Up.setCell ?_ (by simp <;> omega) _)
    exact HW3.out.up
   ·have HV : Hid (F oe = some ((n1, n2), n3)) := by rw [HF0.out]; exact rfl
    go_wp2_with fail
    go_region_with (first
     | (go_at_call 107; refine (HA.out _).mono ?_; rintro e w4 ⟨rfl, u4⟩; have HW4 := hide (HW3.out.keep ((Up.refl _).drew.trans u4)); clear u4; clear s0 s1 s2 s3 m0 m1 m2 r0 r1 r2 rz; have m0 := HW4.out.m0.cell (i := 0) rfl; have m1 := HW4.out.m0.cell (i := 1) rfl; have m2 := HW4.out.m0.cell (i := 2) rfl)
     | (go_at_call 108; refine (HRt.out _).mono ?_; rintro e w6 ⟨rfl, u6⟩; have HW6 := hide (HW4.out.keep u6); clear u6 m0 m1 m2; have m0 := HW6.out.m0.cell (i := 0) rfl; have m1 := HW6.out.m0.cell (i := 1) rfl; have m2 := HW6.out.m0.cell (i := 2) rfl)
     | (go_at_call 106; refine (HN.out _ HW6.out.up).mono ?_; rintro e w5 ⟨rfl, u5⟩; have HW5 := hide (HW6.out.keep u5); clear u5 m0 m1 m2; have r0 := HW5.out.r0.cell (i := 0) rfl; have r1 := HW5.out.r0.cell (i := 1) rfl; have r2 := HW5.out.r0.cell (i := 2) rfl; have rz := fun i => HW5.out.r0.frozen i))
    all_goals
     obtain ⟨f0, f1, f2⟩ := back3 HW5.out.r0
     go_wp2
     refine bodyPost_ret (v := .tuple #[.agg #[.int .i64 n1, .int .i64 n2, .int .i64 n3], .bool true]) (by simp [results, Tryz.results71, go_sem, f0, f1, f2]) rfl ⟨by rw [HV.out]; rfl, ?_⟩
     repeat (refine Up.setCell ?_ (by simp <;> omega) _)
     exact HW5.out.up
end Go.Proofs.YtcclepohmhdpbabGreatDoor
