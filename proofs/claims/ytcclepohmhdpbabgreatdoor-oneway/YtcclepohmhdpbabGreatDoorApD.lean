import Derived.Test.YtcclepohmhdpbabGreatDoorApC
namespace Go.Proofs.YtcclepohmhdpbabGreatDoor
set_option linter.all false
open Go.RowKit Go.Deep
def spoV (o : Option Vd.Spot) : Value := .tuple #[spotV (o.getD ((0, 0), 0)), .bool o.isSome]
structure AB (w wr : World) (s t : Vd.Seg) (m : Vd.Spot) : Prop where
 up : Up w wr
 s0 : VRow wr w.heap.size 98 [.int .i64 s.1.1, .int .i64 s.1.2, .int .i64 s.2.1, .int .i64 s.2.2]
 t0 : VRow wr (w.heap.size + 1) 98 [.int .i64 t.1.1, .int .i64 t.1.2, .int .i64 t.2.1, .int .i64 t.2.2]
 m0 : VRow wr (w.heap.size + 1 + 1) 65 [.int .i64 m.1.1, .int .i64 m.1.2, .int .i64 m.2]
 r0 : VRow wr (w.heap.size + 1 + 1 + 1) 65 [.int .i64 0, .int .i64 0, .int .i64 0]
theorem AB.keep {w wr w2 : World} {s t : Vd.Seg} {m : Vd.Spot} (h : AB w wr s t m) (k : Up wr w2) : AB w w2 s t m := ⟨h.up.trans k, h.s0.up k, h.t0.up k, h.m0.up k, h.r0.up k⟩
def NearC (w : World) (b : Nat) (both : List Vd.Seg) (m : Vd.Spot) : Prop := ∀ (u : Pnt) (w' : World), Bdd 65536 u → Up w w' → Calls Tryz.prog 106 #[.pointer (some ⟨b, 0, none⟩), spotV m, ptV u] w' fun e w'' => e = .returned (spotV (Vd.near both m u)) ∧ Up w' w''
theorem nearC_of {b : Nat} {ov ev bv : Value} {both : List Vd.Seg} {m : Vd.Spot} {w : World} (hb : VRow w b 96 [ov, ev, bv]) (hv : RdSeg w bv both) (hl : both.length ≤ 1073741824) (hc : ∀ s ∈ both, Vd.CdS s) (hm : Mp m) : NearC w b both m :=
 fun u w' hu k => near_any b ov ev bv both m u w' (hb.up k) (hv.up k) hl hc hm hu
theorem neg_bdd {A : Int} {u : Pnt} (h : Bdd A u) : Bdd A (-u.1, -u.2) := by unfold Bdd at *; simp only; omega
theorem right_bdd {A : Int} {u : Pnt} (h : Bdd A u) : Bdd A (u.2, -u.1) := by unfold Bdd at *; simp only; omega
set_option maxRecDepth 8000 in
set_option maxHeartbeats 8000000 in
theorem atBoth_any (b : Nat) (both : List Vd.Seg) (s t : Vd.Seg) (m : Vd.Spot) (w : World) (hn : NearC w b both m) (hs : Vd.CdS s) (ht : Vd.CdS t) :
  Calls Tryz.prog 105 #[.pointer (some ⟨b, 0, none⟩), segV s, segV t, spotV m] w fun e w' => e = .returned (spoV (Vd.atBoth both s t m)) ∧ Up w w' := by
 have HE : Hid (Vd.atBoth both s t m = if Vd.turnW (Vd.along s) (Vd.along t) < 0 then some (Vd.near both m (Vd.along t)) else if 0 < Vd.turnW (Vd.along s) (Vd.along t) then some (Vd.near both m (-(Vd.along t).1, -(Vd.along t).2)) else none) := rfl
 have HA1 : Hid (∀ w, Calls Tryz.prog 107 #[segV s] w fun e w' => e = .returned (ptV (Vd.along s)) ∧ Up w w') := fun w => along_any s hs w
 have HA2 : Hid (∀ w, Calls Tryz.prog 107 #[segV t] w fun e w' => e = .returned (ptV (Vd.along t)) ∧ Up w w') := fun w => along_any t ht w
 have HT : Hid (∀ w, Calls Tryz.prog 133 #[ptV (Vd.along s), ptV (Vd.along t)] w fun e w' => e = .returned (.int .i64 (Vd.turnW (Vd.along s) (Vd.along t))) ∧ Up w w') := fun w => turn_any _ _ (along_bdd hs) (along_bdd ht) (by omega) (by omega) (by omega) w
 have HB : Hid (∀ w, Calls Tryz.prog 134 #[ptV (Vd.along t)] w fun e w' => e = .returned (ptV (-(Vd.along t).1, -(Vd.along t).2)) ∧ Up w w') := fun w => back_any _ (along_bdd ht) w
 have HN1 := hide (fun w' => hn (Vd.along t) w' (along_bdd ht))
 have HN2 := hide (fun w' => hn _ w' (neg_bdd (along_bdd ht)))
 generalize Vd.along t = L at *
 generalize Vd.along s = K at *
 obtain ⟨lx, ly⟩ := L
 obtain ⟨kx, ky⟩ := K
 generalize Vd.turnW (kx, ky) (lx, ly) = T at *
 generalize Vd.atBoth both s t m = R at *
 simp only at HE HB HN2
 generalize Vd.near both m (lx, ly) = N1 at *
 generalize Vd.near both m (-lx, -ly) = N2 at *
 obtain ⟨⟨n1, n2⟩, n3⟩ := N1
 obtain ⟨⟨n4, n5⟩, n6⟩ := N2
 clear hn hs ht
 obtain ⟨⟨ax, ay⟩, ⟨bx, bY⟩⟩ := s
 obtain ⟨⟨cx, cy⟩, ⟨dx, dy⟩⟩ := t
 obtain ⟨⟨x, y⟩, d⟩ := m
 simp only [segV, spotV, ptV] at *
 have HW : Hid (AB w ((((w.alloc (.cells #[.int .i64 ax, .int .i64 ay, .int .i64 bx, .int .i64 bY] 98)).alloc (.cells #[.int .i64 cx, .int .i64 cy, .int .i64 dx, .int .i64 dy] 98)).alloc (.cells #[.int .i64 x, .int .i64 y, .int .i64 d] 65)).alloc (.cells #[.int .i64 0, .int .i64 0, .int .i64 0] 65)) ((ax, ay), (bx, bY)) ((cx, cy), (dx, dy)) ((x, y), d)) := by
  refine ⟨(((Up.refl _).alloc _).alloc _ |>.alloc _).alloc _, ?_, ?_, ?_, ?_⟩
  ·exact ((new_row (vs := [_, _, _, _]) rfl).alloc _).alloc _ |>.alloc _
  ·have := ((new_row (w := w.alloc (.cells #[.int .i64 ax, .int .i64 ay, .int .i64 bx, .int .i64 bY] 98)) (o := .cells #[.int .i64 cx, .int .i64 cy, .int .i64 dx, .int .i64 dy] 98) (vs := [_, _, _, _]) rfl).alloc (.cells #[.int .i64 x, .int .i64 y, .int .i64 d] 65)).alloc (.cells #[.int .i64 0, .int .i64 0, .int .i64 0] 65)
   simpa only [hsz_alloc] using this
  ·have := (new_row (w := (w.alloc (.cells #[.int .i64 ax, .int .i64 ay, .int .i64 bx, .int .i64 bY] 98)).alloc (.cells #[.int .i64 cx, .int .i64 cy, .int .i64 dx, .int .i64 dy] 98)) (o := .cells #[.int .i64 x, .int .i64 y, .int .i64 d] 65) (vs := [_, _, _]) rfl).alloc (.cells #[.int .i64 0, .int .i64 0, .int .i64 0] 65)
   simpa only [hsz_alloc] using this
  ·have := new_row (w := ((w.alloc (.cells #[.int .i64 ax, .int .i64 ay, .int .i64 bx, .int .i64 bY] 98)).alloc (.cells #[.int .i64 cx, .int .i64 cy, .int .i64 dx, .int .i64 dy] 98)).alloc (.cells #[.int .i64 x, .int .i64 y, .int .i64 d] 65)) (o := .cells #[.int .i64 0, .int .i64 0, .int .i64 0] 65) (vs := [_, _, _]) rfl
   simpa only [hsz_alloc] using this
 go_enter Tryz.func105, Tryz.ntmps105
 go_wp2_with fail
 have s0 := HW.out.s0.gr (i := 0) rfl
 have s1 := HW.out.s0.gr (i := 1) rfl
 have s2 := HW.out.s0.gr (i := 2) rfl
 have s3 := HW.out.s0.gr (i := 3) rfl
 have t0 := HW.out.t0.gr (i := 0) rfl
 have t1 := HW.out.t0.gr (i := 1) rfl
 have t2 := HW.out.t0.gr (i := 2) rfl
 have t3 := HW.out.t0.gr (i := 3) rfl
 refine wp_region_up (by kernel_rfl) (by kernel_rfl) ?_
 repeat (first | go_big_quiet_step (fail))
 go_big_quiet_step ((go_at_call 107; exact Calls.up_of (HA1.out _)))
 repeat (first | go_big_quiet_step (fail))
 go_big_quiet_step ((go_at_call 107; exact Calls.up_of (HA2.out _)))
 repeat (first | go_big_quiet_step ((go_at_call 133; exact Calls.up_of (HT.out _))))
 refine wpQuiet_nil ?_
 rintro w3 ⟨⟨_, u3⟩, rfl⟩
 replace HW := hide (HW.out.keep u3)
 clear u3 s0 s1 s2 s3 t0 t1 t2 t3 HA1 HT
 have t0 := HW.out.t0.cell (i := 0) rfl
 have t1 := HW.out.t0.cell (i := 1) rfl
 have t2 := HW.out.t0.cell (i := 2) rfl
 have t3 := HW.out.t0.cell (i := 3) rfl
 have m0 := HW.out.m0.cell (i := 0) rfl
 have m1 := HW.out.m0.cell (i := 1) rfl
 have m2 := HW.out.m0.cell (i := 2) rfl
 have r0 := HW.out.r0.cell (i := 0) rfl
 have r1 := HW.out.r0.cell (i := 1) rfl
 have r2 := HW.out.r0.cell (i := 2) rfl
 have rz := fun i => HW.out.r0.frozen i
 by_cases h1 : T < 0
 ·have HR : Hid (R = some ((n1, n2), n3)) := by rw [HE.out, if_pos h1]; exact rfl
  go_wp2_with fail
  go_region_with (first
   | (go_at_call 107; refine (HA2.out _).mono ?_; rintro e w4 ⟨rfl, u4⟩; have HW4 := hide (HW.out.keep ((Up.refl _).drew.trans u4)); clear u4; clear t0 t1 t2 t3 m0 m1 m2 r0 r1 r2 rz; have m0 := HW4.out.m0.cell (i := 0) rfl; have m1 := HW4.out.m0.cell (i := 1) rfl; have m2 := HW4.out.m0.cell (i := 2) rfl)
   | (go_at_call 106; refine (HN1.out _ HW4.out.up).mono ?_; rintro e w5 ⟨rfl, u5⟩; have HW5 := hide (HW4.out.keep u5); clear u5 m0 m1 m2; have r0 := HW5.out.r0.cell (i := 0) rfl; have r1 := HW5.out.r0.cell (i := 1) rfl; have r2 := HW5.out.r0.cell (i := 2) rfl; have rz := fun i => HW5.out.r0.frozen i))
  all_goals
   obtain ⟨f0, f1, f2⟩ := back3 HW5.out.r0
   go_wp2
   refine bodyPost_ret (v := .tuple #[.agg #[.int .i64 n1, .int .i64 n2, .int .i64 n3], .bool true]) (by simp [results, Tryz.results105, go_sem, f0, f1, f2]) rfl ⟨by rw [HR.out]; rfl, ?_⟩
   repeat (refine Up.setCell ?_ (by simp <;> omega) _)
   exact HW5.out.up
 ·by_cases h2 : 0 < T
  ·have HR : Hid (R = some ((n4, n5), n6)) := by rw [HE.out, if_neg h1, if_pos h2]; exact rfl
   go_wp2_with fail
   go_region_with (first
    | (go_at_call 107; refine (HA2.out _).mono ?_; rintro e w4 ⟨rfl, u4⟩; have HW4 := hide (HW.out.keep ((Up.refl _).drew.trans u4)); clear u4; clear t0 t1 t2 t3 m0 m1 m2 r0 r1 r2 rz; have m0 := HW4.out.m0.cell (i := 0) rfl; have m1 := HW4.out.m0.cell (i := 1) rfl; have m2 := HW4.out.m0.cell (i := 2) rfl)
    | (go_at_call 134; refine (HB.out _).mono ?_; rintro e w6 ⟨rfl, u6⟩; have HW6 := hide (HW4.out.keep u6); clear u6 m0 m1 m2; have m0 := HW6.out.m0.cell (i := 0) rfl; have m1 := HW6.out.m0.cell (i := 1) rfl; have m2 := HW6.out.m0.cell (i := 2) rfl)
    | (go_at_call 106; refine (HN2.out _ HW6.out.up).mono ?_; rintro e w5 ⟨rfl, u5⟩; have HW5 := hide (HW6.out.keep u5); clear u5 m0 m1 m2; have r0 := HW5.out.r0.cell (i := 0) rfl; have r1 := HW5.out.r0.cell (i := 1) rfl; have r2 := HW5.out.r0.cell (i := 2) rfl; have rz := fun i => HW5.out.r0.frozen i))
   all_goals
    obtain ⟨f0, f1, f2⟩ := back3 HW5.out.r0
    go_wp2
    refine bodyPost_ret (v := .tuple #[.agg #[.int .i64 n4, .int .i64 n5, .int .i64 n6], .bool true]) (by simp [results, Tryz.results105, go_sem, f0, f1, f2]) rfl ⟨by rw [HR.out]; rfl, ?_⟩
    repeat (refine Up.setCell ?_ (by simp <;> omega) _)
    exact HW5.out.up
  ·have HR : Hid (R = none) := by rw [HE.out, if_neg h1, if_neg h2]; exact rfl
   obtain ⟨f0, f1, f2⟩ := back3 HW.out.r0
   go_wp2
   refine bodyPost_ret (v := .tuple #[.agg #[.int .i64 0, .int .i64 0, .int .i64 0], .bool false]) (by simp [results, Tryz.results105, go_sem, f0, f1, f2]) rfl ⟨by rw [HR.out]; rfl, ?_⟩
   repeat (refine Up.setCell ?_ (by simp <;> omega) _)
   exact HW.out.up
end Go.Proofs.YtcclepohmhdpbabGreatDoor
