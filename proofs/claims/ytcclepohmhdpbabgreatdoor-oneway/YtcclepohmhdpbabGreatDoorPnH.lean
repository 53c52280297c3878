import Derived.Test.YtcclepohmhdpbabGreatDoorPnF
namespace Go.Proofs.YtcclepohmhdpbabGreatDoor
set_option linter.all false
open Go.RowKit Go.Deep
theorem before_true {p q : Pnt} (h : Vd.bef p q) (w : World) : Calls Tryz.prog 128 #[ptV p, ptV q] w fun e w' => e = .returned (.bool true) ∧ Up w w' := by
 have := before_any p q w; rwa [decide_eq_true h] at this
theorem before_false {p q : Pnt} (h : ¬ Vd.bef p q) (w : World) : Calls Tryz.prog 128 #[ptV p, ptV q] w fun e w' => e = .returned (.bool false) ∧ Up w w' := by
 have := before_any p q w; rwa [decide_eq_false h] at this
theorem has_is {s : Vd.Seg} {p : Vd.Spot} {b : Bool} (h : Vd.hasB s p = b) (hs : Vd.CdS s) (hp : Vd.Sp p) (w : World) : Calls Tryz.prog 104 #[segV s, spotV p] w fun e w' => e = .returned (.bool b) ∧ Up w w' := by
 have := has_any s p hs hp w; rwa [h] at this
structure NC (w wr : World) (s : Vd.Seg) (f tu : Pnt) : Prop where
 up : Up w wr
 s0 : VRow wr w.heap.size 98 [.int .i64 s.1.1, .int .i64 s.1.2, .int .i64 s.2.1, .int .i64 s.2.2]
 f0 : VRow wr (w.heap.size + 1) 48 [.int .i64 f.1, .int .i64 f.2]
 r0 : VRow wr (w.heap.size + 2) 48 [.int .i64 0, .int .i64 0]
 t0 : VRow wr (w.heap.size + 3) 48 [.int .i64 tu.1, .int .i64 tu.2]
theorem NC.keep {w wr w2 : World} {s : Vd.Seg} {f tu : Pnt} (h : NC w wr s f tu) (k : Up wr w2) : NC w w2 s f tu :=
 ⟨h.up.trans k, h.s0.up k, h.f0.up k, h.r0.up k, h.t0.up k⟩
theorem NC.set {w wr : World} {s : Vd.Seg} {f tu : Pnt} (h : NC w wr s f tu) (p : Pnt) : NC w ((wr.setCell ⟨w.heap.size + 3, 0, none⟩ (.int .i64 p.1)).setCell ⟨w.heap.size + 3, 1, none⟩ (.int .i64 p.2)) s f p :=
  ⟨(h.up.setCell (by show w.heap.size ≤ w.heap.size + 3; omega) _).setCell (by show w.heap.size ≤ w.heap.size + 3; omega) _, (h.s0.setOther (by show w.heap.size ≠ w.heap.size + 3; omega) _).setOther (by show w.heap.size ≠ w.heap.size + 3; omega) _,
    (h.f0.setOther (by show w.heap.size + 1 ≠ w.heap.size + 3; omega) _).setOther (by show w.heap.size + 1 ≠ w.heap.size + 3; omega) _, (h.r0.setOther (by show w.heap.size + 2 ≠ w.heap.size + 3; omega) _).setOther (by show w.heap.size + 2 ≠ w.heap.size + 3; omega) _, row_set2 h.t0 _ _⟩
theorem NC.start (w : World) (ax ay bx bY fx fy : Int) : NC w ((((w.alloc (.cells #[.int .i64 ax, .int .i64 ay, .int .i64 bx, .int .i64 bY] 98)).alloc (.cells #[.int .i64 fx, .int .i64 fy] 48)).alloc (.cells #[.int .i64 0, .int .i64 0] 48)).alloc (.cells #[.int .i64 bx, .int .i64 bY] 48)) ((ax, ay), (bx, bY)) (fx, fy) (bx, bY) := by
 refine ⟨((((Up.refl _).alloc _).alloc _).alloc _).alloc _, ?_, ?_, ?_, ?_⟩
 ·exact (((new_row (vs := [_, _, _, _]) rfl).alloc _).alloc _).alloc _
 ·have := ((new_row (w := w.alloc (.cells #[.int .i64 ax, .int .i64 ay, .int .i64 bx, .int .i64 bY] 98)) (o := .cells #[.int .i64 fx, .int .i64 fy] 48) (vs := [_, _]) rfl).alloc (.cells #[.int .i64 0, .int .i64 0] 48)).alloc (.cells #[.int .i64 bx, .int .i64 bY] 48)
  simpa using this
 ·have := (new_row (w := (w.alloc (.cells #[.int .i64 ax, .int .i64 ay, .int .i64 bx, .int .i64 bY] 98)).alloc (.cells #[.int .i64 fx, .int .i64 fy] 48)) (o := .cells #[.int .i64 0, .int .i64 0] 48) (vs := [_, _]) rfl).alloc (.cells #[.int .i64 bx, .int .i64 bY] 48)
  simpa using this
 ·have := (new_row (w := ((w.alloc (.cells #[.int .i64 ax, .int .i64 ay, .int .i64 bx, .int .i64 bY] 98)).alloc (.cells #[.int .i64 fx, .int .i64 fy] 48)).alloc (.cells #[.int .i64 0, .int .i64 0] 48)) (o := .cells #[.int .i64 bx, .int .i64 bY] 48) (vs := [_, _]) rfl)
  simpa using this
theorem cutF_pos {s : Vd.Seg} {f tu p : Pnt} (h1 : Vd.bef f p) (h2 : Vd.bef p tu) (h3 : Vd.hasB s (Vd.at1 p) = true) : Vd.cutF s f tu p = p := if_pos ⟨h1, h2, of_decide_eq_true h3⟩
theorem cutF_neg {s : Vd.Seg} {f tu p : Pnt} (h : ¬ (Vd.bef f p ∧ Vd.bef p tu ∧ Vd.hasB s (Vd.at1 p) = true)) : Vd.cutF s f tu p = tu := if_neg fun k => h ⟨k.1, k.2.1, decide_eq_true k.2.2⟩
theorem fold_snoc {s : Vd.Seg} {f t0 : Pnt} {l : List Pnt} {p : Pnt} : (l ++ [p]).foldl (Vd.cutF s f) t0 = Vd.cutF s f (l.foldl (Vd.cutF s f) t0) p := by rw [List.foldl_append]; rfl
theorem flat_take {rings : Poly} {k : Nat} {r : Ring} (h : rings[k]? = some r) : (rings.take (k + 1)).flatten = (rings.take k).flatten ++ r := by rw [Pl.take_one h, List.flatten_append]; simp
set_option maxHeartbeats 8000000 in
theorem nextCut_any (s : Vd.Seg) (f : Pnt) (v : Value) (rings : Poly) (w : World) (hs : Vd.CdS s) (hv : Rd2 w v rings) (hl : rings.length ≤ 1048576) (hl2 : ∀ r ∈ rings, r.length ≤ 1048576) (hc : Vd.CdL rings) :
  Calls Tryz.prog 102 #[segV s, ptV f, v] w fun e w' => e = .returned (ptV (Vd.nextCut s f rings)) ∧ Up w w' := by
 obtain ⟨⟨ax, ay⟩, ⟨bx, bY⟩⟩ := s
 obtain ⟨fx, fy⟩ := f
 have HS := hide hs
 have HC := hide hc
 have HL := hide hl2
 obtain ⟨ao, cap, rfl, hm⟩ := hv
 have HM := hide hm
 have HN := hide (NC.start w ax ay bx bY fx fy)
 clear hs hc hl2 hm
 simp only [segV, ptV]
 go_enter Tryz.func102, Tryz.ntmps102
 go_wp2_with fail
 go_loopw [16] (fun i wr => ∃ (k : Nat) (tu : Pnt), i = .int .i64 k ∧ k ≤ rings.length ∧ Hid (NC w wr ((ax, ay), (bx, bY)) (fx, fy) tu) ∧ Hid (tu = (rings.take k).flatten.foldl (Vd.cutF ((ax, ay), (bx, bY)) (fx, fy)) (bx, bY))) (fun i _ => rings.length - (intOf i).toNat)
 case atStart => exact ⟨0, (bx, bY), rfl, Nat.zero_le _, HN, rfl⟩
 case round =>
  obtain ⟨k, tu, rfl, hk, HK, HT⟩ := hrel
  by_cases hlt : k < rings.length
  ·obtain ⟨r, hr⟩ := Pl.some_of_lt hlt
   obtain ⟨b, u, rfl, cu, hu⟩ := HM.out k r hr
   obtain ⟨ao2, cap2, rfl, hp⟩ := hu
   have HP := hide hp
   have cu2 := HK.out.up.cell cu
   have hrl := HL.out r (Pl.mem_of_some hr)
   have HCR := hide (HC.out r (Pl.mem_of_some hr))
   have HF := hide (flat_take hr)
   clear hr cu hp
   go_wp2_with fail
   go_loopw [22] (fun i wr => ∃ (q : Nat) (tu : Pnt), i = .int .i64 q ∧ q ≤ r.length ∧ Hid (NC w wr ((ax, ay), (bx, bY)) (fx, fy) tu) ∧ Hid (tu = ((rings.take k).flatten ++ r.take q).foldl (Vd.cutF ((ax, ay), (bx, bY)) (fx, fy)) (bx, bY))) (fun i _ => r.length - (intOf i).toNat)
   case atStart => exact ⟨0, tu, rfl, Nat.zero_le _, HK, by rw [List.take_zero, List.append_nil]; exact HT⟩
   case round =>
    clear HK HT cu2
    obtain ⟨q, ⟨tx, ty⟩, rfl, hq, HK, HT⟩ := hrel
    by_cases hlq : q < r.length
    ·obtain ⟨⟨px, py⟩, hxy⟩ := Pl.some_of_lt hlq
     obtain ⟨b2, rfl, cx, cy⟩ := HP.out q (px, py) hxy
     have cx' := HK.out.up.cell cx
     have cy' := HK.out.up.cell cy
     dsimp only at cx' cy'
     have HCP := hide (HCR.out _ (Pl.mem_of_some hxy))
     have HX : Hid ((((rings.take k).flatten ++ r.take (q + 1)).foldl (Vd.cutF ((ax, ay), (bx, bY)) (fx, fy)) (bx, bY)) = Vd.cutF ((ax, ay), (bx, bY)) (fx, fy) (tx, ty) (px, py)) := by
      rw [Pl.take_one hxy, ← List.append_assoc, fold_snoc, ← HT.out]; exact rfl
     clear hxy cx cy HT
     go_upto_region 8 with fail
     have HW := hide (HK.out.keep ((Up.refl wr).alloc (.cells #[.int .i64 px, .int .i64 py] 48)))
     have RP := hide (new_row (w := wr) (o := .cells #[.int .i64 px, .int .i64 py] 48) (vs := [.int .i64 px, .int .i64 py]) rfl)
     generalize wr.alloc (.cells #[.int .i64 px, .int .i64 py] 48) = W at *
     have s0 := HW.out.s0.gr (i := 0) rfl
     have s1 := HW.out.s0.gr (i := 1) rfl
     have s2 := HW.out.s0.gr (i := 2) rfl
     have s3 := HW.out.s0.gr (i := 3) rfl
     have f0 := HW.out.f0.gr (i := 0) rfl
     have f1 := HW.out.f0.gr (i := 1) rfl
     have t0 := HW.out.t0.gr (i := 0) rfl
     have t1 := HW.out.t0.gr (i := 1) rfl
     have p0 := RP.out.gr (i := 0) rfl
     have p1 := RP.out.gr (i := 1) rfl
     clear cx' cy'
     by_cases h1 : Vd.bef (fx, fy) (px, py)
     ·by_cases h2 : Vd.bef (px, py) (tx, ty)
      ·cases h3 : Vd.hasB ((ax, ay), (bx, bY)) (Vd.at1 (px, py))
       ·skip
        have D1 := hide h1
        have D2 := hide h2
        have D3 := hide h3
        have HY := hide (HX.out.trans (cutF_neg (fun x => by rw [h3] at x; exact absurd x.2.2 (by simp))))
        clear h1 h2 h3
        refine wp_region_up (by kernel_rfl) (by kernel_rfl) ?_
        repeat (first | go_big_quiet_step ((first | (go_at_call_of 128 (Value.agg #[.int .i64 fx, .int .i64 fy]); exact Calls.up_of (before_true D1.out _)) | (go_at_call 128; exact Calls.up_of (before_true D2.out _)) | (go_at_call 127; exact Calls.up_of (at_any (px, py) _)) | (go_at_call 104; exact Calls.up_of (has_is D3.out HS.out (Vd.at1_sp HCP.out) _)))))
        refine wpQuiet_nil ?_
        rintro _ ⟨⟨w2, u2⟩, rfl⟩
        have HK2 := hide (HW.out.keep u2)
        clear u2 s0 s1 s2 s3 f0 f1 t0 t1 p0 p1
        go_wp2
        go_roundw
        case rel => exact ⟨q + 1, (tx, ty), by go_num, by omega, HK2, HY.out.symm⟩
        case measure => simp [intOf]; omega
       ·skip
        have D1 := hide h1
        have D2 := hide h2
        have D3 := hide h3
        have HY := hide (HX.out.trans (cutF_pos h1 h2 h3))
        clear h1 h2 h3
        refine wp_region_up (by kernel_rfl) (by kernel_rfl) ?_
        repeat (first | go_big_quiet_step ((first | (go_at_call_of 128 (Value.agg #[.int .i64 fx, .int .i64 fy]); exact Calls.up_of (before_true D1.out _)) | (go_at_call 128; exact Calls.up_of (before_true D2.out _)) | (go_at_call 127; exact Calls.up_of (at_any (px, py) _)) | (go_at_call 104; exact Calls.up_of (has_is D3.out HS.out (Vd.at1_sp HCP.out) _)))))
        refine wpQuiet_nil ?_
        rintro _ ⟨⟨w2, u2⟩, rfl⟩
        have HK2 := hide (HW.out.keep u2)
        have RP2 := RP.out.up u2
        have q0 := RP2.cell (i := 0) rfl
        have q1 := RP2.cell (i := 1) rfl
        have r0 := HK2.out.t0.cell (i := 0) rfl
        have r1 := HK2.out.t0.cell (i := 1) rfl
        have rf := fun i => HK2.out.t0.frozen i
        clear RP2
        clear u2 s0 s1 s2 s3 f0 f1 t0 t1 p0 p1
        go_wp2
        go_roundw
        case rel => exact ⟨q + 1, (px, py), by go_num, by omega, HK2.out.set (px, py), HY.out.symm⟩
        case measure => simp [intOf]; omega
      ·skip
       have D1 := hide h1
       have D2 := hide h2
       have HY := hide (HX.out.trans (cutF_neg (fun x => h2 x.2.1)))
       clear h1 h2
       refine wp_region_up (by kernel_rfl) (by kernel_rfl) ?_
       repeat (first | go_big_quiet_step ((first | (go_at_call_of 128 (Value.agg #[.int .i64 fx, .int .i64 fy]); exact Calls.up_of (before_true D1.out _)) | (go_at_call 128; exact Calls.up_of (before_false D2.out _)))))
       refine wpQuiet_nil ?_
       rintro _ ⟨⟨w2, u2⟩, rfl⟩
       have HK2 := hide (HW.out.keep u2)
       clear u2 s0 s1 s2 s3 f0 f1 t0 t1 p0 p1
       go_wp2
       go_roundw
       case rel => exact ⟨q + 1, (tx, ty), by go_num, by omega, HK2, HY.out.symm⟩
       case measure => simp [intOf]; omega
     ·skip
      have D1 := hide h1
      have HY := hide (HX.out.trans (cutF_neg (fun x => h1 x.1)))
      clear h1
      refine wp_region_up (by kernel_rfl) (by kernel_rfl) ?_
      repeat (first | go_big_quiet_step ((first | (go_at_call_of 128 (Value.agg #[.int .i64 fx, .int .i64 fy]); exact Calls.up_of (before_false D1.out _)))))
      refine wpQuiet_nil ?_
      rintro _ ⟨⟨w2, u2⟩, rfl⟩
      have HK2 := hide (HW.out.keep u2)
      clear u2 s0 s1 s2 s3 f0 f1 t0 t1 p0 p1
      go_wp2
      go_roundw
      case rel => exact ⟨q + 1, (tx, ty), by go_num, by omega, HK2, HY.out.symm⟩
      case measure => simp [intOf]; omega
    ·have hq2 : q = r.length := by omega
     subst hq2
     rw [List.take_length] at HT
     go_wp2
     go_roundw
     case rel => exact ⟨k + 1, (tx, ty), by go_num, by omega, HK, by rw [HF.out]; exact HT⟩
     case measure => simp [intOf]; omega
  ·have hk2 : k = rings.length := by omega
   subst hk2
   rw [List.take_length] at HT
   obtain ⟨tx, ty⟩ := tu
   have r0 := HK.out.t0.cell (i := 0) rfl
   have r1 := HK.out.t0.cell (i := 1) rfl
   have q0 := HK.out.r0.cell (i := 0) rfl
   have q1 := HK.out.r0.cell (i := 1) rfl
   have qf := fun i => HK.out.r0.frozen i
   go_wp2
   refine ret_cell Tryz.results102 rfl rfl (load_pnt (row_set2 HK.out.r0 _ _)) ⟨?_, (HK.out.up.setCell (by show w.heap.size ≤ w.heap.size + 2; omega) _).setCell (by show w.heap.size ≤ w.heap.size + 2; omega) _⟩
   show Ending.returned (ptV (tx, ty)) = _
   rw [HT.out]
   rfl
end Go.Proofs.YtcclepohmhdpbabGreatDoor
